/-
  Contracts of the package wrap: price.
-/
import Derived.Test.YtjkkinccehfmoaaWca
import Derived.Test.YtjkkinccehfmoaaWcb
import Derived.Test.YtjkkinccehfmoaaFixd
namespace Go.Proofs.Ytjkkinccehfmoaa
open Go.RowKit Go.Lib Go.Maps

def pcV : Option Int → Value
  | none => .tuple #[.int .i64 0, .bool false]
  | some p => .tuple #[.int .i64 p, .bool true]
set_option maxRecDepth 100000 in
set_option maxHeartbeats 4000000 in
theorem price_any (m : Me) (wd : Int) (e : Bool × Int) (W : World) (hm : meB m) (h1 : -1152921504606846976 ≤ wd) (h2 : wd ≤ 1152921504606846976) :
    Calls Try.prog 25 #[meV m, .int .i64 wd, stV e] W fun r w' => r = .returned (pcV (prcM m wd e)) ∧ Keeps W w' := by
  obtain ⟨⟨m1, m2⟩, ⟨m3, m4⟩, m5, m6⟩ := hm
  obtain ⟨mw, mg, ms⟩ := m
  obtain ⟨mu, c⟩ := e
  simp only at *
  have B1 := Lib.hid (fun w1 => badness_any (mw - wd) ms w1 (by omega) (by omega) (by omega))
  have B2 := Lib.hid (fun w1 => badness_any (wd - mw) mg w1 (by omega) (by omega) (by omega))
  have D := Lib.hid (fun b w1 => demerits_any b c w1)
  have R : prcM ⟨mw, mg, ms⟩ wd (mu, c) = if wd < mw then (if wd < mw - ms then none else some (dem (bad (mw - wd) ms) c)) else if mu = true then some (dem 0 c) else some (dem (bad (wd - mw) mg) c) := rfl
  unfold meV stV
  simp only
  rw [R]
  clear R
  by_cases c1 : wd < mw
  · rw [if_pos c1]
    by_cases c2 : wd < mw - ms
    · rw [if_pos c2]
      unfold pcV
      go_enter Try.func25, Try.ntmps25
      go_wp2_with fail
      go_ret2
      exact ⟨rfl, keeps_two _ _ _⟩
    · rw [if_neg c2]
      unfold pcV
      generalize bad (mw - wd) ms = bb at *
      go_enter Try.func25, Try.ntmps25
      go_wp2_with fail
      refine (B1.out _).mono ?_
      rintro e w1 ⟨rfl, k1⟩
      have K0 := (keeps_two W (.cells #[.int .i64 mw, .int .i64 mg, .int .i64 ms] 47) (.cells #[.bool mu, .int .i64 c] 61)).trans k1
      have bst := (blk_two W (.cells #[.int .i64 mw, .int .i64 mg, .int .i64 ms] 47) 61 #[.bool mu, .int .i64 c]).keep k1
      have s0 := bst.cell 0 (v := .bool mu) rfl
      have s1 := bst.cell 1 (v := .int .i64 c) rfl
      go_wp2_with fail
      refine (D.out _ _).mono ?_
      rintro e w2 ⟨rfl, rfl⟩
      go_wp2_with fail
      go_ret2
      exact ⟨rfl, K0⟩
  · rw [if_neg c1]
    cases mu with
    | true =>
      rw [if_pos rfl]
      unfold pcV
      go_enter Try.func25, Try.ntmps25
      go_wp2_with fail
      refine (D.out _ _).mono ?_
      rintro e w2 ⟨rfl, rfl⟩
      go_wp2_with fail
      go_ret2
      exact ⟨rfl, keeps_two _ _ _⟩
    | false =>
      rw [if_neg (by decide)]
      unfold pcV
      generalize bad (wd - mw) mg = bb at *
      go_enter Try.func25, Try.ntmps25
      go_wp2_with fail
      refine (B2.out _).mono ?_
      rintro e w1 ⟨rfl, k1⟩
      have K0 := (keeps_two W (.cells #[.int .i64 mw, .int .i64 mg, .int .i64 ms] 47) (.cells #[.bool false, .int .i64 c] 61)).trans k1
      have bst := (blk_two W (.cells #[.int .i64 mw, .int .i64 mg, .int .i64 ms] 47) 61 #[.bool false, .int .i64 c]).keep k1
      have s0 := bst.cell 0 (v := .bool false) rfl
      have s1 := bst.cell 1 (v := .int .i64 c) rfl
      go_wp2_with fail
      refine (D.out _ _).mono ?_
      rintro e w2 ⟨rfl, rfl⟩
      go_wp2_with fail
      go_ret2
      exact ⟨rfl, K0⟩
end Go.Proofs.Ytjkkinccehfmoaa

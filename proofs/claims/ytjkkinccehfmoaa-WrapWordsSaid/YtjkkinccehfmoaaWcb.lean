/-
  Contracts of the package wrap: must, Legal, stopAt.
-/
import Derived.Test.YtjkkinccehfmoaaWpb
import Derived.Test.YtjkkinccehfmoaaIsat
import Derived.Test.YtjkkinccehfmoaaHld
import Derived.Test.YtjkkinccehfmoaaBeq
namespace Go.Proofs.Ytjkkinccehfmoaa
open Go.RowKit Go.Lib Go.Maps

set_option maxRecDepth 100000 in
set_option maxHeartbeats 4000000 in
theorem must_any (l : List It) (lv : Value) (i : Nat) (W : World) (hA : IsAt W l lv) (hi : i ≤ l.length) (hl : l.length ≤ 1000) :
    Calls Try.prog 23 #[lv, .int .i64 i] W fun e w' => e = .returned (.bool (mustP l i)) ∧ W = w' := by
  obtain ⟨A, cap, rfl, h1, h2, h3⟩ := hA
  unfold maxLen at h2
  by_cases e : i = l.length
  · have R := Lib.hid (must_end l)
    clear h3 hi
    subst e
    generalize mustP l l.length = b at *
    generalize l.length = n at *
    go_enter Try.func23, Try.ntmps23
    go_wp2_with fail
    go_ret
    exact ⟨ret_bool R.out.symm, rfl⟩
  · have hlt : i < l.length := by omega
    obtain ⟨g, o, rfl, hc⟩ := h3 (by omega)
    have hr := hc i hlt
    have y0 : W.cell? ⟨g, o + i * 9, none⟩ = some (.int .i64 l[i].kind) := hr 0 _ rfl
    have y4 : W.cell? ⟨g, o + i * 9 + 4, none⟩ = some (.int .i64 l[i].cost) := hr 4 _ rfl
    by_cases hk : l[i].kind = 3
    · have R := Lib.hid (must_pen hlt hk)
      rw [hk] at y0
      generalize mustP l i = b at *
      generalize l[i].cost = c at *
      clear h3 hk hr hc
      generalize l.length = n at *
      have t : ((i : Int) == (n : Int)) = false := beqF (by omega)
      go_enter Try.func23, Try.ntmps23
      go_wp2_with fail
      go_ret
      exact ⟨ret_bool R.out.symm, rfl⟩
    · have R := Lib.hid (must_else hlt hk)
      have tk : (l[i].kind == 3) = false := beqF hk
      generalize mustP l i = b at *
      generalize l[i].kind = k at *
      generalize l[i].cost = c at *
      clear h3 hr hc hk
      generalize l.length = n at *
      have t : ((i : Int) == (n : Int)) = false := beqF (by omega)
      go_enter Try.func23, Try.ntmps23
      go_wp2_with fail
      go_ret
      exact ⟨ret_bool R.out.symm, rfl⟩
set_option maxRecDepth 100000 in
set_option maxHeartbeats 4000000 in
theorem legal_any (l : List It) (lv : Value) (i : Nat) (W : World) (hA : IsAt W l lv) (hi : i ≤ l.length) (hl : l.length ≤ 1000) :
    Calls Try.prog 9 #[lv, .int .i64 i] W fun e w' => e = .returned (.bool (legP l i)) ∧ W = w' := by
  obtain ⟨A, cap, rfl, h1, h2, h3⟩ := hA
  unfold maxLen at h2
  by_cases e : i = l.length
  · have R := Lib.hid (leg_end l)
    clear h3 hi
    subst e
    generalize legP l l.length = b at *
    generalize l.length = n at *
    have t0 : decide ((n : Int) < 0) = false := decide_eq_false (by omega)
    have t1 : decide ((n : Int) ≤ (n : Int)) = true := decide_eq_true (by omega)
    go_enter Try.func9, Try.ntmps9
    go_wp2_with fail
    go_ret
    exact ⟨ret_bool R.out.symm, rfl⟩
  · have hlt : i < l.length := by omega
    obtain ⟨g, o, rfl, hc⟩ := h3 (by omega)
    have y0 : W.cell? ⟨g, o + i * 9, none⟩ = some (.int .i64 l[i].kind) := hc i hlt 0 _ rfl
    have y4 : W.cell? ⟨g, o + i * 9 + 4, none⟩ = some (.int .i64 l[i].cost) := hc i hlt 4 _ rfl
    have t0 : decide ((i : Int) < 0) = false := decide_eq_false (by omega)
    have t1 : decide ((l.length : Int) ≤ (i : Int)) = false := decide_eq_false (by omega)
    by_cases h2k : l[i].kind = 2
    · cases i with
      | zero =>
        have R := Lib.hid (leg_zero hlt h2k)
        rw [h2k] at y0
        generalize legP l 0 = b at *
        generalize l[0].cost = c at *
        clear h3 hc h2k
        generalize l.length = n at *
        have y0' : W.cell? ⟨g, o, none⟩ = some (.int .i64 2) := by simpa using y0
        have z1 : ((0 : Nat) : Int) = 0 := rfl
        rw [z1] at *
        have hn0 : (0 : Int) < (n : Int) := by omega
        go_enter Try.func9, Try.ntmps9
        go_wp2_with fail
        go_ret
        exact ⟨ret_bool R.out.symm, rfl⟩
      | succ j =>
        have R := Lib.hid (leg_glue hlt h2k)
        have yj : W.cell? ⟨g, o + j * 9, none⟩ = some (.int .i64 l[j].kind) := hc j (by omega) 0 _ rfl
        rw [h2k] at y0
        generalize legP l (j + 1) = b at *
        generalize l[j + 1].cost = c at *
        generalize l[j].kind = k at *
        clear h3 hc h2k
        generalize l.length = n at *
        have t2 : decide ((0 : Int) < ((j + 1 : Nat) : Int)) = true := decide_eq_true (by omega)
        have hw : IntKind.i64.wrap (((j + 1 : Nat) : Int) - 1) = (j : Int) := by rw [IntWalk.i64_in _ (by omega)]; omega
        have j0 : (0 : Int) ≤ (j : Int) := by omega
        have j1 : (j : Int) < (n : Int) := by omega
        go_enter Try.func9, Try.ntmps9
        go_wp2_with fail
        go_ret
        exact ⟨ret_bool R.out.symm, rfl⟩
    · by_cases h3k : l[i].kind = 3
      · have R := Lib.hid (leg_pen hlt h3k)
        rw [h3k] at y0
        generalize legP l i = b at *
        generalize l[i].cost = c at *
        clear h3 hc h2k h3k
        generalize l.length = n at *
        go_enter Try.func9, Try.ntmps9
        go_wp2_with fail
        go_ret
        exact ⟨ret_bool R.out.symm, rfl⟩
      · have R := Lib.hid (leg_else hlt h2k h3k)
        have t2 : (l[i].kind == 2) = false := beqF h2k
        have t3 : (l[i].kind == 3) = false := beqF h3k
        generalize legP l i = b at *
        generalize l[i].cost = c at *
        generalize l[i].kind = k at *
        clear h3 hc
        generalize l.length = n at *
        go_enter Try.func9, Try.ntmps9
        go_wp2_with fail
        go_ret
        exact ⟨ret_bool R.out.symm, rfl⟩
def stV (e : Bool × Int) : Value := .agg #[.bool e.1, .int .i64 e.2]
set_option maxRecDepth 100000 in
set_option maxHeartbeats 4000000 in
theorem stop_any (l : List It) (lv : Value) (i : Nat) (W : World) (hA : IsAt W l lv) (hi : i ≤ l.length) (hl : l.length ≤ 1000) :
    Calls Try.prog 26 #[lv, .int .i64 i] W fun e w' => e = .returned (stV (stp l i)) ∧ Keeps W w' := by
  have MU := Lib.hid (fun W1 (k : Keeps W W1) => must_any l lv i W1 (hA.keep k) hi hl)
  obtain ⟨A, cap, rfl, h1, h2, h3⟩ := hA
  unfold maxLen at h2
  have K0 := (Keeps.refl W).alloc (.cells #[.bool false, .int .i64 0] 61)
  cases hm : mustP l i with
  | true =>
    rw [stp_must hm]
    rw [hm] at MU
    clear h3
    generalize l.length = n at *
    unfold stV
    go_enter Try.func26, Try.ntmps26
    go_wp2_with fail
    refine (MU.out _ K0).mono ?_
    rintro e w1 ⟨rfl, rfl⟩
    go_wp2_with fail
    exact ret_blk rfl rfl rfl (Blk.new _ _ _) Try.underlying61 (by kernel_rfl) ⟨rfl, (Keeps.refl W).alloc _⟩
  | false =>
    have hlt : i < l.length := by
      rcases Nat.lt_or_ge i l.length with h | h
      · exact h
      · rw [show i = l.length by omega, must_end] at hm; cases hm
    obtain ⟨g, o, rfl, hc⟩ := h3 (by omega)
    have y0 : W.cell? ⟨g, o + i * 9, none⟩ = some (.int .i64 l[i].kind) := hc i hlt 0 _ rfl
    have y4 : W.cell? ⟨g, o + i * 9 + 4, none⟩ = some (.int .i64 l[i].cost) := hc i hlt 4 _ rfl
    have lt := World.block_lt_of_cell? W _ y0
    rw [hm] at MU
    by_cases hk : l[i].kind = 3
    · rw [stp_pen hm hlt hk]
      rw [hk] at y0
      generalize l[i].cost = c at *
      clear h3 hc hm hk
      generalize l.length = n at *
      unfold stV
      simp only at lt ⊢
      go_enter Try.func26, Try.ntmps26
      go_wp2_with fail
      refine (MU.out _ K0).mono ?_
      rintro e w1 ⟨rfl, rfl⟩
      go_wp2_with fail
      exact ret_blk rfl rfl rfl (Blk.new _ _ _) Try.underlying61 (by kernel_rfl) ⟨rfl, (Keeps.refl W).alloc _⟩
    · rw [stp_else hm hlt hk]
      have t3 : (l[i].kind == 3) = false := beqF hk
      generalize l[i].cost = c at *
      generalize l[i].kind = k at *
      clear h3 hc hm
      generalize l.length = n at *
      unfold stV
      simp only at lt ⊢
      go_enter Try.func26, Try.ntmps26
      go_wp2_with fail
      refine (MU.out _ K0).mono ?_
      rintro e w1 ⟨rfl, rfl⟩
      go_wp2_with fail
      exact ret_blk rfl rfl rfl (Blk.new _ _ _) Try.underlying61 (by kernel_rfl) ⟨rfl, (Keeps.refl W).alloc _⟩
end Go.Proofs.Ytjkkinccehfmoaa

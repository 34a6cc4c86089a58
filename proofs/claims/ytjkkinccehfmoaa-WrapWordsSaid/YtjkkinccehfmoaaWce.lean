/-
  Contracts of the package wrap: Sum, Price.
-/
import Derived.Test.YtjkkinccehfmoaaWcd
import Derived.Test.YtjkkinccehfmoaaCls
namespace Go.Proofs.Ytjkkinccehfmoaa
open Go.RowKit Go.Lib Go.Maps

theorem ret_three {a b c d e f : Int} (h : a = b) (k : c = d) (j : e = f) : Ending.returned (.tuple #[.int .i64 a, .int .i64 c, .int .i64 e]) = .returned (.tuple #[.int .i64 b, .int .i64 d, .int .i64 f]) := by rw [h, k, j]
set_option maxRecDepth 100000 in
set_option maxHeartbeats 4000000 in
theorem wsum_any (l : List It) (lv : Value) (a b : Nat) (W : World) (hA : IsAt W l lv) (hab : a ≤ b) (hb : b ≤ l.length) (hl : l.length ≤ 1000) (hx : ∀ x ∈ l, itW x) :
    Calls Try.prog 10 #[lv, .int .i64 a, .int .i64 b] W fun e w' => e = .returned (.tuple #[.int .i64 (btw l a b).w, .int .i64 (btw l a b).g, .int .i64 (btw l a b).s]) ∧ Keeps W w' := by
  have MO := Lib.hid (measureOf_any l lv a b W hA hab hb hl hx)
  unfold meV at MO
  generalize btw l a b = m at *
  obtain ⟨mw, mg, ms⟩ := m
  simp only at MO ⊢
  clear hA hx
  go_enter Try.func10, Try.ntmps10
  go_wp2_with fail
  refine MO.out.mono ?_
  rintro e w1 ⟨rfl, k1⟩
  go_wp2_with fail
  go_region
  go_wp2_with fail
  go_ret3
  exact ⟨rfl, (k1.alloc _).drew⟩
set_option maxRecDepth 100000 in
set_option maxHeartbeats 4000000 in
theorem wprice_any (l : List It) (lv : Value) (a b : Nat) (wd : Int) (W : World) (hA : IsAt W l lv) (hab : a ≤ b) (hb : b ≤ l.length) (hl : l.length ≤ 1000) (hx : ∀ x ∈ l, itW x) (h1 : -1152921504606846976 ≤ wd) (h2 : wd ≤ 1152921504606846976) :
    Calls Try.prog 18 #[lv, .int .i64 a, .int .i64 b, .int .i64 wd] W fun e w' => e = .returned (pcV (canO l wd a b)) ∧ Keeps W w' := by
  have MO := Lib.hid (fun W1 (k : Keeps W W1) => measureOf_any l lv a b W1 (hA.keep k) hab hb hl hx)
  have ST := Lib.hid (fun W1 (k : Keeps W W1) => stop_any l lv b W1 (hA.keep k) hb hl)
  have hB := sub_B hx (j := b) (k := min (bxP l a) b) (by omega) (by omega)
  have PR := Lib.hid (fun W1 (k : Keeps W W1) => price_any (btw l a b) wd (stp l b) W1 hB h1 h2)
  have MU := Lib.hid (fun j (hj : j < b) => must_any l lv j W hA (by omega) hl)
  have HP : Hid (prc l wd a b = prcM (btw l a b) wd (stp l b)) := Lib.hid rfl
  obtain ⟨A, cap, rfl, c1, c2, _⟩ := hA
  unfold maxLen at c2
  obtain ⟨n, hn⟩ : ∃ n, l.length = n := ⟨_, rfl⟩
  rw [hn] at c1 hb hl MO ST MU ⊢
  unfold meV at MO PR
  unfold stV at ST PR
  rw [← HP.out] at PR
  generalize btw l a b = m at *
  generalize stp l b = st at *
  obtain ⟨mw, mg, ms⟩ := m
  obtain ⟨st1, st2⟩ := st
  simp only at MO PR ST
  have ta : max (a : Int) 0 = (a : Int) := by omega
  have d1 : decide ((b : Int) < 0) = false := decide_eq_false (by omega)
  have d2 : decide ((n : Int) < (b : Int)) = false := decide_eq_false (by omega)
  have d3 : decide (n < b) = false := decide_eq_false (by omega)
  clear hx hn hB HP
  go_enter Try.func18, Try.ntmps18
  go_wp2_with fail
  go_loop [10] (fun y => ∃ k : Nat, a ≤ k ∧ k ≤ b ∧ y = .int .i64 k ∧ Hid (∀ j, a ≤ j → j < k → mustP l j = false)) (fun y => b - (RowKit.intOf y).toNat)
  case atStart => exact ⟨a, Nat.le_refl _, hab, rfl, Lib.hid (fun j q1 q2 => by omega)⟩
  case round =>
    obtain ⟨k, hk1, hk2, rfl, HM⟩ := hrel
    by_cases c : k < b
    · have t1 : decide ((k : Int) < (b : Int)) = true := decide_eq_true (by omega)
      have MK := Lib.hid (MU.out k c)
      cases hm : mustP l k with
      | true =>
        rw [hm] at MK
        have HR : Hid (canO l wd a b = none) := Lib.hid (can_no (noM_not hk1 c hm))
        clear hm
        go_wp2_with fail
        refine MK.out.mono ?_
        rintro e w1 ⟨rfl, rfl⟩
        go_wp2_with fail
        go_ret2
        exact ⟨by rw [HR.out]; rfl, Keeps.refl _⟩
      | false =>
        rw [hm] at MK
        have HN : Hid (∀ j, a ≤ j → j < k + 1 → mustP l j = false) := Lib.hid (fun j q1 q2 => by
          by_cases e : j = k
          · rw [e]; exact hm
          · exact HM.out j q1 (by omega))
        clear hm
        go_wp2_with fail
        refine MK.out.mono ?_
        rintro e w1 ⟨rfl, rfl⟩
        go_wp2_with fail
        go_round
        case rel => exact ⟨k + 1, by omega, by omega, by go_num, HN⟩
        case measure => simp only [RowKit.intOf]; omega
    · have e : k = b := by omega
      have HR : Hid (canO l wd a b = prc l wd a b) := Lib.hid (can_yes (noM_iff.2 (by rw [← e]; exact HM.out)))
      have t1 : decide ((k : Int) < (b : Int)) = false := decide_eq_false (by omega)
      cases hp : prc l wd a b with
      | none =>
        rw [hp] at PR HR
        unfold pcV at PR
        simp only at PR
        clear hp e
        go_wp2_with fail
        refine (MO.out _ (Keeps.refl _)).mono ?_
        rintro e w1 ⟨rfl, k1⟩
        go_wp2_with fail
        refine (ST.out _ k1).mono ?_
        rintro e w2 ⟨rfl, k2⟩
        have k2 := k1.trans k2
        go_wp2_with fail
        refine (PR.out _ k2).mono ?_
        rintro e w3 ⟨rfl, k3⟩
        have h6 := k2.trans k3
        go_wp2_with fail
        go_ret2
        exact ⟨by rw [HR.out]; rfl, h6⟩
      | some p =>
        rw [hp] at PR HR
        unfold pcV at PR
        simp only at PR
        clear hp e
        go_wp2_with fail
        refine (MO.out _ (Keeps.refl _)).mono ?_
        rintro e w1 ⟨rfl, k1⟩
        go_wp2_with fail
        refine (ST.out _ k1).mono ?_
        rintro e w2 ⟨rfl, k2⟩
        have k2 := k1.trans k2
        go_wp2_with fail
        refine (PR.out _ k2).mono ?_
        rintro e w3 ⟨rfl, k3⟩
        have h6 := k2.trans k3
        go_wp2_with fail
        go_ret2
        exact ⟨by rw [HR.out]; rfl, h6⟩
end Go.Proofs.Ytjkkinccehfmoaa

/-
  Texts of the proof, one behind the other: Bkh.
-/
import Derived.Test.YtfgpephpkibbaaaGreatDoorQ32
import Derived.Test.YtfgpephpkibbaaaGreatDoorQ16
import Derived.Test.YtfgpephpkibbaaaGreatDoorQ28
import Derived.Test.YtfgpephpkibbaaaGreatDoorQ24
import Derived.Test.YtfgpephpkibbaaaGreatDoorQ8
/-
  Contracts of block's holds, isElement, withoutBlankLines.
-/
namespace Go.Proofs.YtfgpephpkibbaaaGreatDoor
open Go.RowKit Go.Lib

set_option maxRecDepth 100000 in
set_option maxHeartbeats 1000000 in
theorem bholds_any (a b : Nat) (w : World) :
    Calls Tryz.prog 94 #[.int .i64 a, .int .i64 b] w fun e w' => e = .returned (.bool (holdsB a b)) ∧ w = w' := by
  unfold holdsB
  by_cases a1 : a = 1 ∨ a = 2 ∨ a = 4
  · rw [if_pos a1]
    by_cases b4 : b = 4
    · subst b4
      rcases a1 with rfl | rfl | rfl
      all_goals
        go_enter Tryz.func94, Tryz.ntmps94
        go_wp2
        go_ret
        exact ⟨rfl, rfl⟩
    rw [decide_eq_false b4]
    have t1 := beqF (show ¬ (b : Int) = 4 by omega)
    rcases a1 with rfl | rfl | rfl
    all_goals
      go_enter Tryz.func94, Tryz.ntmps94
      go_wp2
      go_ret
      exact ⟨ret_bool (show ((b : Int) != 4) = true by rw [bne, t1]; rfl), rfl⟩
  · rw [if_neg a1]
    by_cases a3 : a = 3
    · rw [if_pos a3]
      subst a3
      by_cases b4 : b = 4
      · subst b4
        go_enter Tryz.func94, Tryz.ntmps94
        go_wp2
        go_ret
        exact ⟨rfl, rfl⟩
      rw [decide_eq_false b4]
      have t1 := beqF (show ¬ (b : Int) = 4 by omega)
      go_enter Tryz.func94, Tryz.ntmps94
      go_wp2
      go_ret
      exact ⟨rfl, rfl⟩
    · rw [if_neg a3]
      have t1 := beqF (show ¬ (a : Int) = 1 by omega)
      have t2 := beqF (show ¬ (a : Int) = 2 by omega)
      have t3 := beqF (show ¬ (a : Int) = 3 by omega)
      have t4 := beqF (show ¬ (a : Int) = 4 by omega)
      clear a1 a3
      go_enter Tryz.func94, Tryz.ntmps94
      go_wp2
      go_ret
      exact ⟨rfl, rfl⟩

set_option maxRecDepth 100000 in
set_option maxHeartbeats 1000000 in
theorem isElement_any (s : ByteArray) (w : World) (hs : s.size ≤ 100000) (hm : Mxl w) :
    Calls Tryz.prog 83 #[.string s] w fun e w' => e = .returned (.bool (elemB s.data.toList)) ∧ Keeps w w' := by
  have TG := Lib.hid (fun W h => tag_any s W hs h)
  unfold elemB
  have hle := tagN_le s.data.toList
  rw [bytes_len] at hle
  generalize hn : tagN s.data.toList = n at *
  have BL := Lib.hid (fun W => blank_any (s.extract n s.size) W)
  rw [drop_bytes] at BL
  have HM := Lib.hid hm
  clear hm hn
  generalize blankL (s.data.toList.drop n) = b at *
  by_cases h0 : n = 0
  · subst h0
    rw [decide_eq_true rfl]
    go_enter Tryz.func83, Tryz.ntmps83
    go_wp2_with fail
    refine (TG.out _ HM.out).mono ?_
    rintro e w1 ⟨rfl, rfl⟩
    go_wp2_with fail
    go_ret
    exact ⟨rfl, Keeps.refl _⟩
  · rw [decide_eq_false h0]
    have t1 : 0 < n := by omega
    clear h0
    go_enter Tryz.func83, Tryz.ntmps83
    go_wp2_with fail
    refine (TG.out _ HM.out).mono ?_
    rintro e w1 ⟨rfl, rfl⟩
    go_wp2_with fail
    refine (BL.out _).mono ?_
    rintro e w2 ⟨rfl, k2⟩
    go_wp2_with fail
    go_ret
    exact ⟨rfl, k2⟩

theorem ws_set (b : UInt8) : ([32, 9, 10] : List UInt8).contains b = ws b := by
  unfold ws isB
  have h : ∀ c : UInt8, (b == c) = decide (b.toNat = c.toNat) := fun c => by
    rw [Bool.eq_iff_iff, beq_iff_eq, decide_eq_true_eq]
    exact ⟨fun e => by rw [e], fun e => UInt8.toNat_inj.1 e⟩
  simp only [List.contains_cons, List.contains_nil, Bool.or_false, h]
  rw [Bool.or_assoc]
  rfl
theorem lfTrim_any (s : ByteArray) (w : World) (hs : s.size ≤ 100000) :
    Calls Tryz.prog 70 #[.string s, .string ⟨#[32, 9, 10]⟩] w fun e w' => e = .returned (.string ⟨((s.data.toList.reverse.dropWhile ws).reverse).toArray⟩) ∧ Keeps w w' := by
  have := Any.strings_TrimRight_laid Tryz.lays162 (by kernel_rfl) s ⟨#[32, 9, 10]⟩ w (by omega) (by decide) (fun j b h => by
    match j, h with
    | 0, h => cases h; decide
    | 1, h => cases h; decide
    | 2, h => cases h; decide)
  unfold Lib.trimRightS at this
  rw [show (fun x => (⟨#[32, 9, 10]⟩ : ByteArray).data.toList.contains x) = ws from funext ws_set] at this
  exact this
end Go.Proofs.YtfgpephpkibbaaaGreatDoor


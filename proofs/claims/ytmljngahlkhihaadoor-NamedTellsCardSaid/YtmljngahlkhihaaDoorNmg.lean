/-
  Contracts of latin, Name, of the document's answer.
-/
import Derived.Test.YtmljngahlkhihaaDoorNma
import Derived.Test.YtmljngahlkhihaaDoorBsv
namespace Go.Proofs.YtmljngahlkhihaaDoor
open Go.RowKit Go.Lib

set_option maxHeartbeats 1000000 in
set_option maxRecDepth 100000 in
theorem rlatin_any (w : World) :
    Calls Tryd.prog 17 #[] w fun e w' => e = .returned (.slice (some ⟨w.heap.size, 0, none⟩) 96 96) ∧ w' = w.alloc (.cells (strVals latinNames).toArray 9) := by
  go_enter Tryd.func17, Tryd.ntmps17
  go_wp2_with (refine wpList_buildTexts rfl 37 9 96 _ rfl latinNames Tryd.underlying37 (by kernel_rfl) (by kernel_rfl) rfl (by decide) (by decide) (by kernel_rfl) ?_)
  go_ret
  exact ⟨rfl, rfl⟩
/-- A copy of the names, of the call's own. -/
theorem latin_cell (w : World) (k : Nat) (hk : k < 96) : (w.alloc (.cells (strVals latinNames).toArray 9)).cell? ⟨w.heap.size, k, none⟩ = some (.string ⟨(latinNames.getD k []).toArray⟩) := by
  rw [World.cell?_alloc_new, List.getElem?_toArray]
  exact latin_get k hk
set_option maxHeartbeats 1000000 in
theorem rname_any (s : ByteArray) (w : World) :
    Calls Tryd.prog 9 #[.string s] w fun e w' => e = .returned (.tuple #[.int .i32 (namedL s.data.toList), .bool (!decide (namedL s.data.toList = 0))]) ∧ Keeps w w' := by
  have RL := Lib.hid (fun W => rlatin_any W)
  have LC := Lib.hid (latin_cell w)
  have KP := Lib.hid ((Keeps.refl w).alloc (.cells (strVals latinNames).toArray 9))
  go_enter Tryd.func9, Tryd.ntmps9
  go_wp2_with fail
  iterate 16
    focus
      go_ret2
      have h0 : moreL s.toList ≠ 0 := by
        simp only [moreL, moreNames, lookL, *, cond_true, cond_false]
        decide
      have h1 : namedL s.data.toList = moreL s.toList := by rw [← Lib.toList_data]; exact named_more h0
      refine ⟨?_, Keeps.refl w⟩
      rw [h1, decide_eq_false h0]
      simp only [moreL, moreNames, lookL, *, cond_true, cond_false]
      rfl
  have h0 : moreL s.data.toList = 0 := by
    rw [← Lib.toList_data]
    simp only [moreL, moreNames, lookL, *, cond_false]
  have H0 := Lib.hid h0
  clear h0
  refine (RL.out _).mono ?_
  rintro e w1 ⟨rfl, rfl⟩
  generalize w.alloc (.cells (strVals latinNames).toArray 9) = wc at *
  go_wp2_with fail
  go_loop [5] (fun i => ∃ k : Nat, k ≤ 96 ∧ Hid (∀ j, j < k → latinNames.getD j [] ≠ s.data.toList) ∧ i = .int .i64 k) (fun i => 96 - (RowKit.intOf i).toNat)
  case atStart => exact ⟨0, by omega, Lib.hid (fun j hj => absurd hj (Nat.not_lt_zero _)), rfl⟩
  case round =>
    obtain ⟨k, hk, HN, rfl⟩ := hrel
    by_cases c : k < 96
    · have hix := LC.out k c
      obtain ⟨z, hz⟩ : ∃ z : ByteArray, ⟨(latinNames.getD k []).toArray⟩ = z := ⟨_, rfl⟩
      rw [hz] at hix
      have HZE : Hid (latinNames.getD k [] = z.toList) := by
        rw [Lib.toList_data, ← hz]; exact Lib.hid rfl
      clear hz
      by_cases c1 : z.toList = s.toList
      · have t1 : (z.toList == s.toList) = true := beq_iff_eq.2 c1
        have HE := Lib.hid (named_latin c (HZE.out.trans (c1.trans (Lib.toList_data s))))
        go_wp2_with fail
        go_ret2
        exact ⟨by rw [HE.out, show decide (160 + k = 0) = false from decide_eq_false (by omega), show ((160 + k : Nat) : Int) = 160 + (k : Int) by omega]; rfl, KP.out⟩
      · have t1 : (z.toList == s.toList) = false := beq_eq_false_iff_ne.2 c1
        go_wp2_with fail
        go_round
        case rel => exact ⟨k + 1, by omega, Lib.hid (fun j hj e => by
          rcases Nat.lt_or_ge j k with h' | h'
          · exact HN.out j h' e
          · obtain rfl : j = k := by omega
            exact absurd (HZE.out.symm.trans (e.trans (Lib.toList_data s).symm)) c1), by go_num⟩
        case measure => simp [RowKit.intOf]; omega
    · have HE := Lib.hid (named_none H0.out (fun j hj e => HN.out j (by omega) e))
      go_wp2_with fail
      go_ret2
      exact ⟨by rw [HE.out]; rfl, KP.out⟩
end Go.Proofs.YtmljngahlkhihaaDoor

/-
  Contracts of New, columns, atTab, Right, of places that may be.
-/
import Derived.Test.YtcaphoonjkjlhaaDoorBas
import Derived.Test.YtcaphoonjkjlhaaDoorCur
import Derived.LoopTactic
namespace Go.Proofs.YtcaphoonjkjlhaaDoor
open Go.RowKit Go.Lib

theorem columns_any (b : UInt8) (c : Nat) (hc : c ≤ 2000000000000) (w : World) :
    Calls Tryd.prog 15 #[.int .u8 b.toNat, .int .i64 c] w fun e w' => e = .returned (.int .i64 (wideB c 0 b : Nat)) ∧ w = w' := by
  have hb := b.toNat_lt
  have HW : Hid ((wideB c 0 b : Nat) = if b.toNat = 32 then 1 else if b.toNat = 9 then 4 - c % 4 else 0) := Lib.hid (by
    unfold wideB
    rw [if_neg (by simp)]
    have e1 : (b = 32) = (b.toNat = 32) := by rw [← UInt8.toNat_inj]; rfl
    have e2 : (b = 9) = (b.toNat = 9) := by rw [← UInt8.toNat_inj]; rfl
    simp only [e1, e2])
  generalize wideB c 0 b = z at *
  generalize b.toNat = x at *
  go_enter Tryd.func15, Tryd.ntmps15
  by_cases h1 : x = 32
  · go_wp2_with fail
    go_ret
    exact ⟨ret_int (by rw [HW.out, if_pos (by omega)]; rfl), rfl⟩
  · by_cases h2 : x = 9
    · go_wp2_with fail
      go_ret
      exact ⟨ret_int (by rw [HW.out, if_neg (by omega), if_pos (by omega)]; omega), rfl⟩
    · go_wp2_with fail
      go_ret
      exact ⟨ret_int (by rw [HW.out, if_neg (by omega), if_neg (by omega)]; rfl), rfl⟩
theorem new_any (s : ByteArray) (w : World) :
    Calls Tryd.prog 7 #[.string s] w fun e w' => e = .returned (.agg #[.string s, .int .i64 0, .int .i64 0, .int .i64 0]) ∧ Keeps w w' := by
  go_enter Tryd.func7, Tryd.ntmps7
  go_wp2_with fail
  exact bodyPost_ret (v := .agg #[.string s, .int .i64 0, .int .i64 0, .int .i64 0]) (by simp [results, Tryd.results7, go_sem]) rfl ⟨rfl, (Keeps.refl w).alloc _⟩
theorem atTab_any (s : ByteArray) (k : Nat) (c f : Int) (h : k < s.size) (ht : (((s[k].toNat : Nat) : Int) == 9) = true) (w : World) :
    Calls Tryd.prog 16 #[.agg #[.string s, .int .i64 k, .int .i64 c, .int .i64 f]] w fun e w' => e = .returned (.bool true) ∧ Keeps w w' := by
  have HT := Lib.hid ht
  clear ht
  have hb := s[k].toNat_lt
  go_enter Tryd.func16, Tryd.ntmps16
  go_wp2_with fail
  go_ret
  exact ⟨ret_bool HT.out, (Keeps.refl w).alloc _⟩
/-- Of a place within the line, in a column that may be, all is as asked if a tab that was begun is there. -/
theorem right_go (s : ByteArray) (k f : Nat) (c : Int) (hk : k ≤ s.size) (h0 : 0 ≤ c) (h1 : c ≤ 1099511627776) (hf : f < 4) (ht : f ≠ 0 → ∃ h : k < s.size, (((s[k].toNat : Nat) : Int) == 9) = true) (w : World) :
    Calls Tryd.prog 10 #[.agg #[.string s, .int .i64 k, .int .i64 c, .int .i64 f]] w fun e w' => e = .returned (.bool true) ∧ Keeps w w' := by
  by_cases hz : f = 0
  · subst hz
    clear ht hf
    go_enter Tryd.func10, Tryd.ntmps10
    go_wp2_with fail
    go_ret
    exact ⟨rfl, (Keeps.refl w).alloc _⟩
  · obtain ⟨h, t⟩ := ht hz
    have AT := Lib.hid (fun W => atTab_any s k c f h t W)
    clear t ht
    have hz1 : 0 < f := by omega
    clear hz
    go_enter Tryd.func10, Tryd.ntmps10
    go_wp2_with fail
    refine (AT.out _).mono ?_
    rintro e w1 ⟨rfl, k1⟩
    go_wp2_with fail
    go_ret
    exact ⟨rfl, ((Keeps.refl w).alloc _).trans k1⟩
end Go.Proofs.YtcaphoonjkjlhaaDoor

/-
  Contract of the document's Blank.
-/
import Derived.Test.YtjfhbfnagcjdmaaGreatDoorSrcb
namespace Go.Proofs.YtjfhbfnagcjdmaaGreatDoor
open Go.RowKit Go.Lib

set_option maxHeartbeats 400000 in
theorem rblank_any (s : ByteArray) (w : World) (hs : s.size ≤ 100000) :
    Calls Tryz.prog 17 #[.string s] w fun e w' => e = .returned (.bool (blankL s.data.toList)) ∧ w = w' := by
  have hl := Lib.hid (bytes_len s)
  go_enter Tryz.func17, Tryz.ntmps17
  go_wp2
  go_loop [3] (fun i => ∃ k : Nat, k ≤ s.size ∧ blankL (s.data.toList.take k) = true ∧ i = .int .i64 k) (fun i => s.size - (intOf i).toNat)
  case atStart => exact ⟨0, Nat.zero_le _, rfl, rfl⟩
  case round =>
    obtain ⟨k, hk, hb, rfl⟩ := hrel
    have HB := Lib.hid hb
    clear hb
    by_cases c : k < s.size
    · have e1 : s.data.toList.take (k + 1) = s.data.toList.take k ++ [s[k]] := by
        rw [List.take_succ_eq_append_getElem (by have := hl.out; omega)]; rfl
      have hm : s[k] ∈ s.data.toList := by
        have : s.data.toList[k]'(by have := hl.out; omega) = s[k] := rfl
        rw [← this]; exact List.getElem_mem _
      by_cases c1 : s[k].toNat = 32
      · have t1 : ((s[k].toNat : Int) != 32) = false := by simp; omega
        have HN : Hid (blankL (s.data.toList.take (k + 1)) = true) := by
          have : blankL (s.data.toList.take (k + 1)) = true := by rw [e1, blank_snoc, HB.out]; unfold isB; rw [decide_eq_true c1]; rfl
          exact Lib.hid this
        clear e1 hm c1
        go_wp2_with fail
        go_round
        case rel => exact ⟨k + 1, c, HN.out, by go_num⟩
        case measure => simp [intOf]; omega
      · have t1 : ((s[k].toNat : Int) != 32) = true := by simp; omega
        by_cases c2 : s[k].toNat = 9
        · have t2 : ((s[k].toNat : Int) != 9) = false := by simp; omega
          have HN : Hid (blankL (s.data.toList.take (k + 1)) = true) := by
            have : blankL (s.data.toList.take (k + 1)) = true := by rw [e1, blank_snoc, HB.out]; unfold isB; rw [decide_eq_true c2, Bool.or_true]; rfl
            exact Lib.hid this
          clear e1 hm c1 c2
          go_wp2_with fail
          go_round
          case rel => exact ⟨k + 1, c, HN.out, by go_num⟩
          case measure => simp [intOf]; omega
        · have t2 : ((s[k].toNat : Int) != 9) = true := by simp; omega
          have HN : Hid (blankL s.data.toList = false) := by
            have : blankL s.data.toList = false := blank_no hm (by unfold isB; rw [decide_eq_false c1, decide_eq_false c2]; rfl)
            exact Lib.hid this
          clear e1 hm c1 c2
          go_wp2_with fail
          go_ret
          exact ⟨ret_bool HN.out.symm, rfl⟩
    · have HN : Hid (blankL s.data.toList = true) := by
        have e := HB.out
        rw [List.take_of_length_le (by have := hl.out; omega)] at e
        exact Lib.hid e
      go_wp2_with fail
      go_ret
      exact ⟨ret_bool HN.out.symm, rfl⟩
end Go.Proofs.YtjfhbfnagcjdmaaGreatDoor

/-
  Contracts of Blank, and of the document's answer for it.
-/
import Derived.Test.YtbnoiakhpmgeaaaSrcp
namespace Go.Proofs.Ytbnoiakhpmgeaaa
open Go.RowKit Go.Lib

set_option maxHeartbeats 400000 in
theorem blank_any (s : ByteArray) (w : World) :
    Calls Try.prog 14 #[.string s] w fun e w' => e = .returned (.bool (blankL s.data.toList)) ∧ Keeps w w' := by
  have hl := Lib.hid (bytes_len s)
  go_enter Try.func14, Try.ntmps14
  go_wp2
  go_loopw [] (fun wr => ∃ pos : Nat, pos ≤ s.size ∧ blankL (s.data.toList.take pos) = true ∧ wr.heap[w.heap.size]? = some (.stringIter s pos) ∧ Keeps w wr) (fun wr => s.size - wr.iterPos w.heap.size)
  case atStart => exact ⟨0, Nat.zero_le _, rfl, World.iter_heap w s 0, (Keeps.refl w).iter s 0⟩
  case round =>
    obtain ⟨pos, hp, hb, hit, hk⟩ := hrel
    have HB := Lib.hid hb
    clear hb
    by_cases c : pos < s.size
    · obtain ⟨r, n, hst, hnx⟩ := next_at (P := Try.prog) hit c
      have h0 := hst.low
      have h1 := hst.high
      have hit2 := iterAt_heap wr w.heap.size s pos (pos + n) hit
      have hk2 := hk.iterAt (Nat.le_refl _) s (pos + n)
      have hpos := Lib.hid (pos_at hit)
      have hpos2 := Lib.hid (pos_at hit2)
      have HS := Lib.hid hst
      rcases bl_of hst with ⟨e1, b, e2, e3⟩ | ⟨e1, b, e2, e3⟩
      · have IB := Lib.hid (fun W => isBlank_yes r W e1)
        have HN : Hid (blankL (s.data.toList.take (pos + n)) = true) := by
          have : blankL (s.data.toList.take (pos + n)) = true := by rw [hst.next, e2, blank_snoc, HB.out, e3]; rfl
          exact Lib.hid this
        have HI := Lib.hid hit2
        clear e1 e2 e3 hst hit hit2
        go_wp2_with fail
        refine (IB.out _).mono ?_
        rintro e w1 ⟨rfl, rfl⟩
        go_wp2_with fail
        go_roundw
        case rel => exact ⟨pos + n, by have := HS.out.room; have := hl.out; omega, HN.out, HI.out, hk2⟩
        case measure => rw [hpos.out, hpos2.out]; have := HS.out.one; omega
      · have IB := Lib.hid (fun W => isBlank_no r W e1)
        have HN : Hid (blankL s.data.toList = false) := by
          have : blankL s.data.toList = false := blank_no (b := b) (List.mem_of_mem_drop (List.mem_of_mem_take e2)) e3
          exact Lib.hid this
        clear e1 e2 e3 hst hit hit2 hpos hpos2
        go_wp2_with fail
        refine (IB.out _).mono ?_
        rintro e w1 ⟨rfl, rfl⟩
        go_wp2_with fail
        go_ret
        exact ⟨ret_bool HN.out.symm, hk2⟩
    · have hnx : ∀ ty, (Instr.next (.pointer (some ⟨w.heap.size, 0, none⟩)) true ty).run Try.prog wr = _ := fun ty => run_next_end_at wr w.heap.size s pos ty hit c
      have HN : Hid (blankL s.data.toList = true) := by
        have e := HB.out
        rw [List.take_of_length_le (by have := hl.out; omega)] at e
        exact Lib.hid e
      clear hit
      go_wp2_with fail
      go_ret
      exact ⟨ret_bool HN.out.symm, hk⟩

set_option maxHeartbeats 400000 in
theorem rblank_any (s : ByteArray) (w : World) (hs : s.size ≤ 100000) :
    Calls Try.prog 15 #[.string s] w fun e w' => e = .returned (.bool (blankL s.data.toList)) ∧ w = w' := by
  have hl := Lib.hid (bytes_len s)
  go_enter Try.func15, Try.ntmps15
  go_wp2
  go_loop [3] (fun i => ∃ k : Nat, k ≤ s.size ∧ blankL (s.data.toList.take k) = true ∧ i = .int .i64 k) (fun i => s.size - (intOf i).toNat)
  case atStart => exact ⟨0, Nat.zero_le _, rfl, rfl⟩
  case round =>
    obtain ⟨k, hk, hb, rfl⟩ := hrel
    have HB := Lib.hid hb
    clear hb
    by_cases c : k < s.size
    · have e1 : s.data.toList.take (k + 1) = s.data.toList.take k ++ [s[k]] := by
        rw [List.take_succ_eq_append_getElem (by have := hl.out; omega)]; rfl
      have hm : s[k] ∈ s.data.toList := by
        have : s.data.toList[k]'(by have := hl.out; omega) = s[k] := rfl
        rw [← this]; exact List.getElem_mem _
      by_cases c1 : s[k].toNat = 32
      · have t1 : ((s[k].toNat : Int) != 32) = false := by simp; omega
        have HN : Hid (blankL (s.data.toList.take (k + 1)) = true) := by
          have : blankL (s.data.toList.take (k + 1)) = true := by rw [e1, blank_snoc, HB.out]; unfold isB; rw [decide_eq_true c1]; rfl
          exact Lib.hid this
        clear e1 hm c1
        go_wp2_with fail
        go_round
        case rel => exact ⟨k + 1, c, HN.out, by go_num⟩
        case measure => simp [intOf]; omega
      · have t1 : ((s[k].toNat : Int) != 32) = true := by simp; omega
        by_cases c2 : s[k].toNat = 9
        · have t2 : ((s[k].toNat : Int) != 9) = false := by simp; omega
          have HN : Hid (blankL (s.data.toList.take (k + 1)) = true) := by
            have : blankL (s.data.toList.take (k + 1)) = true := by rw [e1, blank_snoc, HB.out]; unfold isB; rw [decide_eq_true c2, Bool.or_true]; rfl
            exact Lib.hid this
          clear e1 hm c1 c2
          go_wp2_with fail
          go_round
          case rel => exact ⟨k + 1, c, HN.out, by go_num⟩
          case measure => simp [intOf]; omega
        · have t2 : ((s[k].toNat : Int) != 9) = true := by simp; omega
          have HN : Hid (blankL s.data.toList = false) := by
            have : blankL s.data.toList = false := blank_no hm (by unfold isB; rw [decide_eq_false c1, decide_eq_false c2]; rfl)
            exact Lib.hid this
          clear e1 hm c1 c2
          go_wp2_with fail
          go_ret
          exact ⟨ret_bool HN.out.symm, rfl⟩
    · have HN : Hid (blankL s.data.toList = true) := by
        have e := HB.out
        rw [List.take_of_length_le (by have := hl.out; omega)] at e
        exact Lib.hid e
      go_wp2_with fail
      go_ret
      exact ⟨ret_bool HN.out.symm, rfl⟩
end Go.Proofs.Ytbnoiakhpmgeaaa

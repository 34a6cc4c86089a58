/-
  Contract of Blank, of the package.
-/
import Derived.Test.YtonajkcdkihchaaDoorSrcp
namespace Go.Proofs.YtonajkcdkihchaaDoor
open Go.RowKit Go.Lib

set_option maxHeartbeats 400000 in
theorem blank_any (s : ByteArray) (w : World) :
    Calls Tryd.prog 42 #[.string s] w fun e w' => e = .returned (.bool (blankL s.data.toList)) ∧ Keeps w w' := by
  have hl := Lib.hid (bytes_len s)
  go_enter Tryd.func42, Tryd.ntmps42
  go_wp2
  go_loopw [] (fun wr => ∃ pos : Nat, pos ≤ s.size ∧ blankL (s.data.toList.take pos) = true ∧ wr.heap[w.heap.size]? = some (.stringIter s pos) ∧ Keeps w wr) (fun wr => s.size - wr.iterPos w.heap.size)
  case atStart => exact ⟨0, Nat.zero_le _, rfl, World.iter_heap w s 0, (Keeps.refl w).iter s 0⟩
  case round =>
    obtain ⟨pos, hp, hb, hit, hk⟩ := hrel
    have HB := Lib.hid hb
    clear hb
    by_cases c : pos < s.size
    · obtain ⟨r, n, hst, hnx⟩ := next_at (P := Tryd.prog) hit c
      have h0 := hst.low
      have h1 := hst.high
      have hit2 := iterAt_heap wr w.heap.size s pos (pos + n) hit
      have hk2 := hk.iterAt (Nat.le_refl _) s (pos + n)
      have hpos := Lib.hid (pos_at hit)
      have hpos2 := Lib.hid (pos_at hit2)
      have HS := Lib.hid hst
      rcases bl_of hst with ⟨e1, b, e2, e3⟩ | ⟨e1, b, e2, e3⟩
      · have IB := Lib.hid (fun W => isBlank_yes r W e1)
        have HN : Hid (blankL (s.data.toList.take (pos + n)) = true) := by
          have : blankL (s.data.toList.take (pos + n)) = true := by rw [hst.next, e2, blank_snoc, HB.out, e3]; rfl
          exact Lib.hid this
        have HI := Lib.hid hit2
        clear e1 e2 e3 hst hit hit2
        go_wp2_with fail
        refine (IB.out _).mono ?_
        rintro e w1 ⟨rfl, rfl⟩
        go_wp2_with fail
        go_roundw
        case rel => exact ⟨pos + n, by have := HS.out.room; have := hl.out; omega, HN.out, HI.out, hk2⟩
        case measure => rw [hpos.out, hpos2.out]; have := HS.out.one; omega
      · have IB := Lib.hid (fun W => isBlank_no r W e1)
        have HN : Hid (blankL s.data.toList = false) := by
          have : blankL s.data.toList = false := blank_no (b := b) (List.mem_of_mem_drop (List.mem_of_mem_take e2)) e3
          exact Lib.hid this
        clear e1 e2 e3 hst hit hit2 hpos hpos2
        go_wp2_with fail
        refine (IB.out _).mono ?_
        rintro e w1 ⟨rfl, rfl⟩
        go_wp2_with fail
        go_ret
        exact ⟨ret_bool HN.out.symm, hk2⟩
    · have hnx : ∀ ty, (Instr.next (.pointer (some ⟨w.heap.size, 0, none⟩)) true ty).run Tryd.prog wr = _ := fun ty => run_next_end_at wr w.heap.size s pos ty hit c
      have HN : Hid (blankL s.data.toList = true) := by
        have e := HB.out
        rw [List.take_of_length_le (by have := hl.out; omega)] at e
        exact Lib.hid e
      clear hit
      go_wp2_with fail
      go_ret
      exact ⟨ret_bool HN.out.symm, hk⟩
end Go.Proofs.YtonajkcdkihchaaDoor

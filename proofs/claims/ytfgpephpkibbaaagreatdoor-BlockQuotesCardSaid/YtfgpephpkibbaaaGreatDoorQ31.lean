/-
  Texts of the proof, one behind the other: Srcl.
-/
import Derived.Test.YtfgpephpkibbaaaGreatDoorQ17
import Derived.Test.YtfgpephpkibbaaaGreatDoorQ26
/-
  Contract of Lines.
-/
namespace Go.Proofs.YtfgpephpkibbaaaGreatDoor
open Go.RowKit Go.Lib

/-- The lines of a text, as texts. -/
def linesB (s : ByteArray) : List ByteArray := (linesL s.data.toList).map fun x => ⟨x.toArray⟩
/-- xs is told, the line begins at st, and the place is pos. -/
def LinesAt (l : List UInt8) (pos st : Nat) (xs : List ByteArray) : Prop := xs.map (fun x => x.data.toList) ++ linesFrom ((l.drop st).take (pos - st)) (l.drop pos) = linesL l
theorem linesB_of {s : ByteArray} {xs : List ByteArray} (h : xs.map (fun x => x.data.toList) = linesL s.data.toList) : xs = linesB s := by
  unfold linesB
  rw [← h, List.map_map]
  conv => lhs; rw [← List.map_id xs]
  apply List.map_congr_left
  intro x _
  exact (bytes_mk x).symm
theorem linesB_len (s : ByteArray) : (linesB s).length ≤ s.size + 1 := by
  have := linesL_len s.data.toList
  rw [bytes_len] at this
  unfold linesB
  rw [List.length_map]
  exact this
theorem linesAt_lf {s : ByteArray} {pos st : Nat} {xs : List ByteArray} (h : LinesAt s.data.toList pos st xs) (hp : pos < s.size) (h10 : s[pos].toNat = 10) : LinesAt s.data.toList (pos + 1) (pos + 1) (xs ++ [s.extract st pos]) := by
  have e : s.data.toList.drop pos = s[pos] :: s.data.toList.drop (pos + 1) := drop_cons s.data.toList pos (by rw [bytes_len]; exact hp)
  have hb : s[pos] = 10 := UInt8.toNat_inj.1 h10
  unfold LinesAt at *
  rw [← h, e, linesFrom, if_pos hb, List.map_append, List.append_assoc]
  congr 1
  show [(s.extract st pos).data.toList] ++ linesFrom ((s.data.toList.drop (pos + 1)).take (pos + 1 - (pos + 1))) _ = _
  rw [Lib.extract_data, Nat.sub_self, List.take_zero]
  rfl
theorem linesAt_run {l : List UInt8} {pos st n : Nat} {xs : List ByteArray} (h : LinesAt l pos st xs) (hst : st ≤ pos) (hc : ∀ b ∈ (l.drop pos).take n, b ≠ 10) : LinesAt l (pos + n) st xs := by
  unfold LinesAt at *
  have e : l.drop pos = (l.drop pos).take n ++ l.drop (pos + n) := by rw [← List.drop_drop, List.take_append_drop]
  rw [← h]
  conv => rhs; rw [e]
  rw [linesFrom_run _ _ _ hc]
  congr 2
  rw [show pos + n - st = (pos - st) + n by omega, List.take_add, List.drop_drop, show st + (pos - st) = pos by omega]
theorem linesAt_end {s : ByteArray} {st : Nat} {xs : List ByteArray} (h : LinesAt s.data.toList s.size st xs) : (st = s.size → xs = linesB s) ∧ (st < s.size → xs ++ [s.extract st s.size] = linesB s) := by
  have hl := bytes_len s
  unfold LinesAt at h
  rw [show s.data.toList.drop s.size = [] from List.drop_eq_nil_of_le (by omega)] at h
  refine ⟨fun e => linesB_of ?_, fun e => linesB_of ?_⟩
  · rw [← h, e, Nat.sub_self, List.take_zero]
    simp [linesFrom]
  · have hne : (s.data.toList.drop st).take (s.size - st) ≠ [] := fun k => by
      have := congrArg List.length k
      rw [List.length_take, List.length_drop, hl] at this
      simp at this
      omega
    rw [← h, linesFrom, if_neg hne, List.map_append]
    congr 1
    show [(s.extract st s.size).data.toList] = _
    rw [Lib.extract_data]
theorem lf_of {l : List UInt8} {pos n : Nat} {r : Int} (h : Step l pos r n) : (r = 10 ∧ n = 1 ∧ ∃ b, (l.drop pos).take 1 = [b] ∧ b.toNat = 10) ∨ (¬ r = 10 ∧ ∀ b ∈ (l.drop pos).take n, b ≠ 10) := by
  rcases h.kind with ⟨rfl, h2, b, h3, h4⟩ | ⟨h2, h3⟩
  · by_cases hr : r = 10
    · exact .inl ⟨hr, rfl, b, h3, by omega⟩
    · refine .inr ⟨hr, fun c hc e => ?_⟩
      rw [h3, List.mem_singleton] at hc
      rw [← hc, e] at h4
      exact hr (by rw [← h4]; rfl)
  · refine .inr ⟨by omega, fun c hc e => ?_⟩
    have := h3 c hc
    rw [e] at this
    exact absurd this (by decide)
theorem byte_at {s : ByteArray} {pos : Nat} {b : UInt8} (hp : pos < s.size) (h : (s.data.toList.drop pos).take 1 = [b]) : s[pos] = b := by
  rw [drop_cons s.data.toList pos (by rw [bytes_len]; exact hp)] at h
  rw [List.take_succ_cons, List.take_zero] at h
  exact (List.cons.inj h).1

set_option maxHeartbeats 2000000 in
theorem lines_any (s : ByteArray) (w : World) (hs : s.size ≤ 100000) :
    Calls Tryz.prog 19 #[.string s] w fun e w' => ∃ v, e = .returned v ∧ Texts w.heap.size w' v (linesB s) ∧ Keeps w w' := by
  have hl := Lib.hid (bytes_len s)
  have CL := Lib.hid (clone_any s w hs)
  obtain ⟨i0, hi, hz0, hz1, hz2⟩ := info_parts infoTx
  go_enter Tryz.func19, Tryz.ntmps19
  go_wp2_with fail
  refine CL.out.mono ?_
  rintro e w1 ⟨rfl, k1⟩
  have K1 := Lib.hid k1
  have hz : w.heap.size ≤ w1.heap.size := k1.size
  clear k1
  go_wp2_with fail
  go_loopw [4, 5] (fun v a wr => ∃ (pos st : Nat) (xs : List ByteArray), pos ≤ s.size ∧ st ≤ pos ∧ xs.length ≤ pos ∧ Hid (wr.heap[w1.heap.size]? = some (.stringIter s pos)) ∧ Hid (Texts w.heap.size wr v xs) ∧ Hid (Keeps w wr) ∧ Hid (LinesAt s.data.toList pos st xs) ∧ a = .int .i64 st ∧ w.heap.size ≤ wr.heap.size) (fun _ _ wr => s.size - wr.iterPos w1.heap.size)
  case atStart => exact ⟨0, 0, [], Nat.zero_le _, Nat.le_refl _, Nat.le_refl _, Lib.hid (World.iter_heap w1 s 0), Lib.hid (World.ownsRow_nil _ _ _ _), Lib.hid (K1.out.iter s 0), Lib.hid rfl, rfl, by show w.heap.size ≤ (w1.alloc _).heap.size; simp; omega⟩
  case round =>
    obtain ⟨pos, st, xs, hp, hsp, hxl, HI, HX, HK, HL, rfl, hzr⟩ := hrel
    by_cases c : pos < s.size
    · obtain ⟨r, n, hst, hnx⟩ := next_at (P := Tryz.prog) HI.out c
      have h0 := hst.low
      have h1 := hst.high
      have hn1 := hst.one
      have hroom : pos + n ≤ s.size := by have := hst.room; have := hl.out; omega
      have HI2 := Lib.hid (iterAt_heap wr w1.heap.size s pos (pos + n) HI.out)
      have HK2 := Lib.hid (HK.out.iterAt hz s (pos + n))
      have HX2 := Lib.hid (own_iterAt HX.out HI.out (pos + n))
      have hzr2 : w.heap.size ≤ (wr.iterAt w1.heap.size s (pos + n)).heap.size := by rw [iterAt_size]; exact hzr
      have HS := Lib.hid hst
      have P1 := Lib.hid (pos_at HI.out)
      clear hst
      rcases lf_of HS.out with ⟨e1, e2, b, e3, e4⟩ | ⟨e1, e2⟩
      · subst e1
        subst e2
        have HL2 := Lib.hid (linesAt_lf HL.out c (by rw [byte_at c e3]; exact e4))
        clear e3 e4
        have hown := HX2.out.alloc (.cells #[.string (s.extract st pos)] 9)
        have HIA := Lib.hid (show ((wr.iterAt w1.heap.size s (pos + 1)).alloc (.cells #[.string (s.extract st pos)] 9)).heap[w1.heap.size]? = some (.stringIter s (pos + 1)) from (Lib.alloc_old _ _ _ (iter_lt HI2.out)).trans HI2.out)
        have HKA := Lib.hid (HK2.out.alloc (.cells #[.string (s.extract st pos)] 9))
        go_wp2_with (at_builtin; go_loud (
          refine wpList_append_own _ rfl _ _ 34 rfl w.heap.size 9 i0 (.string ⟨#[]⟩) 1 16 Tryz.underlying34 hi hz0 hz1 hz2 rfl (by decide) _ _ _ rfl hown ⟨(wr.iterAt w1.heap.size s (pos + 1)).heap.size, 0, none⟩ 1 1 [.string (s.extract st pos)] rfl rfl (cell_one_new _ _ _) (by simp [Value.oneCell']) (by simp only [maxLen]; omega) (by omega) (by simp; omega) ?_
          intro v' w2 hown' hgrow _
          have HIB := Lib.hid (iter_grown hown hgrow HIA.out)
          have HKB := Lib.hid (keepsR_grown hown HKA.out hgrow)
          have HXB : Hid (Texts w.heap.size w2 v' (xs ++ [s.extract st pos])) := by
            have : Texts w.heap.size w2 v' (xs ++ [s.extract st pos]) := by
              unfold Texts
              rw [List.length_append, List.map_append]
              exact hown'
            exact Lib.hid this
          clear hown hown' hgrow))
        go_roundw
        case rel => exact ⟨pos + 1, pos + 1, xs ++ [s.extract st pos], hroom, Nat.le_refl _, by rw [List.length_append, List.length_singleton]; omega, HIB, HXB, HKB, HL2, by go_num, HKB.out.size⟩
        case measure => rw [P1.out, pos_at HIB.out]; omega
      · have t1 : (r == 10) = false := beq_eq_false_iff_ne.2 e1
        have HL2 := Lib.hid (linesAt_run HL.out hsp e2)
        clear e1 e2
        go_wp2_with fail
        go_roundw
        case rel => exact ⟨pos + n, st, xs, hroom, by omega, by omega, HI2, HX2, HK2, HL2, rfl, hzr2⟩
        case measure => rw [P1.out, pos_at HI2.out]; omega
    · have hit := HI.out
      have hnx : ∀ ty, (Instr.next (.pointer (some ⟨w1.heap.size, 0, none⟩)) true ty).run Tryz.prog wr = _ := fun ty => run_next_end_at wr w1.heap.size s pos ty hit c
      clear hit
      obtain rfl : pos = s.size := by omega
      have hE := linesAt_end HL.out
      by_cases ce : st < s.size
      · have HE := Lib.hid (hE.2 ce)
        clear hE
        have hown := HX.out.alloc (.cells #[.string (s.extract st s.size)] 9)
        have HKA := Lib.hid (HK.out.alloc (.cells #[.string (s.extract st s.size)] 9))
        go_wp2_with (at_builtin; go_loud (
          refine wpList_append_own _ rfl _ _ 34 rfl w.heap.size 9 i0 (.string ⟨#[]⟩) 1 16 Tryz.underlying34 hi hz0 hz1 hz2 rfl (by decide) _ _ _ rfl hown ⟨wr.heap.size, 0, none⟩ 1 1 [.string (s.extract st s.size)] rfl rfl (cell_one_new _ _ _) (by simp [Value.oneCell']) (by simp only [maxLen]; omega) (by omega) (by simp; omega) ?_
          intro v' w2 hown' hgrow _
          have HKB := Lib.hid (keepsR_grown hown HKA.out hgrow)
          have HXB : Hid (Texts w.heap.size w2 v' (linesB s)) := by
            have : Texts w.heap.size w2 v' (linesB s) := by
              rw [← HE.out]
              unfold Texts
              rw [List.length_append, List.map_append]
              exact hown'
            exact Lib.hid this
          clear hown hown' hgrow))
        go_ret
        exact ⟨_, rfl, HXB.out, HKB.out⟩
      · obtain rfl : st = s.size := by omega
        have HE := Lib.hid (hE.1 rfl)
        clear hE
        go_wp2_with fail
        go_ret
        exact ⟨_, rfl, by rw [← HE.out]; exact HX.out, HK.out⟩
end Go.Proofs.YtfgpephpkibbaaaGreatDoor


/-
  The document's Lines gives what Lines gives.
-/
import Derived.Test.YtbnoiakhpmgeaaaSrcl
namespace Go.Proofs.Ytbnoiakhpmgeaaa
open Go.RowKit Go.Lib

theorem linesAt_byte {s : ByteArray} {pos st : Nat} {xs : List ByteArray} (h : LinesAt s.data.toList pos st xs) (hst : st ≤ pos) (hp : pos < s.size) (h10 : ¬ s[pos].toNat = 10) : LinesAt s.data.toList (pos + 1) st xs := by
  refine linesAt_run h hst fun b hb e => ?_
  rw [drop_cons s.data.toList pos (by rw [bytes_len]; exact hp), List.take_succ_cons, List.take_zero, List.mem_singleton] at hb
  rw [e] at hb
  exact h10 (by
    show s.data.toList[pos].toNat = 10
    rw [← hb]; rfl)
/-- Where the loop stands: a place in the text, or behind its last round. -/
def LinesTo (s : ByteArray) (pos st : Nat) (xs : List ByteArray) : Prop := (pos ≤ s.size ∧ st ≤ pos ∧ LinesAt s.data.toList pos st xs) ∨ (pos = s.size + 1 ∧ xs = linesB s)

set_option maxHeartbeats 2000000 in
theorem rlines_any (s : ByteArray) (w : World) (hs : s.size ≤ 100000) :
    Calls Try.prog 13 #[.string s] w fun e w' => ∃ v, e = .returned v ∧ Texts w.heap.size w' v (linesB s) ∧ Keeps w w' := by
  obtain ⟨i0, hi, hz0, hz1, hz2⟩ := info_parts infoS
  go_enter Try.func13, Try.ntmps13
  go_wp2_with fail
  go_loopw [3, 4, 5] (fun v a i wr => ∃ (pos st : Nat) (xs : List ByteArray), pos ≤ s.size + 1 ∧ st ≤ s.size + 1 ∧ xs.length ≤ pos ∧ Hid (Texts w.heap.size wr v xs) ∧ Hid (Keeps w wr) ∧ Hid (LinesTo s pos st xs) ∧ a = .int .i64 st ∧ i = .int .i64 pos ∧ w.heap.size ≤ wr.heap.size) (fun _ _ i _ => s.size + 1 - (RowKit.intOf i).toNat)
  case atStart => exact ⟨0, 0, [], Nat.zero_le _, Nat.zero_le _, Nat.le_refl _, Lib.hid (World.ownsRow_nil _ _ _ _), Lib.hid (Keeps.refl w), Lib.hid (.inl ⟨Nat.zero_le _, Nat.le_refl _, rfl⟩), rfl, rfl, Nat.le_refl _⟩
  case round =>
    obtain ⟨pos, st, xs, hp, hst, hxl, HX, HK, HT, rfl, rfl, hzr⟩ := hrel
    by_cases c : pos ≤ s.size
    · obtain ⟨_, hsp, hL⟩ : pos ≤ s.size ∧ st ≤ pos ∧ LinesAt s.data.toList pos st xs := by
        rcases HT.out with h | ⟨h, _⟩
        · exact h
        · omega
      have HL := Lib.hid hL
      clear hL
      by_cases c1 : pos < s.size
      · have tp : (pos == s.size) = false := beq_eq_false_iff_ne.2 (by omega)
        by_cases c2 : s[pos].toNat = 10
        · have tb : ((s[pos].toNat : Int) == 10) = true := beq_iff_eq.2 (by omega)
          have HL2 : Hid (LinesTo s (pos + 1) (pos + 1) (xs ++ [s.extract st pos])) := by
            have : LinesTo s (pos + 1) (pos + 1) (xs ++ [s.extract st pos]) := .inl ⟨c1, Nat.le_refl _, linesAt_lf HL.out c1 c2⟩
            exact Lib.hid this
          clear c2
          have hown := HX.out.alloc (.cells #[.string (s.extract st pos)] 9)
          have HKA := Lib.hid (HK.out.alloc (.cells #[.string (s.extract st pos)] 9))
          go_wp2_with (at_builtin; go_loud (
            refine wpList_append_own _ rfl _ _ 25 rfl w.heap.size 9 i0 (.string ⟨#[]⟩) 1 16 Try.underlying25 hi hz0 hz1 hz2 rfl (by decide) _ _ _ rfl hown ⟨wr.heap.size, 0, none⟩ 1 1 [.string (s.extract st pos)] rfl rfl (cell_one_new _ _ _) (by simp [Value.oneCell']) (by simp only [maxLen]; omega) (by omega) (by simp; omega) ?_
            intro v' w2 hown' hgrow _
            have HKB := Lib.hid (keeps_grown hown HKA.out hgrow)
            have HXB : Hid (Texts w.heap.size w2 v' (xs ++ [s.extract st pos])) := by
              have : Texts w.heap.size w2 v' (xs ++ [s.extract st pos]) := by
                unfold Texts
                rw [List.length_append, List.map_append]
                exact hown'
              exact Lib.hid this
            clear hown hown' hgrow))
          go_roundw
          case rel => exact ⟨pos + 1, pos + 1, xs ++ [s.extract st pos], by omega, by omega, by rw [List.length_append, List.length_singleton]; omega, HXB, HKB, HL2, by go_num, by go_num, HKB.out.size⟩
          case measure => simp [RowKit.intOf]; omega
        · have tb : ((s[pos].toNat : Int) == 10) = false := beq_eq_false_iff_ne.2 (by omega)
          have HL2 : Hid (LinesTo s (pos + 1) st xs) := by
            have : LinesTo s (pos + 1) st xs := .inl ⟨c1, by omega, linesAt_byte HL.out hsp c1 c2⟩
            exact Lib.hid this
          clear c2
          go_wp2_with fail
          go_roundw
          case rel => exact ⟨pos + 1, st, xs, by omega, by omega, by omega, HX, HK, HL2, rfl, by go_num, hzr⟩
          case measure => simp [RowKit.intOf]; omega
      · obtain rfl : pos = s.size := by omega
        have hE := linesAt_end HL.out
        by_cases ce : st < s.size
        · have HE := Lib.hid (hE.2 ce)
          clear hE
          have HL2 : Hid (LinesTo s (s.size + 1) (s.size + 1) (xs ++ [s.extract st s.size])) := by
            have : LinesTo s (s.size + 1) (s.size + 1) (xs ++ [s.extract st s.size]) := .inr ⟨rfl, HE.out⟩
            exact Lib.hid this
          have hown := HX.out.alloc (.cells #[.string (s.extract st s.size)] 9)
          have HKA := Lib.hid (HK.out.alloc (.cells #[.string (s.extract st s.size)] 9))
          go_wp2_with (at_builtin; go_loud (
            refine wpList_append_own _ rfl _ _ 25 rfl w.heap.size 9 i0 (.string ⟨#[]⟩) 1 16 Try.underlying25 hi hz0 hz1 hz2 rfl (by decide) _ _ _ rfl hown ⟨wr.heap.size, 0, none⟩ 1 1 [.string (s.extract st s.size)] rfl rfl (cell_one_new _ _ _) (by simp [Value.oneCell']) (by simp only [maxLen]; omega) (by omega) (by simp; omega) ?_
            intro v' w2 hown' hgrow _
            have HKB := Lib.hid (keeps_grown hown HKA.out hgrow)
            have HXB : Hid (Texts w.heap.size w2 v' (xs ++ [s.extract st s.size])) := by
              have : Texts w.heap.size w2 v' (xs ++ [s.extract st s.size]) := by
                unfold Texts
                rw [List.length_append, List.map_append]
                exact hown'
              exact Lib.hid this
            clear hown hown' hgrow))
          go_roundw
          case rel => exact ⟨s.size + 1, s.size + 1, xs ++ [s.extract st s.size], by omega, by omega, by rw [List.length_append, List.length_singleton]; omega, HXB, HKB, HL2, by go_num, by go_num, HKB.out.size⟩
          case measure => simp [RowKit.intOf]
        · obtain rfl : st = s.size := by omega
          have HL2 : Hid (LinesTo s (s.size + 1) s.size xs) := by
            have : LinesTo s (s.size + 1) s.size xs := .inr ⟨rfl, hE.1 rfl⟩
            exact Lib.hid this
          clear hE
          go_wp2_with fail
          go_roundw
          case rel => exact ⟨s.size + 1, s.size, xs, by omega, by omega, by omega, HX, HK, HL2, rfl, by go_num, hzr⟩
          case measure => simp [RowKit.intOf]
    · have HE : Hid (xs = linesB s) := by
        have : xs = linesB s := by
          rcases HT.out with ⟨h, _⟩ | ⟨_, h⟩
          · omega
          · exact h
        exact Lib.hid this
      go_wp2_with fail
      go_ret
      exact ⟨_, rfl, by rw [← HE.out]; exact HX.out, HK.out⟩
end Go.Proofs.Ytbnoiakhpmgeaaa

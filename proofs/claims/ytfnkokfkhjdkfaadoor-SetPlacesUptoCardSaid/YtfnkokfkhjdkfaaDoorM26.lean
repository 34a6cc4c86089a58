/-
  Texts of the proof, one behind the other: Cwc, Crc.
-/
import Derived.Test.YtfnkokfkhjdkfaaDoorM14
import Derived.Test.YtfnkokfkhjdkfaaDoorM3
import Derived.Test.YtfnkokfkhjdkfaaDoorM22
/-
  Contracts of Codes and Text, of the package.
-/
namespace Go.Proofs.YtfnkokfkhjdkfaaDoor
open Go.RowKit Go.Lib

theorem Odd.keep {w w' : World} (h : Odd w) (k : Keeps w w') : Odd w' := tabBelow_of_tabIs h _ k
theorem step_ne {l : List UInt8} {pos n : Nat} {r : Int} (h : Step l pos r n) : l.drop pos ≠ [] := fun e => by
  have h1 := h.one
  have h2 := h.room
  have := congrArg List.length e
  rw [List.length_drop] at this
  simp at this
  omega
theorem codes_next {l acc : List UInt8} {pos n : Nat} {r : Int} (h : Step l pos r n) (ha : acc ++ codesL (l.drop pos) = codesL l) :
    (acc ++ [c8 r]) ++ codesL (l.drop (pos + n)) = codesL l := by
  have h0 := h.low
  have hr : ((r.toNat : Nat) : Int) = r := by omega
  rw [← ha, codesL_step _ (step_ne h), h.dec, List.append_assoc, ← List.drop_drop, hr]
  rfl
theorem text_next {l acc : List UInt8} {k : Nat} (hk : k < l.length) (ha : acc ++ textL (l.drop k) = textL l) :
    (acc ++ sign l[k]) ++ textL (l.drop (k + 1)) = textL l := by
  rw [← ha, drop_cons l k hk, textL_cons, List.append_assoc]

set_option maxRecDepth 100000 in
set_option maxHeartbeats 1000000 in
theorem codes_any (s : ByteArray) (w : World) (hs : s.size ≤ 100000) (hO : Odd w) :
    Calls Tryd.prog 83 #[.string s] w fun e w' => e = .returned (.string ⟨(codesL s.data.toList).toArray⟩) ∧ Keeps w w' := by
  have hl := Lib.hid (bytes_len s)
  have GR := Lib.hid (Tryd.Builder_Grow_fresh w.heap.size w.heap.size s.size (w.alloc (.cells #[.pointer none, .slice none 0 0] 128)) (Nat.le_refl _) (by show (w.heap.push _)[w.heap.size]? = _; simp) (by simp) (by omega))
  have b0 := Lib.hid ((Below.refl w.heap.size w).alloc (Nat.le_refl _) (.cells #[.pointer none, .slice none 0 0] 128))
  have WB := Lib.hid (fun l r W h c d => writeByte_any w.heap.size w.heap.size l (c8 r) ((toN r).1 : Nat) (by rw [c8_nat]) W h c d)
  have ST := Lib.hid (fun l W h c => Tryd.Builder_String_any_k w.heap.size w.heap.size l W h c)
  have TO := Lib.hid (fun r W h => to_any r W h)
  have HO := Lib.hid hO
  clear hO
  go_enter Tryd.func83, Tryd.ntmps83
  go_wp2_with fail
  refine GR.out.mono ?_
  rintro e w1 ⟨rfl, hb1, hbw1⟩
  have B1 : Hid (Bld w.heap.size w.heap.size [] w1) := Lib.hid (BuilderAtF.of hb1)
  have K1 := Lib.hid (b0.out.trans hbw1)
  have hlt : w.heap.size < w1.heap.size := iter_lt hb1.2.choose_spec.1
  clear hb1 hbw1
  go_wp2_with fail
  go_loopw [] (fun wr => ∃ (pos : Nat) (acc : List UInt8), pos ≤ s.size ∧ Hid (Bld w.heap.size w.heap.size acc wr) ∧ Hid (wr.heap[w1.heap.size]? = some (.stringIter s pos)) ∧ Hid (Below w.heap.size w wr) ∧ Hid (acc ++ codesL (s.data.toList.drop pos) = codesL s.data.toList) ∧ acc.length ≤ pos ∧ w1.heap.size < wr.heap.size) (fun wr => s.size - wr.iterPos w1.heap.size)
  case atStart => exact ⟨0, [], Nat.zero_le _, Lib.hid (BuilderAtF.alloc B1.out _), Lib.hid (World.iter_heap w1 s 0), Lib.hid (K1.out.alloc (by omega) _), Lib.hid rfl, by simp, by show w1.heap.size < (w1.alloc _).heap.size; simp⟩
  case round =>
    obtain ⟨pos, acc, hp, HB, HI, HK, HA, hal, hsz⟩ := hrel
    by_cases c : pos < s.size
    · obtain ⟨r, n, hst, hnx⟩ := next_at (P := Tryd.prog) HI.out c
      have h0 := hst.low
      have h1 := hst.high
      have hn1 := hst.one
      have hroom : pos + n ≤ s.size := by have := hst.room; have := hl.out; omega
      have hit2 := iterAt_heap wr w1.heap.size s pos (pos + n) HI.out
      have HI2 := Lib.hid hit2
      have HB2 := Lib.hid (BuilderAtF.iterAt HB.out HI.out (pos + n))
      have HK2 := Lib.hid (below_iterAt HK.out (k := w1.heap.size) (by omega) s (pos + n))
      have hsz2 : w1.heap.size < (wr.iterAt w1.heap.size s (pos + n)).heap.size := by rw [iterAt_size]; exact hsz
      have HN := Lib.hid (codes_next hst HA.out)
      have P1 := Lib.hid (pos_at HI.out)
      have HT := Lib.hid (TO.out r _ (Odd.keep HO.out HK2.out))
      clear hst hit2
      go_wp2_with fail
      refine HT.out.mono ?_
      rintro e W0 ⟨rfl, rfl⟩
      go_wp2_with fail
      refine (WB.out acc r _ HB2.out (by omega) (by omega)).mono ?_
      rintro e W1 ⟨rfl, h1, b1, k1⟩
      have HI3 := Lib.hid (k1.iter HI2.out (by omega))
      have hsz3 := iter_lt HI3.out
      have HB3 := Lib.hid h1
      have HK3 := Lib.hid (HK2.out.trans b1)
      clear h1 b1 k1
      go_wp2_with fail
      go_roundw
      case rel => exact ⟨pos + n, acc ++ [c8 r], hroom, HB3, HI3, HK3, HN, by rw [List.length_append, List.length_singleton]; omega, hsz3⟩
      case measure => rw [P1.out, pos_at HI3.out]; omega
    · have hit := HI.out
      have hnx : ∀ ty, (Instr.next (.pointer (some ⟨w1.heap.size, 0, none⟩)) true ty).run Tryd.prog wr = _ := fun ty => run_next_end_at wr w1.heap.size s pos ty hit c
      clear hit
      have HA2 : Hid (acc = codesL s.data.toList) := by
        have e := HA.out
        rw [List.drop_eq_nil_of_le (by have := hl.out; omega), codesL_nil, List.append_nil] at e
        exact Lib.hid e
      go_wp2_with fail
      refine (ST.out acc _ (.inr HB.out) (by omega)).mono ?_
      rintro e W1 ⟨rfl, _, b1, _⟩
      have HK3 := Lib.hid (HK.out.trans b1)
      clear b1
      go_wp2_with fail
      go_ret
      exact ⟨ret_str HA2.out, HK3.out⟩

end Go.Proofs.YtfnkokfkhjdkfaaDoor

/-
  Contracts of Codes and Text, of the document's answer.
-/
namespace Go.Proofs.YtfnkokfkhjdkfaaDoor
open Go.RowKit Go.Lib

theorem iter_later {w w' : World} {k : Nat} {s : ByteArray} {p : Nat} (h : w.heap[k]? = some (.stringIter s p)) (b : Keeps w w') : w'.heap[k]? = some (.stringIter s p) := by
  rw [b.block k (iter_lt h)]; exact h
theorem iter_new {w : World} {k : Nat} {o x : Obj} (h : w.heap[k]? = some x) : (w.alloc o).heap[k]? = some x := (Lib.alloc_old w o k (iter_lt h)).trans h

set_option maxRecDepth 100000 in
set_option maxHeartbeats 1000000 in
theorem rcodes_any (s : ByteArray) (w : World) (hs : s.size ≤ 100000) :
    Calls Tryd.prog 76 #[.string s] w fun e w' => e = .returned (.string ⟨(codesL s.data.toList).toArray⟩) ∧ Keeps w w' := by
  have hl := Lib.hid (bytes_len s)
  have TO := Lib.hid (fun r W => rto_any r W)
  go_enter Tryd.func76, Tryd.ntmps76
  go_wp2_with fail
  go_loopw [3] (fun o wr => ∃ (pos : Nat) (acc : ByteArray), pos ≤ s.size ∧ Hid (wr.heap[w.heap.size]? = some (.stringIter s pos)) ∧ Hid (Keeps w wr) ∧ Hid (acc.data.toList ++ codesL (s.data.toList.drop pos) = codesL s.data.toList) ∧ acc.size ≤ pos ∧ o = .string acc) (fun _ wr => s.size - wr.iterPos w.heap.size)
  case atStart => exact ⟨0, ⟨#[]⟩, Nat.zero_le _, Lib.hid (World.iter_heap w s 0), Lib.hid ((Keeps.refl w).iter s 0), Lib.hid rfl, by simp [ByteArray.size], rfl⟩
  case round =>
    obtain ⟨pos, acc, hp, HI, HK, HA, hal, rfl⟩ := hrel
    by_cases c : pos < s.size
    · obtain ⟨r, n, hst, hnx⟩ := next_at (P := Tryd.prog) HI.out c
      have h0 := hst.low
      have h1 := hst.high
      have hn1 := hst.one
      have hroom : pos + n ≤ s.size := by have := hst.room; have := hl.out; omega
      have HI2 := Lib.hid (iterAt_heap wr w.heap.size s pos (pos + n) HI.out)
      have HK2 := Lib.hid (HK.out.iterAt (Nat.le_refl _) s (pos + n))
      have HN := Lib.hid (codes_next hst HA.out)
      have P1 := Lib.hid (pos_at HI.out)
      have hb := toN_lt r
      clear hst
      go_wp2_with fail
      refine (TO.out r _).mono ?_
      rintro e W0 ⟨rfl, k0⟩
      have HI3 := Lib.hid (iter_later HI2.out k0)
      have HK3 := Lib.hid (HK2.out.trans k0)
      have kc := one_byte W0 101 9 5 (c8 r) ((toN r).1 : Nat) (by rw [c8_nat]) Tryd.underlying101 Tryd.underlying5 Tryd.underlying9
      have HI4 := Lib.hid (iter_new (o := .cells #[.int .u8 ((toN r).1 : Nat)] 5) HI3.out)
      have HK4 := Lib.hid (HK3.out.alloc (.cells #[.int .u8 ((toN r).1 : Nat)] 5))
      clear k0
      generalize c8 r = C at *
      go_wp2_with fail
      go_roundw
      case rel => exact ⟨pos + n, acc ++ ⟨#[C]⟩, hroom, HI4, HK4, by have e := HN.out; exact Lib.hid (by simpa using e), by rw [ByteArray.size_append]; show _ + 1 ≤ _; omega, rfl⟩
      case measure => rw [P1.out, pos_at HI4.out]; omega
    · have hit := HI.out
      have hnx : ∀ ty, (Instr.next (.pointer (some ⟨w.heap.size, 0, none⟩)) true ty).run Tryd.prog wr = _ := fun ty => run_next_end_at wr w.heap.size s pos ty hit c
      clear hit
      have HA2 : Hid (acc.data.toList = codesL s.data.toList) := by
        have e := HA.out
        rw [List.drop_eq_nil_of_le (by have := hl.out; omega), codesL_nil, List.append_nil] at e
        exact Lib.hid e
      go_wp2_with fail
      go_ret
      exact ⟨ret_bytes (bytes_eq (by rw [HA2.out])), HK.out⟩

end Go.Proofs.YtfnkokfkhjdkfaaDoor


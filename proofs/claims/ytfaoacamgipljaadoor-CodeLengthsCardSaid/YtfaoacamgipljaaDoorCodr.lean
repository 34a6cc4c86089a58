/-
  Contracts of Codes and Text, of the document's answer.
-/
import Derived.Test.YtfaoacamgipljaaDoorCodw
import Derived.Test.YtfaoacamgipljaaDoorSrcr
namespace Go.Proofs.YtfaoacamgipljaaDoor
open Go.RowKit Go.Lib

theorem iter_later {w w' : World} {k : Nat} {s : ByteArray} {p : Nat} (h : w.heap[k]? = some (.stringIter s p)) (b : Keeps w w') : w'.heap[k]? = some (.stringIter s p) := by
  rw [b.block k (iter_lt h)]; exact h
theorem iter_new {w : World} {k : Nat} {o x : Obj} (h : w.heap[k]? = some x) : (w.alloc o).heap[k]? = some x := (Lib.alloc_old w o k (iter_lt h)).trans h

set_option maxHeartbeats 1000000 in
theorem rcodes_any (s : ByteArray) (w : World) (hs : s.size ≤ 100000) :
    Calls Tryd.prog 13 #[.string s] w fun e w' => e = .returned (.string ⟨(codesL s.data.toList).toArray⟩) ∧ Keeps w w' := by
  have hl := Lib.hid (bytes_len s)
  have TO := Lib.hid (fun r W => rto_any r W)
  go_enter Tryd.func13, Tryd.ntmps13
  go_wp2_with fail
  go_loopw [3] (fun o wr => ∃ (pos : Nat) (acc : ByteArray), pos ≤ s.size ∧ Hid (wr.heap[w.heap.size]? = some (.stringIter s pos)) ∧ Hid (Keeps w wr) ∧ Hid (acc.data.toList ++ codesL (s.data.toList.drop pos) = codesL s.data.toList) ∧ acc.size ≤ pos ∧ o = .string acc) (fun _ wr => s.size - wr.iterPos w.heap.size)
  case atStart => exact ⟨0, ⟨#[]⟩, Nat.zero_le _, Lib.hid (World.iter_heap w s 0), Lib.hid ((Keeps.refl w).iter s 0), Lib.hid rfl, by simp [ByteArray.size], rfl⟩
  case round =>
    obtain ⟨pos, acc, hp, HI, HK, HA, hal, rfl⟩ := hrel
    by_cases c : pos < s.size
    · obtain ⟨r, n, hst, hnx⟩ := next_at (P := Tryd.prog) HI.out c
      have h0 := hst.low
      have h1 := hst.high
      have hn1 := hst.one
      have hroom : pos + n ≤ s.size := by have := hst.room; have := hl.out; omega
      have HI2 := Lib.hid (iterAt_heap wr w.heap.size s pos (pos + n) HI.out)
      have HK2 := Lib.hid (HK.out.iterAt (Nat.le_refl _) s (pos + n))
      have HN := Lib.hid (codes_next hst HA.out)
      have P1 := Lib.hid (pos_at HI.out)
      have hb := toN_lt r
      clear hst
      go_wp2_with fail
      refine (TO.out r _).mono ?_
      rintro e W0 ⟨rfl, k0⟩
      have HI3 := Lib.hid (iter_later HI2.out k0)
      have HK3 := Lib.hid (HK2.out.trans k0)
      have kc := byte_text W0 35 9 5 (c8 r) ((toN r).1 : Nat) (by rw [c8_nat]) Tryd.underlying35 Tryd.underlying5 Tryd.underlying9
      have HI4 := Lib.hid (iter_new (o := .cells #[.int .u8 ((toN r).1 : Nat)] 5) HI3.out)
      have HK4 := Lib.hid (HK3.out.alloc (.cells #[.int .u8 ((toN r).1 : Nat)] 5))
      clear k0
      generalize c8 r = C at *
      go_wp2_with fail
      go_roundw
      case rel => exact ⟨pos + n, acc ++ ⟨#[C]⟩, hroom, HI4, HK4, by have e := HN.out; exact Lib.hid (by simpa using e), by rw [ByteArray.size_append]; show _ + 1 ≤ _; omega, rfl⟩
      case measure => rw [P1.out, pos_at HI4.out]; omega
    · have hit := HI.out
      have hnx : ∀ ty, (Instr.next (.pointer (some ⟨w.heap.size, 0, none⟩)) true ty).run Tryd.prog wr = _ := fun ty => run_next_end_at wr w.heap.size s pos ty hit c
      clear hit
      have HA2 : Hid (acc.data.toList = codesL s.data.toList) := by
        have e := HA.out
        rw [List.drop_eq_nil_of_le (by have := hl.out; omega), codesL_nil, List.append_nil] at e
        exact Lib.hid e
      go_wp2_with fail
      go_ret
      exact ⟨ret_bytes (bytes_eq (by rw [HA2.out])), HK.out⟩

set_option maxHeartbeats 1000000 in
theorem rtext_any (s : ByteArray) (w : World) (hs : s.size ≤ 100000) :
    Calls Tryd.prog 15 #[.string s] w fun e w' => e = .returned (.string ⟨(textL s.data.toList).toArray⟩) ∧ Keeps w w' := by
  have hl := Lib.hid (bytes_len s)
  have FR := Lib.hid (fun c hc W => rfrom_any c hc W)
  go_enter Tryd.func15, Tryd.ntmps15
  go_wp2_with fail
  go_loopw [3, 4] (fun o i wr => ∃ (k : Nat) (acc : ByteArray), k ≤ s.size ∧ i = .int .i64 k ∧ Hid (Keeps w wr) ∧ Hid (acc.data.toList ++ textL (s.data.toList.drop k) = textL s.data.toList) ∧ acc.size ≤ 4 * k ∧ o = .string acc) (fun _ i _ => s.size - (RowKit.intOf i).toNat)
  case atStart => exact ⟨0, ⟨#[]⟩, Nat.zero_le _, rfl, Lib.hid (Keeps.refl w), Lib.hid rfl, by simp [ByteArray.size], rfl⟩
  case round =>
    obtain ⟨k, acc, hp, rfl, HK, HA, hal, rfl⟩ := hrel
    by_cases c : k < s.size
    · have HN := Lib.hid (text_next (by have := hl.out; omega) HA.out)
      have hb := s[k].toNat_lt
      have HT := Lib.hid (FR.out s[k].toNat hb wr)
      have RG := Lib.hid (from_range s[k].toNat hb)
      have OK := Lib.hid (from_ok s[k].toNat hb)
      have SG := Lib.hid (show sign s.data.toList[k] = if (fromR s[k].toNat).2 then encodeRune (fromR s[k].toNat).1 else [] from rfl)
      generalize fromR s[k].toNat = p at *
      obtain ⟨r, ok⟩ := p
      obtain ⟨r0, r1⟩ := RG.out
      dsimp only at r0 r1
      cases ok with
      | true =>
        go_wp2_with fail
        refine HT.out.mono ?_
        rintro e W0 ⟨rfl, k0⟩
        have HK3 := Lib.hid (HK.out.trans k0)
        have kc := one_rune W0 r OK.out
        have he := enc_len r
        have HK4 := Lib.hid (HK3.out.alloc (.cells #[.int .i32 r] 21))
        have SG2 : Hid (sign s.data.toList[k] = encodeRune r) := SG.out
        clear k0 SG
        generalize encodeRune r = E at *
        go_wp2_with fail
        go_roundw
        case rel => exact ⟨k + 1, acc ++ ⟨E.toArray⟩, by omega, by go_num, HK4, by have e := HN.out; rw [SG2.out] at e; exact Lib.hid (by simpa using e), by rw [ByteArray.size_append]; show _ + E.toArray.size ≤ _; simp; omega, rfl⟩
        case measure => simp [RowKit.intOf]; omega
      | false =>
        go_wp2_with fail
        refine HT.out.mono ?_
        rintro e W0 ⟨rfl, k0⟩
        have HK3 := Lib.hid (HK.out.trans k0)
        clear k0
        go_wp2_with fail
        go_roundw
        case rel => exact ⟨k + 1, acc, by omega, by go_num, HK3, by have e := HN.out; rw [SG.out, if_neg Bool.false_ne_true, List.append_nil] at e; exact Lib.hid e, by omega, rfl⟩
        case measure => simp [RowKit.intOf]; omega
    · have HA2 : Hid (acc.data.toList = textL s.data.toList) := by
        have e := HA.out
        rw [List.drop_eq_nil_of_le (by have := hl.out; omega)] at e
        exact Lib.hid ((List.append_nil _).symm.trans e)
      go_wp2_with fail
      go_ret
      exact ⟨ret_bytes (bytes_eq (by rw [HA2.out])), HK.out⟩
end Go.Proofs.YtfaoacamgipljaaDoor

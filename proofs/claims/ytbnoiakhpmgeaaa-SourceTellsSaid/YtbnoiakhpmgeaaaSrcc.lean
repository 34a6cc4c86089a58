/-
  Contracts of Clean, and of the document's answer for it.
-/
import Derived.Test.YtbnoiakhpmgeaaaBld
import Derived.Test.YtbnoiakhpmgeaaaSrcr
namespace Go.Proofs.Ytbnoiakhpmgeaaa
open Go.RowKit Go.Lib

theorem clean_next {l acc : List UInt8} {pos n : Nat} {r : Int} (h : Step l pos r n) (ha : acc ++ cleanL (l.drop pos) = cleanL l) :
    (acc ++ piece (l.drop pos)) ++ cleanL (l.drop (pos + n)) = cleanL l := by
  have hne : l.drop pos ≠ [] := fun e => by
    have h1 := h.one
    have h2 := h.room
    have := congrArg List.length e
    rw [List.length_drop] at this
    simp at this
    omega
  rw [← ha, cleanL_step _ hne, h.dec, List.append_assoc, ← List.drop_drop]
theorem piece_zero {l : List UInt8} {pos n : Nat} {r : Int} (h : Step l pos r n) (e : r = 0) : piece (l.drop pos) = encodeRune 65533 := by
  unfold piece
  rw [h.dec, if_pos (by subst e; rfl), enc_lost]
theorem piece_cr {l : List UInt8} {pos n : Nat} {r : Int} (h : Step l pos r n) (e : r = 13) : n = 1 ∧ piece (l.drop pos) = if hasPrefix (l.drop (pos + 1)) [10] then [] else [10] := by
  subst e
  refine ⟨?_, ?_⟩
  · rcases h.kind with ⟨h1, _⟩ | ⟨h1, _⟩
    · exact h1
    · omega
  · unfold piece
    rw [h.dec, if_neg (show ¬ (13 : Int).toNat = 0 by decide), if_pos (show (13 : Int).toNat = 13 by decide), List.drop_drop]
theorem piece_other {l : List UInt8} {pos n : Nat} {r : Int} (h : Step l pos r n) (e0 : ¬ r = 0) (e1 : ¬ r = 13) : piece (l.drop pos) = encodeRune r ∧ okR r := by
  have h0 := h.low
  have hr : ((r.toNat : Nat) : Int) = r := by omega
  have ho := decode_ok (l.drop pos)
  unfold piece
  rw [h.dec] at *
  dsimp only at *
  rw [if_neg (by omega), if_neg (by omega), hr]
  rw [hr] at ho
  exact ⟨rfl, ho⟩
theorem pre_cons (b c : UInt8) (l : List UInt8) : hasPrefix (b :: l) [c] = (c == b) := by
  unfold hasPrefix
  simp [List.isPrefixOf]
/-- Is there an LF at the place p. -/
theorem pre_lf (s : ByteArray) (p : Nat) (h : p < s.size) : hasPrefix (s.data.toList.drop p) [10] = decide (s[p].toNat = 10) := by
  have e : s.data.toList.drop p = s[p] :: s.data.toList.drop (p + 1) := drop_cons s.data.toList p (by rw [bytes_len]; exact h)
  rw [e, pre_cons, Bool.eq_iff_iff, beq_iff_eq, decide_eq_true_eq]
  constructor
  · intro h; rw [← h]; rfl
  · intro h; exact (UInt8.toNat_inj.1 h).symm
theorem pre_end (s : ByteArray) (p : Nat) (h : ¬ p < s.size) : hasPrefix (s.data.toList.drop p) [10] = false := by
  rw [List.drop_eq_nil_of_le (by rw [bytes_len]; omega)]; rfl

set_option maxHeartbeats 1000000 in
theorem clean_any (s : ByteArray) (w : World) (hs : s.size ≤ 100000) :
    Calls Try.prog 9 #[.string s] w fun e w' => e = .returned (.string ⟨(cleanL s.data.toList).toArray⟩) ∧ Keeps w w' := by
  have hl := Lib.hid (bytes_len s)
  have GR := Lib.hid (Try.Builder_Grow_fresh w.heap.size w.heap.size s.size (w.alloc (.cells #[.pointer none, .slice none 0 0] 33)) (Nat.le_refl _) (by show (w.heap.push _)[w.heap.size]? = _; simp) (by simp) (by omega))
  have b0 := Lib.hid ((Below.refl w.heap.size w).alloc (Nat.le_refl _) (.cells #[.pointer none, .slice none 0 0] 33))
  have WR := Lib.hid (fun l r a b W h c d => writeRune_any w.heap.size w.heap.size l r a b W h c d)
  have WB := Lib.hid (fun l W h c d => writeByte_any w.heap.size w.heap.size l 10 10 rfl W h c d)
  have ST := Lib.hid (fun l W h c => Try.Builder_String_any_k w.heap.size w.heap.size l W h c)
  have HP := Lib.hid (fun a b W => Try.strings_HasPrefix a b W)
  go_enter Try.func9, Try.ntmps9
  go_wp2_with fail
  refine GR.out.mono ?_
  rintro e w1 ⟨rfl, hb1, hbw1⟩
  have B1 : Hid (Bld w.heap.size w.heap.size [] w1) := Lib.hid (BuilderAtF.of hb1)
  have K1 := Lib.hid (b0.out.trans hbw1)
  have hlt : w.heap.size < w1.heap.size := iter_lt hb1.2.choose_spec.1
  clear hb1 hbw1
  go_wp2_with fail
  go_loopw [] (fun wr => ∃ (pos : Nat) (acc : List UInt8), pos ≤ s.size ∧ Hid (Bld w.heap.size w.heap.size acc wr) ∧ Hid (wr.heap[w1.heap.size]? = some (.stringIter s pos)) ∧ Hid (Below w.heap.size w wr) ∧ Hid (acc ++ cleanL (s.data.toList.drop pos) = cleanL s.data.toList) ∧ acc.length ≤ 4 * pos ∧ w1.heap.size < wr.heap.size) (fun wr => s.size - wr.iterPos w1.heap.size)
  case atStart => exact ⟨0, [], Nat.zero_le _, Lib.hid (BuilderAtF.alloc B1.out _), Lib.hid (World.iter_heap w1 s 0), Lib.hid (K1.out.alloc (by omega) _), Lib.hid rfl, by simp, by show w1.heap.size < (w1.alloc _).heap.size; simp⟩
  case round =>
    obtain ⟨pos, acc, hp, HB, HI, HK, HA, hal, hsz⟩ := hrel
    by_cases c : pos < s.size
    · obtain ⟨r, n, hst, hnx⟩ := next_at (P := Try.prog) HI.out c
      have h0 := hst.low
      have h1 := hst.high
      have hn1 := hst.one
      have hroom : pos + n ≤ s.size := by have := hst.room; have := hl.out; omega
      have hit2 := iterAt_heap wr w1.heap.size s pos (pos + n) HI.out
      have HI2 := Lib.hid hit2
      have HB2 := Lib.hid (BuilderAtF.iterAt HB.out HI.out (pos + n))
      have HK2 := Lib.hid (below_iterAt HK.out (k := w1.heap.size) (by omega) s (pos + n))
      have hsz2 : w1.heap.size < (wr.iterAt w1.heap.size s (pos + n)).heap.size := by rw [iterAt_size]; exact hsz
      have HN := Lib.hid (clean_next hst HA.out)
      have HS := Lib.hid hst
      have P1 := Lib.hid (pos_at HI.out)
      clear hst hit2
      by_cases c0 : r = 0
      · have HP0 := Lib.hid (piece_zero HS.out c0)
        subst c0
        go_wp2_with fail
        refine (WR.out acc 65533 (by omega) (by omega) _ HB2.out (by omega) (by omega)).mono ?_
        rintro e W1 ⟨rfl, h1, b1, k1⟩
        have HI3 := Lib.hid (k1.iter HI2.out (by omega))
        have hsz3 := iter_lt HI3.out
        have HB3 := Lib.hid h1
        have HK3 := Lib.hid (HK2.out.trans b1)
        clear h1 b1 k1
        go_wp2_with fail
        go_roundw
        case rel => exact ⟨pos + n, acc ++ encodeRune 65533, hroom, HB3, HI3, HK3, by have e := HN.out; rw [HP0.out] at e; exact Lib.hid e, by have := enc_len 65533; rw [List.length_append]; omega, hsz3⟩
        case measure => rw [P1.out, pos_at HI3.out]; omega
      · have t0 : (r == 0) = false := beq_eq_false_iff_ne.2 c0
        by_cases c1 : r = 13
        · obtain ⟨hn, hpc⟩ := piece_cr HS.out c1
          subst c1
          subst hn
          cases hpre : hasPrefix (s.data.toList.drop (pos + 1)) [10] with
          | true =>
            rw [if_pos hpre] at hpc
            have HPC := Lib.hid hpc
            have HPB : Hid (∀ W, Calls Try.prog 20 #[.string (s.extract (pos + 1) s.size), .string ⟨#[10]⟩] W fun e w' => e = .returned (.bool true) ∧ w' = W) := by
              have : ∀ W, Calls Try.prog 20 #[.string (s.extract (pos + 1) s.size), .string ⟨#[10]⟩] W fun e w' => e = .returned (.bool true) ∧ w' = W := fun W => by
                have := HP.out (s.extract (pos + 1) s.size) ⟨#[10]⟩ W
                rw [Lib.extract_to_end, hpre] at this
                exact this
              exact Lib.hid this
            clear hpre hpc
            go_wp2_with fail
            refine (HPB.out _).mono ?_
            rintro e W1 ⟨rfl, rfl⟩
            go_wp2_with fail
            go_roundw
            case rel => exact ⟨pos + 1, acc, hroom, HB2, HI2, HK2, by have e := HN.out; rw [HPC.out, List.append_nil] at e; exact Lib.hid e, by omega, hsz2⟩
            case measure => rw [P1.out, pos_at HI2.out]; omega
          | false =>
            rw [if_neg (by rw [hpre]; exact Bool.false_ne_true)] at hpc
            have HPC := Lib.hid hpc
            have HPB : Hid (∀ W, Calls Try.prog 20 #[.string (s.extract (pos + 1) s.size), .string ⟨#[10]⟩] W fun e w' => e = .returned (.bool false) ∧ w' = W) := by
              have : ∀ W, Calls Try.prog 20 #[.string (s.extract (pos + 1) s.size), .string ⟨#[10]⟩] W fun e w' => e = .returned (.bool false) ∧ w' = W := fun W => by
                have := HP.out (s.extract (pos + 1) s.size) ⟨#[10]⟩ W
                rw [Lib.extract_to_end, hpre] at this
                exact this
              exact Lib.hid this
            clear hpre hpc
            go_wp2_with fail
            refine (HPB.out _).mono ?_
            rintro e W1 ⟨rfl, rfl⟩
            go_wp2_with fail
            refine (WB.out acc _ HB2.out (by omega) (by omega)).mono ?_
            rintro e W1 ⟨rfl, h1, b1, k1⟩
            have HI3 := Lib.hid (k1.iter HI2.out (by omega))
            have hsz3 := iter_lt HI3.out
            have HB3 := Lib.hid h1
            have HK3 := Lib.hid (HK2.out.trans b1)
            clear h1 b1 k1
            go_wp2_with fail
            go_roundw
            case rel => exact ⟨pos + 1, acc ++ [10], hroom, HB3, HI3, HK3, by have e := HN.out; rw [HPC.out] at e; exact Lib.hid e, by rw [List.length_append, List.length_singleton]; omega, hsz3⟩
            case measure => rw [P1.out, pos_at HI3.out]; omega
        · have t1 : (r == 13) = false := beq_eq_false_iff_ne.2 c1
          have HPC := Lib.hid (piece_other HS.out c0 c1).1
          clear c0 c1
          go_wp2_with fail
          refine (WR.out acc r (by omega) (by omega) _ HB2.out (by omega) (by omega)).mono ?_
          rintro e W1 ⟨rfl, h1, b1, k1⟩
          have HI3 := Lib.hid (k1.iter HI2.out (by omega))
          have hsz3 := iter_lt HI3.out
          have HB3 := Lib.hid h1
          have HK3 := Lib.hid (HK2.out.trans b1)
          clear h1 b1 k1
          go_wp2_with fail
          go_roundw
          case rel => exact ⟨pos + n, acc ++ encodeRune r, hroom, HB3, HI3, HK3, by have e := HN.out; rw [HPC.out] at e; exact Lib.hid e, by have := enc_len r; rw [List.length_append]; omega, hsz3⟩
          case measure => rw [P1.out, pos_at HI3.out]; omega
    · have hit := HI.out
      have hnx : ∀ ty, (Instr.next (.pointer (some ⟨w1.heap.size, 0, none⟩)) true ty).run Try.prog wr = _ := fun ty => run_next_end_at wr w1.heap.size s pos ty hit c
      clear hit
      have HA2 : Hid (acc = cleanL s.data.toList) := by
        have e := HA.out
        rw [List.drop_eq_nil_of_le (by have := hl.out; omega), cleanL_nil, List.append_nil] at e
        exact Lib.hid e
      go_wp2_with fail
      refine (ST.out acc _ (.inr HB.out) (by omega)).mono ?_
      rintro e W1 ⟨rfl, _, b1, _⟩
      have HK3 := Lib.hid (HK.out.trans b1)
      clear b1
      go_wp2_with fail
      go_ret
      exact ⟨ret_str HA2.out, HK3.out⟩
end Go.Proofs.Ytbnoiakhpmgeaaa

/-
  Texts of the proof, one behind the other: Nme, Nmf.
-/
import Derived.Test.YtfgpephpkibbaaaGreatDoorQ22
import Derived.Test.YtfgpephpkibbaaaGreatDoorQ20
import Derived.Test.YtfgpephpkibbaaaGreatDoorQ8
/-
  Contracts of piece, Plain, of the package.
-/
namespace Go.Proofs.YtfgpephpkibbaaaGreatDoor
open Go.RowKit Go.Lib

theorem piece_one (s : ByteArray) (k : Nat) (h : k < s.size) : s.extract k (k + 1) = ⟨#[s[k]]⟩ := bytes_eq (by
  rw [Lib.extract_data, Nat.add_sub_cancel_left]
  have := drop_cons s.data.toList k (by rw [bytes_len]; exact h)
  rw [this]; rfl)
theorem one_second (s : ByteArray) (h : 1 < s.size) : s.extract 1 2 = ⟨[s[1]].toArray⟩ := bytes_eq (by
  rw [Lib.extract_data]
  have := drop_cons s.data.toList 1 (by rw [bytes_len]; exact h)
  rw [this]; rfl)
theorem getD_second (s : ByteArray) (h : 1 < s.size) : s.data.toList.getD 1 0 = s[1] := by
  have h2 : 1 < s.data.toList.length := by rw [bytes_len]; exact h
  rw [List.getD, List.getElem?_eq_getElem h2]; rfl
theorem pre_first (s : ByteArray) (h : 0 < s.size) (c : UInt8) : hasPrefix s.data.toList [c] = (c == s[0]) := by
  have e : s.data.toList = s[0] :: s.data.toList.drop 1 := by
    have := drop_cons s.data.toList 0 (by rw [bytes_len]; exact h)
    rw [List.drop_zero] at this
    exact this
  rw [e, pre1_cons]
theorem esc_no (s : ByteArray) (h : 0 < s.size) (hb : ¬ s[0].toNat = 92) : escB s.data.toList = false := by
  unfold escB
  rw [pre_first s h, show ((92 : UInt8) == s[0]) = false from beq_eq_false_iff_ne.2 (fun e => hb (by rw [← e]; rfl))]
  rfl
theorem esc_at (s : ByteArray) (h : 0 < s.size) (hb : s[0].toNat = 92) (h1 : 1 < s.size) : escB s.data.toList = signB s[1] := by
  unfold escB
  rw [pre_first s h, show ((92 : UInt8) == s[0]) = true from beq_iff_eq.2 (UInt8.toNat_inj.1 (by rw [hb]; rfl)), bytes_len, decide_eq_true h1, getD_second s h1]
  rfl
theorem esc_short (s : ByteArray) (h1 : ¬ 1 < s.size) : escB s.data.toList = false := by
  unfold escB
  rw [bytes_len, decide_eq_false h1]
  simp
theorem ref_not (s : ByteArray) (h : 0 < s.size) (hb : ¬ s[0].toNat = 38) : (refL s.data.toList).2 = 0 := by
  rw [refL_no (by rw [pre_first s h]; exact beq_eq_false_iff_ne.2 (fun e => hb (by rw [← e]; rfl)))]

set_option maxRecDepth 100000 in
theorem piece_any (s : ByteArray) (w : World) (hs : s.size ≤ maxLen) (h : 0 < s.size) (hO : Lis w) :
    Calls Tryz.prog 135 #[.string s] w fun e w' => e = .returned (.tuple #[.string ⟨(plT s.data.toList).toArray⟩, .int .i64 (plN s.data.toList)]) ∧ w = w' := by
  have SG := Lib.hid (fun b W => sign_any b W)
  have RF := Lib.hid (ref_any s w hs hO)
  unfold maxLen at hs
  clear hO
  have hb := s[0].toNat_lt
  have OW : Hid (escB s.data.toList = false → (refL s.data.toList).2 = 0 → (⟨(plT s.data.toList).toArray⟩ : ByteArray) = s.extract 0 1 ∧ plN s.data.toList = 1) := Lib.hid fun a b => by
    obtain ⟨h1, h2⟩ := pl_own a b
    exact ⟨by rw [h1, ext_take], h2⟩
  by_cases c0 : s[0].toNat = 92
  · have q0 : ((s[0].toNat : Int) == 92) = true := beq_iff_eq.2 (by omega)
    have hr : (refL s.data.toList).2 = 0 := ref_not s h (by omega)
    by_cases c1 : 1 < s.size
    · have e1 := esc_at s h c0 c1
      cases c2 : signB s[1] with
      | true =>
        rw [c2] at e1
        have E := Lib.hid (pl_esc e1)
        have S1 := Lib.hid (SG.out s[1])
        rw [c2] at S1
        have X := Lib.hid (one_second s c1)
        have G := Lib.hid (getD_second s c1)
        clear c2 e1 c0 hr
        go_enter Tryz.func135, Tryz.ntmps135
        go_wp2_with fail
        refine (S1.out _).mono ?_
        rintro e w1 ⟨rfl, rfl⟩
        go_wp2_with fail
        go_ret2
        exact ⟨by rw [E.out.1, E.out.2, G.out, ← X.out]; rfl, rfl⟩
      | false =>
        rw [c2] at e1
        have E := Lib.hid (OW.out e1 hr)
        have S1 := Lib.hid (SG.out s[1])
        rw [c2] at S1
        clear c2 e1 c0 hr
        go_enter Tryz.func135, Tryz.ntmps135
        go_wp2_with fail
        refine (S1.out _).mono ?_
        rintro e w1 ⟨rfl, rfl⟩
        go_wp2_with fail
        go_ret2
        exact ⟨by rw [E.out.1, E.out.2]; rfl, rfl⟩
    · have E := Lib.hid (OW.out (esc_short s c1) hr)
      clear c0 hr
      go_enter Tryz.func135, Tryz.ntmps135
      go_wp2_with fail
      go_ret2
      exact ⟨by rw [E.out.1, E.out.2]; rfl, rfl⟩
  · have e1 := esc_no s h c0
    have q0 : ((s[0].toNat : Int) == 92) = false := beq_eq_false_iff_ne.2 (by omega)
    by_cases c1 : s[0].toNat = 38
    · have q1 : ((s[0].toNat : Int) == 38) = true := beq_iff_eq.2 (by omega)
      have hRF := refL_facts s.data.toList
      by_cases c2 : (refL s.data.toList).2 = 0
      · have E := Lib.hid (OW.out e1 c2)
        rw [c2] at RF
        clear c0 c1 e1 c2 hRF
        go_enter Tryz.func135, Tryz.ntmps135
        go_wp2_with fail
        refine RF.out.mono ?_
        rintro e w1 ⟨rfl, rfl⟩
        go_wp2_with fail
        go_ret2
        exact ⟨by rw [E.out.1, E.out.2]; rfl, rfl⟩
      · have E := Lib.hid (pl_ref e1 c2)
        have hB : Hid (refB s.data.toList = encodeRune ((refL s.data.toList).1 : Nat)) := Lib.hid (by unfold refB; rw [if_neg c2])
        have hN : (refL s.data.toList).2 ≤ 10 := by
          rcases hRF with e | e
          · exact absurd (congrArg Prod.snd e) c2
          · exact e.2.1
        have hN0 : 0 < (refL s.data.toList).2 := by omega
        rw [hB.out] at RF
        rw [E.out.1, E.out.2]
        clear c0 c1 e1 c2 hRF OW hB E
        generalize refL s.data.toList = q at *
        obtain ⟨r, n⟩ := q
        dsimp only at *
        go_enter Tryz.func135, Tryz.ntmps135
        go_wp2_with fail
        refine RF.out.mono ?_
        rintro e w1 ⟨rfl, rfl⟩
        go_wp2_with fail
        go_ret2
        exact ⟨rfl, rfl⟩
    · have q1 : ((s[0].toNat : Int) == 38) = false := beq_eq_false_iff_ne.2 (by omega)
      have E := Lib.hid (OW.out e1 (ref_not s h c1))
      clear c0 c1 e1
      go_enter Tryz.func135, Tryz.ntmps135
      go_wp2_with fail
      go_ret2
      exact ⟨by rw [E.out.1, E.out.2]; rfl, rfl⟩
end Go.Proofs.YtfgpephpkibbaaaGreatDoor

/-
  Contract of Plain, of the package, for texts of at most 100,000 bytes.
-/
namespace Go.Proofs.YtfgpephpkibbaaaGreatDoor
open Go.RowKit Go.Lib

def sizeOfS : Value → Nat
  | .string s => s.size
  | _ => 0
set_option maxRecDepth 100000 in
set_option maxHeartbeats 1000000 in
theorem plain_any (s : ByteArray) (w : World) (hs : s.size ≤ 100000) (hO : Lis w) :
    Calls Tryz.prog 113 #[.string s] w fun e w' => e = .returned (.string ⟨(plainL s.data.toList).toArray⟩) ∧ Keeps w w' := by
  have GR := Lib.hid (Tryz.Builder_Grow_fresh w.heap.size w.heap.size s.size (w.alloc (.cells #[.pointer none, .slice none 0 0] 131)) (Nat.le_refl _) (by show (w.heap.push _)[w.heap.size]? = _; simp) (by simp) (by omega))
  have b0 := Lib.hid ((Below.refl w.heap.size w).alloc (Nat.le_refl _) (.cells #[.pointer none, .slice none 0 0] 131))
  have WS := Lib.hid (fun l t W h c d => writeString_any w.heap.size w.heap.size l t W h c d)
  have ST := Lib.hid (fun l W h c => Tryz.Builder_String_any_k w.heap.size w.heap.size l W h c)
  have PC := Lib.hid (fun t W a b h => piece_any t W a b h)
  have HO := Lib.hid hO
  clear hO
  go_enter Tryz.func113, Tryz.ntmps113
  go_wp2_with fail
  refine GR.out.mono ?_
  rintro e w1 ⟨rfl, hb1, hbw1⟩
  have B1 : Hid (Bld w.heap.size w.heap.size [] w1) := Lib.hid (BuilderAtF.of hb1)
  have K1 := Lib.hid (b0.out.trans hbw1)
  have hlt : w.heap.size < w1.heap.size := iter_lt hb1.2.choose_spec.1
  clear hb1 hbw1
  go_wp2_with fail
  go_loopw [0] (fun v wr => ∃ (t : ByteArray) (acc : List UInt8), v = .string t ∧ t.size ≤ s.size ∧ Hid (Bld w.heap.size w.heap.size acc wr) ∧ Hid (Below w.heap.size w wr) ∧ Hid (acc ++ plainL t.data.toList = plainL s.data.toList) ∧ acc.length + 4 * t.size ≤ 4 * s.size ∧ w.heap.size < wr.heap.size) (fun v _ => sizeOfS v)
  case atStart => exact ⟨s, [], rfl, Nat.le_refl _, B1, K1, Lib.hid rfl, by simp, hlt⟩
  case round =>
    obtain ⟨t, acc, rfl, ht, HB, HK, HA, hal, hsz⟩ := hrel
    by_cases c : 0 < t.size
    · have hne : t.data.toList ≠ [] := fun e => by have := bytes_len t; rw [e] at this; simp at this; omega
      obtain ⟨n1, n2⟩ := plN_range t.data.toList hne
      rw [bytes_len] at n2
      have n3 := plT_len t.data.toList
      have HN := Lib.hid (plainL_step t.data.toList hne)
      have P1 := Lib.hid (PC.out t wr (by unfold maxLen; omega) c (Lis.keep HO.out HK.out))
      generalize plT t.data.toList = p at *
      generalize plN t.data.toList = n at *
      have W1 := Lib.hid (WS.out acc ⟨p.toArray⟩ wr HB.out (by show _ + p.toArray.size ≤ _; simp; omega) (by omega))
      have HX : Hid ((t.extract n t.size).data.toList = t.data.toList.drop n) := Lib.hid (Lib.extract_to_end t n)
      have HZ : (t.extract n t.size).size = t.size - n := by rw [ByteArray.size_extract]; omega
      clear hne
      go_wp2_with fail
      refine P1.out.mono ?_
      rintro e w2 ⟨rfl, rfl⟩
      go_wp2_with fail
      refine W1.out.mono ?_
      rintro e w3 ⟨rfl, h1, b1, k1⟩
      have HB3 := Lib.hid h1
      have HK3 := Lib.hid (HK.out.trans b1)
      have hsz3 := Nat.lt_of_lt_of_le hsz b1.size
      clear h1 b1 k1
      go_wp2_with fail
      go_roundw
      case rel => exact ⟨t.extract n t.size, acc ++ p, rfl, by omega, HB3, HK3, by rw [HX.out, List.append_assoc, ← HN.out]; exact HA, by rw [List.length_append]; omega, hsz3⟩
      case measure => show (t.extract n t.size).size < t.size; omega
    · have HA2 : Hid (acc = plainL s.data.toList) := by
        have e := HA.out
        rw [List.eq_nil_of_length_eq_zero (by rw [bytes_len]; omega : t.data.toList.length = 0), plainL_nil, List.append_nil] at e
        exact Lib.hid e
      go_wp2_with fail
      refine (ST.out acc _ (.inr HB.out) (by omega)).mono ?_
      rintro e W1 ⟨rfl, _, b1, _⟩
      have HK3 := Lib.hid (HK.out.trans b1)
      clear b1
      go_wp2_with fail
      go_ret
      exact ⟨ret_str HA2.out, HK3.out⟩
end Go.Proofs.YtfgpephpkibbaaaGreatDoor


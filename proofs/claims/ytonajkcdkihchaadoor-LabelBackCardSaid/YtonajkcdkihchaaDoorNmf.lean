/-
  Contract of Plain, of the package, for texts of at most 100,000 bytes.
-/
import Derived.Test.YtonajkcdkihchaaDoorNme
namespace Go.Proofs.YtonajkcdkihchaaDoor
open Go.RowKit Go.Lib

def sizeOfS : Value → Nat
  | .string s => s.size
  | _ => 0
set_option maxRecDepth 100000 in
set_option maxHeartbeats 1000000 in
theorem plain_any (s : ByteArray) (w : World) (hs : s.size ≤ 100000) (hO : Lis w) :
    Calls Tryd.prog 38 #[.string s] w fun e w' => e = .returned (.string ⟨(plainL s.data.toList).toArray⟩) ∧ Keeps w w' := by
  have GR := Lib.hid (Tryd.Builder_Grow_fresh w.heap.size w.heap.size s.size (w.alloc (.cells #[.pointer none, .slice none 0 0] 41)) (Nat.le_refl _) (by show (w.heap.push _)[w.heap.size]? = _; simp) (by simp) (by omega))
  have b0 := Lib.hid ((Below.refl w.heap.size w).alloc (Nat.le_refl _) (.cells #[.pointer none, .slice none 0 0] 41))
  have WS := Lib.hid (fun l t W h c d => writeString_any w.heap.size w.heap.size l t W h c d)
  have ST := Lib.hid (fun l W h c => Tryd.Builder_String_any_k w.heap.size w.heap.size l W h c)
  have PC := Lib.hid (fun t W a b h => piece_any t W a b h)
  have HO := Lib.hid hO
  clear hO
  go_enter Tryd.func38, Tryd.ntmps38
  go_wp2_with fail
  refine GR.out.mono ?_
  rintro e w1 ⟨rfl, hb1, hbw1⟩
  have B1 : Hid (Bld w.heap.size w.heap.size [] w1) := Lib.hid (BuilderAtF.of hb1)
  have K1 := Lib.hid (b0.out.trans hbw1)
  have hlt : w.heap.size < w1.heap.size := iter_lt hb1.2.choose_spec.1
  clear hb1 hbw1
  go_wp2_with fail
  go_loopw [0] (fun v wr => ∃ (t : ByteArray) (acc : List UInt8), v = .string t ∧ t.size ≤ s.size ∧ Hid (Bld w.heap.size w.heap.size acc wr) ∧ Hid (Below w.heap.size w wr) ∧ Hid (acc ++ plainL t.data.toList = plainL s.data.toList) ∧ acc.length + 4 * t.size ≤ 4 * s.size ∧ w.heap.size < wr.heap.size) (fun v _ => sizeOfS v)
  case atStart => exact ⟨s, [], rfl, Nat.le_refl _, B1, K1, Lib.hid rfl, by simp, hlt⟩
  case round =>
    obtain ⟨t, acc, rfl, ht, HB, HK, HA, hal, hsz⟩ := hrel
    by_cases c : 0 < t.size
    · have hne : t.data.toList ≠ [] := fun e => by have := bytes_len t; rw [e] at this; simp at this; omega
      obtain ⟨n1, n2⟩ := plN_range t.data.toList hne
      rw [bytes_len] at n2
      have n3 := plT_len t.data.toList
      have HN := Lib.hid (plainL_step t.data.toList hne)
      have P1 := Lib.hid (PC.out t wr (by unfold maxLen; omega) c (Lis.keep HO.out HK.out))
      generalize plT t.data.toList = p at *
      generalize plN t.data.toList = n at *
      have W1 := Lib.hid (WS.out acc ⟨p.toArray⟩ wr HB.out (by show _ + p.toArray.size ≤ _; simp; omega) (by omega))
      have HX : Hid ((t.extract n t.size).data.toList = t.data.toList.drop n) := Lib.hid (Lib.extract_to_end t n)
      have HZ : (t.extract n t.size).size = t.size - n := by rw [ByteArray.size_extract]; omega
      clear hne
      go_wp2_with fail
      refine P1.out.mono ?_
      rintro e w2 ⟨rfl, rfl⟩
      go_wp2_with fail
      refine W1.out.mono ?_
      rintro e w3 ⟨rfl, h1, b1, k1⟩
      have HB3 := Lib.hid h1
      have HK3 := Lib.hid (HK.out.trans b1)
      have hsz3 := Nat.lt_of_lt_of_le hsz b1.size
      clear h1 b1 k1
      go_wp2_with fail
      go_roundw
      case rel => exact ⟨t.extract n t.size, acc ++ p, rfl, by omega, HB3, HK3, by rw [HX.out, List.append_assoc, ← HN.out]; exact HA, by rw [List.length_append]; omega, hsz3⟩
      case measure => show (t.extract n t.size).size < t.size; omega
    · have HA2 : Hid (acc = plainL s.data.toList) := by
        have e := HA.out
        rw [List.eq_nil_of_length_eq_zero (by rw [bytes_len]; omega : t.data.toList.length = 0), plainL_nil, List.append_nil] at e
        exact Lib.hid e
      go_wp2_with fail
      refine (ST.out acc _ (.inr HB.out) (by omega)).mono ?_
      rintro e W1 ⟨rfl, _, b1, _⟩
      have HK3 := Lib.hid (HK.out.trans b1)
      clear b1
      go_wp2_with fail
      go_ret
      exact ⟨ret_str HA2.out, HK3.out⟩
end Go.Proofs.YtonajkcdkihchaaDoor

/-
  CodeLengths returns true of any text.
-/
import Derived.Test.YtfaoacamgipljaaDoorCaw
namespace Go.Proofs.YtfaoacamgipljaaDoor
open Go.RowKit Go.Lib

theorem runesFrom_any (s : ByteArray) : ∀ (n i : Nat) (acc : Array Value), s.size - i ≤ n → (Conv.runesFrom s n i acc).toList = acc.toList ++ (runesL (s.data.toList.drop i)).map (Value.int .i32)
  | 0, i, acc, h => by
    rw [List.drop_eq_nil_of_le (by rw [bytes_len]; omega), runesL_nil]
    simp [Conv.runesFrom]
  | n + 1, i, acc, h => by
    by_cases hi : i < s.size
    · have hw := decode_le s i
      have hd := decodeL_drop s i
      have hne : s.data.toList.drop i ≠ [] := fun e => by
        have := congrArg List.length e
        rw [List.length_drop, bytes_len] at this
        simp at this
        omega
      have h1 := decodeL_width (s.data.toList.drop i)
      rw [runesL_step _ hne, List.drop_drop, hd]
      rw [hd] at h1
      unfold Conv.runesFrom
      rw [if_pos hi]
      generalize Utf8.decode s i = d at *
      obtain ⟨r, m⟩ := d
      dsimp only at *
      rw [runesFrom_any s n (i + m) _ (by omega)]
      simp
    · rw [List.drop_eq_nil_of_le (by rw [bytes_len]; omega), runesL_nil]
      simp [Conv.runesFrom, hi]
/-- []rune(t) of any text. -/
theorem rune_list (t : ByteArray) (hs : t.size ≤ 100000) (W : World) :
    ∃ (c : Nat) (o : Obj), (convert 9 30 (.string t)).run Tryd.prog W = .ok (.slice (some ⟨W.heap.size, 0, none⟩) (runesL t.data.toList).length c) (W.alloc o).drew ∧
      ∀ j, j < (runesL t.data.toList).length → (W.alloc o).drew.cell? ⟨W.heap.size, j, none⟩ = some (.int .i32 ((runesL t.data.toList).getD j 0)) := by
  have hrun : Conv.runesFrom t t.size 0 #[] = ((runesL t.data.toList).map (Value.int .i32)).toArray := by
    apply Array.ext'
    rw [runesFrom_any t t.size 0 #[] (by omega)]
    simp
  have hlen := runesL_len t.data.toList
  rw [bytes_len] at hlen
  generalize runesL t.data.toList = rs at *
  have hsz : (Conv.runesFrom t t.size 0 #[]).size = rs.length := by rw [hrun]; simp
  have e1 := run_runes_of_string (P := Tryd.prog) W 9 30 21 t Tryd.underlying9 Tryd.underlying30 Tryd.underlying21 (by omega)
  rw [hsz] at e1
  refine ⟨_, _, e1, fun j hj => ?_⟩
  have hz := World.cell?_alloc_new (w := W.drew) (Conv.runesFrom t t.size 0 #[] ++ Array.replicate (grownCap W rs.length 0 21 - rs.length) (.int .i32 0)) 21 j
  refine hz.trans ?_
  rw [hrun, Array.getElem?_append_left (by simpa using hj)]
  simp [hj, List.getD]

set_option maxHeartbeats 400000 in
theorem clen_long (s : ByteArray) (w : World) (hs : s.size ≤ maxLen) (h : 3000 < s.size) (hO : Odd w) :
    Calls Tryd.prog 6 #[.string s] w fun e w' => e = .returned (.bool true) ∧ Keeps w w' := by
  have AW := Lib.hid (awake4_any w hO)
  unfold maxLen at hs
  go_enter Tryd.func6, Tryd.ntmps6
  go_wp2_with fail
  refine AW.out.mono ?_
  rintro e w2 ⟨rfl, k2⟩
  go_wp2_with fail
  go_ret
  exact ⟨rfl, k2⟩
theorem getD_map {α β : Type} (f : α → β) (l : List α) (k : Nat) (a : α) (b : β) (hk : k < l.length) : (l.map f).getD k b = f (l.getD k a) := by
  rw [List.getD, List.getD, List.getElem?_map, List.getElem?_eq_getElem hk]; rfl
set_option maxHeartbeats 1000000 in
theorem clen_short (s : ByteArray) (w : World) (h : s.size ≤ 3000) (hO : Odd w) :
    Calls Tryd.prog 6 #[.string s] w fun e w' => e = .returned (.bool true) ∧ Keeps w w' := by
  have AW := Lib.hid (fun W h => awake4_any W h)
  have TO := Lib.hid (fun r W h => to_any r W h)
  have R1 := Lib.hid (rune_list s (by omega))
  have C1 := Lib.hid (fun W h => codes_any s W (by omega) h)
  have hL := runesL_len s.data.toList
  rw [bytes_len] at hL
  obtain ⟨C, HC⟩ : ∃ C : ByteArray, Hid ((⟨(codesL s.data.toList).toArray⟩ : ByteArray) = C) := ⟨_, rfl⟩
  have hcd : C.data.toList = codesL s.data.toList := by rw [← HC.out]
  have hcs : C.size = (runesL s.data.toList).length := by rw [← bytes_len, hcd, codesL_len]
  have hck : ∀ k (hk : k < C.size), C[k].toNat = (toN ((runesL s.data.toList).getD k 0)).1 := fun k hk => by
    have h1 : k < (runesL s.data.toList).length := by omega
    have h2 : C[k] = (codesL s.data.toList).getD k 0 := by
      have : k < C.data.toList.length := by rw [bytes_len]; exact hk
      rw [List.getD, ← hcd, List.getElem?_eq_getElem this]; rfl
    rw [h2]
    unfold codesL
    rw [getD_map c8 _ k 0 0 h1, c8_nat]
  have X1 := Lib.hid (fun W h => text_any C W (by omega) h)
  rw [HC.out] at C1
  obtain ⟨X, HX⟩ : ∃ X : ByteArray, Hid ((⟨(textL C.data.toList).toArray⟩ : ByteArray) = X) := ⟨_, rfl⟩
  have hxl := textL_len C.data.toList
  rw [HX.out] at X1
  have hxd : X.data.toList = textL (codesL s.data.toList) := by rw [← HX.out, ← hcd]
  have hxs : X.size ≤ 12000 := by
    rw [← hcd] at hxd
    rw [← bytes_len, hxd]
    rw [bytes_len] at hxl
    omega
  have R2 := Lib.hid (rune_list X (by omega))
  rw [hxd, runes_back] at R2
  have CK := Lib.hid hck
  have CS := Lib.hid hcs
  clear hck hcs hcd hxl hxd hxs HX HC
  generalize runesL s.data.toList = L at *
  have hl2 : (L.map backR).length = L.length := List.length_map ..
  rw [hl2] at R2
  clear hl2
  have GD := Lib.hid (fun k hk => getD_map backR L k 0 0 hk)
  obtain ⟨c1, o1, e1, k1⟩ := R1.out w
  have KA := Lib.hid (((Keeps.refl w).alloc o1).drew)
  have L1 := Lib.hid k1
  clear k1
  go_enter Tryd.func6, Tryd.ntmps6
  go_wp2_with fail
  refine (C1.out _ (Odd.keep hO KA.out)).mono ?_
  rintro e w1 ⟨rfl, k1⟩
  have L2 := Lib.hid (fun j hj => cell_later k1 (L1.out j hj))
  have K1 := Lib.hid (KA.out.trans k1)
  clear k1
  go_wp2_with fail
  refine (X1.out _ (Odd.keep hO K1.out)).mono ?_
  rintro e w2 ⟨rfl, k2⟩
  have L3 := Lib.hid (fun j hj => cell_later k2 (L2.out j hj))
  have K2 := Lib.hid (K1.out.trans k2)
  clear k2
  obtain ⟨c2, o2, e2, k2⟩ := R2.out w2
  have KB : Hid (Keeps w2 (w2.alloc o2).drew) := Lib.hid (((Keeps.refl w2).alloc o2).drew)
  have K3 := Lib.hid (K2.out.trans KB.out)
  have M1 := Lib.hid k2
  have L4 := Lib.hid (fun j hj => cell_later KB.out (L3.out j hj))
  have hcs := CS.out
  clear k2
  go_wp2_with fail
  clear e1 e2 KB L1 L2 L3 R1 R2
  generalize (w2.alloc o2).drew = wc at *
  go_loopw [6] (fun i wr => ∃ k : Nat, k ≤ L.length ∧ i = .int .i64 k ∧ Hid (Keeps wc wr)) (fun i _ => L.length - (RowKit.intOf i).toNat)
  case atStart => exact ⟨0, Nat.zero_le _, rfl, Lib.hid (Keeps.refl wc)⟩
  case round =>
    obtain ⟨k, hk, rfl, HK⟩ := hrel
    by_cases c : k < L.length
    · have hc1 := cell_later HK.out (L4.out k c)
      have hc2 := cell_later HK.out (M1.out k c)
      have hc3 := CK.out k (by omega)
      rw [GD.out k c] at hc2
      have HT := Lib.hid (TO.out (L.getD k 0) wr (Odd.keep hO (K3.out.trans HK.out)))
      have BT := Lib.hid (@to_not (L.getD k 0))
      have HC3 := Lib.hid hc3
      clear hc3
      unfold backR at hc2
      generalize L.getD k 0 = r at *
      generalize toN r = p at *
      obtain ⟨a, ok⟩ := p
      cases ok with
      | true =>
        have hc2' : wr.cell? ⟨w2.heap.size, k, none⟩ = some (.int .i32 r) := hc2
        clear hc2
        go_wp2_with fail
        refine HT.out.mono ?_
        rintro e W0 ⟨rfl, rfl⟩
        go_wp2_with fail
        go_quiet (fail)
        go_wp2_with fail
        go_roundw
        case rel => exact ⟨k + 1, by omega, by go_num, Lib.hid (HK.out.drewN _)⟩
        case measure => simp [RowKit.intOf]; omega
      | false =>
        have hc2' : wr.cell? ⟨w2.heap.size, k, none⟩ = some (.int .i32 63) := hc2
        have h63 : C[k].toNat = 63 := HC3.out.trans (BT.out rfl)
        have t63 : ((C[k].toNat : Int) == 63) = true := beq_iff_eq.2 (by omega)
        clear hc2 h63
        go_wp2_with fail
        refine HT.out.mono ?_
        rintro e W0 ⟨rfl, rfl⟩
        go_wp2_with fail
        go_quiet (fail)
        go_wp2_with fail
        go_roundw
        case rel => exact ⟨k + 1, by omega, by go_num, Lib.hid (HK.out.drewN _)⟩
        case measure => simp [RowKit.intOf]; omega
    · go_wp2_with fail
      refine (AW.out _ (Odd.keep hO (K3.out.trans HK.out))).mono ?_
      rintro e W1 ⟨rfl, k9⟩
      have K9 := Lib.hid ((K3.out.trans HK.out).trans k9)
      clear k9
      go_wp2_with fail
      go_ret
      exact ⟨rfl, K9.out⟩
theorem clen_any (s : ByteArray) (w : World) (hs : s.size ≤ maxLen) (hO : Odd w) :
    Calls Tryd.prog 6 #[.string s] w fun e w' => e = .returned (.bool true) ∧ Keeps w w' := by
  by_cases h : s.size ≤ 3000
  · exact clen_short s w h hO
  · exact clen_long s w hs (by omega) hO
end Go.Proofs.YtfaoacamgipljaaDoor

/-
  Texts of the proof, one behind the other: Bln, Bib.
-/
import Derived.Test.YtdelaanaohjnkaaGreatDoorM46
import Derived.Test.YtdelaanaohjnkaaGreatDoorM47
/-
  Contracts of the law's lines and plain.
-/
namespace Go.Proofs.YtdelaanaohjnkaaGreatDoor
open Go.RowKit Go.Lib

/-- Lines as the laws want them: few, short, without LFs and tabs. -/
structure Lns (xs : List ByteArray) : Prop where
  pos : 0 < xs.length
  few : xs.length ≤ 41
  size : (xs.map ByteArray.size).sum ≤ 1000
  ok : ∀ x ∈ xs, ∀ b ∈ x.data.toList, b ≠ 10 ∧ b ≠ 9
/-- What lines answers. -/
def LnR (w : World) (xs : List ByteArray) (e : Ending) (w' : World) : Prop := ∃ r, e = .returned (.bool r) ∧ w = w' ∧ (r = true → Lns xs)
theorem LnR.of {w : World} {xs : List ByteArray} {r : Bool} (h : r = true → Lns xs) : LnR w xs (.returned (.bool r)) w := ⟨r, rfl, rfl, h⟩
theorem take_one {α : Type} {xs : List α} {k : Nat} {d : α} (h : k < xs.length) : xs.take (k + 1) = xs.take k ++ [xs.getD k d] := by
  rw [List.take_succ_eq_append_getElem h, List.getD_eq_getElem?_getD, List.getElem?_eq_getElem h]; rfl
theorem aL_size : ∀ xs : List ByteArray, (aL (lsB xs)).length = (xs.map ByteArray.size).sum + xs.length
  | [] => rfl
  | x :: xs => by
    have ih := aL_size xs
    show (aL (x.data.toList :: lsB xs)).length = _
    rw [aL_cons, List.length_append, List.length_cons, ih, bytes_len, List.map_cons, List.sum_cons, List.length_cons]; omega
theorem sum_take_le : ∀ (xs : List ByteArray) (k : Nat), ((xs.take k).map ByteArray.size).sum ≤ (xs.map ByteArray.size).sum
  | [], k => by rw [List.take_nil]; exact Nat.le_refl _
  | x :: xs, 0 => Nat.zero_le _
  | x :: xs, k + 1 => by
    have := sum_take_le xs k
    rw [List.take_succ_cons, List.map_cons, List.map_cons, List.sum_cons, List.sum_cons]; omega
set_option maxRecDepth 100000 in
set_option maxHeartbeats 4000000 in
theorem lines_some (xs : List ByteArray) (b off n c : Nat) (w : World) (hn : xs.length = n) (h1 : 0 < n) (hm : n ≤ maxLen) (hs : ∀ x ∈ xs, x.size ≤ maxLen) (hc : ∀ k, k < n → w.cell? ⟨b, off + k, none⟩ = some (.string (xs.getD k ⟨#[]⟩))) :
    Calls Tryz.prog 16 #[.slice (some ⟨b, off, none⟩) n c] w fun e w' => LnR w xs e w' := by
  unfold maxLen at hm
  have HC := Lib.hid hc
  have HZ := Lib.hid hs
  have HL := Lib.hid hn
  clear hc hs hn
  go_enter Tryz.func16, Tryz.ntmps16
  go_wp2_with fail
  go_loop [3, 4] (fun v i => ∃ k s : Nat, k ≤ n ∧ k ≤ 41 ∧ i = .int .i64 k ∧ v = .int .i64 s ∧ s ≤ 1000 ∧ Hid (s = ((xs.take k).map ByteArray.size).sum) ∧ Hid (∀ x ∈ xs.take k, ∀ b ∈ x.data.toList, b ≠ 10 ∧ b ≠ 9)) (fun _ i => n - (RowKit.intOf i).toNat)
  case atStart => exact ⟨0, 0, Nat.zero_le _, by decide, rfl, rfl, by decide, Lib.hid rfl, Lib.hid (fun x hx => by cases hx)⟩
  case round =>
    obtain ⟨k, s, hk, hk41, rfl, rfl, hs, HS, HK⟩ := hrel
    by_cases c0 : k < n
    · have cx := HC.out k c0
      have hkl : k < xs.length := by rw [HL.out]; exact c0
      have HT := Lib.hid (take_one (d := (⟨#[]⟩ : ByteArray)) hkl)
      have zx := HZ.out (xs.getD k ⟨#[]⟩) (by rw [List.getD_eq_getElem?_getD, List.getElem?_eq_getElem hkl]; exact List.getElem_mem _)
      clear hkl
      obtain ⟨x, hx⟩ : ∃ x, xs.getD k ⟨#[]⟩ = x := ⟨_, rfl⟩
      rw [hx] at cx HT zx
      unfold maxLen at zx
      clear hx
      have ckn : (k : Int) < (n : Int) := by omega
      by_cases c1 : 1000 < s + x.size
      · have t1 : (1000 : Int) - (s : Int) < (x.size : Int) := by omega
        clear HS HK HT
        go_wp2_with fail
        go_ret
        exact LnR.of fun q => by cases q
      · have t1 : ¬ (1000 : Int) - (s : Int) < (x.size : Int) := by omega
        by_cases c2 : 40 < k
        · have t2 : (40 : Int) < (k : Int) := by omega
          clear HS HK HT
          go_wp2_with fail
          go_ret
          exact LnR.of fun q => by cases q
        · have t2 : ¬ (40 : Int) < (k : Int) := by omega
          have HS2 : Hid (s + x.size = ((xs.take (k + 1)).map ByteArray.size).sum) := Lib.hid (by rw [HT.out, List.map_append, List.sum_append, ← HS.out]; simp)
          clear HS
          go_wp2_with fail
          go_loop [5] (fun j => ∃ q : Nat, q ≤ x.size ∧ j = .int .i64 q ∧ Hid (∀ b ∈ x.data.toList.take q, b ≠ 10 ∧ b ≠ 9)) (fun j => x.size - (RowKit.intOf j).toNat)
          case atStart => exact ⟨0, Nat.zero_le _, rfl, Lib.hid (fun b hb => by cases hb)⟩
          case round =>
            obtain ⟨q, hq, rfl, HQ⟩ := hrel
            by_cases cq : q < x.size
            · by_cases d1 : x[q].toNat = 10
              · have t3 : ((x[q].toNat : Int) == 10) = true := by rw [d1]; rfl
                clear HQ HK HT HS2 d1
                go_wp2_with fail
                go_ret
                exact LnR.of fun q => by cases q
              · have t3 : ((x[q].toNat : Int) == 10) = false := beq_eq_false_iff_ne.2 (by omega)
                by_cases d2 : x[q].toNat = 9
                · have t4 : ((x[q].toNat : Int) == 9) = true := by rw [d2]; rfl
                  clear HQ HK HT HS2 d1 d2
                  go_wp2_with fail
                  go_ret
                  exact LnR.of fun q => by cases q
                · have t4 : ((x[q].toNat : Int) == 9) = false := beq_eq_false_iff_ne.2 (by omega)
                  have HQ2 : Hid (∀ b ∈ x.data.toList.take (q + 1), b ≠ 10 ∧ b ≠ 9) := Lib.hid (by
                    rw [take_next x q cq]
                    intro b hb
                    rcases List.mem_append.1 hb with p | p
                    · exact HQ.out b p
                    · rw [List.mem_singleton.1 p]
                      exact ⟨fun e => d1 (by rw [e]; rfl), fun e => d2 (by rw [e]; rfl)⟩)
                  clear HQ d1 d2
                  go_wp2_with fail
                  go_round
                  case rel => exact ⟨q + 1, cq, by go_num, HQ2⟩
                  case measure => simp [RowKit.intOf]; omega
            · have HK2 : Hid (∀ y ∈ xs.take (k + 1), ∀ b ∈ y.data.toList, b ≠ 10 ∧ b ≠ 9) := Lib.hid (by
                rw [HT.out]
                intro y hy
                rcases List.mem_append.1 hy with p | p
                · exact HK.out y p
                · rw [List.mem_singleton.1 p]
                  have := HQ.out
                  rw [List.take_of_length_le (by rw [bytes_len]; omega)] at this
                  exact this)
              clear HQ HK HT
              go_wp2_with fail
              go_round
              case rel => exact ⟨k + 1, s + x.size, by omega, by omega, by go_num, by go_num, by omega, HS2, HK2⟩
              case measure => simp [RowKit.intOf]; omega
    · have hkn : k = n := by omega
      subst hkn
      have HX : Hid (Lns xs) := Lib.hid (by
        have hx : xs.take k = xs := List.take_of_length_le (by rw [HL.out]; exact Nat.le_refl _)
        have a1 := HS.out
        have a2 := HK.out
        rw [hx] at a1 a2
        exact ⟨by rw [HL.out]; exact h1, by rw [HL.out]; exact hk41, by rw [← a1]; exact hs, a2⟩)
      have t5 : (0 : Int) < (k : Int) := by omega
      clear HS HK
      go_wp2_with fail
      go_ret
      exact LnR.of fun _ => HX.out
set_option maxRecDepth 100000 in
set_option maxHeartbeats 4000000 in
theorem lplain_any (xs : List ByteArray) (b off n c : Nat) (w : World) (H : Lns xs) (hn : xs.length = n) (hc : ∀ k, k < n → w.cell? ⟨b, off + k, none⟩ = some (.string (xs.getD k ⟨#[]⟩))) :
    Calls Tryz.prog 17 #[.slice (some ⟨b, off, none⟩) n c] w fun e w' => ∃ P : ByteArray, e = .returned (.string P) ∧ w = w' ∧ P.data.toList = aL (lsB xs) ∧ P.size ≤ 1041 := by
  have HC := Lib.hid hc
  have HL := Lib.hid hn
  have HH := Lib.hid H
  have h41 : n ≤ 41 := by rw [← hn]; exact H.few
  clear hc hn H
  go_enter Tryz.func17, Tryz.ntmps17
  go_wp2_with fail
  go_loop [3, 4] (fun v i => ∃ (k : Nat) (A : ByteArray), k ≤ n ∧ i = .int .i64 k ∧ v = .string A ∧ A.size ≤ 1000 + k ∧ Hid (A.data.toList = aL (lsB (xs.take k)))) (fun _ i => n - (RowKit.intOf i).toNat)
  case atStart => exact ⟨0, ⟨#[]⟩, Nat.zero_le _, rfl, rfl, by decide, Lib.hid rfl⟩
  case round =>
    obtain ⟨k, A, hk, rfl, rfl, hA, HA⟩ := hrel
    by_cases c0 : k < n
    · have cx := HC.out k c0
      have hkl : k < xs.length := by rw [HL.out]; exact c0
      have HT := Lib.hid (lsB_take hkl)
      have hsz := aL_size (xs.take (k + 1))
      have hle := sum_take_le xs (k + 1)
      have h1000 := HH.out.size
      rw [HT.out, aL_snoc, ← HA.out, List.length_append, List.length_append, bytes_len, bytes_len] at hsz
      rw [List.length_take, Nat.min_eq_left (by omega)] at hsz
      clear hkl
      obtain ⟨x, hx⟩ : ∃ x, xs.getD k ⟨#[]⟩ = x := ⟨_, rfl⟩
      rw [hx] at cx HT hsz
      clear hx
      have ckn : (k : Int) < (n : Int) := by omega
      have l1 : ([10] : List UInt8).length = 1 := rfl
      have hx1 : A.size + x.size + 1 ≤ 1000 + (k + 1) := by omega
      obtain ⟨A', hA'⟩ : ∃ A', A ++ x ++ (⟨#[10]⟩ : ByteArray) = A' := ⟨_, rfl⟩
      have z1 : (⟨#[10]⟩ : ByteArray).size = 1 := rfl
      have y1 : A'.size ≤ 1000 + (k + 1) := by rw [← hA', ByteArray.size_append, ByteArray.size_append]; omega
      have NA : Hid (A'.data.toList = aL (lsB (xs.take (k + 1)))) := Lib.hid (by rw [← hA', bytes_app, bytes_app, HA.out, HT.out, aL_snoc])
      clear HA HT hsz hle h1000 l1
      go_wp2_with fail
      go_round
      case rel => exact ⟨k + 1, A', by omega, by go_num, rfl, y1, NA⟩
      case measure => simp [RowKit.intOf]; omega
    · have hkn : k = n := by omega
      subst hkn
      have HX : Hid (A.data.toList = aL (lsB xs)) := Lib.hid (by
        have := HA.out
        rw [List.take_of_length_le (by rw [HL.out]; exact Nat.le_refl _)] at this
        exact this)
      clear HA
      go_wp2_with fail
      go_ret
      exact ⟨A, rfl, rfl, HX.out, by omega⟩
end Go.Proofs.YtdelaanaohjnkaaGreatDoor

/-
  BlockIndents is true of any texts.
-/
namespace Go.Proofs.YtdelaanaohjnkaaGreatDoor
open Go.RowKit Go.Lib

theorem all_next2 {l : List UInt8} {k : Nat} (h : (l.take k).all isB = true) (hk : k < l.length) (hb : isB l[k] = true) : (l.take (k + 1)).all isB = true := by
  rw [List.take_succ_eq_append_getElem hk, List.all_append, h, List.all_cons, hb]; rfl
theorem blankL_no {l : List UInt8} {k : Nat} (hk : k < l.length) (hb : isB l[k] = false) : blankL l = false := by
  unfold blankL
  rw [← Bool.not_eq_true, List.all_eq_true]
  intro h
  rw [h _ (List.getElem_mem hk)] at hb
  cases hb
set_option maxRecDepth 100000 in
set_option maxHeartbeats 2000000 in
theorem lawBlank_any (s : ByteArray) (w : World) (hs : s.size ≤ maxLen) :
    Calls Tryz.prog 22 #[.string s] w fun e w' => e = .returned (.bool (blankL s.data.toList)) ∧ w = w' := by
  have hl := Lib.hid (bytes_len s)
  unfold maxLen at hs
  go_enter Tryz.func22, Tryz.ntmps22
  go_wp2_with fail
  go_loop [3] (fun i => ∃ k : Nat, k ≤ s.size ∧ i = .int .i64 k ∧ Hid ((s.data.toList.take k).all isB = true)) (fun i => s.size - (RowKit.intOf i).toNat)
  case atStart => exact ⟨0, Nat.zero_le _, rfl, Lib.hid rfl⟩
  case round =>
    obtain ⟨k, hk, rfl, HC⟩ := hrel
    by_cases c : k < s.size
    · by_cases c1 : s[k].toNat = 32
      · have t1 : ((s[k].toNat : Int) != 32) = false := by rw [c1]; rfl
        have HN : Hid ((s.data.toList.take (k + 1)).all isB = true) := Lib.hid (all_next2 HC.out (by rw [hl.out]; exact c) (by
          show isB s[k] = true
          unfold isB; rw [decide_eq_true c1]; rfl))
        clear HC c1
        go_wp2_with fail
        go_round
        case rel => exact ⟨k + 1, by omega, by go_num, HN⟩
        case measure => simp [RowKit.intOf]; omega
      · have t1 : ((s[k].toNat : Int) != 32) = true := by rw [bne_iff_ne]; omega
        by_cases c2 : s[k].toNat = 9
        · have t2 : ((s[k].toNat : Int) != 9) = false := by rw [c2]; rfl
          have HN : Hid ((s.data.toList.take (k + 1)).all isB = true) := Lib.hid (all_next2 HC.out (by rw [hl.out]; exact c) (by
            show isB s[k] = true
            unfold isB; rw [decide_eq_true c2, Bool.or_true]))
          clear HC c1 c2
          go_wp2_with fail
          go_round
          case rel => exact ⟨k + 1, by omega, by go_num, HN⟩
          case measure => simp [RowKit.intOf]; omega
        · have t2 : ((s[k].toNat : Int) != 9) = true := by rw [bne_iff_ne]; omega
          have HN : Hid (blankL s.data.toList = false) := Lib.hid (blankL_no (k := k) (by rw [hl.out]; exact c) (by
            show isB s[k] = false
            unfold isB; rw [decide_eq_false c1, decide_eq_false c2]; rfl))
          clear HC c1 c2
          go_wp2_with fail
          go_ret
          exact ⟨ret_bool HN.out.symm, rfl⟩
    · have HA : Hid (blankL s.data.toList = true) := Lib.hid (by
        have := HC.out
        rw [List.take_of_length_le (by rw [hl.out]; omega)] at this
        exact this)
      clear HC
      go_wp2_with fail
      go_ret
      exact ⟨ret_bool HA.out.symm, rfl⟩
theorem iL_snoc (ws : List (List UInt8)) (w : List UInt8) : iL (ws ++ [w]) = iL ws ++ [32, 32, 32, 32] ++ w ++ [10] := by unfold iL fourL; simp
set_option maxRecDepth 100000 in
set_option maxHeartbeats 8000000 in
theorem bind_some (xs : List ByteArray) (b off n c : Nat) (w : World) (hn : xs.length = n) (h1 : 0 < n) (hm : n ≤ maxLen) (hs : ∀ x ∈ xs, x.size ≤ maxLen) (hc : ∀ k, k < n → w.cell? ⟨b, off + k, none⟩ = some (.string (xs.getD k ⟨#[]⟩))) (hO : Lis w) (hM : Mxl w) :
    Calls Tryz.prog 6 #[.slice (some ⟨b, off, none⟩) n c] w fun e w' => e = .returned (.bool true) ∧ Keeps w w' := by
  have LN := Lib.hid (lines_some xs b off n c w hn h1 hm hs hc)
  have BA := Lib.hid (fun (x : ByteArray) (h : x.size ≤ maxLen) => lawBlank_any x w h)
  have PA := Lib.hid (fun t (h : t.size ≤ 5000) => parse_any t w h hO hM)
  have AW := Lib.hid (fun W' (q : Keeps w W') => awake12_any W' (hO.keep q) (hM.keep q))
  have HC := Lib.hid hc
  have HZ := Lib.hid hs
  have HL := Lib.hid hn
  have d0 := hc 0 h1
  have d1 := hc (n - 1) (by omega)
  have z0 := Lib.hid (HZ.out (xs.getD 0 ⟨#[]⟩) (by rw [List.getD_eq_getElem?_getD, List.getElem?_eq_getElem (by omega)]; exact List.getElem_mem _))
  have z1 := Lib.hid (HZ.out (xs.getD (n - 1) ⟨#[]⟩) (by rw [List.getD_eq_getElem?_getD, List.getElem?_eq_getElem (by omega)]; exact List.getElem_mem _))
  have EF : Hid (∃ m, lsB xs = (xs.getD 0 ⟨#[]⟩).data.toList :: m) := Lib.hid (by
    cases xs with
    | nil => simp at hn; omega
    | cons x m => exact ⟨lsB m, rfl⟩)
  have EL : Hid (∃ i, lsB xs = i ++ [(xs.getD (n - 1) ⟨#[]⟩).data.toList]) := Lib.hid (by
    have e := lsB_take (xs := xs) (k := n - 1) (by omega)
    rw [show n - 1 + 1 = n by omega, List.take_of_length_le (by omega)] at e
    exact ⟨_, e⟩)
  unfold maxLen at hm
  obtain ⟨f, hf⟩ : ∃ f, xs.getD 0 ⟨#[]⟩ = f := ⟨_, rfl⟩
  obtain ⟨z, hz⟩ : ∃ z, xs.getD (n - 1) ⟨#[]⟩ = z := ⟨_, rfl⟩
  rw [hf] at d0 z0 EF
  rw [hz] at d1 z1 EL
  obtain ⟨n1, hn1⟩ : ∃ n1, n - 1 = n1 := ⟨_, rfl⟩
  rw [hn1] at d1
  have hn2 : (n : Int) - 1 = (n1 : Int) := by omega
  have hn3 : n1 < n := by omega
  rw [Nat.add_zero] at d0
  clear hf hz hn1 hO hM hc hs hn
  go_enter Tryz.func6, Tryz.ntmps6
  go_wp2_with fail
  refine LN.out.mono ?_
  rintro e w1 ⟨r, rfl, rfl, hr⟩
  clear LN
  cases r with
  | false =>
    have AX := Lib.hid (AW.out w (Keeps.refl w))
    clear hr
    go_wp2_with fail
    refine AX.out.mono ?_
    rintro e w1 ⟨rfl, k1⟩
    go_wp2_with fail
    go_ret
    exact ⟨rfl, k1⟩
  | true =>
    have HH := Lib.hid (hr rfl)
    have h41 : n ≤ 41 := by have := HH.out.few; rw [HL.out] at this; exact this
    clear hr
    have BF := Lib.hid (BA.out f z0.out)
    have BZ := Lib.hid (BA.out z z1.out)
    cases hbf : blankL f.data.toList with
    | true =>
      rw [hbf] at BF
      have AX := Lib.hid (AW.out w (Keeps.refl w))
      clear hbf
      go_wp2_with fail
      refine BF.out.mono ?_
      rintro e w1 ⟨rfl, rfl⟩
      go_wp2_with fail
      refine AX.out.mono ?_
      rintro e w1 ⟨rfl, k1⟩
      go_wp2_with fail
      go_ret
      exact ⟨rfl, k1⟩
    | false =>
      rw [hbf] at BF
      have HBF := Lib.hid hbf
      clear hbf
      cases hbz : blankL z.data.toList with
      | true =>
        rw [hbz] at BZ
        have AX := Lib.hid (AW.out w (Keeps.refl w))
        clear hbz
        go_wp2_with fail
        refine BF.out.mono ?_
        rintro e w1 ⟨rfl, rfl⟩
        go_wp2_with fail
        refine BZ.out.mono ?_
        rintro e w1 ⟨rfl, rfl⟩
        go_wp2_with fail
        refine AX.out.mono ?_
        rintro e w1 ⟨rfl, k1⟩
        go_wp2_with fail
        go_ret
        exact ⟨rfl, k1⟩
      | false =>
        rw [hbz] at BZ
        have HBZ := Lib.hid hbz
        clear hbz
        go_wp2_with fail
        refine BF.out.mono ?_
        rintro e w1 ⟨rfl, rfl⟩
        go_wp2_with fail
        refine BZ.out.mono ?_
        rintro e w1 ⟨rfl, rfl⟩
        clear BF BZ d0 d1 hn2
        go_wp2_with fail
        go_loop [3, 4, 5] (fun A B i => ∃ (k : Nat) (a1 a2 : ByteArray), k ≤ n ∧ i = .int .i64 k ∧ A = .string a1 ∧ B = .string a2 ∧ a1.size = a2.size + 4 * k ∧ a2.size ≤ 1000 + k ∧ Hid (a1.data.toList = iL (lsB (xs.take k))) ∧ Hid (a2.data.toList = aL (lsB (xs.take k)))) (fun _ _ i => n - (RowKit.intOf i).toNat)
        case atStart => exact ⟨0, ⟨#[]⟩, ⟨#[]⟩, Nat.zero_le _, rfl, rfl, rfl, rfl, by decide, Lib.hid rfl, Lib.hid rfl⟩
        case round =>
          obtain ⟨k, a1, a2, hk, rfl, rfl, rfl, s1, s2, HA, HB⟩ := hrel
          by_cases c0 : k < n
          · have cx := HC.out k c0
            have hkl : k < xs.length := by rw [HL.out]; exact c0
            have HT := Lib.hid (lsB_take hkl)
            have hsz := aL_size (xs.take (k + 1))
            have hle := sum_take_le xs (k + 1)
            have h1000 := HH.out.size
            rw [HT.out, aL_snoc, ← HB.out, List.length_append, List.length_append, bytes_len, bytes_len] at hsz
            rw [List.length_take, Nat.min_eq_left (by omega)] at hsz
            clear hkl
            obtain ⟨x, hx⟩ : ∃ x, xs.getD k ⟨#[]⟩ = x := ⟨_, rfl⟩
            rw [hx] at cx HT hsz
            clear hx
            have ckn : (k : Int) < (n : Int) := by omega
            have l1 : ([10] : List UInt8).length = 1 := rfl
            have hx1 : a2.size + x.size + 1 ≤ 1000 + (k + 1) := by omega
            obtain ⟨A', hA'⟩ : ∃ A', a1 ++ (⟨#[32, 32, 32, 32]⟩ : ByteArray) ++ x ++ (⟨#[10]⟩ : ByteArray) = A' := ⟨_, rfl⟩
            obtain ⟨B', hB'⟩ : ∃ B', a2 ++ x ++ (⟨#[10]⟩ : ByteArray) = B' := ⟨_, rfl⟩
            have y0 : (⟨#[10]⟩ : ByteArray).size = 1 := rfl
            have y4 : (⟨#[32, 32, 32, 32]⟩ : ByteArray).size = 4 := rfl
            have y2 : B'.size = a2.size + x.size + 1 := by rw [← hB', ByteArray.size_append, ByteArray.size_append, y0]
            have y1 : A'.size = B'.size + 4 * (k + 1) := by rw [y2, ← hA', ByteArray.size_append, ByteArray.size_append, ByteArray.size_append]; omega
            have y3 : B'.size ≤ 1000 + (k + 1) := by omega
            have NA : Hid (A'.data.toList = iL (lsB (xs.take (k + 1)))) := Lib.hid (by rw [← hA', bytes_app, bytes_app, bytes_app, HA.out, HT.out, iL_snoc])
            have NB : Hid (B'.data.toList = aL (lsB (xs.take (k + 1)))) := Lib.hid (by rw [← hB', bytes_app, bytes_app, HB.out, HT.out, aL_snoc])
            have Y1 := Lib.hid y1
            have Y3 := Lib.hid y3
            clear HA HB HT hsz hle h1000 l1 y1 y2 y3
            go_wp2_with fail
            go_round
            case rel => exact ⟨k + 1, A', B', by omega, by go_num, rfl, rfl, Y1.out, Y3.out, NA, NB⟩
            case measure => simp [RowKit.intOf]; omega
          · have hkn : k = n := by omega
            subst hkn
            have hx : xs.take k = xs := List.take_of_length_le (by rw [HL.out]; exact Nat.le_refl _)
            rw [hx] at HA HB
            obtain ⟨m, em⟩ := EF.out
            obtain ⟨i, ei⟩ := EL.out
            have PX : Hid (parseM a1.data.toList = some (docT [.mk 7 0 false 0 0 false [] a2.data.toList []], [])) := Lib.hid (by
              rw [HA.out, HB.out]
              exact ind_parse (fun v hv b hb => by
                obtain ⟨x, hx, rfl⟩ := List.mem_map.1 hv
                exact (HH.out.ok x hx b hb).1) em HBF.out ei HBZ.out)
            have CX := Lib.hid (PA.out a1 (by omega))
            clear PA HA HB hx EF EL em ei BA z0 z1 HC HZ HL
            go_wp2_with fail
            refine CX.out.mono ?_
            rintro e w1 ⟨kk, hp⟩
            obtain ⟨kv, v, rfl, hkk, hrf, _⟩ := hp.open PX.out
            obtain ⟨ao, cap, ekv, _, _, hg⟩ := hkk.slice
            obtain ⟨g, rfl⟩ := hg (Nat.succ_pos _)
            have ekv1 : kv = .slice (some ⟨g, 0, none⟩) 1 cap := ekv
            subst ekv1
            obtain ⟨va, vc, rfl⟩ : ∃ va vc, v = .slice va 0 vc := by
              rcases hrf.2 with ⟨q, _⟩ | ⟨gr, capr, _, q, _⟩
              · exact ⟨none, 0, q⟩
              · exact ⟨_, capr, q⟩
            have ev : blkV 1 0 false 0 0 false [] [] (.slice (some ⟨g, 0, none⟩) 1 cap) = .agg #[.int .i64 1, .int .i64 0, .bool false, .int .i64 0, .int .u8 0, .bool false, .string ⟨#[]⟩, .string ⟨#[]⟩, (.slice (some ⟨g, 0, none⟩) 1 cap), .slice none 0 0] := rfl
            rw [ev]
            have KA := (Keeps.refl w1).alloc (.cells #[.int .i64 1, .int .i64 0, .bool false, .int .i64 0, .int .u8 0, .bool false, .string ⟨#[]⟩, .string ⟨#[]⟩, (.slice (some ⟨g, 0, none⟩) 1 cap), .slice none 0 0] 26)
            have KE := Lib.hid (kk.trans KA)
            have x8 := (Blk.new w1 26 #[.int .i64 1, .int .i64 0, .bool false, .int .i64 0, .int .u8 0, .bool false, .string ⟨#[]⟩, .string ⟨#[]⟩, (.slice (some ⟨g, 0, none⟩) 1 cap), .slice none 0 0]).cell 8 (v := .slice (some ⟨g, 0, none⟩) 1 cap) rfl
            obtain ⟨_, am, _⟩ := (hkk.keep (Nat.le_refl _) KA).at (i := 0) rfl
            have AM := Lib.hid am
            have AX := Lib.hid (AW.out _ KE.out)
            obtain ⟨bb, hbb⟩ : ∃ bb, w1.heap.size = bb := ⟨_, rfl⟩
            rw [hbb] at x8
            clear hp hkk ev hg ekv KA kk CX PX am hrf AW
            go_wp2_with fail
            generalize w1.alloc (.cells #[.int .i64 1, .int .i64 0, .bool false, .int .i64 0, .int .u8 0, .bool false, .string ⟨#[]⟩, .string ⟨#[]⟩, (.slice (some ⟨g, 0, none⟩) 1 cap), .slice none 0 0] 26) = w2 at *
            refine AX.out.mono ?_
            rintro e w3 ⟨rfl, k3⟩
            have X8 := keep_cell x8 k3
            have q0 : w3.cell? ⟨g, 0, none⟩ = some (.int .i64 7) := (AM.out.keep k3).c0
            have q7 : w3.cell? ⟨g, 7, none⟩ = some (.string a2) := by have := (AM.out.keep k3).c7; rw [same_b] at this; exact this
            have K3 := Lib.hid (KE.out.trans k3)
            clear k3 AM AX x8
            go_wp2_with fail
            go_ret
            exact ⟨rfl, K3.out⟩
set_option maxRecDepth 100000 in
set_option maxHeartbeats 2000000 in
theorem lines_none (a : Option Addr) (c : Nat) (w : World) : Calls Tryz.prog 16 #[.slice a 0 c] w fun e w' => e = .returned (.bool false) ∧ w = w' := by
  go_enter Tryz.func16, Tryz.ntmps16
  go_wp2_with fail
  go_loop [3, 4] (fun v i => v = .int .i64 0 ∧ i = .int .i64 0) (fun _ _ => 0)
  case atStart => exact ⟨rfl, rfl⟩
  case round =>
    obtain ⟨rfl, rfl⟩ := hrel
    go_wp2_with fail
    go_ret
    exact ⟨rfl, rfl⟩
set_option maxRecDepth 100000 in
set_option maxHeartbeats 2000000 in
theorem bind_none (a : Option Addr) (c : Nat) (w : World) (hO : Lis w) (hM : Mxl w) : Calls Tryz.prog 6 #[.slice a 0 c] w fun e w' => e = .returned (.bool true) ∧ Keeps w w' := by
  have AX := Lib.hid (awake12_any w hO hM)
  have LN := Lib.hid (lines_none a c w)
  clear hO hM
  go_enter Tryz.func6, Tryz.ntmps6
  go_wp2_with fail
  refine LN.out.mono ?_
  rintro e w1 ⟨rfl, rfl⟩
  clear LN
  go_wp2_with fail
  refine AX.out.mono ?_
  rintro e w1 ⟨rfl, k1⟩
  go_wp2_with fail
  go_ret
  exact ⟨rfl, k1⟩
theorem bindents_any (a : Option Addr) (n c : Nat) (xs : List ByteArray) (w : World) (hn : xs.length = n) (hs : ∀ x ∈ xs, x.size ≤ maxLen) (hc : 0 < n → ∃ b off, a = some ⟨b, off, none⟩ ∧ ∀ k, k < n → w.cell? ⟨b, off + k, none⟩ = some (.string (xs.getD k ⟨#[]⟩))) (hm : n ≤ maxLen) (hO : Lis w) (hM : Mxl w) :
    Calls Tryz.prog 6 #[.slice a n c] w fun e w' => e = .returned (.bool true) ∧ Keeps w w' := by
  by_cases h : n = 0
  · subst h; exact bind_none a c w hO hM
  · obtain ⟨b, off, rfl, hcell⟩ := hc (by omega)
    exact bind_some xs b off n c w hn (by omega) hm hs hcell hO hM
end Go.Proofs.YtdelaanaohjnkaaGreatDoor


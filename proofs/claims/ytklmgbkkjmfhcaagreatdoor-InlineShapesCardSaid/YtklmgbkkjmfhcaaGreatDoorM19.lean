/-
  Texts of the proof, one behind the other: Rwe.
-/
import Derived.Test.YtklmgbkkjmfhcaaGreatDoorM11
import Derived.Test.YtklmgbkkjmfhcaaGreatDoorM18
/-
  Contracts of Escaped, codeText, Code, of the package raw, for texts of at most 100,000 bytes.
-/
namespace Go.Proofs.YtklmgbkkjmfhcaaGreatDoor
open Go.RowKit Go.Lib

/-! ### Escaped -/
/-- What Escaped tells. -/
def EscV (l : List UInt8) : Value := .tuple #[.string ⟨(escT l).toArray⟩, .bool (escB l)]
theorem escV_no {l : List UInt8} (h : escB l = false) : EscV l = .tuple #[.string ⟨#[]⟩, .bool false] := by
  unfold EscV escT
  rw [h]
  rfl
theorem escV_yes {l : List UInt8} (h : escB l = true) : EscV l = .tuple #[.string ⟨[l.getD 1 0].toArray⟩, .bool true] := by
  unfold EscV escT
  rw [h]
  rfl
theorem rone_second (s : ByteArray) (h : 1 < s.size) : s.extract 1 2 = ⟨[s[1]].toArray⟩ := bytes_eq (by
  rw [Lib.extract_data]
  have := drop_cons s.data.toList 1 (by rw [bytes_len]; exact h)
  rw [this]; rfl)
theorem rgetD_second (s : ByteArray) (h : 1 < s.size) : s.data.toList.getD 1 0 = s[1] := by
  have h2 : 1 < s.data.toList.length := by rw [bytes_len]; exact h
  rw [List.getD, List.getElem?_eq_getElem h2]; rfl
set_option maxRecDepth 100000 in
set_option maxHeartbeats 400000 in
theorem escaped_any (s : ByteArray) (w : World) (hs : s.size ≤ 100000) :
    Calls Tryz.prog 24 #[.string s] w fun e w' => e = .returned (EscV s.data.toList) ∧ Keeps w w' := by
  have HP := Lib.hid (fun W => (Tryz.strings_HasPrefix s ⟨#[92]⟩ W).mono (fun _ _ h => And.intro h.1 h.2.symm))
  rw [show (⟨#[92]⟩ : ByteArray).data.toList = [92] from rfl] at HP
  have HE : Hid (escB s.data.toList = (hasPrefix s.data.toList [92] && decide (1 < s.data.toList.length) && signB (s.data.toList.getD 1 0))) := Lib.hid rfl
  cases h1 : hasPrefix s.data.toList [92] with
  | false =>
    rw [escV_no (by rw [HE.out, h1]; rfl)]
    rw [h1] at HP
    clear h1 HE
    go_enter Tryz.func24, Tryz.ntmps24
    go_wp2_with fail
    refine (HP.out _).mono ?_
    rintro e w1 ⟨rfl, rfl⟩
    go_wp2_with fail
    go_ret2
    exact ⟨rfl, Keeps.refl _⟩
  | true =>
    have hz := pre_len h1
    rw [bytes_len] at hz
    have hz1 : 1 ≤ s.size := hz
    rw [h1] at HP
    by_cases c0 : s.size = 1
    · have q0 := beqT (show (s.size : Int) = 1 by omega)
      rw [escV_no (by rw [HE.out, h1, bytes_len, decide_eq_false (by omega)]; rfl)]
      clear h1 HE c0 hz hz1
      go_enter Tryz.func24, Tryz.ntmps24
      go_wp2_with fail
      refine (HP.out _).mono ?_
      rintro e w1 ⟨rfl, rfl⟩
      go_wp2_with fail
      go_ret2
      exact ⟨rfl, Keeps.refl _⟩
    · have h2 : 1 < s.size := by omega
      have q0 := beqF (show ¬ (s.size : Int) = 1 by omega)
      have SG := Lib.hid (fun W => sign_any s[1] W)
      have hb := s[1].toNat_lt
      have HE2 : Hid (escB s.data.toList = signB s[1]) := Lib.hid (by rw [HE.out, h1, bytes_len, decide_eq_true h2, rgetD_second s h2]; rfl)
      cases c1 : signB s[1] with
      | false =>
        rw [escV_no (HE2.out.trans c1)]
        rw [c1] at SG
        clear h1 HE HE2 c0 c1 hz hz1
        go_enter Tryz.func24, Tryz.ntmps24
        go_wp2_with fail
        refine (HP.out _).mono ?_
        rintro e w1 ⟨rfl, rfl⟩
        go_wp2_with fail
        refine (SG.out _).mono ?_
        rintro e w1 ⟨rfl, rfl⟩
        go_wp2_with fail
        go_ret2
        exact ⟨rfl, Keeps.refl _⟩
      | true =>
        rw [escV_yes (HE2.out.trans c1), rgetD_second s h2, ← rone_second s h2]
        rw [c1] at SG
        have CL := Lib.hid (fun W => clone_any (s.extract 1 2) W (by rw [ByteArray.size_extract]; omega))
        clear h1 HE HE2 c0 c1 hz hz1
        go_enter Tryz.func24, Tryz.ntmps24
        go_wp2_with fail
        refine (HP.out _).mono ?_
        rintro e w1 ⟨rfl, rfl⟩
        go_wp2_with fail
        refine (SG.out _).mono ?_
        rintro e w1 ⟨rfl, rfl⟩
        go_wp2_with fail
        refine (CL.out _).mono ?_
        rintro e w1 ⟨rfl, k1⟩
        go_wp2_with fail
        go_ret2
        exact ⟨rfl, k1⟩

/-! ### codeText -/
theorem map_lf_none {l : List UInt8} (h : ∀ k : Nat, l[k]? ≠ some 10) : l.map lfB = l := by
  have : ∀ b ∈ l, lfB b = b := fun b hb => by
    obtain ⟨k, hk⟩ := List.mem_iff_getElem?.1 hb
    unfold lfB
    rw [if_neg (fun e => h k (by rw [hk, e]))]
  rw [List.map_congr_left this, List.map_id']
theorem replace_lf : ∀ (n : Nat) (l : List UInt8), l.length ≤ n → replaceK [10] [32] (count l [10]) l = l.map lfB
  | 0, l, h => by
    have : l = [] := List.length_eq_zero_iff.1 (by omega)
    subst this
    rfl
  | n + 1, l, h => by
    by_cases c : index l [10] = -1
    · rw [count_miss c, replaceK, map_lf_none (indexByte_none (by rw [← index_one]; exact c))]
    · have hg := index_ge l [10]
      have hr := index_room l [10] (by omega)
      obtain ⟨i, hi⟩ : ∃ i : Nat, index l [10] = i := ⟨_, (Int.toNat_of_nonneg (by omega)).symm⟩
      rw [hi] at hr
      have hr' : i + 1 ≤ l.length := by
        have : ([10] : List UInt8).length = 1 := rfl
        omega
      have hs := indexByte_some (l := l) (c := 10) (o := i) (by rw [← index_one]; exact hi)
      have e : l = l.take i ++ 10 :: l.drop (i + 1) := by
        have h1 : i < l.length := by omega
        have h2 : l[i] = 10 := by
          have := hs.1
          rw [List.getElem?_eq_getElem h1] at this
          exact Option.some.inj this
        rw [← h2, ← List.drop_eq_getElem_cons h1, List.take_append_drop]
      have em : l.map lfB = (l.take i).map lfB ++ 32 :: (l.drop (i + 1)).map lfB := by
        conv => lhs; rw [e]
        rw [List.map_append, List.map_cons]
        rfl
      have et : (l.take i).map lfB = l.take i := map_lf_none (fun k => by
        by_cases hk : k < i
        · rw [List.getElem?_take_of_lt hk]
          exact hs.2 k hk
        · rw [List.getElem?_eq_none (by rw [List.length_take]; omega)]
          simp)
      rw [count_hit (by simp) hi, Nat.add_comm, replaceK_hit _ _ _ _ i hi]
      show l.take i ++ [32] ++ replaceK [10] [32] (count (l.drop (i + 1)) [10]) (l.drop (i + 1)) = _
      rw [replace_lf n _ (by rw [List.length_drop]; omega), em, et, List.append_assoc]
      rfl
theorem replaceAll_lf (l : List UInt8) : replaceAll l [10] [32] = ctU l := by
  unfold replaceAll replace replaceNum
  rw [if_neg (by decide), if_pos (.inl (by decide))]
  exact replace_lf _ l (Nat.le_refl _)
theorem rdropWhile_all {p : UInt8 → Bool} : ∀ {l : List UInt8}, (∀ b ∈ l, p b = true) → l.dropWhile p = []
  | [], _ => rfl
  | b :: l, h => by rw [List.dropWhile_cons, if_pos (h b (List.mem_cons_self ..))]; exact rdropWhile_all (fun c hc => h c (List.mem_cons_of_mem _ hc))
theorem dropWhile_any {p : UInt8 → Bool} : ∀ {l : List UInt8} {b : UInt8}, b ∈ l → p b = false → b ∈ l.dropWhile p
  | c :: l, b, hb, h => by
    rw [List.dropWhile_cons]
    split
    · next hc =>
      rcases List.mem_cons.1 hb with e | hb
      · subst e
        rw [h] at hc
        cases hc
      · exact dropWhile_any hb h
    · exact hb
theorem trim_all {l : List UInt8} (h : l.any (fun b => decide (b ≠ 32)) = false) : trimB l 32 = [] := by
  have h1 : ∀ b ∈ l, b = 32 := fun b hb => by
    have := List.any_eq_false.1 h b hb
    simpa using this
  unfold trimB trimRightB
  have : l.reverse.dropWhile (· == 32) = [] := rdropWhile_all (fun b hb => by simp [h1 b (List.mem_reverse.1 hb)])
  rw [this]
  rfl
theorem trim_some {l : List UInt8} (h : l.any (fun b => decide (b ≠ 32)) = true) : 0 < (trimB l 32).length := by
  obtain ⟨b, hb, h1⟩ := List.any_eq_true.1 h
  have h2 : (b == 32) = false := by simpa using h1
  have m1 := dropWhile_any (p := (· == 32)) (List.mem_reverse.2 hb) h2
  have m2 := dropWhile_any (p := (· == 32)) (List.mem_reverse.2 m1) h2
  exact List.length_pos_iff.2 (List.ne_nil_of_mem m2)
theorem ctK_len {u : List UInt8} (h : ctK u = true) : 3 ≤ u.length := by
  unfold ctK at h
  simp only [Bool.and_eq_true] at h
  obtain ⟨⟨h1, h2⟩, h3⟩ := h
  match u with
  | [] => cases h1
  | [a] =>
    obtain ⟨b, hb, h4⟩ := List.any_eq_true.1 h3
    rw [List.mem_singleton] at hb
    subst hb
    have : (32 == b) = true := by simpa [hasPrefix] using h1
    rw [← beq_iff_eq.1 this] at h4
    cases h4
  | [a, c] =>
    obtain ⟨b, hb, h4⟩ := List.any_eq_true.1 h3
    have e1 : 32 = a := by simpa [hasPrefix] using h1
    have e2 : 32 = c := by simpa [hasSuffix, List.isSuffixOf] using h2
    subst e1; subst e2
    simp at hb
    subst hb
    cases h4
  | a :: c :: d :: l => simp
theorem ext_mid (t : ByteArray) : (t.extract 1 (t.size - 1)).data.toList = (t.data.toList.drop 1).dropLast := by
  rw [Lib.extract_data, List.dropLast_eq_take, List.length_drop, bytes_len]

set_option maxRecDepth 100000 in
theorem suffix_any (s p : ByteArray) (w : World) (hs : s.size ≤ 100000) :
    Calls Tryz.prog 40 #[.string s, .string p] w fun e w' => e = .returned (.bool (hasSuffix s.data.toList p.data.toList)) ∧ Keeps w w' :=
  (Tryz.strings_HasSuffix s p w (by omega)).mono fun e w' h => by
    first
      | exact ⟨h.1, h.2 ▸ Keeps.refl _⟩
      | (rcases h with ⟨h1, h2 | h2⟩ <;> exact ⟨h1, by rw [h2]; first | exact Keeps.refl _ | exact (Keeps.refl _).drew⟩)
theorem trim1_any (s : ByteArray) (w : World) (hs : s.size ≤ 100000) :
    Calls Tryz.prog 113 #[.string s, .string ⟨#[32]⟩] w fun e w' => e = .returned (.string ⟨(trimB s.data.toList 32).toArray⟩) ∧ Keeps w w' :=
  (Tryz.strings_Trim_one s 32 (by decide) w (by omega)).mono fun e w' h => by
    obtain ⟨h1, h2⟩ := h
    rcases h2 with h2 | h2
    · exact ⟨h1, by rw [h2]; exact Keeps.refl _⟩
    · exact ⟨h1, by rw [h2]; exact (Keeps.refl _).drew⟩
theorem replaceLf_any (s : ByteArray) (w : World) (hs : s.size ≤ 100000) (hm : Mxl w) :
    Calls Tryz.prog 112 #[.string s, .string ⟨#[10]⟩, .string ⟨#[32]⟩] w fun e w' => e = .returned (.string ⟨(ctU s.data.toList).toArray⟩) ∧ Keeps w w' := by
  obtain ⟨m, hm⟩ := hm
  have hc := countB_mul_le ⟨#[10]⟩ (by decide) s.size s (Nat.le_refl _)
  have h1 : (⟨#[10]⟩ : ByteArray).size = 1 := rfl
  have h2 : (⟨#[32]⟩ : ByteArray).size = 1 := rfl
  have R := Tryz.strings_ReplaceAll s ⟨#[10]⟩ ⟨#[32]⟩ m w (by omega) hm (by decide) (by rw [h1] at hc; rw [h2]; omega)
  rw [show (⟨#[10]⟩ : ByteArray).data.toList = [10] from rfl, show (⟨#[32]⟩ : ByteArray).data.toList = [32] from rfl, replaceAll_lf] at R
  exact R

set_option maxRecDepth 100000 in
set_option maxHeartbeats 1000000 in
theorem codeText_any (s : ByteArray) (w : World) (hs : s.size ≤ 100000) (hm : Mxl w) :
    Calls Tryz.prog 81 #[.string s] w fun e w' => e = .returned (.string ⟨(ctT s.data.toList).toArray⟩) ∧ Keeps w w' := by
  have RP := Lib.hid (replaceLf_any s w hs hm)
  obtain ⟨t, ht⟩ : ∃ t : ByteArray, (⟨(ctU s.data.toList).toArray⟩ : ByteArray) = t := ⟨_, rfl⟩
  have tl : t.data.toList = ctU s.data.toList := by rw [← ht]
  have tz : t.size ≤ 100000 := by rw [← bytes_len, tl]; unfold ctU; rw [List.length_map, bytes_len]; exact hs
  rw [ht] at RP
  have HK : Hid (ctK t.data.toList = (hasPrefix t.data.toList [32] && hasSuffix t.data.toList [32] && t.data.toList.any (fun b => decide (b ≠ 32)))) := Lib.hid rfl
  have HP := Lib.hid (fun W => (Tryz.strings_HasPrefix t ⟨#[32]⟩ W).mono (fun _ _ h => And.intro h.1 h.2.symm))
  rw [show (⟨#[32]⟩ : ByteArray).data.toList = [32] from rfl] at HP
  have HS := Lib.hid (fun W => suffix_any t ⟨#[32]⟩ W tz)
  rw [show (⟨#[32]⟩ : ByteArray).data.toList = [32] from rfl] at HS
  have TR := Lib.hid (fun W => trim1_any t W tz)
  have CL := Lib.hid (fun a W (h : a.size ≤ 100000) => clone_any a W h)
  have E : ctT s.data.toList = if ctK t.data.toList = true then (t.data.toList.drop 1).dropLast else t.data.toList := by rw [tl]; rfl
  rw [E]
  clear E ht tl hm
  have NO : Hid (ctK t.data.toList = false → (⟨(if ctK t.data.toList = true then (t.data.toList.drop 1).dropLast else t.data.toList).toArray⟩ : ByteArray) = t) := Lib.hid fun h => by
    rw [h, if_neg (by decide), bytes_mk]
  cases h1 : hasPrefix t.data.toList [32] with
  | false =>
    rw [h1] at HP HK
    rw [NO.out (HK.out.trans rfl)]
    have C1 := Lib.hid (fun W => CL.out t W tz)
    clear h1 HK NO CL
    go_enter Tryz.func81, Tryz.ntmps81
    go_wp2_with fail
    refine RP.out.mono ?_
    rintro e w1 ⟨rfl, k1⟩
    have K1 := Lib.hid k1
    clear k1
    go_wp2_with fail
    refine (HP.out _).mono ?_
    rintro e w2 ⟨rfl, rfl⟩
    go_wp2_with fail
    refine (C1.out _).mono ?_
    rintro e w3 ⟨rfl, k3⟩
    go_wp2_with fail
    go_ret
    exact ⟨rfl, K1.out.trans k3⟩
  | true =>
    rw [h1] at HP HK
    cases h2 : hasSuffix t.data.toList [32] with
    | false =>
      rw [h2] at HS HK
      rw [NO.out (HK.out.trans rfl)]
      have C1 := Lib.hid (fun W => CL.out t W tz)
      clear h1 h2 HK NO CL
      go_enter Tryz.func81, Tryz.ntmps81
      go_wp2_with fail
      refine RP.out.mono ?_
      rintro e w1 ⟨rfl, k1⟩
      have K1 := Lib.hid k1
      clear k1
      go_wp2_with fail
      refine (HP.out _).mono ?_
      rintro e w2 ⟨rfl, rfl⟩
      go_wp2_with fail
      refine (HS.out _).mono ?_
      rintro e w3 ⟨rfl, k2⟩
      have K2 := Lib.hid (K1.out.trans k2)
      clear k2
      go_wp2_with fail
      refine (C1.out _).mono ?_
      rintro e w4 ⟨rfl, k3⟩
      go_wp2_with fail
      go_ret
      exact ⟨rfl, K2.out.trans k3⟩
    | true =>
      rw [h2] at HS HK
      cases h3 : t.data.toList.any (fun b => decide (b ≠ 32)) with
      | false =>
        rw [h3] at HK
        rw [NO.out (HK.out.trans rfl)]
        rw [trim_all h3] at TR
        have C1 := Lib.hid (fun W => CL.out t W tz)
        clear h1 h2 h3 HK NO CL
        go_enter Tryz.func81, Tryz.ntmps81
        go_wp2_with fail
        refine RP.out.mono ?_
        rintro e w1 ⟨rfl, k1⟩
        have K1 := Lib.hid k1
        clear k1
        go_wp2_with fail
        refine (HP.out _).mono ?_
        rintro e w2 ⟨rfl, rfl⟩
        go_wp2_with fail
        refine (HS.out _).mono ?_
        rintro e w3 ⟨rfl, k2⟩
        have K2 := Lib.hid (K1.out.trans k2)
        clear k2
        go_wp2_with fail
        refine (TR.out _).mono ?_
        rintro e w4 ⟨rfl, k3⟩
        have K3 := Lib.hid (K2.out.trans k3)
        clear k3
        go_wp2_with fail
        refine (C1.out _).mono ?_
        rintro e w5 ⟨rfl, k4⟩
        go_wp2_with fail
        go_ret
        exact ⟨rfl, K3.out.trans k4⟩
      | true =>
        rw [h3] at HK
        have kk : ctK t.data.toList = true := HK.out.trans rfl
        have t3 := ctK_len kk
        rw [bytes_len] at t3
        rw [kk, if_pos rfl, ← ext_mid, bytes_mk]
        obtain ⟨v, hv⟩ : ∃ v : ByteArray, (⟨(trimB t.data.toList 32).toArray⟩ : ByteArray) = v := ⟨_, rfl⟩
        have vp : 0 < v.size := by rw [← bytes_len, ← hv]; exact trim_some h3
        have u0 := tl_ne vp
        have u1 := tl_empty vp
        rw [hv] at TR
        have C1 := Lib.hid (fun W => CL.out (t.extract 1 (t.size - 1)) W (by rw [ByteArray.size_extract]; omega))
        have i1 : ((t.size : Int) - 1).toNat = t.size - 1 := by omega
        clear h1 h2 h3 HK NO CL kk hv vp
        go_enter Tryz.func81, Tryz.ntmps81
        go_wp2_with fail
        refine RP.out.mono ?_
        rintro e w1 ⟨rfl, k1⟩
        have K1 := Lib.hid k1
        clear k1
        go_wp2_with fail
        refine (HP.out _).mono ?_
        rintro e w2 ⟨rfl, rfl⟩
        go_wp2_with fail
        refine (HS.out _).mono ?_
        rintro e w3 ⟨rfl, k2⟩
        have K2 := Lib.hid (K1.out.trans k2)
        clear k2
        go_wp2_with fail
        refine (TR.out _).mono ?_
        rintro e w4 ⟨rfl, k3⟩
        have K3 := Lib.hid (K2.out.trans k3)
        clear k3
        go_wp2_with fail
        refine (C1.out _).mono ?_
        rintro e w5 ⟨rfl, k4⟩
        go_wp2_with fail
        go_ret
        exact ⟨rfl, K3.out.trans k4⟩

/-! ### Code -/
/-- What Code tells. -/
def CodV (l : List UInt8) : Value := .tuple #[.string ⟨(codT l).toArray⟩, .int .i64 (codN l : Nat)]
theorem codV_none {l : List UInt8} (h : codO l = 0 ∨ codK l = 0) : CodV l = .tuple #[.string ⟨#[]⟩, .int .i64 0] := by
  unfold CodV codT codN
  rcases h with h | h
  · rw [if_pos h, if_pos h]
    rfl
  · by_cases h0 : codO l = 0
    · rw [if_pos h0, if_pos h0]
      rfl
    · rw [if_neg h0, if_neg h0, if_pos h, if_pos h]
      rfl
theorem codV_some {l : List UInt8} (h : codO l ≠ 0) (k : codK l ≠ 0) : CodV l = .tuple #[.string ⟨(ctT ((l.drop (codO l)).take (codK l - 1))).toArray⟩, .int .i64 (codO l + (codK l - 1) + codO l : Nat)] := by
  unfold CodV codT codN
  rw [if_neg h, if_neg h, if_neg k, if_neg k]
/-- Where Code's loop stands. -/
def CodAt (l : List UInt8) (i : Nat) : Prop := codO l ≤ i ∧ codK l = upN (i - codO l) (cdE (codO l) (l.drop i))
theorem codAt_start (l : List UInt8) : CodAt l (codO l) := ⟨Nat.le_refl _, by rw [Nat.sub_self, up_zero]; rfl⟩
theorem codAt_end {l : List UInt8} {i : Nat} (h : CodAt l i) (hi : l.length ≤ i) : codK l = 0 := by
  rw [h.2, List.drop_eq_nil_of_le hi, cdE_nil, up_none]
theorem codAt_hit {l : List UInt8} {i : Nat} (h : CodAt l i) (hi : i < l.length) (hn : cntP rTik (l.drop i) = codO l) : codK l = i - codO l + 1 := by
  rw [h.2, cdE_hit (List.ne_nil_of_length_pos (by rw [List.length_drop]; omega)) hn, up_pos _ (by decide)]
  omega
theorem codAt_go {l : List UInt8} {i : Nat} (h : CodAt l i) (hi : i < l.length) (hn : cntP rTik (l.drop i) ≠ codO l) : CodAt l (i + max (cntP rTik (l.drop i)) 1) := by
  refine ⟨by have := h.1; omega, ?_⟩
  rw [h.2, cdE_go (List.ne_nil_of_length_pos (by rw [List.length_drop]; omega)) hn, up_up, List.drop_drop]
  congr 1
  have := h.1
  omega
theorem ret_sn {a b : ByteArray} {n m : Int} (h : a = b) (k : n = m) : Ending.returned (.tuple #[.string a, .int .i64 n]) = .returned (.tuple #[.string b, .int .i64 m]) := by rw [h, k]

set_option maxRecDepth 100000 in
set_option maxHeartbeats 1000000 in
theorem rcode_any (s : ByteArray) (w : World) (hs : s.size ≤ 100000) (hm : Mxl w) :
    Calls Tryz.prog 49 #[.string s] w fun e w' => e = .returned (CodV s.data.toList) ∧ Keeps w w' := by
  have hl := Lib.hid (bytes_len s)
  have S0 := Lib.hid (fun W => stretch_rTik s W hs)
  have hO : cntP rTik s.data.toList = codO s.data.toList := rfl
  rw [hO] at S0
  have ho := cntP_le rTik s.data.toList
  rw [hO, bytes_len] at ho
  obtain ⟨o, HO⟩ : ∃ o, Hid (codO s.data.toList = o) := ⟨_, rfl⟩
  rw [HO.out] at S0 ho
  clear hO
  by_cases c0 : o = 0
  · subst c0
    rw [codV_none (.inl HO.out)]
    clear HO hm
    go_enter Tryz.func49, Tryz.ntmps49
    go_wp2_with fail
    refine (S0.out _).mono ?_
    rintro e w1 ⟨rfl, rfl⟩
    go_wp2_with fail
    go_ret2
    exact ⟨rfl, Keeps.refl _⟩
  · have q0 := beqF (show ¬ (o : Int) = 0 by omega)
    have S1 := Lib.hid (fun k W => stretch_rTik (s.extract k s.size) W (by rw [ByteArray.size_extract]; omega))
    have CT := Lib.hid (fun k => codeText_any (s.extract o k) w (by rw [ByteArray.size_extract]; omega) hm)
    have HC0 : Hid (CodAt s.data.toList o) := Lib.hid (by rw [← HO.out]; exact codAt_start _)
    have NO := Lib.hid (@codV_none s.data.toList)
    have YES := Lib.hid (@codV_some s.data.toList)
    have HB : Hid (∀ i : Nat, i - o + 1 ≠ 0) := Lib.hid fun i => by omega
    clear hm
    go_enter Tryz.func49, Tryz.ntmps49
    go_wp2_with fail
    refine (S0.out _).mono ?_
    rintro e w1 ⟨rfl, rfl⟩
    go_wp2_with fail
    go_loop [5] (fun x => ∃ i : Nat, i ≤ s.size ∧ x = .int .i64 i ∧ Hid (CodAt s.data.toList i)) (fun x => s.size - (RowKit.intOf x).toNat)
    case atStart => exact ⟨o, ho, rfl, HC0⟩
    case round =>
      obtain ⟨i, hi, rfl, HC⟩ := hrel
      by_cases h : i < s.size
      · have A1 := Lib.hid (fun W => S1.out i W)
        rw [Lib.extract_to_end] at A1
        have ha := cntP_le rTik (s.data.toList.drop i)
        rw [List.length_drop, hl.out] at ha
        obtain ⟨n, HN⟩ : ∃ n, Hid (cntP rTik (s.data.toList.drop i) = n) := ⟨_, rfl⟩
        rw [HN.out] at A1 ha
        by_cases c1 : n = o
        · have HK : Hid (codK s.data.toList = i - o + 1) := Lib.hid (by
            have := codAt_hit HC.out (by rw [hl.out]; exact h) (by rw [HN.out, HO.out]; exact c1)
            rw [this, HO.out])
          have oi : o ≤ i := by have := HC.out.1; rw [HO.out] at this; exact this
          have C1 := Lib.hid (CT.out i)
          have EX : Hid ((s.extract o i).data.toList = (s.data.toList.drop o).take (i - o)) := Lib.hid (Lib.extract_data _ _ _)
          have FIN : Hid (CodV s.data.toList = .tuple #[.string ⟨(ctT (s.extract o i).data.toList).toArray⟩, .int .i64 (i + o : Nat)]) := Lib.hid (by
            rw [YES.out (by rw [HO.out]; exact c0) (by rw [HK.out]; exact HB.out i), HK.out, HO.out, EX.out, Nat.add_sub_cancel, show o + (i - o) + o = i + o by omega])
          have q1 := beqT (show (n : Int) = (o : Int) by omega)
          subst c1
          generalize ctT (s.extract n i).data.toList = r at *
          clear HC HN HK EX NO YES HO HC0 c0 HB CT S1
          go_wp2_with fail
          refine (A1.out _).mono ?_
          rintro e w1 ⟨rfl, rfl⟩
          go_wp2_with fail
          refine C1.out.mono ?_
          rintro e w2 ⟨rfl, k1⟩
          go_wp2_with fail
          go_ret2
          exact ⟨(ret_sn rfl (by omega)).trans (congrArg Ending.returned FIN.out.symm), k1⟩
        · have HC2 : Hid (CodAt s.data.toList (i + max n 1)) := Lib.hid (by
            have := codAt_go HC.out (by rw [hl.out]; exact h) (by rw [HN.out, HO.out]; exact c1)
            rw [HN.out] at this
            exact this)
          have q1 := beqF (show ¬ (n : Int) = (o : Int) by omega)
          have hmx : max n 1 ≤ s.size - i := by omega
          obtain ⟨m, hm1, hm2⟩ : ∃ m : Nat, max n 1 = m ∧ 1 ≤ m := ⟨_, rfl, by omega⟩
          have hmi : max (n : Int) 1 = (m : Int) := by omega
          have hmi2 : (if (1 : Int) < (n : Int) then (n : Int) else 1) = (m : Int) := by split <;> omega
          rw [hm1] at HC2 hmx
          clear HC HN c1 hm1
          go_wp2_with fail
          refine (A1.out _).mono ?_
          rintro e w1 ⟨rfl, rfl⟩
          go_wp2_with fail
          go_round
          case rel => exact ⟨i + m, by omega, by go_num, HC2⟩
          case measure => simp [RowKit.intOf]; omega
      · have HK := Lib.hid (codAt_end HC.out (by rw [hl.out]; omega))
        have FIN := Lib.hid (NO.out (.inr HK.out))
        clear HC HK
        go_wp2_with fail
        go_ret2
        exact ⟨congrArg Ending.returned FIN.out.symm, Keeps.refl _⟩
end Go.Proofs.YtklmgbkkjmfhcaaGreatDoor


/-
  Contracts of Escaped, inner, Code, of the document's answer of layer 11, for texts of at most 100,000 bytes.
-/
import Derived.Test.YtggeknhggpdpkaaGreatDoorRxf
import Derived.Test.YtggeknhggpdpkaaGreatDoorRsg
import Derived.Test.YtggeknhggpdpkaaGreatDoorMpa
namespace Go.Proofs.YtggeknhggpdpkaaGreatDoor
open Go.RowKit Go.Lib

/-! ### Escaped -/
set_option maxRecDepth 100000 in
set_option maxHeartbeats 400000 in
theorem descaped_any (s : ByteArray) (w : World) (hs : s.size ≤ 100000) :
    Calls Tryz.prog 10 #[.string s] w fun e w' => e = .returned (EscV s.data.toList) ∧ w = w' := by
  have HE : Hid (escB s.data.toList = (hasPrefix s.data.toList [92] && decide (1 < s.data.toList.length) && signB (s.data.toList.getD 1 0))) := Lib.hid rfl
  by_cases h2 : 1 < s.size
  · have h1 : 0 < s.size := by omega
    have q0 : decide ((1 : Int) < (s.size : Int)) = true := decide_eq_true (by omega)
    have b0 := s[0].toNat_lt
    have b1 := s[1].toNat_lt
    have SG := Lib.hid (fun W => rsign_any s[1] W)
    have HP : Hid (hasPrefix s.data.toList [92] = decide (s[0].toNat = 92)) := Lib.hid (by rw [pre_fr 92 92 rfl, fr_first _ s h1])
    by_cases c : s[0].toNat = 92
    · have q1 := beqT (show (s[0].toNat : Int) = 92 by omega)
      cases c1 : signB s[1] with
      | true =>
        rw [escV_yes (by rw [HE.out, HP.out, decide_eq_true c, bytes_len, decide_eq_true h2, rgetD_second s h2, c1]; rfl), rgetD_second s h2, ← rone_second s h2]
        rw [c1] at SG
        clear HE HP c c1
        go_enter Tryz.func10, Tryz.ntmps10
        go_wp2_with fail
        refine (SG.out _).mono ?_
        rintro e w1 ⟨rfl, rfl⟩
        go_wp2_with fail
        go_ret2
        exact ⟨rfl, rfl⟩
      | false =>
        rw [escV_no (by rw [HE.out, rgetD_second s h2, c1, Bool.and_false])]
        rw [c1] at SG
        clear HE HP c c1
        go_enter Tryz.func10, Tryz.ntmps10
        go_wp2_with fail
        refine (SG.out _).mono ?_
        rintro e w1 ⟨rfl, rfl⟩
        go_wp2_with fail
        go_ret2
        exact ⟨rfl, rfl⟩
    · have q1 := beqF (show ¬ (s[0].toNat : Int) = 92 by omega)
      rw [escV_no (by rw [HE.out, HP.out, decide_eq_false c]; rfl)]
      clear HE HP c
      go_enter Tryz.func10, Tryz.ntmps10
      go_wp2_with fail
      go_ret2
      exact ⟨rfl, rfl⟩
  · have q0 : decide ((1 : Int) < (s.size : Int)) = false := decide_eq_false (by omega)
    rw [escV_no (by rw [HE.out, bytes_len, decide_eq_false h2, Bool.and_false, Bool.false_and])]
    clear HE
    go_enter Tryz.func10, Tryz.ntmps10
    go_wp2_with fail
    go_ret2
    exact ⟨rfl, rfl⟩

/-! ### inner -/
theorem lf_toNat (b : UInt8) : ((lfB b).toNat : Int) = if b.toNat = 10 then 32 else (b.toNat : Int) := by
  unfold lfB
  by_cases c : b = 10
  · rw [if_pos c, if_pos (by rw [c]; rfl)]; rfl
  · rw [if_neg c, if_neg (show ¬ b.toNat = 10 from fun e => c (UInt8.toNat_inj.1 e))]
theorem lf_own {b : UInt8} (h : ¬ b.toNat = 10) : lfB b = b := by unfold lfB; rw [if_neg (fun e => h (by rw [e]; rfl))]
theorem lf_lf {b : UInt8} (h : b.toNat = 10) : lfB b = 32 := by unfold lfB; rw [if_pos (UInt8.toNat_inj.1 h)]
def othB (L : List UInt8) (j : Nat) : Bool := ((ctU L).take j).any (fun b => decide (b ≠ 32))
theorem oth_next {s : ByteArray} {j : Nat} (h : j < s.size) : othB s.data.toList (j + 1) = (othB s.data.toList j || decide (lfB s[j] ≠ 32)) := by
  have hl : j < s.data.toList.length := by rw [bytes_len]; exact h
  unfold othB ctU
  rw [← List.map_take, ← List.map_take, take_next s j h, List.map_append, List.any_append]
  simp
theorem oth_all (s : ByteArray) : othB s.data.toList s.size = (ctU s.data.toList).any (fun b => decide (b ≠ 32)) := by
  unfold othB
  rw [List.take_of_length_le (by unfold ctU; rw [List.length_map, bytes_len]; omega)]
theorem ctU_get {s : ByteArray} {j : Nat} (h : j < s.size) : (ctU s.data.toList)[j]? = some (lfB s[j]) := by
  unfold ctU
  rw [List.getElem?_map, get_byte h]
  rfl
theorem ctT_whole {s : ByteArray} (h : ctK (ctU s.data.toList) = false) : (⟨(ctT s.data.toList).toArray⟩ : ByteArray) = ⟨(s.data.toList.map lfB).toArray⟩ := by
  unfold ctT
  rw [h, if_neg (by decide)]
  rfl
theorem ctK_oth {s : ByteArray} (h : othB s.data.toList s.size = false) : ctK (ctU s.data.toList) = false := by
  rw [oth_all] at h
  unfold ctK
  rw [h, Bool.and_false]
theorem ctK_first {s : ByteArray} (h : 0 < s.size) (c : ¬ (lfB s[0]).toNat = 32) : ctK (ctU s.data.toList) = false := by
  have : hasPrefix (ctU s.data.toList) [32] = false := by
    cases e : hasPrefix (ctU s.data.toList) [32] with
    | false => rfl
    | true =>
      have := pre_head.1 e
      rw [ctU_get h] at this
      exact absurd (by rw [Option.some.inj this]; rfl) c
  unfold ctK
  rw [this]
  rfl
theorem ctU_len (s : ByteArray) : (ctU s.data.toList).length = s.size := by unfold ctU; rw [List.length_map, bytes_len]
theorem ctK_last {s : ByteArray} {u : Nat} (h : u < s.size) (hu : s.size - 1 = u) (c : ¬ (lfB s[u]).toNat = 32) : ctK (ctU s.data.toList) = false := by
  have : hasSuffix (ctU s.data.toList) [32] = false := by
    cases e : hasSuffix (ctU s.data.toList) [32] with
    | false => rfl
    | true =>
      have := (suf_last (by rw [ctU_len]; omega)).1 e
      rw [ctU_len, hu, ctU_get h] at this
      exact absurd (by rw [Option.some.inj this]; rfl) c
  unfold ctK
  rw [this, Bool.and_false, Bool.false_and]
theorem ctK_both {s : ByteArray} {u : Nat} (h0 : 0 < s.size) (h : u < s.size) (hu : s.size - 1 = u) (ho : othB s.data.toList s.size = true) (c : (lfB s[0]).toNat = 32) (d : (lfB s[u]).toNat = 32) : ctK (ctU s.data.toList) = true := by
  have e1 : hasPrefix (ctU s.data.toList) [32] = true := pre_head.2 (by rw [ctU_get h0, show lfB s[0] = 32 from UInt8.toNat_inj.1 c])
  have e2 : hasSuffix (ctU s.data.toList) [32] = true := (suf_last (by rw [ctU_len]; omega)).2 (by rw [ctU_len, hu, ctU_get h, show lfB s[u] = 32 from UInt8.toNat_inj.1 d])
  rw [oth_all] at ho
  unfold ctK
  rw [e1, e2, ho]
  rfl
/-- string(b[1:len(b)-1]), when all are written. -/
theorem mid_back {P : Program} {s : ByteArray} {B : Nat} {W : World} (h : MapAt lfB s B s.size W) (m C : Nat) (hm : m + 2 = s.size) (src dst e : TypeId) (hs : P.underlying src = some (.slice e)) (he : P.underlying e = some (.int .u8)) (hd : P.underlying dst = some .string) :
    (convert src dst (.slice (some ⟨B, 1, none⟩) m C)).run P W = .ok (.string ⟨((ctU s.data.toList).drop 1).dropLast.toArray⟩) W := by
  have ln : ((ctU s.data.toList).drop 1).dropLast.length = m := by rw [List.length_dropLast, List.length_drop, ctU_len]; omega
  have := run_convert_bytes_back (P := P) W src dst e ⟨B, 1, none⟩ C ((ctU s.data.toList).drop 1).dropLast hs he hd (fun j hj => by
    rw [ln] at hj
    have hj2 : j + 1 < s.size := by omega
    have hc := h.1 (j + 1) hj2
    rw [if_pos (by omega)] at hc
    have ad : (⟨B, 1, none⟩ : Addr).add j = ⟨B, j + 1, none⟩ := by
      rw [show j + 1 = 1 + j by omega]
      simp [Addr.add]
    have g : ((ctU s.data.toList).drop 1).dropLast[j]? = some (lfB s[j + 1]) := by
      rw [List.dropLast_eq_take, List.getElem?_take_of_lt (by rw [List.length_drop, ctU_len]; omega), List.getElem?_drop, Nat.add_comm, ctU_get hj2]
    rw [List.getElem?_eq_getElem (by rw [ln]; exact hj)] at g
    rw [ad, hc, Option.some.inj g])
  rw [ln] at this
  exact this

set_option maxRecDepth 100000 in
set_option maxHeartbeats 4000000 in
theorem inner_any (s : ByteArray) (w : World) (hs : s.size ≤ 100000) :
    Calls Tryz.prog 26 #[.string s] w fun e w' => e = .returned (.string ⟨(ctT s.data.toList).toArray⟩) ∧ Keeps w w' := by
  have MB := Lib.hid (fun B W C (h : MapAt lfB s B s.size W) => map_back (P := Tryz.prog) h C 46 9 5 Tryz.underlying46 Tryz.underlying5 Tryz.underlying9)
  have MD := Lib.hid (fun B W m C (hm : m + 2 = s.size) (h : MapAt lfB s B s.size W) => mid_back (P := Tryz.prog) h m C hm 46 9 5 Tryz.underlying46 Tryz.underlying5 Tryz.underlying9)
  have kc := run_bytes_of_string (P := Tryz.prog) w 9 46 5 s Tryz.underlying9 Tryz.underlying46 Tryz.underlying5
  have L0 := Lib.hid (show MapAt lfB s w.heap.size 0 (w.alloc (.cells (bytesRow s (grownCap w s.size 0 5)) 5 ((bytesRow s (grownCap w s.size 0 5)).size, (bytesRow s (grownCap w s.size 0 5)).size + 1))).drew from map_start lfB s w (grownCap w s.size 0 5) 5)
  have K0 := Lib.hid (show Keeps w (w.alloc (.cells (bytesRow s (grownCap w s.size 0 5)) 5 ((bytesRow s (grownCap w s.size 0 5)).size, (bytesRow s (grownCap w s.size 0 5)).size + 1))).drew from ((Keeps.refl w).alloc _).drew)
  have hC := grownCap_ge w s.size 0 5
  generalize grownCap w s.size 0 5 = C at *
  go_enter Tryz.func26, Tryz.ntmps26
  go_wp2_with fail
  generalize (w.alloc (.cells (bytesRow s C) 5 ((bytesRow s C).size, (bytesRow s C).size + 1))).drew = w0 at *
  obtain ⟨B, hB⟩ : ∃ B, w.heap.size = B := ⟨_, rfl⟩
  have HB : Hid (w.heap.size ≤ B) := Lib.hid (by omega)
  rw [hB] at L0
  rw [hB]
  clear hB kc
  go_loopw [4, 5] (fun o v wr => ∃ (j : Nat) (O : Bool), j ≤ s.size ∧ v = .int .i64 j ∧ o = .bool O ∧ Hid (MapAt lfB s B j wr) ∧ Hid (Keeps w wr) ∧ Hid (othB s.data.toList j = O)) (fun _ v _ => s.size - (RowKit.intOf v).toNat)
  case atStart => exact ⟨0, false, Nat.zero_le _, rfl, rfl, L0, K0, Lib.hid rfl⟩
  case round =>
    obtain ⟨j, O, hj, rfl, rfl, HM, HK, HO⟩ := hrel
    by_cases d : j < s.size
    · have c0 := HM.out.here d
      have f0 := HM.out.2 j d
      have hb := s[j].toNat_lt
      have ON := Lib.hid (oth_next d)
      by_cases g : s[j].toNat = 10
      · have t1 := beqT (show (s[j].toNat : Int) = 10 by omega)
        have HN := Lib.hid (HM.out.put d (v := 32) (by rw [lf_toNat, if_pos g]))
        have HK2 := Lib.hid (HK.out.set HB.out j (.int .u8 32))
        have c1 := World.cell?_setCell_same' wr ⟨B, j, none⟩ (.int .u8 32) (by rw [c0]; rfl)
        have HO2 : Hid (othB s.data.toList (j + 1) = O) := Lib.hid (by rw [ON.out, HO.out, lf_lf g]; simp)
        clear HM HK HO ON g
        cases O with
        | true =>
          go_wp2_with fail
          go_roundw
          case rel => exact ⟨j + 1, true, d, by go_num, rfl, HN, HK2, HO2⟩
          case measure => simp [RowKit.intOf]; omega
        | false =>
          go_wp2_with fail
          go_roundw
          case rel => exact ⟨j + 1, false, d, by go_num, rfl, HN, HK2, HO2⟩
          case measure => simp [RowKit.intOf]; omega
      · have t1 := beqF (show ¬ (s[j].toNat : Int) = 10 by omega)
        have HN := Lib.hid (HM.out.next d (lf_own g))
        have HO2 : Hid (othB s.data.toList (j + 1) = (O || decide (s[j] ≠ 32))) := Lib.hid (by rw [ON.out, HO.out, lf_own g])
        clear HM HO ON g
        cases O with
        | true =>
          go_wp2_with fail
          go_roundw
          case rel => exact ⟨j + 1, true, d, by go_num, rfl, HN, HK, HO2⟩
          case measure => simp [RowKit.intOf]; omega
        | false =>
          by_cases g2 : s[j].toNat = 32
          · have t2 := bneF (show (s[j].toNat : Int) = 32 by omega)
            have HO3 : Hid (othB s.data.toList (j + 1) = false) := Lib.hid (by rw [HO2.out, show s[j] = 32 from UInt8.toNat_inj.1 g2]; rfl)
            clear HO2 g2
            go_wp2_with fail
            go_roundw
            case rel => exact ⟨j + 1, false, d, by go_num, rfl, HN, HK, HO3⟩
            case measure => simp [RowKit.intOf]; omega
          · have t2 := bneT (show ¬ (s[j].toNat : Int) = 32 by omega)
            have HO3 : Hid (othB s.data.toList (j + 1) = true) := Lib.hid (by rw [HO2.out, Bool.false_or]; exact decide_eq_true (fun e => g2 (by rw [e]; rfl)))
            clear HO2 g2
            go_wp2_with fail
            go_roundw
            case rel => exact ⟨j + 1, true, d, by go_num, rfl, HN, HK, HO3⟩
            case measure => simp [RowKit.intOf]; omega
    · have HM2 : Hid (MapAt lfB s B s.size wr) := Lib.hid (by
        have := HM.out
        rw [show j = s.size by omega] at this
        exact this)
      have HO2 : Hid (othB s.data.toList s.size = O) := Lib.hid (by
        have := HO.out
        rw [show j = s.size by omega] at this
        exact this)
      have mb := MB.out B wr C HM2.out
      clear HM HO
      cases O with
      | false =>
        have FIN := Lib.hid (ctT_whole (ctK_oth HO2.out))
        generalize (⟨(s.data.toList.map lfB).toArray⟩ : ByteArray) = Z at *
        clear HO2
        go_wp2_with fail
        go_ret
        exact ⟨ret_bytes FIN.out.symm, HK.out⟩
      | true =>
        have h0 : 0 < s.size := by
          refine Decidable.byContradiction fun e => ?_
          have := HO2.out
          rw [show s.size = 0 by omega] at this
          cases this
        have c1 := HM2.out.1 0 h0
        rw [if_pos h0] at c1
        have b1 := (lfB s[0]).toNat_lt
        obtain ⟨u, hu⟩ : ∃ u, s.size - 1 = u := ⟨_, rfl⟩
        have hu1 : (s.size : Int) - 1 = (u : Int) := by omega
        have hu2 : u < s.size := by omega
        have c2 := HM2.out.1 u hu2
        rw [if_pos hu2] at c2
        have b2 := (lfB s[u]).toNat_lt
        by_cases g1 : (lfB s[0]).toNat = 32
        · by_cases g2 : (lfB s[u]).toNat = 32
          · have kk := ctK_both h0 hu2 hu HO2.out g1 g2
            have h3 := ctK_len kk
            rw [ctU_len] at h3
            have md := fun C => MD.out B wr (u - 1) C (by omega) HM2.out
            have hu3 : 1 ≤ u := by omega
            have FIN : Hid ((⟨(ctT s.data.toList).toArray⟩ : ByteArray) = ⟨((ctU s.data.toList).drop 1).dropLast.toArray⟩) := Lib.hid (by unfold ctT; rw [kk, if_pos rfl])
            generalize (⟨((ctU s.data.toList).drop 1).dropLast.toArray⟩ : ByteArray) = Z at *
            have t1 := beqT (show ((lfB s[0]).toNat : Int) = 32 by omega)
            have t2 := beqT (show ((lfB s[u]).toNat : Int) = 32 by omega)
            generalize ((lfB s[0]).toNat : Int) = X at *
            generalize ((lfB s[u]).toNat : Int) = Y at *
            clear kk HO2 g1 g2 hu mb MB MD
            go_wp2_with fail
            go_ret
            exact ⟨ret_bytes FIN.out.symm, HK.out⟩
          · have FIN := Lib.hid (ctT_whole (ctK_last hu2 hu g2))
            generalize (⟨(s.data.toList.map lfB).toArray⟩ : ByteArray) = Z at *
            have t1 := beqT (show ((lfB s[0]).toNat : Int) = 32 by omega)
            have t2 := beqF (show ¬ ((lfB s[u]).toNat : Int) = 32 by omega)
            generalize ((lfB s[0]).toNat : Int) = X at *
            generalize ((lfB s[u]).toNat : Int) = Y at *
            clear HO2 g1 g2 hu
            go_wp2_with fail
            go_ret
            exact ⟨ret_bytes FIN.out.symm, HK.out⟩
        · have FIN := Lib.hid (ctT_whole (ctK_first h0 g1))
          generalize (⟨(s.data.toList.map lfB).toArray⟩ : ByteArray) = Z at *
          have t1 := beqF (show ¬ ((lfB s[0]).toNat : Int) = 32 by omega)
          generalize ((lfB s[0]).toNat : Int) = X at *
          clear HO2 g1 hu
          go_wp2_with fail
          go_ret
          exact ⟨ret_bytes FIN.out.symm, HK.out⟩

/-! ### Code -/
set_option maxRecDepth 100000 in
set_option maxHeartbeats 1000000 in
theorem dcode_any (s : ByteArray) (w : World) (hs : s.size ≤ 100000) :
    Calls Tryz.prog 8 #[.string s] w fun e w' => e = .returned (CodV s.data.toList) ∧ Keeps w w' := by
  have hl := Lib.hid (bytes_len s)
  have S0 := Lib.hid (fun W => dticks_any s 0 W hs (Nat.zero_le _))
  have hO : cntP rTik (s.data.toList.drop 0) = codO s.data.toList := by rw [List.drop_zero]; rfl
  rw [hO] at S0
  have ho := cntP_le rTik s.data.toList
  rw [show cntP rTik s.data.toList = codO s.data.toList from rfl, bytes_len] at ho
  obtain ⟨o, HO⟩ : ∃ o, Hid (codO s.data.toList = o) := ⟨_, rfl⟩
  rw [HO.out] at S0 ho
  clear hO
  by_cases c0 : o = 0
  · subst c0
    rw [codV_none (.inl HO.out)]
    clear HO
    go_enter Tryz.func8, Tryz.ntmps8
    go_wp2_with fail
    refine (S0.out _).mono ?_
    rintro e w1 ⟨rfl, rfl⟩
    go_wp2_with fail
    go_ret2
    exact ⟨rfl, Keeps.refl _⟩
  · have q0 := beqF (show ¬ (o : Int) = 0 by omega)
    have S1 := Lib.hid (fun k (hk : k ≤ s.size) W => dticks_any s k W hs hk)
    have CT := Lib.hid (fun k W => inner_any (s.extract o k) W (by rw [ByteArray.size_extract]; omega))
    have HC0 : Hid (CodAt s.data.toList o) := Lib.hid (by rw [← HO.out]; exact codAt_start _)
    have NO := Lib.hid (@codV_none s.data.toList)
    have YES := Lib.hid (@codV_some s.data.toList)
    have HB : Hid (∀ i : Nat, i - o + 1 ≠ 0) := Lib.hid fun i => by omega
    go_enter Tryz.func8, Tryz.ntmps8
    go_wp2_with fail
    refine (S0.out _).mono ?_
    rintro e w1 ⟨rfl, rfl⟩
    go_wp2_with fail
    go_loop [5] (fun x => ∃ i : Nat, i ≤ s.size ∧ x = .int .i64 i ∧ Hid (CodAt s.data.toList i)) (fun x => s.size - (RowKit.intOf x).toNat)
    case atStart => exact ⟨o, ho, rfl, HC0⟩
    case round =>
      obtain ⟨i, hi, rfl, HC⟩ := hrel
      by_cases h : i < s.size
      · have A1 := Lib.hid (fun W => S1.out i hi W)
        have ha := cntP_le rTik (s.data.toList.drop i)
        rw [List.length_drop, hl.out] at ha
        obtain ⟨n, HN⟩ : ∃ n, Hid (cntP rTik (s.data.toList.drop i) = n) := ⟨_, rfl⟩
        rw [HN.out] at A1 ha
        by_cases c1 : n = o
        · have HK : Hid (codK s.data.toList = i - o + 1) := Lib.hid (by
            have := codAt_hit HC.out (by rw [hl.out]; exact h) (by rw [HN.out, HO.out]; exact c1)
            rw [this, HO.out])
          have oi : o ≤ i := by have := HC.out.1; rw [HO.out] at this; exact this
          have C1 := Lib.hid (fun W => CT.out i W)
          have EX : Hid ((s.extract o i).data.toList = (s.data.toList.drop o).take (i - o)) := Lib.hid (Lib.extract_data _ _ _)
          have FIN : Hid (CodV s.data.toList = .tuple #[.string ⟨(ctT (s.extract o i).data.toList).toArray⟩, .int .i64 (i + o : Nat)]) := Lib.hid (by
            rw [YES.out (by rw [HO.out]; exact c0) (by rw [HK.out]; exact HB.out i), HK.out, HO.out, EX.out, Nat.add_sub_cancel, show o + (i - o) + o = i + o by omega])
          have q1 := beqT (show (n : Int) = (o : Int) by omega)
          subst c1
          generalize ctT (s.extract n i).data.toList = r at *
          clear HC HN HK EX NO YES HO HC0 c0 HB CT S1
          go_wp2_with fail
          refine (A1.out _).mono ?_
          rintro e w1 ⟨rfl, rfl⟩
          go_wp2_with fail
          refine (C1.out _).mono ?_
          rintro e w2 ⟨rfl, k1⟩
          go_wp2_with fail
          go_ret2
          exact ⟨(ret_sn rfl (by omega)).trans (congrArg Ending.returned FIN.out.symm), k1⟩
        · have HC2 : Hid (CodAt s.data.toList (i + max n 1)) := Lib.hid (by
            have := codAt_go HC.out (by rw [hl.out]; exact h) (by rw [HN.out, HO.out]; exact c1)
            rw [HN.out] at this
            exact this)
          have q1 := beqF (show ¬ (n : Int) = (o : Int) by omega)
          have hmx : max n 1 ≤ s.size - i := by omega
          obtain ⟨m, hm1, hm2⟩ : ∃ m : Nat, max n 1 = m ∧ 1 ≤ m := ⟨_, rfl, by omega⟩
          have hmi : max 1 (n : Int) = (m : Int) := by omega
          have hmi2 : (if (n : Int) < 1 then 1 else (n : Int)) = (m : Int) := by split <;> omega
          have hmi3 : (if (1 : Int) < (n : Int) then (n : Int) else 1) = (m : Int) := by split <;> omega
          rw [hm1] at HC2 hmx
          clear HC HN c1 hm1
          go_wp2_with fail
          refine (A1.out _).mono ?_
          rintro e w1 ⟨rfl, rfl⟩
          go_wp2_with fail
          go_round
          case rel => exact ⟨i + m, by omega, by go_num, HC2⟩
          case measure => simp [RowKit.intOf]; omega
      · have HK := Lib.hid (codAt_end HC.out (by rw [hl.out]; omega))
        have FIN := Lib.hid (NO.out (.inr HK.out))
        clear HC HK
        go_wp2_with fail
        go_ret2
        exact ⟨congrArg Ending.returned FIN.out.symm, Keeps.refl _⟩
end Go.Proofs.YtggeknhggpdpkaaGreatDoor

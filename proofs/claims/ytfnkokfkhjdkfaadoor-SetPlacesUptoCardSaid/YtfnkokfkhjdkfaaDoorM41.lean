/-
  Texts of the proof, one behind the other: Spy.
-/
import Derived.Test.YtfnkokfkhjdkfaaDoorM38
import Derived.Test.YtfnkokfkhjdkfaaDoorM34
import Derived.Test.YtfnkokfkhjdkfaaDoorM30
import Derived.Test.YtfnkokfkhjdkfaaDoorM39
import Derived.Test.YtfnkokfkhjdkfaaDoorM35
import Derived.Test.YtfnkokfkhjdkfaaDoorM40
/-
  Walk of the law SetPlaces.
-/
namespace Go.Proofs.YtfnkokfkhjdkfaaDoor
open Go.RowKit Go.Lib Go.Maps

set_option maxRecDepth 100000 in
set_option maxHeartbeats 32000000 in
theorem splaces_any (l : List St) (lv : Value) (fb t0 t1 : Nat) (hf : fb < 256) (h0 : t0 < 65536) (h1 : t1 < 65536) (w : World) (hA : StAt w l lv) (hw : wL l ≤ 100000000) (hR : FntR w) :
    Calls Tryd.prog 4 #[lv, .int .u8 fb, .agg #[.int .u16 t0, .int .u16 t1]] w fun e w' => e = .returned (.bool true) ∧ Keeps w w' := by
  have WT := Lib.hid (fun W (k : Keeps w W) => weight19_any _ l W lv (Nat.le_refl _) (hA.keep k) hw)
  have AW := Lib.hid (fun W => awake19_any W)
  have K0 := Lib.hid ((Keeps.refl w).alloc (.cells #[.int .u16 t0, .int .u16 t1] 33))
  have B0 := Lib.hid (Blk.new w 33 #[.int .u16 t0, .int .u16 t1])
  obtain ⟨A0, c0, hv, _, _, _⟩ := hA.slice
  by_cases hsm : wHs l 0 ≤ 2000
  · have hwl : wL l ≤ 2000 := by have := wHs_eq l 0 hsm; omega
    obtain ⟨sN, hsN⟩ : ∃ sN : Nat, t0 % 20000 = sN := ⟨_, rfl⟩
    have hs1 : sN < 20000 := by omega
    obtain ⟨m, hm⟩ : ∃ m : Nat, fb % 5 = m := ⟨_, rfl⟩
    have hm1 : m < 5 := by omega
    have LAW := Lib.hid (law_its (f := (m : Int)) (sz := 4000 + (sN : Int)) (wd := 3 * (4000 + (sN : Int)) + (t1 : Int) * 3) (by omega) (by omega) (by omega) (by omega) l hwl)
    have MK := Lib.hid (fun W (k : Keeps w W) => rmake_any l lv (m : Int) (4000 + (sN : Int)) 1 W (hA.keep k) (hR.keep k) (by omega) (by omega) (by omega) (by omega) (by omega))
    rw [make_same l (m : Int) (4000 + (sN : Int)) 1 (by omega)] at MK
    have SP := Lib.hid (fun lv2 W (k : Keeps w W) (hI : IsAt W (makeL l (m : Int) (4000 + (sN : Int)) 1).1 lv2) => rsplit_any (makeL l (m : Int) (4000 + (sN : Int)) 1).1 lv2 (3 * (4000 + (sN : Int)) + (t1 : Int) * 3) (4000 + (sN : Int)) W hI (hR.keep k) LAW.out.1 (by omega) (by omega) (by omega) (by omega) (by have := LAW.out.2.1; omega))
    have LAW2 := Lib.hid LAW.out.2.2
    unfold MakeQ at MK
    generalize makeL l (m : Int) (4000 + (sN : Int)) 1 = p at *
    obtain ⟨its, nx⟩ := p
    simp only at MK SP LAW2
    generalize (splitL (3 * (4000 + (sN : Int)) + (t1 : Int) * 3) its ([], 3 * (4000 + (sN : Int)) + (t1 : Int) * 3)).1 = al at *
    have t2 : decide ((2000 : Int) < ((wHs l 0 : Nat) : Int)) = false := decide_eq_false (by omega)
    generalize wHs l 0 = wl at *
    subst hv
    have x0 := B0.out.cell 0 (v := .int .u16 t0) rfl
    have x1 := B0.out.cell 1 (v := .int .u16 t1) rfl
    have hrm : Int.tmod (t0 : Int) 20000 = (sN : Int) := by rw [Int.tmod_eq_emod_of_nonneg (by omega)]; omega
    have hrf : Int.tmod (fb : Int) 5 = (m : Int) := by rw [Int.tmod_eq_emod_of_nonneg (by omega)]; omega
    have hrm2 : (t0 : Int) % 20000 = (sN : Int) := by omega
    have hrf2 : (fb : Int) % 5 = (m : Int) := by omega
    clear hA hR LAW hsm hwl
    go_enter Tryd.func4, Tryd.ntmps4
    go_wp2_with fail
    refine (WT.out _ K0.out).mono ?_
    rintro e w1 ⟨rfl, k1⟩
    have K1 := Lib.hid (K0.out.trans k1)
    have y0 := k1.cell2 x0
    have y1 := k1.cell2 x1
    clear x0 x1 k1
    go_wp2_with fail
    refine (MK.out _ K1.out).mono ?_
    rintro e w2 ⟨v2, rfl, I2, k2⟩
    have K2 := Lib.hid (K1.out.trans k2)
    have SP2 := Lib.hid (SP.out v2 w2 K2.out I2.isAt)
    obtain ⟨A2, c2, rfl, _, _, _⟩ := I2.form
    clear I2 k2 MK SP
    go_wp2_with fail
    refine SP2.out.mono ?_
    rintro e w3 ⟨v3, rfl, I3, k3⟩
    have K3 := Lib.hid (K2.out.trans k3)
    have BK := Lib.hid (rbreaks_any al v3 (3 * (4000 + (sN : Int)) + (t1 : Int) * 3) w3 I3.isAt (by have := LAW2.out.few; omega) LAW2.out.itw (by omega) (by omega) LAW2.out.way)
    have HI3 := Lib.hid I3
    obtain ⟨A3, c3, rfl, p3, q3, r3⟩ := I3.form
    have HR3 := Lib.hid r3
    clear I3 k3 SP2 r3
    go_wp2_with fail
    refine BK.out.mono ?_
    rintro e w4 ⟨A4, c4, es, cc, rfl, hch, R4, k4⟩
    have K4 := Lib.hid (K3.out.trans k4)
    have HCH := Lib.hid hch
    have hfew := hch.few.2.1
    have hfe := hch.few.1
    have hl4 := LAW2.out.few
    have LN := Lib.hid (slines_any al (.slice A3 al.length c3) (.slice A4 es.length c4) es 7 (3 * (4000 + (sN : Int)) + (t1 : Int) * 3) cc w4 (HI3.out.isAt.keep k4) (NsAt.own R4) (by omega) (by omega) hch LAW2.out.alt.pl LAW2.out.itw (by omega) (by omega) (by decide) (by decide))
    have HR4 := Lib.hid R4
    have HI4 := Lib.hid (HI3.out.keep k4)
    obtain ⟨p4, q4⟩ : es.length ≤ c4 ∧ c4 ≤ maxLen := by
      obtain ⟨A9, c9, e9, h9, h9', _⟩ := NsAt.own R4
      simp only [Value.slice.injEq, true_and] at e9
      obtain ⟨_, rfl⟩ := e9
      exact ⟨h9, h9'⟩
    clear R4 k4 BK hch
    go_wp2_with fail
    refine LN.out.mono ?_
    rintro e w5 ⟨v5, ls, rfl, R5, hls, k5⟩
    have K5 := Lib.hid (K4.out.trans k5)
    have hlen : ls.length = es.length := by have := congrArg List.length hls; simpa using this
    have CI : Hid (∀ W, Keeps w5 W → ∀ k (h : k < al.length), ∃ g3, A3 = some ⟨g3, 0, none⟩ ∧ ∀ j u, (itC al[k])[j]? = some u → W.cell? ⟨g3, k * 9 + j, none⟩ = some u) := Lib.hid fun W q k h => by
      obtain ⟨g3, rfl⟩ := HR3.out (by omega)
      refine ⟨g3, rfl, fun j u hu => ?_⟩
      have hj : j < 9 := by have := (List.getElem?_eq_some_iff.1 hu).1; rwa [itC_len] at this
      rw [ItsAt.cell (HI4.out.keep (k5.trans q)) h j hj]
      exact hu
    have CE : Hid (∀ W, Keeps w5 W → ∀ i e, es[i]? = some e → ∃ g4, A4 = some ⟨g4, 0, none⟩ ∧ W.cell? ⟨g4, i, none⟩ = some (.int .i64 (e : Nat))) := Lib.hid fun W q i e he => by
      obtain ⟨hi, e1⟩ := List.getElem?_eq_some_iff.1 he
      obtain ⟨A9, c9, e9, _, _, h9⟩ := NsAt.own (HR4.out)
      simp only [Value.slice.injEq, true_and] at e9
      obtain ⟨rfl, _⟩ := e9
      rcases HR4.out.2 with ⟨h8, _⟩ | ⟨g, cap, cur, h8, _⟩
      · have : es.length = 0 := by injection h8
        omega
      · injection h8 with h8 _ _
        subst h8
        refine ⟨g, rfl, ?_⟩
        have := (k5.trans q).cell2 (v := .int .i64 (e : Nat)) (b := g) (i := i) (by
          rw [World.ownsRow.cellAt HR4.out i (by omega)]
          unfold nsR
          rw [List.getElem?_map, he]
          rfl)
        exact this
    obtain ⟨A5, c5, rfl, p5, q5, r5⟩ := R5.form
    have CL : Hid (∀ W, Keeps w5 W → ∀ i e, es[i]? = some e → ∃ (g5 : Nat) (A6 : Option Addr) (c6 : Nat), A5 = some ⟨g5, 0, none⟩ ∧ W.cell? ⟨g5, i, none⟩ = some (.slice A6 (rnTo al (3 * (4000 + (sN : Int)) + (t1 : Int) * 3) 7 (nextF (es.take i)) e (mustP al e) e).length c6) ∧
        (rnTo al (3 * (4000 + (sN : Int)) + (t1 : Int) * 3) 7 (nextF (es.take i)) e (mustP al e) e).length ≤ c6 ∧ c6 ≤ maxLen ∧ (0 < (rnTo al (3 * (4000 + (sN : Int)) + (t1 : Int) * 3) 7 (nextF (es.take i)) e (mustP al e) e).length → ∃ g6, A6 = some ⟨g6, 0, none⟩ ∧ ∀ n r, (rnTo al (3 * (4000 + (sN : Int)) + (t1 : Int) * 3) 7 (nextF (es.take i)) e (mustP al e) e)[n]? = some r → ∀ j u, (rnC r)[j]? = some u → W.cell? ⟨g6, n * 7 + j, none⟩ = some u)) := Lib.hid fun W q i e he => by
      obtain ⟨hi, e1⟩ := List.getElem?_eq_some_iff.1 he
      have hi' : i < ls.length := by omega
      obtain ⟨g5, rfl⟩ := r5 (by omega)
      have hx : ls[i].1 = rnTo al (3 * (4000 + (sN : Int)) + (t1 : Int) * 3) 7 (nextF (es.take i)) e (mustP al e) e := by
        have := congrArg (fun l => l[i]?) hls
        simp only [List.getElem?_map, List.getElem?_eq_getElem hi', Option.map_some, List.getElem?_range hi] at this
        injection this with this
        rw [this]
        unfold lnAt
        rw [he]
      have RR := R5.keep q
      obtain ⟨RX, _⟩ := RR.at_ ls[i] (List.getElem_mem hi')
      rw [hx] at RX
      obtain ⟨A6, c6, e6, f1, f2, f3⟩ := RX.form
      refine ⟨g5, A6, c6, rfl, ?_, f1, f2, fun hpos => ?_⟩
      · rw [← e6]
        exact RR.cell hi'
      · obtain ⟨g6, rfl⟩ := f3 hpos
        refine ⟨g6, rfl, fun n r hr j u hu => ?_⟩
        obtain ⟨hn, e7⟩ := List.getElem?_eq_some_iff.1 hr
        have hj : j < 7 := by have := (List.getElem?_eq_some_iff.1 hu).1; rwa [rnC_len] at this
        rw [e6] at RX
        rw [RX.cell hn j hj, e7]
        exact hu
    have HAL := Lib.hid LAW2.out.alt
    obtain ⟨ml, hml⟩ : ∃ ml, es.length = ml := ⟨_, rfl⟩
    have HML := Lib.hid hml
    obtain ⟨nl, hnl⟩ : ∃ nl, al.length = nl := ⟨_, rfl⟩
    have HNL := Lib.hid hnl
    obtain ⟨wd, hwd⟩ : ∃ wd, 3 * (4000 + (sN : Int)) + (t1 : Int) * 3 = wd := ⟨_, rfl⟩
    have wd0 : 0 ≤ wd := by omega
    have wd1 : wd ≤ 1000000 := by omega
    have hle2 : ls.length = ml := by omega
    rw [hwd] at CL HCH
    rw [hnl] at p3 hl4 ⊢
    rw [hml] at p4 ⊢
    rw [hle2] at p5 ⊢
    clear hml hnl hlen hls R5 k5 r5 LN hle2 LAW2 hfew hfe y0 y1
    unfold maxLen at *
    go_wp2_with fail
    go_loopw [14, 15] (fun y z wr => ∃ (i a : Nat), i ≤ ml ∧ y = .int .i64 a ∧ z = .int .i64 i ∧ Hid (a = nextF (es.take i)) ∧ a ≤ nl + 1 ∧ Hid (Keeps w5 wr)) (fun _ z _ => ml - (RowKit.intOf z).toNat)
    case atStart => exact ⟨0, 0, Nat.zero_le _, rfl, rfl, Lib.hid rfl, by omega, Lib.hid (Keeps.refl _)⟩
    case round =>
      obtain ⟨i, a, hi, rfl, rfl, HA1, han, HKr⟩ := hrel
      by_cases ci : i < ml
      · have t3 : decide ((i : Int) < (ml : Int)) = true := decide_eq_true (by omega)
        have hil : i < es.length := by rw [HML.out]; exact ci
        obtain ⟨_, pp, hcc, hae, hel, hleg, hcan, hnx⟩ := HCH.out.at_ hil
        obtain ⟨e, he0⟩ : ∃ e, es[i] = e := ⟨_, rfl⟩
        rw [he0] at hae hel hleg hcan hnx
        have he : es[i]? = some e := by rw [List.getElem?_eq_getElem hil, he0]
        have HLN := Lib.hid (HAL.out.line hcc hae hel hleg hcan)
        rw [← HA1.out] at hae HLN
        have CLi := CL.out
        have HNX : Hid (e + 1 = nextF (es.take (i + 1))) := Lib.hid hnx.symm
        obtain ⟨rs, hrs⟩ : ∃ rs, rnTo al wd 7 a e (mustP al e) e = rs := ⟨_, rfl⟩
        have HRS := Lib.hid hrs
        have CLe : Hid (∀ W, Keeps w5 W → ∃ (g5 : Nat) (A6 : Option Addr) (c6 : Nat), A5 = some ⟨g5, 0, none⟩ ∧ W.cell? ⟨g5, i, none⟩ = some (.slice A6 rs.length c6) ∧ rs.length ≤ c6 ∧ c6 ≤ 2 ^ 63 - 1 ∧ (0 < rs.length → ∃ g6, A6 = some ⟨g6, 0, none⟩ ∧ ∀ n r, rs[n]? = some r → ∀ j u, (rnC r)[j]? = some u → W.cell? ⟨g6, n * 7 + j, none⟩ = some u)) := Lib.hid fun W q => by
          have := CLi W q i e he
          rw [← HA1.out, hrs] at this
          exact this
        have CEe := Lib.hid (fun W (q : Keeps w5 W) => CE.out W q i e he)
        have hen : e ≤ nl := by rw [← HNL.out]; exact hel
        have i0 : (0 : Int) ≤ (i : Int) := by omega
        have i1 : (i : Int) < (ml : Int) := by omega
        clear hcc hel hleg hcan hnx he0 he CLi hrs hil
        go_wp2_with fail
        go_loopw [16, 17, 18] (fun u y z wq => ∃ (n k : Nat) (gl : Int), a ≤ k ∧ k ≤ e ∧ u = .int .i64 n ∧ y = .int .i64 gl ∧ z = .int .i64 k ∧ n ≤ k ∧ 0 ≤ gl ∧ gl ≤ k ∧ Hid (LwAt al wd a e k n gl) ∧ Hid (Keeps w5 wq)) (fun _ _ z _ => e - (RowKit.intOf z).toNat)
        case atStart => exact ⟨0, a, 0, Nat.le_refl _, hae, rfl, rfl, rfl, Nat.zero_le _, by omega, by omega, Lib.hid (LwAt.start hae), HKr⟩
        case round =>
          obtain ⟨n, k, gl, hk1, hk2, rfl, rfl, rfl, hnk, hg0, hgk, HLW, HKq⟩ := hrel
          obtain ⟨g4, hA4, ye⟩ := CEe.out _ HKq.out
          subst hA4
          by_cases ck : k < e
          · have t4 : decide ((k : Int) < (e : Int)) = true := decide_eq_true (by omega)
            have hkl : k < al.length := by rw [HNL.out]; omega
            obtain ⟨g3, hA3, hcell⟩ := CI.out _ HKq.out k hkl
            subst hA3
            have k0 : (0 : Int) ≤ (k : Int) := by omega
            have k1 : (k : Int) < (nl : Int) := by omega
            have z0 := hcell 0 _ rfl
            simp only [Nat.add_zero] at z0
            by_cases kk : al[k].kind = 1
            · rcases HLN.out with ⟨q1, q2⟩ | hln
              · omega
              · obtain ⟨p, hr1, hp0, hp1, hgap⟩ := HLW.out.run HAL.out hln hkl ck kk
                rw [HRS.out] at hr1 hgap
                have hall := rn_all (last := mustP al e) HAL.out hln e (Nat.le_refl _)
                rw [HRS.out] at hall
                have HN := Lib.hid (HLW.out.box hkl ck kk)
                obtain ⟨hnl2, hre⟩ := List.getElem?_eq_some_iff.1 hr1
                obtain ⟨g5, A6, c6, hA5, yl, hc6, hc7, hrun⟩ := CLe.out _ HKq.out
                subst hA5
                obtain ⟨g6, hA6, hrc⟩ := hrun (by omega)
                subst hA6
                have hcc := hrc n _ hr1
                have z1 := hcell 1 _ rfl
                have z5 := hcell 5 _ rfl
                have x0 := hcc 0 _ rfl
                have x2 := hcc 2 _ rfl
                have x5 := hcc 5 _ rfl
                have hywd := ((HAL.out.pl _ (List.getElem_mem hkl)).box kk).1
                unfold rnOf at x0 x2 x5
                simp only [Nat.add_zero] at x0 x2 x5
                obtain ⟨cb, hcb⟩ : ∃ cb : ByteArray, (⟨al[k].codes.toArray⟩ : ByteArray) = cb := ⟨_, rfl⟩
                rw [hcb] at z5 x5
                obtain ⟨yw, hyw⟩ : ∃ yw, al[k].width = yw := ⟨_, rfl⟩
                rw [hyw] at z1 x2 hp1 hywd
                rw [kk] at z0
                have tc1 : (cb.toList == cb.toList) = true := by simp
                have tc2 : (cb.toList != cb.toList) = false := by simp
                have tc3 : (yw != yw) = false := by simp
                have tc4 : decide (p < 7) = false := decide_eq_false (by omega)
                have tc5 : decide (7 + wd < p + yw) = false := decide_eq_false (by omega)
                have tw1 : IntKind.i64.wrap (p + yw) = p + yw := IntWalk.i64_in _ (by omega)
                have tw2 : IntKind.i64.wrap (7 + wd) = 7 + wd := IntWalk.i64_in _ (by omega)
                have tn1 : decide ((rs.length : Int) ≤ (n : Int)) = false := decide_eq_false (by omega)
                have tn2 : decide (rs.length ≤ n) = false := decide_eq_false (by omega)
                have tn3 : (0 : Int) ≤ (n : Int) := by omega
                have tn4 : (n : Int) < (rs.length : Int) := by omega
                have HGAP : Hid (0 < n → ∃ (n1 j : Nat) (rx rw kj : Int) (hj : j < al.length), n = n1 + 1 ∧ k = j + 1 ∧ wr.cell? ⟨g6, n1 * 7, none⟩ = some (.int .i64 rx) ∧ wr.cell? ⟨g6, n1 * 7 + 2, none⟩ = some (.int .i64 rw) ∧ wr.cell? ⟨g3, j * 9, none⟩ = some (.int .i64 kj) ∧ (0 ≤ p - rx - rw ∧ (0 < p - rx - rw ↔ kj = 2)) ∧ 7 ≤ rx ∧ 0 ≤ rw ∧ rx ≤ 2000000 ∧ rw ≤ 2000000) := Lib.hid fun h0 => by
                  obtain ⟨r, hr2, hg1, hg2⟩ := hgap h0
                  have hb := hall r (List.mem_of_getElem? hr2)
                  have hcr := hrc (n - 1) r hr2
                  have hk0 : 0 < k := by
                    rcases Nat.eq_zero_or_pos k with q | q
                    · omega
                    · exact q
                  have hkj : k - 1 < al.length := by omega
                  obtain ⟨g3', e3, hcellj⟩ := CI.out _ HKq.out (k - 1) hkj
                  injection e3 with e3
                  injection e3 with e3 _ _
                  subst e3
                  have w0 := hcr 0 _ rfl
                  have w2 := hcr 2 _ rfl
                  have w3 := hcellj 0 _ rfl
                  simp only [Nat.add_zero] at w0 w2 w3
                  exact ⟨n - 1, k - 1, r.x, r.width, _, hkj, by omega, by omega, w0, w2, w3, ⟨hg1, hg2.trans ⟨fun ⟨_, _, q⟩ => q, fun q => ⟨hkj, hk0, q⟩⟩⟩, hb.1, hb.2.1, by omega, by omega⟩
                have c0 := yl
                have c1 := x0
                have c2 := x2
                have c3 := x5
                have c4 := z1
                have c5 := z5
                clear hcell hrc hcc hrun hr1 hre hgap hall hcb hyw hkl kk z1 z5 x2 x5 hln
                as_aux_lemma =>
                  obtain ⟨L, hL⟩ : ∃ L : List (Addr × Value), L = [(⟨g5, i, none⟩, .slice (some ⟨g6, 0, none⟩) rs.length c6), (⟨g6, n * 7, none⟩, .int .i64 p), (⟨g6, n * 7 + 2, none⟩, .int .i64 yw), (⟨g6, n * 7 + 5, none⟩, .string cb), (⟨g3, k * 9 + 1, none⟩, .int .i64 yw), (⟨g3, k * 9 + 5, none⟩, .string cb)] := ⟨_, rfl⟩
                  have C0 : ∀ q ∈ L, wr.cell? q.1 = some q.2 := by rw [hL]; exact cells_cons c0 (cells_cons c1 (cells_cons c2 (cells_cons c3 (cells_cons c4 (cells_cons c5 (cells_nil _))))))
                  have NE : Nonempty (InS (CellsK L wr)) := ⟨⟨_, CellsK.start C0⟩⟩
                  have G0 : ∀ x : InS (CellsK L wr), x.w.cell? ⟨g5, i, none⟩ = some (.slice (some ⟨g6, 0, none⟩) rs.length c6) := fun x => x.ok.cells (_, _) (by rw [hL]; simp)
                  have G1 : ∀ x : InS (CellsK L wr), x.w.cell? ⟨g6, n * 7, none⟩ = some (.int .i64 p) := fun x => x.ok.cells (_, _) (by rw [hL]; simp)
                  have G2 : ∀ x : InS (CellsK L wr), x.w.cell? ⟨g6, n * 7 + 2, none⟩ = some (.int .i64 yw) := fun x => x.ok.cells (_, _) (by rw [hL]; simp)
                  have G3 : ∀ x : InS (CellsK L wr), x.w.cell? ⟨g6, n * 7 + 5, none⟩ = some (.string cb) := fun x => x.ok.cells (_, _) (by rw [hL]; simp)
                  have G4 : ∀ x : InS (CellsK L wr), x.w.cell? ⟨g3, k * 9 + 1, none⟩ = some (.int .i64 yw) := fun x => x.ok.cells (_, _) (by rw [hL]; simp)
                  have G5 : ∀ x : InS (CellsK L wr), x.w.cell? ⟨g3, k * 9 + 5, none⟩ = some (.string cb) := fun x => x.ok.cells (_, _) (by rw [hL]; simp)
                  clear hL c0 c1 c2 c3 c4 c5
                  go_wp2_with fail
                  refine wp_region_class (CellsK L wr) (by kernel_rfl) (by kernel_rfl) (CellsK.start C0) ?_
                  simp only [List.append]
                  iterate 72 (go_big_quiet_step (fail))
                  refine wpQuiet_nil ?_
                  rintro w8 ⟨⟨w9, h9⟩, rfl⟩
                  have K9 := Lib.hid (HKq.out.trans h9.since)
                  have yl9 := h9.since.cell2 yl
                  have x09 := h9.since.cell2 x0
                  have H9 := Lib.hid h9.since
                  clear NE G0 G1 G2 G3 G4 G5 C0 h9 tc1 tc2 tc3 tc4 tc5 tw1 tw2
                  by_cases n0 : n = 0
                  · have tz1 : decide ((0 : Int) < (n : Int)) = false := decide_eq_false (by omega)
                    have tz2 : decide (0 < n) = false := decide_eq_false (by omega)
                    clear n0
                    go_wp2_with fail
                    go_roundw
                    case rel => exact ⟨n + 1, k + 1, gl, by omega, by omega, by go_num, rfl, by go_num, by omega, by omega, by omega, HN, K9⟩
                    case measure => simp only [RowKit.intOf]; omega
                  · as_aux_lemma =>
                    have tz1 : decide ((0 : Int) < (n : Int)) = true := decide_eq_true (by omega)
                    have tz2 : decide (0 < n) = true := decide_eq_true (by omega)
                    obtain ⟨n1, j, rx, rw, kj, hj, hn1, hkj1, w0, w2, w3, ⟨gg1, gg2⟩, b1, b2, b3, b4⟩ := HGAP.out (by omega)
                    have c0 := yl9
                    have c1 := x09
                    have c2 := H9.out.cell2 w0
                    have c3 := H9.out.cell2 w2
                    have w39 := H9.out.cell2 w3
                    have tw1 : IntKind.i64.wrap ((n : Int) - 1) = (n1 : Int) := by rw [IntWalk.i64_in _ (by omega)]; omega
                    have tw2 : IntKind.i64.wrap (p - rx) = p - rx := IntWalk.i64_in _ (by omega)
                    obtain ⟨gp, hgp⟩ : ∃ gp, p - rx - rw = gp := ⟨_, rfl⟩
                    have tw3 : IntKind.i64.wrap (p - rx - rw) = gp := by rw [IntWalk.i64_in _ (by omega)]; exact hgp
                    rw [hgp] at gg1 gg2
                    have tw4 : IntKind.i64.wrap ((k : Int) - 1) = (j : Int) := by rw [IntWalk.i64_in _ (by omega)]; omega
                    have tn5 : (0 : Int) ≤ (n1 : Int) := by omega
                    have tn6 : (n1 : Int) < (rs.length : Int) := by omega
                    have tj1 : (0 : Int) ≤ (j : Int) := by omega
                    have tj2 : (j : Int) < (nl : Int) := by omega
                    have tg1 : decide (gp < 0) = false := decide_eq_false (by omega)
                    clear hgp hn1 hkj1 w0 w2 w3 HGAP n0 hj
                    obtain ⟨L, hL⟩ : ∃ L : List (Addr × Value), L = [(⟨g5, i, none⟩, .slice (some ⟨g6, 0, none⟩) rs.length c6), (⟨g6, n * 7, none⟩, .int .i64 p), (⟨g6, n1 * 7, none⟩, .int .i64 rx), (⟨g6, n1 * 7 + 2, none⟩, .int .i64 rw)] := ⟨_, rfl⟩
                    have C0 : ∀ q ∈ L, w8.cell? q.1 = some q.2 := by rw [hL]; exact cells_cons c0 (cells_cons c1 (cells_cons c2 (cells_cons c3 (cells_nil _))))
                    have NE : Nonempty (InS (CellsK L w8)) := ⟨⟨_, CellsK.start C0⟩⟩
                    have G0 : ∀ x : InS (CellsK L w8), x.w.cell? ⟨g5, i, none⟩ = some (.slice (some ⟨g6, 0, none⟩) rs.length c6) := fun x => x.ok.cells (_, _) (by rw [hL]; simp)
                    have G1 : ∀ x : InS (CellsK L w8), x.w.cell? ⟨g6, n * 7, none⟩ = some (.int .i64 p) := fun x => x.ok.cells (_, _) (by rw [hL]; simp)
                    have G2 : ∀ x : InS (CellsK L w8), x.w.cell? ⟨g6, n1 * 7, none⟩ = some (.int .i64 rx) := fun x => x.ok.cells (_, _) (by rw [hL]; simp)
                    have G3 : ∀ x : InS (CellsK L w8), x.w.cell? ⟨g6, n1 * 7 + 2, none⟩ = some (.int .i64 rw) := fun x => x.ok.cells (_, _) (by rw [hL]; simp)
                    clear hL c0 c1 c2 c3
                    go_wp2_with fail
                    refine wp_region_class (CellsK L w8) (by kernel_rfl) (by kernel_rfl) (CellsK.start C0) ?_
                    iterate 29 (go_big_quiet_step (fail))
                    refine wpQuiet_nil ?_
                    rintro wa ⟨⟨wb, h9⟩, rfl⟩
                    have K9' := Lib.hid (K9.out.trans h9.since)
                    have w310 := h9.since.cell2 w39
                    have K10 := Lib.hid (K9'.out)
                    clear NE G0 G1 G2 G3 C0 h9 tw1 tw2 tw3
                    by_cases q : 0 < gp
                    · have tq : decide (0 < gp) = true := decide_eq_true q
                      have kj2 : (kj == 2) = true := beqT (gg2.1 q)
                      clear gg2
                      go_wp2_with fail
                      go_roundw
                      case rel => exact ⟨n + 1, k + 1, gl, by omega, by omega, by go_num, rfl, by go_num, by omega, by omega, by omega, HN, K10⟩
                      case measure => simp only [RowKit.intOf]; omega
                    · have tq : decide (0 < gp) = false := decide_eq_false q
                      have kj2 : (kj == 2) = false := beqF (fun e => q (gg2.2 e))
                      clear gg2
                      go_wp2_with fail
                      go_roundw
                      case rel => exact ⟨n + 1, k + 1, gl, by omega, by omega, by go_num, rfl, by go_num, by omega, by omega, by omega, HN, K10⟩
                      case measure => simp only [RowKit.intOf]; omega
            · have tn : (al[k].kind != 1) = true := by rw [bne_iff_ne]; exact kk
              by_cases kg : al[k].kind = 2
              · have HN := Lib.hid (HLW.out.glue hkl ck kg)
                rw [kg] at z0
                clear hcell kk kg tn
                go_wp2_with fail
                go_roundw
                case rel => exact ⟨n, k + 1, gl + 1, by omega, by omega, rfl, by go_num, by go_num, by omega, by omega, by omega, HN, HKq⟩
                case measure => simp only [RowKit.intOf]; omega
              · have HN := Lib.hid (HLW.out.oth hkl ck kk)
                have tg : (al[k].kind == 2) = false := beqF kg
                generalize al[k].kind = yk at *
                clear hcell kk kg
                go_wp2_with fail
                go_roundw
                case rel => exact ⟨n, k + 1, gl, by omega, by omega, rfl, rfl, by go_num, by omega, by omega, by omega, HN, HKq⟩
                case measure => simp only [RowKit.intOf]; omega
          · have t4 : decide ((k : Int) < (e : Int)) = false := decide_eq_false (by omega)
            have ek : k = e := by omega
            subst ek
            have LW := HLW.out
            have hnum := LW.num
            rw [HRS.out] at hnum
            obtain ⟨g5, A6, c6, hA5, yl, hc6, hc7, hrun⟩ := CLe.out _ HKq.out
            subst hA5
            have te : ((n : Int) != (rs.length : Int)) = false := by rw [bne_eq_false_iff_eq]; omega
            have te0 : ((n : Int) == (rs.length : Int)) = true := beqT (by omega)
            have te1' : (n != rs.length) = false := by rw [bne_eq_false_iff_eq]; omega
            have te2' : (n == rs.length) = true := beq_iff_eq.2 hnum
            have HNUM := Lib.hid hnum
            have hnr : n = rs.length := hnum
            clear hnum
            by_cases hend : k = nl
            · have t5 : ((k : Int) == (nl : Int)) = true := beqT (by omega)
              have HEND := Lib.hid hend
              clear hend hnr
              as_aux_lemma =>
                have c0 := yl
                clear CLe yl
                obtain ⟨L, hL⟩ : ∃ L : List (Addr × Value), L = [(⟨g5, i, none⟩, .slice A6 rs.length c6)] := ⟨_, rfl⟩
                have C0 : ∀ q ∈ L, wr.cell? q.1 = some q.2 := by rw [hL]; exact cells_cons c0 (cells_nil _)
                have NE : Nonempty (InS (CellsK L wr)) := ⟨⟨_, CellsK.start C0⟩⟩
                have G0 : ∀ x : InS (CellsK L wr), x.w.cell? ⟨g5, i, none⟩ = some (.slice A6 rs.length c6) := fun x => x.ok.cells (_, _) (by rw [hL]; simp)
                clear hL c0
                go_wp2_with fail
                refine wp_region_class (CellsK L wr) (by kernel_rfl) (by kernel_rfl) (CellsK.start C0) ?_
                iterate 39 (go_big_quiet_step (fail))
                refine wpQuiet_nil ?_
                rintro w8 ⟨⟨w9, h9⟩, rfl⟩
                have K9 := Lib.hid (HKq.out.trans h9.since)
                have ye9 := h9.since.cell2 ye
                clear NE G0 C0 h9
                go_wp2_with fail
                go_roundw
                case rel => exact ⟨i + 1, k + 1, by omega, by go_num, by go_num, HNX, by omega, K9⟩
                case measure => simp only [RowKit.intOf]; omega
            · have t5 : ((k : Int) == (nl : Int)) = false := beqF (by omega)
              have hkl : k < al.length := by rw [HNL.out]; omega
              obtain ⟨g3, hA3, hcell⟩ := CI.out _ HKq.out k hkl
              subst hA3
              have k0 : (0 : Int) ≤ (k : Int) := by omega
              have k1 : (k : Int) < (nl : Int) := by omega
              have z0 := hcell 0 _ rfl
              have z4 := hcell 4 _ rfl
              simp only [Nat.add_zero] at z0
              by_cases kp : al[k].kind = 3
              · rw [kp] at z0
                by_cases kc : al[k].cost ≤ -10000
                · have t6 : decide (al[k].cost ≤ -10000) = true := decide_eq_true kc
                  generalize al[k].cost = yc at *
                  clear hcell kp kc hnr hend hkl
                  as_aux_lemma =>
                    have c0 := yl
                    clear CLe yl
                    obtain ⟨L, hL⟩ : ∃ L : List (Addr × Value), L = [(⟨g5, i, none⟩, .slice A6 rs.length c6)] := ⟨_, rfl⟩
                    have C0 : ∀ q ∈ L, wr.cell? q.1 = some q.2 := by rw [hL]; exact cells_cons c0 (cells_nil _)
                    have NE : Nonempty (InS (CellsK L wr)) := ⟨⟨_, CellsK.start C0⟩⟩
                    have G0 : ∀ x : InS (CellsK L wr), x.w.cell? ⟨g5, i, none⟩ = some (.slice A6 rs.length c6) := fun x => x.ok.cells (_, _) (by rw [hL]; simp)
                    clear hL c0
                    go_wp2_with fail
                    refine wp_region_class (CellsK L wr) (by kernel_rfl) (by kernel_rfl) (CellsK.start C0) ?_
                    iterate 39 (go_big_quiet_step (fail))
                    refine wpQuiet_nil ?_
                    rintro w8 ⟨⟨w9, h9⟩, rfl⟩
                    have K9 := Lib.hid (HKq.out.trans h9.since)
                    have ye9 := h9.since.cell2 ye
                    clear NE G0 C0 h9
                    go_wp2_with fail
                    go_roundw
                    case rel => exact ⟨i + 1, k + 1, by omega, by go_num, by go_num, HNX, by omega, K9⟩
                    case measure => simp only [RowKit.intOf]; omega
                · have t6 : decide (al[k].cost ≤ -10000) = false := decide_eq_false kc
                  have HMU : Hid (mustP al k = false) := Lib.hid (by rw [must_pen hkl kp]; exact t6)
                  generalize al[k].cost = yc at *
                  clear hcell kp kc
                  by_cases hgl : 0 < gl
                  · as_aux_lemma =>
                      have tg : decide (0 < gl) = true := decide_eq_true hgl
                      rcases HLN.out with ⟨q1, q2⟩ | hln
                      · exact absurd q2 (by omega)
                      · obtain ⟨hn0, r, hr1, hr2⟩ := LW.full HAL.out hln HMU.out hgl
                        rw [HRS.out] at hr1
                        obtain ⟨hn1l, _⟩ := List.getElem?_eq_some_iff.1 hr1
                        obtain ⟨g6, hA6, hrc⟩ := hrun (by omega)
                        subst hA6
                        have hcr := hrc (n - 1) r hr1
                        have w0 := hcr 0 _ rfl
                        have w2 := hcr 2 _ rfl
                        simp only [Nat.add_zero] at w0 w2
                        obtain ⟨n1, hn1⟩ : ∃ n1, n - 1 = n1 := ⟨_, rfl⟩
                        rw [hn1] at w0 w2
                        have hall := rn_all (last := mustP al k) HAL.out hln k (Nat.le_refl _)
                        rw [HRS.out] at hall
                        have hb := hall r (List.mem_of_getElem? hr1)
                        obtain ⟨rx, hrx⟩ : ∃ rx, r.x = rx := ⟨_, rfl⟩
                        obtain ⟨rw_, hrw⟩ : ∃ rw_, r.width = rw_ := ⟨_, rfl⟩
                        rw [hrx] at w0 hb hr2
                        rw [hrw] at w2 hb hr2
                        have tw1 : IntKind.i64.wrap ((n : Int) - 1) = (n1 : Int) := by rw [IntWalk.i64_in _ (by omega)]; omega
                        have tw2 : IntKind.i64.wrap (rx + rw_) = rx + rw_ := IntWalk.i64_in _ (by omega)
                        have tw3 : IntKind.i64.wrap (7 + wd) = 7 + wd := IntWalk.i64_in _ (by omega)
                        have tn5 : (0 : Int) ≤ (n1 : Int) := by omega
                        have tn6 : (n1 : Int) < (rs.length : Int) := by omega
                        have te1 : (rx + rw_ != 7 + wd) = false := by rw [bne_eq_false_iff_eq]; exact hr2
                        have te2 : (rx + rw_ == 7 + wd) = true := beqT hr2
                        have HR2 := Lib.hid hr2
                        have c0 := yl
                        have c1 := w0
                        have c2 := w2
                        clear hr1 hr2 hrc hcr w0 w2 hn1 hall hrx hrw yl hrun hgl hln LW hb hnr
                        obtain ⟨L, hL⟩ : ∃ L : List (Addr × Value), L = [(⟨g5, i, none⟩, .slice (some ⟨g6, 0, none⟩) rs.length c6), (⟨g6, n1 * 7, none⟩, .int .i64 rx), (⟨g6, n1 * 7 + 2, none⟩, .int .i64 rw_)] := ⟨_, rfl⟩
                        have C0 : ∀ q ∈ L, wr.cell? q.1 = some q.2 := by rw [hL]; exact cells_cons c0 (cells_cons c1 (cells_cons c2 (cells_nil _)))
                        have NE : Nonempty (InS (CellsK L wr)) := ⟨⟨_, CellsK.start C0⟩⟩
                        have G0 : ∀ x : InS (CellsK L wr), x.w.cell? ⟨g5, i, none⟩ = some (.slice (some ⟨g6, 0, none⟩) rs.length c6) := fun x => x.ok.cells (_, _) (by rw [hL]; simp)
                        have G1 : ∀ x : InS (CellsK L wr), x.w.cell? ⟨g6, n1 * 7, none⟩ = some (.int .i64 rx) := fun x => x.ok.cells (_, _) (by rw [hL]; simp)
                        have G2 : ∀ x : InS (CellsK L wr), x.w.cell? ⟨g6, n1 * 7 + 2, none⟩ = some (.int .i64 rw_) := fun x => x.ok.cells (_, _) (by rw [hL]; simp)
                        clear hL c0 c1 c2
                        go_wp2_with fail
                        refine wp_region_class (CellsK L wr) (by kernel_rfl) (by kernel_rfl) (CellsK.start C0) ?_
                        iterate 39 (go_big_quiet_step (fail))
                        refine wpQuiet_nil ?_
                        rintro w8 ⟨⟨w9, h9⟩, rfl⟩
                        have K9 := Lib.hid (HKq.out.trans h9.since)
                        have ye9 := h9.since.cell2 ye
                        clear NE G0 G1 G2 C0 h9
                        go_wp2_with fail
                        go_roundw
                        case rel => exact ⟨i + 1, k + 1, by omega, by go_num, by go_num, HNX, by omega, K9⟩
                        case measure => simp only [RowKit.intOf]; omega
                  · as_aux_lemma =>
                      have tg : decide (0 < gl) = false := decide_eq_false hgl
                      have c0 := yl
                      clear CLe yl hgl hnr
                      obtain ⟨L, hL⟩ : ∃ L : List (Addr × Value), L = [(⟨g5, i, none⟩, .slice A6 rs.length c6)] := ⟨_, rfl⟩
                      have C0 : ∀ q ∈ L, wr.cell? q.1 = some q.2 := by rw [hL]; exact cells_cons c0 (cells_nil _)
                      have NE : Nonempty (InS (CellsK L wr)) := ⟨⟨_, CellsK.start C0⟩⟩
                      have G0 : ∀ x : InS (CellsK L wr), x.w.cell? ⟨g5, i, none⟩ = some (.slice A6 rs.length c6) := fun x => x.ok.cells (_, _) (by rw [hL]; simp)
                      clear hL c0
                      go_wp2_with fail
                      refine wp_region_class (CellsK L wr) (by kernel_rfl) (by kernel_rfl) (CellsK.start C0) ?_
                      iterate 39 (go_big_quiet_step (fail))
                      refine wpQuiet_nil ?_
                      rintro w8 ⟨⟨w9, h9⟩, rfl⟩
                      have K9 := Lib.hid (HKq.out.trans h9.since)
                      have ye9 := h9.since.cell2 ye
                      clear NE G0 C0 h9
                      go_wp2_with fail
                      go_roundw
                      case rel => exact ⟨i + 1, k + 1, by omega, by go_num, by go_num, HNX, by omega, K9⟩
                      case measure => simp only [RowKit.intOf]; omega
              · have t6 : (al[k].kind == 3) = false := beqF kp
                have HMU : Hid (mustP al k = false) := Lib.hid (must_else hkl kp)
                generalize al[k].cost = yc at *
                generalize al[k].kind = yk at *
                clear hcell kp
                by_cases hgl : 0 < gl
                · as_aux_lemma =>
                    have tg : decide (0 < gl) = true := decide_eq_true hgl
                    rcases HLN.out with ⟨q1, q2⟩ | hln
                    · exact absurd q2 (by omega)
                    · obtain ⟨hn0, r, hr1, hr2⟩ := LW.full HAL.out hln HMU.out hgl
                      rw [HRS.out] at hr1
                      obtain ⟨hn1l, _⟩ := List.getElem?_eq_some_iff.1 hr1
                      obtain ⟨g6, hA6, hrc⟩ := hrun (by omega)
                      subst hA6
                      have hcr := hrc (n - 1) r hr1
                      have w0 := hcr 0 _ rfl
                      have w2 := hcr 2 _ rfl
                      simp only [Nat.add_zero] at w0 w2
                      obtain ⟨n1, hn1⟩ : ∃ n1, n - 1 = n1 := ⟨_, rfl⟩
                      rw [hn1] at w0 w2
                      have hall := rn_all (last := mustP al k) HAL.out hln k (Nat.le_refl _)
                      rw [HRS.out] at hall
                      have hb := hall r (List.mem_of_getElem? hr1)
                      obtain ⟨rx, hrx⟩ : ∃ rx, r.x = rx := ⟨_, rfl⟩
                      obtain ⟨rw_, hrw⟩ : ∃ rw_, r.width = rw_ := ⟨_, rfl⟩
                      rw [hrx] at w0 hb hr2
                      rw [hrw] at w2 hb hr2
                      have tw1 : IntKind.i64.wrap ((n : Int) - 1) = (n1 : Int) := by rw [IntWalk.i64_in _ (by omega)]; omega
                      have tw2 : IntKind.i64.wrap (rx + rw_) = rx + rw_ := IntWalk.i64_in _ (by omega)
                      have tw3 : IntKind.i64.wrap (7 + wd) = 7 + wd := IntWalk.i64_in _ (by omega)
                      have tn5 : (0 : Int) ≤ (n1 : Int) := by omega
                      have tn6 : (n1 : Int) < (rs.length : Int) := by omega
                      have te1 : (rx + rw_ != 7 + wd) = false := by rw [bne_eq_false_iff_eq]; exact hr2
                      have te2 : (rx + rw_ == 7 + wd) = true := beqT hr2
                      have HR2 := Lib.hid hr2
                      have c0 := yl
                      have c1 := w0
                      have c2 := w2
                      clear hr1 hr2 hrc hcr w0 w2 hn1 hall hrx hrw yl hrun hgl hln LW hb hnr
                      obtain ⟨L, hL⟩ : ∃ L : List (Addr × Value), L = [(⟨g5, i, none⟩, .slice (some ⟨g6, 0, none⟩) rs.length c6), (⟨g6, n1 * 7, none⟩, .int .i64 rx), (⟨g6, n1 * 7 + 2, none⟩, .int .i64 rw_)] := ⟨_, rfl⟩
                      have C0 : ∀ q ∈ L, wr.cell? q.1 = some q.2 := by rw [hL]; exact cells_cons c0 (cells_cons c1 (cells_cons c2 (cells_nil _)))
                      have NE : Nonempty (InS (CellsK L wr)) := ⟨⟨_, CellsK.start C0⟩⟩
                      have G0 : ∀ x : InS (CellsK L wr), x.w.cell? ⟨g5, i, none⟩ = some (.slice (some ⟨g6, 0, none⟩) rs.length c6) := fun x => x.ok.cells (_, _) (by rw [hL]; simp)
                      have G1 : ∀ x : InS (CellsK L wr), x.w.cell? ⟨g6, n1 * 7, none⟩ = some (.int .i64 rx) := fun x => x.ok.cells (_, _) (by rw [hL]; simp)
                      have G2 : ∀ x : InS (CellsK L wr), x.w.cell? ⟨g6, n1 * 7 + 2, none⟩ = some (.int .i64 rw_) := fun x => x.ok.cells (_, _) (by rw [hL]; simp)
                      clear hL c0 c1 c2
                      go_wp2_with fail
                      refine wp_region_class (CellsK L wr) (by kernel_rfl) (by kernel_rfl) (CellsK.start C0) ?_
                      iterate 39 (go_big_quiet_step (fail))
                      refine wpQuiet_nil ?_
                      rintro w8 ⟨⟨w9, h9⟩, rfl⟩
                      have K9 := Lib.hid (HKq.out.trans h9.since)
                      have ye9 := h9.since.cell2 ye
                      clear NE G0 G1 G2 C0 h9
                      go_wp2_with fail
                      go_roundw
                      case rel => exact ⟨i + 1, k + 1, by omega, by go_num, by go_num, HNX, by omega, K9⟩
                      case measure => simp only [RowKit.intOf]; omega
                · as_aux_lemma =>
                    have tg : decide (0 < gl) = false := decide_eq_false hgl
                    have c0 := yl
                    clear CLe yl hgl hnr
                    obtain ⟨L, hL⟩ : ∃ L : List (Addr × Value), L = [(⟨g5, i, none⟩, .slice A6 rs.length c6)] := ⟨_, rfl⟩
                    have C0 : ∀ q ∈ L, wr.cell? q.1 = some q.2 := by rw [hL]; exact cells_cons c0 (cells_nil _)
                    have NE : Nonempty (InS (CellsK L wr)) := ⟨⟨_, CellsK.start C0⟩⟩
                    have G0 : ∀ x : InS (CellsK L wr), x.w.cell? ⟨g5, i, none⟩ = some (.slice A6 rs.length c6) := fun x => x.ok.cells (_, _) (by rw [hL]; simp)
                    clear hL c0
                    go_wp2_with fail
                    refine wp_region_class (CellsK L wr) (by kernel_rfl) (by kernel_rfl) (CellsK.start C0) ?_
                    iterate 39 (go_big_quiet_step (fail))
                    refine wpQuiet_nil ?_
                    rintro w8 ⟨⟨w9, h9⟩, rfl⟩
                    have K9 := Lib.hid (HKq.out.trans h9.since)
                    have ye9 := h9.since.cell2 ye
                    clear NE G0 C0 h9
                    go_wp2_with fail
                    go_roundw
                    case rel => exact ⟨i + 1, k + 1, by omega, by go_num, by go_num, HNX, by omega, K9⟩
                    case measure => simp only [RowKit.intOf]; omega
      · have t3 : decide ((i : Int) < (ml : Int)) = false := decide_eq_false (by omega)
        have KF := Lib.hid (K5.out.trans HKr.out)
        go_wp2_with fail
        refine (AW.out _).mono ?_
        rintro e w6 ⟨rfl, k6⟩
        go_wp2_with fail
        go_ret
        exact ⟨rfl, KF.out.trans k6⟩
  · have t2 : decide ((2000 : Int) < ((wHs l 0 : Nat) : Int)) = true := decide_eq_true (by omega)
    generalize wHs l 0 = wl at *
    subst hv
    clear hA hR hsm
    go_enter Tryd.func4, Tryd.ntmps4
    go_wp2_with fail
    refine (WT.out _ K0.out).mono ?_
    rintro e w1 ⟨rfl, k1⟩
    have K1 := Lib.hid (K0.out.trans k1)
    clear k1
    go_wp2_with fail
    refine (AW.out _).mono ?_
    rintro e w2 ⟨rfl, k2⟩
    go_wp2_with fail
    go_ret
    exact ⟨rfl, K1.out.trans k2⟩
end Go.Proofs.YtfnkokfkhjdkfaaDoor


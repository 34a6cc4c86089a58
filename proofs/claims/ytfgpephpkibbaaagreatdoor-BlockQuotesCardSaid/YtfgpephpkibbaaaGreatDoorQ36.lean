/-
  Texts of the proof, one behind the other: Lbd, Lbr.
-/
import Derived.Test.YtfgpephpkibbaaaGreatDoorQ30
import Derived.Test.YtfgpephpkibbaaaGreatDoorQ18
import Derived.Maps.AppendAt
import Derived.OwnWalk
import Derived.OneCell
import Derived.Laws.OwnMore
import Derived.Laws.AppendOwnNone
import Derived.Lib.SmallJoins
/-
  Contract of Define, of the package label, for texts of at most 100,000 bytes.
-/
namespace Go.Proofs.YtfgpephpkibbaaaGreatDoor
open Go.RowKit Go.Lib

/-- What Define tells. -/
def DfnV (l : List UInt8) : Value := .tuple #[refV (dfL l, dfD l, dfT l), .int .i64 (dfN l : Nat)]
theorem dfn_no {l : List UInt8} (h : dfB l = false) : DfnV l = .tuple #[.agg #[.string ⟨#[]⟩, .string ⟨#[]⟩, .string ⟨#[]⟩], .int .i64 0] := by
  unfold DfnV dfL dfD dfT dfN
  rw [h]
  rfl
theorem dfn_yes {l : List UInt8} (h : dfB l = true) : DfnV l = .tuple #[.agg #[.string ⟨(nrmL (lblT l)).toArray⟩, .string ⟨(dstT (l.drop (dfA l))).toArray⟩, .string ⟨(edT (dfE l)).toArray⟩], .int .i64 (dfA l + dfM l + edN (dfE l) : Nat)] := by
  unfold DfnV dfL dfD dfT dfN
  rw [h]
  rfl
theorem ret_ref {a : Value} {n m : Int} (k : n = m) : Ending.returned (.tuple #[a, .int .i64 n]) = .returned (.tuple #[a, .int .i64 m]) := by rw [k]
set_option maxRecDepth 100000 in
set_option maxHeartbeats 2000000 in
theorem define_any (s : ByteArray) (w : World) (hs : s.size ≤ 100000) (hO : Lis w) :
    Calls Tryz.prog 126 #[.string s] w fun e w' => e = .returned (DfnV s.data.toList) ∧ Keeps w w' := by
  have NO := Lib.hid (@dfn_no s.data.toList)
  have YES := Lib.hid (@dfn_yes s.data.toList)
  have HB : Hid (dfB s.data.toList = (dfC s.data.toList && !decide (dfM s.data.toList = 0) && edB (dfE s.data.toList))) := Lib.hid rfl
  have HC : Hid (dfC s.data.toList = (!decide (lblN s.data.toList = 0) && hasPrefix (s.data.toList.drop (lblN s.data.toList)) [58])) := Lib.hid rfl
  have CL := Lib.hid (@dfC_lt s.data.toList)
  have hA : dfA s.data.toList = lblN s.data.toList + 1 + spcN true false (s.data.toList.drop (lblN s.data.toList + 1)) := rfl
  have hM : dfM s.data.toList = dstN (s.data.toList.drop (dfA s.data.toList)) := rfl
  have hE : dfE s.data.toList = s.data.toList.drop (dfA s.data.toList + dfM s.data.toList) := rfl
  have LB := Lib.hid (fun W => label_any s W hs)
  unfold LblV at LB
  obtain ⟨hz, hn⟩ := lbl_le s.data.toList
  rw [bytes_len] at hz hn
  obtain ⟨T, hT⟩ : ∃ T : ByteArray, (⟨(lblT s.data.toList).toArray⟩ : ByteArray) = T := ⟨_, rfl⟩
  have Tl : T.data.toList = lblT s.data.toList := by rw [← hT]
  have Tz : T.size ≤ 100000 := by rw [← bytes_len, Tl]; omega
  have NR := Lib.hid (fun W => normal_any T W Tz)
  rw [Tl] at NR
  rw [hT] at LB
  have HO := Lib.hid hO
  have B0 := Lib.hid (Blk.new w 42 #[.string ⟨#[]⟩, .string ⟨#[]⟩, .string ⟨#[]⟩])
  have K0 := Lib.hid ((Keeps.refl w).alloc (.cells #[.string ⟨#[]⟩, .string ⟨#[]⟩, .string ⟨#[]⟩] 42))
  generalize lblN s.data.toList = n at *
  have HP := Lib.hid (fun W => (Tryz.strings_HasPrefix (s.extract n s.size) ⟨#[58]⟩ W).mono (fun _ _ h => And.intro h.1 h.2.symm))
  rw [show (⟨#[58]⟩ : ByteArray).data.toList = [58] from rfl, Lib.extract_to_end] at HP
  clear hO hT Tl Tz hz
  by_cases n0 : n = 0
  · have HN := Lib.hid (NO.out (by rw [HB.out, HC.out, n0]; rfl))
    have t0 := beqT (show (n : Int) = 0 by omega)
    rw [HN.out]
    clear HN n0 hA hM hE HB HC NO YES CL NR HP HO
    go_enter Tryz.func126, Tryz.ntmps126
    go_wp2_with fail
    refine (LB.out _).mono ?_
    rintro e w1 ⟨rfl, k1⟩
    have B1 := Lib.hid (B0.out.keep k1)
    have K1 := Lib.hid (K0.out.trans k1)
    clear k1 B0 K0
    obtain ⟨B, hB⟩ : ∃ B, w.heap.size = B := ⟨_, rfl⟩
    rw [hB] at B1 ⊢
    have HL : Hid (w.heap.size ≤ B) := Lib.hid (by omega)
    clear hB
    have y0 := B1.out.cell 0 (v := .string ⟨#[]⟩) rfl
    have y1 := B1.out.cell 1 (v := .string ⟨#[]⟩) rfl
    have y2 := B1.out.cell 2 (v := .string ⟨#[]⟩) rfl
    have e0 := B1.out.free 0
    have e1 := B1.out.free 1
    have e2 := B1.out.free 2
    have FIN := Lib.hid (ref_fin B1.out K1.out HL.out)
    go_wp2_with fail
    exact ret_blk2 rfl rfl rfl rfl (FIN.out _ _ _).1 Tryz.underlying42 (by kernel_rfl) ⟨rfl, (FIN.out _ _ _).2⟩
  · have t0 := beqF (show ¬ (n : Int) = 0 by omega)
    cases hp : hasPrefix (s.data.toList.drop n) [58] with
    | false =>
      have HN := Lib.hid (NO.out (by rw [HB.out, HC.out, hp]; simp))
      rw [HN.out]
      rw [hp] at HP
      clear HN hp n0 hA hM hE HB HC NO YES CL NR HO
      go_enter Tryz.func126, Tryz.ntmps126
      go_wp2_with fail
      refine (LB.out _).mono ?_
      rintro e w1 ⟨rfl, k1⟩
      have B1 := Lib.hid (B0.out.keep k1)
      have K1 := Lib.hid (K0.out.trans k1)
      clear k1 B0 K0
      obtain ⟨B, hB⟩ : ∃ B, w.heap.size = B := ⟨_, rfl⟩
      rw [hB] at B1 ⊢
      have HL : Hid (w.heap.size ≤ B) := Lib.hid (by omega)
      clear hB
      go_wp2_with fail
      refine (HP.out _).mono ?_
      rintro e w9 ⟨rfl, rfl⟩
      have y0 := B1.out.cell 0 (v := .string ⟨#[]⟩) rfl
      have y1 := B1.out.cell 1 (v := .string ⟨#[]⟩) rfl
      have y2 := B1.out.cell 2 (v := .string ⟨#[]⟩) rfl
      have e0 := B1.out.free 0
      have e1 := B1.out.free 1
      have e2 := B1.out.free 2
      have FIN := Lib.hid (ref_fin B1.out K1.out HL.out)
      go_wp2_with fail
      exact ret_blk2 rfl rfl rfl rfl (FIN.out _ _ _).1 Tryz.underlying42 (by kernel_rfl) ⟨rfl, (FIN.out _ _ _).2⟩
    | true =>
      have hc : dfC s.data.toList = true := by rw [HC.out, hp, decide_eq_false n0]; rfl
      have hn2 := (CL.out hc).2
      rw [bytes_len] at hn2
      rw [hp] at HP
      have ha := spc_le true (s.data.toList.drop (n + 1)) false
      rw [List.length_drop, bytes_len] at ha
      have SP := Lib.hid (fun W => spaces_any (s.extract (n + 1) s.size) true W (by rw [ByteArray.size_extract]; omega))
      rw [Lib.extract_to_end] at SP
      generalize spcN true false (s.data.toList.drop (n + 1)) = a at *
      rw [hA] at hM hE YES
      have DS := Lib.hid (fun W h => dest_any (s.extract (n + 1 + a) s.size) W (by rw [ByteArray.size_extract]; omega) h)
      rw [Lib.extract_to_end] at DS
      have hm := dst_le (s.data.toList.drop (n + 1 + a))
      rw [List.length_drop, bytes_len] at hm
      generalize dstN (s.data.toList.drop (n + 1 + a)) = m at *
      generalize dstT (s.data.toList.drop (n + 1 + a)) = dt at *
      generalize dstB (s.data.toList.drop (n + 1 + a)) = db at *
      rw [hM] at hE HB YES
      have ED := Lib.hid (fun W h => ending_any (s.extract (n + 1 + a + m) s.size) W (by rw [ByteArray.size_extract]; omega) h)
      rw [Lib.extract_to_end] at ED
      unfold EdgV at ED
      have hd := ed_le (s.data.toList.drop (n + 1 + a + m))
      rw [List.length_drop, bytes_len] at hd
      rw [hE] at HB YES
      generalize edN (s.data.toList.drop (n + 1 + a + m)) = k at *
      generalize edT (s.data.toList.drop (n + 1 + a + m)) = et at *
      rw [hc] at HB
      clear hp hc hA hM hE HC CL
      by_cases m0 : m = 0
      · have HN := Lib.hid (NO.out (by rw [HB.out, m0]; rfl))
        have t1 := beqT (show (m : Int) = 0 by omega)
        rw [HN.out]
        clear HN n0 m0 HB NO YES NR ED
        go_enter Tryz.func126, Tryz.ntmps126
        go_wp2_with fail
        refine (LB.out _).mono ?_
        rintro e w1 ⟨rfl, k1⟩
        have B1 := Lib.hid (B0.out.keep k1)
        have K1 := Lib.hid (K0.out.trans k1)
        clear k1 B0 K0
        obtain ⟨B, hB⟩ : ∃ B, w.heap.size = B := ⟨_, rfl⟩
        rw [hB] at B1 ⊢
        have HL : Hid (w.heap.size ≤ B) := Lib.hid (by omega)
        clear hB
        go_wp2_with fail
        refine (HP.out _).mono ?_
        rintro e w9 ⟨rfl, rfl⟩
        go_wp2_with fail
        refine (SP.out _).mono ?_
        rintro e w9 ⟨rfl, rfl⟩
        go_wp2_with fail
        refine (DS.out _ (HO.out.keep K1.out)).mono ?_
        rintro e w2 ⟨rfl, k2⟩
        have B2 := Lib.hid (B1.out.keep k2)
        have K2 := Lib.hid (K1.out.trans k2)
        clear k2 B1 K1
        have y0 := B2.out.cell 0 (v := .string ⟨#[]⟩) rfl
        have y1 := B2.out.cell 1 (v := .string ⟨#[]⟩) rfl
        have y2 := B2.out.cell 2 (v := .string ⟨#[]⟩) rfl
        have e0 := B2.out.free 0
        have e1 := B2.out.free 1
        have e2 := B2.out.free 2
        have FIN := Lib.hid (ref_fin B2.out K2.out HL.out)
        go_wp2_with fail
        exact ret_blk2 rfl rfl rfl rfl (FIN.out _ _ _).1 Tryz.underlying42 (by kernel_rfl) ⟨rfl, (FIN.out _ _ _).2⟩
      · have t1 := beqF (show ¬ (m : Int) = 0 by omega)
        cases hb : edB (s.data.toList.drop (n + 1 + a + m)) with
        | false =>
          have HN := Lib.hid (NO.out (by rw [HB.out, hb]; simp))
          rw [HN.out]
          rw [hb] at ED
          clear HN hb n0 m0 HB NO YES NR
          go_enter Tryz.func126, Tryz.ntmps126
          go_wp2_with fail
          refine (LB.out _).mono ?_
          rintro e w1 ⟨rfl, k1⟩
          have B1 := Lib.hid (B0.out.keep k1)
          have K1 := Lib.hid (K0.out.trans k1)
          clear k1 B0 K0
          obtain ⟨B, hB⟩ : ∃ B, w.heap.size = B := ⟨_, rfl⟩
          rw [hB] at B1 ⊢
          have HL : Hid (w.heap.size ≤ B) := Lib.hid (by omega)
          clear hB
          go_wp2_with fail
          refine (HP.out _).mono ?_
          rintro e w9 ⟨rfl, rfl⟩
          go_wp2_with fail
          refine (SP.out _).mono ?_
          rintro e w9 ⟨rfl, rfl⟩
          go_wp2_with fail
          refine (DS.out _ (HO.out.keep K1.out)).mono ?_
          rintro e w2 ⟨rfl, k2⟩
          have B2 := Lib.hid (B1.out.keep k2)
          have K2 := Lib.hid (K1.out.trans k2)
          clear k2 B1 K1
          go_wp2_with fail
          refine (ED.out _ (HO.out.keep K2.out)).mono ?_
          rintro e w3 ⟨rfl, k3⟩
          have B3 := Lib.hid (B2.out.keep k3)
          have K3 := Lib.hid (K2.out.trans k3)
          clear k3 B2 K2
          have y0 := B3.out.cell 0 (v := .string ⟨#[]⟩) rfl
          have y1 := B3.out.cell 1 (v := .string ⟨#[]⟩) rfl
          have y2 := B3.out.cell 2 (v := .string ⟨#[]⟩) rfl
          have e0 := B3.out.free 0
          have e1 := B3.out.free 1
          have e2 := B3.out.free 2
          have FIN := Lib.hid (ref_fin B3.out K3.out HL.out)
          go_wp2_with fail
          exact ret_blk2 rfl rfl rfl rfl (FIN.out _ _ _).1 Tryz.underlying42 (by kernel_rfl) ⟨rfl, (FIN.out _ _ _).2⟩
        | true =>
          have HN := Lib.hid (YES.out (by rw [HB.out, hb, decide_eq_false m0]; rfl))
          rw [HN.out]
          rw [hb] at ED
          clear HN hb n0 m0 HB NO YES
          go_enter Tryz.func126, Tryz.ntmps126
          go_wp2_with fail
          refine (LB.out _).mono ?_
          rintro e w1 ⟨rfl, k1⟩
          have B1 := Lib.hid (B0.out.keep k1)
          have K1 := Lib.hid (K0.out.trans k1)
          clear k1 B0 K0
          obtain ⟨B, hB⟩ : ∃ B, w.heap.size = B := ⟨_, rfl⟩
          rw [hB] at B1 ⊢
          have HL : Hid (w.heap.size ≤ B) := Lib.hid (by omega)
          clear hB
          go_wp2_with fail
          refine (HP.out _).mono ?_
          rintro e w9 ⟨rfl, rfl⟩
          go_wp2_with fail
          refine (SP.out _).mono ?_
          rintro e w9 ⟨rfl, rfl⟩
          go_wp2_with fail
          refine (DS.out _ (HO.out.keep K1.out)).mono ?_
          rintro e w2 ⟨rfl, k2⟩
          have B2 := Lib.hid (B1.out.keep k2)
          have K2 := Lib.hid (K1.out.trans k2)
          clear k2 B1 K1
          go_wp2_with fail
          refine (ED.out _ (HO.out.keep K2.out)).mono ?_
          rintro e w3 ⟨rfl, k3⟩
          have B3 := Lib.hid (B2.out.keep k3)
          have K3 := Lib.hid (K2.out.trans k3)
          clear k3 B2 K2
          go_wp2_with fail
          refine (NR.out _).mono ?_
          rintro e w4 ⟨rfl, k4⟩
          have B4 := Lib.hid (B3.out.keep k4)
          have K4 := Lib.hid (K3.out.trans k4)
          clear k4 B3 K3
          have y0 := B4.out.cell 0 (v := .string ⟨#[]⟩) rfl
          have y1 := B4.out.cell 1 (v := .string ⟨#[]⟩) rfl
          have y2 := B4.out.cell 2 (v := .string ⟨#[]⟩) rfl
          have e0 := B4.out.free 0
          have e1 := B4.out.free 1
          have e2 := B4.out.free 2
          have FIN := Lib.hid (ref_fin B4.out K4.out HL.out)
          go_wp2_with fail
          exact ret_blk2 rfl rfl rfl rfl (FIN.out _ _ _).1 Tryz.underlying42 (by kernel_rfl) ⟨ret_ref (by omega), (FIN.out _ _ _).2⟩
end Go.Proofs.YtfgpephpkibbaaaGreatDoor

/-
  Lists of definitions in memory: a slice of structs of three texts that the call owns. Contract of Defined, of the package label, for texts of at most 100,000 bytes.
-/
namespace Go.Proofs.YtfgpephpkibbaaaGreatDoor
open Go.RowKit Go.Lib

theorem cell_three_new (w : World) (x y z : Value) (t : TypeId) : ∀ j u, [x, y, z][j]? = some u → (w.alloc (.cells #[x, y, z] t)).cell? ((⟨w.heap.size, 0, none⟩ : Addr).add j) = some u := by
  intro j u hj
  have hb := Blk.new w t #[x, y, z]
  match j, hj with
  | 0, hj => simp at hj; subst hj; exact hb.cell 0 rfl
  | 1, hj => simp at hj; subst hj; exact hb.cell 1 rfl
  | 2, hj => simp at hj; subst hj; exact hb.cell 2 rfl
theorem refs_snoc {n₀ : Nat} {W : World} {v : Value} {rs : List Rf} {r : Rf} (h : W.ownsRow n₀ 42 3 v (rs.length + 1) (rs.flatMap refC ++ refC r)) : Refs n₀ W v (rs ++ [r]) := by
  unfold Refs
  rw [List.length_append, List.flatMap_append]
  simpa using h
/-- Where Defined's loop stands. -/
def DefAt (l t : List UInt8) (rs : List Rf) : Prop := rs ++ dfsL t = dfsL l ∧ dfrL t = dfrL l
theorem defAt_step {l t : List UInt8} {rs : List Rf} (h : DefAt l t rs) (hn : dfN t ≠ 0) : DefAt l (t.drop (dfN t)) (rs ++ [(dfL t, dfD t, dfT t)]) := by
  obtain ⟨h1, h2⟩ := h
  obtain ⟨e1, e2⟩ := dfs_step hn
  exact ⟨by rw [← h1, e1, List.append_assoc]; rfl, by rw [← h2, e2]⟩
theorem defAt_end {l t : List UInt8} {rs : List Rf} (h : DefAt l t rs) (hn : dfN t = 0) : rs = dfsL l ∧ t = dfrL l := by
  obtain ⟨h1, h2⟩ := h
  obtain ⟨e1, e2⟩ := dfs_stop hn
  exact ⟨by rw [← h1, e1, List.append_nil], by rw [← h2, e2]⟩
theorem ret_vs {v : Value} {a b : ByteArray} (h : a = b) : Ending.returned (.tuple #[v, .string a]) = .returned (.tuple #[v, .string b]) := by rw [h]
set_option maxRecDepth 100000 in
set_option maxHeartbeats 2000000 in
theorem defined_any (s : ByteArray) (w : World) (hs : s.size ≤ 100000) (hO : Lis w) :
    Calls Tryz.prog 95 #[.string s] w fun e w' => ∃ v, e = .returned (.tuple #[v, .string ⟨(dfrL s.data.toList).toArray⟩]) ∧ Refs w.heap.size w' v (dfsL s.data.toList) ∧ Keeps w w' := by
  have HO := Lib.hid hO
  have DF := Lib.hid (fun a W h k => define_any a W h k)
  have CL := Lib.hid (fun a W h => clone_any a W h)
  obtain ⟨i0, hi, hz0, hz1, hz2⟩ := info_parts infoRf
  clear hO
  go_enter Tryz.func95, Tryz.ntmps95
  go_wp2_with fail
  go_loopw [0, 4] (fun x v wr => ∃ (t : ByteArray) (rs : List Rf), x = .string t ∧ t.size ≤ s.size ∧ rs.length + t.size ≤ s.size ∧ Hid (Refs w.heap.size wr v rs) ∧ Hid (Keeps w wr) ∧ Hid (DefAt s.data.toList t.data.toList rs) ∧ w.heap.size ≤ wr.heap.size) (fun x _ _ => sizeOfS x)
  case atStart => exact ⟨s, [], rfl, Nat.le_refl _, by simp, Lib.hid (World.ownsRow_nil _ _ _ _), Lib.hid (Keeps.refl w), Lib.hid ⟨rfl, rfl⟩, Nat.le_refl _⟩
  case round =>
    obtain ⟨t, rs, rfl, htz, hrl, HX, HK, HD, hsz⟩ := hrel
    have D1 := Lib.hid (DF.out t wr (by omega) (HO.out.keep HK.out))
    unfold DfnV refV at D1
    have hn := df_le t.data.toList
    rw [bytes_len] at hn
    by_cases n0 : dfN t.data.toList = 0
    · obtain ⟨E1, E2⟩ := defAt_end HD.out n0
      have HE1 := Lib.hid E1
      have HE2 : Hid (t = ⟨(dfrL s.data.toList).toArray⟩) := Lib.hid (bytes_eq E2)
      have C1 := Lib.hid (fun W => CL.out t W (by omega))
      rw [n0] at D1
      clear E1 E2 n0 HD
      generalize dfL t.data.toList = a1 at *
      generalize dfD t.data.toList = a2 at *
      generalize dfT t.data.toList = a3 at *
      go_wp2_with fail
      refine D1.out.mono ?_
      rintro e w1 ⟨rfl, k1⟩
      have HX1 := Lib.hid (Refs.keep (HX.out.keep k1) ((Keeps.refl w1).alloc (.cells #[.string ⟨a1.toArray⟩, .string ⟨a2.toArray⟩, .string ⟨a3.toArray⟩] 42)))
      have HK1 := Lib.hid ((HK.out.trans k1).alloc (.cells #[.string ⟨a1.toArray⟩, .string ⟨a2.toArray⟩, .string ⟨a3.toArray⟩] 42))
      clear k1 HX HK
      go_wp2_with fail
      refine (C1.out _).mono ?_
      rintro e w2 ⟨rfl, k2⟩
      have HX2 := Lib.hid (HX1.out.keep k2)
      have HK2 := Lib.hid (HK1.out.trans k2)
      clear k2 HX1 HK1
      go_wp2_with fail
      go_ret2
      exact ⟨_, ret_vs HE2.out, by rw [← HE1.out]; exact HX2.out, HK2.out⟩
    · have HD2 := Lib.hid (defAt_step HD.out n0)
      have hx : (t.extract (dfN t.data.toList) t.size).data.toList = t.data.toList.drop (dfN t.data.toList) := Lib.extract_to_end t _
      rw [← hx] at HD2
      have HZ : (t.extract (dfN t.data.toList) t.size).size = t.size - dfN t.data.toList := by rw [ByteArray.size_extract]; omega
      clear hx HD
      generalize dfN t.data.toList = n at *
      have t0 := beqF (show ¬ (n : Int) = 0 by omega)
      generalize dfL t.data.toList = a1 at *
      generalize dfD t.data.toList = a2 at *
      generalize dfT t.data.toList = a3 at *
      go_wp2_with fail
      refine D1.out.mono ?_
      rintro e w1 ⟨rfl, k1⟩
      have HX1 := Lib.hid (Refs.keep (HX.out.keep k1) ((Keeps.refl w1).alloc (.cells #[.string ⟨a1.toArray⟩, .string ⟨a2.toArray⟩, .string ⟨a3.toArray⟩] 42)))
      have HK1 := Lib.hid ((HK.out.trans k1).alloc (.cells #[.string ⟨a1.toArray⟩, .string ⟨a2.toArray⟩, .string ⟨a3.toArray⟩] 42))
      have hsz1 := k1.size
      clear k1 HX HK
      have hown := row_below HX1.out ((Keeps.refl _).alloc (.cells #[.string ⟨a1.toArray⟩, .string ⟨a2.toArray⟩, .string ⟨a3.toArray⟩] 42))
      have HKA := Lib.hid (HK1.out.alloc (.cells #[.string ⟨a1.toArray⟩, .string ⟨a2.toArray⟩, .string ⟨a3.toArray⟩] 42))
      have hnw : ∀ j u, [Value.string ⟨a1.toArray⟩, .string ⟨a2.toArray⟩, .string ⟨a3.toArray⟩][j]? = some u → ((w1.alloc (.cells #[.string ⟨a1.toArray⟩, .string ⟨a2.toArray⟩, .string ⟨a3.toArray⟩] 42)).alloc (.cells #[.string ⟨a1.toArray⟩, .string ⟨a2.toArray⟩, .string ⟨a3.toArray⟩] 42)).cell? ((⟨w1.heap.size + 1, 0, none⟩ : Addr).add j) = some u := by
        have := cell_three_new (w1.alloc (.cells #[.string ⟨a1.toArray⟩, .string ⟨a2.toArray⟩, .string ⟨a3.toArray⟩] 42)) (.string ⟨a1.toArray⟩) (.string ⟨a2.toArray⟩) (.string ⟨a3.toArray⟩) 42
        rwa [show (w1.alloc (.cells #[.string ⟨a1.toArray⟩, .string ⟨a2.toArray⟩, .string ⟨a3.toArray⟩] 42)).heap.size = w1.heap.size + 1 by simp] at this
      go_wp2_with (at_builtin; go_loud (
        refine wpList_append_own _ rfl _ _ 27 rfl w.heap.size 42 i0 (.agg #[.string ⟨#[]⟩, .string ⟨#[]⟩, .string ⟨#[]⟩]) 3 48 Tryz.underlying27 hi hz0 hz1 hz2 rfl (by decide) _ _ _ rfl hown ⟨w1.heap.size + 1, 0, none⟩ 1 1 [.string ⟨a1.toArray⟩, .string ⟨a2.toArray⟩, .string ⟨a3.toArray⟩] rfl rfl hnw (by simp [Value.oneCell']) (by simp only [maxLen]; omega) (by omega) (by simp; omega) ?_
        intro v' w2 hown' hgrow _
        have HKB := Lib.hid (rows_grown hown HKA.out hgrow)
        have HXB := Lib.hid (refs_snoc (r := (a1, a2, a3)) hown')
        clear hown hown' hgrow hnw))
      go_roundw
      case rel => exact ⟨t.extract n t.size, rs ++ [(a1, a2, a3)], rfl, by omega, by rw [List.length_append, List.length_singleton]; omega, HXB, HKB, HD2, HKB.out.size⟩
      case measure => show (t.extract n t.size).size < t.size; omega
end Go.Proofs.YtfgpephpkibbaaaGreatDoor


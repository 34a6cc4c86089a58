/-
  Contract of Define, of the package label, for texts of at most 100,000 bytes.
-/
import Derived.Test.YtonajkcdkihchaaDoorLbb
import Derived.Test.YtonajkcdkihchaaDoorLbc
import Derived.Test.YtonajkcdkihchaaDoorBlk
namespace Go.Proofs.YtonajkcdkihchaaDoor
open Go.RowKit Go.Lib

/-- A block of three cells of the call's own, written anew. -/
theorem ref_fin {w w' : World} {B : Nat} {t : TypeId} {a b c : Value} (hb : Blk w' B t #[a, b, c]) (k : Keeps w w') (hB : w.heap.size ≤ B) (v0 v1 v2 : Value) :
    Blk (((w'.setCell ⟨B, 0, none⟩ v0).setCell ⟨B, 1, none⟩ v1).setCell ⟨B, 2, none⟩ v2) B t #[v0, v1, v2] ∧ Keeps w (((w'.setCell ⟨B, 0, none⟩ v0).setCell ⟨B, 1, none⟩ v1).setCell ⟨B, 2, none⟩ v2) :=
  ⟨((hb.set 0 v0 rfl).set 1 v1 rfl).set 2 v2 rfl, ((k.set hB 0 v0).set hB 1 v1).set hB 2 v2⟩
/-- A definition, as a value. -/
def refV (r : Rf) : Value := .agg #[.string ⟨r.1.toArray⟩, .string ⟨r.2.1.toArray⟩, .string ⟨r.2.2.toArray⟩]
/-- What Define tells. -/
def DfnV (l : List UInt8) : Value := .tuple #[refV (dfL l, dfD l, dfT l), .int .i64 (dfN l : Nat)]
theorem dfn_no {l : List UInt8} (h : dfB l = false) : DfnV l = .tuple #[.agg #[.string ⟨#[]⟩, .string ⟨#[]⟩, .string ⟨#[]⟩], .int .i64 0] := by
  unfold DfnV dfL dfD dfT dfN
  rw [h]
  rfl
theorem dfn_yes {l : List UInt8} (h : dfB l = true) : DfnV l = .tuple #[.agg #[.string ⟨(nrmL (lblT l)).toArray⟩, .string ⟨(dstT (l.drop (dfA l))).toArray⟩, .string ⟨(edT (dfE l)).toArray⟩], .int .i64 (dfA l + dfM l + edN (dfE l) : Nat)] := by
  unfold DfnV dfL dfD dfT dfN
  rw [h]
  rfl
theorem ret_ref {a : Value} {n m : Int} (k : n = m) : Ending.returned (.tuple #[a, .int .i64 n]) = .returned (.tuple #[a, .int .i64 m]) := by rw [k]
set_option maxRecDepth 100000 in
set_option maxHeartbeats 2000000 in
theorem define_any (s : ByteArray) (w : World) (hs : s.size ≤ 100000) (hO : Lis w) :
    Calls Tryd.prog 7 #[.string s] w fun e w' => e = .returned (DfnV s.data.toList) ∧ Keeps w w' := by
  have NO := Lib.hid (@dfn_no s.data.toList)
  have YES := Lib.hid (@dfn_yes s.data.toList)
  have HB : Hid (dfB s.data.toList = (dfC s.data.toList && !decide (dfM s.data.toList = 0) && edB (dfE s.data.toList))) := Lib.hid rfl
  have HC : Hid (dfC s.data.toList = (!decide (lblN s.data.toList = 0) && hasPrefix (s.data.toList.drop (lblN s.data.toList)) [58])) := Lib.hid rfl
  have CL := Lib.hid (@dfC_lt s.data.toList)
  have hA : dfA s.data.toList = lblN s.data.toList + 1 + spcN true false (s.data.toList.drop (lblN s.data.toList + 1)) := rfl
  have hM : dfM s.data.toList = dstN (s.data.toList.drop (dfA s.data.toList)) := rfl
  have hE : dfE s.data.toList = s.data.toList.drop (dfA s.data.toList + dfM s.data.toList) := rfl
  have LB := Lib.hid (fun W => label_any s W hs)
  unfold LblV at LB
  obtain ⟨hz, hn⟩ := lbl_le s.data.toList
  rw [bytes_len] at hz hn
  obtain ⟨T, hT⟩ : ∃ T : ByteArray, (⟨(lblT s.data.toList).toArray⟩ : ByteArray) = T := ⟨_, rfl⟩
  have Tl : T.data.toList = lblT s.data.toList := by rw [← hT]
  have Tz : T.size ≤ 100000 := by rw [← bytes_len, Tl]; omega
  have NR := Lib.hid (fun W => normal_any T W Tz)
  rw [Tl] at NR
  rw [hT] at LB
  have HO := Lib.hid hO
  have B0 := Lib.hid (Blk.new w 28 #[.string ⟨#[]⟩, .string ⟨#[]⟩, .string ⟨#[]⟩])
  have K0 := Lib.hid ((Keeps.refl w).alloc (.cells #[.string ⟨#[]⟩, .string ⟨#[]⟩, .string ⟨#[]⟩] 28))
  generalize lblN s.data.toList = n at *
  have HP := Lib.hid (fun W => (Tryd.strings_HasPrefix (s.extract n s.size) ⟨#[58]⟩ W).mono (fun _ _ h => And.intro h.1 h.2.symm))
  rw [show (⟨#[58]⟩ : ByteArray).data.toList = [58] from rfl, Lib.extract_to_end] at HP
  clear hO hT Tl Tz hz
  by_cases n0 : n = 0
  · have HN := Lib.hid (NO.out (by rw [HB.out, HC.out, n0]; rfl))
    have t0 := beqT (show (n : Int) = 0 by omega)
    rw [HN.out]
    clear HN n0 hA hM hE HB HC NO YES CL NR HP HO
    go_enter Tryd.func7, Tryd.ntmps7
    go_wp2_with fail
    refine (LB.out _).mono ?_
    rintro e w1 ⟨rfl, k1⟩
    have B1 := Lib.hid (B0.out.keep k1)
    have K1 := Lib.hid (K0.out.trans k1)
    clear k1 B0 K0
    obtain ⟨B, hB⟩ : ∃ B, w.heap.size = B := ⟨_, rfl⟩
    rw [hB] at B1 ⊢
    have HL : Hid (w.heap.size ≤ B) := Lib.hid (by omega)
    clear hB
    have y0 := B1.out.cell 0 (v := .string ⟨#[]⟩) rfl
    have y1 := B1.out.cell 1 (v := .string ⟨#[]⟩) rfl
    have y2 := B1.out.cell 2 (v := .string ⟨#[]⟩) rfl
    have e0 := B1.out.free 0
    have e1 := B1.out.free 1
    have e2 := B1.out.free 2
    have FIN := Lib.hid (ref_fin B1.out K1.out HL.out)
    go_wp2_with fail
    exact ret_blk2 rfl rfl rfl rfl (FIN.out _ _ _).1 Tryd.underlying28 (by kernel_rfl) ⟨rfl, (FIN.out _ _ _).2⟩
  · have t0 := beqF (show ¬ (n : Int) = 0 by omega)
    cases hp : hasPrefix (s.data.toList.drop n) [58] with
    | false =>
      have HN := Lib.hid (NO.out (by rw [HB.out, HC.out, hp]; simp))
      rw [HN.out]
      rw [hp] at HP
      clear HN hp n0 hA hM hE HB HC NO YES CL NR HO
      go_enter Tryd.func7, Tryd.ntmps7
      go_wp2_with fail
      refine (LB.out _).mono ?_
      rintro e w1 ⟨rfl, k1⟩
      have B1 := Lib.hid (B0.out.keep k1)
      have K1 := Lib.hid (K0.out.trans k1)
      clear k1 B0 K0
      obtain ⟨B, hB⟩ : ∃ B, w.heap.size = B := ⟨_, rfl⟩
      rw [hB] at B1 ⊢
      have HL : Hid (w.heap.size ≤ B) := Lib.hid (by omega)
      clear hB
      go_wp2_with fail
      refine (HP.out _).mono ?_
      rintro e w9 ⟨rfl, rfl⟩
      have y0 := B1.out.cell 0 (v := .string ⟨#[]⟩) rfl
      have y1 := B1.out.cell 1 (v := .string ⟨#[]⟩) rfl
      have y2 := B1.out.cell 2 (v := .string ⟨#[]⟩) rfl
      have e0 := B1.out.free 0
      have e1 := B1.out.free 1
      have e2 := B1.out.free 2
      have FIN := Lib.hid (ref_fin B1.out K1.out HL.out)
      go_wp2_with fail
      exact ret_blk2 rfl rfl rfl rfl (FIN.out _ _ _).1 Tryd.underlying28 (by kernel_rfl) ⟨rfl, (FIN.out _ _ _).2⟩
    | true =>
      have hc : dfC s.data.toList = true := by rw [HC.out, hp, decide_eq_false n0]; rfl
      have hn2 := (CL.out hc).2
      rw [bytes_len] at hn2
      rw [hp] at HP
      have ha := spc_le true (s.data.toList.drop (n + 1)) false
      rw [List.length_drop, bytes_len] at ha
      have SP := Lib.hid (fun W => spaces_any (s.extract (n + 1) s.size) true W (by rw [ByteArray.size_extract]; omega))
      rw [Lib.extract_to_end] at SP
      generalize spcN true false (s.data.toList.drop (n + 1)) = a at *
      rw [hA] at hM hE YES
      have DS := Lib.hid (fun W h => dest_any (s.extract (n + 1 + a) s.size) W (by rw [ByteArray.size_extract]; omega) h)
      rw [Lib.extract_to_end] at DS
      have hm := dst_le (s.data.toList.drop (n + 1 + a))
      rw [List.length_drop, bytes_len] at hm
      generalize dstN (s.data.toList.drop (n + 1 + a)) = m at *
      generalize dstT (s.data.toList.drop (n + 1 + a)) = dt at *
      generalize dstB (s.data.toList.drop (n + 1 + a)) = db at *
      rw [hM] at hE HB YES
      have ED := Lib.hid (fun W h => ending_any (s.extract (n + 1 + a + m) s.size) W (by rw [ByteArray.size_extract]; omega) h)
      rw [Lib.extract_to_end] at ED
      unfold EdgV at ED
      have hd := ed_le (s.data.toList.drop (n + 1 + a + m))
      rw [List.length_drop, bytes_len] at hd
      rw [hE] at HB YES
      generalize edN (s.data.toList.drop (n + 1 + a + m)) = k at *
      generalize edT (s.data.toList.drop (n + 1 + a + m)) = et at *
      rw [hc] at HB
      clear hp hc hA hM hE HC CL
      by_cases m0 : m = 0
      · have HN := Lib.hid (NO.out (by rw [HB.out, m0]; rfl))
        have t1 := beqT (show (m : Int) = 0 by omega)
        rw [HN.out]
        clear HN n0 m0 HB NO YES NR ED
        go_enter Tryd.func7, Tryd.ntmps7
        go_wp2_with fail
        refine (LB.out _).mono ?_
        rintro e w1 ⟨rfl, k1⟩
        have B1 := Lib.hid (B0.out.keep k1)
        have K1 := Lib.hid (K0.out.trans k1)
        clear k1 B0 K0
        obtain ⟨B, hB⟩ : ∃ B, w.heap.size = B := ⟨_, rfl⟩
        rw [hB] at B1 ⊢
        have HL : Hid (w.heap.size ≤ B) := Lib.hid (by omega)
        clear hB
        go_wp2_with fail
        refine (HP.out _).mono ?_
        rintro e w9 ⟨rfl, rfl⟩
        go_wp2_with fail
        refine (SP.out _).mono ?_
        rintro e w9 ⟨rfl, rfl⟩
        go_wp2_with fail
        refine (DS.out _ (HO.out.keep K1.out)).mono ?_
        rintro e w2 ⟨rfl, k2⟩
        have B2 := Lib.hid (B1.out.keep k2)
        have K2 := Lib.hid (K1.out.trans k2)
        clear k2 B1 K1
        have y0 := B2.out.cell 0 (v := .string ⟨#[]⟩) rfl
        have y1 := B2.out.cell 1 (v := .string ⟨#[]⟩) rfl
        have y2 := B2.out.cell 2 (v := .string ⟨#[]⟩) rfl
        have e0 := B2.out.free 0
        have e1 := B2.out.free 1
        have e2 := B2.out.free 2
        have FIN := Lib.hid (ref_fin B2.out K2.out HL.out)
        go_wp2_with fail
        exact ret_blk2 rfl rfl rfl rfl (FIN.out _ _ _).1 Tryd.underlying28 (by kernel_rfl) ⟨rfl, (FIN.out _ _ _).2⟩
      · have t1 := beqF (show ¬ (m : Int) = 0 by omega)
        cases hb : edB (s.data.toList.drop (n + 1 + a + m)) with
        | false =>
          have HN := Lib.hid (NO.out (by rw [HB.out, hb]; simp))
          rw [HN.out]
          rw [hb] at ED
          clear HN hb n0 m0 HB NO YES NR
          go_enter Tryd.func7, Tryd.ntmps7
          go_wp2_with fail
          refine (LB.out _).mono ?_
          rintro e w1 ⟨rfl, k1⟩
          have B1 := Lib.hid (B0.out.keep k1)
          have K1 := Lib.hid (K0.out.trans k1)
          clear k1 B0 K0
          obtain ⟨B, hB⟩ : ∃ B, w.heap.size = B := ⟨_, rfl⟩
          rw [hB] at B1 ⊢
          have HL : Hid (w.heap.size ≤ B) := Lib.hid (by omega)
          clear hB
          go_wp2_with fail
          refine (HP.out _).mono ?_
          rintro e w9 ⟨rfl, rfl⟩
          go_wp2_with fail
          refine (SP.out _).mono ?_
          rintro e w9 ⟨rfl, rfl⟩
          go_wp2_with fail
          refine (DS.out _ (HO.out.keep K1.out)).mono ?_
          rintro e w2 ⟨rfl, k2⟩
          have B2 := Lib.hid (B1.out.keep k2)
          have K2 := Lib.hid (K1.out.trans k2)
          clear k2 B1 K1
          go_wp2_with fail
          refine (ED.out _ (HO.out.keep K2.out)).mono ?_
          rintro e w3 ⟨rfl, k3⟩
          have B3 := Lib.hid (B2.out.keep k3)
          have K3 := Lib.hid (K2.out.trans k3)
          clear k3 B2 K2
          have y0 := B3.out.cell 0 (v := .string ⟨#[]⟩) rfl
          have y1 := B3.out.cell 1 (v := .string ⟨#[]⟩) rfl
          have y2 := B3.out.cell 2 (v := .string ⟨#[]⟩) rfl
          have e0 := B3.out.free 0
          have e1 := B3.out.free 1
          have e2 := B3.out.free 2
          have FIN := Lib.hid (ref_fin B3.out K3.out HL.out)
          go_wp2_with fail
          exact ret_blk2 rfl rfl rfl rfl (FIN.out _ _ _).1 Tryd.underlying28 (by kernel_rfl) ⟨rfl, (FIN.out _ _ _).2⟩
        | true =>
          have HN := Lib.hid (YES.out (by rw [HB.out, hb, decide_eq_false m0]; rfl))
          rw [HN.out]
          rw [hb] at ED
          clear HN hb n0 m0 HB NO YES
          go_enter Tryd.func7, Tryd.ntmps7
          go_wp2_with fail
          refine (LB.out _).mono ?_
          rintro e w1 ⟨rfl, k1⟩
          have B1 := Lib.hid (B0.out.keep k1)
          have K1 := Lib.hid (K0.out.trans k1)
          clear k1 B0 K0
          obtain ⟨B, hB⟩ : ∃ B, w.heap.size = B := ⟨_, rfl⟩
          rw [hB] at B1 ⊢
          have HL : Hid (w.heap.size ≤ B) := Lib.hid (by omega)
          clear hB
          go_wp2_with fail
          refine (HP.out _).mono ?_
          rintro e w9 ⟨rfl, rfl⟩
          go_wp2_with fail
          refine (SP.out _).mono ?_
          rintro e w9 ⟨rfl, rfl⟩
          go_wp2_with fail
          refine (DS.out _ (HO.out.keep K1.out)).mono ?_
          rintro e w2 ⟨rfl, k2⟩
          have B2 := Lib.hid (B1.out.keep k2)
          have K2 := Lib.hid (K1.out.trans k2)
          clear k2 B1 K1
          go_wp2_with fail
          refine (ED.out _ (HO.out.keep K2.out)).mono ?_
          rintro e w3 ⟨rfl, k3⟩
          have B3 := Lib.hid (B2.out.keep k3)
          have K3 := Lib.hid (K2.out.trans k3)
          clear k3 B2 K2
          go_wp2_with fail
          refine (NR.out _).mono ?_
          rintro e w4 ⟨rfl, k4⟩
          have B4 := Lib.hid (B3.out.keep k4)
          have K4 := Lib.hid (K3.out.trans k4)
          clear k4 B3 K3
          have y0 := B4.out.cell 0 (v := .string ⟨#[]⟩) rfl
          have y1 := B4.out.cell 1 (v := .string ⟨#[]⟩) rfl
          have y2 := B4.out.cell 2 (v := .string ⟨#[]⟩) rfl
          have e0 := B4.out.free 0
          have e1 := B4.out.free 1
          have e2 := B4.out.free 2
          have FIN := Lib.hid (ref_fin B4.out K4.out HL.out)
          go_wp2_with fail
          exact ret_blk2 rfl rfl rfl rfl (FIN.out _ _ _).1 Tryd.underlying28 (by kernel_rfl) ⟨ret_ref (by omega), (FIN.out _ _ _).2⟩
end Go.Proofs.YtonajkcdkihchaaDoor

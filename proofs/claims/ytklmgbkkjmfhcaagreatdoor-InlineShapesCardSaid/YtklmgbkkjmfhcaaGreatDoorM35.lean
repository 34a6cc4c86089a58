/-
  Texts of the proof, one behind the other: IqA, IqB, IqC.
-/
import Derived.Test.YtklmgbkkjmfhcaaGreatDoorM34
import Derived.Carry
import Derived.WalkArith
import Derived.WalkSpells
/-
  Contract of lastTicks.
-/
namespace Go.Proofs.YtklmgbkkjmfhcaaGreatDoor
open Go.RowKit Go.Lib Go.Maps

theorem keyInt : Keyed Tryz.prog 3 := int_keyed Tryz.underlying3
theorem keyStr : Keyed Tryz.prog 9 := string_keyed Tryz.underlying9
theorem zeroInt (w : World) : (zeroValue 3).run Tryz.prog w = .ok (.int .i64 0) w := by kernel_rfl
theorem wf_nat {n : Nat} (h : n ≤ 1000000000) : (Lit.int .i64 (n : Int)).wf = true := WalkArith.wf_i64 ⟨by omega, by omega⟩
set_option maxRecDepth 100000 in
set_option maxHeartbeats 2000000 in
theorem lastTicks_any (s : ByteArray) (w : World) (hs : s.size ≤ 20000) :
    Calls Tryz.prog 48 #[.string s] w fun e w' => e = .returned (.map (some w.heap.size)) ∧ w.heap.size < w'.heap.size ∧ Keeps w w' ∧ ∃ n D, w'.ownsMap Tryz.prog 3 (plainElem Tryz.prog 3) w.heap.size n D ∧ n ≤ 100000 ∧ TickF s.data.toList D := by
  have hmm := @run_makeMap Tryz.prog
  have hl := Lib.hid (bytes_len s)
  go_enter Tryz.func48, Tryz.ntmps48
  go_wp2_with fail
  go_loopw [4] (fun i wr => ∃ (a : Nat) (n : Nat) (D : DataW Unit), a ≤ s.size ∧ i = .int .i64 a ∧ n ≤ a ∧ Hid (TkR s.data.toList a D) ∧ wr.ownsMap Tryz.prog 3 (plainElem Tryz.prog 3) w.heap.size n D ∧ Hid (Keeps w wr) ∧ Hid (w.heap.size < wr.heap.size)) (fun i _ => s.size - (RowKit.intOf i).toNat)
  case atStart => exact ⟨0, 0, .map [], Nat.zero_le _, rfl, Nat.le_refl _, Lib.hid (TkR.zero _), World.ownsMap_made _ _ _ _, Lib.hid ((Keeps.refl w).alloc _), Lib.hid (by simp)⟩
  case round =>
    obtain ⟨a, n, D, ha, rfl, hn, HR, hown, HK, HL⟩ := hrel
    by_cases h : a < s.size
    · have ex : (s.extract a s.size).size ≤ 100000 := by rw [ByteArray.size_extract]; omega
      have CT := Lib.hid (fun W => countTicks_any (s.extract a s.size) W ex)
      rw [Lib.extract_to_end] at CT
      have HS := Lib.hid (HR.out.step (by rw [hl.out]; exact h) (by rw [hl.out]; omega))
      have hle := cntP_le rTik (s.data.toList.drop a)
      rw [List.length_drop, hl.out] at hle
      generalize cntP rTik (s.data.toList.drop a) = c at *
      have hkey : keyOf Tryz.prog 3 (.int .i64 c) = some (.int .i64 c) := keyOf_int_mk Tryz.underlying3 (wf_nat (by omega))
      have hval : plainElem (H := Unit) Tryz.prog 3 (.int .i64 a) = some (.lit (.int .i64 a), []) := plainElem_int Tryz.underlying3 (wf_nat (by omega))
      have hmx : n < maxLen := by unfold maxLen; omega
      obtain ⟨m, hm⟩ : ∃ m : Nat, max c 1 = m := ⟨_, rfl⟩
      have hm1 : max (c : Int) 1 = (m : Int) := by omega
      rw [hm] at HS
      clear ex
      go_wp2_with (first
        | (go_at_call 28; (with_reducible refine (CT.out _).mono ?_); rintro e w1 ⟨rfl, rfl⟩)
        | (at_mapUpdate; refine wpList_mapUpdate_own _ rfl _ _ _ 36 rfl 3 3 keyInt Tryz.underlying36 _ w.heap.size n _ rfl hown hmx _ _ _ rfl rfl hkey _ [] hval ?_; intro w1 hown1 hgrow1)
        | fail)
      go_roundw
      case rel => exact ⟨a + m, n + 1, _, by omega, by go_num, by omega, HS, hown1, Lib.hid (Below.grown HK.out hgrow1 HK.out.size (fun b e => by cases e; exact Nat.le_refl _)), Lib.hid (Nat.lt_of_lt_of_le HL.out hgrow1.size)⟩
      case measure => simp [RowKit.intOf]; omega
    · have HT := Lib.hid (HR.out.last (by rw [hl.out]; omega))
      go_wp2_with fail
      go_ret
      exact ⟨rfl, HL.out, HK.out, n, D, hown, by omega, HT.out⟩
end Go.Proofs.YtklmgbkkjmfhcaaGreatDoor

/-
  Contract of code, of inline's parser.
-/
namespace Go.Proofs.YtklmgbkkjmfhcaaGreatDoor
open Go.RowKit Go.Lib Go.Maps

/-- The parser's maps and counts may have turned, nothing else of it. -/
def MidI (W : World) (B : Nat) (O : Nat → Option Nat) (s : ByteArray) (rs : List Rf) (p : Ps) (lv bv rv : Value) (L : List (Pc × Value)) (W' : World) : Prop := ∃ O' fi' pm' tm' em', MemI W' B O' s rs p lv bv rv fi' pm' tm' em' L ∧ Chg W O W' O'
/-- What code tells. -/
def CdcV (s : List UInt8) (p : Ps) : Value := if ltkM s (cntP rTik (s.drop p.pos)) ≤ p.pos then .tuple #[.string ⟨#[]⟩, .int .i64 0] else CodV (s.drop p.pos)
section
variable {W : World} {B : Nat} {O : Nat → Option Nat} {s : ByteArray} {rs : List Rf} {p : Ps} {lv bv rv : Value} {fi : Nat} {pm tm em : Value} {L : List (Pc × Value)}
theorem MidI.keep {w w' : World} (h : MidI W B O s rs p lv bv rv L w) (q : Keeps w w') : MidI W B O s rs p lv bv rv L w' := by
  obtain ⟨O', fi', pm', tm', em', m, c⟩ := h
  exact ⟨O', fi', pm', tm', em', m.keep q, c.trans (Chg.keeps O' q)⟩
theorem MemI.mid (h : MemI W B O s rs p lv bv rv fi pm tm em L) : MidI W B O s rs p lv bv rv L W := ⟨O, fi, pm, tm, em, h, Chg.refl _ _⟩
theorem MemI.midOf {W0 w' : World} {O0 : Nat → Option Nat} (h : MemI W B O s rs p lv bv rv fi pm tm em L) (c : Chg W0 O0 W O) (q : Keeps W w') : MidI W0 B O0 s rs p lv bv rv L w' := ⟨O, fi, pm, tm, em, h.keep q, c.trans (Chg.keeps O q)⟩
/-- The map of the last stretches has been made. -/
theorem MemI.ticked {w1 : World} (h : MemI W B O s rs p lv bv rv fi pm tm em L) (q : Keeps W w1) {m n : Nat} {D : DataW Unit} (hm : W.heap.size ≤ m) (hm1 : m < w1.heap.size) (ho : w1.ownsMap Tryz.prog 3 (plainElem Tryz.prog 3) m n D) (hn : n ≤ 100000) (hT : TickF s.data.toList D) :
    ∃ O', MemI (w1.setCell ⟨B, 8, none⟩ (.map (some m))) B O' s rs p lv bv rv fi pm (.map (some m)) em L ∧ Chg W O (w1.setCell ⟨B, 8, none⟩ (.map (some m))) O' := by
  have hBm : B ≠ m := fun e => by have := h.box.lt; omega
  obtain ⟨c, hlt, same⟩ := Chg.made (W' := w1.setCell ⟨B, 8, none⟩ (.map (some m))) m 3 q h.lt hm hm1 h.oB (setCell_size _ _ _) rfl rfl rfl (fun b hb => heap_setCell_other _ ⟨B, 8, none⟩ b _ hb)
  have nB : ∀ b x, O b = some (x + 1) → b ≠ B := fun b x e => h.ne (cls := x) e
  refine ⟨_, h.turn c hlt (fun b hb e => same b hb (by rcases e with e | e <;> exact nB b _ e)) ((h.keep q).box.set 8 (.map (some m)) rfl) (h.plc.chg c h.lt fun b hb e => same b hb (nB b 4 e)) ?_ (h.ens.chg c h.lt fun b hb e => same b hb (nB b 3 e)) h.fin, c⟩
  exact .inr ⟨m, n, D, rfl, upd_at _ _ _, ho.setCell hBm.symm _, hn, hT⟩
set_option maxRecDepth 100000 in
set_option maxHeartbeats 8000000 in
theorem code_mid (h : MemI W B O s rs p lv bv rv fi pm tm em L) (hp : p.pos < s.size) :
    Calls Tryz.prog 29 #[.pointer (some ⟨B, 0, none⟩), .int .i64 (cntP rTik (s.data.toList.drop p.pos) : Nat)] W fun e w' => e = .returned (CdcV s.data.toList p) ∧ MidI W B O s rs p lv bv rv L w' := by
  have hsiz := h.siz
  have hl := Lib.hid (bytes_len s)
  have hle := cntP_le rTik (s.data.toList.drop p.pos)
  rw [List.length_drop, hl.out] at hle
  have hV : CdcV s.data.toList p = if ltkM s.data.toList (cntP rTik (s.data.toList.drop p.pos)) ≤ p.pos then .tuple #[.string ⟨#[]⟩, .int .i64 0] else CodV (s.data.toList.drop p.pos) := rfl
  rw [hV]
  clear hV
  have CD := Lib.hid (fun w hm => rcode_any (s.extract p.pos s.size) w (by rw [ByteArray.size_extract]; omega) hm)
  simp only [Lib.extract_to_end] at CD
  obtain ⟨CV, hCV⟩ : ∃ CV, CodV (s.data.toList.drop p.pos) = CV := ⟨_, rfl⟩
  have hCF : ∃ a b, CV = .tuple #[a, b] := ⟨_, _, hCV.symm⟩
  rw [hCV] at CD ⊢
  obtain ⟨RV, hRV⟩ : ∃ RV, (if ltkM s.data.toList (cntP rTik (s.data.toList.drop p.pos)) ≤ p.pos then Value.tuple #[.string ⟨#[]⟩, .int .i64 0] else CV) = RV := ⟨_, rfl⟩
  rw [hRV]
  generalize cntP rTik (s.data.toList.drop p.pos) = c at *
  have LT := Lib.hid (fun w => lastTicks_any s w (by omega))
  have HM := Lib.hid h
  have b0 := h.box.cell 0 (v := .string s) rfl
  have b8 := h.box.cell 8 (v := tm) rfl
  have f8 := h.box.free 8
  have hkey : keyOf Tryz.prog 3 (.int .i64 c) = some (.int .i64 c) := keyOf_int_mk Tryz.underlying3 (wf_nat (by omega))
  have hs0 : (0 : Int) ≤ (p.pos : Int) := by omega
  have hs1 : (p.pos : Int) ≤ (s.size : Int) := by omega
  obtain ⟨CA, CB, rfl⟩ := hCF
  have HRV := Lib.hid hRV
  clear hCV hRV
  have htic := h.tic
  clear h
  go_enter Tryz.func29, Tryz.ntmps29
  obtain ⟨b, hb⟩ : ∃ b : Bool, b = true ∧ tm = .map none ∨ b = false ∧ ∃ m, tm = .map (some m) := by
    rcases htic with e | ⟨m, n, D, e, _⟩
    · exact ⟨true, .inl ⟨rfl, e⟩⟩
    · exact ⟨false, .inr ⟨rfl, m, e⟩⟩
  clear htic
  have q1 : ∀ w : World, (binOp .eql 36 (.map none) (.map none)).run Tryz.prog w = .ok (.bool true) w := fun w => run_eql_map_nil w _ _ _ none Tryz.underlying36
  have q2 : ∀ (w : World) (m : Nat), (binOp .eql 36 (.map (some m)) (.map none)).run Tryz.prog w = .ok (.bool false) w := fun w m => run_eql_map_nil w _ _ _ (some m) Tryz.underlying36
  go_upto_region 1 with fail
  go_cut [10] (fun t wx => t = .bool b ∧ W = wx)
  case first =>
    rcases hb with ⟨rfl, rfl⟩ | ⟨rfl, m, rfl⟩
    all_goals
      go_wp2_with fail
      go_meet
      exact ⟨rfl, rfl⟩
  case rest =>
  obtain ⟨rfl, rfl⟩ := hcut
  go_upto_if 10 with fail
  go_cut [] (fun wx' => ∃ wx, wx = wx' ∧ ∃ O1 m, Hid (MemI wx B O1 s rs p lv bv rv fi pm (.map (some m)) em L) ∧ Hid (Chg W O wx O1))
  case first =>
    rcases hb with ⟨rfl, rfl⟩ | ⟨rfl, m, rfl⟩
    · go_wp2_with (first | (go_at_call 48; (with_reducible refine (LT.out _).mono ?_); rintro e w1 ⟨rfl, hm1, k1, n, D, ho, hn, hT⟩; have y8 := (HM.out.box.keep k1).free 8; have y9 := (HM.out.box.keep k1).cell 8 (v := .map none) rfl))
      go_meet
      case rel =>
        obtain ⟨O1, m1, c1⟩ := HM.out.ticked k1 (Nat.le_refl _) hm1 ho hn hT
        exact ⟨_, rfl, O1, _, Lib.hid m1, Lib.hid c1⟩
    · go_wp2_with fail
      go_meet
      case rel => exact ⟨_, rfl, O, m, HM, Lib.hid (Chg.refl _ _)⟩
  case rest =>
    obtain ⟨wx, rfl, O1, m, HM1, HC1⟩ := hcut
    have e0 := HM1.out.box.cell 0 (v := .string s) rfl
    have e1 := HM1.out.box.cell 1 (v := .int .i64 p.pos) rfl
    have e8 := HM1.out.box.cell 8 (v := .map (some m)) rfl
    obtain ⟨V, hrun, hVV⟩ : ∃ V : Int, (∀ w', w' = wx.drew → (Instr.lookup 36 (.map (some m)) (.int .i64 c) false).run Tryz.prog w' = .ok (.int .i64 V) w') ∧ V = (ltkM s.data.toList c : Nat) := by
      rcases HM1.out.tic with e | ⟨m', n, D, e, _, ho, _, hT⟩
      · cases e
      · cases e
        obtain ⟨V, hr, hat, _⟩ := ho.drew.lookup_int keyInt Tryz.underlying36 Tryz.underlying3 (zeroInt _) hkey
        refine ⟨V, fun w' e => by rw [e]; exact hr, ?_⟩
        have := hT c (by rw [hl.out]; omega)
        have h2 := hat.symm.trans this
        unfold i64D at h2
        injection h2 with h2
        injection h2
    have hrun0 := hrun _ rfl
    by_cases hV : ltkM s.data.toList c ≤ p.pos
    · have hF := Lib.hid (show RV = Value.tuple #[.string ⟨#[]⟩, .int .i64 0] by rw [← HRV.out, if_pos hV])
      have q0 : decide (V ≤ (p.pos : Int)) = true := decide_eq_true (by omega)
      clear hV hVV
      go_wp2_with fail
      go_region
      all_goals
        go_wp2_with fail
        go_ret2
        exact ⟨congrArg Ending.returned hF.out.symm, HM1.out.midOf HC1.out (Keeps.refl _).drew⟩
    · have hF := Lib.hid (show RV = Value.tuple #[CA, CB] by rw [← HRV.out, if_neg hV])
      have q0 : decide (V ≤ (p.pos : Int)) = false := decide_eq_false (by omega)
      clear hV hVV
      have CD1 := Lib.hid (fun w (k : Keeps wx w) => CD.out w ((HM1.out.keep k).env.mxl))
      have NS : ∀ w', Keeps wx w' → Keeps wx w' ∧ w'.cell? ⟨B, 0, none⟩ = some (.string s) ∧ w'.cell? ⟨B, 1, none⟩ = some (.int .i64 p.pos) := fun w' q => ⟨q, (HM1.out.box.keep q).cell 0 rfl, (HM1.out.box.keep q).cell 1 rfl⟩
      have KD := ((Keeps.refl wx).drew).drew
      go_wp2_with fail
      go_region
      all_goals
        go_wp2_with fail
        go_region_held3 (fun w' => Keeps wx w' ∧ w'.cell? ⟨B, 0, none⟩ = some (.string s) ∧ w'.cell? ⟨B, 1, none⟩ = some (.int .i64 p.pos))
          (first | (with_reducible assumption) | (with_reducible exact NS _ KD) | (with_reducible exact NS _ k1))
          (first | (go_at_call 49; go_loud ((with_reducible refine (CD1.out _ KD).mono ?_)); rintro e w1 ⟨rfl, k0⟩; have k1 := KD.trans k0))
        rename_i hHeld
        obtain ⟨KW, _, _⟩ := hHeld
        go_wp2_with fail
        go_ret2
        exact ⟨congrArg Ending.returned hF.out.symm, HM1.out.midOf HC1.out KW⟩
end
end Go.Proofs.YtklmgbkkjmfhcaaGreatDoor

/-
  Contract of takeCode.
-/
namespace Go.Proofs.YtklmgbkkjmfhcaaGreatDoor
open Go.RowKit Go.Lib Go.Maps

section
variable {W : World} {B : Nat} {O : Nat → Option Nat} {s : ByteArray} {rs : List Rf} {p : Ps}
/-- Behind what has turned the maps alone, a piece without kids is put. -/
theorem MidI.put {lv bv rv : Value} {L : List (Pc × Value)} {W1 : World} (h : MidI W B O s rs p lv bv rv L W1) (k : Nat) (t : List UInt8) (n : Nat) (hn : 1 ≤ n) (ht : t.length ≤ n) (hp : p.pos + n ≤ s.size) (w : World) (q : Keeps W1 w) :
    Calls Tryz.prog 25 #[.pointer (some ⟨B, 0, none⟩), .agg #[.int .i64 k, .string ⟨t.toArray⟩, .string ⟨#[]⟩, .string ⟨#[]⟩, .slice none 0 0], .int .i64 n] w fun e w' => e = .returned (.tuple #[]) ∧ PostI W B O s rs (p.put (spanP k t [] [] []) n) w' := by
  obtain ⟨O1, fi, pm, tm, em, m, c⟩ := h
  refine (put_any (m.keep q) k t [] [] [] (.slice none 0 0) n (SpsAt.nil _ _) hn ht hp).mono ?_
  rintro e w' ⟨he, hq⟩
  obtain ⟨O2, m2, c2⟩ := PostI.from q hq
  exact ⟨he, O2, m2, c.trans c2⟩
theorem MidI.take {lv bv rv : Value} {L : List (Pc × Value)} {W1 : World} (h : MidI W B O s rs p lv bv rv L W1) (wf : WfI s.data.toList p) (hp : p.pos < s.size) (w : World) (q : Keeps W1 w) :
    Calls Tryz.prog 18 #[.pointer (some ⟨B, 0, none⟩)] w fun e w' => e = .returned (.tuple #[]) ∧ PostI W B O s rs (byteM s.data.toList p) w' := by
  obtain ⟨O1, fi, pm, tm, em, m, c⟩ := h
  refine (takeByte_any (W := w) (O := O1) (rs := rs) ⟨wf, _, _, _, _, _, _, _, _, m.keep q⟩ hp).mono ?_
  rintro e w' ⟨he, hq⟩
  obtain ⟨O2, m2, c2⟩ := PostI.from q hq
  exact ⟨he, O2, m2, c.trans c2⟩
theorem MidI.cell {lv bv rv : Value} {L : List (Pc × Value)} {W1 : World} (h : MidI W B O s rs p lv bv rv L W1) {w : World} (q : Keeps W1 w) : w.cell? ⟨B, 0, none⟩ = some (.string s) ∧ w.cell? ⟨B, 1, none⟩ = some (.int .i64 p.pos) := by
  obtain ⟨O1, fi, pm, tm, em, m, c⟩ := h
  exact ⟨(m.box.keep q).cell 0 rfl, (m.box.keep q).cell 1 rfl⟩
theorem cdc_no {s : List UInt8} {p : Ps} (h : ltkM s (cntP rTik (s.drop p.pos)) ≤ p.pos) : CdcV s p = .tuple #[.string ⟨#[]⟩, .int .i64 0] ∧ cdcN s p = 0 := by
  unfold CdcV cdcN
  rw [if_pos h, if_pos h]; exact ⟨rfl, rfl⟩
theorem cdc_yes {s : List UInt8} {p : Ps} (h : ¬ ltkM s (cntP rTik (s.drop p.pos)) ≤ p.pos) : CdcV s p = CodV (s.drop p.pos) ∧ cdcN s p = codN (s.drop p.pos) := by
  unfold CdcV cdcN
  rw [if_neg h, if_neg h]; exact ⟨rfl, rfl⟩
/-- What code tells, and what it makes. -/
theorem cdc_two (s : List UInt8) (p : Ps) : ∃ (t : List UInt8) (n : Nat), CdcV s p = .tuple #[.string ⟨t.toArray⟩, .int .i64 n] ∧ n = cdcN s p ∧ (n = 0 → codM s p = p.put (textP ((s.drop p.pos).take (cntP rTik (s.drop p.pos)))) (cntP rTik (s.drop p.pos))) ∧ (n ≠ 0 → codM s p = p.put (spanP 4 t [] [] []) n ∧ t.length ≤ n ∧ p.pos + n ≤ s.length) := by
  by_cases h : ltkM s (cntP rTik (s.drop p.pos)) ≤ p.pos
  · obtain ⟨h1, h2⟩ := cdc_no h
    refine ⟨[], 0, h1, h2.symm, fun _ => ?_, fun e => absurd rfl e⟩
    unfold codM
    rw [if_pos h2]
  · obtain ⟨h1, h2⟩ := cdc_yes h
    refine ⟨codT (s.drop p.pos), codN (s.drop p.pos), h1, h2.symm, fun e => ?_, fun hn' => ?_⟩
    · unfold codM
      rw [if_pos (h2.trans e)]
    · obtain ⟨hle, hl⟩ := cod_le (s.drop p.pos)
      rw [List.length_drop] at hle
      unfold codM
      rw [if_neg (fun x => hn' (h2.symm.trans x))]
      exact ⟨rfl, hl, by omega⟩
set_option maxRecDepth 100000 in
set_option maxHeartbeats 8000000 in
theorem takeCode_any (h : ParI W B O s rs p) (hp : p.pos < s.size) (hc : (s.data.toList.drop p.pos).headD 0 = 96) :
    Calls Tryz.prog 11 #[.pointer (some ⟨B, 0, none⟩)] W fun e w' => e = .returned (.tuple #[]) ∧ PostI W B O s rs (codM s.data.toList p) w' := by
  obtain ⟨wf, lv, bv, rv, fi, pm, tm, em, L, m⟩ := h
  have hsiz := m.siz
  have hl := Lib.hid (bytes_len s)
  have b0 := m.box.cell 0 (v := .string s) rfl
  have b1 := m.box.cell 1 (v := .int .i64 p.pos) rfl
  have hle := cntP_le rTik (s.data.toList.drop p.pos)
  rw [List.length_drop, hl.out] at hle
  have hpos : 1 ≤ cntP rTik (s.data.toList.drop p.pos) := by
    have hd : s.data.toList.drop p.pos = s.data.toList[p.pos]'(by rw [hl.out]; exact hp) :: s.data.toList.drop (p.pos + 1) := List.drop_eq_getElem_cons (by rw [hl.out]; exact hp)
    rw [hd] at hc ⊢
    rw [cntP_yes _ (by rw [show s.data.toList[p.pos]'(by rw [hl.out]; exact hp) = 96 from hc]; rfl)]
    omega
  have CT := Lib.hid (fun w => countTicks_any (s.extract p.pos s.size) w (by rw [ByteArray.size_extract]; omega))
  rw [Lib.extract_to_end] at CT
  have CM := Lib.hid (code_mid (m.keep (Keeps.refl W).drew) hp)
  obtain ⟨t, n, hV, hn, hM0, hM1⟩ := cdc_two s.data.toList p
  rw [hV] at CM
  obtain ⟨c, hcc⟩ : ∃ c, cntP rTik (s.data.toList.drop p.pos) = c := ⟨_, rfl⟩
  rw [hcc] at CT CM hle hpos hM0
  have hs0 : (0 : Int) ≤ (p.pos : Int) := by omega
  have hs1 : (p.pos : Int) ≤ (s.size : Int) := by omega
  have HC0 := Lib.hid (Chg.keeps O (Keeps.refl W).drew)
  clear m wf hV hcc hc
  by_cases h0 : n = 0
  · subst h0
    rw [show ((0 : Nat) : Int) = 0 from rfl] at CM
    have HM := Lib.hid (hM0 rfl).symm
    have hext : (⟨((s.data.toList.drop p.pos).take c).toArray⟩ : ByteArray) = s.extract p.pos (p.pos + c) := bytes_eq (by rw [Lib.extract_data, show p.pos + c - p.pos = c by omega])
    have TT := Lib.hid (fun w => textOf_any (s.extract p.pos (p.pos + c)) w)
    have hs2 : (p.pos : Int) ≤ (p.pos : Int) + (c : Int) := by omega
    have hs3 : (p.pos : Int) + (c : Int) ≤ (s.size : Int) := by omega
    have hs4 : ((p.pos : Int) + (c : Int)).toNat = p.pos + c := by omega
    have hs5 : IntKind.i64.wrap ((p.pos : Int) + (c : Int)) = (p.pos : Int) + (c : Int) := IntWalk.i64_in _ (by omega)
    have HE := Lib.hid hext
    clear hM0 hM1 hn hext
    go_enter Tryz.func11, Tryz.ntmps11
    go_wp2_with fail
    go_region_held3 (fun w' => w' = W.drew) (first | rfl | assumption)
      (first | (go_at_call 28; (with_reducible refine (CT.out _).mono ?_); rintro e w1 ⟨rfl, rfl⟩))
    go_wp2_with fail
    refine CM.out.mono ?_
    rintro e w1 ⟨rfl, hm⟩
    obtain ⟨c0, c1⟩ := hm.cell (Keeps.refl w1)
    have HP := Lib.hid (fun w (q : Keeps w1 w) => hm.put 1 ((s.data.toList.drop p.pos).take c) c hpos (by rw [List.length_take]; omega) (by omega) w q)
    rw [HE.out, show ((1 : Nat) : Int) = 1 from rfl] at HP
    clear hm
    go_wp2_with fail
    go_region_law (first
      | (go_simp; go_at_call 20; (with_reducible refine (TT.out _).mono ?_); rintro e w2 ⟨rfl, k2⟩; have K2 := (Keeps.refl w1).drew.trans k2)
      | (go_simp; go_at_call 25; (with_reducible refine (HP.out _ K2).mono ?_); rintro e w3 ⟨rfl, q⟩))
    all_goals
      obtain ⟨O2, m2, c2⟩ := q
      have Q := Lib.hid (show PostI W B O s rs (codM s.data.toList p) w3 from HM.out ▸ ⟨O2, m2, HC0.out.trans c2⟩)
      clear m2 c2
      go_wp2_with fail
      refine bodyPost_ret (results_none rfl _ _ _) rfl ?_
      exact ⟨rfl, Q.out⟩
  · have q0 := beqF (show ¬ (n : Int) = 0 by omega)
    obtain ⟨e1, e2, e3⟩ := hM1 h0
    rw [hl.out] at e3
    have HM := Lib.hid e1.symm
    clear hM0 hM1 hn e1
    go_enter Tryz.func11, Tryz.ntmps11
    go_wp2_with fail
    go_region_held3 (fun w' => w' = W.drew) (first | rfl | assumption)
      (first | (go_at_call 28; (with_reducible refine (CT.out _).mono ?_); rintro e w1 ⟨rfl, rfl⟩))
    go_wp2_with fail
    refine CM.out.mono ?_
    rintro e w1 ⟨rfl, hm⟩
    have HP := Lib.hid (hm.put 4 t n (by omega) e2 e3 w1 (Keeps.refl w1))
    rw [show ((4 : Nat) : Int) = 4 from rfl] at HP
    clear hm
    go_wp2_with fail
    refine HP.out.mono ?_
    rintro e w3 ⟨rfl, q⟩
    obtain ⟨O2, m2, c2⟩ := q
    have Q := Lib.hid (show PostI W B O s rs (codM s.data.toList p) w3 from HM.out ▸ ⟨O2, m2, HC0.out.trans c2⟩)
    clear m2 c2
    go_wp2_with fail
    go_end0
    exact ⟨rfl, Q.out⟩
end
end Go.Proofs.YtklmgbkkjmfhcaaGreatDoor


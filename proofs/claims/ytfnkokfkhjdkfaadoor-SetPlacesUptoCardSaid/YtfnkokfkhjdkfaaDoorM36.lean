/-
  Texts of the proof, one behind the other: Itv.
-/
import Derived.Test.YtfnkokfkhjdkfaaDoorM33
import Derived.Test.YtfnkokfkhjdkfaaDoorM23
import Derived.Deep.LoopGhost
import Derived.Deep.RegionHeld3
import Derived.Deep.DeepCutAuto
/-
  Contract of box, of the package item's splitter.
-/
namespace Go.Proofs.YtfnkokfkhjdkfaaDoor
open Go.RowKit Go.Lib Go.Maps

section
variable {a b : World} {X Y Z : Nat} {f sz lk : Int} {cs : ByteArray}
theorem keeps_only {W W1 W2 : World} (h : Keeps W W1) (k : OnlyX X W1 W2) (hX : W.heap.size ≤ X) : Keeps W W2 :=
  ⟨k.os.trans h.os, k.tape.trans h.tape, k.output.trans h.output, by rw [k.size]; exact h.size, fun b hb => (k.block b (by omega)).trans (h.block b hb)⟩
theorem fk_keep (k : Keeps a b) (h : a.cell? ⟨Y, 0, none⟩ = some (.int .i64 f) ∧ a.cell? ⟨Y, 1, none⟩ = some (.int .i64 sz) ∧ a.cell? ⟨Y, 2, none⟩ = some (.int .i64 lk) ∧ a.cell? ⟨Y, 3, none⟩ = some (.bool false) ∧ a.cell? ⟨X, 5, none⟩ = some (.string cs)) : b.cell? ⟨Y, 0, none⟩ = some (.int .i64 f) ∧ b.cell? ⟨Y, 1, none⟩ = some (.int .i64 sz) ∧ b.cell? ⟨Y, 2, none⟩ = some (.int .i64 lk) ∧ b.cell? ⟨Y, 3, none⟩ = some (.bool false) ∧ b.cell? ⟨X, 5, none⟩ = some (.string cs) := ⟨k.cell2 h.1, k.cell2 h.2.1, k.cell2 h.2.2.1, k.cell2 h.2.2.2.1, k.cell2 h.2.2.2.2⟩
theorem fk_only (k : OnlyX Z a b) (hX : X ≠ Z) (hY : Y ≠ Z) (h : a.cell? ⟨Y, 0, none⟩ = some (.int .i64 f) ∧ a.cell? ⟨Y, 1, none⟩ = some (.int .i64 sz) ∧ a.cell? ⟨Y, 2, none⟩ = some (.int .i64 lk) ∧ a.cell? ⟨Y, 3, none⟩ = some (.bool false) ∧ a.cell? ⟨X, 5, none⟩ = some (.string cs)) : b.cell? ⟨Y, 0, none⟩ = some (.int .i64 f) ∧ b.cell? ⟨Y, 1, none⟩ = some (.int .i64 sz) ∧ b.cell? ⟨Y, 2, none⟩ = some (.int .i64 lk) ∧ b.cell? ⟨Y, 3, none⟩ = some (.bool false) ∧ b.cell? ⟨X, 5, none⟩ = some (.string cs) :=
  ⟨(World.cell?_of_block (k.block Y hY)).trans h.1, (World.cell?_of_block (k.block Y hY)).trans h.2.1, (World.cell?_of_block (k.block Y hY)).trans h.2.2.1, (World.cell?_of_block (k.block Y hY)).trans h.2.2.2.1, (World.cell?_of_block (k.block X hX)).trans h.2.2.2.2⟩
end
section
variable {w0 W : World} {B : Nat} {v : Value} {its : List It} {wd r : Int}
/-- Where the loop stands. -/
structure BoxAt (w0 W : World) (B : Nat) (v : Value) (wd f sz lk : Int) (c0 : List UInt8) (p0 : List It × Int) (k : Nat) (c : List UInt8) (its : List It) (r : Int) (v1 : Value) (wr : World) : Prop where
  spl : Spl w0 wd wr B v1 its r
  mvd : Mvd W wr B v v1
  box : Sd B wr v1 W.heap.size 42 #[.int .i64 1, .int .i64 (runL f sz c), .int .i64 0, .int .i64 0, .int .i64 0, .string ⟨c.toArray⟩, .int .i64 f, .int .i64 sz, .int .i64 lk]
  sty : Sd B wr v1 (W.heap.size + 1) 53 #[.int .i64 f, .int .i64 sz, .int .i64 lk, .bool false]
  ne : c ≠ []
  len : c.length ≤ 100000
  few : 2 * c.length + (if r = wd then 0 else 1) < k
  eq : partL wd f sz lk k c (its, r) = partL wd f sz lk (2 * c0.length + 2) c0 p0
  r0 : -217969590200000 ≤ r
  r1 : r ≤ wd
  its : its.length + 2 * k ≤ p0.1.length + 2 * (2 * c0.length + 2)
set_option linter.unusedSimpArgs false in
set_option maxRecDepth 100000 in
set_option maxHeartbeats 16000000 in
theorem sbox_any (f sz lk : Int) (c : List UInt8) (h : Spl w0 wd W B v its r) (hE : EnvI w0) (hc : c ≠ []) (hc2 : c.length ≤ 100000) (s1 : 0 ≤ sz) (s2 : sz ≤ 2147483648) (h1 : 0 ≤ wd) (h2 : wd ≤ 4611686018427387904) (r0 : -217969590200000 ≤ r) (r1 : r ≤ wd) (hl : its.length + 4 * c.length ≤ 990000) :
    Calls Tryd.prog 31 #[.pointer (some ⟨B, 0, none⟩), .agg #[.int .i64 1, .int .i64 (runL f sz c), .int .i64 0, .int .i64 0, .int .i64 0, .string ⟨c.toArray⟩, .int .i64 f, .int .i64 sz, .int .i64 lk]] W fun e w' => e = .returned (.tuple #[]) ∧ PostSpl w0 wd W B v (partL wd f sz lk (2 * c.length + 2) c (its, r)).1 (partL wd f sz lk (2 * c.length + 2) c (its, r)).2 w' := by
  have KA := Lib.hid (fun o => (Keeps.refl W).alloc o)
  have RA := Lib.hid (fun W1 (k : Keeps W W1) => run_any f sz ⟨c.toArray⟩ W1 (by show c.toArray.size ≤ _; simp; exact hc2) s1 s2 (hE.fnt.keep (h.keep.trans k)))
  have A0 : Hid (BoxAt w0 W B v wd f sz lk c (its, r) (2 * c.length + 2) c its r v ((W.alloc (.cells #[.int .i64 1, .int .i64 (runL f sz c), .int .i64 0, .int .i64 0, .int .i64 0, .string ⟨c.toArray⟩, .int .i64 f, .int .i64 sz, .int .i64 lk] 42)).alloc (.cells #[.int .i64 f, .int .i64 sz, .int .i64 lk, .bool false] 53))) := by
    refine Lib.hid ⟨h.to (keeps_two _ _ _), Mvd.keep (keeps_two _ _ _), (h.new _ _).keep ((Keeps.refl _).alloc _), ?_, hc, hc2, by split <;> omega, rfl, r0, r1, Nat.le_refl _⟩
    have := (h.to (KA.out (.cells #[.int .i64 1, .int .i64 (runL f sz c), .int .i64 0, .int .i64 0, .int .i64 0, .string ⟨c.toArray⟩, .int .i64 f, .int .i64 sz, .int .i64 lk] 42))).new 53 #[.int .i64 f, .int .i64 sz, .int .i64 lk, .bool false]
    rwa [show (W.alloc (.cells #[.int .i64 1, .int .i64 (runL f sz c), .int .i64 0, .int .i64 0, .int .i64 0, .string ⟨c.toArray⟩, .int .i64 f, .int .i64 sz, .int .i64 lk] 42)).heap.size = W.heap.size + 1 by simp] at this
  have HE := Lib.hid hE
  have HW0 := Lib.hid h.keep.size
  rw [show (⟨c.toArray⟩ : ByteArray).data.toList = c from rfl] at RA
  obtain ⟨cb, hcb⟩ : ∃ cb : ByteArray, cb = ⟨c.toArray⟩ := ⟨_, rfl⟩
  have HCB := Lib.hid hcb
  rw [← hcb] at RA A0 ⊢
  clear h hE hcb
  go_enter Tryd.func31, Tryd.ntmps31
  go_wp2_with fail
  refine (RA.out _ (keeps_two _ _ _)).mono ?_
  rintro e w1 ⟨rfl, rfl⟩
  go_wp2_with fail
  go_loopg [5] (2 * c.length + 2) (fun k x wr => ∃ (c' : List UInt8) (its' : List It) (r' : Int) (v' : Value), x = .int .i64 (runL f sz c') ∧ Hid (BoxAt w0 W B v wd f sz lk c (its, r) k c' its' r' v' wr))
  case atStart =>
    refine ⟨c, its, r, v, rfl, ?_⟩
    have := A0.out
    rw [HCB.out] at this ⊢
    exact Lib.hid this
  case round =>
    obtain ⟨c', its', r', v', rfl, HB⟩ := hrel
    have hne := HB.out.ne
    have hlen := HB.out.len
    have hr0 := HB.out.r0
    have hr1 := HB.out.r1
    have HX := Lib.hid HB.out.box
    have HY := Lib.hid HB.out.sty
    have HS := Lib.hid HB.out.spl
    have HV := Lib.hid HB.out.mvd
    have HF := Lib.hid HB.out.few
    have HQ := Lib.hid HB.out.eq
    have HI := Lib.hid HB.out.its
    clear HB A0
    have hrn := run_nonneg (f := f) s1 c'
    have hrl := run_le (f := f) s1 s2 c'
    obtain ⟨cs, hcs⟩ : ∃ cs : ByteArray, cs = ⟨c'.toArray⟩ := ⟨_, rfl⟩
    rw [← hcs] at HX
    have HCS := Lib.hid hcs
    clear hcs
    have x1 := HX.out.blk.cell 1 (v := .int .i64 (runL f sz c')) rfl
    have b2 := HS.out.own.box.cell 2 (v := .int .i64 (r' / 18446744073709551616)) rfl
    have b3 := HS.out.own.box.cell 3 (v := .int .u64 (r' % 18446744073709551616)) rfl
    have HL := Lib.hid (fun W1 => holds_any r' (runL f sz c') W1 (by omega) (by omega) (by omega) (by omega))
    have HST := Lib.hid (fun W1 (k : Keeps wr W1) => stand_any (bxP f sz lk c') (HS.out.to k) (by have := HI.out; simp only at this; omega) (by omega) (by omega) (by show _ ≤ runL f sz c'; omega) (by show runL f sz c' ≤ _; omega))
    have HFT := Lib.hid (fun W1 (k : Keeps wr W1) => fitting_any (bxP f sz lk c') (HS.out.to k) HE.out hne hlen s1 s2 (by omega) (by omega) (by omega) (by omega))
    unfold roomV at HL
    unfold itV bxP at HST HFT
    simp only at HST HFT
    rw [← HCS.out] at HST HFT
    obtain ⟨L, hL⟩ : ∃ L : List (Addr × Value), L = [(⟨B, 2, none⟩, .int .i64 (r' / 18446744073709551616)), (⟨B, 3, none⟩, .int .u64 (r' % 18446744073709551616)), (⟨W.heap.size, 1, none⟩, .int .i64 (runL f sz c'))] := ⟨_, rfl⟩
    have C0 : ∀ q ∈ L, wr.cell? q.1 = some q.2 := by rw [hL]; exact cells_cons b2 (cells_cons b3 (cells_cons x1 (cells_nil _)))
    have NE : Nonempty (InS (CellsK L wr)) := ⟨⟨_, CellsK.start C0⟩⟩
    have G1 : ∀ x : InS (CellsK L wr), x.w.cell? ⟨B, 2, none⟩ = some (.int .i64 (r' / 18446744073709551616)) := fun x => x.ok.cells (_, _) (by rw [hL]; simp)
    have G2 : ∀ x : InS (CellsK L wr), x.w.cell? ⟨B, 3, none⟩ = some (.int .u64 (r' % 18446744073709551616)) := fun x => x.ok.cells (_, _) (by rw [hL]; simp)
    have G3 : ∀ x : InS (CellsK L wr), x.w.cell? ⟨W.heap.size, 1, none⟩ = some (.int .i64 (runL f sz c')) := fun x => x.ok.cells (_, _) (by rw [hL]; simp)
    clear hL x1 b2 b3
    by_cases a1 : runL f sz c' ≤ r'
    · rw [decide_eq_true a1] at HL
      have FIN := part_stand (wd := wd) (lk := lk) (n := gk - 1) (p := (its', r')) a1
      have hgk : gk - 1 + 1 = gk := by have := HF.out; omega
      rw [hgk, HQ.out] at FIN
      have HFIN := Lib.hid FIN
      clear FIN hgk a1 HFT
      generalize hd : runL f sz c' = d at *
      have HD := Lib.hid hd
      clear hd
      generalize r' / 18446744073709551616 = q1 at *
      generalize r' % 18446744073709551616 = q2 at *
      go_wp2_with fail
      refine wp_region_class (CellsK L wr) (by kernel_rfl) (by kernel_rfl) (CellsK.start C0) ?_
      repeat (go_big_quiet_step ((go_at_call 50; exact class_call (fun _ p k => p.keep k) (HL.out _))))
      refine wpQuiet_nil ?_
      rintro w5 ⟨⟨w6, h6⟩, rfl⟩
      have K6 := h6.since
      have X6 := (HX.out.keep K6).blk
      clear NE G1 G2 G3 C0 h6
      have y0 := X6.cell 0 (v := .int .i64 1) rfl
      have y1 := X6.cell 1 (v := .int .i64 d) rfl
      have y2 := X6.cell 2 (v := .int .i64 0) rfl
      have y3 := X6.cell 3 (v := .int .i64 0) rfl
      have y4 := X6.cell 4 (v := .int .i64 0) rfl
      have y5 := X6.cell 5 (v := .string cs) rfl
      have y6 := X6.cell 6 (v := .int .i64 f) rfl
      have y7 := X6.cell 7 (v := .int .i64 sz) rfl
      have y8 := X6.cell 8 (v := .int .i64 lk) rfl
      go_wp2_with fail
      refine (HST.out _ K6).mono ?_
      rintro e w7 ⟨rfl, p7⟩
      go_wp2_with fail
      go_end0
      refine ⟨rfl, ?_⟩
      rw [HFIN.out]
      obtain ⟨v7, m7, q7⟩ := p7
      refine ⟨v7, ?_, (HV.out.trans (Mvd.keep K6)).trans q7⟩
      show Spl w0 wd w7 B v7 (its' ++ [bxP f sz lk c']) (r' - d)
      unfold bxP
      rw [HD.out]
      exact m7
    · rw [decide_eq_false a1] at HL
      obtain ⟨m, rfl⟩ : ∃ m, gk = m + 1 := ⟨gk - 1, by have := HF.out; omega⟩
      have PN := Lib.hid (fun h0 => (part_none (wd := wd) (lk := lk) (n := m) (p := (its', r')) a1 h0).symm.trans HQ.out)
      have PL := Lib.hid (fun h0 h1 => (part_last (wd := wd) (lk := lk) (n := m) (p := (its', r')) a1 h0 h1).symm.trans HQ.out)
      have PM := Lib.hid (fun h0 h1 => (part_more (wd := wd) (lk := lk) (n := m) (p := (its', r')) a1 h0 h1).symm.trans HQ.out)
      have FL := fit_le wd f sz c' r'
      have FU : Hid (r' = wd → 0 < fitN wd f sz c' r') := Lib.hid fun q => by rw [q]; exact fit_full hne
      have FR := Lib.hid (fun q => fit_room (c := c') (r := r') (wd := wd) (f := f) s1 q)
      have te : cs.toList.isEmpty = false := by rw [List.isEmpty_eq_false_iff, Lib.toList_data, HCS.out]; exact hne
      clear a1 HST HQ
      simp only at PN PL PM
      generalize hd : runL f sz c' = d at *
      have HD := Lib.hid hd
      clear hd
      generalize fitN wd f sz c' r' = k at *
      generalize hq1 : r' / 18446744073709551616 = q1 at HL G1 C0
      generalize hq2 : r' % 18446744073709551616 = q2 at HL G2 C0
      clear hq1 hq2
      go_wp2_with fail
      refine wp_region_class (CellsK L wr) (by kernel_rfl) (by kernel_rfl) (CellsK.start C0) ?_
      repeat (go_big_quiet_step ((go_at_call 50; exact class_call (fun _ p k => p.keep k) (HL.out _))))
      refine wpQuiet_nil ?_
      rintro w5 ⟨⟨w6, h6⟩, rfl⟩
      have K6 := h6.since
      have Y := (HX.out.keep K6).blk
      clear NE G1 G2 G3 C0 h6
      have y0 := Y.cell 0 (v := .int .i64 1) rfl
      have y1 := Y.cell 1 (v := .int .i64 d) rfl
      have y2 := Y.cell 2 (v := .int .i64 0) rfl
      have y3 := Y.cell 3 (v := .int .i64 0) rfl
      have y4 := Y.cell 4 (v := .int .i64 0) rfl
      have y5 := Y.cell 5 (v := .string cs) rfl
      have y6 := Y.cell 6 (v := .int .i64 f) rfl
      have y7 := Y.cell 7 (v := .int .i64 sz) rfl
      have y8 := Y.cell 8 (v := .int .i64 lk) rfl
      go_wp2_with fail
      refine (HFT.out _ K6).mono ?_
      rintro e w7 ⟨rfl, k7⟩
      have K7 := K6.trans k7
      have Z := (HX.out.keep K7).blk
      clear Y y0 y1 y2 y3 y4 y5 y6 y7 y8 k7 K6 HFT
      have z0 := Z.cell 0 (v := .int .i64 1) rfl
      have z1 := Z.cell 1 (v := .int .i64 d) rfl
      have z2 := Z.cell 2 (v := .int .i64 0) rfl
      have z3 := Z.cell 3 (v := .int .i64 0) rfl
      have z4 := Z.cell 4 (v := .int .i64 0) rfl
      have z5 := Z.cell 5 (v := .string cs) rfl
      have z6 := Z.cell 6 (v := .int .i64 f) rfl
      have z7 := Z.cell 7 (v := .int .i64 sz) rfl
      have z8 := Z.cell 8 (v := .int .i64 lk) rfl
      by_cases hk : k = 0
      · subst hk
        have hrw : ¬ r' = wd := fun q => by have := FU.out q; omega
        have HO := Lib.hid (other_any (itPen 0) (HS.out.to K7) (by have := HI.out; omega) (by omega) (by omega))
        have PN2 := PN.out rfl
        have HN := Lib.hid (fun v8 w8 (m8 : Spl w0 wd w8 B v8 (its' ++ [itPen 0]) wd) (q8 : Mvd w7 w8 B v' v8) => (⟨m8, (HV.out.trans (Mvd.keep K7)).trans q8, by rw [HD.out, ← HCS.out]; exact (HX.out.keep K7).moved q8, (HY.out.keep K7).moved q8, hne, hlen, by have := HF.out; rw [if_neg hrw] at this; rw [if_pos rfl]; omega, PN2, by omega, Int.le_refl _, by have := HI.out; simp only [List.length_append, List.length_singleton] at this ⊢; omega⟩ : BoxAt w0 W B v wd f sz lk c (its, r) m c' (its' ++ [itPen 0]) wd v8 w8))
        clear PN PL PM FU FR PN2 hrw
        unfold itV itPen at HO
        simp only at HO
        go_wp2_with fail
        refine HO.out.mono ?_
        rintro e w8 ⟨rfl, v8, m8, q8⟩
        have FIN := HN.out v8 w8 m8 q8
        clear m8 q8
        go_wp2_with fail
        go_roundg m
        case measure => omega
        case rel => exact ⟨c', _, wd, v8, by rw [HD.out], Lib.hid FIN⟩
      · have hk1 : (0 : Int) < (k : Int) := by omega
        have hsz : cs.size = c'.length := by rw [HCS.out]; show c'.toArray.size = _; simp
        have hk2 : k ≤ cs.size := by omega
        have hk3 : (k : Int) ≤ (cs.size : Int) := by omega
        obtain ⟨pb, hpb⟩ : ∃ pb : ByteArray, cs.extract 0 k = pb := ⟨_, rfl⟩
        obtain ⟨pr, hpr⟩ : ∃ pr : ByteArray, cs.extract k cs.size = pr := ⟨_, rfl⟩
        have EX : pb.data.toList = c'.take k := by rw [← hpb, Lib.extract_data, HCS.out]; simp
        have ER : pr.data.toList = c'.drop k := by rw [← hpr, Lib.extract_to_end, HCS.out]
        rw [hsz] at hpr
        have EP : Hid (pb = ⟨(c'.take k).toArray⟩) := Lib.hid (bytes_eq EX)
        have EQ : Hid (pr = ⟨(c'.drop k).toArray⟩) := Lib.hid (bytes_eq ER)
        have HBX := Lib.hid (fun W1 (q : Keeps w7 W1) => box_any sz ⟨f, lk, false⟩ pb W1 (by rw [← hpb, ByteArray.size_extract]; omega) s1 s2 (HE.out.fnt.keep (HS.out.keep.trans (K7.trans q))))
        rw [EX] at HBX
        have d1n := run_nonneg (f := f) s1 (c'.take k)
        have d1l := run_le (f := f) s1 s2 (c'.take k)
        have hsum : runL f sz (c'.take k) + runL f sz (c'.drop k) = d := by rw [← run_app, List.take_append_drop, HD.out]
        have dtl : ((c'.take k).length : Int) ≤ 100000 := by rw [List.length_take]; omega
        have d2n := run_nonneg (f := f) s1 (c'.drop k)
        have HD2 : Hid (∀ x, x = d - runL f sz (c'.take k) → x = runL f sz (c'.drop k)) := Lib.hid fun x q => by omega
        have T := (HY.out.keep K7).blk
        have t0 := T.cell 0 (v := .int .i64 f) rfl
        have t1 := T.cell 1 (v := .int .i64 sz) rfl
        have t2 := T.cell 2 (v := .int .i64 lk) rfl
        have t3 := T.cell 3 (v := .bool false) rfl
        have TA := T.alloc (.cells #[.int .i64 0, .int .i64 0, .int .i64 0, .int .i64 0, .int .i64 0, .string ⟨#[]⟩, .int .i64 0, .int .i64 0, .int .i64 0] 42)
        have ta0 := TA.cell 0 (v := .int .i64 f) rfl
        have ta1 := TA.cell 1 (v := .int .i64 sz) rfl
        have ta2 := TA.cell 2 (v := .int .i64 lk) rfl
        have ta3 := TA.cell 3 (v := .bool false) rfl
        have za5 := (Z.alloc (.cells #[.int .i64 0, .int .i64 0, .int .i64 0, .int .i64 0, .int .i64 0, .string ⟨#[]⟩, .int .i64 0, .int .i64 0, .int .i64 0] 42)).cell 5 (v := .string cs) rfl
        have HZ := Lib.hid Z
        have BO := Lib.hid (fun wx W1 => boxOf_any sz ⟨f, lk, false⟩ pr wx W1)
        unfold styV at HBX BO
        simp only at HBX BO
        have HST := Lib.hid (fun W1 (q : Keeps w7 W1) => stand_any (bxP f sz lk (c'.take k)) (HS.out.to (K7.trans q)) (by have := HI.out; omega) (by omega) (by omega) (by show _ ≤ runL f sz (c'.take k); omega) (by show runL f sz (c'.take k) ≤ _; omega))
        unfold itV bxP at HST
        simp only at HST
        rw [← EP.out] at HST
        have HN8 := Lib.hid (fun t cells => (HS.out.to K7).new t cells)
        clear Z T TA PN EX ER
        generalize hd1 : runL f sz (c'.take k) = d1 at *
        have HD1 := Lib.hid hd1
        clear hd1
        have K7A := (Keeps.refl w7).alloc (.cells #[.int .i64 0, .int .i64 0, .int .i64 0, .int .i64 0, .int .i64 0, .string ⟨#[]⟩, .int .i64 0, .int .i64 0, .int .i64 0] 42)
        go_upto_region 6 with fail
        go_cut [7] (fun s7 wx => ∃ P w9, s7 = .pointer (some ⟨P, 0, none⟩) ∧ w9 = wx ∧ Hid (Keeps w7 w9) ∧ Hid (Sd B w9 v' P 42 #[.int .i64 1, .int .i64 d1, .int .i64 0, .int .i64 0, .int .i64 0, .string pb, .int .i64 f, .int .i64 sz, .int .i64 lk]))
        case first =>
          have hXl := (HX.out.keep K7).blk.lt
          have hYl := (HY.out.keep K7).blk.lt
          have S0 : w7.drew.cell? ⟨W.heap.size + 1, 0, none⟩ = some (.int .i64 f) ∧ w7.drew.cell? ⟨W.heap.size + 1, 1, none⟩ = some (.int .i64 sz) ∧ w7.drew.cell? ⟨W.heap.size + 1, 2, none⟩ = some (.int .i64 lk) ∧ w7.drew.cell? ⟨W.heap.size + 1, 3, none⟩ = some (.bool false) ∧ w7.drew.cell? ⟨W.heap.size, 5, none⟩ = some (.string cs) := ⟨t0, t1, t2, t3, z5⟩
          have SA0 : (w7.alloc (.cells #[.int .i64 0, .int .i64 0, .int .i64 0, .int .i64 0, .int .i64 0, .string ⟨#[]⟩, .int .i64 0, .int .i64 0, .int .i64 0] 42)).drew.cell? ⟨W.heap.size + 1, 0, none⟩ = some (.int .i64 f) ∧ (w7.alloc (.cells #[.int .i64 0, .int .i64 0, .int .i64 0, .int .i64 0, .int .i64 0, .string ⟨#[]⟩, .int .i64 0, .int .i64 0, .int .i64 0] 42)).drew.cell? ⟨W.heap.size + 1, 1, none⟩ = some (.int .i64 sz) ∧ (w7.alloc (.cells #[.int .i64 0, .int .i64 0, .int .i64 0, .int .i64 0, .int .i64 0, .string ⟨#[]⟩, .int .i64 0, .int .i64 0, .int .i64 0] 42)).drew.cell? ⟨W.heap.size + 1, 2, none⟩ = some (.int .i64 lk) ∧ (w7.alloc (.cells #[.int .i64 0, .int .i64 0, .int .i64 0, .int .i64 0, .int .i64 0, .string ⟨#[]⟩, .int .i64 0, .int .i64 0, .int .i64 0] 42)).drew.cell? ⟨W.heap.size + 1, 3, none⟩ = some (.bool false) ∧ (w7.alloc (.cells #[.int .i64 0, .int .i64 0, .int .i64 0, .int .i64 0, .int .i64 0, .string ⟨#[]⟩, .int .i64 0, .int .i64 0, .int .i64 0] 42)).drew.cell? ⟨W.heap.size, 5, none⟩ = some (.string cs) := ⟨ta0, ta1, ta2, ta3, za5⟩
          clear t0 t1 t2 t3 z0 z1 z2 z3 z4 z5 z6 z7 z8 ta0 ta1 ta2 ta3 za5
          refine region_headed (S := fun w' => w'.cell? ⟨W.heap.size + 1, 0, none⟩ = some (.int .i64 f) ∧ w'.cell? ⟨W.heap.size + 1, 1, none⟩ = some (.int .i64 sz) ∧ w'.cell? ⟨W.heap.size + 1, 2, none⟩ = some (.int .i64 lk) ∧ w'.cell? ⟨W.heap.size + 1, 3, none⟩ = some (.bool false) ∧ w'.cell? ⟨W.heap.size, 5, none⟩ = some (.string cs)) (n := 7) (by kernel_rfl) rfl (by kernel_rfl) ?_ (fun hH0 => ?_)
          · exact S0
          refine headed_take (i := 0) (v := ?_) rfl (by kernel_rfl) (fun _ _ _ h => h) (Or.inl ⟨by rfl, ?_⟩) hH0 ?_
          rotate_left
          · intro w hSw; (try dsimp only at hSw); go_simp; (try with_reducible rfl)
          (try simp only [Act.put, List.setIfInBounds_toArray, List.set_cons_zero, List.set_cons_succ])
          refine headed_take (i := 1) (v := ?_) rfl (by kernel_rfl) (fun _ _ _ h => h) (Or.inl ⟨by rfl, ?_⟩) hH0 ?_
          rotate_left
          · intro w hSw; (try dsimp only at hSw); go_simp; (try with_reducible rfl)
          (try simp only [Act.put, List.setIfInBounds_toArray, List.set_cons_zero, List.set_cons_succ])
          refine headed_take (i := 2) (v := ?_) rfl (by kernel_rfl) (fun _ _ _ h => h) (Or.inl ⟨by rfl, ?_⟩) hH0 ?_
          rotate_left
          · intro w hSw; (try dsimp only at hSw); go_simp; (try with_reducible rfl)
          (try simp only [Act.put, List.setIfInBounds_toArray, List.set_cons_zero, List.set_cons_succ])
          refine headed_take (i := 3) (v := ?_) rfl (by kernel_rfl) (fun _ _ _ h => h) (Or.inl ⟨by rfl, ?_⟩) hH0 ?_
          rotate_left
          · intro w hSw; (try dsimp only at hSw); go_simp; (try with_reducible rfl)
          (try simp only [Act.put, List.setIfInBounds_toArray, List.set_cons_zero, List.set_cons_succ])
          refine headed_take (i := 4) (v := ?_) rfl (by kernel_rfl) (fun _ _ _ h => h) (Or.inl ⟨by rfl, ?_⟩) hH0 ?_
          rotate_left
          · intro w hSw; (try dsimp only at hSw); go_simp; (try with_reducible rfl)
          (try simp only [Act.put, List.setIfInBounds_toArray, List.set_cons_zero, List.set_cons_succ])
          refine headed_two (i := 5) (j := 6) rfl rfl (by kernel_rfl) (by kernel_rfl) (fun K hK => ?_) (fun K hK => ?_)
          · go_simp
            go_at_call 52
            (with_reducible refine (HBX.out _ (Keeps.refl _).drew).mono ?_)
            rintro e w8 ⟨rfl, k8⟩
            have K8 := (Keeps.refl _).drew.trans k8
            have S8 := fk_keep k8 S0
            refine hK.out _ _ S8 (fun hH1 => ?_)
            clear hK K
            (try simp only [Act.put, List.setIfInBounds_toArray, List.set_cons_zero, List.set_cons_succ])
            refine headed_one (i := 6) rfl (by kernel_rfl) (by kernel_rfl) (fun K hK => ?_)
            go_simp
            refine hK.out _ _ (fk_keep ((Keeps.refl w8).alloc _) S8) (fun hH2 => ?_)
            clear hK K
            (try simp only [Act.put, List.setIfInBounds_toArray, List.set_cons_zero, List.set_cons_succ])
            have SN := ((HS.out.to K7).to K8).new 42 #[.int .i64 0, .int .i64 0, .int .i64 0, .int .i64 0, .int .i64 0, .string ⟨#[]⟩, .int .i64 0, .int .i64 0, .int .i64 0]
            refine headed_last (by kernel_rfl) ?_
            refine wpList_store_row rfl _ (.tmp 7) (.tmp 40) rfl _ #[.int .i64 1, .int .i64 d1, .int .i64 0, .int .i64 0, .int .i64 0, .string pb, .int .i64 f, .int .i64 sz, .int .i64 lk] (by rfl) (by rfl) _ _ SN.blk (by kernel_rfl) rfl (by simp [Value.oneCell']) ?_
            refine wpList_nil ?_
            go_wp2_with fail
            go_meet
            case rel =>
              exact ⟨_, _, rfl, rfl, Lib.hid (keeps_only (K8.alloc _) (OnlyX.row _ _ _) K8.size), Lib.hid ⟨setRow_heap _ _ _ _ _ _ SN.blk, SN.box, SN.row⟩⟩
          · go_simp
            refine hK.out _ _ (fk_keep ((Keeps.refl _).alloc _) S0) (fun hH1 => ?_)
            clear hK K
            (try simp only [Act.put, List.setIfInBounds_toArray, List.set_cons_zero, List.set_cons_succ])
            refine headed_one (i := 5) rfl (by kernel_rfl) (by kernel_rfl) (fun K hK => ?_)
            go_simp
            go_at_call 52
            (with_reducible refine (HBX.out _ K7A.drew).mono ?_)
            rintro e w8 ⟨rfl, k8⟩
            have K8 := K7A.drew.trans k8
            have SN := ((HN8.out 42 #[.int .i64 0, .int .i64 0, .int .i64 0, .int .i64 0, .int .i64 0, .string ⟨#[]⟩, .int .i64 0, .int .i64 0, .int .i64 0]).keep (Keeps.refl _).drew).keep k8
            refine hK.out _ _ (fk_keep k8 SA0) (fun hH2 => ?_)
            clear hK K
            (try simp only [Act.put, List.setIfInBounds_toArray, List.set_cons_zero, List.set_cons_succ])
            refine headed_last (by kernel_rfl) ?_
            refine wpList_store_row rfl _ (.tmp 7) (.tmp 40) rfl _ #[.int .i64 1, .int .i64 d1, .int .i64 0, .int .i64 0, .int .i64 0, .string pb, .int .i64 f, .int .i64 sz, .int .i64 lk] (by rfl) (by rfl) _ _ SN.blk (by kernel_rfl) rfl (by simp [Value.oneCell']) ?_
            refine wpList_nil ?_
            go_wp2_with fail
            go_meet
            case rel =>
              exact ⟨_, _, rfl, rfl, Lib.hid (keeps_only K8 (OnlyX.row _ _ _) (Nat.le_refl _)), Lib.hid ⟨setRow_heap _ _ _ _ _ _ SN.blk, SN.box, SN.row⟩⟩
        case rest =>
          obtain ⟨P, w9, rfl, rfl, HK9, HP⟩ := hcut
          have hw1 : IntKind.i64.wrap (d - d1) = d - d1 := IntWalk.i64_in _ (by omega)
          have hW0 : w0.heap.size ≤ W.heap.size := HW0.out
          have ek1 : (0 : Int) ≤ (k : Int) := by omega
          clear HBX HN8 K7A t0 t1 t2 t3 z0 z1 z2 z3 z4 z5 z6 z7 z8 ta0 ta1 ta2 ta3 za5
          by_cases hlast : c'.drop k = []
          · have PL2 := PL.out (by omega) hlast
            have e0 : pr = ⟨#[]⟩ := by rw [EQ.out, hlast]
            clear EQ PM PL FU FR HF
            subst e0
            have e0 := HP.out.blk.cell 0 (v := .int .i64 1) rfl
            have e1 := HP.out.blk.cell 1 (v := .int .i64 d1) rfl
            have e2 := HP.out.blk.cell 2 (v := .int .i64 0) rfl
            have e3 := HP.out.blk.cell 3 (v := .int .i64 0) rfl
            have e4 := HP.out.blk.cell 4 (v := .int .i64 0) rfl
            have e5 := HP.out.blk.cell 5 (v := .string pb) rfl
            have e6 := HP.out.blk.cell 6 (v := .int .i64 f) rfl
            have e7 := HP.out.blk.cell 7 (v := .int .i64 sz) rfl
            have e8 := HP.out.blk.cell 8 (v := .int .i64 lk) rfl
            go_wp2_with fail
            refine (HST.out _ HK9.out).mono ?_
            rintro e w10 ⟨rfl, v10, m10, q10⟩
            have P1 := (HP.out.moved q10).blk.cell 1 (v := .int .i64 d1) rfl
            have X10 := Lib.hid ((HX.out.keep (K7.trans HK9.out)).moved q10)
            have Y10 := Lib.hid ((HY.out.keep (K7.trans HK9.out)).moved q10)
            have Q10 := Lib.hid ((HV.out.trans (Mvd.keep (K7.trans HK9.out))).trans q10)
            have M10 := Lib.hid m10
            clear e0 e1 e2 e3 e4 e5 e6 e7 e8 m10 q10 HP
            have S0 : w10.drew.cell? ⟨W.heap.size + 1, 0, none⟩ = some (.int .i64 f) ∧ w10.drew.cell? ⟨W.heap.size + 1, 1, none⟩ = some (.int .i64 sz) ∧ w10.drew.cell? ⟨W.heap.size + 1, 2, none⟩ = some (.int .i64 lk) ∧ w10.drew.cell? ⟨W.heap.size + 1, 3, none⟩ = some (.bool false) ∧ w10.drew.cell? ⟨W.heap.size, 5, none⟩ = some (.string cs) := ⟨Y10.out.blk.cell 0 (v := .int .i64 f) rfl, Y10.out.blk.cell 1 (v := .int .i64 sz) rfl, Y10.out.blk.cell 2 (v := .int .i64 lk) rfl, Y10.out.blk.cell 3 (v := .bool false) rfl, X10.out.blk.cell 5 (v := .string cs) rfl⟩
            go_upto_region 9 with fail
            refine region_headed (S := fun w' => w'.cell? ⟨W.heap.size + 1, 0, none⟩ = some (.int .i64 f) ∧ w'.cell? ⟨W.heap.size + 1, 1, none⟩ = some (.int .i64 sz) ∧ w'.cell? ⟨W.heap.size + 1, 2, none⟩ = some (.int .i64 lk) ∧ w'.cell? ⟨W.heap.size + 1, 3, none⟩ = some (.bool false) ∧ w'.cell? ⟨W.heap.size, 5, none⟩ = some (.string cs)) (n := 7) (by kernel_rfl) rfl (by kernel_rfl) ?_ (fun hH0 => ?_)
            · exact S0
            refine headed_take (i := 0) (v := ?_) rfl (by kernel_rfl) (fun _ _ _ h => h) (Or.inl ⟨by rfl, ?_⟩) hH0 ?_
            rotate_left
            · intro w hSw; (try dsimp only at hSw); go_simp; (try with_reducible rfl)
            (try simp only [Act.put, List.setIfInBounds_toArray, List.set_cons_zero, List.set_cons_succ])
            refine headed_take (i := 1) (v := ?_) rfl (by kernel_rfl) (fun _ _ _ h => h) (Or.inl ⟨by rfl, ?_⟩) hH0 ?_
            rotate_left
            · intro w hSw; (try dsimp only at hSw); go_simp; (try with_reducible rfl)
            (try simp only [Act.put, List.setIfInBounds_toArray, List.set_cons_zero, List.set_cons_succ])
            refine headed_take (i := 2) (v := ?_) rfl (by kernel_rfl) (fun _ _ _ h => h) (Or.inl ⟨by rfl, ?_⟩) hH0 ?_
            rotate_left
            · intro w hSw; (try dsimp only at hSw); go_simp; (try with_reducible rfl)
            (try simp only [Act.put, List.setIfInBounds_toArray, List.set_cons_zero, List.set_cons_succ])
            refine headed_take (i := 3) (v := ?_) rfl (by kernel_rfl) (fun _ _ _ h => h) (Or.inl ⟨by rfl, ?_⟩) hH0 ?_
            rotate_left
            · intro w hSw; (try dsimp only at hSw); go_simp; (try with_reducible rfl)
            (try simp only [Act.put, List.setIfInBounds_toArray, List.set_cons_zero, List.set_cons_succ])
            refine headed_take (i := 4) (v := ?_) rfl (by kernel_rfl) (fun _ _ _ h => h) (Or.inl ⟨by rfl, ?_⟩) hH0 ?_
            rotate_left
            · intro w hSw; (try dsimp only at hSw); go_simp; (try with_reducible rfl)
            (try simp only [Act.put, List.setIfInBounds_toArray, List.set_cons_zero, List.set_cons_succ])
            refine headed_take (i := 5) (v := ?_) rfl (by kernel_rfl) (fun _ _ _ h => h) (Or.inl ⟨by rfl, ?_⟩) hH0 ?_
            rotate_left
            · intro w hSw; (try dsimp only at hSw); go_simp; (try with_reducible rfl)
            (try simp only [Act.put, List.setIfInBounds_toArray, List.set_cons_zero, List.set_cons_succ])
            refine headed_one (i := 6) rfl (by kernel_rfl) (by kernel_rfl) (fun K hK => ?_)
            go_simp
            go_at_call 54
            (with_reducible refine (BO.out _ _).mono ?_)
            rintro e w11 ⟨rfl, k11⟩
            refine hK.out _ _ (fk_keep k11 S0) (fun hH1 => ?_)
            clear hK K
            (try simp only [Act.put, List.setIfInBounds_toArray, List.set_cons_zero, List.set_cons_succ])
            have K11 := (Keeps.refl w10).drew.trans k11
            have X11 := X10.out.keep K11
            have Y11 := Y10.out.keep K11
            have M11 := M10.out.to K11
            refine headed_last (by kernel_rfl) ?_
            refine wpList_store_row rfl _ (.tmp 3) (.tmp 54) rfl _ #[.int .i64 1, .int .i64 (d - d1), .int .i64 0, .int .i64 0, .int .i64 0, .string ⟨#[]⟩, .int .i64 f, .int .i64 sz, .int .i64 lk] (by rfl) (by rfl) _ _ X11.blk (by kernel_rfl) rfl (by simp [Value.oneCell']) ?_
            refine wpList_nil ?_
            have OX := OnlyX.row w11 W.heap.size #[.int .i64 1, .int .i64 (d - d1), .int .i64 0, .int .i64 0, .int .i64 0, .string ⟨#[]⟩, .int .i64 f, .int .i64 sz, .int .i64 lk]
            have hX0 : w0.heap.size ≤ W.heap.size := hW0
            have XB : Blk (w11.setRow W.heap.size #[.int .i64 1, .int .i64 (d - d1), .int .i64 0, .int .i64 0, .int .i64 0, .string ⟨#[]⟩, .int .i64 f, .int .i64 sz, .int .i64 lk]) W.heap.size 42 #[.int .i64 1, .int .i64 (d - d1), .int .i64 0, .int .i64 0, .int .i64 0, .string ⟨#[]⟩, .int .i64 f, .int .i64 sz, .int .i64 lk] := setRow_heap _ _ _ _ _ _ X11.blk
            have M12 := Lib.hid (M11.only OX X11.box X11.row hX0)
            have Q12 := Lib.hid ((Q10.out.trans (Mvd.keep K11)).only OX (Nat.le_refl _))
            have X12 := Lib.hid (⟨XB, X11.box, X11.row⟩ : Sd B _ v10 W.heap.size 42 #[.int .i64 1, .int .i64 (d - d1), .int .i64 0, .int .i64 0, .int .i64 0, .string ⟨#[]⟩, .int .i64 f, .int .i64 sz, .int .i64 lk])
            have Y12 := Lib.hid (Y11.only OX (by omega))
            have n5 := XB.cell 5 (v := .string ⟨#[]⟩) rfl
            clear OX XB X11 Y11 M11 S0 hH0 hH1
            generalize w11.setRow W.heap.size #[.int .i64 1, .int .i64 (d - d1), .int .i64 0, .int .i64 0, .int .i64 0, .string ⟨#[]⟩, .int .i64 f, .int .i64 sz, .int .i64 lk] = w12 at *
            go_wp2_with fail
            refine bodyPost_ret (results_none rfl _ _ _) rfl ?_
            refine ⟨rfl, ?_⟩
            rw [← PL2]
            refine ⟨v10, ?_, Q12.out⟩
            show Spl w0 wd w12 B v10 (its' ++ [bxP f sz lk (c'.take k)]) (r' - d1)
            unfold bxP
            rw [HD1.out]
            exact M12.out
          · have PM2 := PM.out (by omega) hlast
            have te2 : pr.toList.isEmpty = false := by rw [List.isEmpty_eq_false_iff, Lib.toList_data, EQ.out]; exact hlast
            clear PM PL FU FR
            have e0 := HP.out.blk.cell 0 (v := .int .i64 1) rfl
            have e1 := HP.out.blk.cell 1 (v := .int .i64 d1) rfl
            have e2 := HP.out.blk.cell 2 (v := .int .i64 0) rfl
            have e3 := HP.out.blk.cell 3 (v := .int .i64 0) rfl
            have e4 := HP.out.blk.cell 4 (v := .int .i64 0) rfl
            have e5 := HP.out.blk.cell 5 (v := .string pb) rfl
            have e6 := HP.out.blk.cell 6 (v := .int .i64 f) rfl
            have e7 := HP.out.blk.cell 7 (v := .int .i64 sz) rfl
            have e8 := HP.out.blk.cell 8 (v := .int .i64 lk) rfl
            go_wp2_with fail
            refine (HST.out _ HK9.out).mono ?_
            rintro e w10 ⟨rfl, v10, m10, q10⟩
            have P1 := (HP.out.moved q10).blk.cell 1 (v := .int .i64 d1) rfl
            have X10 := Lib.hid ((HX.out.keep (K7.trans HK9.out)).moved q10)
            have Y10 := Lib.hid ((HY.out.keep (K7.trans HK9.out)).moved q10)
            have Q10 := Lib.hid ((HV.out.trans (Mvd.keep (K7.trans HK9.out))).trans q10)
            have M10 := Lib.hid m10
            clear e0 e1 e2 e3 e4 e5 e6 e7 e8 m10 q10 HP
            have S0 : w10.drew.cell? ⟨W.heap.size + 1, 0, none⟩ = some (.int .i64 f) ∧ w10.drew.cell? ⟨W.heap.size + 1, 1, none⟩ = some (.int .i64 sz) ∧ w10.drew.cell? ⟨W.heap.size + 1, 2, none⟩ = some (.int .i64 lk) ∧ w10.drew.cell? ⟨W.heap.size + 1, 3, none⟩ = some (.bool false) ∧ w10.drew.cell? ⟨W.heap.size, 5, none⟩ = some (.string cs) := ⟨Y10.out.blk.cell 0 (v := .int .i64 f) rfl, Y10.out.blk.cell 1 (v := .int .i64 sz) rfl, Y10.out.blk.cell 2 (v := .int .i64 lk) rfl, Y10.out.blk.cell 3 (v := .bool false) rfl, X10.out.blk.cell 5 (v := .string cs) rfl⟩
            go_upto_region 9 with fail
            refine region_headed (S := fun w' => w'.cell? ⟨W.heap.size + 1, 0, none⟩ = some (.int .i64 f) ∧ w'.cell? ⟨W.heap.size + 1, 1, none⟩ = some (.int .i64 sz) ∧ w'.cell? ⟨W.heap.size + 1, 2, none⟩ = some (.int .i64 lk) ∧ w'.cell? ⟨W.heap.size + 1, 3, none⟩ = some (.bool false) ∧ w'.cell? ⟨W.heap.size, 5, none⟩ = some (.string cs)) (n := 7) (by kernel_rfl) rfl (by kernel_rfl) ?_ (fun hH0 => ?_)
            · exact S0
            refine headed_take (i := 0) (v := ?_) rfl (by kernel_rfl) (fun _ _ _ h => h) (Or.inl ⟨by rfl, ?_⟩) hH0 ?_
            rotate_left
            · intro w hSw; (try dsimp only at hSw); go_simp; (try with_reducible rfl)
            (try simp only [Act.put, List.setIfInBounds_toArray, List.set_cons_zero, List.set_cons_succ])
            refine headed_take (i := 1) (v := ?_) rfl (by kernel_rfl) (fun _ _ _ h => h) (Or.inl ⟨by rfl, ?_⟩) hH0 ?_
            rotate_left
            · intro w hSw; (try dsimp only at hSw); go_simp; (try with_reducible rfl)
            (try simp only [Act.put, List.setIfInBounds_toArray, List.set_cons_zero, List.set_cons_succ])
            refine headed_take (i := 2) (v := ?_) rfl (by kernel_rfl) (fun _ _ _ h => h) (Or.inl ⟨by rfl, ?_⟩) hH0 ?_
            rotate_left
            · intro w hSw; (try dsimp only at hSw); go_simp; (try with_reducible rfl)
            (try simp only [Act.put, List.setIfInBounds_toArray, List.set_cons_zero, List.set_cons_succ])
            refine headed_take (i := 3) (v := ?_) rfl (by kernel_rfl) (fun _ _ _ h => h) (Or.inl ⟨by rfl, ?_⟩) hH0 ?_
            rotate_left
            · intro w hSw; (try dsimp only at hSw); go_simp; (try with_reducible rfl)
            (try simp only [Act.put, List.setIfInBounds_toArray, List.set_cons_zero, List.set_cons_succ])
            refine headed_take (i := 4) (v := ?_) rfl (by kernel_rfl) (fun _ _ _ h => h) (Or.inl ⟨by rfl, ?_⟩) hH0 ?_
            rotate_left
            · intro w hSw; (try dsimp only at hSw); go_simp; (try with_reducible rfl)
            (try simp only [Act.put, List.setIfInBounds_toArray, List.set_cons_zero, List.set_cons_succ])
            refine headed_take (i := 5) (v := ?_) rfl (by kernel_rfl) (fun _ _ _ h => h) (Or.inl ⟨by rfl, ?_⟩) hH0 ?_
            rotate_left
            · intro w hSw; (try dsimp only at hSw); go_simp; (try with_reducible rfl)
            (try simp only [Act.put, List.setIfInBounds_toArray, List.set_cons_zero, List.set_cons_succ])
            refine headed_one (i := 6) rfl (by kernel_rfl) (by kernel_rfl) (fun K hK => ?_)
            go_simp
            go_at_call 54
            (with_reducible refine (BO.out _ _).mono ?_)
            rintro e w11 ⟨rfl, k11⟩
            refine hK.out _ _ (fk_keep k11 S0) (fun hH1 => ?_)
            clear hK K
            (try simp only [Act.put, List.setIfInBounds_toArray, List.set_cons_zero, List.set_cons_succ])
            have K11 := (Keeps.refl w10).drew.trans k11
            have X11 := X10.out.keep K11
            have Y11 := Y10.out.keep K11
            have M11 := M10.out.to K11
            refine headed_last (by kernel_rfl) ?_
            refine wpList_store_row rfl _ (.tmp 3) (.tmp 54) rfl _ #[.int .i64 1, .int .i64 (d - d1), .int .i64 0, .int .i64 0, .int .i64 0, .string pr, .int .i64 f, .int .i64 sz, .int .i64 lk] (by rfl) (by rfl) _ _ X11.blk (by kernel_rfl) rfl (by simp [Value.oneCell']) ?_
            refine wpList_nil ?_
            have OX := OnlyX.row w11 W.heap.size #[.int .i64 1, .int .i64 (d - d1), .int .i64 0, .int .i64 0, .int .i64 0, .string pr, .int .i64 f, .int .i64 sz, .int .i64 lk]
            have hX0 : w0.heap.size ≤ W.heap.size := hW0
            have XB : Blk (w11.setRow W.heap.size #[.int .i64 1, .int .i64 (d - d1), .int .i64 0, .int .i64 0, .int .i64 0, .string pr, .int .i64 f, .int .i64 sz, .int .i64 lk]) W.heap.size 42 #[.int .i64 1, .int .i64 (d - d1), .int .i64 0, .int .i64 0, .int .i64 0, .string pr, .int .i64 f, .int .i64 sz, .int .i64 lk] := setRow_heap _ _ _ _ _ _ X11.blk
            have M12 := Lib.hid (M11.only OX X11.box X11.row hX0)
            have Q12 := Lib.hid ((Q10.out.trans (Mvd.keep K11)).only OX (Nat.le_refl _))
            have X12 := Lib.hid (⟨XB, X11.box, X11.row⟩ : Sd B _ v10 W.heap.size 42 #[.int .i64 1, .int .i64 (d - d1), .int .i64 0, .int .i64 0, .int .i64 0, .string pr, .int .i64 f, .int .i64 sz, .int .i64 lk])
            have Y12 := Lib.hid (Y11.only OX (by omega))
            have n5 := XB.cell 5 (v := .string pr) rfl
            clear OX XB X11 Y11 M11 S0 hH0 hH1
            generalize w11.setRow W.heap.size #[.int .i64 1, .int .i64 (d - d1), .int .i64 0, .int .i64 0, .int .i64 0, .string pr, .int .i64 f, .int .i64 sz, .int .i64 lk] = w12 at *
            go_wp2_with fail
            have HO := other_any (itPen 0) M12.out (by have := HI.out; simp only [List.length_append, List.length_singleton]; omega) (by omega) (by omega)
            unfold itV itPen at HO
            simp only at HO
            refine HO.mono ?_
            rintro e w13 ⟨rfl, v13, m13, q13⟩
            have X13 := X12.out.moved q13
            have Y13 := Y12.out.moved q13
            have Q13 := Q12.out.trans q13
            have FIN : BoxAt w0 W B v wd f sz lk c (its, r) m (c'.drop k) ((its' ++ [bxP f sz lk (c'.take k)]) ++ [itPen 0]) wd v13 w13 := by
              refine ⟨?_, Q13, ?_, Y13, hlast, by rw [List.length_drop]; omega, ?_, PM2, by omega, Int.le_refl _, ?_⟩
              · unfold bxP
                rw [HD1.out]
                exact m13
              · rw [← EQ.out, ← HD2.out _ rfl]
                exact X13
              · have h1 := HF.out
                have h2 := List.length_pos_iff.2 hne
                rw [if_pos rfl, List.length_drop]
                split at h1 <;> omega
              · have h1 := HI.out
                simp only [List.length_append, List.length_singleton] at h1 ⊢
                omega
            clear m13 q13 X13 Y13 Q13 X12 Y12 M12 Q12
            go_wp2_with fail
            go_roundg m
            case measure => omega
            case rel => exact ⟨c'.drop k, _, wd, v13, by rw [HD2.out _ rfl], Lib.hid FIN⟩
end
end Go.Proofs.YtfnkokfkhjdkfaaDoor


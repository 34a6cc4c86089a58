/-
  Contracts of the package wrap: between, drop.
-/
import Derived.Test.YtjkkinccehfmoaaWch
import Derived.Test.YtjkkinccehfmoaaCls
namespace Go.Proofs.Ytjkkinccehfmoaa
open Go.RowKit Go.Lib Go.Maps

section
variable {w1 W : World} {B : Nat} {l : List It} {lv pv wv : Value} {wd : Int} {ws : List Wy} {first : Nat}
theorem BrM.setFirst (h : BrM w1 W B lv pv wd wv ws first) (k : Nat) : BrM w1 (W.setCell ⟨B, 4, none⟩ (.int .i64 k)) B lv pv wd wv ws k :=
  ⟨h.box.set 4 _ rfl, h.low, row_same h.row fun g e => heap_setCell_other W ⟨B, 4, none⟩ g _ (fun q => h.ne (by rw [← show g = B from q]; exact e)), h.ne, h.keep.set h.low 4 _⟩
theorem BrM.way (h : BrM w1 W B lv pv wd wv ws first) (h0 : 0 < ws.length) : ∃ g cap, wv = .slice (some ⟨g, 0, none⟩) ws.length cap ∧ ws.length ≤ cap ∧ cap ≤ maxLen ∧ ∀ k w, ws[k]? = some w → W.cell? ⟨g, k * 3, none⟩ = some (.int .i64 ((w.f : Int) - 1)) ∧ W.cell? ⟨g, k * 3 + 1, none⟩ = some (.int .i64 w.c) ∧ W.cell? ⟨g, k * 3 + 2, none⟩ = some (.int .i64 w.a) := by
  have hr := h.row
  rcases hr.2 with ⟨_, e⟩ | ⟨g, cap, cur, e, _, _, h1, h2, _⟩
  · omega
  · refine ⟨g, cap, e, h1, h2, fun k w hk => ?_⟩
    subst e
    have hl := (List.getElem?_eq_some_iff.1 hk).1
    have hc : ∀ j, j < 3 → W.cell? ⟨g, k * 3 + j, none⟩ = (wyC w)[j]? := fun j hj => by
      rw [← wyR_at ws k w hk j hj]
      exact hr.cellAt _ (by omega)
    exact ⟨hc 0 (by decide), hc 1 (by decide), hc 2 (by decide)⟩
set_option maxRecDepth 100000 in
set_option maxHeartbeats 8000000 in
theorem between_any (a b : Nat) (h : BrM w1 W B lv pv wd wv ws first) (hE : BrE w1 l lv pv wd) (hab : a ≤ b) (hb : b ≤ l.length) :
    Calls Try.prog 29 #[.pointer (some ⟨B, 0, none⟩), .int .i64 a, .int .i64 b] W fun e w' => e = .returned (meV (btw l a b)) ∧ Keeps W w' := by
  obtain ⟨P, rfl, hP, hC⟩ := hE.place
  have hPW : P < W.heap.size := Nat.lt_of_lt_of_le hP h.keep.size
  have e4 := hE.few
  have c5 := (hC W h.keep a (by omega)).2.2.2.2.2
  obtain ⟨m, hm⟩ : ∃ m, min (bxP l a) b = m := ⟨_, rfl⟩
  have hmn : min ((bxP l a : Nat) : Int) (b : Int) = (m : Int) := by omega
  obtain ⟨x0, x1, x2, _⟩ := hC W h.keep m (by omega)
  obtain ⟨y0, y1, y2, _⟩ := hC W h.keep b hb
  have HR : Hid (btw l a b = meSub (preM l b) (preM l m)) := Lib.hid (by unfold btw; rw [hm])
  have LS := Lib.hid (fun w2 => mless_any (preM l b) (preM l m) w2 (pre_B hE.itw (by omega)) (pre_B hE.itw (by omega)))
  have b1 := h.box.cell 1 (v := .slice (some ⟨P, 0, none⟩) (l.length + 1) (l.length + 1)) rfl
  have hBl := h.box.lt
  have B0 := Lib.hid (fun w2 (q : Keeps (W.alloc (.cells #[.int .i64 0, .int .i64 0, .int .i64 0] 47)) w2) => (Blk.new W 47 #[.int .i64 0, .int .i64 0, .int .i64 0]).keep q)
  have KA := Lib.hid ((Keeps.refl W).alloc (.cells #[.int .i64 0, .int .i64 0, .int .i64 0] 47))
  have hm1 : m ≤ b := by omega
  unfold meV at *
  generalize meSub (preM l b) (preM l m) = r at *
  generalize preM l b = mb at *
  generalize preM l m = mm at *
  generalize bxP l a = bx at *
  obtain ⟨rw_, rg, rs⟩ := r
  simp only at LS
  generalize l.length = n at *
  have i0 : (0 : Int) ≤ (a : Int) := by omega
  have i1 : (a : Int) < (n : Int) + 1 := by omega
  have i2 : (0 : Int) ≤ (m : Int) := by omega
  have i3 : (m : Int) < (n : Int) + 1 := by omega
  have i4 : (0 : Int) ≤ (b : Int) := by omega
  have i5 : (b : Int) < (n : Int) + 1 := by omega
  clear hC h hE hm
  go_enter Try.func29, Try.ntmps29
  go_wp2_with fail
  go_region_law (go_simp; go_at_call 32; (with_reducible refine (LS.out _).mono ?_); rintro e w2 ⟨rfl, k2⟩; have q2 := (Keeps.refl (W.alloc (.cells #[.int .i64 0, .int .i64 0, .int .i64 0] 47))).drew.trans k2; have z0 := (B0.out w2 q2).cell 0 (v := .int .i64 0) rfl; have z1 := (B0.out w2 q2).cell 1 (v := .int .i64 0) rfl; have z2 := (B0.out w2 q2).cell 2 (v := .int .i64 0) rfl; have f0 := (B0.out w2 q2).free 0; have f1 := (B0.out w2 q2).free 1; have f2 := (B0.out w2 q2).free 2)
  all_goals
    go_wp2_with fail
    exact ret_blk rfl rfl rfl ((((B0.out w2 q2).set 0 _ rfl).set 1 _ rfl).set 2 _ rfl) Try.underlying47 (by kernel_rfl) ⟨by rw [HR.out]; rfl, (((KA.out.trans q2).set (Nat.le_refl _) 0 _).set (Nat.le_refl _) 1 _).set (Nat.le_refl _) 2 _⟩
set_option maxRecDepth 100000 in
set_option maxHeartbeats 8000000 in
theorem drop_any (i : Nat) (h : BrM w1 W B lv pv wd wv ws first) (hE : BrE w1 l lv pv wd) (hi : i ≤ l.length) (hle : ∀ (n : Nat) (w : Wy), ws[n]? = some w → w.f ≤ i) (hfl : first ≤ ws.length) (hw0 : 0 < ws.length) (hw1 : ws.length ≤ 2000) :
    Calls Try.prog 21 #[.pointer (some ⟨B, 0, none⟩), .int .i64 i] W fun e w' => e = .returned (.tuple #[]) ∧ ∃ k : Nat, BrM w1 w' B lv pv wd wv ws k ∧ first ≤ k ∧ (FrOk l wd ws first i → FrOk l wd ws k i) := by
  have HPA := Lib.hid (fun (w : Wy) (hw : w.f ≤ i) (fi : Nat) (W2 : World) (h2 : BrM w1 W2 B lv pv wd wv ws fi) => past_any w i h2 hE (by omega) hi)
  obtain ⟨g, cap, rfl, hc1, hc2, _⟩ := h.way hw0
  unfold maxLen at hc2
  have HW := Lib.hid (fun (fi : Nat) (W2 : World) (h2 : BrM w1 W2 B lv pv wd (.slice (some ⟨g, 0, none⟩) ws.length cap) ws fi) => h2.way hw0)
  have H0 := Lib.hid h
  have HLe := Lib.hid hle
  have HE := Lib.hid hE
  obtain ⟨m, hm⟩ : ∃ m, ws.length = m := ⟨_, rfl⟩
  have HM := Lib.hid hm
  rw [hm] at hc1 hfl hw1 HPA HW H0 ⊢
  clear h hle hE hw0 hm
  go_enter Try.func21, Try.ntmps21
  go_wp2_with fail
  go_loopw [] (fun wr => Hid (∃ fi : Nat, BrM w1 wr B lv pv wd (.slice (some ⟨g, 0, none⟩) m cap) ws fi ∧ first ≤ fi ∧ fi ≤ m ∧ (FrOk l wd ws first i → FrOk l wd ws fi i))) (fun wr => m - (RowKit.intOf ((wr.cell? ⟨B, 4, none⟩).getD undef)).toNat)
  case atStart => exact Lib.hid ⟨first, H0.out, Nat.le_refl _, hfl, id⟩
  case round =>
    obtain ⟨fi, hB, hf1, hf2, hF⟩ := hrel.out
    have b3 := hB.box.cell 3 (v := .slice (some ⟨g, 0, none⟩) m cap) rfl
    have b4 := hB.box.cell 4 (v := .int .i64 fi) rfl
    have NE : Nonempty (InS (fun w' => Keeps wr w')) := ⟨⟨_, Keeps.refl wr⟩⟩
    have G3 : ∀ x : InS (fun w' => Keeps wr w'), x.w.cell? ⟨B, 3, none⟩ = some (.slice (some ⟨g, 0, none⟩) m cap) := fun x => x.ok.cell2 b3
    have G4 : ∀ x : InS (fun w' => Keeps wr w'), x.w.cell? ⟨B, 4, none⟩ = some (.int .i64 fi) := fun x => x.ok.cell2 b4
    have HB := Lib.hid hB
    have HF := Lib.hid hF
    by_cases c : fi < m
    · have tc : decide ((fi : Int) < (m : Int)) = true := decide_eq_true (by omega)
      obtain ⟨w, hw⟩ : ∃ w, ws[fi]? = some w := ⟨_, List.getElem?_eq_getElem (by rw [HM.out]; exact c)⟩
      have hwf := HLe.out fi w hw
      obtain ⟨g2, cap2, e, _, _, hcell⟩ := HW.out fi wr hB
      cases e
      obtain ⟨y0, y1, y2⟩ := hcell fi w hw
      have Y0 : ∀ x : InS (fun w' => Keeps wr w'), x.w.cell? ⟨g, fi * 3, none⟩ = some (.int .i64 ((w.f : Int) - 1)) := fun x => x.ok.cell2 y0
      have Y1 : ∀ x : InS (fun w' => Keeps wr w'), x.w.cell? ⟨g, fi * 3 + 1, none⟩ = some (.int .i64 w.c) := fun x => x.ok.cell2 y1
      have Y2 : ∀ x : InS (fun w' => Keeps wr w'), x.w.cell? ⟨g, fi * 3 + 2, none⟩ = some (.int .i64 w.a) := fun x => x.ok.cell2 y2
      have PA := Lib.hid (fun x : InS (fun w' => Keeps wr w') => HPA.out w hwf fi x.w (hB.to x.ok))
      have HWI := Lib.hid hw
      have i0 : (0 : Int) ≤ (fi : Int) := by omega
      have i1 : (fi : Int) < (m : Int) := by omega
      cases hp : decide (wd < lnP l i - lnP l (bxP l w.f) - spP l i) with
      | true =>
        rw [hp] at PA
        have DR := Lib.hid (fun q : FrOk l wd ws first i => FrOk.drop (HF.out q) HWI.out hwf (of_decide_eq_true hp))
        obtain ⟨wf, wc, wa⟩ := w
        unfold wyC at PA
        simp only at PA Y0 Y1 Y2
        obtain ⟨k, hk⟩ : ∃ k, k = fi + 1 := ⟨_, rfl⟩
        rw [← hk] at DR
        have HKI := Lib.hid hk
        have hwr : IntKind.i64.wrap ((fi : Int) + 1) = (k : Int) := by rw [IntWalk.i64_in _ (by omega)]; omega
        have B4 := Lib.hid b4
        clear hk hp hw hcell y0 y1 y2 hB hF b3 b4 hwf
        go_wp2_with fail
        refine wp_region_class (fun w' => Keeps wr w') (by kernel_rfl) (by kernel_rfl) (Keeps.refl _).drew ?_
        repeat (go_big_quiet_step ((go_at_call 27; exact class_call (fun _ p k => Keeps.trans p k) (PA.out _))))
        refine wpQuiet_nil ?_
        rintro w5 ⟨⟨w6, h6⟩, rfl⟩
        have HB6 := Lib.hid (HB.out.to h6)
        have c4 := HB6.out.box.cell 4 (v := .int .i64 fi) rfl
        have f4 := HB6.out.box.free 4
        clear NE G3 G4 Y0 Y1 Y2
        go_wp2_with fail
        go_roundw
        case rel => exact Lib.hid ⟨k, HB6.out.setFirst k, by have := HKI.out; omega, by have := HKI.out; omega, DR.out⟩
        case measure =>
          have e1 := (HB6.out.setFirst k).box.cell 4 (v := .int .i64 k) rfl
          have e2 := HKI.out
          rw [e1, B4.out]
          simp only [RowKit.intOf, Option.getD_some]
          omega
      | false =>
        rw [hp] at PA
        obtain ⟨wf, wc, wa⟩ := w
        unfold wyC at PA
        simp only at PA Y0 Y1 Y2
        clear hp hw hcell y0 y1 y2 hB hF b3 b4 hwf
        go_wp2_with fail
        refine wp_region_class (fun w' => Keeps wr w') (by kernel_rfl) (by kernel_rfl) (Keeps.refl _).drew ?_
        repeat (go_big_quiet_step ((go_at_call 27; exact class_call (fun _ p k => Keeps.trans p k) (PA.out _))))
        refine wpQuiet_nil ?_
        rintro w5 ⟨⟨w6, h6⟩, rfl⟩
        clear NE G3 G4 Y0 Y1 Y2
        go_wp2_with fail
        go_end0
        exact ⟨rfl, fi, HB.out.to h6, hf1, HF.out⟩
    · have tc : decide ((fi : Int) < (m : Int)) = false := decide_eq_false (by omega)
      clear hB hF b3 b4
      go_wp2_with fail
      refine wp_region_class (fun w' => Keeps wr w') (by kernel_rfl) (by kernel_rfl) (Keeps.refl _).drew ?_
      repeat (go_big_quiet_step (fail))
      refine wpQuiet_nil ?_
      rintro w5 ⟨⟨w6, h6⟩, rfl⟩
      clear NE G3 G4
      go_wp2_with fail
      go_end0
      exact ⟨rfl, fi, HB.out.to h6, hf1, HF.out⟩
end
end Go.Proofs.Ytjkkinccehfmoaa

/-
  Contract of the package wrap: cheapest.
-/
import Derived.Test.YtjkkinccehfmoaaWci
namespace Go.Proofs.Ytjkkinccehfmoaa
open Go.RowKit Go.Lib Go.Maps

/-- What cheapest has made: the result's block, the best way, the stop. -/
structure ChM (W wr : World) (Be i : Nat) (bc ba : Int) (st : Bool × Int) : Prop where
  res : Blk wr W.heap.size 43 #[.int .i64 0, .int .i64 0, .int .i64 0]
  best : Blk wr (W.heap.size + 1) 43 #[.int .i64 (i : Nat), .int .i64 bc, .int .i64 ba]
  stop : Blk wr Be 61 #[.bool st.1, .int .i64 st.2]
  low : W.heap.size + 1 < Be
  keep : Keeps W wr
section
variable {w1 W wr : World} {B Be i : Nat} {l : List It} {lv pv wv : Value} {wd : Int} {ws : List Wy} {first : Nat} {bc ba : Int} {st : Bool × Int}
theorem ChM.to {wr' : World} (h : ChM W wr Be i bc ba st) (k : Keeps wr wr') : ChM W wr' Be i bc ba st := ⟨h.res.keep k, h.best.keep k, h.stop.keep k, h.low, h.keep.trans k⟩
theorem ChM.put (h : ChM W wr Be i bc ba st) (c a : Int) : ChM W ((wr.setCell ⟨W.heap.size + 1, 1, none⟩ (.int .i64 c)).setCell ⟨W.heap.size + 1, 2, none⟩ (.int .i64 a)) Be i c a st :=
  ⟨(h.res.other (by omega) 1 _).other (by omega) 2 _, (h.best.set 1 _ rfl).set 2 _ rfl, (h.stop.other (by have := h.low; omega) 1 _).other (by have := h.low; omega) 2 _, h.low, (h.keep.set (Nat.le_succ _) 1 _).set (Nat.le_succ _) 2 _⟩
set_option maxRecDepth 100000 in
set_option maxHeartbeats 8000000 in
theorem cheapest_any (i : Nat) (h : BrM w1 W B lv pv wd wv ws first) (hE : BrE w1 l lv pv wd) (hi : i ≤ l.length) (hle : ∀ (n : Nat) (w : Wy), ws[n]? = some w → w.f ≤ i) (hco : ∀ (n : Nat) (w : Wy), ws[n]? = some w → -300000000 * (n : Int) ≤ w.c ∧ w.c ≤ 300000000 * (n : Int)) (hfl : first ≤ ws.length) (hw0 : 0 < ws.length) (hw1 : ws.length ≤ 2000) :
    Calls Try.prog 22 #[.pointer (some ⟨B, 0, none⟩), .int .i64 i] W fun e w' => ∃ bc ba : Int, e = .returned (.tuple #[.agg #[.int .i64 (i : Nat), .int .i64 bc, .int .i64 ba], .bool (decide (0 ≤ ba))]) ∧ Bst l wd ws first i ws.length bc ba ∧ Keeps W w' := by
  have HBT := Lib.hid (fun (a : Nat) (ha : a ≤ i) (W2 : World) (k : Keeps W W2) => between_any a i (h.to k) hE ha hi)
  have HPR := Lib.hid (fun (a : Nat) (ha : a ≤ i) (W2 : World) => price_any (btw l a i) wd (stp l i) W2 (sub_B hE.itw (by have := hE.few; omega) (by have := hE.few; omega)) hE.wd0 hE.wd1)
  have HST := Lib.hid (fun (W2 : World) (k : Keeps W W2) => stop_any l lv i W2 (hE.its.keep (h.keep.trans k)) hi hE.few)
  have HDM := Lib.hid (fun c W2 => demerits_any 0 c W2)
  have HLS : Hid (∀ a p, prc l wd a i = some p → dem 0 (stp l i).2 ≤ p) := Lib.hid (fun a p q => (prcM_bd q).2)
  have HPB : Hid (∀ a p, prc l wd a i = some p → -300000000 ≤ p ∧ p ≤ 300000000) := Lib.hid (fun a p q => (prcM_bd q).1)
  have HEQ : Hid (∀ a, prcM (btw l a i) wd (stp l i) = prc l wd a i) := Lib.hid (fun a => rfl)
  obtain ⟨g, cap, rfl, hc1, hc2, hcell⟩ := h.way hw0
  unfold maxLen at hc2
  have HC := Lib.hid hcell
  have HLe := Lib.hid hle
  have HCo := Lib.hid hco
  have b0 := h.box.cell 0 (v := lv) rfl
  have hBl := h.box.lt
  have b3 := h.box.cell 3 (v := .slice (some ⟨g, 0, none⟩) ws.length cap) rfl
  have b4 := h.box.cell 4 (v := .int .i64 first) rfl
  have HB := Lib.hid h.box
  obtain ⟨lb0, lb1⟩ := dem_bd 0 (stp l i).2
  have hiN : i ≤ 1000 := Nat.le_trans hi hE.few
  obtain ⟨m, hm⟩ : ∃ m, ws.length = m := ⟨_, rfl⟩
  have HM := Lib.hid hm
  rw [hm] at hc1 hfl hw1 HB b3 ⊢
  obtain ⟨A, cp, hlv, _⟩ := hE.its
  subst hlv
  generalize stp l i = st at *
  unfold stV at HST HPR
  obtain ⟨mu, sc⟩ := st
  simp only at HLS HST HPR lb0 lb1
  generalize hls : dem 0 sc = least at *
  have HD := Lib.hid (fun W2 => HDM.out sc W2)
  rw [hls] at HD
  clear h hle hco hE hw0 hm hcell hls HDM
  go_enter Try.func22, Try.ntmps22
  go_wp2_with fail
  refine (HST.out _ (keeps_two _ _ _)).mono ?_
  rintro e w2 ⟨rfl, k2⟩
  have hr2 := (blk_old W (.cells #[.int .i64 (i : Nat), .int .i64 0, .int .i64 (-1)] 43) 43 #[.int .i64 0, .int .i64 0, .int .i64 0]).keep k2
  have hb2 := (blk_two W (.cells #[.int .i64 0, .int .i64 0, .int .i64 0] 43) 43 #[.int .i64 (i : Nat), .int .i64 0, .int .i64 (-1)]).keep k2
  have K2 := (keeps_two W (.cells #[.int .i64 0, .int .i64 0, .int .i64 0] 43) (.cells #[.int .i64 (i : Nat), .int .i64 0, .int .i64 (-1)] 43)).trans k2
  have CH := Lib.hid (⟨hr2.alloc _, hb2.alloc _, Blk.new w2 61 #[.bool mu, .int .i64 sc], by have := hb2.lt; omega, K2.alloc _⟩ : ChM W (w2.alloc (.cells #[.bool mu, .int .i64 sc] 61)) w2.heap.size i 0 (-1) (mu, sc))
  clear hr2 hb2 k2
  have b4' := K2.cell2 b4
  have hBl2 : B < w2.heap.size := Nat.lt_of_lt_of_le hBl K2.size
  go_wp2_with fail
  refine (HD.out _).mono ?_
  rintro e w3 ⟨rfl, rfl⟩
  go_wp2_with fail
  go_loopw [9] (fun y wr => ∃ (k : Nat) (bc ba : Int), first ≤ k ∧ k ≤ m ∧ y = .int .i64 k ∧ Hid (Bst l wd ws first i k bc ba) ∧ (-1000000000000 ≤ bc ∧ bc ≤ 1000000000000) ∧ (-1 ≤ ba ∧ ba ≤ 2000) ∧ Hid (ChM W wr w2.heap.size i bc ba (mu, sc))) (fun y _ => m - (RowKit.intOf y).toNat)
  case atStart => exact ⟨first, 0, -1, Nat.le_refl _, hfl, rfl, Lib.hid (Bst.start l wd ws first i), ⟨by omega, by omega⟩, ⟨by omega, by omega⟩, CH⟩
  case round =>
    obtain ⟨k, bc, ba, hk1, hk2, rfl, HBS, ⟨c1, c2⟩, ⟨a1, a2⟩, HCH⟩ := hrel
    have hch := HCH.out
    have HBB := HB.out.keep hch.keep
    have x2 := HBB.cell 2 (v := .int .i64 wd) rfl
    have x3 := HBB.cell 3 (v := .slice (some ⟨g, 0, none⟩) m cap) rfl
    have lB := HBB.lt
    have p0 := hch.best.cell 0 (v := .int .i64 (i : Nat)) rfl
    have p1 := hch.best.cell 1 (v := .int .i64 bc) rfl
    have p2 := hch.best.cell 2 (v := .int .i64 ba) rfl
    have lP := hch.best.lt
    by_cases c : k < m
    · have tc : decide ((k : Int) < (m : Int)) = true := decide_eq_true (by omega)
      obtain ⟨w, hw⟩ : ∃ w, ws[k]? = some w := ⟨_, List.getElem?_eq_getElem (by rw [HM.out]; exact c)⟩
      have hwf := HLe.out k w hw
      obtain ⟨d1, d2⟩ := HCo.out k w hw
      obtain ⟨y0, y1, y2⟩ := HC.out k w hw
      have lg := World.block_lt_of_cell? W _ y0
      simp only at lg
      have lg2 := Nat.lt_of_lt_of_le lg hch.keep.size
      replace y0 := hch.keep.cell2 y0
      replace y1 := hch.keep.cell2 y1
      replace y2 := hch.keep.cell2 y2
      have i0 : (0 : Int) ≤ (k : Int) := by omega
      have i1 : (k : Int) < (m : Int) := by omega
      by_cases hA : 0 ≤ ba
      · have tA : decide (0 ≤ ba) = true := decide_eq_true hA
        by_cases hB : bc ≤ w.c + least
        · have tB : decide (bc ≤ w.c + least) = true := decide_eq_true hB
          have NB := Lib.hid (HBS.out.more hA hw (fun q hq => by have := HLS.out _ _ hq; omega))
          obtain ⟨wf, wc, wa⟩ := w
          simp only at y0 y1 y2 tB d1 d2
          have NC := Lib.hid (HCH.out.to ((Keeps.refl wr).alloc (.cells #[.int .i64 ((wf : Int) - 1), .int .i64 wc, .int .i64 wa] 43)))
          clear hw hch HBB
          go_wp2_with fail
          go_roundw
          case rel => exact ⟨k + 1, bc, ba, by omega, by omega, by go_num, NB, ⟨by omega, by omega⟩, ⟨by omega, by omega⟩, NC⟩
          case measure => simp only [RowKit.intOf]; omega
        · have tB : decide (bc ≤ w.c + least) = false := decide_eq_false hB
          have tD : decide (ba < 0) = false := decide_eq_false (by omega)
          have HWI := Lib.hid hw
          have HPE := HEQ.out w.f
          have PB := Lib.hid (fun W2 (q : Keeps wr W2) => HBT.out w.f hwf W2 (hch.keep.trans q))
          have PP := Lib.hid (fun W2 => HPR.out w.f hwf W2)
          rw [HPE] at PP
          unfold meV at PB PP
          generalize btw l w.f i = me at *
          obtain ⟨mw, mg, ms⟩ := me
          simp only at PB PP
          cases hp : prc l wd w.f i with
          | none =>
            rw [hp] at PP
            unfold pcV at PP
            simp only at PP
            have NB := Lib.hid (HBS.out.none hw hp)
            obtain ⟨wf, wc, wa⟩ := w
            simp only at *
            have NA := Lib.hid ((Keeps.refl wr).alloc (.cells #[.int .i64 ((wf : Int) - 1), .int .i64 wc, .int .i64 wa] 43))
            have NC := Lib.hid (HCH.out.to NA.out)
            have NE : Nonempty (InS (fun w' => Keeps (wr.alloc (.cells #[.int .i64 ((wf : Int) - 1), .int .i64 wc, .int .i64 wa] 43)) w')) := ⟨⟨_, Keeps.refl _⟩⟩
            have GB : ∀ x : InS (fun w' => Keeps (wr.alloc (.cells #[.int .i64 ((wf : Int) - 1), .int .i64 wc, .int .i64 wa] 43)) w'), x.w.cell? ⟨B, 2, none⟩ = some (.int .i64 wd) := fun x => x.ok.cell2 (NA.out.cell2 x2)
            have GW : ∀ x : InS (fun w' => Keeps (wr.alloc (.cells #[.int .i64 ((wf : Int) - 1), .int .i64 wc, .int .i64 wa] 43)) w'), x.w.cell? ⟨wr.heap.size, 0, none⟩ = some (.int .i64 ((wf : Int) - 1)) := fun x => x.ok.cell2 ((Blk.new wr 43 #[.int .i64 ((wf : Int) - 1), .int .i64 wc, .int .i64 wa]).cell 0 rfl)
            have GS : ∀ x : InS (fun w' => Keeps (wr.alloc (.cells #[.int .i64 ((wf : Int) - 1), .int .i64 wc, .int .i64 wa] 43)) w'), x.w.cell? ⟨w2.heap.size, 0, none⟩ = some (.bool mu) := fun x => x.ok.cell2 (NC.out.stop.cell 0 rfl)
            have GT : ∀ x : InS (fun w' => Keeps (wr.alloc (.cells #[.int .i64 ((wf : Int) - 1), .int .i64 wc, .int .i64 wa] 43)) w'), x.w.cell? ⟨w2.heap.size, 1, none⟩ = some (.int .i64 sc) := fun x => x.ok.cell2 (NC.out.stop.cell 1 rfl)
            have BT := Lib.hid (fun x : InS (fun w' => Keeps (wr.alloc (.cells #[.int .i64 ((wf : Int) - 1), .int .i64 wc, .int .i64 wa] 43)) w') => PB.out x.w (NA.out.trans x.ok))
            have PT := Lib.hid (fun x : InS (fun w' => Keeps (wr.alloc (.cells #[.int .i64 ((wf : Int) - 1), .int .i64 wc, .int .i64 wa] 43)) w') => PP.out x.w)
            have hwr : IntKind.i64.wrap ((wf : Int) - 1 + 1) = (wf : Int) := by rw [IntWalk.i64_in _ (by omega)]; omega
            clear hw hch HBB hp PB PP HWI
            go_wp2_with fail
            refine wp_region_class (fun w' => Keeps (wr.alloc (.cells #[.int .i64 ((wf : Int) - 1), .int .i64 wc, .int .i64 wa] 43)) w') (by kernel_rfl) (by kernel_rfl) (Keeps.refl _).drew ?_
            iterate 17 (go_big_quiet_step (first
              | (go_at_call 29; exact class_call (fun _ p k => Keeps.trans p k) (BT.out _))
              | (go_at_call 25; exact class_call (fun _ p k => Keeps.trans p k) (PT.out _))))
            refine wpQuiet_nil ?_
            rintro w5 ⟨⟨w6, h6⟩, rfl⟩
            have h7 : Keeps (wr.alloc (.cells #[.int .i64 ((wf : Int) - 1), .int .i64 wc, .int .i64 wa] 43)) _ := h6
            clear NE GB GW GS GT BT PT
            have CC := Lib.hid (NC.out.to h7)
            have q0 := CC.out.best.cell 0 (v := .int .i64 (i : Nat)) rfl
            have q1 := CC.out.best.cell 1 (v := .int .i64 bc) rfl
            have q2 := CC.out.best.cell 2 (v := .int .i64 ba) rfl
            have fq1 := CC.out.best.free 1
            have fq2 := CC.out.best.free 2
            have HBw := (Blk.new wr 43 #[.int .i64 ((wf : Int) - 1), .int .i64 wc, .int .i64 wa]).keep h7
            have q3 := HBw.cell 1 (v := .int .i64 wc) rfl
            clear HBw NC
            go_wp2_with fail
            go_roundw
            case rel => exact ⟨k + 1, bc, ba, by omega, by omega, by go_num, NB, ⟨by omega, by omega⟩, ⟨by omega, by omega⟩, CC⟩
            case measure => simp only [RowKit.intOf]; omega
          | some p =>
            obtain ⟨g1, g2⟩ := HPB.out _ _ hp
            by_cases hq : w.c + p < bc
            · rw [hp] at PP
              unfold pcV at PP
              simp only at PP
              have NB := Lib.hid (HBS.out.less hk1 hw hp (.inr hq))
              have tq : decide (w.c + p < bc) = true := decide_eq_true hq
              obtain ⟨wf, wc, wa⟩ := w
              simp only at *
              have NA := Lib.hid ((Keeps.refl wr).alloc (.cells #[.int .i64 ((wf : Int) - 1), .int .i64 wc, .int .i64 wa] 43))
              have NC := Lib.hid (HCH.out.to NA.out)
              have NE : Nonempty (InS (fun w' => Keeps (wr.alloc (.cells #[.int .i64 ((wf : Int) - 1), .int .i64 wc, .int .i64 wa] 43)) w')) := ⟨⟨_, Keeps.refl _⟩⟩
              have GB : ∀ x : InS (fun w' => Keeps (wr.alloc (.cells #[.int .i64 ((wf : Int) - 1), .int .i64 wc, .int .i64 wa] 43)) w'), x.w.cell? ⟨B, 2, none⟩ = some (.int .i64 wd) := fun x => x.ok.cell2 (NA.out.cell2 x2)
              have GW : ∀ x : InS (fun w' => Keeps (wr.alloc (.cells #[.int .i64 ((wf : Int) - 1), .int .i64 wc, .int .i64 wa] 43)) w'), x.w.cell? ⟨wr.heap.size, 0, none⟩ = some (.int .i64 ((wf : Int) - 1)) := fun x => x.ok.cell2 ((Blk.new wr 43 #[.int .i64 ((wf : Int) - 1), .int .i64 wc, .int .i64 wa]).cell 0 rfl)
              have GS : ∀ x : InS (fun w' => Keeps (wr.alloc (.cells #[.int .i64 ((wf : Int) - 1), .int .i64 wc, .int .i64 wa] 43)) w'), x.w.cell? ⟨w2.heap.size, 0, none⟩ = some (.bool mu) := fun x => x.ok.cell2 (NC.out.stop.cell 0 rfl)
              have GT : ∀ x : InS (fun w' => Keeps (wr.alloc (.cells #[.int .i64 ((wf : Int) - 1), .int .i64 wc, .int .i64 wa] 43)) w'), x.w.cell? ⟨w2.heap.size, 1, none⟩ = some (.int .i64 sc) := fun x => x.ok.cell2 (NC.out.stop.cell 1 rfl)
              have BT := Lib.hid (fun x : InS (fun w' => Keeps (wr.alloc (.cells #[.int .i64 ((wf : Int) - 1), .int .i64 wc, .int .i64 wa] 43)) w') => PB.out x.w (NA.out.trans x.ok))
              have PT := Lib.hid (fun x : InS (fun w' => Keeps (wr.alloc (.cells #[.int .i64 ((wf : Int) - 1), .int .i64 wc, .int .i64 wa] 43)) w') => PP.out x.w)
              have hwr : IntKind.i64.wrap ((wf : Int) - 1 + 1) = (wf : Int) := by rw [IntWalk.i64_in _ (by omega)]; omega
              clear hw hch HBB hp PB PP HWI
              go_wp2_with fail
              refine wp_region_class (fun w' => Keeps (wr.alloc (.cells #[.int .i64 ((wf : Int) - 1), .int .i64 wc, .int .i64 wa] 43)) w') (by kernel_rfl) (by kernel_rfl) (Keeps.refl _).drew ?_
              iterate 17 (go_big_quiet_step (first
                | (go_at_call 29; exact class_call (fun _ p k => Keeps.trans p k) (BT.out _))
                | (go_at_call 25; exact class_call (fun _ p k => Keeps.trans p k) (PT.out _))))
              refine wpQuiet_nil ?_
              rintro w5 ⟨⟨w6, h6⟩, rfl⟩
              have h7 : Keeps (wr.alloc (.cells #[.int .i64 ((wf : Int) - 1), .int .i64 wc, .int .i64 wa] 43)) _ := h6
              clear NE GB GW GS GT BT PT
              have CC := Lib.hid (NC.out.to h7)
              have q0 := CC.out.best.cell 0 (v := .int .i64 (i : Nat)) rfl
              have q1 := CC.out.best.cell 1 (v := .int .i64 bc) rfl
              have q2 := CC.out.best.cell 2 (v := .int .i64 ba) rfl
              have fq1 := CC.out.best.free 1
              have fq2 := CC.out.best.free 2
              have HBw := (Blk.new wr 43 #[.int .i64 ((wf : Int) - 1), .int .i64 wc, .int .i64 wa]).keep h7
              have q3 := HBw.cell 1 (v := .int .i64 wc) rfl
              clear HBw NC
              go_wp2_with fail
              go_roundw
              case rel => exact ⟨k + 1, wc + p, (k : Int), by omega, by omega, by go_num, NB, ⟨by omega, by omega⟩, ⟨by omega, by omega⟩, Lib.hid (CC.out.put (wc + p) (k : Int))⟩
              case measure => simp only [RowKit.intOf]; omega
            · rw [hp] at PP
              unfold pcV at PP
              simp only at PP
              have NB := Lib.hid (HBS.out.more hA hw (fun q hq2 => by rw [hp] at hq2; injection hq2 with hq2; omega))
              have tq : decide (w.c + p < bc) = false := decide_eq_false hq
              obtain ⟨wf, wc, wa⟩ := w
              simp only at *
              have NA := Lib.hid ((Keeps.refl wr).alloc (.cells #[.int .i64 ((wf : Int) - 1), .int .i64 wc, .int .i64 wa] 43))
              have NC := Lib.hid (HCH.out.to NA.out)
              have NE : Nonempty (InS (fun w' => Keeps (wr.alloc (.cells #[.int .i64 ((wf : Int) - 1), .int .i64 wc, .int .i64 wa] 43)) w')) := ⟨⟨_, Keeps.refl _⟩⟩
              have GB : ∀ x : InS (fun w' => Keeps (wr.alloc (.cells #[.int .i64 ((wf : Int) - 1), .int .i64 wc, .int .i64 wa] 43)) w'), x.w.cell? ⟨B, 2, none⟩ = some (.int .i64 wd) := fun x => x.ok.cell2 (NA.out.cell2 x2)
              have GW : ∀ x : InS (fun w' => Keeps (wr.alloc (.cells #[.int .i64 ((wf : Int) - 1), .int .i64 wc, .int .i64 wa] 43)) w'), x.w.cell? ⟨wr.heap.size, 0, none⟩ = some (.int .i64 ((wf : Int) - 1)) := fun x => x.ok.cell2 ((Blk.new wr 43 #[.int .i64 ((wf : Int) - 1), .int .i64 wc, .int .i64 wa]).cell 0 rfl)
              have GS : ∀ x : InS (fun w' => Keeps (wr.alloc (.cells #[.int .i64 ((wf : Int) - 1), .int .i64 wc, .int .i64 wa] 43)) w'), x.w.cell? ⟨w2.heap.size, 0, none⟩ = some (.bool mu) := fun x => x.ok.cell2 (NC.out.stop.cell 0 rfl)
              have GT : ∀ x : InS (fun w' => Keeps (wr.alloc (.cells #[.int .i64 ((wf : Int) - 1), .int .i64 wc, .int .i64 wa] 43)) w'), x.w.cell? ⟨w2.heap.size, 1, none⟩ = some (.int .i64 sc) := fun x => x.ok.cell2 (NC.out.stop.cell 1 rfl)
              have BT := Lib.hid (fun x : InS (fun w' => Keeps (wr.alloc (.cells #[.int .i64 ((wf : Int) - 1), .int .i64 wc, .int .i64 wa] 43)) w') => PB.out x.w (NA.out.trans x.ok))
              have PT := Lib.hid (fun x : InS (fun w' => Keeps (wr.alloc (.cells #[.int .i64 ((wf : Int) - 1), .int .i64 wc, .int .i64 wa] 43)) w') => PP.out x.w)
              have hwr : IntKind.i64.wrap ((wf : Int) - 1 + 1) = (wf : Int) := by rw [IntWalk.i64_in _ (by omega)]; omega
              clear hw hch HBB hp PB PP HWI
              go_wp2_with fail
              refine wp_region_class (fun w' => Keeps (wr.alloc (.cells #[.int .i64 ((wf : Int) - 1), .int .i64 wc, .int .i64 wa] 43)) w') (by kernel_rfl) (by kernel_rfl) (Keeps.refl _).drew ?_
              iterate 17 (go_big_quiet_step (first
                | (go_at_call 29; exact class_call (fun _ p k => Keeps.trans p k) (BT.out _))
                | (go_at_call 25; exact class_call (fun _ p k => Keeps.trans p k) (PT.out _))))
              refine wpQuiet_nil ?_
              rintro w5 ⟨⟨w6, h6⟩, rfl⟩
              have h7 : Keeps (wr.alloc (.cells #[.int .i64 ((wf : Int) - 1), .int .i64 wc, .int .i64 wa] 43)) _ := h6
              clear NE GB GW GS GT BT PT
              have CC := Lib.hid (NC.out.to h7)
              have q0 := CC.out.best.cell 0 (v := .int .i64 (i : Nat)) rfl
              have q1 := CC.out.best.cell 1 (v := .int .i64 bc) rfl
              have q2 := CC.out.best.cell 2 (v := .int .i64 ba) rfl
              have fq1 := CC.out.best.free 1
              have fq2 := CC.out.best.free 2
              have HBw := (Blk.new wr 43 #[.int .i64 ((wf : Int) - 1), .int .i64 wc, .int .i64 wa]).keep h7
              have q3 := HBw.cell 1 (v := .int .i64 wc) rfl
              clear HBw NC
              go_wp2_with fail
              go_roundw
              case rel => exact ⟨k + 1, bc, ba, by omega, by omega, by go_num, NB, ⟨by omega, by omega⟩, ⟨by omega, by omega⟩, CC⟩
              case measure => simp only [RowKit.intOf]; omega
      · have tA : decide (0 ≤ ba) = false := decide_eq_false hA
        have tD : decide (ba < 0) = true := decide_eq_true (by omega)
        have HWI := Lib.hid hw
        have HPE := HEQ.out w.f
        have PB := Lib.hid (fun W2 (q : Keeps wr W2) => HBT.out w.f hwf W2 (hch.keep.trans q))
        have PP := Lib.hid (fun W2 => HPR.out w.f hwf W2)
        rw [HPE] at PP
        unfold meV at PB PP
        generalize btw l w.f i = me at *
        obtain ⟨mw, mg, ms⟩ := me
        simp only at PB PP
        cases hp : prc l wd w.f i with
        | none =>
          rw [hp] at PP
          unfold pcV at PP
          simp only at PP
          have NB := Lib.hid (HBS.out.none hw hp)
          obtain ⟨wf, wc, wa⟩ := w
          simp only at *
          have NA := Lib.hid ((Keeps.refl wr).alloc (.cells #[.int .i64 ((wf : Int) - 1), .int .i64 wc, .int .i64 wa] 43))
          have NC := Lib.hid (HCH.out.to NA.out)
          have NE : Nonempty (InS (fun w' => Keeps (wr.alloc (.cells #[.int .i64 ((wf : Int) - 1), .int .i64 wc, .int .i64 wa] 43)) w')) := ⟨⟨_, Keeps.refl _⟩⟩
          have GB : ∀ x : InS (fun w' => Keeps (wr.alloc (.cells #[.int .i64 ((wf : Int) - 1), .int .i64 wc, .int .i64 wa] 43)) w'), x.w.cell? ⟨B, 2, none⟩ = some (.int .i64 wd) := fun x => x.ok.cell2 (NA.out.cell2 x2)
          have GW : ∀ x : InS (fun w' => Keeps (wr.alloc (.cells #[.int .i64 ((wf : Int) - 1), .int .i64 wc, .int .i64 wa] 43)) w'), x.w.cell? ⟨wr.heap.size, 0, none⟩ = some (.int .i64 ((wf : Int) - 1)) := fun x => x.ok.cell2 ((Blk.new wr 43 #[.int .i64 ((wf : Int) - 1), .int .i64 wc, .int .i64 wa]).cell 0 rfl)
          have GS : ∀ x : InS (fun w' => Keeps (wr.alloc (.cells #[.int .i64 ((wf : Int) - 1), .int .i64 wc, .int .i64 wa] 43)) w'), x.w.cell? ⟨w2.heap.size, 0, none⟩ = some (.bool mu) := fun x => x.ok.cell2 (NC.out.stop.cell 0 rfl)
          have GT : ∀ x : InS (fun w' => Keeps (wr.alloc (.cells #[.int .i64 ((wf : Int) - 1), .int .i64 wc, .int .i64 wa] 43)) w'), x.w.cell? ⟨w2.heap.size, 1, none⟩ = some (.int .i64 sc) := fun x => x.ok.cell2 (NC.out.stop.cell 1 rfl)
          have BT := Lib.hid (fun x : InS (fun w' => Keeps (wr.alloc (.cells #[.int .i64 ((wf : Int) - 1), .int .i64 wc, .int .i64 wa] 43)) w') => PB.out x.w (NA.out.trans x.ok))
          have PT := Lib.hid (fun x : InS (fun w' => Keeps (wr.alloc (.cells #[.int .i64 ((wf : Int) - 1), .int .i64 wc, .int .i64 wa] 43)) w') => PP.out x.w)
          have hwr : IntKind.i64.wrap ((wf : Int) - 1 + 1) = (wf : Int) := by rw [IntWalk.i64_in _ (by omega)]; omega
          clear hw hch HBB hp PB PP HWI
          go_wp2_with fail
          refine wp_region_class (fun w' => Keeps (wr.alloc (.cells #[.int .i64 ((wf : Int) - 1), .int .i64 wc, .int .i64 wa] 43)) w') (by kernel_rfl) (by kernel_rfl) (Keeps.refl _).drew ?_
          iterate 17 (go_big_quiet_step (first
            | (go_at_call 29; exact class_call (fun _ p k => Keeps.trans p k) (BT.out _))
            | (go_at_call 25; exact class_call (fun _ p k => Keeps.trans p k) (PT.out _))))
          refine wpQuiet_nil ?_
          rintro w5 ⟨⟨w6, h6⟩, rfl⟩
          have h7 : Keeps (wr.alloc (.cells #[.int .i64 ((wf : Int) - 1), .int .i64 wc, .int .i64 wa] 43)) _ := h6
          clear NE GB GW GS GT BT PT
          have CC := Lib.hid (NC.out.to h7)
          have q0 := CC.out.best.cell 0 (v := .int .i64 (i : Nat)) rfl
          have q1 := CC.out.best.cell 1 (v := .int .i64 bc) rfl
          have q2 := CC.out.best.cell 2 (v := .int .i64 ba) rfl
          have fq1 := CC.out.best.free 1
          have fq2 := CC.out.best.free 2
          have HBw := (Blk.new wr 43 #[.int .i64 ((wf : Int) - 1), .int .i64 wc, .int .i64 wa]).keep h7
          have q3 := HBw.cell 1 (v := .int .i64 wc) rfl
          clear HBw NC
          go_wp2_with fail
          go_roundw
          case rel => exact ⟨k + 1, bc, ba, by omega, by omega, by go_num, NB, ⟨by omega, by omega⟩, ⟨by omega, by omega⟩, CC⟩
          case measure => simp only [RowKit.intOf]; omega
        | some p =>
          rw [hp] at PP
          unfold pcV at PP
          simp only at PP
          obtain ⟨g1, g2⟩ := HPB.out _ _ hp
          have NB := Lib.hid (HBS.out.less hk1 hw hp (.inl (by omega)))
          obtain ⟨wf, wc, wa⟩ := w
          simp only at *
          have NA := Lib.hid ((Keeps.refl wr).alloc (.cells #[.int .i64 ((wf : Int) - 1), .int .i64 wc, .int .i64 wa] 43))
          have NC := Lib.hid (HCH.out.to NA.out)
          have NE : Nonempty (InS (fun w' => Keeps (wr.alloc (.cells #[.int .i64 ((wf : Int) - 1), .int .i64 wc, .int .i64 wa] 43)) w')) := ⟨⟨_, Keeps.refl _⟩⟩
          have GB : ∀ x : InS (fun w' => Keeps (wr.alloc (.cells #[.int .i64 ((wf : Int) - 1), .int .i64 wc, .int .i64 wa] 43)) w'), x.w.cell? ⟨B, 2, none⟩ = some (.int .i64 wd) := fun x => x.ok.cell2 (NA.out.cell2 x2)
          have GW : ∀ x : InS (fun w' => Keeps (wr.alloc (.cells #[.int .i64 ((wf : Int) - 1), .int .i64 wc, .int .i64 wa] 43)) w'), x.w.cell? ⟨wr.heap.size, 0, none⟩ = some (.int .i64 ((wf : Int) - 1)) := fun x => x.ok.cell2 ((Blk.new wr 43 #[.int .i64 ((wf : Int) - 1), .int .i64 wc, .int .i64 wa]).cell 0 rfl)
          have GS : ∀ x : InS (fun w' => Keeps (wr.alloc (.cells #[.int .i64 ((wf : Int) - 1), .int .i64 wc, .int .i64 wa] 43)) w'), x.w.cell? ⟨w2.heap.size, 0, none⟩ = some (.bool mu) := fun x => x.ok.cell2 (NC.out.stop.cell 0 rfl)
          have GT : ∀ x : InS (fun w' => Keeps (wr.alloc (.cells #[.int .i64 ((wf : Int) - 1), .int .i64 wc, .int .i64 wa] 43)) w'), x.w.cell? ⟨w2.heap.size, 1, none⟩ = some (.int .i64 sc) := fun x => x.ok.cell2 (NC.out.stop.cell 1 rfl)
          have BT := Lib.hid (fun x : InS (fun w' => Keeps (wr.alloc (.cells #[.int .i64 ((wf : Int) - 1), .int .i64 wc, .int .i64 wa] 43)) w') => PB.out x.w (NA.out.trans x.ok))
          have PT := Lib.hid (fun x : InS (fun w' => Keeps (wr.alloc (.cells #[.int .i64 ((wf : Int) - 1), .int .i64 wc, .int .i64 wa] 43)) w') => PP.out x.w)
          have hwr : IntKind.i64.wrap ((wf : Int) - 1 + 1) = (wf : Int) := by rw [IntWalk.i64_in _ (by omega)]; omega
          clear hw hch HBB hp PB PP HWI
          go_wp2_with fail
          refine wp_region_class (fun w' => Keeps (wr.alloc (.cells #[.int .i64 ((wf : Int) - 1), .int .i64 wc, .int .i64 wa] 43)) w') (by kernel_rfl) (by kernel_rfl) (Keeps.refl _).drew ?_
          iterate 17 (go_big_quiet_step (first
            | (go_at_call 29; exact class_call (fun _ p k => Keeps.trans p k) (BT.out _))
            | (go_at_call 25; exact class_call (fun _ p k => Keeps.trans p k) (PT.out _))))
          refine wpQuiet_nil ?_
          rintro w5 ⟨⟨w6, h6⟩, rfl⟩
          have h7 : Keeps (wr.alloc (.cells #[.int .i64 ((wf : Int) - 1), .int .i64 wc, .int .i64 wa] 43)) _ := h6
          clear NE GB GW GS GT BT PT
          have CC := Lib.hid (NC.out.to h7)
          have q0 := CC.out.best.cell 0 (v := .int .i64 (i : Nat)) rfl
          have q1 := CC.out.best.cell 1 (v := .int .i64 bc) rfl
          have q2 := CC.out.best.cell 2 (v := .int .i64 ba) rfl
          have fq1 := CC.out.best.free 1
          have fq2 := CC.out.best.free 2
          have HBw := (Blk.new wr 43 #[.int .i64 ((wf : Int) - 1), .int .i64 wc, .int .i64 wa]).keep h7
          have q3 := HBw.cell 1 (v := .int .i64 wc) rfl
          clear HBw NC
          go_wp2_with fail
          go_roundw
          case rel => exact ⟨k + 1, wc + p, (k : Int), by omega, by omega, by go_num, NB, ⟨by omega, by omega⟩, ⟨by omega, by omega⟩, Lib.hid (CC.out.put (wc + p) (k : Int))⟩
          case measure => simp only [RowKit.intOf]; omega
    · have e : k = m := by omega
      have FB : Hid (Bst l wd ws first i m bc ba) := Lib.hid (by rw [← e]; exact HBS.out)
      have tc : decide ((k : Int) < (m : Int)) = false := decide_eq_false (by omega)
      have r0 := hch.res.cell 0 (v := .int .i64 0) rfl
      have r1 := hch.res.cell 1 (v := .int .i64 0) rfl
      have r2 := hch.res.cell 2 (v := .int .i64 0) rfl
      have f0 := hch.res.free 0
      have f1 := hch.res.free 1
      have f2 := hch.res.free 2
      have lR := hch.res.lt
      have RR := Lib.hid (((hch.res.drew.set 0 (.int .i64 (i : Nat)) rfl).set 1 (.int .i64 bc) rfl).set 2 (.int .i64 ba) rfl)
      have KR := Lib.hid (((hch.keep.drew.set (Nat.le_refl _) 0 (.int .i64 (i : Nat))).set (Nat.le_refl _) 1 (.int .i64 bc)).set (Nat.le_refl _) 2 (.int .i64 ba))
      clear hch HBB e
      go_wp2_with fail
      go_region
      go_wp2_with fail
      exact ret_blk2 rfl rfl rfl rfl RR.out Try.underlying43 (by kernel_rfl) ⟨bc, ba, rfl, FB.out, KR.out⟩
end
end Go.Proofs.Ytjkkinccehfmoaa

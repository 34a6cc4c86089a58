/-
  Texts of the proof, one behind the other: Bks, Bkv, Bkx, Bki, Bkj, Bkr.
-/
import Derived.Test.YtfgpephpkibbaaaGreatDoorQ37
import Derived.StillTailTactics
import Derived.Test.YtfgpephpkibbaaaGreatDoorQ32
import Derived.Test.YtfgpephpkibbaaaGreatDoorQ26
import Derived.Test.YtfgpephpkibbaaaGreatDoorQ18
/-
  Contracts of block's endsFence, itemGoesOn, codeGoesOn.
-/
namespace Go.Proofs.YtfgpephpkibbaaaGreatDoor
open Go.RowKit Go.Lib

section
variable {W : World} {B : Nat} {O : Nat → Option Nat} {s : St} {rv : Value} {tv : Nat → Value} {xs : List Value} {sb : ByteArray} {k g n cap : Nat}
theorem keep_cell {W W' : World} {b i : Nat} {v : Value} (h : W.cell? ⟨b, i, none⟩ = some v) (k : Keeps W W') : W'.cell? ⟨b, i, none⟩ = some v := by
  have hb : b < W.heap.size := by
    rcases Nat.lt_or_ge b W.heap.size with q | q
    · exact q
    · simp [World.cell?, Array.getElem?_eq_none q] at h
  rw [k.cell hb]
  exact h
theorem ef_keep {a b w : World} {B g o j m q : Nat} {z : ByteArray} (kk : Keeps a b) (h : a.cell? ⟨B, 7, none⟩ = some (.int .i64 j) ∧ a.cell? ⟨B, 8, none⟩ = some (.string z) ∧ a.cell? ⟨g, o + 16, none⟩ = some (.int .u8 q) ∧ a.cell? ⟨g, o + 17, none⟩ = some (.int .i64 m) ∧ Keeps w a) :
    b.cell? ⟨B, 7, none⟩ = some (.int .i64 j) ∧ b.cell? ⟨B, 8, none⟩ = some (.string z) ∧ b.cell? ⟨g, o + 16, none⟩ = some (.int .u8 q) ∧ b.cell? ⟨g, o + 17, none⟩ = some (.int .i64 m) ∧ Keeps w b :=
  ⟨keep_cell h.1 kk, keep_cell h.2.1 kk, keep_cell h.2.2.1 kk, keep_cell h.2.2.2.1 kk, h.2.2.2.2.trans kk⟩
set_option maxRecDepth 100000 in
set_option maxHeartbeats 600000 in
theorem endsFence_any (h : Mem W B O s (.slice (some ⟨g, 0, none⟩) n cap) rv tv xs sb k) {i : Nat} (hi : i < s.list.length) :
    Calls Tryz.prog 37 #[.pointer (some ⟨B, 0, none⟩), .int .i64 i] W fun e w' => e = .returned (.bool (endsFenceM s i)) ∧ Keeps W w' := by
  obtain ⟨rfl, hc1, hc2⟩ := h.num
  have y0 := h.box.cell 0 (v := .slice (some ⟨g, 0, none⟩) s.list.length cap) rfl
  have y7 := h.box.cell 7 (v := .int .i64 s.line.ind) rfl
  have y8 := h.box.cell 8 (v := .string ⟨s.line.next.toArray⟩) rfl
  have z16 : W.cell? ⟨g, i * 20 + 16, none⟩ = some (.int .u8 ((s.nd i).fence.toNat : Nat)) := h.at hi 16 (by decide)
  have z17 : W.cell? ⟨g, i * 20 + 17, none⟩ = some (.int .i64 ((s.nd i).count : Nat)) := h.at hi 17 (by decide)
  have hnl := h.lw.nextLen
  have hsz := h.siz
  have FN := Lib.hid (fun W h => fenced_any W g (i * 20) (s.nd i).fence h)
  have FE := Lib.hid (fun W => fenceEnd_any ⟨s.line.next.toArray⟩ (s.nd i).fence ((s.nd i).count : Nat) W (by
    have e : (⟨s.line.next.toArray⟩ : ByteArray).size = s.line.next.length := by simp [ByteArray.size]
    simp only [maxLen]; omega))
  rw [show (⟨s.line.next.toArray⟩ : ByteArray).data.toList = s.line.next by simp] at FE
  unfold endsFenceM
  generalize stretchL (s.nd i).fence (max (((s.nd i).count : Nat) : Int) 3) s.line.next = r at *
  generalize (⟨s.line.next.toArray⟩ : ByteArray) = z at *
  generalize (s.nd i).count = m at *
  generalize (s.nd i).fence = c at *
  generalize s.line.ind = j at *
  generalize s.list.length = L at *
  have hi2 : (i : Int) < (L : Int) := by omega
  clear h hc1 hc2 hnl hsz
  by_cases c0 : c = 0
  · rw [decide_eq_true c0, show (!true) = false from rfl] at *
    clear c0 FE
    generalize c.toNat = q at *
    go_enter Tryz.func37, Tryz.ntmps37
    go_wp2_with fail
    go_quiet ((go_at_call 47; exact quiet_in (FN.out _ z16) ⟨_, rfl⟩))
    go_wp2_with fail
    go_ret
    exact ⟨rfl, (Keeps.refl _).drewN _⟩
  · rw [decide_eq_false c0, show (!false) = true from rfl] at *
    clear c0
    generalize c.toNat = q at *
    by_cases c4 : j < 4
    · rw [decide_eq_true c4]
      have FS := Lib.hid (fun W' (h : W'.cell? ⟨B, 7, none⟩ = some (.int .i64 j) ∧ W'.cell? ⟨B, 8, none⟩ = some (.string z) ∧ W'.cell? ⟨g, i * 20 + 16, none⟩ = some (.int .u8 q) ∧ W'.cell? ⟨g, i * 20 + 17, none⟩ = some (.int .i64 m) ∧ Keeps W W') => FN.out W' h.2.2.1)
      have t1 : decide ((j : Int) < 4) = true := decide_eq_true (by omega)
      clear c4
      go_enter Tryz.func37, Tryz.ntmps37
      go_wp2_with fail
      go_region_held3 (fun w' => w'.cell? ⟨B, 7, none⟩ = some (.int .i64 j) ∧ w'.cell? ⟨B, 8, none⟩ = some (.string z) ∧ w'.cell? ⟨g, i * 20 + 16, none⟩ = some (.int .u8 q) ∧ w'.cell? ⟨g, i * 20 + 17, none⟩ = some (.int .i64 m) ∧ Keeps W w')
        (first | assumption | (refine ef_keep kk ?_; assumption) | (exact ⟨y7, y8, z16, z17, (Keeps.refl _).drewN 1⟩))
        (first
          | (go_at_call 47; (with_reducible refine (FS.out _ (by assumption)).mono ?_); rintro e w6 ⟨rfl, rfl⟩)
          | (go_at_call 52; (with_reducible refine (FE.out _).mono ?_); rintro e w6 ⟨rfl, kk⟩))
      all_goals
        go_wp2_with fail
        go_ret
        exact ⟨rfl, ((Keeps.refl W).drew).trans kk⟩
    · rw [decide_eq_false c4]
      have t1 : decide ((j : Int) < 4) = false := decide_eq_false (by omega)
      clear c4 FE
      go_enter Tryz.func37, Tryz.ntmps37
      go_wp2_with fail
      go_quiet ((go_at_call 47; exact quiet_in (FN.out _ z16) ⟨_, rfl⟩))
      go_wp2_with fail
      go_ret
      exact ⟨rfl, (Keeps.refl _).drewN _⟩
end
end Go.Proofs.YtfgpephpkibbaaaGreatDoor

/-
  Contracts of block's interrupts, tipTakes, isFull, endsBlank, isTight.
-/
namespace Go.Proofs.YtfgpephpkibbaaaGreatDoor
open Go.RowKit Go.Lib

def lef (n : Nat) (i : Int) : Nat := if i = -1 then 0 else n - i.toNat
theorem lef_lt {n j : Nat} {i : Int} (h : i = -1 ∨ ((j : Int) < i ∧ i < (n : Int))) (hj : j < n) : lef n i < lef n (j : Int) := by
  unfold lef
  rw [if_neg (show ¬ ((j : Nat) : Int) = -1 by omega)]
  by_cases hl : i = -1
  · rw [if_pos hl]; omega
  · rw [if_neg hl]; omega
def lep (i : Int) : Nat := (i + 1).toNat
theorem lep_lt {j : Nat} {i : Int} (h : i < j) : lep i < lep (j : Int) := by unfold lep; omega
set_option maxRecDepth 100000 in
set_option maxHeartbeats 1000000 in
theorem interrupts_any (x : Bool × Nat × Nat × Nat) (t : ByteArray) (w : World) :
    Calls Tryz.prog 87 #[.agg (sgnV x), .string t] w fun e w' => e = .returned (.bool (mayB x t.data.toList)) ∧ Keeps w w' := by
  obtain ⟨o, st, mk, wd⟩ := x
  have BL := Lib.hid (fun W => blank_any t W)
  unfold mayB sgnV
  dsimp only
  generalize blankL t.data.toList = b at *
  have BX := Lib.hid (Blk.new w 97 #[.bool o, .int .i64 st, .int .u8 mk, .int .i64 wd])
  have K0 := Lib.hid ((Keeps.refl w).alloc (.cells #[.bool o, .int .i64 st, .int .u8 mk, .int .i64 wd] 97))
  cases b with
  | true =>
    go_enter Tryz.func87, Tryz.ntmps87
    go_wp2_with fail
    refine (BL.out _).mono ?_
    rintro e w1 ⟨rfl, k1⟩
    have K1 := Lib.hid (K0.out.trans k1)
    clear k1
    go_wp2_with fail
    go_ret
    exact ⟨rfl, K1.out⟩
  | false =>
    cases o with
    | false =>
      go_enter Tryz.func87, Tryz.ntmps87
      go_wp2_with fail
      refine (BL.out _).mono ?_
      rintro e w1 ⟨rfl, k1⟩
      have y0 := (BX.out.keep k1).cell 0 (v := .bool false) rfl
      have K1 := Lib.hid (K0.out.trans k1)
      clear k1
      go_wp2_with fail
      go_ret
      exact ⟨rfl, K1.out⟩
    | true =>
      by_cases s1 : st = 1
      · subst s1
        go_enter Tryz.func87, Tryz.ntmps87
        go_wp2_with fail
        refine (BL.out _).mono ?_
        rintro e w1 ⟨rfl, k1⟩
        have y0 := (BX.out.keep k1).cell 0 (v := .bool true) rfl
        have y1 := (BX.out.keep k1).cell 1 (v := .int .i64 (1 : Nat)) rfl
        have K1 := Lib.hid (K0.out.trans k1)
        clear k1
        go_wp2_with fail
        go_ret
        exact ⟨rfl, K1.out⟩
      · rw [decide_eq_false s1]
        have t1 := beqF (show ¬ (st : Int) = 1 by omega)
        clear s1
        go_enter Tryz.func87, Tryz.ntmps87
        go_wp2_with fail
        refine (BL.out _).mono ?_
        rintro e w1 ⟨rfl, k1⟩
        have y0 := (BX.out.keep k1).cell 0 (v := .bool true) rfl
        have y1 := (BX.out.keep k1).cell 1 (v := .int .i64 st) rfl
        have K1 := Lib.hid (K0.out.trans k1)
        clear k1
        go_wp2_with fail
        go_ret
        exact ⟨rfl, K1.out⟩

section
variable {W : World} {B : Nat} {O : Nat → Option Nat} {s : St} {rv : Value} {tv : Nat → Value} {xs : List Value} {sb : ByteArray} {k g n cap : Nat}
set_option maxRecDepth 100000 in
set_option maxHeartbeats 2000000 in
theorem isFull_any (h : Mem W B O s (.slice (some ⟨g, 0, none⟩) n cap) rv tv xs sb k) {i : Nat} (hi : i < s.list.length) :
    Calls Tryz.prog 66 #[.pointer (some ⟨B, 0, none⟩), .int .i64 i] W fun e w' => e = .returned (.bool (fullB s i)) ∧ W = w' := by
  obtain ⟨rfl, hc1, hc2⟩ := h.num
  have y0 := h.box.cell 0 (v := .slice (some ⟨g, 0, none⟩) s.list.length cap) rfl
  have y9 := h.box.cell 9 (v := .int .i64 s.known) rfl
  have z0 : W.cell? ⟨g, i * 20, none⟩ = some (.int .i64 ((s.nd i).kind : Nat)) := h.at hi 0 (by decide)
  have FN := Lib.hid (fenced_any W g (i * 20) (s.nd i).fence (h.at hi 16 (by decide)))
  have hi2 : (i : Int) < (s.list.length : Int) := by omega
  unfold fullB
  generalize (s.nd i).kind = q at *
  generalize (s.nd i).fence = c at *
  generalize s.known = kn at *
  generalize hL : s.list.length = L at *
  clear h hc1 hc2 hL
  by_cases q2 : q = 2
  · subst q2
    rw [if_pos rfl]
    go_enter Tryz.func66, Tryz.ntmps66
    go_wp2_with fail
    go_ret
    exact ⟨rfl, rfl⟩
  · rw [if_neg q2]
    have t2 := beqF (show ¬ (q : Int) = 2 by omega)
    clear q2
    by_cases q7 : q = 7
    · subst q7
      rw [if_pos rfl]
      go_enter Tryz.func66, Tryz.ntmps66
      go_wp2_with fail
      refine FN.out.mono ?_
      rintro e w1 ⟨rfl, rfl⟩
      go_wp2_with fail
      go_ret
      exact ⟨rfl, rfl⟩
    · rw [if_neg q7]
      have t7 := beqF (show ¬ (q : Int) = 7 by omega)
      clear q7 FN
      by_cases q4 : q = 4
      · subst q4
        rw [if_pos rfl]
        by_cases ck : kn ≤ i
        · rw [decide_eq_true ck]
          have t1 : decide ((kn : Int) ≤ i) = true := decide_eq_true (by omega)
          go_enter Tryz.func66, Tryz.ntmps66
          go_wp2_with fail
          go_ret
          first | exact ⟨rfl, rfl⟩ | exact ⟨ret_bool t1, rfl⟩ | exact ⟨ret_bool (by simp; omega), rfl⟩
        · rw [decide_eq_false ck]
          have t1 : decide ((kn : Int) ≤ i) = false := decide_eq_false (by omega)
          go_enter Tryz.func66, Tryz.ntmps66
          go_wp2_with fail
          go_ret
          first | exact ⟨rfl, rfl⟩ | exact ⟨ret_bool t1, rfl⟩ | exact ⟨ret_bool (by simp; omega), rfl⟩
      · rw [if_neg q4]
        have t4 := beqF (show ¬ (q : Int) = 4 by omega)
        clear q4
        go_enter Tryz.func66, Tryz.ntmps66
        go_wp2_with fail
        go_ret
        exact ⟨rfl, rfl⟩

set_option maxRecDepth 100000 in
set_option maxHeartbeats 2000000 in
theorem endsBlank_any (h : Mem W B O s (.slice (some ⟨g, 0, none⟩) n cap) rv tv xs sb k) {t : Nat} (hw : Wf s.list t) {i : Int} (hi : Plq s.list i) :
    Calls Tryz.prog 72 #[.pointer (some ⟨B, 0, none⟩), .int .i64 i] W fun e w' => e = .returned (.bool (endsM s.list i)) ∧ W = w' := by
  obtain ⟨rfl, hc1, hc2⟩ := h.num
  have y0 := h.box.cell 0 (v := .slice (some ⟨g, 0, none⟩) s.list.length cap) rfl
  have HM := Lib.hid h
  have HW := Lib.hid hw
  have HI := Lib.hid hi
  clear h hw hi hc1 hc2
  go_enter Tryz.func72, Tryz.ntmps72
  go_wp2_with fail
  go_loopw [1] (fun v wr => ∃ j : Int, v = .int .i64 j ∧ wr = W ∧ Hid (Plq s.list j) ∧ Hid (endsM s.list j = endsM s.list i)) (fun v _ => lef s.list.length (RowKit.intOf v))
  case atStart => exact ⟨i, rfl, rfl, HI, Lib.hid rfl⟩
  case round =>
    obtain ⟨j, rfl, rfl, HJ, HE⟩ := hrel
    by_cases jn : j = -1
    · subst jn
      have e1 : Hid (endsM s.list i = false) := Lib.hid (by rw [← HE.out]; exact ends_none _ _)
      go_wp2_with fail
      go_ret
      exact ⟨ret_bool e1.out.symm, rfl⟩
    · obtain ⟨j, rfl⟩ : ∃ m : Nat, j = (m : Int) := ⟨j.toNat, by have := HJ.out; unfold Plq at this; omega⟩
      have hj : j < s.list.length := by have := HJ.out; unfold Plq at this; omega
      have hj2 : (j : Int) < (s.list.length : Int) := by omega
      have t1 := beqF (show ¬ (j : Int) = -1 by omega)
      have z0 : wr.cell? ⟨g, j * 20, none⟩ = some (.int .i64 ((gN s.list j).kind : Nat)) := HM.out.at hj 0 (by decide)
      have z11 : wr.cell? ⟨g, j * 20 + 11, none⟩ = some (.int .i64 (gN s.list j).last) := HM.out.at hj 11 (by decide)
      have z19 : wr.cell? ⟨g, j * 20 + 19, none⟩ = some (.bool (gN s.list j).be) := HM.out.at hj 19 (by decide)
      have ST := Lib.hid (ends_step HW.out hj)
      have LQ := Lib.hid (HW.out.lastQ hj)
      have LM := Lib.hid (HW.out.last j hj)
      rw [HE.out] at ST
      generalize (gN s.list j).kind = q at *
      generalize (gN s.list j).last = la at *
      generalize (gN s.list j).be = be at *
      clear jn HE HJ
      cases be with
      | true =>
        have e1 : Hid (endsM s.list i = true) := Lib.hid (by rw [ST.out, if_pos rfl])
        go_wp2_with fail
        go_ret
        exact ⟨ret_bool e1.out.symm, rfl⟩
      | false =>
        by_cases q3 : q = 3
        · subst q3
          have e1 : Hid (endsM s.list la = endsM s.list i) := Lib.hid (by rw [ST.out, if_neg (by simp), if_neg (by simp)])
          clear ST
          go_wp2_with fail
          go_roundw
          case rel => exact ⟨la, rfl, trivial, LQ, e1⟩
          case measure => exact lef_lt LM.out hj
        · have t3 := beqF (show ¬ (q : Int) = 3 by omega)
          by_cases q4 : q = 4
          · subst q4
            have e1 : Hid (endsM s.list la = endsM s.list i) := Lib.hid (by rw [ST.out, if_neg (by simp), if_neg (by simp)])
            clear ST q3
            go_wp2_with fail
            go_roundw
            case rel => exact ⟨la, rfl, trivial, LQ, e1⟩
            case measure => exact lef_lt LM.out hj
          · have t4 := beqF (show ¬ (q : Int) = 4 by omega)
            have e1 : Hid (endsM s.list i = false) := Lib.hid (by rw [ST.out, if_neg (by simp), if_pos ⟨q3, q4⟩])
            have t3' : ((q : Int) != 3) = true := by rw [bne, t3]; rfl
            have t4' : ((q : Int) != 4) = true := by rw [bne, t4]; rfl
            clear ST q3 q4
            go_wp2_with fail
            go_ret
            exact ⟨ret_bool e1.out.symm, rfl⟩
end
end Go.Proofs.YtfgpephpkibbaaaGreatDoor

/-
  Contract of block's isTight. (Written by wip/tools/bktight.py.)
-/
namespace Go.Proofs.YtfgpephpkibbaaaGreatDoor
open Go.RowKit Go.Lib

theorem ahead_lt {l : List Nd} {t : Nat} (h : Wf l t) {i : Nat} (hi : i < l.length) : (gN l i).ahead < (i : Int) := by
  rcases h.ahead i hi with e | e
  · omega
  · exact e.2
section
variable {W : World} {B : Nat} {O : Nat → Option Nat} {s : St} {rv : Value} {tv : Nat → Value} {xs : List Value} {sb : ByteArray} {k g n cap : Nat}
set_option maxRecDepth 100000 in
set_option maxHeartbeats 4000000 in
theorem isTight_any (h : Mem W B O s (.slice (some ⟨g, 0, none⟩) n cap) rv tv xs sb k) {t : Nat} (hw : Wf s.list t) {i : Nat} (hi : i < s.list.length) :
    Calls Tryz.prog 49 #[.pointer (some ⟨B, 0, none⟩), .pointer (some ⟨g, i * 20, none⟩)] W fun e w' => e = .returned (.bool (tightM s.list i)) ∧ W = w' := by
  obtain ⟨rfl, hc1, hc2⟩ := h.num
  have y0 := h.box.cell 0 (v := .slice (some ⟨g, 0, none⟩) s.list.length cap) rfl
  have v11 : W.cell? ⟨g, i * 20 + 11, none⟩ = some (.int .i64 (gN s.list i).last) := h.at hi 11 (by decide)
  have HM := Lib.hid h
  have HW := Lib.hid hw
  have BQ := Lib.hid (hw.lastQ hi)
  have TI : Hid (tightM s.list i = tiGo s.list.length s.list (gN s.list i).last (gN s.list i).last) := Lib.hid rfl
  generalize (gN s.list i).last = bl at *
  clear h hw hi hc1 hc2
  go_enter Tryz.func49, Tryz.ntmps49
  go_wp2_with fail
  go_loopw [5] (fun v wr => ∃ j : Int, v = .int .i64 j ∧ wr = W ∧ Hid (Plq s.list j) ∧ Hid (tiGo s.list.length s.list bl j = tightM s.list i)) (fun v _ => lep (RowKit.intOf v))
  case atStart => exact ⟨bl, rfl, rfl, BQ, Lib.hid TI.out.symm⟩
  case round =>
    obtain ⟨j, rfl, rfl, HJ, HE⟩ := hrel
    by_cases jn : j = -1
    · subst jn
      have e1 : Hid (tightM s.list i = true) := Lib.hid (by rw [← HE.out]; exact ti_none _ _ _)
      go_wp2_with fail
      go_ret
      exact ⟨ret_bool e1.out.symm, rfl⟩
    obtain ⟨j, rfl⟩ : ∃ m : Nat, j = (m : Int) := ⟨j.toNat, by have := HJ.out; unfold Plq at this; omega⟩
    have hj : j < s.list.length := by have := HJ.out; unfold Plq at this; omega
    have hj2 : (j : Int) < (s.list.length : Int) := by omega
    have t1 : ((j : Int) != -1) = true := by rw [bne, beqF (show ¬ (j : Int) = -1 by omega)]; rfl
    have z11 : wr.cell? ⟨g, j * 20 + 11, none⟩ = some (.int .i64 (gN s.list j).last) := HM.out.at hj 11 (by decide)
    have z12 : wr.cell? ⟨g, j * 20 + 12, none⟩ = some (.int .i64 (gN s.list j).ahead) := HM.out.at hj 12 (by decide)
    have ST := Lib.hid (ti_step HW.out bl hj)
    rw [HE.out] at ST
    have AQ := Lib.hid (HW.out.aheadQ hj)
    have AL := Lib.hid (ahead_lt HW.out hj)
    have LQ := Lib.hid (HW.out.lastQ hj)
    have EB := Lib.hid (endsBlank_any HM.out HW.out (i := (j : Int)) (.inr (by omega)))
    have HE : Hid (tiGo s.list.length s.list bl j = tightM s.list i) := HE
    generalize (gN s.list j).last = la at *
    generalize (gN s.list j).ahead = ah at *
    clear jn HJ
    by_cases jl : (j : Int) = bl
    · have t2 : ((j : Int) != bl) = false := by rw [bne, beq_iff_eq.2 jl]; rfl
      have TS : Hid (tiGo s.list.length s.list bl j = if tkM s.list la = false then false else tiGo s.list.length s.list bl ah) := Lib.hid (by rw [HE.out, ST.out, if_neg (fun q => q.1 jl)])
      clear jl ST EB
      go_wp2_with fail
      go_loopw [7] (fun v wr2 => ∃ m : Int, v = .int .i64 m ∧ wr2 = wr ∧ Hid (Plq s.list m) ∧ Hid (tkGo s.list.length s.list la m = tkM s.list la)) (fun v _ => lep (RowKit.intOf v))
      case atStart => exact ⟨la, rfl, rfl, LQ, Lib.hid rfl⟩
      case round =>
        obtain ⟨m, rfl, rfl, HMm, HEm⟩ := hrel
        by_cases mn : m = -1
        · subst mn
          have e2 : Hid (tkM s.list la = true) := Lib.hid (by rw [← HEm.out]; exact tk_none _ _ _)
          have e1 : Hid (tiGo s.list.length s.list bl ah = tightM s.list i) := Lib.hid (by rw [← HE.out, TS.out, if_neg (by rw [e2.out]; simp)])
          clear HEm HMm
          go_wp2_with fail
          go_roundw
          case rel => exact ⟨ah, rfl, trivial, AQ, e1⟩
          case measure => exact lep_lt AL.out
        · obtain ⟨m, rfl⟩ : ∃ q : Nat, m = (q : Int) := ⟨m.toNat, by have := HMm.out; unfold Plq at this; omega⟩
          have hm : m < s.list.length := by have := HMm.out; unfold Plq at this; omega
          have hm2 : (m : Int) < (s.list.length : Int) := by omega
          have x1 : ((m : Int) != -1) = true := by rw [bne, beqF (show ¬ (m : Int) = -1 by omega)]; rfl
          have w12 : World.cell? _ ⟨g, m * 20 + 12, none⟩ = some (.int .i64 (gN s.list m).ahead) := HM.out.at hm 12 (by decide)
          have KS := Lib.hid (tk_step HW.out la hm)
          rw [HEm.out] at KS
          have MQ := Lib.hid (HW.out.aheadQ hm)
          have MA := Lib.hid (ahead_lt HW.out hm)
          have EM := Lib.hid (endsBlank_any HM.out HW.out (i := (m : Int)) (.inr (by omega)))
          generalize (gN s.list m).ahead = ma at *
          clear mn HEm HMm
          by_cases ml : (m : Int) = la
          · have x2 : ((m : Int) != la) = false := by rw [bne, beq_iff_eq.2 ml]; rfl
            have e1 : Hid (tkGo s.list.length s.list la ma = tkM s.list la) := Lib.hid (by rw [KS.out, if_neg (fun q => q.1 ml)])
            clear ml EM KS
            go_wp2_with fail
            go_roundw
            case rel => exact ⟨ma, rfl, trivial, MQ, e1⟩
            case measure => exact lep_lt MA.out
          · have x2 : ((m : Int) != la) = true := by rw [bne, beq_eq_false_iff_ne.2 ml]; rfl
            cases c : endsM s.list m with
            | false =>
              rw [c] at EM
              have e1 : Hid (tkGo s.list.length s.list la ma = tkM s.list la) := Lib.hid (by rw [KS.out, if_neg (fun q => by rw [c] at q; cases q.2)])
              clear ml KS c
              go_wp2_with fail
              refine EM.out.mono ?_
              rintro e w1 ⟨rfl, rfl⟩
              go_wp2_with fail
              go_roundw
              case rel => exact ⟨ma, rfl, trivial, MQ, e1⟩
              case measure => exact lep_lt MA.out
            | true =>
              rw [c] at EM
              have e2 : Hid (tkM s.list la = false) := Lib.hid (by rw [KS.out, if_pos ⟨ml, c⟩])
              have e1 : Hid (tightM s.list i = false) := Lib.hid (by rw [← HE.out, TS.out, if_pos e2.out])
              clear ml KS c
              go_wp2_with fail
              refine EM.out.mono ?_
              rintro e w1 ⟨rfl, rfl⟩
              go_wp2_with fail
              go_ret
              exact ⟨ret_bool e1.out.symm, rfl⟩
    · have t2 : ((j : Int) != bl) = true := by rw [bne, beq_eq_false_iff_ne.2 jl]; rfl
      cases c : endsM s.list j with
      | true =>
        rw [c] at EB
        have e1 : Hid (tightM s.list i = false) := Lib.hid (by rw [ST.out, if_pos ⟨jl, c⟩])
        clear ST jl c
        go_wp2_with fail
        refine EB.out.mono ?_
        rintro e w1 ⟨rfl, rfl⟩
        go_wp2_with fail
        go_ret
        exact ⟨ret_bool e1.out.symm, rfl⟩
      | false =>
        rw [c] at EB
        have TS : Hid (tiGo s.list.length s.list bl j = if tkM s.list la = false then false else tiGo s.list.length s.list bl ah) := Lib.hid (by rw [HE.out, ST.out, if_neg (fun q => by rw [c] at q; cases q.2)])
        clear ST jl c
        go_wp2_with fail
        refine EB.out.mono ?_
        rintro e w1 ⟨rfl, rfl⟩
        go_wp2_with fail
        go_loopw [7] (fun v wr2 => ∃ m : Int, v = .int .i64 m ∧ wr2 = wr ∧ Hid (Plq s.list m) ∧ Hid (tkGo s.list.length s.list la m = tkM s.list la)) (fun v _ => lep (RowKit.intOf v))
        case atStart => exact ⟨la, rfl, rfl, LQ, Lib.hid rfl⟩
        case round =>
          obtain ⟨m, rfl, rfl, HMm, HEm⟩ := hrel
          by_cases mn : m = -1
          · subst mn
            have e2 : Hid (tkM s.list la = true) := Lib.hid (by rw [← HEm.out]; exact tk_none _ _ _)
            have e1 : Hid (tiGo s.list.length s.list bl ah = tightM s.list i) := Lib.hid (by rw [← HE.out, TS.out, if_neg (by rw [e2.out]; simp)])
            clear HEm HMm
            go_wp2_with fail
            go_roundw
            case rel => exact ⟨ah, rfl, trivial, AQ, e1⟩
            case measure => exact lep_lt AL.out
          · obtain ⟨m, rfl⟩ : ∃ q : Nat, m = (q : Int) := ⟨m.toNat, by have := HMm.out; unfold Plq at this; omega⟩
            have hm : m < s.list.length := by have := HMm.out; unfold Plq at this; omega
            have hm2 : (m : Int) < (s.list.length : Int) := by omega
            have x1 : ((m : Int) != -1) = true := by rw [bne, beqF (show ¬ (m : Int) = -1 by omega)]; rfl
            have w12 : World.cell? _ ⟨g, m * 20 + 12, none⟩ = some (.int .i64 (gN s.list m).ahead) := HM.out.at hm 12 (by decide)
            have KS := Lib.hid (tk_step HW.out la hm)
            rw [HEm.out] at KS
            have MQ := Lib.hid (HW.out.aheadQ hm)
            have MA := Lib.hid (ahead_lt HW.out hm)
            have EM := Lib.hid (endsBlank_any HM.out HW.out (i := (m : Int)) (.inr (by omega)))
            generalize (gN s.list m).ahead = ma at *
            clear mn HEm HMm
            by_cases ml : (m : Int) = la
            · have x2 : ((m : Int) != la) = false := by rw [bne, beq_iff_eq.2 ml]; rfl
              have e1 : Hid (tkGo s.list.length s.list la ma = tkM s.list la) := Lib.hid (by rw [KS.out, if_neg (fun q => q.1 ml)])
              clear ml EM KS
              go_wp2_with fail
              go_roundw
              case rel => exact ⟨ma, rfl, trivial, MQ, e1⟩
              case measure => exact lep_lt MA.out
            · have x2 : ((m : Int) != la) = true := by rw [bne, beq_eq_false_iff_ne.2 ml]; rfl
              cases c : endsM s.list m with
              | false =>
                rw [c] at EM
                have e1 : Hid (tkGo s.list.length s.list la ma = tkM s.list la) := Lib.hid (by rw [KS.out, if_neg (fun q => by rw [c] at q; cases q.2)])
                clear ml KS c
                go_wp2_with fail
                refine EM.out.mono ?_
                rintro e w1 ⟨rfl, rfl⟩
                go_wp2_with fail
                go_roundw
                case rel => exact ⟨ma, rfl, trivial, MQ, e1⟩
                case measure => exact lep_lt MA.out
              | true =>
                rw [c] at EM
                have e2 : Hid (tkM s.list la = false) := Lib.hid (by rw [KS.out, if_pos ⟨ml, c⟩])
                have e1 : Hid (tightM s.list i = false) := Lib.hid (by rw [← HE.out, TS.out, if_pos e2.out])
                clear ml KS c
                go_wp2_with fail
                refine EM.out.mono ?_
                rintro e w1 ⟨rfl, rfl⟩
                go_wp2_with fail
                go_ret
                exact ⟨ret_bool e1.out.symm, rfl⟩
end
end Go.Proofs.YtfgpephpkibbaaaGreatDoor

/-
  Contracts of block's withoutBlankLines, define, closePara.
-/
namespace Go.Proofs.YtfgpephpkibbaaaGreatDoor
open Go.RowKit Go.Lib

theorem ixb_le : ∀ (l : List UInt8) (c : UInt8), -1 ≤ indexByte l c ∧ indexByte l c < (l.length : Int) := by
  intro l c
  by_cases h : 0 ≤ indexByte l c
  · have := (head_some (c := c) (l := l) h).2
    omega
  · have := Lib.indexByte_ge l c
    constructor
    · omega
    · omega
theorem wblE_le (l : List UInt8) : wblE l ≤ l.length := by
  unfold wblE
  rw [List.length_reverse]
  have := (List.dropWhile_sublist (p := ws) (l := l.reverse)).length_le
  rwa [List.length_reverse] at this
set_option maxRecDepth 100000 in
set_option maxHeartbeats 1000000 in
theorem wbl_any (W : World) (v : Value) (l : List UInt8) (h : Tx W v l) (hl : l.length ≤ 100000) :
    Calls Tryz.prog 48 #[v] W fun e w' => ∃ v', e = .returned v' ∧ Keeps W w' ∧ v'.ownBlock = v.ownBlock ∧ Tx w' v' (wblL l) := by
  have hsz : (⟨l.toArray⟩ : ByteArray).size = l.length := by simp [ByteArray.size]
  have hli : (⟨l.toArray⟩ : ByteArray).data.toList = l := by simp
  have CB := h.back (P := Tryz.prog) 59 9 5 Tryz.underlying59 Tryz.underlying5 Tryz.underlying9
  have TR := Lib.hid (fun W => lfTrim_any ⟨l.toArray⟩ W (by omega))
  rw [hli] at TR
  have hT : (⟨((l.reverse.dropWhile ws).reverse).toArray⟩ : ByteArray).size = wblE l := by simp [ByteArray.size, wblE]
  have hE := wblE_le l
  have IX := Lib.hid (fun W => Tryz.strings_IndexByte ((⟨l.toArray⟩ : ByteArray).extract (wblE l) (⟨l.toArray⟩ : ByteArray).size) 10 W)
  rw [Lib.extract_to_end, hli, show ((10 : Int).toNat.toUInt8) = 10 from rfl, hsz] at IX
  have hx := ixb_le (l.drop (wblE l)) 10
  rw [List.length_drop] at hx
  have hk : (wblE l : Int) + indexByte (l.drop (wblE l)) 10 + 1 = (wblE l + (indexByte (l.drop (wblE l)) 10 + 1).toNat : Nat) := by omega
  have hKL : wblE l + (indexByte (l.drop (wblE l)) 10 + 1).toNat ≤ l.length := by omega
  unfold wblL
  rcases h with ⟨rfl, rfl⟩ | ⟨g, cap, rfl, h1, h2, h3, h4, h5⟩
  · have e0 : (⟨(([] : List UInt8).reverse.dropWhile ws).reverse.toArray⟩ : ByteArray) = ⟨#[]⟩ := rfl
    have e1 : wblE [] = 0 := rfl
    have e2 : indexByte ([] : List UInt8) 10 = -1 := rfl
    have e3 : (⟨([] : List UInt8).toArray⟩ : ByteArray) = ⟨#[]⟩ := rfl
    have e4 : (⟨#[]⟩ : ByteArray).extract 0 0 = ⟨#[]⟩ := rfl
    rw [e3] at CB TR
    rw [e0] at TR
    rw [e1, List.drop_nil, e2, e3, List.length_nil, e4] at IX
    clear hsz hli hT hE hx hk hKL e0 e1 e2 e3 e4
    go_enter Tryz.func48, Tryz.ntmps48
    go_wp2_with fail
    refine (TR.out _).mono ?_
    rintro e w1 ⟨rfl, k1⟩
    have K1 := Lib.hid k1
    clear k1
    go_wp2_with fail
    refine (IX.out _).mono ?_
    rintro e w2 ⟨rfl, rfl⟩
    go_wp2_with fail
    go_ret
    exact ⟨_, rfl, K1.out, rfl, Tx.nil _⟩
  · have HT := Lib.hid (fun W' (q : Keeps W W') => (Tx.same (.inr ⟨g, cap, rfl, h1, h2, h3, h4, h5⟩) q.size (fun g' hg' => q.block g' (by cases hg'; exact h3)) : Tx W' (.slice (some ⟨g, 0, none⟩) l.length cap) l).take hKL)
    have HZ := Lib.hid hsz
    unfold maxLen at h2
    generalize (⟨((l.reverse.dropWhile ws).reverse).toArray⟩ : ByteArray) = T at *
    generalize wblE l + (indexByte (l.drop (wblE l)) 10 + 1).toNat = K at *
    generalize indexByte (l.drop (wblE l)) 10 = x at *
    generalize wblE l = E at *
    generalize (⟨l.toArray⟩ : ByteArray) = z at *
    generalize l.length = L at *
    clear h3 h4 h5
    go_enter Tryz.func48, Tryz.ntmps48
    go_wp2_with fail
    refine (TR.out _).mono ?_
    rintro e w1 ⟨rfl, k1⟩
    have K1 := Lib.hid k1
    clear k1
    go_wp2_with fail
    refine (IX.out _).mono ?_
    rintro e w2 ⟨rfl, rfl⟩
    go_wp2_with fail
    go_ret
    exact ⟨_, rfl, K1.out, rfl, HT.out _ K1.out⟩
end Go.Proofs.YtfgpephpkibbaaaGreatDoor

/-
  Contracts of block's define and closePara.
-/
namespace Go.Proofs.YtfgpephpkibbaaaGreatDoor
open Go.RowKit Go.Lib

theorem infoU8 : (Tryz.prog.info? 5).map (fun i => (i.zero, i.size, i.bytes)) = some (some (.int .u8 0), 1, 1) := by kernel_rfl
theorem wpl_append {P : Program} {w : World} {ops : Array Oper} {rest : List Oper} {o : Oper} {a : Act} {Q : Exit → Act → World → Prop} (hw : Region.wanted o (yielded ops a.tmps) = true) (s x : Operand) (t tx : TypeId)
    (ho : o.op = .call { callee := .builtin .append, args := #[s, x], argTypes := #[t, tx] }) (v u : Value) (hs : a.eval s = v) (hx : a.eval x = u) (v' : Value) (w' : World)
    (hr : (Builtin.append_ #[t, tx] o.type #[v, u]).run P w = .ok v' w') (h : wpList P ops Q rest (a.put o.dst v') w') : wpList P ops Q (o :: rest) a w :=
  wpList_step fun K hK => by
    rw [if_pos hw]
    unfold Oper.wp execOp
    simp only [ho, resolve, invoke, builtin, Sem.run_bind, Sem.run_pure, Result.andThen_ok, List.map_toArray, List.map_cons, List.map_nil, hs, hx, hr]
    exact hK _ _ h
theorem refs_app (W : World) (m₀ : Nat) (v u : Value) (rs qs : List Rf) (hd : Refs 0 W v rs) (hx : Refs m₀ W u qs) (hn : rs.length + qs.length ≤ 1000000) :
    ∃ v' w', (Builtin.append_ #[27, 27] 27 #[v, u]).run Tryz.prog W = .ok v' w' ∧ Refs 0 w' v' (rs ++ qs) ∧ W.grownBy w' v.ownBlock ∧ (v'.ownBlock = v.ownBlock ∨ v'.ownBlock = some W.heap.size) := by
  obtain ⟨i0, hi, hz0, hz1, hz2⟩ := info_parts infoRf
  unfold Refs at *
  have fin : ∀ {w' : World} {v' : Value}, w'.ownsRow 0 42 3 v' (rs.length + qs.length) (rs.flatMap refC ++ qs.flatMap refC) → w'.ownsRow 0 42 3 v' (rs ++ qs).length ((rs ++ qs).flatMap refC) := fun h => by
    rw [List.length_append, List.flatMap_append]; exact h
  have hq := hx
  rcases hx.2 with ⟨rfl, h0⟩ | ⟨g, cap, cur, rfl, _⟩
  · have : qs = [] := List.eq_nil_of_length_eq_zero h0
    subst this
    rw [List.append_nil]
    obtain ⟨ao, c, rfl, c1, _⟩ := refs_form hd
    exact ⟨_, W, run_append_nothing (P := Tryz.prog) W _ _ _ 42 i0 Tryz.underlying27 hi _ _ _ c1 _ (by rw [hz1]; exact Src.ofNil W Tryz.underlying27 0), hd, World.grownBy.refl _ _, .inl rfl⟩
  · obtain ⟨v', w', r1, r2, r3, _, r5⟩ := run_append_own_at (P := Tryz.prog) W 0 _ 27 42 i0 (.agg #[.string ⟨#[]⟩, .string ⟨#[]⟩, .string ⟨#[]⟩]) 3 48 Tryz.underlying27 hi hz0 hz1 hz2 rfl (by decide) v rs.length _ hd ⟨g, 0, none⟩ qs.length cap (qs.flatMap refC) hq.1 (hq.cells rfl) (fun u hu => by
      obtain ⟨r, _, hr⟩ := List.mem_flatMap.1 hu
      unfold refC at hr
      simp at hr
      rcases hr with rfl | rfl | rfl <;> rfl) (by simp only [maxLen]; omega) (by omega) (Nat.zero_le _)
    exact ⟨v', w', r1, fin r2, r3, r5⟩

theorem grown_drew_alloc (w : World) (o : Obj) (row : Option Nat) : w.grownBy (w.drew.alloc o) row := by
  have q := World.grownBy_alloc w.drew o row
  exact ⟨q.os, q.tape, q.output, q.size, q.block⟩
theorem all20 {p : Nat → Prop} (h0 : p 0) (h1 : p 1) (h2 : p 2) (h3 : p 3) (h4 : p 4) (h5 : p 5) (h6 : p 6) (h7 : p 7) (h8 : p 8) (h9 : p 9) (h10 : p 10) (h11 : p 11) (h12 : p 12) (h13 : p 13) (h14 : p 14) (h15 : p 15) (h16 : p 16) (h17 : p 17) (h18 : p 18) (h19 : p 19) : ∀ m, m < 20 → p m
  | 0, _ => h0 | 1, _ => h1 | 2, _ => h2 | 3, _ => h3 | 4, _ => h4 | 5, _ => h5 | 6, _ => h6 | 7, _ => h7 | 8, _ => h8 | 9, _ => h9
  | 10, _ => h10 | 11, _ => h11 | 12, _ => h12 | 13, _ => h13 | 14, _ => h14 | 15, _ => h15 | 16, _ => h16 | 17, _ => h17 | 18, _ => h18 | 19, _ => h19
  | m + 20, h => absurd h (by omega)
theorem nd_text (n : Nd) (a : List UInt8) (t t' : Value) : ∀ m, m < 20 → (ndC { n with text := a } t')[m]? = if m = 14 then some t' else (ndC n t)[m]? := by
  apply all20 <;> rfl
theorem nd_last (n : Nd) (a : Int) (t : Value) : ∀ m, m < 20 → (ndC { n with last := a } t)[m]? = if m = 11 then some (.int .i64 a) else (ndC n t)[m]? := by
  apply all20 <;> rfl
theorem nd_tight (n : Nd) (a : Bool) (t : Value) : ∀ m, m < 20 → (ndC { n with tight := a } t)[m]? = if m = 5 then some (.bool a) else (ndC n t)[m]? := by
  apply all20 <;> rfl
theorem nd_be (n : Nd) (a : Bool) (t : Value) : ∀ m, m < 20 → (ndC { n with be := a } t)[m]? = if m = 19 then some (.bool a) else (ndC n t)[m]? := by
  apply all20 <;> rfl
theorem nd_kind (n : Nd) (a : Nat) (t : Value) : ∀ m, m < 20 → (ndC { n with kind := a } t)[m]? = if m = 0 then some (.int .i64 a) else (ndC n t)[m]? := by
  apply all20 <;> rfl
theorem nd_level (n : Nd) (a : Nat) (t : Value) : ∀ m, m < 20 → (ndC { n with level := a } t)[m]? = if m = 1 then some (.int .i64 a) else (ndC n t)[m]? := by
  apply all20 <;> rfl
theorem nd_indent (n : Nd) (a : Nat) (t : Value) : ∀ m, m < 20 → (ndC { n with indent := a } t)[m]? = if m = 15 then some (.int .i64 a) else (ndC n t)[m]? := by
  apply all20 <;> rfl
theorem nd_fence (n : Nd) (a : UInt8) (t : Value) : ∀ m, m < 20 → (ndC { n with fence := a } t)[m]? = if m = 16 then some (.int .u8 (a.toNat : Nat)) else (ndC n t)[m]? := by
  apply all20 <;> rfl
theorem nd_count (n : Nd) (a : Nat) (t : Value) : ∀ m, m < 20 → (ndC { n with count := a } t)[m]? = if m = 17 then some (.int .i64 a) else (ndC n t)[m]? := by
  apply all20 <;> rfl
theorem nd_html (n : Nd) (a : Nat) (t : Value) : ∀ m, m < 20 → (ndC { n with html := a } t)[m]? = if m = 18 then some (.int .i64 a) else (ndC n t)[m]? := by
  apply all20 <;> rfl

section
variable {W : World} {B : Nat} {O : Nat → Option Nat} {s : St} {rv : Value} {tv : Nat → Value} {xs : List Value} {sb : ByteArray} {k g n cap : Nat}
set_option maxRecDepth 100000 in
set_option maxHeartbeats 2000000 in
theorem bdefine_any (h : Mem W B O s (.slice (some ⟨g, 0, none⟩) n cap) rv tv xs sb k) {i : Nat} (hi : i < s.list.length) (hp : phi s ≤ 100000) :
    Calls Tryz.prog 69 #[.pointer (some ⟨B, 0, none⟩), .pointer (some ⟨g, i * 20, none⟩)] W fun e w' => e = .returned (.tuple #[]) ∧ NPost W B O (defineM s i) (.slice (some ⟨g, 0, none⟩) n cap) w' := by
  have hcap : Cap s s.list.length 100000 := ⟨Nat.le_refl _, hp⟩
  have htl := hcap.text i
  have hT := h.txt i hi
  have z14 : W.cell? ⟨g, i * 20 + 14, none⟩ = some (tv i) := h.at hi 14 (by decide)
  have CB := hT.back (P := Tryz.prog) 59 9 5 Tryz.underlying59 Tryz.underlying5 Tryz.underlying9
  obtain ⟨ao, ca, e14, _, _⟩ := hT.form
  have hsz : (⟨(s.nd i).text.toArray⟩ : ByteArray).size = (s.nd i).text.length := by simp [ByteArray.size]
  have hli : (⟨(s.nd i).text.toArray⟩ : ByteArray).data.toList = (s.nd i).text := by simp
  have DF := Lib.hid (fun W' (q : Lis W') => defined_any ⟨(s.nd i).text.toArray⟩ W' (by omega) q)
  rw [hli] at DF
  have hdl := dfs_len (s.nd i).text.length (s.nd i).text
  have hrs := hcap.refs
  have hph : s.refs.length + (s.nd i).text.length ≤ 100000 := by have := tx_le s.list i; have e := hp; unfold phi at e; unfold St.nd; omega
  have ed : dfsGo (s.nd i).text.length (s.nd i).text = dfsL (s.nd i).text := rfl
  have er : dfrGo (s.nd i).text.length (s.nd i).text = dfrL (s.nd i).text := rfl
  rw [ed, er] at hdl
  have TM := Lib.hid (fun W => trim_any ⟨(dfrL (s.nd i).text).toArray⟩ W (by rw [show (⟨(dfrL (s.nd i).text).toArray⟩ : ByteArray).size = (dfrL (s.nd i).text).length by simp [ByteArray.size]]; omega))
  rw [show (⟨(dfrL (s.nd i).text).toArray⟩ : ByteArray).data.toList = dfrL (s.nd i).text by simp] at TM
  have htr := trimB_len (dfrL (s.nd i).text)
  have HO := Lib.hid h.env.lis
  have HM := Lib.hid h
  have HDEF : Hid (defineM s i = St.put { s with refs := s.refs ++ dfsL (s.nd i).text } i { s.nd i with text := trimL (dfrL (s.nd i).text) }) := Lib.hid rfl
  have HND : Hid ((s.nd i) = (s.nd i)) := Lib.hid rfl
  generalize trimL (dfrL (s.nd i).text) = T at *
  generalize dfrL (s.nd i).text = D at *
  generalize dfsL (s.nd i).text = R at *
  generalize (⟨(s.nd i).text.toArray⟩ : ByteArray) = z at *
  generalize (⟨D.toArray⟩ : ByteArray) = zd at *
  rw [e14] at z14 CB
  clear h hp hcap htl hT hsz hli ed er HND
  go_enter Tryz.func69, Tryz.ntmps69
  go_wp2_with fail
  refine (DF.out _ HO.out).mono ?_
  rintro e w1 ⟨v1, rfl, hr1, k1⟩
  have M1 := Lib.hid (HM.out.keep k1)
  have C1 := Lib.hid (Chg.keeps O k1)
  obtain ⟨v2, w2, ra, r2, g2, l2⟩ := refs_app w1 _ rv v1 s.refs R M1.out.refs hr1 (by omega)
  obtain ⟨a1, c1, rfl, _, _⟩ := refs_form hr1
  obtain ⟨a2, c2, e2, _, _⟩ := refs_form r2
  obtain ⟨a0, c0, e0, _, _⟩ := refs_form M1.out.refs
  rw [List.length_append] at e2
  subst e2
  have y2 : w1.cell? ⟨B, 2, none⟩ = some rv := M1.out.box.cell 2 rfl
  subst e0
  have hB2 : w2.heap[B]? = w1.heap[B]? := g2.block B M1.out.box.lt (fun e => by
    have := M1.out.oR B e.symm
    rw [M1.out.oB] at this
    cases this)
  have y2' := (World.cell?_of_block (a := ⟨B, 2, none⟩) hB2).trans y2
  have f2 := (World.frozen?_of_block (a := ⟨B, 2, none⟩) hB2).trans (M1.out.box.free 2)
  obtain ⟨O2, m2, q2⟩ := M1.out.refd _ _ g2 r2 l2
  have M2 := Lib.hid m2
  have C2 := Lib.hid (C1.out.trans q2)
  clear hr1 k1 r2 g2 l2 m2 q2 HM DF hB2
  go_wp2_with (at_builtin; go_must (refine wpl_append rfl (.tmp 19) (.tmp 20) _ _ rfl _ _ rfl rfl _ _ ra ?_))
  refine (TM.out _).mono ?_
  rintro e w3 ⟨rfl, k3⟩
  have M3 := Lib.hid (M2.out.keep k3)
  have C3 := Lib.hid (C2.out.trans (Chg.keeps O2 k3))
  clear k3 M2 C2 ra y2 y2' f2 TM
  obtain ⟨v4, o4, rc, ht4, ow4, c4, e4⟩ := Tx.made (P := Tryz.prog) w3 9 59 5 T (by omega) Tryz.underlying9 Tryz.underlying59 Tryz.underlying5
  subst e4
  have z14' : (w3.drew.alloc o4).cell? ⟨g, i * 20 + 14, none⟩ = some (tv i) := (M3.out.keep (((Keeps.refl w3).drew).alloc o4)).at (i := i) hi 14 (by decide)
  have f14 : (w3.drew.alloc o4).frozen? ⟨g, i * 20 + 14, none⟩ = false := (M3.out.keep (((Keeps.refl w3).drew).alloc o4)).free _
  have gr : w3.grownBy (w3.drew.alloc o4) (tv i).ownBlock := grown_drew_alloc w3 o4 _
  rw [e14] at z14'
  obtain ⟨O4, m4, q4⟩ := M3.out.text (i := i) hi (.slice (some ⟨w3.heap.size, 0, none⟩) T.length c4) { s.nd i with text := T } 14 (by decide) _ (nd_text _ _ _ _) gr ht4 (.inr ow4)
  have R4 := Lib.hid (show NPost W B O (defineM s i) (.slice (some ⟨g, 0, none⟩) n cap) _ from ⟨O4, _, _, _, _, _, by rw [HDEF.out]; exact m4, C3.out.trans q4⟩)
  clear m4 q4 gr ht4 M3 C3
  generalize w3.drew.alloc o4 = w4 at *
  go_wp2_with fail
  go_end0
  exact ⟨rfl, R4.out⟩
end
end Go.Proofs.YtfgpephpkibbaaaGreatDoor

/-
  Contracts of block's closePara, close, closeWithin. (Written by wip/tools/bkclose.py.)
-/
namespace Go.Proofs.YtfgpephpkibbaaaGreatDoor
open Go.RowKit Go.Lib

section
variable {W : World} {B : Nat} {O : Nat → Option Nat} {s : St} {rv : Value} {tv : Nat → Value} {xs : List Value} {sb : ByteArray} {k g n cap : Nat}
theorem NPost.keep {W W' W2 : World} {B : Nat} {O : Nat → Option Nat} {s' : St} {lv : Value} (h : NPost W B O s' lv W') (q : Keeps W' W2) : NPost W B O s' lv W2 := by
  obtain ⟨O2, rv, tv, xs, sb, k, h1, h2⟩ := h
  exact ⟨O2, rv, tv, xs, sb, k, h1.keep q, h2.trans (Chg.keeps O2 q)⟩
theorem grown_keeps {w w' : World} (k : Keeps w w') (row : Option Nat) : w.grownBy w' row := ⟨k.os, k.tape, k.output, k.size, fun b hb _ => k.block b hb⟩
theorem put_nd {s : St} {i : Nat} (h : i < s.list.length) (nd' : Nd) : (s.put i nd').nd i = nd' := gN_at h nd'
theorem define_nd {s : St} {i : Nat} (h : i < s.list.length) : (defineM s i).nd i = { s.nd i with text := trimL (dfrL (s.nd i).text) } := gN_at h _
theorem define_len (s : St) (i : Nat) : (defineM s i).list.length = s.list.length := by unfold defineM; simp
theorem closePara_nil {s : St} {i u : Nat} (c : ((defineM s i).nd i).text = []) (e : ((defineM s i).nd i).up = (u : Int)) : closeParaM s i = (defineM s i).put u { (defineM s i).nd u with last := ((defineM s i).nd i).ahead } := by
  unfold closeParaM
  rw [if_pos c, e, Int.toNat_natCast]
theorem closePara_some {s : St} {i : Nat} (c : ¬ ((defineM s i).nd i).text = []) : closeParaM s i = defineM s i := by
  unfold closeParaM
  rw [if_neg c]
set_option maxRecDepth 100000 in
set_option maxHeartbeats 1000000 in
theorem closePara_any (h : Mem W B O s (.slice (some ⟨g, 0, none⟩) n cap) rv tv xs sb k) {i : Nat} (hi : i < s.list.length) (hw : Wf s.list s.tip) (h0 : i ≠ 0) (hp : phi s ≤ 100000) :
    Calls Tryz.prog 46 #[.pointer (some ⟨B, 0, none⟩), .pointer (some ⟨g, i * 20, none⟩)] W fun e w' => e = .returned (.tuple #[]) ∧ NPost W B O (closeParaM s i) (.slice (some ⟨g, 0, none⟩) n cap) w' := by
  obtain ⟨rfl, hc1, hc2⟩ := h.num
  have DF := Lib.hid (bdefine_any h hi hp)
  have hu := hw.up i (by omega) hi
  obtain ⟨u, eu⟩ : ∃ u : Nat, (gN s.list i).up = (u : Int) := ⟨_, (Int.toNat_of_nonneg hu.1).symm⟩
  have hui : u < i := by omega
  have hnd := define_nd hi
  have hlen := define_len s i
  have hc63 := hc2
  unfold maxLen at hc63
  clear hp h hw hc1
  go_enter Tryz.func46, Tryz.ntmps46
  go_wp2_with fail
  refine DF.out.mono ?_
  rintro e w1 ⟨rfl, O1, rv1, tv1, xs1, sb1, k1, h1, c1⟩
  have hi1 : i < (defineM s i).list.length := by rw [hlen]; exact hi
  have hu1 : u < (defineM s i).list.length := by rw [hlen]; omega
  obtain ⟨ao, ca, e14, ca1, ca2⟩ := (h1.txt i hi1).form
  have z14 : w1.cell? ⟨g, i * 20 + 14, none⟩ = some (tv1 i) := h1.at hi1 14 (by decide)
  have z10 : w1.cell? ⟨g, i * 20 + 10, none⟩ = some (.int .i64 ((defineM s i).nd i).up) := h1.at hi1 10 (by decide)
  have z12 : w1.cell? ⟨g, i * 20 + 12, none⟩ = some (.int .i64 ((defineM s i).nd i).ahead) := h1.at hi1 12 (by decide)
  have x11 : w1.cell? ⟨g, u * 20 + 11, none⟩ = some (.int .i64 ((defineM s i).nd u).last) := h1.at hu1 11 (by decide)
  have y0 : w1.cell? ⟨B, 0, none⟩ = some (.slice (some ⟨g, 0, none⟩) s.list.length cap) := h1.box.cell 0 rfl
  have f11 : w1.frozen? ⟨g, u * 20 + 11, none⟩ = false := h1.free _
  have eup : ((defineM s i).nd i).up = (u : Int) := by rw [hnd]; exact eu
  rw [e14] at z14
  rw [eup] at z10
  by_cases c : ((defineM s i).nd i).text = []
  · rw [c] at z14
    obtain ⟨O2, m2, q2⟩ := h1.store (i := u) hu1 { (defineM s i).nd u with last := ((defineM s i).nd i).ahead } 11 (by decide) _ (nd_last _ _ _) rfl
    have R := Lib.hid (show NPost W B O (closeParaM s i) (.slice (some ⟨g, 0, none⟩) s.list.length cap) _ from ⟨O2, _, _, _, _, _, by rw [closePara_nil c eup]; exact m2, c1.trans q2⟩)
    clear m2 q2 h1 c1 DF c
    generalize ((defineM s i).nd i).ahead = ah at *
    generalize ((defineM s i).nd u).last = ul at *
    have hi2 : (u : Int) < (s.list.length : Int) := by omega
    clear hnd hlen hi1 hu1 eup eu hu e14
    go_wp2_with fail
    go_still_tail 14, (by kernel_rfl)
    change wpList _ _ _ _ _ w1.drew
    go_wp2_with fail
    go_end0
    exact ⟨rfl, R.out.keep ((Keeps.refl _).drew)⟩
  · have hl : ((defineM s i).nd i).text.length ≠ 0 := fun e => c (List.eq_nil_of_length_eq_zero e)
    have R := Lib.hid (show NPost W B O (closeParaM s i) (.slice (some ⟨g, 0, none⟩) s.list.length cap) w1 from ⟨O1, _, _, _, _, _, by rw [closePara_some c]; exact h1, c1⟩)
    generalize ((defineM s i).nd i).text.length = tl at *
    have t1 := beqF (show ¬ (tl : Int) = 0 by omega)
    clear hl h1 c1 DF c hnd hlen hi1 hu1 eup eu hu e14
    go_wp2_with fail
    go_end0
    exact ⟨rfl, R.out⟩

theorem closed_same (s : St) (i : Nat) : (closedM s i).tip = s.tip := by
  unfold closedM closeParaM defineM St.put
  dsimp only
  repeat' split
  all_goals rfl
/-- The end of close: the tip is the one that the closed block is in. -/
theorem close_fin {W W1 : World} {B : Nat} {O O1 : Nat → Option Nat} {s : St} {lv rv1 : Value} {tv1 : Nat → Value} {xs1 : List Value} {sb1 : ByteArray} {k1 u : Nat} (h : Mem W1 B O1 (closedM s s.tip) lv rv1 tv1 xs1 sb1 k1) (c : Chg W O W1 O1) (e : (s.nd s.tip).up = (u : Int)) :
    NPost W B O (closeM s) lv (W1.setCell ⟨B, 1, none⟩ (.int .i64 (u : Int))) := by
  have m := h.set1 (s' := closeM s) 1 (.int .i64 (u : Int)) rfl rfl rfl (by
    unfold boxC
    rw [show (closeM s).tip = u by rw [close_tip, e, Int.toNat_natCast]]
    rfl)
  exact ⟨O1, _, _, _, _, _, m, c.trans (h.chg1 1 _)⟩
set_option maxRecDepth 100000 in
set_option maxHeartbeats 4000000 in
theorem close_any (h : Mem W B O s (.slice (some ⟨g, 0, none⟩) n cap) rv tv xs sb k) (hw : Wf s.list s.tip) (h0 : s.tip ≠ 0) (hp : phi s ≤ 100000) :
    Calls Tryz.prog 32 #[.pointer (some ⟨B, 0, none⟩)] W fun e w' => e = .returned (.tuple #[]) ∧ NPost W B O (closeM s) (.slice (some ⟨g, 0, none⟩) n cap) w' := by
  obtain ⟨rfl, hc1, hc2⟩ := h.num
  have hi := hw.tip
  have hu := hw.up s.tip (by omega) hi
  obtain ⟨u, eu⟩ : ∃ u : Nat, (s.nd s.tip).up = (u : Int) := ⟨_, (Int.toNat_of_nonneg hu.1).symm⟩
  have EU := Lib.hid eu
  have CP := Lib.hid (fun W' (q : Keeps W W') => closePara_any (h.keep q) hi hw h0 hp)
  have HT := Lib.hid (closed_same s s.tip)
  have hcl := closed_cl s s.tip
  have HU : Hid (∀ w O1 rv1 tv1 xs1 sb1 k1, Mem w B O1 (closedM s s.tip) (.slice (some ⟨g, 0, none⟩) s.list.length cap) rv1 tv1 xs1 sb1 k1 → World.cell? w ⟨g, s.tip * 20 + 10, none⟩ = some (.int .i64 (u : Int))) := Lib.hid fun w O1 rv1 tv1 xs1 sb1 k1 h1 => by
    have q : w.cell? ⟨g, s.tip * 20 + 10, none⟩ = some (.int .i64 ((closedM s s.tip).nd s.tip).up) := h1.at (i := s.tip) (by rw [hcl.1]; exact hi) 10 (by decide)
    rw [q, show ((closedM s s.tip).nd s.tip).up = (u : Int) from (hcl.up s.tip).trans eu]
  have htl : (s.nd s.tip).text.length ≤ 100000 := Cap.text ⟨Nat.le_refl _, hp⟩ s.tip
  have y0 := h.box.cell 0 (v := .slice (some ⟨g, 0, none⟩) s.list.length cap) rfl
  have y1 := h.box.cell 1 (v := .int .i64 s.tip) rfl
  have hi2 : (s.tip : Int) < (s.list.length : Int) := by omega
  have CDD : Hid (closedM s s.tip = _) := Lib.hid (closedM.eq_1 s s.tip)
  have HM := Lib.hid h
  clear h hp hu eu hcl hc1 hc2 h0
  go_enter Tryz.func32, Tryz.ntmps32
  go_wp2_with fail
  go_quiet (fail)
  have K1 : Keeps W (W.drewN nq) := (Keeps.refl W).drewN nq
  have M1 := Lib.hid (HM.out.keep K1)
  have C1 := Lib.hid (Chg.keeps O K1)
  have CP1 := Lib.hid (CP.out _ K1)
  clear y0 y1 HM CP K1
  generalize W.drewN nq = W1 at *
  have z0 : W1.cell? ⟨g, s.tip * 20, none⟩ = some (.int .i64 ((s.nd s.tip).kind : Nat)) := M1.out.at hi 0 (by decide)
  have FN := Lib.hid (fenced_any W1 g (s.tip * 20) (s.nd s.tip).fence (M1.out.at hi 16 (by decide)))
  by_cases q5 : (s.nd s.tip).kind = 5
  · have CD : Hid (closedM s s.tip = closeParaM s s.tip) := Lib.hid (by rw [CDD.out, if_pos q5])
    rw [q5] at z0
    clear CDD q5 FN
    go_wp2_with fail
    refine CP1.out.mono ?_
    rintro e w2 ⟨rfl, q2⟩
    have R1 := Lib.hid (show NPost W B O (closedM s s.tip) (.slice (some ⟨g, 0, none⟩) s.list.length cap) _ from by rw [CD.out]; exact NPost.trans C1.out q2)
    clear q2 CP1
    obtain ⟨O2, rv2, tv2, xs2, sb2, k2, h2, c2⟩ := R1.out
    have y1 := h2.box.cell 1 (v := .int .i64 (closedM s s.tip).tip) rfl
    rw [HT.out] at y1
    have f1 := h2.box.free 1
    have z10 := HU.out _ _ _ _ _ _ _ h2
    have R2 := Lib.hid (close_fin h2 c2 EU.out)
    clear h2 c2 R1
    go_wp2_with fail
    go_end0
    exact ⟨rfl, R2.out⟩
  clear CP1
  have t5 := beqF (show ¬ ((s.nd s.tip).kind : Int) = 5 by omega)
  by_cases q7 : (s.nd s.tip).kind = 7
  · by_cases f0 : (s.nd s.tip).fence = 0
    · have CD : Hid (closedM s s.tip = s.put s.tip { s.nd s.tip with text := wblL (s.nd s.tip).text }) := Lib.hid (by rw [CDD.out, if_neg q5, if_pos q7, if_pos f0])
      rw [decide_eq_true f0, show (!true) = false from rfl] at FN
      rw [q7] at z0 t5
      clear CDD q5 f0 q7
      go_wp2_with fail
      refine FN.out.mono ?_
      rintro e w2 ⟨rfl, rfl⟩
      have WB := Lib.hid (wbl_any W1 (tv s.tip) (s.nd s.tip).text (M1.out.txt s.tip hi) htl)
      obtain ⟨ao, ca, e14, _, _⟩ := (M1.out.txt s.tip hi).form
      have z14 : W1.cell? ⟨g, s.tip * 20 + 14, none⟩ = some (tv s.tip) := M1.out.at hi 14 (by decide)
      rw [e14] at z14 WB
      go_wp2_with fail
      refine WB.out.mono ?_
      rintro e w2 ⟨v', rfl, k2, ow2, tx2⟩
      obtain ⟨ao2, ca2, e2, _, _⟩ := tx2.form
      subst e2
      have x14 : w2.cell? ⟨g, s.tip * 20 + 14, none⟩ = some (tv s.tip) := (M1.out.keep k2).at hi 14 (by decide)
      rw [e14] at x14
      have f14 : w2.frozen? ⟨g, s.tip * 20 + 14, none⟩ = false := (M1.out.keep k2).free _
      obtain ⟨O3, m3, q3⟩ := (M1.out.keep k2).text hi _ { s.nd s.tip with text := wblL (s.nd s.tip).text } 14 (by decide) _ (nd_text _ _ _ _) (World.grownBy.refl w2 _) tx2 (.inl (by rw [e14]; exact ow2))
      have R1 := Lib.hid (show NPost W B O (closedM s s.tip) (.slice (some ⟨g, 0, none⟩) s.list.length cap) _ from ⟨O3, _, _, _, _, _, by rw [CD.out]; exact m3, C1.out.trans ((Chg.keeps O k2).trans q3)⟩)
      clear m3 q3 k2 ow2 tx2 WB z14
      obtain ⟨O2, rv2, tv2, xs2, sb2, k2, h2, c2⟩ := R1.out
      have y1 := h2.box.cell 1 (v := .int .i64 (closedM s s.tip).tip) rfl
      rw [HT.out] at y1
      have f1 := h2.box.free 1
      have z10 := HU.out _ _ _ _ _ _ _ h2
      have R2 := Lib.hid (close_fin h2 c2 EU.out)
      clear h2 c2 R1
      go_wp2_with fail
      go_end0
      exact ⟨rfl, R2.out⟩
    · have CD : Hid (closedM s s.tip = s) := Lib.hid (by rw [CDD.out, if_neg q5, if_pos q7, if_neg f0])
      rw [decide_eq_false f0, show (!false) = true from rfl] at FN
      rw [q7] at z0 t5
      clear CDD q5 f0 q7
      go_wp2_with fail
      refine FN.out.mono ?_
      rintro e w2 ⟨rfl, rfl⟩
      have R1 := Lib.hid (show NPost W B O (closedM s s.tip) (.slice (some ⟨g, 0, none⟩) s.list.length cap) W1 from ⟨O, _, _, _, _, _, by rw [CD.out]; exact M1.out, C1.out⟩)
      obtain ⟨O2, rv2, tv2, xs2, sb2, k2, h2, c2⟩ := R1.out
      have y1 := h2.box.cell 1 (v := .int .i64 (closedM s s.tip).tip) rfl
      rw [HT.out] at y1
      have f1 := h2.box.free 1
      have z10 := HU.out _ _ _ _ _ _ _ h2
      have R2 := Lib.hid (close_fin h2 c2 EU.out)
      clear h2 c2 R1
      go_wp2_with fail
      go_end0
      exact ⟨rfl, R2.out⟩
  clear FN
  have t7 := beqF (show ¬ ((s.nd s.tip).kind : Int) = 7 by omega)
  by_cases q8 : (s.nd s.tip).kind = 8
  · have CD : Hid (closedM s s.tip = s.put s.tip { s.nd s.tip with text := wblL (s.nd s.tip).text }) := Lib.hid (by rw [CDD.out, if_neg q5, if_neg q7, if_pos q8])
    rw [q8] at z0 t5 t7
    clear CDD q5 q7 q8
    have WB := Lib.hid (wbl_any W1 (tv s.tip) (s.nd s.tip).text (M1.out.txt s.tip hi) htl)
    obtain ⟨ao, ca, e14, _, _⟩ := (M1.out.txt s.tip hi).form
    have z14 : W1.cell? ⟨g, s.tip * 20 + 14, none⟩ = some (tv s.tip) := M1.out.at hi 14 (by decide)
    rw [e14] at z14 WB
    go_wp2_with fail
    refine WB.out.mono ?_
    rintro e w2 ⟨v', rfl, k2, ow2, tx2⟩
    obtain ⟨ao2, ca2, e2, _, _⟩ := tx2.form
    subst e2
    have x14 : w2.cell? ⟨g, s.tip * 20 + 14, none⟩ = some (tv s.tip) := (M1.out.keep k2).at hi 14 (by decide)
    rw [e14] at x14
    have f14 : w2.frozen? ⟨g, s.tip * 20 + 14, none⟩ = false := (M1.out.keep k2).free _
    obtain ⟨O3, m3, q3⟩ := (M1.out.keep k2).text hi _ { s.nd s.tip with text := wblL (s.nd s.tip).text } 14 (by decide) _ (nd_text _ _ _ _) (World.grownBy.refl w2 _) tx2 (.inl (by rw [e14]; exact ow2))
    have R1 := Lib.hid (show NPost W B O (closedM s s.tip) (.slice (some ⟨g, 0, none⟩) s.list.length cap) _ from ⟨O3, _, _, _, _, _, by rw [CD.out]; exact m3, C1.out.trans ((Chg.keeps O k2).trans q3)⟩)
    clear m3 q3 k2 ow2 tx2 WB z14
    obtain ⟨O2, rv2, tv2, xs2, sb2, k2, h2, c2⟩ := R1.out
    have y1 := h2.box.cell 1 (v := .int .i64 (closedM s s.tip).tip) rfl
    rw [HT.out] at y1
    have f1 := h2.box.free 1
    have z10 := HU.out _ _ _ _ _ _ _ h2
    have R2 := Lib.hid (close_fin h2 c2 EU.out)
    clear h2 c2 R1
    go_wp2_with fail
    go_end0
    exact ⟨rfl, R2.out⟩
  have t8 := beqF (show ¬ ((s.nd s.tip).kind : Int) = 8 by omega)
  by_cases q3 : (s.nd s.tip).kind = 3
  · have CD : Hid (closedM s s.tip = s.put s.tip { s.nd s.tip with tight := tightM s.list s.tip }) := Lib.hid (by rw [CDD.out, if_neg q5, if_neg q7, if_neg q8, if_pos q3])
    have TI := Lib.hid (isTight_any M1.out hw hi)
    have z5 : W1.cell? ⟨g, s.tip * 20 + 5, none⟩ = some (.bool (s.nd s.tip).tight) := M1.out.at hi 5 (by decide)
    have f5 : W1.frozen? ⟨g, s.tip * 20 + 5, none⟩ = false := M1.out.free _
    obtain ⟨O3, m3, q3'⟩ := M1.out.store hi { s.nd s.tip with tight := tightM s.list s.tip } 5 (by decide) _ (nd_tight _ _ _) rfl
    have R1 := Lib.hid (show NPost W B O (closedM s s.tip) (.slice (some ⟨g, 0, none⟩) s.list.length cap) _ from ⟨O3, _, _, _, _, _, by rw [CD.out]; exact m3, C1.out.trans q3'⟩)
    rw [q3] at z0 t5 t7 t8
    clear CDD q5 q7 q8 q3 m3 q3'
    go_wp2_with fail
    refine TI.out.mono ?_
    rintro e w2 ⟨rfl, rfl⟩
    obtain ⟨O2, rv2, tv2, xs2, sb2, k2, h2, c2⟩ := R1.out
    have y1 := h2.box.cell 1 (v := .int .i64 (closedM s s.tip).tip) rfl
    rw [HT.out] at y1
    have f1 := h2.box.free 1
    have z10 := HU.out _ _ _ _ _ _ _ h2
    have R2 := Lib.hid (close_fin h2 c2 EU.out)
    clear h2 c2 R1
    go_wp2_with fail
    go_end0
    exact ⟨rfl, R2.out⟩
  have t3 := beqF (show ¬ ((s.nd s.tip).kind : Int) = 3 by omega)
  have CD : Hid (closedM s s.tip = s) := Lib.hid (by rw [CDD.out, if_neg q5, if_neg q7, if_neg q8, if_neg q3])
  clear CDD q5 q7 q8 q3
  have R1 := Lib.hid (show NPost W B O (closedM s s.tip) (.slice (some ⟨g, 0, none⟩) s.list.length cap) W1 from ⟨O, _, _, _, _, _, by rw [CD.out]; exact M1.out, C1.out⟩)
  obtain ⟨O2, rv2, tv2, xs2, sb2, k2, h2, c2⟩ := R1.out
  have y1 := h2.box.cell 1 (v := .int .i64 (closedM s s.tip).tip) rfl
  rw [HT.out] at y1
  have f1 := h2.box.free 1
  have z10 := HU.out _ _ _ _ _ _ _ h2
  have R2 := Lib.hid (close_fin h2 c2 EU.out)
  clear h2 c2 R1
  go_wp2_with fail
  go_end0
  exact ⟨rfl, R2.out⟩
end
end Go.Proofs.YtfgpephpkibbaaaGreatDoor


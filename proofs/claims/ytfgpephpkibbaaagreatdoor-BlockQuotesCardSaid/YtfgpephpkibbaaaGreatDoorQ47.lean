/-
  Texts of the proof, one behind the other: Bsb, Btc, Bdq, Bsc, Bse, Blb, Bln.
-/
import Derived.Test.YtfgpephpkibbaaaGreatDoorQ46
import Derived.Test.YtfgpephpkibbaaaGreatDoorQ45
import Derived.Test.YtfgpephpkibbaaaGreatDoorQ42
import Derived.Test.YtfgpephpkibbaaaGreatDoorQ11
import Derived.Test.YtfgpephpkibbaaaGreatDoorQ34
/-
  What the parser tells is such as blocks must be.
-/
namespace Go.Proofs.YtfgpephpkibbaaaGreatDoor
open Go Go.Lib

def kindT : Tr → Nat
  | .mk k _ _ _ _ _ _ _ _ => k
def hldB (a b : Nat) : Bool := if a = 1 ∨ a = 2 ∨ a = 4 then !decide (b = 4) && !decide (b = 1) else if a = 3 then decide (b = 4) else false
def ownB (k l : Nat) (t : List UInt8) (n : Nat) : Bool := !(decide (k = 6) && (decide (l < 1) || decide (6 < l))) && !(decide (k = 5) && decide (t = [])) && !(decide (k = 3) && decide (n = 0))
mutual
/-- Such as blocks must be. -/
def shT : Tr → Bool
  | .mk k l _ _ _ _ _ t ks => ownB k l t ks.length && shL k ks
def shL : Nat → List Tr → Bool
  | _, [] => true
  | k, x :: xs => hldB k (kindT x) && shT x && shL k xs
end
mutual
/-- How deep. -/
def dpT : Tr → Nat
  | .mk _ _ _ _ _ _ _ _ ks => dpL ks + 1
def dpL : List Tr → Nat
  | [] => 0
  | x :: xs => max (dpT x) (dpL xs)
end
theorem shL_app : ∀ (k : Nat) (a b : List Tr), shL k (a ++ b) = (shL k a && shL k b)
  | k, [], b => by rw [List.nil_append, shL, Bool.true_and]
  | k, x :: a, b => by rw [List.cons_append, shL, shL, shL_app k a b]; simp only [Bool.and_assoc]
theorem dpL_app : ∀ a b : List Tr, dpL (a ++ b) = max (dpL a) (dpL b)
  | [], b => by rw [List.nil_append, dpL]; omega
  | x :: a, b => by rw [List.cons_append, dpL, dpL, dpL_app a b]; omega
theorem shL_all {k : Nat} : ∀ {l : List Tr}, (∀ x ∈ l, hldB k (kindT x) = true ∧ shT x = true) → shL k l = true
  | [], _ => by rw [shL]
  | x :: l, h => by
    obtain ⟨a, b⟩ := h x (List.mem_cons_self ..)
    rw [shL, a, b, shL_all fun y hy => h y (List.mem_cons_of_mem _ hy)]; rfl
theorem dpL_all {n : Nat} : ∀ {l : List Tr}, (∀ x ∈ l, dpT x ≤ n) → dpL l ≤ n
  | [], _ => by rw [dpL]; omega
  | x :: l, h => by
    have a := h x (List.mem_cons_self ..)
    have b := dpL_all fun y hy => h y (List.mem_cons_of_mem _ hy)
    rw [dpL]; omega
theorem chGo_live {l : List Nd} {t : Nat} (w : Wf l t) (k : Kin l) {i : Nat} : ∀ (f : Nat) (j : Int), -1 ≤ j → (∀ y : Nat, j = (y : Int) → (gN l y).up = (i : Int) ∧ y < l.length ∧ ¬ Dead l y) → ∀ c ∈ chGo f l j, (gN l c).up = (i : Int) ∧ c < l.length ∧ ¬ Dead l c
  | 0, _, _, _, c, hc => by cases hc
  | f + 1, j, hm, h, c, hc => by
    unfold chGo at hc
    split at hc
    · cases hc
    · next hj =>
      obtain ⟨h1, h2, h3⟩ := h j.toNat (by omega)
      have hpos : 0 < j.toNat := by
        refine Nat.pos_of_ne_zero fun e => ?_
        rw [e, w.up0] at h1
        omega
      have hu := w.up j.toNat hpos h2
      have ha := w.ahead j.toNat h2
      rcases List.mem_cons.1 hc with e | e
      · subst e; exact ⟨h1, h2, h3⟩
      · refine chGo_live w k f (gN l j.toNat).ahead (by omega) (fun y hy => ?_) c e
        exact ⟨(k.ahead _ _ hy).trans h1, by omega, fun q => q.2 _ hy⟩
theorem ch_live {l : List Nd} {t : Nat} (w : Wf l t) (k : Kin l) {i : Nat} (hi : i < l.length) : ∀ c ∈ chM l (gN l i).last, (gN l c).up = (i : Int) ∧ c < l.length ∧ ¬ Dead l c := by
  have hl := w.last i hi
  exact chGo_live w k l.length (gN l i).last (by omega) fun y hy => ⟨k.last i y hy, by omega, fun q => q.1 _ hy⟩
theorem hold_law {a b : Nat} (h : holdsB a b = true) (h1 : b ≠ 1) : hldB a b = true := by
  unfold holdsB at h
  unfold hldB
  split at h
  · next q => rw [if_pos q, h, decide_eq_false h1]; rfl
  · next q =>
    split at h
    · next q3 => rw [if_neg q, if_pos q3]; exact h
    · cases h
theorem told_shape {l : List Nd} (w : Wf l 0) (k : Kin l) (h : Shp l 0 0) (hd : ∀ i, (gN l i).depth ≤ 100) : ∀ (d i : Nat), i < l.length → l.length ≤ i + d → ((gN l i).kind = 5 → (gN l i).text ≠ []) → kindT (toldM l i) = (gN l i).kind ∧ shT (toldM l i) = true ∧ dpT (toldM l i) + (gN l i).depth ≤ 101
  | 0, i, hi, hl, _ => by omega
  | d + 1, i, hi, hl, hp => by
    have kid : ∀ c ∈ chM l (gN l i).last, hldB (gN l i).kind (kindT (toldM l c)) = true ∧ shT (toldM l c) = true ∧ dpT (toldM l c) + (gN l i).depth ≤ 100 := fun c hc => by
      obtain ⟨h1, h2, h3⟩ := ch_live w k hi c hc
      have h0 : 0 < c := by
        refine Nat.pos_of_ne_zero fun e => ?_
        rw [e, w.up0] at h1
        omega
      have hu := w.up c h0 h2
      have hic : i < c := by omega
      have eu : (gN l c).up.toNat = i := by rw [h1]; rfl
      obtain ⟨a1, a2⟩ := h.hold c h0 h2
      have a3 := h.dep c h0 h2
      rw [eu] at a1 a3
      have hn : ¬ On l 0 c := fun o => by have := o.le w; omega
      obtain ⟨r1, r2, r3⟩ := told_shape w k h hd d c h2 (by omega) (fun e => (h.para c e hn).resolve_right h3)
      rw [r1]
      exact ⟨hold_law a1 a2, r2, by omega⟩
    have hdi := hd i
    have hlen : (gN l i).kind = 3 → ((chM l (gN l i).last).map (toldM l)).reverse.length ≠ 0 := fun e => by
      have hne : i ≠ 0 := fun e0 => by rw [e0, w.doc] at e; cases e
      have h1 := h.list i e hne
      have h2 := w.last i hi
      obtain ⟨y, hy⟩ : ∃ y : Nat, (gN l i).last = (y : Int) := ⟨(gN l i).last.toNat, by omega⟩
      rw [hy, ch_step w (by omega)]
      simp
    rw [told_eq w k hi]
    refine ⟨rfl, ?_, ?_⟩
    · rw [shT]
      have e1 : ownB (gN l i).kind (gN l i).level (gN l i).text ((chM l (gN l i).last).map (toldM l)).reverse.length = true := by
        unfold ownB
        by_cases k6 : (gN l i).kind = 6
        · obtain ⟨b1, b2⟩ := h.head i k6
          rw [k6, decide_eq_false (show ¬ (gN l i).level < 1 by omega), decide_eq_false (show ¬ 6 < (gN l i).level by omega)]; rfl
        · rw [decide_eq_false k6]
          by_cases k5 : (gN l i).kind = 5
          · rw [k5, decide_eq_false (hp k5)]; rfl
          · rw [decide_eq_false k5]
            by_cases k3 : (gN l i).kind = 3
            · rw [decide_eq_false (hlen k3), Bool.and_false]; rfl
            · rw [decide_eq_false k3]; rfl
      rw [e1, Bool.true_and]
      refine shL_all fun x hx => ?_
      obtain ⟨c, hc, rfl⟩ := List.mem_map.1 (List.mem_reverse.1 hx)
      exact ⟨(kid c hc).1, (kid c hc).2.1⟩
    · rw [dpT]
      have : dpL ((chM l (gN l i).last).map (toldM l)).reverse ≤ 100 - (gN l i).depth := dpL_all fun x hx => by
        obtain ⟨c, hc, rfl⟩ := List.mem_map.1 (List.mem_reverse.1 hx)
        have := (kid c hc).2.2
        omega
      omega
theorem run_shape : ∀ (ls : List (List UInt8)) (s s' : St) (a b : Nat), Wf s.list s.tip → Sg s 0 → Cap s a b → (∀ t ∈ ls, t.length ≤ 5000) → a + pot ls ≤ 60000 → b + pot ls ≤ 60000 → s.deep = false → runBM ls s = some s' → Wf s'.list s'.tip ∧ Sg s' 0 ∧ s'.deep = false
  | [], s, s', a, b, w, h, _, _, _, _, hd, e => by
    rw [runBM] at e
    obtain rfl := Option.some.inj e
    exact ⟨w, h, hd⟩
  | t :: ls, s, s', a, b, w, h, c, ht, ha, hb, hd, e => by
    have h5 := ht t (List.mem_cons_self ..)
    have ep : pot (t :: ls) = (2 * t.length + 4) + pot ls := rfl
    have c1 := c.len
    have c2 := c.txt
    obtain ⟨w2, c3⟩ := take_ok (t := t) w c (Nat.le_refl _) (by omega) (by omega) (by omega)
    have h2 := sg_take (t := t) w h (by omega) (by omega) (by omega)
    rw [runBM] at e
    by_cases dp : (takeM s t).deep = true
    · rw [if_pos dp] at e; cases e
    · rw [if_neg dp] at e
      exact run_shape ls _ s' _ _ w2 h2 c3 (fun x hx => ht x (List.mem_cons_of_mem _ hx)) (by omega) (by omega) (by revert dp; cases (takeM s t).deep <;> simp) e
/-- WHAT IS TOLD. -/
theorem parse_shape {t : List UInt8} (ht : t.length ≤ 5000) {x : Tr} {rs : List Rf} (h : parseM t = some (x, rs)) : kindT x = 1 ∧ shT x = true ∧ dpT x ≤ 101 := by
  unfold parseM at h
  have hp := pot_lines t
  cases er : runBM (linesL t) st0 with
  | none => rw [er] at h; cases h
  | some s =>
    rw [er] at h
    have e := Option.some.inj h
    obtain ⟨w, g, hd⟩ := run_shape (linesL t) st0 s 1 0 wf0 sg_st0 ⟨Nat.le_refl _, Nat.zero_le _⟩ (fun y hy => by have := line_le hy; omega) (by omega) (by omega) rfl er
    have o := on_doc w
    obtain ⟨w0, t0, _, _, _, d0⟩ := cw_ok w o
    have g0 := sg_cw w o g
    have hs := g0.shp
    rw [t0] at hs
    have hdp : ∀ i, (gN (cwM s 0).list i).depth ≤ 100 := by
      rcases g0.dp with q | q
      · rw [d0, hd] at q; cases q
      · exact q
    obtain ⟨r1, r2, r3⟩ := told_shape w0 g0.kin hs hdp _ 0 w0.tip (Nat.le_of_eq (Nat.zero_add _).symm) (fun q => by rw [w0.doc] at q; cases q)
    have ex : toldM (cwM s 0).list 0 = x := (Prod.mk.inj e).1
    rw [ex] at r1 r2 r3
    exact ⟨r1.trans w0.doc, r2, by omega⟩
end Go.Proofs.YtfgpephpkibbaaaGreatDoor

/-
  A tree's lists, opened; the document's example of layer 12.
-/
namespace Go.Proofs.YtfgpephpkibbaaaGreatDoor
open Go.RowKit Go.Lib

/-- The list kv has the blocks kids. -/
def Kids (W : World) (lo hi : Nat) (kids : List Tr) (kv : Value) : Prop := ∃ cs : List Ten, W.ownsRow lo 26 10 kv cs.length (flat10 cs) ∧ (∀ g, kv.ownBlock = some g → g < hi) ∧ cs.length = kids.length ∧ ∀ i (h : i < kids.length) (h' : i < cs.length), TreeAt W lo hi kids[i] cs[i]
theorem Kids.keep {W W' : World} {lo hi : Nat} {kids : List Tr} {kv : Value} (h : Kids W lo hi kids kv) (hs : hi ≤ W.heap.size) (k : Keeps W W') : Kids W' lo hi kids kv := by
  obtain ⟨cs, h1, h2, h3, h4⟩ := h
  exact ⟨cs, row_same h1 fun g e => k.block g (by have := h2 g e; omega), h2, h3, fun i a b => (h4 i a b).keep hs k⟩
theorem Kids.slice {W : World} {lo hi : Nat} {kids : List Tr} {kv : Value} (h : Kids W lo hi kids kv) : ∃ ao cap, kv = .slice ao kids.length cap ∧ kids.length ≤ cap ∧ cap ≤ maxLen ∧ (0 < kids.length → ∃ g, ao = some ⟨g, 0, none⟩) := by
  obtain ⟨cs, h1, h2, h3, h4⟩ := h
  rcases h1.2 with ⟨rfl, h0⟩ | ⟨g, cap, cur, rfl, _, _, a, b, _⟩
  · exact ⟨none, 0, by rw [← h3, h0], by omega, by simp [maxLen], fun q => by omega⟩
  · exact ⟨_, cap, by rw [h3], by omega, b, fun _ => ⟨g, rfl⟩⟩
/-- A block's cells. -/
structure At (W : World) (g o : Nat) (k l : Nat) (od : Bool) (st mk : Nat) (ti : Bool) (info text : List UInt8) (kv : Value) : Prop where
  c0 : W.cell? ⟨g, o, none⟩ = some (.int .i64 k)
  c1 : W.cell? ⟨g, o + 1, none⟩ = some (.int .i64 l)
  c2 : W.cell? ⟨g, o + 2, none⟩ = some (.bool od)
  c3 : W.cell? ⟨g, o + 3, none⟩ = some (.int .i64 st)
  c4 : W.cell? ⟨g, o + 4, none⟩ = some (.int .u8 mk)
  c5 : W.cell? ⟨g, o + 5, none⟩ = some (.bool ti)
  c6 : W.cell? ⟨g, o + 6, none⟩ = some (.string ⟨info.toArray⟩)
  c7 : W.cell? ⟨g, o + 7, none⟩ = some (.string ⟨text.toArray⟩)
  c8 : W.cell? ⟨g, o + 8, none⟩ = some kv
  c9 : W.cell? ⟨g, o + 9, none⟩ = some (.slice none 0 0)
theorem Kids.at {W : World} {lo hi : Nat} {kids : List Tr} {g cap : Nat} (h : Kids W lo hi kids (.slice (some ⟨g, 0, none⟩) kids.length cap)) {i : Nat} {k l : Nat} {od : Bool} {st mk : Nat} {ti : Bool} {info text : List UInt8} {ks : List Tr} (e : kids[i]? = some (.mk k l od st mk ti info text ks)) :
    ∃ kv, At W g (i * 10) k l od st mk ti info text kv ∧ Kids W lo hi ks kv := by
  obtain ⟨cs, h1, h2, h3, h4⟩ := h
  obtain ⟨hi', e'⟩ := List.getElem?_eq_some_iff.1 e
  have ht := h4 i hi' (by omega)
  rw [e'] at ht
  have hcell : ∀ j, j < 10 → W.cell? ⟨g, i * 10 + j, none⟩ = (cs[i]'(by omega)).1[j]? := fun j hj => by
    have hr : W.ownsRow lo 26 10 (.slice (some ⟨g, 0, none⟩) cs.length cap) cs.length (flat10 cs) := by rw [← h3] at h1; exact h1
    rw [hr.cellAt _ (by omega), flat10_get cs _ (by omega)]
    have e1 : (i * 10 + j) / 10 = i := by omega
    have e2 : (i * 10 + j) % 10 = j := by omega
    rw [e1, e2, List.getElem?_eq_getElem (by omega)]; rfl
  cases ht with
  | mk _ _ _ _ _ _ _ _ _ kv cs' c hc hr hg hl hk =>
    have hh : ∀ j, j < 10 → W.cell? ⟨g, i * 10 + j, none⟩ = (blkT k l od st mk ti info text kv)[j]? := fun j hj => by rw [hcell j hj, hc]
    exact ⟨kv, ⟨hh 0 (by decide), hh 1 (by decide), hh 2 (by decide), hh 3 (by decide), hh 4 (by decide), hh 5 (by decide), hh 6 (by decide), hh 7 (by decide), hh 8 (by decide), hh 9 (by decide)⟩, ⟨cs', hr, hg, hl, hk⟩⟩
def blkV (k l : Nat) (o : Bool) (st mk : Nat) (ti : Bool) (info text : List UInt8) (kv : Value) : Value := .agg #[.int .i64 k, .int .i64 l, .bool o, .int .i64 st, .int .u8 mk, .bool ti, .string ⟨info.toArray⟩, .string ⟨text.toArray⟩, kv, .slice none 0 0]
/-- What Parse tells of a text that isn't too deep. -/
theorem ParR.open {lo : Nat} {r : Option (Tr × List Rf)} {e : Ending} {w' : World} (h : ParR lo r e w') {k l : Nat} {od : Bool} {st mk : Nat} {ti : Bool} {info text : List UInt8} {ks : List Tr} {rs : List Rf} (hr : r = some (.mk k l od st mk ti info text ks, rs)) :
    ∃ kv v, e = .returned (.tuple #[blkV k l od st mk ti info text kv, v, .int .i64 0]) ∧ Kids w' lo w'.heap.size ks kv ∧ Refs 0 w' v rs ∧ ∀ g, v.ownBlock = some g → lo ≤ g := by
  subst hr
  obtain ⟨C, c, v, he, hC, ht, hf, hv⟩ := h
  cases ht with
  | mk _ _ _ _ _ _ _ _ _ kv cs' c hc hr hg hl hk =>
    refine ⟨kv, v, ?_, ⟨cs', hr, hg, hl, hk⟩, hf, hv⟩
    rw [he]
    have : C = #[.int .i64 k, .int .i64 l, .bool od, .int .i64 st, .int .u8 mk, .bool ti, .string ⟨info.toArray⟩, .string ⟨text.toArray⟩, kv, .slice none 0 0] := by
      apply Array.ext'
      rw [hC, hc]; rfl
    rw [this]; rfl
theorem ParR.deep {lo : Nat} {r : Option (Tr × List Rf)} {e : Ending} {w' : World} (h : ParR lo r e w') (hr : r = none) : e = .returned (.tuple #[blkV 0 0 false 0 0 false [] [] (.slice none 0 0), .slice none 0 0, .int .i64 3]) := by
  subst hr
  exact h
def awkB : ByteArray := ⟨#[62, 32, 35, 32, 97, 10, 62, 32, 98, 10, 99, 10, 10, 45, 32, 120, 10, 45, 32, 121, 10, 10, 91, 114, 93, 58, 32, 47, 117, 10]⟩
set_option maxRecDepth 100000 in
set_option maxHeartbeats 8000000 in
theorem awake12_any (w : World) (hO : Lis w) (hM : Mxl w) : Calls Tryz.prog 7 #[] w fun e w' => e = .returned (.bool true) ∧ Keeps w w' := by
  have PA := Lib.hid (parse_any awkB w (by decide) hO hM)
  clear hO hM
  go_enter Tryz.func7, Tryz.ntmps7
  go_wp2_with fail
  simp only [List.append] at *
  refine PA.out.mono ?_
  rintro e w1 ⟨kk, hp⟩
  obtain ⟨kv, v, rfl, hk, hf, _⟩ := hp.open (show parseM awkB.data.toList = _ from awk_parse)
  obtain ⟨ao, cap, ekv, _, _, hg⟩ := hk.slice
  obtain ⟨g, rfl⟩ := hg (by decide)
  have ekv2 : kv = .slice (some ⟨g, 0, none⟩) 2 cap := ekv
  subst ekv2
  have ev : blkV 1 0 false 0 0 false [] [] (.slice (some ⟨g, 0, none⟩) 2 cap) = .agg #[.int .i64 1, .int .i64 0, .bool false, .int .i64 0, .int .u8 0, .bool false, .string ⟨#[]⟩, .string ⟨#[]⟩, .slice (some ⟨g, 0, none⟩) 2 cap, .slice none 0 0] := rfl
  rw [ev]
  have KA := (Keeps.refl w1).alloc (.cells #[.int .i64 1, .int .i64 0, .bool false, .int .i64 0, .int .u8 0, .bool false, .string ⟨#[]⟩, .string ⟨#[]⟩, .slice (some ⟨g, 0, none⟩) 2 cap, .slice none 0 0] 26)
  have KE := Lib.hid (kk.trans KA)
  have hk := hk.keep (Nat.le_refl _) KA
  have hf := hf.keep KA
  have x8 := (Blk.new w1 26 #[.int .i64 1, .int .i64 0, .bool false, .int .i64 0, .int .u8 0, .bool false, .string ⟨#[]⟩, .string ⟨#[]⟩, .slice (some ⟨g, 0, none⟩) 2 cap, .slice none 0 0]).cell 8 (v := .slice (some ⟨g, 0, none⟩) 2 cap) rfl
  obtain ⟨kv0, a0, hk0⟩ := hk.at (i := 0) rfl
  obtain ⟨kv1, a1, hk1⟩ := hk.at (i := 1) rfl
  obtain ⟨ao0, cap0, e0, _, _, hg0⟩ := hk0.slice
  obtain ⟨g0, rfl⟩ := hg0 (by decide)
  have e0' : kv0 = .slice (some ⟨g0, 0, none⟩) 2 cap0 := e0
  subst e0'
  obtain ⟨kv01, a01, _⟩ := hk0.at (i := 1) rfl
  obtain ⟨ao1, cap1, e1, _, _, _⟩ := hk1.slice
  have e1' : kv1 = .slice ao1 2 cap1 := e1
  subst e1'
  obtain ⟨gr, capr, er⟩ : ∃ gr capr, v = .slice (some ⟨gr, 0, none⟩) 1 capr := by
    rcases hf.2 with ⟨_, q⟩ | ⟨gr, capr, _, q, _⟩
    · cases q
    · exact ⟨gr, capr, q⟩
  subst er
  have q1 : (w1.alloc (.cells #[.int .i64 1, .int .i64 0, .bool false, .int .i64 0, .int .u8 0, .bool false, .string ⟨#[]⟩, .string ⟨#[]⟩, .slice (some ⟨g, 0, none⟩) 2 cap, .slice none 0 0] 26)).cell? ⟨gr, 1, none⟩ = some (.string ⟨#[47, 117]⟩) := World.ownsRow.cellAt hf 1 (by decide)
  have q2 : (w1.alloc (.cells #[.int .i64 1, .int .i64 0, .bool false, .int .i64 0, .int .u8 0, .bool false, .string ⟨#[]⟩, .string ⟨#[]⟩, .slice (some ⟨g, 0, none⟩) 2 cap, .slice none 0 0] 26)).cell? ⟨g, 0, none⟩ = some (.int .i64 2) := a0.c0
  have q3 : (w1.alloc (.cells #[.int .i64 1, .int .i64 0, .bool false, .int .i64 0, .int .u8 0, .bool false, .string ⟨#[]⟩, .string ⟨#[]⟩, .slice (some ⟨g, 0, none⟩) 2 cap, .slice none 0 0] 26)).cell? ⟨g, 8, none⟩ = some (.slice (some ⟨g0, 0, none⟩) 2 cap0) := a0.c8
  have q4 : (w1.alloc (.cells #[.int .i64 1, .int .i64 0, .bool false, .int .i64 0, .int .u8 0, .bool false, .string ⟨#[]⟩, .string ⟨#[]⟩, .slice (some ⟨g, 0, none⟩) 2 cap, .slice none 0 0] 26)).cell? ⟨g0, 17, none⟩ = some (.string ⟨#[98, 10, 99]⟩) := a01.c7
  have q5 : (w1.alloc (.cells #[.int .i64 1, .int .i64 0, .bool false, .int .i64 0, .int .u8 0, .bool false, .string ⟨#[]⟩, .string ⟨#[]⟩, .slice (some ⟨g, 0, none⟩) 2 cap, .slice none 0 0] 26)).cell? ⟨g, 10, none⟩ = some (.int .i64 3) := a1.c0
  have q6 : (w1.alloc (.cells #[.int .i64 1, .int .i64 0, .bool false, .int .i64 0, .int .u8 0, .bool false, .string ⟨#[]⟩, .string ⟨#[]⟩, .slice (some ⟨g, 0, none⟩) 2 cap, .slice none 0 0] 26)).cell? ⟨g, 15, none⟩ = some (.bool true) := a1.c5
  have q7 : (w1.alloc (.cells #[.int .i64 1, .int .i64 0, .bool false, .int .i64 0, .int .u8 0, .bool false, .string ⟨#[]⟩, .string ⟨#[]⟩, .slice (some ⟨g, 0, none⟩) 2 cap, .slice none 0 0] 26)).cell? ⟨g, 18, none⟩ = some (.slice ao1 2 cap1) := a1.c8
  clear hp hk hf hk0 hk1 a0 a1 a01 hg hg0 kk KA ev PA e0 e1 ekv
  go_wp2_with fail
  go_ret
  exact ⟨rfl, KE.out⟩
end Go.Proofs.YtfgpephpkibbaaaGreatDoor

/-
  Blocks in memory stay as they are.
-/
namespace Go.Proofs.YtfgpephpkibbaaaGreatDoor
open Go.RowKit Go.Lib

theorem Kids.over {W W' : World} {lo hi : Nat} {kids : List Tr} {kv : Value} (h : Kids W lo hi kids kv) (hb : ∀ b, b < hi → W'.heap[b]? = W.heap[b]?) : Kids W' lo hi kids kv := by
  obtain ⟨cs, h1, h2, h3, h4⟩ := h
  exact ⟨cs, row_same h1 fun g e => hb g (h2 g e), h2, h3, fun i a b => (h4 i a b).same (Nat.le_refl _) (Nat.le_refl _) fun x _ hx => hb x hx⟩
theorem At.keep {W W' : World} {g o k l : Nat} {od : Bool} {st mk : Nat} {ti : Bool} {info text : List UInt8} {kv : Value} (h : At W g o k l od st mk ti info text kv) (q : Keeps W W') : At W' g o k l od st mk ti info text kv :=
  ⟨keep_cell h.c0 q, keep_cell h.c1 q, keep_cell h.c2 q, keep_cell h.c3 q, keep_cell h.c4 q, keep_cell h.c5 q, keep_cell h.c6 q, keep_cell h.c7 q, keep_cell h.c8 q, keep_cell h.c9 q⟩
theorem same_b (s : ByteArray) : (⟨s.data.toList.toArray⟩ : ByteArray) = s := by cases s; rfl
end Go.Proofs.YtfgpephpkibbaaaGreatDoor

/-
  Contracts of the law's deepest, holds, shaped, over trees in memory.
-/
namespace Go.Proofs.YtfgpephpkibbaaaGreatDoor
open Go.RowKit Go.Lib Go.Maps

theorem TreeAt.form {W : World} {lo hi : Nat} {k l : Nat} {o : Bool} {st mk : Nat} {ti : Bool} {info text : List UInt8} {kids : List Tr} {c : Ten} (h : TreeAt W lo hi (.mk k l o st mk ti info text kids) c) : ∃ kv, c.1 = blkT k l o st mk ti info text kv ∧ Kids W lo hi kids kv := by
  cases h with
  | mk _ _ _ _ _ _ _ _ _ kv cs c hc hr hg hl hk => exact ⟨kv, hc, cs, hr, hg, hl, hk⟩
/-- The block at a place of a list. -/
theorem Kids.tree {W : World} {lo hi : Nat} {kids : List Tr} {g cap : Nat} (h : Kids W lo hi kids (.slice (some ⟨g, 0, none⟩) kids.length cap)) {i : Nat} (hil : i < kids.length) :
    ∃ c : Ten, TreeAt W lo hi kids[i] c ∧ ∀ j, j < 10 → W.cell? ⟨g, i * 10 + j, none⟩ = c.1[j]? := by
  obtain ⟨cs, h1, h2, h3, h4⟩ := h
  refine ⟨cs[i]'(by omega), h4 i hil (by omega), fun j hj => ?_⟩
  have hr : W.ownsRow lo 26 10 (.slice (some ⟨g, 0, none⟩) cs.length cap) cs.length (flat10 cs) := by rw [← h3] at h1; exact h1
  rw [hr.cellAt _ (by omega), flat10_get cs _ (by omega)]
  have e1 : (i * 10 + j) / 10 = i := by omega
  have e2 : (i * 10 + j) % 10 = j := by omega
  rw [e1, e2, List.getElem?_eq_getElem (by omega)]; rfl
theorem dpL_get : ∀ (l : List Tr) (i : Nat) (h : i < l.length), dpT l[i] ≤ dpL l
  | d :: l, 0, _ => by rw [dpL]; exact Nat.le_max_left _ _
  | d :: l, i + 1, h => by
    have := dpL_get l i (by simpa using h)
    rw [dpL, List.getElem_cons_succ]; omega
theorem shL_get {k : Nat} : ∀ (l : List Tr) (i : Nat) (h : i < l.length), shL k l = true → hldB k (kindT l[i]) = true ∧ shT l[i] = true
  | d :: l, 0, _, e => by
    rw [shL, Bool.and_eq_true, Bool.and_eq_true] at e
    exact e.1
  | d :: l, i + 1, h, e => by
    rw [shL, Bool.and_eq_true] at e
    exact shL_get l i (by simpa using h) e.2
theorem dp_pos (t : Tr) : 0 < dpT t := by cases t; rw [dpT]; omega
theorem arrB_of {C : Array Value} {l : List Value} (h : C.toList = l) : C = l.toArray := by subst h; simp
set_option maxRecDepth 100000 in
set_option maxHeartbeats 4000000 in
theorem deepest_any : ∀ (f : Nat) (t : Tr) (W : World) (lo hi : Nat) (c : Ten) (C : Array Value), dpT t ≤ f → f ≤ 1000 → TreeAt W lo hi t c → C.toList = c.1 → hi ≤ W.heap.size →
    Calls Tryz.prog 10 #[.agg C] W fun e w' => e = .returned (.int .i64 (dpT t : Nat)) ∧ Keeps W w' := by
  intro f
  induction f with
  | zero => intro t W lo hi c C h; have := dp_pos t; omega
  | succ f ih =>
  intro t W lo hi c C hf hm hd hC hP
  cases t with
  | mk k l o st mk ti info text kids =>
  obtain ⟨kv, hc, hk⟩ := hd.form
  obtain ⟨A, cap, rfl, n1, n2, n3⟩ := hk.slice
  rw [hc] at hC
  have eC := arrB_of hC
  unfold blkT at eC
  subst eC
  clear hC hc hd
  rw [dpT] at hf
  obtain ⟨x6, hx6⟩ : ∃ x : ByteArray, (⟨info.toArray⟩ : ByteArray) = x := ⟨_, rfl⟩
  obtain ⟨x7, hx7⟩ : ∃ x : ByteArray, (⟨text.toArray⟩ : ByteArray) = x := ⟨_, rfl⟩
  rw [hx6, hx7]
  clear hx6 hx7
  have IH := Lib.hid ih
  have HK := Lib.hid hk
  have HP := Lib.hid hP
  have HN := Lib.hid n3
  have HM := Lib.hid (show dpL kids ≤ f ∧ f ≤ 1000 by omega)
  have HDE : Hid (dpT (.mk k l o st mk ti info text kids) = dpL kids + 1) := Lib.hid (by rw [dpT])
  have KA := Lib.hid ((Keeps.refl W).alloc (.cells #[.int .i64 k, .int .i64 l, .bool o, .int .i64 st, .int .u8 mk, .bool ti, .string x6, .string x7, .slice A kids.length cap, .slice none 0 0] 26))
  have BA := Lib.hid (Blk.new W 26 #[.int .i64 k, .int .i64 l, .bool o, .int .i64 st, .int .u8 mk, .bool ti, .string x6, .string x7, .slice A kids.length cap, .slice none 0 0])
  rw [HDE.out]
  clear ih hk hP n3 hf hm HDE
  simp only [List.toArray] at *
  unfold maxLen at n2
  have D0 : Hid (dpL (kids.take 0) = 0) := Lib.hid (by rw [List.take_zero, dpL])
  go_enter Tryz.func10, Tryz.ntmps10
  go_wp2_with fail
  generalize W.alloc (.cells #[.int .i64 k, .int .i64 l, .bool o, .int .i64 st, .int .u8 mk, .bool ti, .string x6, .string x7, .slice A kids.length cap, .slice none 0 0] 26) = w1 at *
  obtain ⟨bx, hbx⟩ : ∃ bx, W.heap.size = bx := ⟨_, rfl⟩
  rw [hbx] at BA ⊢
  clear hbx
  go_loopw [3, 4] (fun v i wr => ∃ (j D : Nat), j ≤ kids.length ∧ i = .int .i64 j ∧ v = .int .i64 D ∧ D ≤ 1000 ∧ Hid (dpL (kids.take j) = D) ∧ Hid (Keeps w1 wr)) (fun _ i _ => kids.length - (RowKit.intOf i).toNat)
  case atStart => exact ⟨0, 0, Nat.zero_le _, rfl, rfl, by omega, D0, Lib.hid (Keeps.refl _)⟩
  case round =>
    obtain ⟨j, D, hj, rfl, rfl, hD, HD, HW1⟩ := hrel
    have HW := Lib.hid (KA.out.trans HW1.out)
    have z8 := (BA.out.keep HW1.out).cell 8 (v := .slice A kids.length cap) rfl
    by_cases c1 : j < kids.length
    · obtain ⟨g, rfl⟩ := HN.out (by omega)
      have hkw := HK.out.keep HP.out HW.out
      obtain ⟨c', hd', hcell⟩ := hkw.tree c1
      have hjl := dpL_get kids j c1
      have HS : Hid (dpL (kids.take (j + 1)) = max D (dpT kids[j])) := Lib.hid (by
        rw [List.take_succ_eq_append_getElem c1, dpL_app, HD.out, dpL, dpL, Nat.max_zero])
      have CL := Lib.hid (fun W' (q : Keeps wr W') (C : Array Value) (hC : C.toList = c'.1) => IH.out kids[j] W' lo hi c' C (by have := HM.out.1; omega) HM.out.2 (hd'.keep (Nat.le_trans HP.out HW.out.size) q) hC (Nat.le_trans HP.out (Nat.le_trans HW.out.size q.size)))
      generalize hkj : kids[j] = dj at *
      obtain ⟨k', l', o', st', mk', ti', info', text', kids'⟩ := dj
      obtain ⟨kv', hc', hk'⟩ := hd'.form
      obtain ⟨A', cap', rfl, -, -, -⟩ := hk'.slice
      rw [hc'] at CL hcell
      unfold blkT at CL hcell
      have q0 : wr.cell? ⟨g, j * 10, none⟩ = some (.int .i64 k') := hcell 0 (by decide)
      have q1 : wr.cell? ⟨g, j * 10 + 1, none⟩ = some (.int .i64 l') := hcell 1 (by decide)
      have q2 : wr.cell? ⟨g, j * 10 + 2, none⟩ = some (.bool o') := hcell 2 (by decide)
      have q3 : wr.cell? ⟨g, j * 10 + 3, none⟩ = some (.int .i64 st') := hcell 3 (by decide)
      have q4 : wr.cell? ⟨g, j * 10 + 4, none⟩ = some (.int .u8 mk') := hcell 4 (by decide)
      have q5 : wr.cell? ⟨g, j * 10 + 5, none⟩ = some (.bool ti') := hcell 5 (by decide)
      have q6 := hcell 6 (by decide)
      have q7 := hcell 7 (by decide)
      have q8 : wr.cell? ⟨g, j * 10 + 8, none⟩ = some (.slice A' kids'.length cap') := hcell 8 (by decide)
      have q9 : wr.cell? ⟨g, j * 10 + 9, none⟩ = some (.slice none 0 0) := hcell 9 (by decide)
      simp only [List.getElem?_cons_succ, List.getElem?_cons_zero] at q6 q7
      obtain ⟨y6, hy6⟩ : ∃ x : ByteArray, (⟨info'.toArray⟩ : ByteArray) = x := ⟨_, rfl⟩
      obtain ⟨y7, hy7⟩ : ∃ x : ByteArray, (⟨text'.toArray⟩ : ByteArray) = x := ⟨_, rfl⟩
      rw [hy6] at q6 CL
      rw [hy7] at q7 CL
      obtain ⟨E, hE⟩ : ∃ E, dpT (.mk k' l' o' st' mk' ti' info' text' kids') = E := ⟨_, rfl⟩
      rw [hE] at CL HS hjl
      have CL2 := Lib.hid (CL.out (wr.alloc (.cells #[.int .i64 k', .int .i64 l', .bool o', .int .i64 st', .int .u8 mk', .bool ti', .string y6, .string y7, .slice A' kids'.length cap', .slice none 0 0] 26)) ((Keeps.refl wr).alloc _) #[.int .i64 k', .int .i64 l', .bool o', .int .i64 st', .int .u8 mk', .bool ti', .string y6, .string y7, .slice A' kids'.length cap', .slice none 0 0] rfl)
      have KW := Lib.hid (HW1.out.alloc (.cells #[.int .i64 k', .int .i64 l', .bool o', .int .i64 st', .int .u8 mk', .bool ti', .string y6, .string y7, .slice A' kids'.length cap', .slice none 0 0] 26))
      have CL3 := Lib.hid (CL.out wr (Keeps.refl wr) #[.int .i64 k', .int .i64 l', .bool o', .int .i64 st', .int .u8 mk', .bool ti', .string y6, .string y7, .slice A' kids'.length cap', .slice none 0 0] rfl)
      have hE2 : E ≤ 1000 := by have := HM.out; omega
      have hjj : (j : Int) < (kids.length : Int) := by omega
      clear hkw hcell hd' hc' hk' CL hjl hE hy6 hy7 hkj HD
      go_wp2_with fail
      first
        | (with_reducible refine CL3.out.mono ?_
           rintro e w2 ⟨rfl, k2⟩
           have K2 := Lib.hid (HW1.out.trans k2)
           clear CL2 CL3 k2 q0 q1 q2 q3 q4 q5 q6 q7 q8 q9
           go_wp2_with fail
           go_roundw
           case rel => exact ⟨j + 1, max D E, by omega, by go_num, congrArg (Value.int .i64) (by omega), by omega, HS, K2⟩
           case measure => simp [RowKit.intOf]; omega)
        | (with_reducible refine CL2.out.mono ?_
           rintro e w2 ⟨rfl, k2⟩
           have K2 := Lib.hid (KW.out.trans k2)
           clear CL2 CL3 k2 q0 q1 q2 q3 q4 q5 q6 q7 q8 q9
           go_wp2_with fail
           go_roundw
           case rel => exact ⟨j + 1, max D E, by omega, by go_num, congrArg (Value.int .i64) (by omega), by omega, HS, K2⟩
           case measure => simp [RowKit.intOf]; omega)
    · have ej : j = kids.length := by omega
      have HE2 : Hid (dpL kids = D) := Lib.hid (by have := HD.out; rw [ej, List.take_length] at this; exact this)
      have hjj : ¬ (j : Int) < (kids.length : Int) := by omega
      have KR := HW.out
      clear HK HM HN HD D0
      go_wp2_with fail
      go_ret
      exact ⟨congrArg (fun x : Int => Ending.returned (.int .i64 x)) (by have := HE2.out; omega), KR⟩
theorem hld_facts {a b : Nat} (h : hldB a b = true) : (a = 1 ∨ a = 2 ∨ a = 4) ∧ b ≠ 4 ∧ b ≠ 1 ∨ a = 3 ∧ b = 4 := by
  unfold hldB at h
  split at h
  · next q =>
    simp only [Bool.and_eq_true, Bool.not_eq_true', decide_eq_false_iff_not] at h
    exact .inl ⟨q, h⟩
  · split at h
    · next q => exact .inr ⟨q, by simpa using h⟩
    · cases h
set_option maxRecDepth 100000 in
set_option maxHeartbeats 2000000 in
theorem lawHolds_any (a b : Nat) (w : World) (h : hldB a b = true) :
    Calls Tryz.prog 23 #[.int .i64 (a : Nat), .int .i64 (b : Nat)] w fun e w' => e = .returned (.bool true) ∧ w = w' := by
  rcases hld_facts h with ⟨q, h4, h1⟩ | ⟨rfl, rfl⟩
  · have t4 : ((b : Int) != 4) = true := by rw [bne_iff_ne]; omega
    have t1 : ((b : Int) != 1) = true := by rw [bne_iff_ne]; omega
    clear h h4 h1
    rcases q with rfl | rfl | rfl
    all_goals
      go_enter Tryz.func23, Tryz.ntmps23
      go_wp2_with fail
      go_ret
      exact ⟨rfl, rfl⟩
  · clear h
    go_enter Tryz.func23, Tryz.ntmps23
    go_wp2_with fail
    go_ret
    exact ⟨rfl, rfl⟩
theorem own_facts {k l : Nat} {t : List UInt8} {n : Nat} (h : ownB k l t n = true) : (k = 6 ∧ 1 ≤ l ∧ l ≤ 6) ∨ (k = 5 ∧ t ≠ []) ∨ (k = 3 ∧ 0 < n) ∨ (k ≠ 6 ∧ k ≠ 5 ∧ k ≠ 3) := by
  unfold ownB at h
  by_cases k6 : k = 6
  · left
    subst k6
    simp at h
    omega
  · by_cases k5 : k = 5
    · right; left
      subst k5
      simp at h
      exact ⟨rfl, h⟩
    · by_cases k3 : k = 3
      · right; right; left
        subst k3
        simp at h
        omega
      · exact .inr (.inr (.inr ⟨k6, k5, k3⟩))
end Go.Proofs.YtfgpephpkibbaaaGreatDoor

/-
  Contract of the law's shaped.
-/
namespace Go.Proofs.YtfgpephpkibbaaaGreatDoor
open Go.RowKit Go.Lib Go.Maps

/-- A whole struct is loaded: the same in each world of the class. -/
theorem class_load {P : Program} {ops : Array Oper} {S : World → Prop} {Q : Act → Prop} {a : Act} {o : Oper} {rest : List Oper} (ty : TypeId) (x : Operand) (ho : o.op = .load ty x) (hw : Region.wanted o (yielded ops a.tmps) = true) (p v : Value) (hx : a.eval x = p)
    (hl : ∀ y : InS S, (Instr.loadAt ty p).run P y.w = .ok v y.w) (h : wpQuiet P ops (fun w' => ∃ y : InS S, w' = y.w) Q rest (a.put o.dst v)) : wpQuiet P ops (fun w' => ∃ y : InS S, w' = y.w) Q (o :: rest) a :=
  BigFrame.wpQuiet_want hw fun _ hK => ⟨v, fun w hw' => by
    obtain ⟨y, rfl⟩ := hw'
    unfold Oper.quietAt execOp
    simp only [ho, hx, Sem.run_bind, Sem.run_pure, hl y, Result.andThen_ok]
    exact ⟨rfl, rfl⟩, hK _ h⟩
set_option maxRecDepth 100000 in
set_option maxHeartbeats 16000000 in
theorem shaped_any : ∀ (f : Nat) (t : Tr) (W : World) (lo hi : Nat) (c : Ten) (C : Array Value), dpT t ≤ f → shT t = true → TreeAt W lo hi t c → C.toList = c.1 → hi ≤ W.heap.size →
    Calls Tryz.prog 9 #[.agg C] W fun e w' => e = .returned (.bool true) ∧ Keeps W w' := by
  intro f
  induction f with
  | zero => intro t W lo hi c C h; have := dp_pos t; omega
  | succ f ih =>
  intro t W lo hi c C hf hsh hd hC hP
  cases t with
  | mk k l o st mk ti info text kids =>
  obtain ⟨kv, hc, hk⟩ := hd.form
  obtain ⟨A, cap, rfl, n1, n2, n3⟩ := hk.slice
  rw [hc] at hC
  have eC := arrB_of hC
  unfold blkT at eC
  subst eC
  clear hC hc hd
  rw [dpT] at hf
  rw [shT, Bool.and_eq_true] at hsh
  have hown := own_facts hsh.1
  have HSL := Lib.hid hsh.2
  obtain ⟨x6, hx6⟩ : ∃ x : ByteArray, (⟨info.toArray⟩ : ByteArray) = x := ⟨_, rfl⟩
  obtain ⟨x7, hx7⟩ : ∃ x : ByteArray, (⟨text.toArray⟩ : ByteArray) = x := ⟨_, rfl⟩
  have h7 : text ≠ [] → 0 < x7.size := fun h => by
    rw [← hx7]
    cases text with
    | nil => exact absurd rfl h
    | cons a b => show 0 < (a :: b).toArray.size; simp
  rw [hx6, hx7]
  clear hx6 hx7 hsh
  have IH := Lib.hid ih
  have HK := Lib.hid hk
  have HP := Lib.hid hP
  have HN := Lib.hid n3
  have HM := Lib.hid (show dpL kids ≤ f by omega)
  have KA := Lib.hid ((Keeps.refl W).alloc (.cells #[.int .i64 k, .int .i64 l, .bool o, .int .i64 st, .int .u8 mk, .bool ti, .string x6, .string x7, .slice A kids.length cap, .slice none 0 0] 26))
  have BA := Lib.hid (Blk.new W 26 #[.int .i64 k, .int .i64 l, .bool o, .int .i64 st, .int .u8 mk, .bool ti, .string x6, .string x7, .slice A kids.length cap, .slice none 0 0])
  have hown2 : (k = 6 ∧ 1 ≤ l ∧ l ≤ 6) ∨ (k = 5 ∧ 0 < x7.size) ∨ (k = 3 ∧ 0 < kids.length) ∨ (k ≠ 6 ∧ k ≠ 5 ∧ k ≠ 3) := by
    rcases hown with q | ⟨q, q2⟩ | q | q
    · exact .inl q
    · exact .inr (.inl ⟨q, h7 q2⟩)
    · exact .inr (.inr (.inl q))
    · exact .inr (.inr (.inr q))
  clear ih hk hP n3 hf hown h7
  simp only [List.toArray] at *
  unfold maxLen at n2
  have hc4 : (((k : Int) == 6) = true ∧ ((k : Int) == 5) = false ∧ ((k : Int) == 3) = false ∧ ¬ (l : Int) < 1 ∧ ¬ (6 : Int) < (l : Int)) ∨ (((k : Int) == 6) = false ∧ ((k : Int) == 5) = true ∧ ((k : Int) == 3) = false ∧ x7.toList.isEmpty = false ∧ ¬ x7.toList = []) ∨ (((k : Int) == 6) = false ∧ ((k : Int) == 5) = false ∧ ((k : Int) == 3) = true ∧ ((kids.length : Int) == 0) = false) ∨ (((k : Int) == 6) = false ∧ ((k : Int) == 5) = false ∧ ((k : Int) == 3) = false) := by
    rcases hown2 with ⟨hkk, l1, l6⟩ | ⟨hkk, hx⟩ | ⟨hkk, hl0⟩ | ⟨k6, k5, k3⟩
    · exact .inl ⟨by rw [hkk]; rfl, by rw [hkk]; rfl, by rw [hkk]; rfl, by omega, by omega⟩
    · exact .inr (.inl ⟨by rw [hkk]; rfl, by rw [hkk]; rfl, by rw [hkk]; rfl, tl_empty hx, tl_ne hx⟩)
    · exact .inr (.inr (.inl ⟨by rw [hkk]; rfl, by rw [hkk]; rfl, by rw [hkk]; rfl, beq_eq_false_iff_ne.2 (by omega)⟩))
    · exact .inr (.inr (.inr ⟨beq_eq_false_iff_ne.2 (by omega), beq_eq_false_iff_ne.2 (by omega), beq_eq_false_iff_ne.2 (by omega)⟩))
  clear hown2
  rcases hc4 with ⟨e6, e5, e3, a1, a2⟩ | ⟨e6, e5, e3, a1, a2⟩ | ⟨e6, e5, e3, a1⟩ | ⟨e6, e5, e3⟩
  all_goals
    go_enter Tryz.func9, Tryz.ntmps9
    go_wp2_with fail
    generalize W.alloc (.cells #[.int .i64 k, .int .i64 l, .bool o, .int .i64 st, .int .u8 mk, .bool ti, .string x6, .string x7, .slice A kids.length cap, .slice none 0 0] 26) = w1 at *
    obtain ⟨bx, hbx⟩ : ∃ bx, W.heap.size = bx := ⟨_, rfl⟩
    rw [hbx] at BA ⊢
    have HP2 : Hid (hi ≤ W.heap.size) := HP
    clear hbx
    go_loopw [3] (fun i wr => ∃ j : Nat, j ≤ kids.length ∧ i = .int .i64 j ∧ Hid (Keeps w1 wr)) (fun i _ => kids.length - (RowKit.intOf i).toNat)
    case atStart => exact ⟨0, Nat.zero_le _, rfl, Lib.hid (Keeps.refl _)⟩
    case round =>
      obtain ⟨j, hj, rfl, HW⟩ := hrel
      clear e6 e5 e3
      have KW := Lib.hid (KA.out.trans HW.out)
      have BW := BA.out.keep HW.out
      have z0 : wr.cell? ⟨bx, 0, none⟩ = some (.int .i64 k) := BW.cell 0 rfl
      have z8 := BW.cell 8 (v := .slice A kids.length cap) rfl
      clear BW
      by_cases c1 : j < kids.length
      · obtain ⟨g, rfl⟩ := HN.out (by omega)
        have hkw := HK.out.keep HP.out KW.out
        obtain ⟨c', hd', hcell⟩ := hkw.tree c1
        obtain ⟨hh, hs'⟩ := shL_get kids j c1 HSL.out
        have hjl := dpL_get kids j c1
        have CL := Lib.hid (fun W' (q : Keeps wr W') (C : Array Value) (hC : C.toList = c'.1) => IH.out kids[j] W' lo hi c' C (by have := HM.out; omega) hs' (hd'.keep (Nat.le_trans HP.out KW.out.size) q) hC (Nat.le_trans HP.out (Nat.le_trans KW.out.size q.size)))
        generalize hkj : kids[j] = dj at *
        obtain ⟨k', l', o', st', mk', ti', info', text', kids'⟩ := dj
        obtain ⟨kv', hc', hk'⟩ := hd'.form
        obtain ⟨A', cap', rfl, -, -, -⟩ := hk'.slice
        rw [hc'] at CL hcell
        unfold blkT at CL hcell
        have HO := Lib.hid (fun w => lawHolds_any k k' w hh)
        have q0 : wr.cell? ⟨g, j * 10, none⟩ = some (.int .i64 k') := hcell 0 (by decide)
        have q1 : wr.cell? ⟨g, j * 10 + 1, none⟩ = some (.int .i64 l') := hcell 1 (by decide)
        have q2 : wr.cell? ⟨g, j * 10 + 2, none⟩ = some (.bool o') := hcell 2 (by decide)
        have q3 : wr.cell? ⟨g, j * 10 + 3, none⟩ = some (.int .i64 st') := hcell 3 (by decide)
        have q4 : wr.cell? ⟨g, j * 10 + 4, none⟩ = some (.int .u8 mk') := hcell 4 (by decide)
        have q5 : wr.cell? ⟨g, j * 10 + 5, none⟩ = some (.bool ti') := hcell 5 (by decide)
        have q8 : wr.cell? ⟨g, j * 10 + 8, none⟩ = some (.slice A' kids'.length cap') := hcell 8 (by decide)
        have q9 : wr.cell? ⟨g, j * 10 + 9, none⟩ = some (.slice none 0 0) := hcell 9 (by decide)
        have q6 := hcell 6 (by decide)
        have q7 := hcell 7 (by decide)
        simp only [List.getElem?_cons_succ, List.getElem?_cons_zero] at q6 q7
        obtain ⟨y6, hy6⟩ : ∃ x : ByteArray, (⟨info'.toArray⟩ : ByteArray) = x := ⟨_, rfl⟩
        obtain ⟨y7, hy7⟩ : ∃ x : ByteArray, (⟨text'.toArray⟩ : ByteArray) = x := ⟨_, rfl⟩
        rw [hy6] at q6 CL
        rw [hy7] at q7 CL
        have hjj : (j : Int) < (kids.length : Int) := by omega
        obtain ⟨L, hL⟩ : ∃ L : List (Addr × Value), L = [(⟨bx, 0, none⟩, .int .i64 k), (⟨bx, 8, none⟩, .slice (some ⟨g, 0, none⟩) kids.length cap), (⟨g, j * 10, none⟩, (.int .i64 k')), (⟨g, j * 10 + 1, none⟩, (.int .i64 l')), (⟨g, j * 10 + 2, none⟩, (.bool o')), (⟨g, j * 10 + 3, none⟩, (.int .i64 st')), (⟨g, j * 10 + 4, none⟩, (.int .u8 mk')), (⟨g, j * 10 + 5, none⟩, (.bool ti')), (⟨g, j * 10 + 6, none⟩, (.string y6)), (⟨g, j * 10 + 7, none⟩, (.string y7)), (⟨g, j * 10 + 8, none⟩, (.slice A' kids'.length cap')), (⟨g, j * 10 + 9, none⟩, (.slice none 0 0))] := ⟨_, rfl⟩
        have C0 : ∀ q ∈ L, wr.cell? q.1 = some q.2 := by rw [hL]; exact cells_cons z0 (cells_cons z8 (cells_cons q0 (cells_cons q1 (cells_cons q2 (cells_cons q3 (cells_cons q4 (cells_cons q5 (cells_cons q6 (cells_cons q7 (cells_cons q8 (cells_cons q9 (cells_nil _))))))))))))
        have NE : Nonempty (InS (CellsK L wr)) := ⟨⟨_, CellsK.start C0⟩⟩
        have Gz0 : ∀ x : InS (CellsK L wr), x.w.cell? ⟨bx, 0, none⟩ = some (.int .i64 k) := fun x => x.ok.cells (_, _) (by rw [hL]; simp)
        have Gz8 : ∀ x : InS (CellsK L wr), x.w.cell? ⟨bx, 8, none⟩ = some (.slice (some ⟨g, 0, none⟩) kids.length cap) := fun x => x.ok.cells (_, _) (by rw [hL]; simp)
        have Gq0 : ∀ x : InS (CellsK L wr), x.w.cell? ⟨g, j * 10, none⟩ = some (.int .i64 k') := fun x => x.ok.cells (_, _) (by rw [hL]; simp)
        have Gq1 : ∀ x : InS (CellsK L wr), x.w.cell? ⟨g, j * 10 + 1, none⟩ = some (.int .i64 l') := fun x => x.ok.cells (_, _) (by rw [hL]; simp)
        have Gq2 : ∀ x : InS (CellsK L wr), x.w.cell? ⟨g, j * 10 + 2, none⟩ = some (.bool o') := fun x => x.ok.cells (_, _) (by rw [hL]; simp)
        have Gq3 : ∀ x : InS (CellsK L wr), x.w.cell? ⟨g, j * 10 + 3, none⟩ = some (.int .i64 st') := fun x => x.ok.cells (_, _) (by rw [hL]; simp)
        have Gq4 : ∀ x : InS (CellsK L wr), x.w.cell? ⟨g, j * 10 + 4, none⟩ = some (.int .u8 mk') := fun x => x.ok.cells (_, _) (by rw [hL]; simp)
        have Gq5 : ∀ x : InS (CellsK L wr), x.w.cell? ⟨g, j * 10 + 5, none⟩ = some (.bool ti') := fun x => x.ok.cells (_, _) (by rw [hL]; simp)
        have Gq6 : ∀ x : InS (CellsK L wr), x.w.cell? ⟨g, j * 10 + 6, none⟩ = some (.string y6) := fun x => x.ok.cells (_, _) (by rw [hL]; simp)
        have Gq7 : ∀ x : InS (CellsK L wr), x.w.cell? ⟨g, j * 10 + 7, none⟩ = some (.string y7) := fun x => x.ok.cells (_, _) (by rw [hL]; simp)
        have Gq8 : ∀ x : InS (CellsK L wr), x.w.cell? ⟨g, j * 10 + 8, none⟩ = some (.slice A' kids'.length cap') := fun x => x.ok.cells (_, _) (by rw [hL]; simp)
        have Gq9 : ∀ x : InS (CellsK L wr), x.w.cell? ⟨g, j * 10 + 9, none⟩ = some (.slice none 0 0) := fun x => x.ok.cells (_, _) (by rw [hL]; simp)
        have SHC : Hid (∀ x : InS (CellsK L wr), Calls Tryz.prog 9 #[.agg #[.int .i64 k', .int .i64 l', .bool o', .int .i64 st', .int .u8 mk', .bool ti', .string y6, .string y7, .slice A' kids'.length cap', .slice none 0 0]] x.w fun e w' => e = .returned (.bool true) ∧ Keeps x.w w') := Lib.hid (fun x => CL.out x.w x.ok.since _ rfl)
        have HLC : Hid (∀ x : InS (CellsK L wr), Calls Tryz.prog 23 #[.int .i64 (k : Nat), .int .i64 (k' : Nat)] x.w fun e w' => e = .returned (.bool true) ∧ x.w = w') := Lib.hid (fun x => HO.out x.w)
        have LDC : ∀ x : InS (CellsK L wr), (Instr.loadAt 26 (.pointer (some ⟨g, j * 10, none⟩))).run Tryz.prog x.w = .ok (.agg #[.int .i64 k', .int .i64 l', .bool o', .int .i64 st', .int .u8 mk', .bool ti', .string y6, .string y7, .slice A' kids'.length cap', .slice none 0 0]) x.w := fun x => run_loadAt_mid x.w g (j * 10) 26 #[.int .i64 k', .int .i64 l', .bool o', .int .i64 st', .int .u8 mk', .bool ti', .string y6, .string y7, .slice A' kids'.length cap', .slice none 0 0].toList _ (by
          intro i v hv
          have hi : i < 10 := (List.getElem?_eq_some_iff.1 hv).1
          match i, hi, hv with
          | 0, _, hv => exact (Gq0 x).trans hv
          | 1, _, hv => exact (Gq1 x).trans hv
          | 2, _, hv => exact (Gq2 x).trans hv
          | 3, _, hv => exact (Gq3 x).trans hv
          | 4, _, hv => exact (Gq4 x).trans hv
          | 5, _, hv => exact (Gq5 x).trans hv
          | 6, _, hv => exact (Gq6 x).trans hv
          | 7, _, hv => exact (Gq7 x).trans hv
          | 8, _, hv => exact (Gq8 x).trans hv
          | 9, _, hv => exact (Gq9 x).trans hv
          | n + 10, h, _ => omega) Tryz.underlying26 rfl rfl
        clear hkw hcell hd' hc' hk' CL hjl hy6 hy7 hkj hL HO hh hs'
        go_wp2_with fail
        clear z0 z8 q0 q1 q2 q3 q4 q5 q6 q7 q8 q9
        refine wp_region_class (CellsK L wr) (by kernel_rfl) (by kernel_rfl) (CellsK.start C0) ?_
        clear Gq1 Gq2 Gq3 Gq4 Gq5 Gq6 Gq7 Gq8 Gq9
        iterate 15 (go_big_quiet_step ((go_at_call 23; exact class_same (HLC.out _))))
        refine class_load 26 _ rfl rfl _ _ rfl LDC ?_
        simp only [Act.put, List.setIfInBounds_toArray, List.set_cons_zero, List.set_cons_succ]
        repeat (go_big_quiet_step ((go_at_call 9; exact class_call (fun _ h k => h.keep k) (SHC.out _))))
        refine wpQuiet_nil ?_
        rintro w5 ⟨⟨w6, h6⟩, rfl⟩
        have K6 := Lib.hid (HW.out.trans h6.since)
        clear NE Gz0 Gz8 Gq0 C0 h6 SHC HLC LDC
        go_wp2_with fail
        go_roundw
        case rel => exact ⟨j + 1, by omega, by go_num, K6⟩
        case measure => simp [RowKit.intOf]; omega
      · have hjj : ¬ (j : Int) < (kids.length : Int) := by omega
        have KR := KW.out
        clear HK HM HN HSL
        go_wp2_with fail
        go_ret
        exact ⟨rfl, KR⟩
end Go.Proofs.YtfgpephpkibbaaaGreatDoor

/-
  Lists of texts' bytes, one by one. No program in sight.
-/
namespace Go.Proofs.YtfgpephpkibbaaaGreatDoor
open Go.RowKit Go.Lib

/-- The lists of the texts' bytes. -/
def lsB (xs : List ByteArray) : List (List UInt8) := xs.map fun x => x.data.toList
theorem lsB_take {xs : List ByteArray} {k : Nat} (h : k < xs.length) : lsB (xs.take (k + 1)) = lsB (xs.take k) ++ [(xs.getD k ⟨#[]⟩).data.toList] := by
  unfold lsB
  rw [List.take_succ_eq_append_getElem h, List.map_append, List.getD_eq_getElem?_getD, List.getElem?_eq_getElem h]; rfl
theorem lsB_get {xs : List ByteArray} {m : Nat} (h : m < xs.length) (h' : m < (lsB xs).length) : (lsB xs)[m] = (xs.getD m ⟨#[]⟩).data.toList := by
  simp [lsB, List.getD_eq_getElem?_getD, List.getElem?_eq_getElem h]
theorem aL_snoc (ws : List (List UInt8)) (w : List UInt8) : aL (ws ++ [w]) = aL ws ++ w ++ [10] := by unfold aL; simp
theorem bL_snoc (ws : List (List UInt8)) (w : List UInt8) : bL (ws ++ [w]) = bL ws ++ w ++ [10, 10] := by unfold bL; simp
end Go.Proofs.YtfgpephpkibbaaaGreatDoor

/-
  Contracts of the law's lines and plain.
-/
namespace Go.Proofs.YtfgpephpkibbaaaGreatDoor
open Go.RowKit Go.Lib

/-- Lines as the laws want them: few, short, without LFs and tabs. -/
structure Lns (xs : List ByteArray) : Prop where
  pos : 0 < xs.length
  few : xs.length ≤ 41
  size : (xs.map ByteArray.size).sum ≤ 1000
  ok : ∀ x ∈ xs, ∀ b ∈ x.data.toList, b ≠ 10 ∧ b ≠ 9
/-- What lines answers. -/
def LnR (w : World) (xs : List ByteArray) (e : Ending) (w' : World) : Prop := ∃ r, e = .returned (.bool r) ∧ w = w' ∧ (r = true → Lns xs)
theorem LnR.of {w : World} {xs : List ByteArray} {r : Bool} (h : r = true → Lns xs) : LnR w xs (.returned (.bool r)) w := ⟨r, rfl, rfl, h⟩
theorem take_one {α : Type} {xs : List α} {k : Nat} {d : α} (h : k < xs.length) : xs.take (k + 1) = xs.take k ++ [xs.getD k d] := by
  rw [List.take_succ_eq_append_getElem h, List.getD_eq_getElem?_getD, List.getElem?_eq_getElem h]; rfl
theorem aL_size : ∀ xs : List ByteArray, (aL (lsB xs)).length = (xs.map ByteArray.size).sum + xs.length
  | [] => rfl
  | x :: xs => by
    have ih := aL_size xs
    show (aL (x.data.toList :: lsB xs)).length = _
    rw [aL_cons, List.length_append, List.length_cons, ih, bytes_len, List.map_cons, List.sum_cons, List.length_cons]; omega
theorem sum_take_le : ∀ (xs : List ByteArray) (k : Nat), ((xs.take k).map ByteArray.size).sum ≤ (xs.map ByteArray.size).sum
  | [], k => by rw [List.take_nil]; exact Nat.le_refl _
  | x :: xs, 0 => Nat.zero_le _
  | x :: xs, k + 1 => by
    have := sum_take_le xs k
    rw [List.take_succ_cons, List.map_cons, List.map_cons, List.sum_cons, List.sum_cons]; omega
set_option maxRecDepth 100000 in
set_option maxHeartbeats 4000000 in
theorem lines_some (xs : List ByteArray) (b off n c : Nat) (w : World) (hn : xs.length = n) (h1 : 0 < n) (hm : n ≤ maxLen) (hs : ∀ x ∈ xs, x.size ≤ maxLen) (hc : ∀ k, k < n → w.cell? ⟨b, off + k, none⟩ = some (.string (xs.getD k ⟨#[]⟩))) :
    Calls Tryz.prog 11 #[.slice (some ⟨b, off, none⟩) n c] w fun e w' => LnR w xs e w' := by
  unfold maxLen at hm
  have HC := Lib.hid hc
  have HZ := Lib.hid hs
  have HL := Lib.hid hn
  clear hc hs hn
  go_enter Tryz.func11, Tryz.ntmps11
  go_wp2_with fail
  go_loop [3, 4] (fun v i => ∃ k s : Nat, k ≤ n ∧ k ≤ 41 ∧ i = .int .i64 k ∧ v = .int .i64 s ∧ s ≤ 1000 ∧ Hid (s = ((xs.take k).map ByteArray.size).sum) ∧ Hid (∀ x ∈ xs.take k, ∀ b ∈ x.data.toList, b ≠ 10 ∧ b ≠ 9)) (fun _ i => n - (RowKit.intOf i).toNat)
  case atStart => exact ⟨0, 0, Nat.zero_le _, by decide, rfl, rfl, by decide, Lib.hid rfl, Lib.hid (fun x hx => by cases hx)⟩
  case round =>
    obtain ⟨k, s, hk, hk41, rfl, rfl, hs, HS, HK⟩ := hrel
    by_cases c0 : k < n
    · have cx := HC.out k c0
      have hkl : k < xs.length := by rw [HL.out]; exact c0
      have HT := Lib.hid (take_one (d := (⟨#[]⟩ : ByteArray)) hkl)
      have zx := HZ.out (xs.getD k ⟨#[]⟩) (by rw [List.getD_eq_getElem?_getD, List.getElem?_eq_getElem hkl]; exact List.getElem_mem _)
      clear hkl
      obtain ⟨x, hx⟩ : ∃ x, xs.getD k ⟨#[]⟩ = x := ⟨_, rfl⟩
      rw [hx] at cx HT zx
      unfold maxLen at zx
      clear hx
      have ckn : (k : Int) < (n : Int) := by omega
      by_cases c1 : 1000 < s + x.size
      · have t1 : (1000 : Int) - (s : Int) < (x.size : Int) := by omega
        clear HS HK HT
        go_wp2_with fail
        go_ret
        exact LnR.of fun q => by cases q
      · have t1 : ¬ (1000 : Int) - (s : Int) < (x.size : Int) := by omega
        by_cases c2 : 40 < k
        · have t2 : (40 : Int) < (k : Int) := by omega
          clear HS HK HT
          go_wp2_with fail
          go_ret
          exact LnR.of fun q => by cases q
        · have t2 : ¬ (40 : Int) < (k : Int) := by omega
          have HS2 : Hid (s + x.size = ((xs.take (k + 1)).map ByteArray.size).sum) := Lib.hid (by rw [HT.out, List.map_append, List.sum_append, ← HS.out]; simp)
          clear HS
          go_wp2_with fail
          go_loop [5] (fun j => ∃ q : Nat, q ≤ x.size ∧ j = .int .i64 q ∧ Hid (∀ b ∈ x.data.toList.take q, b ≠ 10 ∧ b ≠ 9)) (fun j => x.size - (RowKit.intOf j).toNat)
          case atStart => exact ⟨0, Nat.zero_le _, rfl, Lib.hid (fun b hb => by cases hb)⟩
          case round =>
            obtain ⟨q, hq, rfl, HQ⟩ := hrel
            by_cases cq : q < x.size
            · by_cases d1 : x[q].toNat = 10
              · have t3 : ((x[q].toNat : Int) == 10) = true := by rw [d1]; rfl
                clear HQ HK HT HS2 d1
                go_wp2_with fail
                go_ret
                exact LnR.of fun q => by cases q
              · have t3 : ((x[q].toNat : Int) == 10) = false := beq_eq_false_iff_ne.2 (by omega)
                by_cases d2 : x[q].toNat = 9
                · have t4 : ((x[q].toNat : Int) == 9) = true := by rw [d2]; rfl
                  clear HQ HK HT HS2 d1 d2
                  go_wp2_with fail
                  go_ret
                  exact LnR.of fun q => by cases q
                · have t4 : ((x[q].toNat : Int) == 9) = false := beq_eq_false_iff_ne.2 (by omega)
                  have HQ2 : Hid (∀ b ∈ x.data.toList.take (q + 1), b ≠ 10 ∧ b ≠ 9) := Lib.hid (by
                    rw [take_next x q cq]
                    intro b hb
                    rcases List.mem_append.1 hb with p | p
                    · exact HQ.out b p
                    · rw [List.mem_singleton.1 p]
                      exact ⟨fun e => d1 (by rw [e]; rfl), fun e => d2 (by rw [e]; rfl)⟩)
                  clear HQ d1 d2
                  go_wp2_with fail
                  go_round
                  case rel => exact ⟨q + 1, cq, by go_num, HQ2⟩
                  case measure => simp [RowKit.intOf]; omega
            · have HK2 : Hid (∀ y ∈ xs.take (k + 1), ∀ b ∈ y.data.toList, b ≠ 10 ∧ b ≠ 9) := Lib.hid (by
                rw [HT.out]
                intro y hy
                rcases List.mem_append.1 hy with p | p
                · exact HK.out y p
                · rw [List.mem_singleton.1 p]
                  have := HQ.out
                  rw [List.take_of_length_le (by rw [bytes_len]; omega)] at this
                  exact this)
              clear HQ HK HT
              go_wp2_with fail
              go_round
              case rel => exact ⟨k + 1, s + x.size, by omega, by omega, by go_num, by go_num, by omega, HS2, HK2⟩
              case measure => simp [RowKit.intOf]; omega
    · have hkn : k = n := by omega
      subst hkn
      have HX : Hid (Lns xs) := Lib.hid (by
        have hx : xs.take k = xs := List.take_of_length_le (by rw [HL.out]; exact Nat.le_refl _)
        have a1 := HS.out
        have a2 := HK.out
        rw [hx] at a1 a2
        exact ⟨by rw [HL.out]; exact h1, by rw [HL.out]; exact hk41, by rw [← a1]; exact hs, a2⟩)
      have t5 : (0 : Int) < (k : Int) := by omega
      clear HS HK
      go_wp2_with fail
      go_ret
      exact LnR.of fun _ => HX.out
set_option maxRecDepth 100000 in
set_option maxHeartbeats 4000000 in
theorem lplain_any (xs : List ByteArray) (b off n c : Nat) (w : World) (H : Lns xs) (hn : xs.length = n) (hc : ∀ k, k < n → w.cell? ⟨b, off + k, none⟩ = some (.string (xs.getD k ⟨#[]⟩))) :
    Calls Tryz.prog 12 #[.slice (some ⟨b, off, none⟩) n c] w fun e w' => ∃ P : ByteArray, e = .returned (.string P) ∧ w = w' ∧ P.data.toList = aL (lsB xs) ∧ P.size ≤ 1041 := by
  have HC := Lib.hid hc
  have HL := Lib.hid hn
  have HH := Lib.hid H
  have h41 : n ≤ 41 := by rw [← hn]; exact H.few
  clear hc hn H
  go_enter Tryz.func12, Tryz.ntmps12
  go_wp2_with fail
  go_loop [3, 4] (fun v i => ∃ (k : Nat) (A : ByteArray), k ≤ n ∧ i = .int .i64 k ∧ v = .string A ∧ A.size ≤ 1000 + k ∧ Hid (A.data.toList = aL (lsB (xs.take k)))) (fun _ i => n - (RowKit.intOf i).toNat)
  case atStart => exact ⟨0, ⟨#[]⟩, Nat.zero_le _, rfl, rfl, by decide, Lib.hid rfl⟩
  case round =>
    obtain ⟨k, A, hk, rfl, rfl, hA, HA⟩ := hrel
    by_cases c0 : k < n
    · have cx := HC.out k c0
      have hkl : k < xs.length := by rw [HL.out]; exact c0
      have HT := Lib.hid (lsB_take hkl)
      have hsz := aL_size (xs.take (k + 1))
      have hle := sum_take_le xs (k + 1)
      have h1000 := HH.out.size
      rw [HT.out, aL_snoc, ← HA.out, List.length_append, List.length_append, bytes_len, bytes_len] at hsz
      rw [List.length_take, Nat.min_eq_left (by omega)] at hsz
      clear hkl
      obtain ⟨x, hx⟩ : ∃ x, xs.getD k ⟨#[]⟩ = x := ⟨_, rfl⟩
      rw [hx] at cx HT hsz
      clear hx
      have ckn : (k : Int) < (n : Int) := by omega
      have l1 : ([10] : List UInt8).length = 1 := rfl
      have hx1 : A.size + x.size + 1 ≤ 1000 + (k + 1) := by omega
      obtain ⟨A', hA'⟩ : ∃ A', A ++ x ++ (⟨#[10]⟩ : ByteArray) = A' := ⟨_, rfl⟩
      have z1 : (⟨#[10]⟩ : ByteArray).size = 1 := rfl
      have y1 : A'.size ≤ 1000 + (k + 1) := by rw [← hA', ByteArray.size_append, ByteArray.size_append]; omega
      have NA : Hid (A'.data.toList = aL (lsB (xs.take (k + 1)))) := Lib.hid (by rw [← hA', bytes_app, bytes_app, HA.out, HT.out, aL_snoc])
      clear HA HT hsz hle h1000 l1
      go_wp2_with fail
      go_round
      case rel => exact ⟨k + 1, A', by omega, by go_num, rfl, y1, NA⟩
      case measure => simp [RowKit.intOf]; omega
    · have hkn : k = n := by omega
      subst hkn
      have HX : Hid (A.data.toList = aL (lsB xs)) := Lib.hid (by
        have := HA.out
        rw [List.take_of_length_le (by rw [HL.out]; exact Nat.le_refl _)] at this
        exact this)
      clear HA
      go_wp2_with fail
      go_ret
      exact ⟨A, rfl, rfl, HX.out, by omega⟩
set_option maxRecDepth 100000 in
set_option maxHeartbeats 2000000 in
theorem lines_none (a : Option Addr) (c : Nat) (w : World) : Calls Tryz.prog 11 #[.slice a 0 c] w fun e w' => e = .returned (.bool false) ∧ w = w' := by
  go_enter Tryz.func11, Tryz.ntmps11
  go_wp2_with fail
  go_loop [3, 4] (fun v i => v = .int .i64 0 ∧ i = .int .i64 0) (fun _ _ => 0)
  case atStart => exact ⟨rfl, rfl⟩
  case round =>
    obtain ⟨rfl, rfl⟩ := hrel
    go_wp2_with fail
    go_ret
    exact ⟨rfl, rfl⟩
end Go.Proofs.YtfgpephpkibbaaaGreatDoor


/-
  Texts of the proof, one behind the other: Bta, Btb.
-/
import Derived.Test.YtfgpephpkibbaaaGreatDoorQ44
import Derived.Test.YtfgpephpkibbaaaGreatDoorQ43
import Derived.Laws.CopyOwn
import Derived.Test.YtfgpephpkibbaaaGreatDoorQ31
/-
  Contract of block's told.
-/
namespace Go.Proofs.YtfgpephpkibbaaaGreatDoor
open Go.RowKit Go.Lib

theorem flat10_snoc (cs : List Ten) (c : Ten) : flat10 (cs ++ [c]) = flat10 cs ++ c.1 := by unfold flat10; simp
/-- The blocks that were told so far: the list kv, at whose places cs are the blocks' cells. -/
structure TK (n0 : Nat) (w : World) (kv : Value) (done : List Tr) (cs : List Ten) : Prop where
  len : cs.length = done.length
  row : w.ownsRow n0 26 10 kv cs.length (flat10 cs)
  kid : ∃ iv, Iv n0 w.heap.size kv done.length iv ∧ ∀ i (h : i < done.length) (h' : i < cs.length), TreeOn w (iv i).1 (iv i).2 done[i] cs[i]
theorem TK.nil (n0 : Nat) (w : World) : TK n0 w (.slice none 0 0) [] [] := ⟨rfl, World.ownsRow_nil _ _ _ _, fun _ => (0, 0), ⟨fun i h => absurd h (by simp), fun i j h => absurd h (by simp)⟩, fun i h => absurd h (by simp)⟩
/-- What lies below n0 may turn. -/
theorem TK.over {n0 : Nat} {w w' : World} {kv : Value} {done : List Tr} {cs : List Ten} (h : TK n0 w kv done cs) (hs : w.heap.size ≤ w'.heap.size) (hb : ∀ b, n0 ≤ b → b < w.heap.size → w'.heap[b]? = w.heap[b]?) : TK n0 w' kv done cs := by
  obtain ⟨iv, hv, hk⟩ := h.kid
  refine ⟨h.len, row_same h.row fun g e => hb g (h.row.lt g e).1 (h.row.lt g e).2, iv, ⟨fun i q => ?_, hv.apart⟩, fun i h1 h2 => ?_⟩
  · have := hv.inn i q
    exact ⟨this.1, by omega, this.2.2⟩
  · have := hv.inn i h1
    exact (hk i h1 h2).same (Nat.le_refl _) (Nat.le_refl _) fun b b1 b2 => hb b (by omega) (by omega)
theorem TK.keep {n0 : Nat} {w w' : World} {kv : Value} {done : List Tr} {cs : List Ten} (h : TK n0 w kv done cs) (k : Keeps w w') : TK n0 w' kv done cs := h.over k.size fun b _ hb => k.block b hb
/-- One more. -/
theorem TK.next {n0 : Nat} {w0 w w2 w3 : World} {kv kv' : Value} {done : List Tr} {cs : List Ten} {t : Tr} {c : Ten} {lo : Nat} (h0 : TK n0 w0 kv done cs) (hk0 : Keeps w0 w2) (ht : TreeOn w2 lo w.heap.size t c) (hlo : n0 ≤ lo) (hlo0 : w0.heap.size ≤ lo) (hw : w.heap.size ≤ w2.heap.size) (hkv : ∀ g, kv.ownBlock = some g → g < lo)
    (hr : w3.ownsRow n0 26 10 kv' (cs.length + 1) (flat10 cs ++ c.1)) (hg : w2.grownBy w3 kv.ownBlock) (hl : kv'.ownBlock = kv.ownBlock ∨ kv'.ownBlock = some w2.heap.size) : TK n0 w3 kv' (done ++ [t]) (cs ++ [c]) := by
  have hs := hg.size
  have hs0 := hk0.size
  have h := h0.keep hk0
  obtain ⟨iv, hv, hk⟩ := h0.kid
  have hl1 := h0.len
  refine ⟨by rw [List.length_append, List.length_append, h.len]; rfl, ?_, fun i => if i < done.length then iv i else (lo, w.heap.size), ⟨fun i q => ?_, fun i j qi qj hne => ?_⟩, fun i h1 h2 => ?_⟩
  · rw [List.length_append, List.length_singleton, flat10_snoc]; exact hr
  · rw [List.length_append, List.length_singleton] at q
    have key : ∀ g, kv'.ownBlock = some g → (∃ g', kv.ownBlock = some g' ∧ g = g') ∨ g = w2.heap.size := fun g e => by
      rcases hl with p | p
      · exact .inl ⟨g, by rw [← p]; exact e, rfl⟩
      · rw [p] at e; cases e; exact .inr rfl
    by_cases hi : i < done.length
    · simp only [if_pos hi]
      have := hv.inn i hi
      refine ⟨this.1, by omega, fun g e => ?_⟩
      rcases key g e with ⟨g', e', rfl⟩ | rfl
      · exact this.2.2 g e'
      · omega
    · simp only [if_neg hi]
      refine ⟨hlo, by omega, fun g e => ?_⟩
      rcases key g e with ⟨g', e', rfl⟩ | rfl
      · have := hkv g e'; omega
      · omega
  · rw [List.length_append, List.length_singleton] at qi qj
    by_cases hi : i < done.length <;> by_cases hj : j < done.length
    · simp only [if_pos hi, if_pos hj]; exact hv.apart i j hi hj hne
    · simp only [if_pos hi, if_neg hj]; have := hv.inn i hi; exact .inl (by omega)
    · simp only [if_neg hi, if_pos hj]; have := hv.inn j hj; exact .inr (by omega)
    · omega
  · rw [List.length_append, List.length_singleton] at h1
    by_cases hi : i < done.length
    · simp only [if_pos hi]
      rw [List.getElem_append_left hi, List.getElem_append_left (by omega)]
      have q := hv.inn i hi
      refine (hk i hi (by omega)).same (Nat.le_refl _) (Nat.le_refl _) fun b b1 b2 => ?_
      rw [hg.block b (by omega) (fun e => q.2.2 b e.symm ⟨b1, b2⟩)]
      exact hk0.block b (by omega)
    · simp only [if_neg hi]
      have e1 : i = done.length := by omega
      subst e1
      rw [List.getElem_append_right (Nat.le_refl _)]
      rw [List.getElem_append_right (by omega)]
      simp only [Nat.sub_self, hl1, List.getElem_cons_zero]
      exact ht.same (Nat.le_refl _) (Nat.le_refl _) fun b b1 b2 => hg.block b (by omega) (fun e => by have := hkv b e.symm; omega)
/-- The list is turned round. -/
theorem TK.turned {n0 : Nat} {w w' : World} {kv : Value} {done : List Tr} {cs : List Ten} (h : TK n0 w kv done cs) (hr : w'.ownsRow n0 26 10 kv cs.length (flat10 cs.reverse)) (hg : w.grownBy w' kv.ownBlock) : TK n0 w' kv done.reverse cs.reverse := by
  have hs := hg.size
  have hl := h.len
  obtain ⟨iv, hv, hk⟩ := h.kid
  refine ⟨by simp [hl], by rw [List.length_reverse]; exact hr, fun i => iv (done.length - 1 - i), ⟨fun i q => ?_, fun i j qi qj hne => ?_⟩, fun i h1 h2 => ?_⟩
  · rw [List.length_reverse] at q
    have := hv.inn (done.length - 1 - i) (by omega)
    exact ⟨this.1, by show (iv (done.length - 1 - i)).2 ≤ _; omega, this.2.2⟩
  · rw [List.length_reverse] at qi qj
    exact hv.apart _ _ (by omega) (by omega) (by omega)
  · rw [List.length_reverse] at h1 h2
    rw [List.getElem_reverse, List.getElem_reverse]
    have q := hv.inn (done.length - 1 - i) (by omega)
    have t := hk (done.length - 1 - i) (by omega) (by omega)
    have e : cs.length - 1 - i = done.length - 1 - i := by omega
    simp only [e]
    exact t.same (Nat.le_refl _) (Nat.le_refl _) fun b b1 b2 => hg.block b (by omega) (fun e => q.2.2 b e.symm ⟨b1, b2⟩)
theorem TK.tree {n0 : Nat} {w : World} {kv : Value} {done : List Tr} {cs : List Ten} (h : TK n0 w kv done cs) (k l : Nat) (o : Bool) (st mk : Nat) (ti : Bool) (info text : List UInt8) (c : Ten) (hc : c.1 = blkT k l o st mk ti info text kv) :
    TreeOn w n0 w.heap.size (.mk k l o st mk ti info text done) c := by
  obtain ⟨iv, hv, hk⟩ := h.kid
  exact .mk n0 w.heap.size k l o st mk ti info text done kv cs c iv hc h.row (fun g e => (h.row.lt g e).2) h.len hv hk
section
variable {B : Nat} {s : St}
def ToldAt (B : Nat) (s : St) (i : Nat) : Prop := ∀ (W : World) (O : Nat → Option Nat), Par W B O s →
  Calls Tryz.prog 22 #[.pointer (some ⟨B, 0, none⟩), .int .i64 i] W fun e w' => ∃ (C : Array Value) (c : Ten), e = .returned (.agg C) ∧ C.toList = c.1 ∧ TreeOn w' W.heap.size w'.heap.size (toldM s.list i) c ∧ Keeps W w'
theorem infoBl : (Tryz.prog.info? 26).map (fun i => (i.zero, i.size, i.bytes)) = some (some (.agg #[.int .i64 0, .int .i64 0, .bool false, .int .i64 0, .int .u8 0, .bool false, .string ⟨#[]⟩, .string ⟨#[]⟩, .slice none 0 0, .slice none 0 0]), 10, 120) := by kernel_rfl
theorem store_ten {w : World} {R : Nat} {zs C : Array Value} (h : Blk w R 26 zs) (hz : zs.size = 10) (hC : C.size = 10) (h1 : ∀ v ∈ C.toList, v.oneCell' = true) :
    (storeCells ⟨R, 0, none⟩ C.toList 0).run Tryz.prog w = .ok () (w.setRow R C) := by
  have := run_storeCells_from (P := Tryz.prog) R 26 C.toList 0 zs w h (by rw [Array.length_toList, hz, hC]) h1
  rw [List.take_zero, List.nil_append, Array.toArray_toList] at this
  exact this
theorem blkT_one (k l : Nat) (o : Bool) (st mk : Nat) (ti : Bool) (info text : List UInt8) {kv : Value} (h : kv.oneCell' = true) : (blkT k l o st mk ti info text kv).length = 10 ∧ ∀ v ∈ blkT k l o st mk ti info text kv, v.oneCell' = true := by
  refine ⟨rfl, fun v hv => ?_⟩
  unfold blkT at hv
  simp only [List.mem_cons, List.not_mem_nil, or_false] at hv
  rcases hv with rfl | rfl | rfl | rfl | rfl | rfl | rfl | rfl | rfl | rfl <;> first | rfl | exact h
/-- One more block is told, and put behind the list. -/
theorem told_app {W wr w2 : World} {R : Nat} {kv c0 c1 c2 c3 c4 c5 c6 c7 c9 : Value} {zs : Array Value} {done : List Tr} {cs : List Ten} {t : Tr} {c : Ten} (h : TK (R + 2) wr kv done cs) (hB : Blk wr (R + 1) 26 #[c0, c1, c2, c3, c4, c5, c6, c7, kv, c9]) (hR : Blk wr R 26 zs) (kk : Keeps W wr) (hWR : W.heap.size = R) (hsz : R + 2 ≤ wr.heap.size) (hcs : cs.length ≤ 100000)
    (k2 : Keeps wr w2) (ht : TreeOn w2 wr.heap.size w2.heap.size t c) (C : Array Value) (hC : C.toList = c.1) :
    ∃ ao c8 w8, (Builtin.append_ #[23, 23] 23 #[kv, .slice (some ⟨w2.heap.size, 0, none⟩) 1 1]).run Tryz.prog (w2.alloc (.cells C 26)) = .ok (.slice ao (cs.length + 1) c8) w8 ∧ w8.cell? ⟨R + 1, 8, none⟩ = some kv ∧ w8.frozen? ⟨R + 1, 8, none⟩ = false ∧
      Blk (w8.setCell ⟨R + 1, 8, none⟩ (.slice ao (cs.length + 1) c8)) (R + 1) 26 #[c0, c1, c2, c3, c4, c5, c6, c7, .slice ao (cs.length + 1) c8, c9] ∧ TK (R + 2) (w8.setCell ⟨R + 1, 8, none⟩ (.slice ao (cs.length + 1) c8)) (.slice ao (cs.length + 1) c8) (done ++ [t]) (cs ++ [c]) ∧
      Blk (w8.setCell ⟨R + 1, 8, none⟩ (.slice ao (cs.length + 1) c8)) R 26 zs ∧ Keeps W (w8.setCell ⟨R + 1, 8, none⟩ (.slice ao (cs.length + 1) c8)) ∧ R + 2 ≤ (w8.setCell ⟨R + 1, 8, none⟩ (.slice ao (cs.length + 1) c8)).heap.size := by
  obtain ⟨i0, hi0, hz0, hz1, hz2⟩ := info_parts infoBl
  have kA : Keeps wr (w2.alloc (.cells C 26)) := k2.alloc _
  have hA := h.keep kA
  have s2 := k2.size
  have hCs : C.size = 10 := by rw [← Array.length_toList, hC, c.2.1]
  have hAs : (w2.alloc (.cells C 26)).heap.size = w2.heap.size + 1 := by show (w2.heap.push _).size = _; rw [Array.size_push]
  obtain ⟨v8, w8, ra, o8, g8, n8, l8⟩ := run_append_own_at (P := Tryz.prog) (w2.alloc (.cells C 26)) (R + 2) 23 23 26 i0 _ 10 120 Tryz.underlying23 hi0 hz0 hz1 hz2 rfl (by decide) kv cs.length _ hA.row ⟨w2.heap.size, 0, none⟩ 1 1 c.1 (by rw [c.2.1]) (fun j u hu => by
    rw [Addr.add_lit, Nat.zero_add]
    refine (Blk.new w2 26 C).cell j ?_
    rw [← Array.getElem?_toList, hC]; exact hu) c.2.2 (by simp only [maxLen]; omega) (by omega) (by rw [hAs]; omega)
  obtain ⟨ao, c8, e8⟩ : ∃ ao c8, v8 = .slice ao (cs.length + 1) c8 := by
    rcases o8.2 with ⟨_, e⟩ | ⟨g', c', _, e, _⟩
    · omega
    · exact ⟨_, _, e⟩
  subst e8
  have hs8 := g8.size
  have ne1 : ∀ b, b < R + 2 → some b ≠ kv.ownBlock := fun b hb e => by have := (h.row.lt b e.symm).1; omega
  have B8 : Blk w8 (R + 1) 26 #[c0, c1, c2, c3, c4, c5, c6, c7, kv, c9] := by
    unfold Blk
    rw [g8.block (R + 1) (by omega) (ne1 _ (by omega))]
    exact hB.keep kA
  have R8 : Blk w8 R 26 zs := by
    unfold Blk
    rw [g8.block R (by omega) (ne1 _ (by omega))]
    exact hR.keep kA
  have K8 : Keeps W w8 := ⟨g8.os.trans (kk.trans kA).os, g8.tape.trans (kk.trans kA).tape, g8.output.trans (kk.trans kA).output, Nat.le_trans (kk.trans kA).size hs8, fun b hb => by
    rw [g8.block b (by omega) (ne1 _ (by omega))]
    exact (kk.trans kA).block b hb⟩
  have T8 : TK (R + 2) w8 (.slice ao (cs.length + 1) c8) (done ++ [t]) (cs ++ [c]) := h.next (w := w2) (lo := wr.heap.size) (t := t) (c := c) kA (ht.keep (Nat.le_refl _) ((Keeps.refl w2).alloc _)) hsz (Nat.le_refl _) (by omega) (fun g e => (h.row.lt g e).2) o8 g8 l8
  refine ⟨ao, c8, w8, ra, B8.cell 8 rfl, B8.free 8, B8.set 8 _ rfl, T8.over (by rw [setCell_size]; exact Nat.le_refl _) (fun b hb _ => heap_setCell_other w8 ⟨R + 1, 8, none⟩ b _ (by show b ≠ R + 1; omega)), R8.other (by omega) 8 _, K8.set (by omega) 8 _, by rw [setCell_size]; omega⟩
set_option maxRecDepth 100000 in
set_option maxHeartbeats 8000000 in
theorem told_step (hw : Wf s.list s.tip) (hk : Kin s.list) (hlen : s.list.length ≤ 100000) {i : Nat} (hi : i < s.list.length) (ih : ∀ c, i < c → c < s.list.length → ToldAt B s c) : ToldAt B s i := by
  intro W O p
  obtain ⟨g, cap, rv, tv, xs, sb, k, m⟩ := p.form (by omega)
  have MK := Lib.hid (fun W' (q : Keeps W W') => m.keep q)
  have Y0 : ∀ W', Keeps W W' → W'.cell? ⟨B, 0, none⟩ = some (.slice (some ⟨g, 0, none⟩) s.list.length cap) := fun W' q => (m.keep q).box.cell 0 rfl
  have Z0 : ∀ W', Keeps W W' → W'.cell? ⟨g, i * 20, none⟩ = some (.int .i64 ((s.nd i).kind : Nat)) := fun W' q => (m.keep q).at hi 0 (by decide)
  have Z1 : ∀ W', Keeps W W' → W'.cell? ⟨g, i * 20 + 1, none⟩ = some (.int .i64 ((s.nd i).level : Nat)) := fun W' q => (m.keep q).at hi 1 (by decide)
  have Z2 : ∀ W', Keeps W W' → W'.cell? ⟨g, i * 20 + 2, none⟩ = some (.bool (s.nd i).ord) := fun W' q => (m.keep q).at hi 2 (by decide)
  have Z3 : ∀ W', Keeps W W' → W'.cell? ⟨g, i * 20 + 3, none⟩ = some (.int .i64 ((s.nd i).start : Nat)) := fun W' q => (m.keep q).at hi 3 (by decide)
  have Z4 : ∀ W', Keeps W W' → W'.cell? ⟨g, i * 20 + 4, none⟩ = some (.int .u8 ((s.nd i).mark : Nat)) := fun W' q => (m.keep q).at hi 4 (by decide)
  have Z5 : ∀ W', Keeps W W' → W'.cell? ⟨g, i * 20 + 5, none⟩ = some (.bool (s.nd i).tight) := fun W' q => (m.keep q).at hi 5 (by decide)
  have Z6 : ∀ W', Keeps W W' → W'.cell? ⟨g, i * 20 + 6, none⟩ = some (.string ⟨(s.nd i).info.toArray⟩) := fun W' q => (m.keep q).at hi 6 (by decide)
  have Z7 : ∀ W', Keeps W W' → W'.cell? ⟨g, i * 20 + 7, none⟩ = some (.string ⟨#[]⟩) := fun W' q => (m.keep q).at hi 7 (by decide)
  have Z8 : ∀ W', Keeps W W' → W'.cell? ⟨g, i * 20 + 8, none⟩ = some (.slice none 0 0) := fun W' q => (m.keep q).at hi 8 (by decide)
  have Z9 : ∀ W', Keeps W W' → W'.cell? ⟨g, i * 20 + 9, none⟩ = some (.slice none 0 0) := fun W' q => (m.keep q).at hi 9 (by decide)
  have Z11 : ∀ W', Keeps W W' → W'.cell? ⟨g, i * 20 + 11, none⟩ = some (.int .i64 (s.nd i).last) := fun W' q => (m.keep q).at hi 11 (by decide)
  have Z14 : ∀ W', Keeps W W' → W'.cell? ⟨g, i * 20 + 14, none⟩ = some (tv i) := fun W' q => (m.keep q).at hi 14 (by decide)
  have CV : ∀ W', Keeps W W' → (convert 59 9 (tv i)).run Tryz.prog W' = .ok (.string ⟨(s.nd i).text.toArray⟩) W' := fun W' q => ((m.keep q).txt i hi).back 59 9 5 Tryz.underlying59 Tryz.underlying5 Tryz.underlying9
  obtain ⟨ao, ca, htv, _, _⟩ := (m.txt i hi).form
  have hi2 : (i : Int) < (s.list.length : Int) := by omega
  have hn := m.num
  have HT : Hid (toldM s.list i = _) := Lib.hid (told_eq hw hk hi)
  have LQ := Lib.hid (hw.lastQ hi)
  have LG := Lib.hid (fun y (e : (gN s.list i).last = (y : Nat)) => (hk.last i y e))
  unfold St.nd at *
  generalize (gN s.list i).kind = q at *
  generalize (gN s.list i).level = lv at *
  generalize (gN s.list i).ord = o at *
  generalize (gN s.list i).start = st at *
  generalize (gN s.list i).mark = mk at *
  generalize (gN s.list i).tight = ti at *
  generalize hin : (gN s.list i).info = inf at *
  generalize htx : (gN s.list i).text = txt at *
  generalize (gN s.list i).last = la at *
  obtain ⟨info, hinfo⟩ : ∃ x : ByteArray, (⟨inf.toArray⟩ : ByteArray) = x := ⟨_, rfl⟩
  obtain ⟨text, htext⟩ : ∃ x : ByteArray, (⟨txt.toArray⟩ : ByteArray) = x := ⟨_, rfl⟩
  have HI2 := Lib.hid hinfo
  have HX2 := Lib.hid htext
  rw [hinfo] at Z6
  rw [htext] at CV
  rw [htv] at Z14 CV
  clear hinfo htext htv hin htx m p
  have K1 : Keeps W (W.alloc (.cells #[.int .i64 0, .int .i64 0, .bool false, .int .i64 0, .int .u8 0, .bool false, .string ⟨#[]⟩, .string ⟨#[]⟩, .slice none 0 0, .slice none 0 0] 26)) := (Keeps.refl W).alloc _
  have K2 : Keeps W ((W.alloc (.cells #[.int .i64 0, .int .i64 0, .bool false, .int .i64 0, .int .u8 0, .bool false, .string ⟨#[]⟩, .string ⟨#[]⟩, .slice none 0 0, .slice none 0 0] 26)).alloc (.cells #[.int .i64 (q : Nat), .int .i64 (lv : Nat), .bool o, .int .i64 (st : Nat), .int .u8 (mk : Nat), .bool ti, .string info, .string ⟨#[]⟩, .slice none 0 0, .slice none 0 0] 26)) := K1.alloc _
  have K3 : Keeps W ((W.alloc (.cells #[.int .i64 0, .int .i64 0, .bool false, .int .i64 0, .int .u8 0, .bool false, .string ⟨#[]⟩, .string ⟨#[]⟩, .slice none 0 0, .slice none 0 0] 26)).alloc (.cells #[.int .i64 (q : Nat), .int .i64 (lv : Nat), .bool o, .int .i64 (st : Nat), .int .u8 (mk : Nat), .bool ti, .string info, .string text, .slice none 0 0, .slice none 0 0] 26)) := K1.alloc _
  have a0 := Y0 _ K1
  have a1 := Z0 _ K1
  have a2 := Z1 _ K1
  have a3 := Z2 _ K1
  have a4 := Z3 _ K1
  have a5 := Z4 _ K1
  have a6 := Z5 _ K1
  have a7 := Z6 _ K1
  have a8 := Z7 _ K1
  have a9 := Z8 _ K1
  have a10 := Z9 _ K1
  have b0 := Y0 _ K2
  have b1 := Z14 _ K2
  have b2 := CV _ K2
  have c0 := Y0 _ K3
  have c1 := Z11 _ K3
  have BR := Lib.hid ((Blk.new W 26 #[.int .i64 0, .int .i64 0, .bool false, .int .i64 0, .int .u8 0, .bool false, .string ⟨#[]⟩, .string ⟨#[]⟩, .slice none 0 0, .slice none 0 0]).alloc (.cells #[.int .i64 (q : Nat), .int .i64 (lv : Nat), .bool o, .int .i64 (st : Nat), .int .u8 (mk : Nat), .bool ti, .string info, .string text, .slice none 0 0, .slice none 0 0] 26))
  have BB := Lib.hid (Blk.new (W.alloc (.cells #[.int .i64 0, .int .i64 0, .bool false, .int .i64 0, .int .u8 0, .bool false, .string ⟨#[]⟩, .string ⟨#[]⟩, .slice none 0 0, .slice none 0 0] 26)) 26 #[.int .i64 (q : Nat), .int .i64 (lv : Nat), .bool o, .int .i64 (st : Nat), .int .u8 (mk : Nat), .bool ti, .string info, .string text, .slice none 0 0, .slice none 0 0])
  have KK := Lib.hid K3
  have hs1 : Hid ((W.alloc (.cells #[.int .i64 0, .int .i64 0, .bool false, .int .i64 0, .int .u8 0, .bool false, .string ⟨#[]⟩, .string ⟨#[]⟩, .slice none 0 0, .slice none 0 0] 26)).heap.size = W.heap.size + 1) := Lib.hid (by show (W.heap.push _).size = _; rw [Array.size_push])
  have hs3 : Hid (((W.alloc (.cells #[.int .i64 0, .int .i64 0, .bool false, .int .i64 0, .int .u8 0, .bool false, .string ⟨#[]⟩, .string ⟨#[]⟩, .slice none 0 0, .slice none 0 0] 26)).alloc (.cells #[.int .i64 (q : Nat), .int .i64 (lv : Nat), .bool o, .int .i64 (st : Nat), .int .u8 (mk : Nat), .bool ti, .string info, .string text, .slice none 0 0, .slice none 0 0] 26)).heap.size = W.heap.size + 2) := Lib.hid (by show (((W.alloc (.cells #[.int .i64 0, .int .i64 0, .bool false, .int .i64 0, .int .u8 0, .bool false, .string ⟨#[]⟩, .string ⟨#[]⟩, .slice none 0 0, .slice none 0 0] 26))).heap.push _).size = _; rw [Array.size_push, hs1.out])
  rw [hs1.out] at BB
  clear Y0 Z0 Z1 Z2 Z3 Z4 Z5 Z6 Z7 Z8 Z9 Z11 Z14 CV K1 K2 K3
  go_enter Tryz.func22, Tryz.ntmps22
  go_wp2_with fail
  clear a0 a1 a2 a3 a4 a5 a6 a7 a8 a9 a10 b0 b1 b2 c0 c1
  generalize ((W.alloc (.cells #[.int .i64 0, .int .i64 0, .bool false, .int .i64 0, .int .u8 0, .bool false, .string ⟨#[]⟩, .string ⟨#[]⟩, .slice none 0 0, .slice none 0 0] 26)).alloc (.cells #[.int .i64 (q : Nat), .int .i64 (lv : Nat), .bool o, .int .i64 (st : Nat), .int .u8 (mk : Nat), .bool ti, .string info, .string text, .slice none 0 0, .slice none 0 0] 26)) = w3 at *
  obtain ⟨R, hR⟩ : ∃ R, W.heap.size = R := ⟨_, rfl⟩
  rw [hR] at BR BB hs3 ⊢
  have HR := Lib.hid hR
  clear hR hs1
  go_loopw [6] (fun v wr => ∃ (j : Int) (done : List Tr) (cs : List Ten) (kv : Value), v = .int .i64 j ∧ Hid (Blk wr (R + 1) 26 #[.int .i64 (q : Nat), .int .i64 (lv : Nat), .bool o, .int .i64 (st : Nat), .int .u8 (mk : Nat), .bool ti, .string info, .string text, kv, .slice none 0 0]) ∧ Hid (TK (R + 2) wr kv done cs) ∧ Hid (Blk wr R 26 #[.int .i64 0, .int .i64 0, .bool false, .int .i64 0, .int .u8 0, .bool false, .string ⟨#[]⟩, .string ⟨#[]⟩, .slice none 0 0, .slice none 0 0]) ∧ Hid (Keeps W wr) ∧ Hid (Plq s.list j) ∧ Hid (∀ y : Nat, j = (y : Int) → (gN s.list y).up = (i : Int)) ∧ Hid (done ++ (chM s.list j).map (toldM s.list) = (chM s.list la).map (toldM s.list)) ∧ Hid (R + 2 ≤ wr.heap.size ∧ cs.length + (j + 1).toNat ≤ 100001)) (fun v _ => lep (RowKit.intOf v))
  case atStart => exact ⟨la, [], [], .slice none 0 0, rfl, BB, Lib.hid (TK.nil _ _), BR, KK, LQ, LG, Lib.hid rfl, Lib.hid ⟨Nat.le_of_eq hs3.out.symm, by rcases LQ.out with e | e <;> simp <;> omega⟩⟩
  case round =>
    obtain ⟨j, done, cs, kv, rfl, HB, HTK, HRB, HK, HQ, HU, HA, HS⟩ := hrel
    by_cases hj : j = -1
    · subst hj
      have t1 : ((-1 : Int) != -1) = false := rfl
      have HAE : Hid (done = (chM s.list la).map (toldM s.list)) := Lib.hid (by have := HA.out; rw [ch_none] at this; simpa using this)
      have x8 : wr.cell? ⟨R + 1, 8, none⟩ = some kv := HB.out.cell 8 rfl
      have hone : kv.oneCell' = true := by rcases HTK.out.row.2 with ⟨e, _⟩ | ⟨_, _, _, e, _⟩ <;> (rw [e]; rfl)
      have TT := Lib.hid (fun w' (h : TK (R + 2) w' kv done.reverse cs.reverse) => h.tree q lv o st mk ti inf txt ⟨blkT q lv o st mk ti inf txt kv, blkT_one q lv o st mk ti inf txt hone⟩ rfl)
      have HW4 : Hid (∀ w4 : World, TK (R + 2) w4 kv done.reverse cs.reverse → Blk w4 (R + 1) 26 #[.int .i64 (q : Nat), .int .i64 (lv : Nat), .bool o, .int .i64 (st : Nat), .int .u8 (mk : Nat), .bool ti, .string info, .string text, kv, .slice none 0 0] → Blk w4 R 26 #[.int .i64 0, .int .i64 0, .bool false, .int .i64 0, .int .u8 0, .bool false, .string ⟨#[]⟩, .string ⟨#[]⟩, .slice none 0 0, .slice none 0 0] → Keeps W w4 → R + 2 ≤ w4.heap.size →
          ∃ C : Array Value, (#[.int .i64 (q : Nat), .int .i64 (lv : Nat), .bool o, .int .i64 (st : Nat), .int .u8 (mk : Nat), .bool ti, .string info, .string text, kv, .slice none 0 0] : Array Value) = C ∧ C.size = 10 ∧ (storeCells ⟨R, 0, none⟩ C.toList 0).run Tryz.prog w4 = .ok () (w4.setRow R C) ∧ Blk (w4.setRow R C) R 26 C ∧
            (∃ (C' : Array Value) (c : Ten), Ending.returned (.agg C) = Ending.returned (.agg C') ∧ C'.toList = c.1 ∧ TreeOn (w4.setRow R C) W.heap.size (w4.setRow R C).heap.size (toldM s.list i) c ∧ Keeps W (w4.setRow R C))) := Lib.hid (fun w4 t4 b4 r4 k4 s4 => by
        refine ⟨_, rfl, rfl, ?_⟩
        have hC : (#[.int .i64 (q : Nat), .int .i64 (lv : Nat), .bool o, .int .i64 (st : Nat), .int .u8 (mk : Nat), .bool ti, .string info, .string text, kv, .slice none 0 0] : Array Value).toList = blkT q lv o st mk ti inf txt kv := by rw [← HI2.out, ← HX2.out]; rfl
        have hz : (#[.int .i64 (q : Nat), .int .i64 (lv : Nat), .bool o, .int .i64 (st : Nat), .int .u8 (mk : Nat), .bool ti, .string info, .string text, kv, .slice none 0 0] : Array Value).size = 10 := rfl
        generalize (#[.int .i64 (q : Nat), .int .i64 (lv : Nat), .bool o, .int .i64 (st : Nat), .int .u8 (mk : Nat), .bool ti, .string info, .string text, kv, .slice none 0 0] : Array Value) = C at *
        refine ⟨store_ten r4 rfl hz (fun v hv => (blkT_one q lv o st mk ti inf txt hone).2 v (by rw [← hC]; exact hv)), setRow_heap w4 R _ C _ _ r4, C, ⟨blkT q lv o st mk ti inf txt kv, blkT_one q lv o st mk ti inf txt hone⟩, rfl, hC, ?_, below_setRow k4 (Nat.le_of_eq HR.out) C⟩
        have q4 := TT.out (w4.setRow R C) (t4.over (by rw [size_setRow]; exact Nat.le_refl _) (fun b hb _ => setRow_other w4 R b C (by omega)))
        rw [HT.out, ← HAE.out]
        exact q4.same (by have := HR.out; omega) (Nat.le_refl _) (fun _ _ _ => rfl))
      have REV : Hid (Calls Tryz.prog 33 #[kv] wr fun e w' => e = .returned (.tuple #[]) ∧ TK (R + 2) w' kv done.reverse cs.reverse ∧ Blk w' (R + 1) 26 #[.int .i64 (q : Nat), .int .i64 (lv : Nat), .bool o, .int .i64 (st : Nat), .int .u8 (mk : Nat), .bool ti, .string info, .string text, kv, .slice none 0 0] ∧ Blk w' R 26 #[.int .i64 0, .int .i64 0, .bool false, .int .i64 0, .int .u8 0, .bool false, .string ⟨#[]⟩, .string ⟨#[]⟩, .slice none 0 0, .slice none 0 0] ∧ Keeps W w' ∧ R + 2 ≤ w'.heap.size) := Lib.hid (by
        rcases HTK.out.row.2 with ⟨e, e0⟩ | ⟨g', cap', cur, e, hb, _⟩
        · have hcs : cs = [] := List.eq_nil_of_length_eq_zero e0
          have hdn : done = [] := List.eq_nil_of_length_eq_zero (by rw [← HTK.out.len]; exact e0)
          have h := HTK.out
          subst hcs hdn
          rw [e] at h ⊢
          refine (reverse_none wr).mono ?_
          rintro _ _ ⟨rfl, rfl⟩
          have hB := HB.out
          rw [e] at hB
          exact ⟨rfl, h, hB, HRB.out, HK.out, HS.out.1⟩
        · have h := HTK.out
          have hrow := h.row
          rw [e] at hrow
          have key := reverse_any wr (R + 2) g' cap' cs hrow
          have hg' := (h.row.lt g' (by rw [e]; rfl))
          rw [e]
          refine key.mono ?_
          rintro _ w' ⟨rfl, hr', gr, hsz⟩
          have hr2 : w'.ownsRow (R + 2) 26 10 kv cs.length (flat10 cs.reverse) := by rw [e]; exact hr'
          have gr2 : wr.grownBy w' kv.ownBlock := by rw [e]; exact gr
          have t4 := h.turned hr2 gr2
          have hS := HS.out.1
          rw [e] at t4
          have hB := HB.out
          rw [e] at hB
          refine ⟨rfl, t4, ?_, ?_, ⟨gr.os.trans HK.out.os, gr.tape.trans HK.out.tape, gr.output.trans HK.out.output, Nat.le_trans HK.out.size gr.size, fun b hbb => ?_⟩, by rw [hsz]; exact hS⟩
          · unfold Blk
            rw [gr.block (R + 1) (by omega) (fun e => by cases e; omega)]
            exact hB
          · unfold Blk
            rw [gr.block R (by omega) (fun e => by cases e; omega)]
            exact HRB.out
          · rw [gr.block b (by have := HK.out.size; omega) (fun e => by cases e; have := HR.out; omega)]
            exact HK.out.block b hbb)
      clear HTK HRB HK HQ HU HA HS MK LQ LG HAE TT
      go_wp2_with fail
      refine REV.out.mono ?_
      rintro e w4 ⟨rfl, t4, b4, r4, k4, s4⟩
      obtain ⟨C, hC, hCs, hst, BC, HF⟩ := HW4.out w4 t4 b4 r4 k4 s4
      have v0 := b4.cell 0 (v := .int .i64 (q : Nat)) rfl
      have v1 := b4.cell 1 (v := .int .i64 (lv : Nat)) rfl
      have v2 := b4.cell 2 (v := .bool o) rfl
      have v3 := b4.cell 3 (v := .int .i64 (st : Nat)) rfl
      have v4 := b4.cell 4 (v := .int .u8 (mk : Nat)) rfl
      have v5 := b4.cell 5 (v := .bool ti) rfl
      have v6 := b4.cell 6 (v := .string info) rfl
      have v7 := b4.cell 7 (v := .string text) rfl
      have v8 := b4.cell 8 (v := kv) rfl
      have v9 := b4.cell 9 (v := .slice none 0 0) rfl
      have HF2 := Lib.hid HF
      have BC2 := Lib.hid BC
      clear HB b4 r4 t4 k4 s4 REV HW4 HF BC x8 t1
      go_wp2_with fail
      refine ret_blk rfl (by rfl) rfl BC2.out Tryz.underlying26 (by rw [hCs]; rfl) ?_
      exact HF2.out
    · obtain ⟨y, rfl⟩ : ∃ y : Nat, j = (y : Int) := ⟨j.toNat, by rcases HQ.out with e | e <;> omega⟩
      have hyl : y < s.list.length := by rcases HQ.out with e | e <;> omega
      have hyu := HU.out y rfl
      have hy0 : 0 < y := by
        refine Nat.pos_of_ne_zero fun e => ?_
        rw [e, hw.up0] at hyu
        omega
      have hyw := hw.up y hy0 hyl
      have IH := Lib.hid (ih y (by omega) hyl)
      have PR := Lib.hid (fun W' (q : Keeps wr W') => (⟨_, _, _, _, _, _, MK.out W' (HK.out.trans q)⟩ : Par W' B O s))
      have hag := ahead_ge hw hyl
      have x8 : wr.cell? ⟨R + 1, 8, none⟩ = some kv := HB.out.cell 8 rfl
      have HSTEP := Lib.hid (fun w2 (C : Array Value) (c : Ten) (k2 : Keeps wr w2) (hC : C.toList = c.1) (ht : TreeOn w2 wr.heap.size w2.heap.size (toldM s.list y) c) => told_app HTK.out HB.out HRB.out HK.out HR.out HS.out.1 (by have := HS.out.2; omega) k2 ht C hC)
      have HST := Lib.hid (ch_step hw hyl)
      have t1 : ((y : Int) != -1) = true := by rw [bne, beq_eq_false_iff_ne.2 (by omega)]; rfl
      have y0r := (MK.out wr HK.out).box.cell 0 (v := .slice (some ⟨g, 0, none⟩) s.list.length cap) rfl
      go_wp2_with fail
      go_region_law (first
        | (refine step_append_run rfl (.tmp 44) (.tmp 48) _ _ rfl _ _ (by simp [Act.eval]) (by simp [Act.eval]) _ _ ra ?_)
        | (go_simp; go_at_call 22; refine (IH.out _ _ (PR.out _ ((Keeps.refl wr).drew))).mono ?_; rintro e w2 ⟨C, c, rfl, hC, ht, k2⟩; obtain ⟨ao8, c8, w8, ra, zz, ff, B9, T9, R9, K9, S9⟩ := HSTEP.out w2 C c (((Keeps.refl wr).drew).trans k2) hC ht; have x8b := keep_cell x8 (((Keeps.refl wr).drew).trans k2); have x8c := keep_cell x8 ((((Keeps.refl wr).drew).trans k2).alloc (.cells C 26)); have hCs : C.size = 10 := (Array.length_toList (xs := C)).symm.trans ((congrArg List.length hC).trans c.2.1); have hfo := fold_cells #[.int .i64 0, .int .i64 0, .bool false, .int .i64 0, .int .u8 0, .bool false, .string ⟨#[]⟩, .string ⟨#[]⟩, .slice none 0 0, .slice none 0 0] C 10 rfl hCs))
      all_goals
        have y9 := (MK.out _ K9).box.cell 0 (v := .slice (some ⟨g, 0, none⟩) s.list.length cap) rfl
        have z12 : (w8.setCell ⟨R + 1, 8, none⟩ (.slice ao8 (cs.length + 1) c8)).cell? ⟨g, y * 20 + 12, none⟩ = some (.int .i64 (gN s.list y).ahead) := (MK.out _ K9).at hyl 12 (by decide)
        have hyl2 : (y : Int) < (s.list.length : Int) := by omega
        have HB9 := Lib.hid B9
        have HT9 := Lib.hid T9
        have HR9 := Lib.hid R9
        have HK9 := Lib.hid K9
        have HA9 : Hid ((done ++ [toldM s.list y]) ++ (chM s.list (gN s.list y).ahead).map (toldM s.list) = (chM s.list la).map (toldM s.list)) := Lib.hid (by
          rw [← HA.out, HST.out, List.map_cons, List.append_assoc]; rfl)
        have HU9 : Hid (∀ z : Nat, (gN s.list y).ahead = (z : Int) → (gN s.list z).up = (i : Int)) := Lib.hid (fun z e => (hk.ahead y z e).trans hyu)
        have HQ9 : Hid (Plq s.list (gN s.list y).ahead) := Lib.hid (by unfold Plq; omega)
        have HS9 : Hid (R + 2 ≤ (w8.setCell ⟨R + 1, 8, none⟩ (.slice ao8 (cs.length + 1) c8)).heap.size ∧ (cs ++ [c]).length + ((gN s.list y).ahead + 1).toNat ≤ 100001) := Lib.hid ⟨S9, by have := HS.out.2; rw [List.length_append, List.length_singleton]; omega⟩
        have HM9 : Hid ((gN s.list y).ahead < (y : Int)) := Lib.hid hag.2
        generalize w8.setCell ⟨R + 1, 8, none⟩ (.slice ao8 (cs.length + 1) c8) = w9 at *
        generalize (gN s.list y).ahead = ah at *
        clear ra zz ff B9 T9 R9 K9 S9 x8b x8c hCs hfo hC ht k2 HSTEP HST IH PR x8 y0r HB HTK HRB HK HQ HU HA HS hag hyw hyu t1
        go_wp2_with fail
        go_roundw
        case rel => exact ⟨ah, done ++ [toldM s.list y], cs ++ [c], .slice ao8 (cs.length + 1) c8, rfl, HB9, HT9, HR9, HK9, HQ9, HU9, HA9, HS9⟩
        case measure => exact lep_lt HM9.out
end
end Go.Proofs.YtfgpephpkibbaaaGreatDoor

/-
  Contract of block's Parse.
-/
namespace Go.Proofs.YtfgpephpkibbaaaGreatDoor
open Go.RowKit Go.Lib

theorem told_all {B : Nat} {s : St} (hw : Wf s.list s.tip) (hk : Kin s.list) (hlen : s.list.length ≤ 100000) : ∀ (d i : Nat), i < s.list.length → s.list.length ≤ i + d → ToldAt B s i
  | 0, i, h, hd => by omega
  | d + 1, i, h, hd => told_step hw hk hlen h fun c hc hl => told_all hw hk hlen d c hl (by omega)
/-- How much lines may come to. -/
def pot (ls : List (List UInt8)) : Nat := (ls.map fun t => 2 * t.length + 4).sum
theorem pot_app (a b : List (List UInt8)) : pot (a ++ b) = pot a + pot b := by unfold pot; simp
theorem pot_join : ∀ ls : List (List UInt8), pot ls ≤ 4 * (joinLF ls).length
  | [] => Nat.zero_le _
  | t :: ls => by
    have h := pot_join ls
    have e : joinLF (t :: ls) = (t ++ [10]) ++ joinLF ls := by simp [joinLF]
    rw [e, List.length_append, List.length_append, List.length_singleton]
    show (2 * t.length + 4) + pot ls ≤ _
    omega
theorem pot_lines (l : List UInt8) : pot (linesL l) ≤ 4 * l.length + 4 := by
  have h := pot_join (linesL l)
  rcases joinLF_lines l with e | e
  · rw [e] at h; omega
  · rw [e, List.length_append, List.length_singleton] at h; omega
theorem line_le {l t : List UInt8} (h : t ∈ linesL l) : t.length ≤ l.length := by
  have key : ∀ (ls : List (List UInt8)), t ∈ ls → t.length + 1 ≤ (joinLF ls).length := by
    intro ls
    induction ls with
    | nil => intro q; cases q
    | cons x ls ih =>
      intro q
      have e : joinLF (x :: ls) = (x ++ [10]) ++ joinLF ls := by simp [joinLF]
      rw [e, List.length_append, List.length_append, List.length_singleton]
      rcases List.mem_cons.1 q with e1 | e1
      · subst e1; omega
      · have := ih e1; omega
  have h := key _ h
  rcases joinLF_lines l with e | e
  · rw [e] at h; omega
  · rw [e, List.length_append, List.length_singleton] at h; omega
theorem Keeps.chg {w w1 w2 : World} {O O2 : Nat → Option Nat} (k : Keeps w w1) (ho : ∀ b, O b ≠ none → w.heap.size ≤ b) (c : Chg w1 O w2 O2) : Keeps w w2 :=
  ⟨c.os.trans k.os, c.tape.trans k.tape, c.output.trans k.output, Nat.le_trans k.size c.size, fun b hb => by
    have h0 : O b = none := by
      cases e : O b with
      | none => rfl
      | some x => have := ho b (by rw [e]; simp); omega
    rw [c.block b (Nat.lt_of_lt_of_le hb k.size) h0]
    exact k.block b hb⟩
theorem Chg.low {w w1 w2 : World} {O O2 : Nat → Option Nat} (k : Keeps w w1) (ho : ∀ b, O b ≠ none → w.heap.size ≤ b) (c : Chg w1 O w2 O2) : ∀ b, O2 b ≠ none → w.heap.size ≤ b := fun b hb => by
  by_cases hl : b < w1.heap.size
  · rw [c.own b hl] at hb; exact ho b hb
  · have := k.size; omega
/-- A row that isn't the parser's stays. -/
theorem Chg.row {W W' : World} {O O' : Nat → Option Nat} (h : Chg W O W' O') {n₀ n z : Nat} {e : TypeId} {v : Value} {vs : List Value} (hr : W.ownsRow n₀ e z v n vs) (h0 : ∀ g, v.ownBlock = some g → O g = none) : W'.ownsRow n₀ e z v n vs ∧ ∀ g, v.ownBlock = some g → O' g = none :=
  ⟨row_same hr fun g hg => h.block g (hr.lt g hg).2 (h0 g hg), fun g hg => h.own0 (h0 g hg) (hr.lt g hg).2⟩
theorem ret_blk3 {fn : Func} {R : Ending → World → Prop} {a : Act} {w : World} {p u x : Tmp} {ty : TypeId} {g : Nat} {cs : Array Value} {fs : Array Field} {v y : Value} (hres : fn.results = #[.cell p ty, .tmp u, .tmp x]) (hp : a.tmps.getD p undef = .pointer (some ⟨g, 0, none⟩)) (hv : a.tmps.getD u undef = v) (hy : a.tmps.getD x undef = y) (hd : a.defers = [])
    (hb : Blk w g ty cs) (hu : Tryz.prog.underlying ty = some (.struct fs)) (hi : (Tryz.prog.info? ty).map (·.size) = some cs.size) (hR : R (.returned (.tuple #[.agg cs, v, y])) w) : bodyPost Tryz.prog fn R .ret a w :=
  bodyPost_ret (by
    have hp' : a.tmps[p]?.getD undef = .pointer (some ⟨g, 0, none⟩) := by simpa using hp
    have hv' : a.tmps[u]?.getD undef = v := by simpa using hv
    have hy' : a.tmps[x]?.getD undef = y := by simpa using hy
    have hb' : w.heap[g]? = some (.cells cs ty (0, 0)) := hb
    simp [results, hres, hp', hv', hy', asAddr, run_loadVar_row w g ty ty cs (0, 0) (.struct fs) hb' hu rfl hi]) hd hR
/-- What Parse tells. -/
def ParR (lo : Nat) (r : Option (Tr × List Rf)) (e : Ending) (w' : World) : Prop := match r with
  | none => e = .returned (.tuple #[.agg #[.int .i64 0, .int .i64 0, .bool false, .int .i64 0, .int .u8 0, .bool false, .string ⟨#[]⟩, .string ⟨#[]⟩, .slice none 0 0, .slice none 0 0], .slice none 0 0, .int .i64 3])
  | some (t, rs) => ∃ (C : Array Value) (c : Ten) (v : Value), e = .returned (.tuple #[.agg C, v, .int .i64 0]) ∧ C.toList = c.1 ∧ TreeAt w' lo w'.heap.size t c ∧ Refs 0 w' v rs ∧ ∀ g, v.ownBlock = some g → lo ≤ g
/-- What Parse tells, each block's list apart from the others. -/
def ParO (lo : Nat) (r : Option (Tr × List Rf)) (e : Ending) (w' : World) : Prop := match r with
  | none => e = .returned (.tuple #[.agg #[.int .i64 0, .int .i64 0, .bool false, .int .i64 0, .int .u8 0, .bool false, .string ⟨#[]⟩, .string ⟨#[]⟩, .slice none 0 0, .slice none 0 0], .slice none 0 0, .int .i64 3])
  | some (t, rs) => ∃ (C : Array Value) (c : Ten) (v : Value), e = .returned (.tuple #[.agg C, v, .int .i64 0]) ∧ C.toList = c.1 ∧ TreeOn w' lo w'.heap.size t c ∧ Refs 0 w' v rs ∧ ∀ g, v.ownBlock = some g → lo ≤ g
theorem ParO.par {lo : Nat} {r : Option (Tr × List Rf)} {e : Ending} {w' : World} (h : ParO lo r e w') : ParR lo r e w' := by
  cases r with
  | none => exact h
  | some x =>
    obtain ⟨C, c, v, h1, h2, h3, h4, h5⟩ := h
    exact ⟨C, c, v, h1, h2, h3.at, h4, h5⟩
/-- The parser, some lines on. -/
structure Run (w : World) (B R0 : Nat) (ls : List (List UInt8)) (k : Nat) (wr : World) (O : Nat → Option Nat) (s : St) : Prop where
  par : Par wr B O s
  wf : Wf s.list s.tip
  kin : Kin s.list
  cap : Cap s (1 + pot (ls.take k)) (pot (ls.take k))
  eq : runBM (ls.drop k) s = runBM ls st0
  keep : Keeps w wr
  low : ∀ b, O b ≠ none → w.heap.size < b
  box : Blk wr R0 26 #[.int .i64 0, .int .i64 0, .bool false, .int .i64 0, .int .u8 0, .bool false, .string ⟨#[]⟩, .string ⟨#[]⟩, .slice none 0 0, .slice none 0 0]
  own : O R0 = none
set_option maxRecDepth 100000 in
set_option maxHeartbeats 8000000 in
theorem parse_on (t : ByteArray) (w : World) (hs : t.size ≤ 5000) (hO : Lis w) (hM : Mxl w) :
    Calls Tryz.prog 8 #[.string t] w fun e w' => Keeps w w' ∧ ParO w.heap.size (parseM t.data.toList) e w' := by
  have K0 : Keeps w (w.alloc (.cells #[.int .i64 0, .int .i64 0, .bool false, .int .i64 0, .int .u8 0, .bool false, .string ⟨#[]⟩, .string ⟨#[]⟩, .slice none 0 0, .slice none 0 0] 26)) := (Keeps.refl w).alloc _
  have BZ := Lib.hid (Blk.new w 26 #[.int .i64 0, .int .i64 0, .bool false, .int .i64 0, .int .u8 0, .bool false, .string ⟨#[]⟩, .string ⟨#[]⟩, .slice none 0 0, .slice none 0 0])
  have NP := Lib.hid (newParser_any (w.alloc (.cells #[.int .i64 0, .int .i64 0, .bool false, .int .i64 0, .int .u8 0, .bool false, .string ⟨#[]⟩, .string ⟨#[]⟩, .slice none 0 0, .slice none 0 0] 26)) (hO.keep K0) (hM.keep K0))
  have LN := Lib.hid (fun W => lines_any t W (by omega))
  have hs0 : Hid ((w.alloc (.cells #[.int .i64 0, .int .i64 0, .bool false, .int .i64 0, .int .u8 0, .bool false, .string ⟨#[]⟩, .string ⟨#[]⟩, .slice none 0 0, .slice none 0 0] 26)).heap.size = w.heap.size + 1) := Lib.hid (by show (w.heap.push _).size = _; rw [Array.size_push])
  have HP : Hid (parseM t.data.toList = _) := Lib.hid (parseM.eq_1 t.data.toList)
  obtain ⟨E, hE⟩ : ∃ E, parseM t.data.toList = E := ⟨_, rfl⟩
  rw [hE] at HP
  rw [hE]
  have htl := Lib.hid (bytes_len t)
  have KW := Lib.hid K0
  have hpl := Lib.hid (pot_lines t.data.toList)
  have hll := Lib.hid (fun x (h : x ∈ linesL t.data.toList) => line_le h)
  have hlb : Hid (linesB t = (linesL t.data.toList).map fun x => ⟨x.toArray⟩) := Lib.hid rfl
  clear hE hO hM K0
  go_enter Tryz.func8, Tryz.ntmps8
  go_wp2_with fail
  generalize w.alloc (.cells #[.int .i64 0, .int .i64 0, .bool false, .int .i64 0, .int .u8 0, .bool false, .string ⟨#[]⟩, .string ⟨#[]⟩, .slice none 0 0, .slice none 0 0] 26) = w0 at *
  obtain ⟨R0, hR0⟩ : ∃ R0, w.heap.size = R0 := ⟨_, rfl⟩
  rw [hR0] at BZ hs0 ⊢
  have HR := Lib.hid hR0
  clear hR0
  refine NP.out.mono ?_
  rintro e w1 ⟨rfl, k1, O1, g1, rv1, tv1, xs1, sb1, kk1, cap1, m1, lo1⟩
  obtain ⟨B, hB⟩ : ∃ B, w0.heap.size = B := ⟨_, rfl⟩
  rw [hB] at m1 lo1 ⊢
  have M1 := Lib.hid m1
  have L1 := Lib.hid lo1
  have K1 := Lib.hid (KW.out.trans k1)
  have Z1 := Lib.hid (BZ.out.keep k1)
  have HB := Lib.hid (show B = R0 + 1 by rw [← hB]; exact hs0.out)
  clear m1 lo1 k1 NP KW BZ hs0 hB
  go_wp2_with fail
  refine (LN.out _).mono ?_
  rintro e w2 ⟨lv, rfl, tx, k2⟩
  obtain ⟨ao, cap, rfl, hcap, hcap2⟩ := txs_form tx
  have M2 := Lib.hid (M1.out.keep k2)
  have K2 := Lib.hid (K1.out.trans k2)
  have Z2 := Lib.hid (Z1.out.keep k2)
  have TX2 := Lib.hid (show w2.ownsRow w1.heap.size 9 1 (.slice ao (linesB t).length cap) (linesB t).length ((linesB t).map Value.string) from tx)
  have ON2 : Hid (∀ g, (Value.slice ao (linesB t).length cap).ownBlock = some g → O1 g = none) := Lib.hid (fun g hg => by
    have h1 := (tx.lt g hg).1
    cases e : O1 g with
    | none => rfl
    | some x => have := M1.out.lt g (by rw [e]; simp); omega)
  clear tx k2 M1 K1 Z1 LN
  generalize hn : (linesB t).length = n at *
  have HN := Lib.hid hn
  have HNL : Hid (n = (linesL t.data.toList).length) := Lib.hid (by rw [← hn, hlb.out, List.length_map])
  have hnb : n ≤ 5001 := by have := HNL.out; have := linesL_len t.data.toList; have := htl.out; omega
  clear hn
  go_wp2_with fail
  go_loopw [12] (fun v wr => ∃ (k : Nat) (O : Nat → Option Nat) (s : St), v = .int .i64 k ∧ k ≤ n ∧ Hid (Run w B R0 (linesL t.data.toList) k wr O s) ∧ Hid (wr.ownsRow 0 9 1 (.slice ao n cap) n ((linesB t).map Value.string) ∧ ∀ g, (Value.slice ao n cap).ownBlock = some g → O g = none)) (fun v _ => n - (RowKit.intOf v).toNat)
  case atStart => exact ⟨0, O1, st0, rfl, Nat.zero_le _, Lib.hid ⟨⟨_, _, _, _, _, _, M2.out⟩, wf0, ⟨fun i y h => by
      have e : ∀ j, (gN [blkN 1] j).last = -1 := fun j => by
        cases j with
        | zero => rfl
        | succ j => rw [gN_out (by simp)]; rfl
      exact absurd ((e i).symm.trans h) (by omega), fun y z h => by
      have e : ∀ j, (gN [blkN 1] j).ahead = -1 := fun j => by
        cases j with
        | zero => rfl
        | succ j => rw [gN_out (by simp)]; rfl
      exact absurd ((e y).symm.trans h) (by omega)⟩, ⟨by show 1 ≤ _; omega, Nat.zero_le _⟩, rfl, K2.out, fun b hb => by have := L1.out b hb; have := HB.out; have := HR.out; omega, Z2.out, by
        cases e : O1 R0 with
        | none => rfl
        | some x => have := L1.out R0 (by rw [e]; simp); have := HB.out; omega⟩, Lib.hid ⟨World.ownsRow.mono TX2.out (Nat.zero_le _), ON2.out⟩⟩
  case round =>
    obtain ⟨k, O, s, rfl, hk, HRN, HTX⟩ := hrel
    have hpt : pot ((linesL t.data.toList).take k) ≤ 20004 := by
      have := hpl.out
      have e := pot_app ((linesL t.data.toList).take k) ((linesL t.data.toList).drop k)
      rw [List.take_append_drop] at e
      have := htl.out
      omega
    have hcl := HRN.out.cap.len
    have hct := HRN.out.cap.txt
    by_cases c : k < n
    · obtain ⟨_, _, g, rfl, hcell⟩ := txs_cell HTX.out.1 (by omega)
      have hk2 : k < (linesL t.data.toList).length := by have := HNL.out; omega
      obtain ⟨x, hx⟩ : ∃ x, (linesB t).getD k ⟨#[]⟩ = x := ⟨_, rfl⟩
      have xk := hcell k c
      rw [hx] at xk
      have hxl : x.data.toList = (linesL t.data.toList)[k] := by
        rw [← hx, hlb.out, List.getD_eq_getElem?_getD, List.getElem?_map, List.getElem?_eq_getElem hk2]
        rfl
      have hxs : x.size ≤ 5000 := by
        rw [← bytes_len, hxl]
        have := hll.out _ (List.getElem_mem hk2)
        have := htl.out
        omega
      have TK0 := Lib.hid (take_par HRN.out.par HRN.out.wf x (by omega) (by omega) (by omega))
      have hxlen : x.data.toList.length = x.size := bytes_len x
      have WK := Lib.hid (take_ok (t := x.data.toList) HRN.out.wf HRN.out.cap (z := x.size) (by omega) (by omega) (by omega) (by omega))
      have KN := Lib.hid (kin_take (t := x.data.toList) HRN.out.wf HRN.out.kin (by omega) (by omega) (by omega))
      have hdr : (linesL t.data.toList).drop k = x.data.toList :: (linesL t.data.toList).drop (k + 1) := by rw [hxl]; exact List.drop_eq_getElem_cons hk2
      have htk : pot ((linesL t.data.toList).take (k + 1)) = pot ((linesL t.data.toList).take k) + (2 * x.size + 4) := by
        rw [List.take_succ_eq_append_getElem hk2, pot_app, ← hxl]
        show _ + (2 * x.data.toList.length + 4 + 0) = _
        rw [hxlen]
      have HTK := Lib.hid htk
      have EQ : Hid (runBM (linesL t.data.toList) st0 = if (takeM s x.data.toList).deep then none else runBM ((linesL t.data.toList).drop (k + 1)) (takeM s x.data.toList)) := Lib.hid (by rw [← HRN.out.eq, hdr, runBM])
      generalize takeM s x.data.toList = s2 at *
      have hkk : (k : Int) < (n : Int) := by omega
      clear hcell hx hxl hdr htk hcl hct hpt hxlen hk2
      go_wp2_with fail
      refine TK0.out.mono ?_
      rintro e w3 ⟨rfl, O3, p3, c3⟩
      have y10 := p3.deep_at
      have T3 := Lib.hid (c3.row HTX.out.1 HTX.out.2)
      have R3 : Hid (Run w B R0 (linesL t.data.toList) (k + 1) w3 O3 s2 ∨ True) := Lib.hid (.inr trivial)
      have P3 := Lib.hid p3
      have K3 := Lib.hid (HRN.out.keep.chg (fun b hb => Nat.le_of_lt (HRN.out.low b hb)) c3)
      have LW3 : Hid (∀ b, O3 b ≠ none → w.heap.size < b) := Lib.hid (fun b hb => by
        by_cases hl : b < wr.heap.size
        · rw [c3.own b hl] at hb; exact HRN.out.low b hb
        · have := HRN.out.box.lt; have := HR.out; omega)
      have Z3 := Lib.hid (c3.blk HRN.out.box HRN.out.own)
      have OW3 := Lib.hid (c3.own0 HRN.out.own HRN.out.box.lt)
      clear TK0 p3 c3 R3
      by_cases dp : s2.deep = true
      · rw [dp] at y10
        have HEN : Hid (E = none) := Lib.hid (by rw [HP.out, EQ.out, if_pos dp]; rfl)
        obtain ⟨C, hC⟩ : ∃ C : Array Value, (#[.int .i64 0, .int .i64 0, .bool false, .int .i64 0, .int .u8 0, .bool false, .string ⟨#[]⟩, .string ⟨#[]⟩, .slice none 0 0, .slice none 0 0] : Array Value) = C := ⟨_, rfl⟩
        have hCs : C.size = 10 := by rw [← hC]; rfl
        have hst := store_ten (C := C) Z3.out rfl hCs (by rw [← hC]; exact (blkT_one 0 0 false 0 0 false [] [] (kv := .slice none 0 0) rfl).2)
        have BC := Lib.hid (setRow_heap w3 R0 _ C _ _ Z3.out)
        have KC := Lib.hid (below_setRow K3.out (Nat.le_of_eq HR.out) C)
        have HC := Lib.hid hC
        have HCS := Lib.hid hCs
        clear EQ P3 K3 LW3 Z3 OW3 WK KN HRN HTX dp
        go_wp2_with fail
        refine ret_blk3 (v := .slice none 0 0) (y := .int .i64 3) rfl (by rfl) (by rfl) (by rfl) rfl BC.out Tryz.underlying26 (by rw [HCS.out]; rfl) ?_
        refine ⟨KC.out, ?_⟩
        rw [HEN.out]
        show _ = _
        rw [HC.out]
      · have dp' : s2.deep = false := by revert dp; cases s2.deep <;> simp
        rw [dp'] at y10
        have R3 : Hid (Run w B R0 (linesL t.data.toList) (k + 1) w3 O3 s2) := Lib.hid ⟨P3.out, WK.out.1, KN.out, by
            rw [HTK.out]
            exact WK.out.2.more (by omega) (by omega), by rw [EQ.out, if_neg dp], K3.out, LW3.out, Z3.out, OW3.out⟩
        clear EQ P3 K3 LW3 Z3 OW3 WK KN HRN HTX dp HTK
        go_wp2_with fail
        go_roundw
        case rel => exact ⟨k + 1, O3, s2, by go_num, by omega, R3, T3⟩
        case measure => simp [RowKit.intOf]; omega
    · have hkn : k = n := by omega
      subst hkn
      have HEQ : Hid (E = some (toldM (cwM s 0).list 0, (cwM s 0).refs)) := Lib.hid (by
        have h := HRN.out.eq
        rw [List.drop_eq_nil_of_le (by have := HNL.out; omega), runBM] at h
        rw [HP.out, ← h]; rfl)
      have o0 := on_doc HRN.out.wf
      obtain ⟨g, cap', rv, tv, xs, sb, kk, m⟩ := HRN.out.par.form (Nat.lt_of_le_of_lt (Nat.zero_le _) HRN.out.wf.tip)
      have CW := Lib.hid (closeWithin_any m HRN.out.wf o0 (by omega))
      have W4 := Lib.hid (cw_wf HRN.out.wf o0)
      have KN4 := Lib.hid (kin_cw HRN.out.wf o0 HRN.out.kin)
      have C4 := Lib.hid (Cap.cw HRN.out.cap 0)
      have hkk : ¬ (k : Int) < (k : Int) := by omega
      have RN := Lib.hid HRN.out
      generalize cwM s 0 = s4 at *
      have ht0 := W4.out.tip
      have hl4 : s4.list.length ≤ 100000 := by have := C4.out.len; omega
      have TD : Hid (∀ (W : World) (O : Nat → Option Nat), Par W B O s4 → Calls Tryz.prog 22 #[.pointer (some ⟨B, 0, none⟩), .int .i64 0] W fun e w' => ∃ (C : Array Value) (c : Ten), e = .returned (.agg C) ∧ C.toList = c.1 ∧ TreeOn w' W.heap.size w'.heap.size (toldM s4.list 0) c ∧ Keeps W w') := Lib.hid (told_all (B := B) W4.out KN4.out hl4 s4.list.length 0 (by omega) (by omega))
      clear m HRN HTX o0 hcl hct hpt
      go_wp2_with fail
      refine CW.out.mono ?_
      rintro e w4 ⟨rfl, O4, rv4, tv4, xs4, sb4, k4, h4, c4⟩
      have K4 := Lib.hid (RN.out.keep.chg (fun b hb => Nat.le_of_lt (RN.out.low b hb)) c4)
      have Z4 := Lib.hid (c4.blk RN.out.box RN.out.own)
      have y2 := h4.box.cell 2 (v := rv4) rfl
      have RF := Lib.hid h4.refs
      have LOW : Hid (∀ b, O4 b ≠ none → w.heap.size < b) := Lib.hid (fun b hb => by
        by_cases hl : b < wr.heap.size
        · rw [c4.own b hl] at hb; exact RN.out.low b hb
        · have := RN.out.box.lt; have := HR.out; omega)
      have RL : Hid (∀ g, rv4.ownBlock = some g → R0 < g) := Lib.hid (fun g hg => by have := LOW.out g (by rw [h4.oR g hg]; simp); have := HR.out; omega)
      have PR := Lib.hid (fun W' (q : Keeps w4 W') => (⟨_, _, _, _, _, _, h4.keep q⟩ : Par W' B O4 s4))
      have hBR : B ≠ R0 := by have := HB.out; omega
      have TDS : Hid (∀ (w5 : World) (C : Array Value) (c : Ten), Keeps w4 w5 → C.toList = c.1 → w5.cell? ⟨B, 2, none⟩ = some rv4 ∧ Blk w5 R0 26 #[.int .i64 0, .int .i64 0, .bool false, .int .i64 0, .int .u8 0, .bool false, .string ⟨#[]⟩, .string ⟨#[]⟩, .slice none 0 0, .slice none 0 0] ∧ C.size = 10 ∧ (storeCells ⟨R0, 0, none⟩ C.toList 0).run Tryz.prog w5 = .ok () (w5.setRow R0 C) ∧ (w5.setRow R0 C).cell? ⟨B, 2, none⟩ = some rv4) := Lib.hid (fun w5 C c k5 hC => by
        have yb : w5.cell? ⟨B, 2, none⟩ = some rv4 := keep_cell y2 k5
        have z5 := Z4.out.keep k5
        have hCs : C.size = 10 := (Array.length_toList (xs := C)).symm.trans ((congrArg List.length hC).trans c.2.1)
        have hst := store_ten (C := C) z5 rfl hCs (by rw [hC]; exact c.2.2)
        exact ⟨yb, z5, hCs, hst, (cell_setRow_other w5 R0 C ⟨B, 2, none⟩ hBR).trans yb⟩)
      clear h4 c4 RN CW LOW
      go_wp2_with fail
      have TD2 := TD.out _ _ (PR.out _ ((Keeps.refl w4).drew))
      go_region_held3 (fun w' => w'.cell? ⟨B, 2, none⟩ = some rv4)
        (first | assumption | (exact y2) | (exact yb) | (exact yc))
        (first
          | (go_at_call 22; (with_reducible refine TD2.mono ?_); rintro e w5 ⟨C, c, rfl, hC, ht, k5⟩; obtain ⟨yb, z5, hCs, hst, yc⟩ := TDS.out w5 C c (((Keeps.refl w4).drew).trans k5) hC; have HC := Lib.hid hC; clear hC))
      all_goals
        have BC := Lib.hid (setRow_heap w5 R0 _ C _ _ z5)
        have KC := Lib.hid (below_setRow (K4.out.trans (((Keeps.refl w4).drew).trans k5)) (Nat.le_of_eq HR.out) C)
        have hw4 : w4.drew.heap.size = w4.heap.size := rfl
        have TC := Lib.hid (ht.same (W' := w5.setRow R0 C) (lo' := w.heap.size) (hi' := (w5.setRow R0 C).heap.size) (by have := K4.out.size; omega) (by rw [size_setRow]; exact Nat.le_refl _) (fun b b1 b2 => setRow_other w5 R0 b C (by have := Z4.out.lt; omega)))
        have RC := Lib.hid (row_same (RF.out.keep (((Keeps.refl w4).drew).trans k5)) (W' := w5.setRow R0 C) fun g hg => setRow_other w5 R0 g C (by have := RL.out g hg; omega))
        have HCS := Lib.hid hCs
        clear TD2 TDS
        clear yb yc z5 hst ht k5 hCs K4 Z4 RF PR TD W4 KN4 C4
        go_wp2_with fail
        refine ret_blk3 (v := rv4) (y := .int .i64 0) rfl (by rfl) (by rfl) (by rfl) rfl BC.out Tryz.underlying26 (by rw [HCS.out]; rfl) ?_
        refine ⟨KC.out, ?_⟩
        rw [HEQ.out]
        exact ⟨C, c, rv4, rfl, HC.out, TC.out, RC.out, fun g hg => by have := RL.out g hg; have := HR.out; omega⟩
theorem parse_any (t : ByteArray) (w : World) (hs : t.size ≤ 5000) (hO : Lis w) (hM : Mxl w) :
    Calls Tryz.prog 8 #[.string t] w fun e w' => Keeps w w' ∧ ParR w.heap.size (parseM t.data.toList) e w' :=
  (parse_on t w hs hO hM).mono fun _ _ h => ⟨h.1, h.2.par⟩
end Go.Proofs.YtfgpephpkibbaaaGreatDoor


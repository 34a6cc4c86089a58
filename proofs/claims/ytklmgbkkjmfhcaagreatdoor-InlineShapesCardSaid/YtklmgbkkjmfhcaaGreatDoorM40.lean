/-
  Texts of the proof, one behind the other: IqN, IqO.
-/
import Derived.Test.YtklmgbkkjmfhcaaGreatDoorM39
import Derived.Test.YtklmgbkkjmfhcaaGreatDoorM37
/-
  Contract of takeEnd, up to the link's span.
-/
namespace Go.Proofs.YtklmgbkkjmfhcaaGreatDoor
open Go.RowKit Go.Lib Go.Maps

section
variable {W : World} {B : Nat} {O : Nat → Option Nat} {s : ByteArray} {rs : List Rf} {p : Ps} {lv bv rv : Value} {fi : Nat} {pm tm em : Value} {L : List (Pc × Value)} {Ab : Option Addr} {cb : Nat}
theorem MidI.cell4 {lv bv rv : Value} {L : List (Pc × Value)} {W1 : World} (h : MidI W B O s rs p lv bv rv L W1) {w : World} (q : Keeps W1 w) : w.cell? ⟨B, 2, none⟩ = some lv ∧ w.cell? ⟨B, 3, none⟩ = some bv := by
  obtain ⟨O1, fi, pm, tm, em, m, c⟩ := h
  exact ⟨(m.box.keep q).cell 2 rfl, (m.box.keep q).cell 3 rfl⟩
set_option maxRecDepth 100000 in
set_option maxHeartbeats 8000000 in
theorem takeEnd_none (h : MemI W B O s rs p lv (.slice Ab p.br.length cb) rv fi pm tm em L) (wf : WfI s.data.toList p) (hp : p.pos < s.size) (hn : p.br = []) :
    Calls Tryz.prog 15 #[.pointer (some ⟨B, 0, none⟩)] W fun e w' => e = .returned (.tuple #[]) ∧ PostI W B O s rs (byteM s.data.toList p) w' := by
  have LB := Lib.hid (lastBracket_none h hn)
  have HB := Lib.hid (fun w (q : Keeps W w) => takeByte_any (W := w) (O := O) (rs := rs) ⟨wf, _, _, _, _, _, _, _, _, h.keep q⟩ hp)
  clear h wf
  go_enter Tryz.func15, Tryz.ntmps15
  go_wp2_with fail
  refine LB.out.mono ?_
  rintro e w1 ⟨rfl, k1⟩
  have K2 := k1.alloc (.cells #[.int .i64 0, .int .i64 0, .bool false] 63)
  go_wp2_with fail
  refine (HB.out _ K2).mono ?_
  rintro e w2 ⟨rfl, q⟩
  have Q := Lib.hid (PostI.from K2 q)
  clear q
  go_wp2_with fail
  refine bodyPost_ret (results_none rfl _ _ _) rfl ?_
  exact ⟨rfl, Q.out⟩
theorem endM_some {s : List UInt8} {b : Br} (hb : p.br.getLast? = some b) : endM s rs p = if b.image = true ∨ p.dead ≤ p.br.length - 1 then (if (ldsM s rs p b).2.2 = 0 then byteM s (popI p) else { pos := p.pos + (ldsM s rs p b).2.2, br := p.br.dropLast, dead := if b.image then min p.dead (p.br.length - 1) else p.br.length - 1, list := p.list.take b.place ++ [spanP (if b.image then 8 else 7) [] (ldsM s rs p b).1 (ldsM s rs p b).2.1 (spansM (emM (p.list.drop (b.place + 1))))] }) else byteM s (popI p) := by
  unfold endM
  rw [hb]
  rfl
set_option maxRecDepth 100000 in
set_option maxHeartbeats 8000000 in
/-- The last bracket makes nothing. -/
theorem takeEnd_dead (h : MemI W B O s rs p lv (.slice Ab p.br.length cb) rv fi pm tm em L) (wf : WfI s.data.toList p) (hp : p.pos < s.size) {b : Br} (hb : p.br.getLast? = some b) (hd : ¬ (b.image = true ∨ p.dead ≤ p.br.length - 1)) :
    Calls Tryz.prog 15 #[.pointer (some ⟨B, 0, none⟩)] W fun e w' => e = .returned (.tuple #[]) ∧ PostI W B O s rs (byteM s.data.toList (popI p)) w' := by
  have LB := Lib.hid (lastBracket_some h hb)
  have hv : (b.image || decide (p.dead ≤ p.br.length - 1)) = false := by
    simp only [Bool.or_eq_false_iff, decide_eq_false_iff_not]
    exact ⟨by cases hx : b.image with | false => rfl | true => exact absurd (.inl hx) hd, fun x => hd (.inr x)⟩
  rw [hv] at LB
  have HW := Lib.hid wf.pop
  have HB := Lib.hid (fun w O1 lv bv rv fi pm tm em L (m : MemI w B O1 s rs (popI p) lv bv rv fi pm tm em L) => takeByte_any (W := w) (O := O1) (rs := rs) ⟨HW.out, _, _, _, _, _, _, _, _, m⟩ hp)
  clear h wf hv hd hb
  unfold brV at LB
  go_enter Tryz.func15, Tryz.ntmps15
  go_wp2_with fail
  refine LB.out.mono ?_
  rintro e w1 ⟨rfl, O1, m1, c1⟩
  have k2 := (Keeps.refl w1).alloc (.cells #[.int .i64 b.place, .int .i64 b.pos, .bool b.image] 63)
  have HB1 := Lib.hid (HB.out _ _ _ _ _ _ _ _ _ _ (m1.keep k2))
  have HC1 := Lib.hid (c1.trans (Chg.keeps O1 k2))
  clear m1 c1 k2
  go_wp2_with fail
  refine HB1.out.mono ?_
  rintro e w2 ⟨rfl, O2, m2, c2⟩
  have Q := Lib.hid (show PostI W B O s rs (byteM s.data.toList (popI p)) w2 from ⟨O2, m2, HC1.out.trans c2⟩)
  clear m2 c2
  go_wp2_with fail
  refine bodyPost_ret (results_none rfl _ _ _) rfl ?_
  exact ⟨rfl, Q.out⟩
set_option maxRecDepth 100000 in
set_option maxHeartbeats 8000000 in
/-- The last bracket leads nowhere. -/
theorem takeEnd_lost (h : MemI W B O s rs p lv (.slice Ab p.br.length cb) rv fi pm tm em L) (wf : WfI s.data.toList p) (hp : p.pos < s.size) {b : Br} (hb : p.br.getLast? = some b) (hd : b.image = true ∨ p.dead ≤ p.br.length - 1) (h0 : (ldsM s.data.toList rs p b).2.2 = 0) :
    Calls Tryz.prog 15 #[.pointer (some ⟨B, 0, none⟩)] W fun e w' => e = .returned (.tuple #[]) ∧ PostI W B O s rs (byteM s.data.toList (popI p)) w' := by
  have LB := Lib.hid (lastBracket_some h hb)
  have hv : (b.image || decide (p.dead ≤ p.br.length - 1)) = true := by
    simp only [Bool.or_eq_true, decide_eq_true_eq]
    exact hd
  rw [hv] at LB
  have HW := Lib.hid wf.pop
  have hbm : b ∈ p.br := by
    obtain ⟨ys, e2⟩ := List.getLast?_eq_some_iff.1 hb
    rw [e2]; simp
  have hbp := (wf.br b hbm).2
  have hbl : 1 ≤ p.br.length := by
    cases hx : p.br with
    | nil => rw [hx] at hbm; cases hbm
    | cons a l => simp
  have hdl : (popI p).br.length = p.br.length - 1 := List.length_dropLast
  have LD := Lib.hid (fun w O1 lv bv rv pm tm em L (m : MemI w B O1 s rs (popI p) lv bv rv fi pm tm em L) => leads_mid m hp (by rw [hdl]; have := h.fin; show fi + (p.br.length - 1) + 1 ≤ p.pos; omega) b (by omega))
  have hl : ldsM s.data.toList rs (popI p) b = ldsM s.data.toList rs p b := rfl
  have hV : ∃ sd st : ByteArray, ldsV (ldsM s.data.toList rs (popI p) b) = .tuple #[.string sd, .string st, .int .i64 0] := by
    rw [hl]
    unfold ldsV
    rw [h0]
    exact ⟨_, _, rfl⟩
  obtain ⟨sd, st, hV⟩ := hV
  rw [hV] at LD
  clear h wf hv hd hb hbm hbp hbl hdl hl hV h0
  unfold brV at LB LD
  go_enter Tryz.func15, Tryz.ntmps15
  go_wp2_with fail
  refine LB.out.mono ?_
  rintro e w1 ⟨rfl, O1, m1, c1⟩
  have k2 := (Keeps.refl w1).alloc (.cells #[.int .i64 b.place, .int .i64 b.pos, .bool b.image] 63)
  have LD1 := Lib.hid (LD.out _ _ _ _ _ _ _ _ _ (m1.keep k2))
  have HC1 := Lib.hid (c1.trans (Chg.keeps O1 k2))
  clear m1 c1 k2
  go_wp2_with fail
  refine LD1.out.mono ?_
  rintro e w2 ⟨rfl, hm⟩
  have HB1 := Lib.hid (hm.take HW.out hp w2 (Keeps.refl w2))
  clear hm
  go_wp2_with fail
  refine HB1.out.mono ?_
  rintro e w3 ⟨rfl, O2, m2, c2⟩
  have Q := Lib.hid (show PostI W B O s rs (byteM s.data.toList (popI p)) w3 from ⟨O2, m2, HC1.out.trans c2⟩)
  clear m2 c2
  go_wp2_with fail
  refine bodyPost_ret (results_none rfl _ _ _) rfl ?_
  exact ⟨rfl, Q.out⟩
end
end Go.Proofs.YtklmgbkkjmfhcaaGreatDoor

/-
  Contract of takeEnd: the link's span is made.
-/
namespace Go.Proofs.YtklmgbkkjmfhcaaGreatDoor
open Go.RowKit Go.Lib Go.Maps

/-- The span has been laid down in block S: its kids lie in memory that nothing turns any more. -/
structure LinkAt (w2 : World) (O2 : Nat → Option Nat) (sd st : ByteArray) (l : List Sp) (S : Nat) (v : Value) (wy : World) : Prop where
  keep : Keeps w2 wy
  size : w2.heap.size ≤ S
  kids : SpsAt wy (fun b => O2 b = none ∧ b < wy.heap.size ∧ b ≠ S) l v
  span : Blk wy S 31 #[.int .i64 8, .string ⟨#[]⟩, .string sd, .string st, v]
theorem MemI.tail {W : World} {B : Nat} {O : Nat → Option Nat} {s : ByteArray} {rs : List Rf} {p : Ps} {lv bv rv : Value} {fi : Nat} {pm tm em : Value} {L : List (Pc × Value)} (m : MemI W B O s rs p lv bv rv fi pm tm em L) (k : Nat) : tsum ((L.drop k).map Prod.fst) ≤ 20000 := by
  have h1 := tsum_dropL L k
  rw [m.eq] at h1
  have h2 := m.wf.sum
  have h3 := m.wf.pos
  rw [bytes_len] at h3
  have := m.siz
  omega
theorem set5 {a b : World} (k : Keeps a b) {g : Nat} (hg : a.heap.size ≤ g) (v0 v1 v2 v3 v4 : Value) : Keeps a (((((b.setCell ⟨g, 0, none⟩ v0).setCell ⟨g, 1, none⟩ v1).setCell ⟨g, 2, none⟩ v2).setCell ⟨g, 3, none⟩ v3).setCell ⟨g, 4, none⟩ v4) :=
  ((((k.set hg 0 v0).set hg 1 v1).set hg 2 v2).set hg 3 v3).set hg 4 v4
theorem same5 {b : World} {g : Nat} (v0 v1 v2 v3 v4 : Value) (x : Nat) (h : x ≠ g) : (((((b.setCell ⟨g, 0, none⟩ v0).setCell ⟨g, 1, none⟩ v1).setCell ⟨g, 2, none⟩ v2).setCell ⟨g, 3, none⟩ v3).setCell ⟨g, 4, none⟩ v4).heap[x]? = b.heap[x]? := by
  rw [heap_setCell_other _ _ _ _ h, heap_setCell_other _ _ _ _ h, heap_setCell_other _ _ _ _ h, heap_setCell_other _ _ _ _ h, heap_setCell_other _ _ _ _ h]
theorem size5 {b : World} {g : Nat} (v0 v1 v2 v3 v4 : Value) : (((((b.setCell ⟨g, 0, none⟩ v0).setCell ⟨g, 1, none⟩ v1).setCell ⟨g, 2, none⟩ v2).setCell ⟨g, 3, none⟩ v3).setCell ⟨g, 4, none⟩ v4).heap.size = b.heap.size := by
  rw [setCell_size, setCell_size, setCell_size, setCell_size, setCell_size]
section
variable {w2 we wa ws wb wy : World} {O2 : Nat → Option Nat} {P1 : Nat → Prop} {l : List Sp} {v : Value} {S : Nat}
/-- Where the kids lie: not where the parser's own blocks are, nor the span's. -/
theorem kids_out (hlt : ∀ b, O2 b ≠ none → b < w2.heap.size) (se : w2.heap.size ≤ we.heap.size) (sa : we.heap.size ≤ wa.heap.size) (ss : wa.heap.size ≤ ws.heap.size) (sb : ws.heap.size ≤ wb.heap.size) (sy : wb.heap.size ≤ wy.heap.size)
    (hp1 : ∀ b, P1 b → Out O2 w2 b ∨ we.heap.size ≤ b) (hp2 : ∀ b, P1 b → b < wa.heap.size)
    (hS : (w2.heap.size ≤ S ∧ S < we.heap.size) ∨ (wa.heap.size ≤ S ∧ S < ws.heap.size) ∨ wb.heap.size ≤ S)
    (hy : ∀ b, b < wb.heap.size → b ≠ S → wy.heap[b]? = wb.heap[b]?) (h : SpsAt wb (Nx P1 ws wb) l v) : SpsAt wy (fun b => O2 b = none ∧ b < wy.heap.size ∧ b ≠ S) l v := by
  have nx : ∀ b, w2.heap.size ≤ b → O2 b = none := fun b hb => by
    cases e : O2 b with
    | none => rfl
    | some x => have := hlt b (by rw [e]; simp); omega
  have key : ∀ b, Nx P1 ws wb b → O2 b = none ∧ b < wb.heap.size ∧ b ≠ S := fun b hb => by
    rcases hb with hb | hb
    · have h2 := hp2 b hb
      rcases hp1 b hb with h1 | h1
      · have h3 := h1.2
        exact ⟨h1.1, by omega, by omega⟩
      · exact ⟨nx b (by omega), by omega, by omega⟩
    · exact ⟨nx b (by omega), hb.2, by omega⟩
  exact h.same (fun b hb => ⟨(key b hb).1, by have := (key b hb).2.1; omega, (key b hb).2.2⟩) fun b hb => hy b (key b hb).2.1 (key b hb).2.2
variable {sd st : ByteArray} {cs : Array Value}
/-- The span's block was made ahead of both calls. -/
theorem link_one (hlt : ∀ b, O2 b ≠ none → b < w2.heap.size) (ke : Keeps w2 we) (ka : Keeps we wa) (kb : Keeps wa wb) (hp1 : ∀ b, P1 b → Out O2 w2 b ∨ we.heap.size ≤ b) (hp2 : ∀ b, P1 b → b < wa.heap.size) (hS : w2.heap.size < we.heap.size)
    (bT : Blk wb w2.heap.size 31 #[.int .i64 0, .string ⟨#[]⟩, .string ⟨#[]⟩, .string ⟨#[]⟩, .slice none 0 0]) (h : SpsAt wb (Nx P1 wa wb) l v) :
    LinkAt w2 O2 sd st l w2.heap.size v (((((wb.setCell ⟨w2.heap.size, 0, none⟩ (.int .i64 8)).setCell ⟨w2.heap.size, 1, none⟩ (.string ⟨#[]⟩)).setCell ⟨w2.heap.size, 2, none⟩ (.string sd)).setCell ⟨w2.heap.size, 3, none⟩ (.string st)).setCell ⟨w2.heap.size, 4, none⟩ v) where
  keep := set5 (ke.trans (ka.trans kb)) (Nat.le_refl _) _ _ _ _ _
  size := Nat.le_refl _
  kids := kids_out hlt ke.size ka.size (Nat.le_refl _) kb.size (by rw [size5]; exact Nat.le_refl _) hp1 hp2 (.inl ⟨Nat.le_refl _, hS⟩) (fun b _ hb => same5 _ _ _ _ _ b hb) h
  span := ((((bT.set 0 (.int .i64 8) rfl).set 1 (.string ⟨#[]⟩) rfl).set 2 (.string sd) rfl).set 3 (.string st) rfl).set 4 v rfl
/-- .. between them. -/
theorem link_two (hlt : ∀ b, O2 b ≠ none → b < w2.heap.size) (ke : Keeps w2 we) (ka : Keeps we wa) (kb : Keeps (wa.alloc (.cells #[.int .i64 0, .string ⟨#[]⟩, .string ⟨#[]⟩, .string ⟨#[]⟩, .slice none 0 0] 31)) wb) (hp1 : ∀ b, P1 b → Out O2 w2 b ∨ we.heap.size ≤ b) (hp2 : ∀ b, P1 b → b < wa.heap.size)
    (bT : Blk wb wa.heap.size 31 #[.int .i64 0, .string ⟨#[]⟩, .string ⟨#[]⟩, .string ⟨#[]⟩, .slice none 0 0]) (h : SpsAt wb (Nx P1 (wa.alloc (.cells #[.int .i64 0, .string ⟨#[]⟩, .string ⟨#[]⟩, .string ⟨#[]⟩, .slice none 0 0] 31)) wb) l v) :
    LinkAt w2 O2 sd st l wa.heap.size v (((((wb.setCell ⟨wa.heap.size, 0, none⟩ (.int .i64 8)).setCell ⟨wa.heap.size, 1, none⟩ (.string ⟨#[]⟩)).setCell ⟨wa.heap.size, 2, none⟩ (.string sd)).setCell ⟨wa.heap.size, 3, none⟩ (.string st)).setCell ⟨wa.heap.size, 4, none⟩ v) where
  keep := set5 (ke.trans (ka.trans (((Keeps.refl wa).alloc _).trans kb))) (ke.trans ka).size _ _ _ _ _
  size := (ke.trans ka).size
  kids := kids_out hlt ke.size ka.size ((Keeps.refl wa).alloc _).size kb.size (by rw [size5]; exact Nat.le_refl _) hp1 hp2 (.inr (.inl ⟨Nat.le_refl _, by simp⟩)) (fun b _ hb => same5 _ _ _ _ _ b hb) h
  span := ((((bT.set 0 (.int .i64 8) rfl).set 1 (.string ⟨#[]⟩) rfl).set 2 (.string sd) rfl).set 3 (.string st) rfl).set 4 v rfl
/-- .. behind them. -/
theorem link_three (hlt : ∀ b, O2 b ≠ none → b < w2.heap.size) (ke : Keeps w2 we) (ka : Keeps we wa) (kb : Keeps wa wb) (hp1 : ∀ b, P1 b → Out O2 w2 b ∨ we.heap.size ≤ b) (hp2 : ∀ b, P1 b → b < wa.heap.size) (h : SpsAt wb (Nx P1 wa wb) l v) :
    LinkAt w2 O2 sd st l wb.heap.size v (wb.alloc (.cells #[.int .i64 8, .string ⟨#[]⟩, .string sd, .string st, v] 31)) where
  keep := (ke.trans (ka.trans kb)).alloc _
  size := (ke.trans (ka.trans kb)).size
  kids := kids_out hlt ke.size ka.size (Nat.le_refl _) kb.size ((Keeps.refl wb).alloc _).size hp1 hp2 (.inr (.inr (Nat.le_refl _))) (fun b hb _ => ((Keeps.refl wb).alloc _).block b hb) h
  span := Blk.new wb _ _
end
/-- .. and what it is, a link or an image, is told. -/
structure LinkB (w2 : World) (B : Nat) (O2 : Nat → Option Nat) (cs : Array Value) (kd : Nat) (sd st : ByteArray) (l : List Sp) (S : Nat) (v : Value) (wz : World) : Prop where
  os : wz.os = w2.os
  tape : wz.tape = w2.tape
  output : wz.output = w2.output
  size : w2.heap.size ≤ wz.heap.size
  block : ∀ b, b < w2.heap.size → b ≠ B → wz.heap[b]? = w2.heap[b]?
  after : w2.heap.size ≤ S
  kids : SpsAt wz (fun b => O2 b = none ∧ b < wz.heap.size ∧ b ≠ S) l v
  span : Blk wz S 31 #[.int .i64 kd, .string ⟨#[]⟩, .string sd, .string st, v]
  box : Blk wz B 38 cs
section
variable {w2 wy : World} {B : Nat} {O2 : Nat → Option Nat} {sd st : ByteArray} {l : List Sp} {S : Nat} {v : Value} {cs : Array Value}
theorem LinkAt.image (h : LinkAt w2 O2 sd st l S v wy) (hb : Blk w2 B 38 cs) : LinkB w2 B O2 cs 8 sd st l S v wy :=
  ⟨h.keep.os, h.keep.tape, h.keep.output, h.keep.size, fun b hb _ => h.keep.block b hb, h.size, h.kids, h.span, hb.keep h.keep⟩
theorem LinkAt.link (h : LinkAt w2 O2 sd st l S v wy) (hb : Blk w2 B 38 cs) (hO : O2 B = some 0) {cs' : Array Value} (u : Value) (he : cs.setIfInBounds 4 u = cs') :
    LinkB w2 B O2 cs' 7 sd st l S v ((wy.setCell ⟨S, 0, none⟩ (.int .i64 7)).setCell ⟨B, 4, none⟩ u) := by
  have hlt := hb.lt
  have hs := h.size
  have same : ∀ b, b ≠ S → b ≠ B → ((wy.setCell ⟨S, 0, none⟩ (.int .i64 7)).setCell ⟨B, 4, none⟩ u).heap[b]? = wy.heap[b]? := fun b h1 h2 => by
    rw [heap_setCell_other _ ⟨B, 4, none⟩ b _ h2, heap_setCell_other _ ⟨S, 0, none⟩ b _ h1]
  have hz : ((wy.setCell ⟨S, 0, none⟩ (.int .i64 7)).setCell ⟨B, 4, none⟩ u).heap.size = wy.heap.size := by rw [setCell_size, setCell_size]
  exact ⟨h.keep.os, h.keep.tape, h.keep.output, by rw [hz]; exact h.keep.size, fun b h1 h2 => (same b (by omega) h2).trans (h.keep.block b h1), h.size,
    h.kids.same (fun b hb => ⟨hb.1, by rw [hz]; exact hb.2.1, hb.2.2⟩) (fun b hb => same b hb.2.2 (fun e => by rw [e, hO] at hb; cases hb.1)),
    (h.span.set 0 (.int .i64 7) rfl).other (by omega) 4 u, ((hb.keep h.keep).other (by omega) 0 _).set 4 u he⟩
end
section
variable {W w2 wz W4 w5 : World} {B : Nat} {O O2 : Nat → Option Nat} {s : ByteArray} {rs : List Rf} {p : Ps} {bv rv : Value} {fi : Nat} {pm tm em : Value} {L : List (Pc × Value)} {g cl : Nat} {cs : Array Value} {d t : List UInt8} {l : List Sp} {S kd dd n x0 : Nat} {v v' : Value}
theorem link_row (m : MemI w2 B O2 s rs p (.slice (some ⟨g, 0, none⟩) L.length cl) bv rv fi pm tm em L) (z : LinkB w2 B O2 cs kd ⟨d.toArray⟩ ⟨t.toArray⟩ l S v wz) (k : Keeps wz W4) : W4.ownsRow 0 42 9 (.slice (some ⟨g, 0, none⟩) L.length cl) L.length (pcR L) :=
  row_same m.row fun b e => by
    have h1 := m.oL b e
    have h2 := m.lt b (by rw [h1]; simp)
    have := z.size
    rw [k.block b (by omega), z.block b h2 (fun e => by rw [e, m.oB] at h1; cases h1)]
theorem link_done (m : MemI w2 B O2 s rs p (.slice (some ⟨g, 0, none⟩) L.length cl) bv rv fi pm tm em L) (c2 : Chg W O w2 O2) (z : LinkB w2 B O2 (boxI s { p with dead := dd } (.slice (some ⟨g, 0, none⟩) L.length cl) bv rv fi pm tm em) kd ⟨d.toArray⟩ ⟨t.toArray⟩ l S v wz) (k : Keeps wz W4)
    (row : w5.ownsRow 0 42 9 v' (L.take x0 ++ [(spanP kd [] d t l, v)]).length (pcR (L.take x0 ++ [(spanP kd [] d t l, v)]))) (gr : W4.grownBy w5 (some g)) (ob : v'.ownBlock = some g ∨ v'.ownBlock = some W4.heap.size)
    (wf : WfI s.data.toList { p with pos := p.pos + n, list := p.list.take x0 ++ [spanP kd [] d t l], dead := dd }) :
    PostI W B O s rs { p with pos := p.pos + n, list := p.list.take x0 ++ [spanP kd [] d t l], dead := dd } ((w5.setCell ⟨B, 2, none⟩ v').setCell ⟨B, 1, none⟩ (.int .i64 ((p.pos + n : Nat) : Int))) := by
  have hgO : O2 g = some 1 := m.oL g rfl
  have hgl : g < w2.heap.size := m.lt g (by rw [hgO]; simp)
  have hBl : B < w2.heap.size := m.box.lt
  have hgB : g ≠ B := fun e => by rw [e, m.oB] at hgO; cases hgO
  have s1 := z.size
  have s2 := k.size
  have s3 := gr.size
  have hz : ((w5.setCell ⟨B, 2, none⟩ v').setCell ⟨B, 1, none⟩ (.int .i64 ((p.pos + n : Nat) : Int))).heap.size = w5.heap.size := by rw [setCell_size, setCell_size]
  have sB : ∀ b, b ≠ B → ((w5.setCell ⟨B, 2, none⟩ v').setCell ⟨B, 1, none⟩ (.int .i64 ((p.pos + n : Nat) : Int))).heap[b]? = w5.heap[b]? := fun b hb => by
    rw [heap_setCell_other _ ⟨B, 1, none⟩ b _ hb, heap_setCell_other _ ⟨B, 2, none⟩ b _ hb]
  have s5 : ∀ b, b < wz.heap.size → b ≠ g → w5.heap[b]? = wz.heap[b]? := fun b hb hg => (gr.block b (by omega) (fun e => hg (Option.some.inj e))).trans (k.block b hb)
  have bx : Blk w5 B 38 (boxI s { p with dead := dd } (.slice (some ⟨g, 0, none⟩) L.length cl) bv rv fi pm tm em) := by
    unfold Blk
    rw [s5 B (by omega) (fun e => hgB e.symm)]
    exact z.box
  have hv' : ∀ b, b < w2.heap.size → O2 b ≠ some 1 → v'.ownBlock ≠ some b := fun b h1 h2 e => by
    rcases ob with q | q
    · rw [q] at e; cases e; exact h2 hgO
    · rw [q] at e; cases e; omega
  have hbv : ∀ b, O2 b = none → bv.ownBlock ≠ some b := fun b h1 e => by rw [m.oK b e] at h1; cases h1
  obtain ⟨O', m', c'⟩ := m.next (W' := (w5.setCell ⟨B, 2, none⟩ v').setCell ⟨B, 1, none⟩ (.int .i64 ((p.pos + n : Nat) : Int))) (p' := { p with pos := p.pos + n, list := p.list.take x0 ++ [spanP kd [] d t l], dead := dd }) (lv' := v') (bv' := bv) (fi' := fi) (L' := L.take x0 ++ [(spanP kd [] d t l, v)])
    (gr.os.trans (k.os.trans z.os)) (gr.tape.trans (k.tape.trans z.tape)) (gr.output.trans (k.output.trans z.output)) (by rw [hz]; omega)
    (fun b hb h0 h1 _ => by
      have hB : b ≠ B := fun e => h0 (by rw [e]; exact m.oB)
      rw [sB b hB, s5 b (by omega) (fun e => h1 (by rw [e]; exact hgO)), z.block b hb hB])
    ((bx.set 2 v' rfl).set 1 (.int .i64 ((p.pos + n : Nat) : Int)) rfl)
    (row_same row fun b e => sB b (fun q => hv' B hBl (by rw [m.oB]; simp) (by rw [← q]; exact e)))
    (by rcases ob with q | q
        · exact .inl (by rw [q]; rfl)
        · exact .inr ⟨_, by omega, q⟩)
    (row_same m.brs fun b e => by
      have h1 := m.oK b e
      have h2 := m.lt b (by rw [h1]; simp)
      have hB : b ≠ B := fun e => by rw [e, m.oB] at h1; cases h1
      rw [sB b hB, s5 b (by omega) (fun e => by rw [e, hgO] at h1; cases h1), z.block b h2 hB])
    (.inl rfl)
    (by rw [List.map_append, List.map_take, m.eq]; rfl)
    (fun x hx => by
      rcases List.mem_append.1 hx with h | h
      · have h1 := m.kid x (List.mem_of_mem_take h)
        refine h1.same (fun b hb => ⟨hb.1, by have := hb.2; rw [hz]; omega, hv' b hb.2 (by rw [hb.1]; simp), hbv b hb.1⟩) fun b hb => ?_
        have hB : b ≠ B := fun e => by rw [e] at hb; have := hb.1; rw [m.oB] at this; cases this
        have := hb.2
        rw [sB b hB, s5 b (by omega) (fun e => by rw [e] at hb; have := hb.1; rw [hgO] at this; cases this), z.block b hb.2 hB]
      · rw [List.mem_singleton.1 h]
        refine z.kids.same (fun b hb => ⟨hb.1, by have := hb.2.1; rw [hz]; omega, fun e => ?_, hbv b hb.1⟩) fun b hb => ?_
        · rcases ob with q | q
          · rw [q] at e; cases e; have := hb.1; rw [hgO] at this; cases this
          · rw [q] at e; cases e; have := hb.2.1; omega
        · rw [sB b (fun e => by rw [e] at hb; have := hb.1; rw [m.oB] at this; cases this), s5 b hb.2.1 (fun e => by rw [e] at hb; have := hb.1; rw [hgO] at this; cases this)])
    (by have := m.fin; show fi + p.br.length ≤ p.pos + n; omega) wf.core
    (fun x hx => by
      rcases List.mem_append.1 hx with h | h
      · exact m.fst x (List.mem_of_mem_take h)
      · rw [List.mem_singleton.1 h]; exact Nat.zero_le _)
  exact ⟨O', ⟨wf, _, _, _, _, _, _, _, _, m'⟩, c2.trans c'⟩
end
theorem Blk.grown {W W' : World} {b g : Nat} {t : TypeId} {cs : Array Value} (h : Blk W b t cs) (gr : W.grownBy W' (some g)) (hb : b ≠ g) : Blk W' b t cs := by
  unfold Blk
  rw [gr.block b h.lt (fun e => hb (Option.some.inj e))]
  exact h
section
variable {W : World} {B : Nat} {O : Nat → Option Nat} {s : ByteArray} {rs : List Rf} {p : Ps} {rv : Value} {fi : Nat} {pm tm em : Value} {L : List (Pc × Value)} {Ab : Option Addr} {cb g cl : Nat}
set_option linter.unusedSimpArgs false in
set_option maxRecDepth 100000 in
set_option maxHeartbeats 16000000 in
theorem takeEnd_link (h : MemI W B O s rs p (.slice (some ⟨g, 0, none⟩) L.length cl) (.slice Ab p.br.length cb) rv fi pm tm em L) (wf : WfI s.data.toList p) (hp : p.pos < s.size) {b : Br} (hb : p.br.getLast? = some b) (hd : b.image = true ∨ p.dead ≤ p.br.length - 1) (h0 : (ldsM s.data.toList rs p b).2.2 ≠ 0) :
    Calls Tryz.prog 15 #[.pointer (some ⟨B, 0, none⟩)] W fun e w' => e = .returned (.tuple #[]) ∧ PostI W B O s rs (endM s.data.toList rs p) w' := by
  have LB := Lib.hid (lastBracket_some h hb)
  have hv : (b.image || decide (p.dead ≤ p.br.length - 1)) = true := by
    simp only [Bool.or_eq_true, decide_eq_true_eq]
    exact hd
  rw [hv] at LB
  have hbm : b ∈ p.br := by
    obtain ⟨ys, e2⟩ := List.getLast?_eq_some_iff.1 hb
    rw [e2]; simp
  obtain ⟨hpl, hbp⟩ := wf.br b hbm
  have hbl : 1 ≤ p.br.length := by
    cases hx : p.br with
    | nil => rw [hx] at hbm; cases hbm
    | cons a l => simp
  have hdl : (popI p).br.length = p.br.length - 1 := List.length_dropLast
  have LD := Lib.hid (fun w O1 lv bv rv pm tm em L (m : MemI w B O1 s rs (popI p) lv bv rv fi pm tm em L) => leads_mid m hp (by rw [hdl]; have := h.fin; show fi + (p.br.length - 1) + 1 ≤ p.pos; omega) b (by omega))
  rw [show ldsM s.data.toList rs (popI p) b = ldsM s.data.toList rs p b from rfl] at LD
  have hE := endM_some (rs := rs) (s := s.data.toList) hb
  rw [if_pos hd, if_neg h0] at hE
  have hon := wf.fin (rs := rs) (by rw [bytes_len]; exact hp)
  have hll : L.length = p.list.length := by rw [← h.eq, List.length_map]
  have hlen := wf.len
  have hsiz := h.siz
  have hcl : L.length ≤ cl := by
    obtain ⟨_, _, e0, h1, _⟩ := row_form h.row
    simp only [Value.slice.injEq] at e0
    omega
  generalize hld : ldsM s.data.toList rs p b = ld at *
  obtain ⟨d, t, n⟩ := ld
  dsimp only at *
  have hne := Lib.hid h0
  have q0 := beqF (show ¬ (n : Int) = 0 by omega)
  have HE := Lib.hid hE
  have HON := Lib.hid hon
  have hposn : p.pos + n ≤ s.size := by
    have := hon.1.pos
    rw [hE, bytes_len] at this
    exact this
  unfold ldsV at LD
  dsimp only at LD
  unfold brV at LB LD
  obtain ⟨x0, x1, x2⟩ := b
  dsimp only at *
  have hx0 : (x0 : Nat) < L.length := by omega
  have hxs : IntKind.i64.wrap ((x0 : Int) + 1) = (x0 : Int) + 1 := IntWalk.i64_in _ (by omega)
  obtain ⟨sd, hsd⟩ : ∃ sd : ByteArray, (⟨d.toArray⟩ : ByteArray) = sd := ⟨_, rfl⟩
  obtain ⟨st, hst⟩ : ∃ st : ByteArray, (⟨t.toArray⟩ : ByteArray) = st := ⟨_, rfl⟩
  rw [hsd, hst] at LD
  have HSD := Lib.hid hsd
  have HST := Lib.hid hst
  have hLn : L.length ≤ 20000 := by omega
  have HLL := Lib.hid hll
  clear h wf hv hd hb hbm hbl hdl h0 hE hon hld hsd hst hbp hll hlen hpl
  go_enter Tryz.func15, Tryz.ntmps15
  go_wp2_with fail
  refine LB.out.mono ?_
  rintro e w1 ⟨rfl, O1, m1, c1⟩
  have k2 := (Keeps.refl w1).alloc (.cells #[.int .i64 x0, .int .i64 x1, .bool x2] 63)
  have LD1 := Lib.hid (LD.out _ _ _ _ _ _ _ _ _ (m1.keep k2))
  have HC1 := Lib.hid (c1.trans (Chg.keeps O1 k2))
  have hO1 : O1 w1.heap.size = none := by
    cases e : O1 w1.heap.size with
    | none => rfl
    | some x => have := m1.lt _ (by rw [e]; simp); omega
  have HBB := Lib.hid (Blk.new w1 63 #[.int .i64 x0, .int .i64 x1, .bool x2])
  obtain ⟨Bb, hBb⟩ : ∃ Bb, w1.heap.size = Bb := ⟨_, rfl⟩
  have HBbl : Hid (Bb < (w1.alloc (.cells #[.int .i64 x0, .int .i64 x1, .bool x2] 63)).heap.size) := Lib.hid (by simp; omega)
  rw [hBb] at HBB hO1
  clear m1 c1 k2
  go_wp2_with fail
  refine LD1.out.mono ?_
  rintro e w2 ⟨rfl, O2, fi2, pm2, tm2, em2, m2, c2⟩
  have HB2 : Hid (Blk w2 Bb 63 #[.int .i64 x0, .int .i64 x1, .bool x2]) := Lib.hid (c2.blk HBB.out hO1)
  have HO2 : Hid (O2 Bb = none) := Lib.hid ((c2.own Bb HBbl.out).trans hO1)
  have HC2 := Lib.hid (HC1.out.trans c2)
  have HM2 := Lib.hid m2
  have hB2s : B < w2.heap.size := m2.box.lt
  have hBbs : Bb < w2.heap.size := HB2.out.lt
  have hBBb : B ≠ Bb := fun e => by have := HO2.out; rw [← e, m2.oB] at this; cases this
  clear m2 c2 hO1 hBb HBB HBbl HC1 LD LD1 LB
  have NS : ∀ w', Keeps w2 w' → Keeps w2 w' ∧ w'.cell? ⟨B, 2, none⟩ = some (.slice (some ⟨g, 0, none⟩) L.length cl) ∧ w'.cell? ⟨Bb, 0, none⟩ = some (.int .i64 (x0 : Nat)) := fun w' q => ⟨q, (HM2.out.box.keep q).cell 2 rfl, (HB2.out.keep q).cell 0 rfl⟩
  have KD := (Keeps.refl w2).drew
  have hV := Vw.of_own HM2.out.row
  have VC := Lib.hid (fun W' (k : Keeps w2 W') => (hV.keep k).cutS (k := x0 + 1) (cap := cl) (by omega) hcl)
  simp only [Nat.zero_add] at VC
  have HKD := Lib.hid (fun W' (k : Keeps w2 W') => (HM2.out.kid.drop (x0 + 1)).same (fun b hb => hb) (fun b hb => k.block b hb.2))
  have HTS : Hid (tsum ((L.drop (x0 + 1)).map Prod.fst) ≤ 100000) := Lib.hid (by have := HM2.out.tail (x0 + 1); omega)
  have HFS : Hid (∀ x ∈ L.drop (x0 + 1), x.1.first ≤ 1000000) := Lib.hid (fun x hx => HM2.out.fst x.1 (by rw [← HM2.out.eq]; exact List.mem_map_of_mem (List.mem_of_mem_drop hx)))
  have HEM : Hid (∀ L1 : List (Pc × Value), L1.map Prod.fst = emM ((L.drop (x0 + 1)).map Prod.fst) → L1.length ≤ 1000000 ∧ tsum (L1.map Prod.fst) ≤ 1000000) := Lib.hid (fun L1 e => by
    have h1 := em_ok ((L.drop (x0 + 1)).map Prod.fst)
    have h2 := HTS.out
    rw [List.length_map, List.length_drop] at h1
    have h3 : L1.length = (emM ((L.drop (x0 + 1)).map Prod.fst)).length := by rw [← e, List.length_map]
    rw [e]
    omega)
  have hclm : cl ≤ maxLen := by
    obtain ⟨_, _, e0, _, h1⟩ := row_form HM2.out.row
    simp only [Value.slice.injEq] at e0
    omega
  clear hV
  have HLT := Lib.hid HM2.out.lt
  have KA : Keeps w2 ((w2.alloc (.cells zeroSp 31)).drew) := ((Keeps.refl w2).alloc _).drew
  unfold zeroSp at KA
  have hS0 : w2.heap.size < ((w2.alloc (.cells #[.int .i64 0, .string ⟨#[]⟩, .string ⟨#[]⟩, .string ⟨#[]⟩, .slice none 0 0] 31)).drew).heap.size := by
    show w2.heap.size < (w2.alloc _).heap.size
    simp
  go_upto_region 6 with fail
  go_cut [7] (fun s7 wx => ∃ S A1 m1 c1 wy, s7 = .pointer (some ⟨S, 0, none⟩) ∧ wy = wx ∧ Hid (LinkAt w2 O2 sd st (spansM (emM ((L.drop (x0 + 1)).map Prod.fst))) S (.slice A1 m1 c1) wy))
  case first =>
    have i0 : (0 : Int) ≤ (x0 : Int) + 1 := by omega
    have i1 : (x0 : Int) + 1 ≤ (L.length : Int) := by omega
    have i3 : ((x0 : Int) + 1).toNat = x0 + 1 := by omega
    by_cases hco : cl = x0 + 1
    · subst hco
      simp only [if_true] at VC
      have hz0 : L.length - (x0 + 1) = 0 := by omega
      rw [hz0] at VC
      have i2 : (L.length : Int) ≤ ((x0 + 1 : Nat) : Int) := by omega
      have i4 : (x0 : Int) + 1 ≤ ((x0 + 1 : Nat) : Int) := by omega
      go_region_held3 (fun w' => Keeps w2 w' ∧ w'.cell? ⟨B, 2, none⟩ = some (.slice (some ⟨g, 0, none⟩) L.length (x0 + 1)) ∧ w'.cell? ⟨Bb, 0, none⟩ = some (.int .i64 (x0 : Nat)))
        (first | (with_reducible assumption) | (with_reducible exact NS _ KD) | (with_reducible exact NS _ KA) | (with_reducible exact NS _ kb) | (with_reducible exact NS _ (Keeps.alloc kb _)) | (with_reducible exact NS _ (Keeps.alloc ka _)) | (with_reducible exact NS _ ka) | (with_reducible exact NS _ (ks _ _ _ _ _)))
        (first
          | (go_at_call 9; go_loud (refine (emphasized_any _ 0 0 (L.drop (x0 + 1)) (Out O2 w2) _ (VC.out _ (by first | with_reducible exact KD | with_reducible exact KA)) (HKD.out _ (by first | with_reducible exact KD | with_reducible exact KA)) (fun b hb => (by first | exact Nat.lt_of_lt_of_le hb.2 KD.size | exact Nat.lt_of_lt_of_le hb.2 KA.size)) (by omega) HTS.out HFS.out).mono ?_); rintro e wa ⟨A1, n1, c1, L1, P1, rfl, hv1, hnc1, hc1, hk1, hl1, ka0, hp1, hp2⟩; have ka : Keeps w2 wa := (by first | exact KD.trans ka0 | exact KA.trans ka0); (first | have bS : Blk wa w2.heap.size 31 #[.int .i64 0, .string ⟨#[]⟩, .string ⟨#[]⟩, .string ⟨#[]⟩, .slice none 0 0] := (Blk.new w2 _ _).drew.keep ka0 | skip))
          | (go_at_call 8; go_loud (first | refine (spans_any A1 n1 c1 L1 P1 wa hv1 hk1 hp2 (by have := (HEM.out L1 hl1).1; have := hv1.1; omega) hnc1 hc1 (HEM.out L1 hl1).2).mono ?_ | refine (spans_any A1 n1 c1 L1 P1 _ (hv1.keep ((Keeps.refl wa).alloc _)) (hk1.keep hp2 ((Keeps.refl wa).alloc _)) (fun b hb => Nat.lt_of_lt_of_le (hp2 b hb) ((Keeps.refl wa).alloc _).size) (by have := (HEM.out L1 hl1).1; have := hv1.1; omega) hnc1 hc1 (HEM.out L1 hl1).2).mono ?_); rintro e wb ⟨v1, rfl, hv2, kb0⟩; obtain ⟨A2, m2, c2, rfl⟩ := hv2.form; rw [hl1] at hv2; have kb : Keeps w2 wb := (by first | exact ka.trans kb0 | exact (ka.alloc _).trans kb0); (first | (have bT : Blk wb w2.heap.size 31 #[.int .i64 0, .string ⟨#[]⟩, .string ⟨#[]⟩, .string ⟨#[]⟩, .slice none 0 0] := bS.keep kb0; have ks := set5 kb (g := w2.heap.size) (Nat.le_refl _)) | (have bT : Blk wb wa.heap.size 31 #[.int .i64 0, .string ⟨#[]⟩, .string ⟨#[]⟩, .string ⟨#[]⟩, .slice none 0 0] := (Blk.new wa _ _).keep kb0; have ks := set5 kb (g := wa.heap.size) ka.size) | skip); (first | (have y0 := bT.cell 0 (v := .int .i64 0) rfl; have y1 := bT.cell 1 (v := .string ⟨#[]⟩) rfl; have y2 := bT.cell 2 (v := .string ⟨#[]⟩) rfl; have y3 := bT.cell 3 (v := .string ⟨#[]⟩) rfl; have y4 := bT.cell 4 (v := .slice none 0 0) rfl; have f0 := bT.free 0; have f1 := bT.free 1; have f2 := bT.free 2; have f3 := bT.free 3; have f4 := bT.free 4) | skip)))
      all_goals
        go_wp2_with fail
        go_meet
        case rel =>
          first
            | exact ⟨_, _, _, _, _, rfl, rfl, Lib.hid (link_one HLT.out KA ka0 kb0 hp1 hp2 hS0 bT hv2)⟩
            | exact ⟨_, _, _, _, _, rfl, rfl, Lib.hid (link_two HLT.out KD ka0 kb0 hp1 hp2 bT hv2)⟩
            | exact ⟨_, _, _, _, _, rfl, rfl, Lib.hid (link_three HLT.out KD ka0 kb0 hp1 hp2 hv2)⟩
    · simp only [if_neg hco] at VC
      have i2 : (L.length : Int) ≤ (cl : Int) := by omega
      have i4 : (x0 : Int) + 1 ≤ (cl : Int) := by omega
      go_region_held3 (fun w' => Keeps w2 w' ∧ w'.cell? ⟨B, 2, none⟩ = some (.slice (some ⟨g, 0, none⟩) L.length cl) ∧ w'.cell? ⟨Bb, 0, none⟩ = some (.int .i64 (x0 : Nat)))
        (first | (with_reducible assumption) | (with_reducible exact NS _ KD) | (with_reducible exact NS _ KA) | (with_reducible exact NS _ kb) | (with_reducible exact NS _ (Keeps.alloc kb _)) | (with_reducible exact NS _ (Keeps.alloc ka _)) | (with_reducible exact NS _ ka) | (with_reducible exact NS _ (ks _ _ _ _ _)))
        (first
          | (go_at_call 9; go_loud (refine (emphasized_any _ (L.length - (x0 + 1)) (cl - (x0 + 1)) (L.drop (x0 + 1)) (Out O2 w2) _ (VC.out _ (by first | with_reducible exact KD | with_reducible exact KA)) (HKD.out _ (by first | with_reducible exact KD | with_reducible exact KA)) (fun b hb => (by first | exact Nat.lt_of_lt_of_le hb.2 KD.size | exact Nat.lt_of_lt_of_le hb.2 KA.size)) (by omega) HTS.out HFS.out).mono ?_); rintro e wa ⟨A1, n1, c1, L1, P1, rfl, hv1, hnc1, hc1, hk1, hl1, ka0, hp1, hp2⟩; have ka : Keeps w2 wa := (by first | exact KD.trans ka0 | exact KA.trans ka0); (first | have bS : Blk wa w2.heap.size 31 #[.int .i64 0, .string ⟨#[]⟩, .string ⟨#[]⟩, .string ⟨#[]⟩, .slice none 0 0] := (Blk.new w2 _ _).drew.keep ka0 | skip))
          | (go_at_call 8; go_loud (first | refine (spans_any A1 n1 c1 L1 P1 wa hv1 hk1 hp2 (by have := (HEM.out L1 hl1).1; have := hv1.1; omega) hnc1 hc1 (HEM.out L1 hl1).2).mono ?_ | refine (spans_any A1 n1 c1 L1 P1 _ (hv1.keep ((Keeps.refl wa).alloc _)) (hk1.keep hp2 ((Keeps.refl wa).alloc _)) (fun b hb => Nat.lt_of_lt_of_le (hp2 b hb) ((Keeps.refl wa).alloc _).size) (by have := (HEM.out L1 hl1).1; have := hv1.1; omega) hnc1 hc1 (HEM.out L1 hl1).2).mono ?_); rintro e wb ⟨v1, rfl, hv2, kb0⟩; obtain ⟨A2, m2, c2, rfl⟩ := hv2.form; rw [hl1] at hv2; have kb : Keeps w2 wb := (by first | exact ka.trans kb0 | exact (ka.alloc _).trans kb0); (first | (have bT : Blk wb w2.heap.size 31 #[.int .i64 0, .string ⟨#[]⟩, .string ⟨#[]⟩, .string ⟨#[]⟩, .slice none 0 0] := bS.keep kb0; have ks := set5 kb (g := w2.heap.size) (Nat.le_refl _)) | (have bT : Blk wb wa.heap.size 31 #[.int .i64 0, .string ⟨#[]⟩, .string ⟨#[]⟩, .string ⟨#[]⟩, .slice none 0 0] := (Blk.new wa _ _).keep kb0; have ks := set5 kb (g := wa.heap.size) ka.size) | skip); (first | (have y0 := bT.cell 0 (v := .int .i64 0) rfl; have y1 := bT.cell 1 (v := .string ⟨#[]⟩) rfl; have y2 := bT.cell 2 (v := .string ⟨#[]⟩) rfl; have y3 := bT.cell 3 (v := .string ⟨#[]⟩) rfl; have y4 := bT.cell 4 (v := .slice none 0 0) rfl; have f0 := bT.free 0; have f1 := bT.free 1; have f2 := bT.free 2; have f3 := bT.free 3; have f4 := bT.free 4) | skip)))
      all_goals
        go_wp2_with fail
        go_meet
        case rel =>
          first
            | exact ⟨_, _, _, _, _, rfl, rfl, Lib.hid (link_one HLT.out KA ka0 kb0 hp1 hp2 hS0 bT hv2)⟩
            | exact ⟨_, _, _, _, _, rfl, rfl, Lib.hid (link_two HLT.out KD ka0 kb0 hp1 hp2 bT hv2)⟩
            | exact ⟨_, _, _, _, _, rfl, rfl, Lib.hid (link_three HLT.out KD ka0 kb0 hp1 hp2 hv2)⟩
  case rest =>
    obtain ⟨S, A1, m1, c1, wy, rfl, rfl, HL⟩ := hcut
    have hSl : S < wy.heap.size := HL.out.span.lt
    have hS2 := HL.out.size
    have y7 := (HB2.out.keep HL.out.keep).cell 2 (v := .bool x2) rfl
    have yk := HL.out.span.cell 0 (v := .int .i64 8) rfl
    have yf := HL.out.span.free 0
    have BX := HM2.out.box.keep HL.out.keep
    have y3 := BX.cell 3 (v := .slice Ab (p.br.length - 1) cb) rfl
    have y4 := BX.cell 4 (v := .int .i64 ((popI p).dead : Nat)) rfl
    have yg := BX.free 4
    have yB := BX.lt
    have hSB : S ≠ B := by omega
    clear BX
    go_upto_if 43 with fail
    go_cut [] (fun wx' => ∃ wz, wz = wx' ∧ Hid (LinkB w2 B O2 (boxI s { popI p with dead := if x2 = true then min p.dead (p.br.length - 1) else p.br.length - 1 } (.slice (some ⟨g, 0, none⟩) L.length cl) (.slice Ab (p.br.length - 1) cb) rv fi2 pm2 tm2 em2) (if x2 = true then 8 else 7) sd st (spansM (emM ((L.drop (x0 + 1)).map Prod.fst))) S (.slice A1 m1 c1) wz))
    case first =>
      have HLI := Lib.hid (HL.out.image HM2.out.box)
      have HLK := Lib.hid (HL.out.link HM2.out.box HM2.out.oB (.int .i64 ((p.br.length - 1 : Nat) : Int)) rfl)
      cases x2
      · go_wp2_with fail
        go_meet
        case rel => exact ⟨_, rfl, HLK⟩
      · go_wp2_with fail
        go_meet
        case rel => exact ⟨_, rfl, HLI⟩
    case rest =>
    obtain ⟨wz, rfl, HZ⟩ := hcut
    obtain ⟨kd, hkd⟩ : ∃ kd, (if x2 = true then 8 else 7 : Nat) = kd := ⟨_, rfl⟩
    obtain ⟨dd, hdd⟩ : ∃ dd, (if x2 = true then min p.dead (p.br.length - 1) else p.br.length - 1) = dd := ⟨_, rfl⟩
    rw [hkd, hdd] at HZ
    have HE2 := HE.out
    rw [hkd, hdd] at HE2
    have HE := Lib.hid HE2
    obtain ⟨KD2, hKD2⟩ : ∃ l, spansM (emM ((L.drop (x0 + 1)).map Prod.fst)) = l := ⟨_, rfl⟩
    have hKD3 : spansM (emM (p.list.drop (x0 + 1))) = KD2 := by
      rw [← hKD2, List.map_drop, HM2.out.eq]; rfl
    rw [hKD2] at HZ
    have HK3 := Lib.hid hKD3
    clear y7 yk yf y3 y4 yg hkd hdd HE2 hKD2 hKD3 HL
    have HBz : Hid (Blk wz Bb 63 #[.int .i64 x0, .int .i64 x1, .bool x2]) := Lib.hid (by
      unfold Blk
      rw [HZ.out.block Bb hBbs (fun e => hBBb e.symm)]
      exact HB2.out)
    have SB : ∀ w', Keeps wz w' → w'.cell? ⟨B, 2, none⟩ = some (.slice (some ⟨g, 0, none⟩) L.length cl) ∧ w'.cell? ⟨Bb, 0, none⟩ = some (.int .i64 x0) ∧ w'.cell? ⟨S, 0, none⟩ = some (.int .i64 kd) ∧ w'.cell? ⟨S, 1, none⟩ = some (.string ⟨#[]⟩) ∧ w'.cell? ⟨S, 2, none⟩ = some (.string sd) ∧ w'.cell? ⟨S, 3, none⟩ = some (.string st) ∧ w'.cell? ⟨S, 4, none⟩ = some (.slice A1 m1 c1) := fun w' q => ⟨(HZ.out.box.keep q).cell 2 rfl, (HBz.out.keep q).cell 0 rfl, (HZ.out.span.keep q).cell 0 rfl, (HZ.out.span.keep q).cell 1 rfl, (HZ.out.span.keep q).cell 2 rfl, (HZ.out.span.keep q).cell 3 rfl, (HZ.out.span.keep q).cell 4 rfl⟩
    have KD := (Keeps.refl wz).drew
    obtain ⟨PC, hPC⟩ : ∃ o, Obj.cells #[.int .i64 kd, .string ⟨#[]⟩, .string sd, .string st, .slice A1 m1 c1, .int .i64 0, .bool false, .bool false, .bool false] 42 = o := ⟨_, rfl⟩
    have KP : Keeps wz (wz.alloc PC).drew := ((Keeps.refl wz).alloc PC).drew
    have HZ1 := HZ.out
    rw [← HSD.out, ← HST.out] at HZ1
    have HPB : (wz.alloc PC).drew.rangeAt wz.heap.size 0 (pcC (spanP kd [] d t KD2) (.slice A1 m1 c1)) := by
      show (wz.alloc PC).drew.rangeAt wz.heap.size 0 [.int .i64 kd, .string ⟨#[]⟩, .string ⟨d.toArray⟩, .string ⟨t.toArray⟩, .slice A1 m1 c1, .int .i64 0, .bool false, .bool false, .bool false]
      rw [HSD.out, HST.out, ← hPC]
      exact fun j v hv => ((Blk.new wz 42 ([.int .i64 kd, .string ⟨#[]⟩, .string sd, .string st, .slice A1 m1 c1, .int .i64 0, .bool false, .bool false, .bool false] : List Value).toArray).drew).cell _ (by rw [Nat.zero_add, List.getElem?_toArray]; exact hv)
    have RP := Lib.hid (replace_tail 0 g L.length cl wz.heap.size x0 L (spanP kd [] d t KD2) (.slice A1 m1 c1) (wz.alloc PC).drew (link_row HM2.out HZ1 KP) (by omega) (by omega) (Nat.zero_le _) HPB rfl)
    have DONE := Lib.hid (fun w5 v' h1 h2 h3 h4 => link_done (w5 := w5) (v' := v') (x0 := x0) (n := n) HM2.out HC2.out HZ1 KP h1 h2 h3 h4)
    have hgO : O2 g = some 1 := HM2.out.oL g rfl
    have hgl : g < w2.heap.size := HM2.out.lt g (by rw [hgO]; simp)
    have hBg : B ≠ g := fun e => by rw [← e, HM2.out.oB] at hgO; cases hgO
    have hbg : Bb ≠ g := fun e => by rw [← e, HO2.out] at hgO; cases hgO
    have hSg : S ≠ g := by omega
    have BG := Lib.hid (fun w' (q : (wz.alloc PC).drew.grownBy w' (some g)) => (HZ.out.box.keep KP).grown q hBg)
    have SC : ∀ w', (wz.alloc PC).drew.grownBy w' (some g) → w'.cell? ⟨B, 2, none⟩ = some (.slice (some ⟨g, 0, none⟩) L.length cl) ∧ w'.cell? ⟨Bb, 0, none⟩ = some (.int .i64 x0) ∧ w'.cell? ⟨S, 0, none⟩ = some (.int .i64 kd) ∧ w'.cell? ⟨S, 1, none⟩ = some (.string ⟨#[]⟩) ∧ w'.cell? ⟨S, 2, none⟩ = some (.string sd) ∧ w'.cell? ⟨S, 3, none⟩ = some (.string st) ∧ w'.cell? ⟨S, 4, none⟩ = some (.slice A1 m1 c1) := fun w' q => ⟨(BG.out w' q).cell 2 rfl, ((HBz.out.keep KP).grown q hbg).cell 0 rfl, ((HZ.out.span.keep KP).grown q hSg).cell 0 rfl, ((HZ.out.span.keep KP).grown q hSg).cell 1 rfl, ((HZ.out.span.keep KP).grown q hSg).cell 2 rfl, ((HZ.out.span.keep KP).grown q hSg).cell 3 rfl, ((HZ.out.span.keep KP).grown q hSg).cell 4 rfl⟩
    clear HPB HZ1 hgO hgl
    go_upto_region 10 with fail
    refine region_headed (S := fun w' => w'.cell? ⟨B, 2, none⟩ = some (.slice (some ⟨g, 0, none⟩) L.length cl) ∧ w'.cell? ⟨Bb, 0, none⟩ = some (.int .i64 x0) ∧ w'.cell? ⟨S, 0, none⟩ = some (.int .i64 kd) ∧ w'.cell? ⟨S, 1, none⟩ = some (.string ⟨#[]⟩) ∧ w'.cell? ⟨S, 2, none⟩ = some (.string sd) ∧ w'.cell? ⟨S, 3, none⟩ = some (.string st) ∧ w'.cell? ⟨S, 4, none⟩ = some (.slice A1 m1 c1)) (n := 18) (by kernel_rfl) rfl (by kernel_rfl) ?_ (fun hHeld0 => ?_)
    · exact SB _ KD
    refine headed_take (i := 0) (v := ?_) rfl (by kernel_rfl) (fun _ _ _ h => h) (Or.inl ⟨by rfl, ?_⟩) hHeld0 ?_
    rotate_left
    · intro w hSw; (try dsimp only at hSw); go_simp; (try with_reducible rfl)
    (try simp only [Act.put, List.setIfInBounds_toArray, List.set_cons_zero, List.set_cons_succ])
    refine headed_take (i := 1) (v := ?_) rfl (by kernel_rfl) (fun _ _ _ h => h) (Or.inl ⟨by rfl, ?_⟩) hHeld0 ?_
    rotate_left
    · intro w hSw; (try dsimp only at hSw); go_simp; (try with_reducible rfl)
    (try simp only [Act.put, List.setIfInBounds_toArray, List.set_cons_zero, List.set_cons_succ])
    refine headed_take (i := 2) (v := ?_) rfl (by kernel_rfl) (fun _ _ _ h => h) (Or.inl ⟨by rfl, ?_⟩) hHeld0 ?_
    rotate_left
    · intro w hSw; (try dsimp only at hSw); go_simp; (try with_reducible rfl)
    (try simp only [Act.put, List.setIfInBounds_toArray, List.set_cons_zero, List.set_cons_succ])
    refine headed_take (i := 3) (v := ?_) rfl (by kernel_rfl) (fun _ _ _ h => h) (Or.inl ⟨by rfl, ?_⟩) hHeld0 ?_
    rotate_left
    · intro w hSw; (try dsimp only at hSw); go_simp; (try with_reducible rfl)
    (try simp only [Act.put, List.setIfInBounds_toArray, List.set_cons_zero, List.set_cons_succ])
    refine headed_take (i := 4) (v := ?_) rfl (by kernel_rfl) (fun _ _ _ h => h) (Or.inl ⟨by rfl, ?_⟩) hHeld0 ?_
    rotate_left
    · intro w hSw; (try dsimp only at hSw); go_simp; (try with_reducible rfl)
    (try simp only [Act.put, List.setIfInBounds_toArray, List.set_cons_zero, List.set_cons_succ])
    refine headed_take (i := 5) (v := ?_) rfl (by kernel_rfl) (fun _ _ _ h => h) (Or.inl ⟨by rfl, ?_⟩) hHeld0 ?_
    rotate_left
    · intro w hSw; (try dsimp only at hSw); go_simp; (try with_reducible rfl)
    (try simp only [Act.put, List.setIfInBounds_toArray, List.set_cons_zero, List.set_cons_succ])
    refine headed_take (i := 6) (v := ?_) rfl (by kernel_rfl) (fun _ _ _ h => h) (Or.inl ⟨by rfl, ?_⟩) hHeld0 ?_
    rotate_left
    · intro w hSw; (try dsimp only at hSw); go_simp; (try with_reducible rfl)
    (try simp only [Act.put, List.setIfInBounds_toArray, List.set_cons_zero, List.set_cons_succ])
    refine headed_take (i := 7) (v := ?_) rfl (by kernel_rfl) (fun _ _ _ h => h) (Or.inl ⟨by rfl, ?_⟩) hHeld0 ?_
    rotate_left
    · intro w hSw; (try dsimp only at hSw); go_simp; (try with_reducible rfl)
    (try simp only [Act.put, List.setIfInBounds_toArray, List.set_cons_zero, List.set_cons_succ])
    refine headed_take (i := 8) (v := ?_) rfl (by kernel_rfl) (fun _ _ _ h => h) (Or.inl ⟨by rfl, ?_⟩) hHeld0 ?_
    rotate_left
    · intro w hSw; (try dsimp only at hSw); go_simp; (try with_reducible rfl)
    (try simp only [Act.put, List.setIfInBounds_toArray, List.set_cons_zero, List.set_cons_succ])
    refine headed_take (i := 9) (v := ?_) rfl (by kernel_rfl) (fun _ _ _ h => h) (Or.inl ⟨by rfl, ?_⟩) hHeld0 ?_
    rotate_left
    · intro w hSw; (try dsimp only at hSw); go_simp; (try with_reducible rfl)
    (try simp only [Act.put, List.setIfInBounds_toArray, List.set_cons_zero, List.set_cons_succ])
    refine headed_take (i := 10) (v := ?_) rfl (by kernel_rfl) (fun _ _ _ h => h) (Or.inl ⟨by rfl, ?_⟩) hHeld0 ?_
    rotate_left
    · intro w hSw; (try dsimp only at hSw); go_simp; (try with_reducible rfl)
    (try simp only [Act.put, List.setIfInBounds_toArray, List.set_cons_zero, List.set_cons_succ])
    refine headed_take (i := 11) (v := ?_) rfl (by kernel_rfl) (fun _ _ _ h => h) (Or.inl ⟨by rfl, ?_⟩) hHeld0 ?_
    rotate_left
    · intro w hSw; (try dsimp only at hSw); go_simp; (try with_reducible rfl)
    (try simp only [Act.put, List.setIfInBounds_toArray, List.set_cons_zero, List.set_cons_succ])
    refine headed_take (i := 12) (v := ?_) rfl (by kernel_rfl) (fun _ _ _ h => h) (Or.inl ⟨by rfl, ?_⟩) hHeld0 ?_
    rotate_left
    · intro w hSw; (try dsimp only at hSw); go_simp; (try with_reducible rfl)
    (try simp only [Act.put, List.setIfInBounds_toArray, List.set_cons_zero, List.set_cons_succ])
    refine headed_take (i := 13) (v := ?_) rfl (by kernel_rfl) (fun _ _ _ h => h) (Or.inl ⟨by rfl, ?_⟩) hHeld0 ?_
    rotate_left
    · intro w hSw; (try dsimp only at hSw); go_simp; (try with_reducible rfl)
    (try simp only [Act.put, List.setIfInBounds_toArray, List.set_cons_zero, List.set_cons_succ])
    refine headed_one (i := 14) rfl (by kernel_rfl) (by kernel_rfl) (fun K hK => ?_)
    go_simp
    refine hK.out _ _ (SB _ KP) (fun hHeld1 => ?_)
    clear hK K
    (try simp only [Act.put, List.setIfInBounds_toArray, List.set_cons_zero, List.set_cons_succ])
    refine headed_one (i := 15) rfl (by kernel_rfl) (by kernel_rfl) (fun K hK => ?_)
    go_simp
    go_at_call 36
    (with_reducible refine RP.out.mono ?_)
    rintro e w5 ⟨v', rfl, hrow, hgr, hob⟩
    obtain ⟨A5, c5, rfl, -, -⟩ := row_form hrow
    obtain ⟨m5, hm5⟩ : ∃ m, (L.take x0 ++ [(spanP kd [] d t KD2, (Value.slice A1 m1 c1))]).length = m := ⟨_, rfl⟩
    have DN := DONE.out w5 _ hrow hgr hob
    clear hrow hob
    rw [hm5] at DN ⊢
    have FIN := Lib.hid DN
    clear DN hm5
    refine hK.out _ _ (SC _ hgr) (fun hHeld2 => ?_)
    clear hK K
    (try simp only [Act.put, List.setIfInBounds_toArray, List.set_cons_zero, List.set_cons_succ])
    refine headed_take (i := 16) (v := ?_) rfl (by kernel_rfl) (fun _ _ _ h => h) (Or.inl ⟨by rfl, ?_⟩) hHeld2 ?_
    rotate_left
    · intro w hSw; (try dsimp only at hSw); go_simp; (try with_reducible rfl)
    (try simp only [Act.put, List.setIfInBounds_toArray, List.set_cons_zero, List.set_cons_succ])
    refine headed_take (i := 17) (v := ?_) rfl (by kernel_rfl) (fun _ _ _ h => h) (Or.inl ⟨by rfl, ?_⟩) hHeld2 ?_
    rotate_left
    · intro w hSw; (try dsimp only at hSw); go_simp; (try with_reducible rfl)
    (try simp only [Act.put, List.setIfInBounds_toArray, List.set_cons_zero, List.set_cons_succ])
    refine headed_last (by kernel_rfl) ?_
    have B5 := BG.out w5 hgr
    have y2 := B5.cell 2 (v := .slice (some ⟨g, 0, none⟩) L.length cl) rfl
    have yf := B5.free 2
    have B9 := B5.set 2 (.slice A5 m5 c5) rfl
    have y1 := B9.cell 1 (v := .int .i64 (p.pos : Nat)) rfl
    have yg := B9.free 1
    have hw : IntKind.i64.wrap ((p.pos : Int) + (n : Int)) = (p.pos : Int) + (n : Int) := IntWalk.i64_in _ (by omega)
    clear B5 B9 hgr DONE
    go_wp2_with fail
    go_end0
    refine ⟨rfl, ?_⟩
    rw [HE.out, HK3.out]
    have h1 := HON.out.1
    rw [HE.out, HK3.out] at h1
    exact FIN.out h1
end
end Go.Proofs.YtklmgbkkjmfhcaaGreatDoor


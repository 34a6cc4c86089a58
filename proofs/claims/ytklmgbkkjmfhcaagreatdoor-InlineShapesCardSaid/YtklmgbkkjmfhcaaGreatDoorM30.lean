/-
  Texts of the proof, one behind the other: Ing.
-/
import Derived.Test.YtklmgbkkjmfhcaaGreatDoorM29
/-
  Contract of inline's emphasized.
-/
namespace Go.Proofs.YtklmgbkkjmfhcaaGreatDoor
open Go.RowKit Go.Lib

/-- Twelve numbers, as they lie in memory. -/
def woC (wo : List Nat) : Array Value := (wo.map fun (n : Nat) => Value.int .i64 (n : Int)).toArray
theorem woC_size (wo : List Nat) : (woC wo).size = wo.length := by simp [woC]
theorem woC_at {wo : List Nat} {i : Nat} (h : i < wo.length) : (woC wo)[i]? = some (.int .i64 ((wo.getD i 0 : Nat) : Int)) := by
  simp [woC, List.getD_eq_getElem?_getD, List.getElem?_eq_getElem h]
theorem woC_set (wo : List Nat) (i n : Nat) : (woC wo).setIfInBounds i (.int .i64 (n : Nat)) = woC (wo.set i n) := by
  unfold woC
  simp [List.map_set]
/-- The first k of them are clipped. -/
def clipK (wo : List Nat) (n k : Nat) : List Nat := (wo.take k).map (min · n) ++ wo.drop k
theorem clipK_zero (wo : List Nat) (n : Nat) : clipK wo n 0 = wo := by simp [clipK]
theorem clipK_all {wo : List Nat} {n k : Nat} (h : wo.length ≤ k) : clipK wo n k = clipW wo n := by
  unfold clipK clipW
  rw [List.take_of_length_le h, List.drop_eq_nil_of_le h, List.append_nil]
theorem clipK_len (wo : List Nat) (n k : Nat) : (clipK wo n k).length = wo.length := by unfold clipK; simp; omega
theorem clipK_at {wo : List Nat} {n k : Nat} (h : k < wo.length) : (clipK wo n k).getD k 0 = wo.getD k 0 := by
  unfold clipK
  rw [List.getD_eq_getElem?_getD, List.getElem?_append_right (by simp; omega), List.getD_eq_getElem?_getD]
  simp only [List.length_map, List.length_take]
  rw [List.getElem?_drop]
  congr 2
  omega
theorem clipK_step {wo : List Nat} {n k : Nat} (h : k < wo.length) : (clipK wo n k).set k (min (wo.getD k 0) n) = clipK wo n (k + 1) := by
  unfold clipK
  rw [List.set_append_right _ _ (by simp; omega), List.take_succ_eq_append_getElem h, List.map_append, List.append_assoc, List.drop_eq_getElem_cons h]
  congr 1
  simp only [List.length_map, List.length_take]
  rw [show k - min k wo.length = 0 by omega, List.set_cons_zero, List.getD_eq_getElem?_getD, List.getElem?_eq_getElem h]
  rfl
/-- Where emphasized stands: what is done, the numbers, what stands where. -/
structure EmAt (P : Nat → Prop) (w : World) (e : Em) (v : Value) (wr : World) (L : List (Pc × Value)) (P' : Nat → Prop) : Prop where
  pcs : PcsAt wr P' (w.heap.size + 1) v L
  eq : L.map Prod.fst = e.done
  wo : Blk wr w.heap.size 46 (woC e.wo)
  keep : Keeps w wr
  old : ∀ b, P b → P' b
  new : ∀ b, P' b → P b ∨ w.heap.size + 1 ≤ b
def EmMid (P : Nat → Prop) (w : World) (e : Em) (v : Value) (wr : World) : Prop := ∃ L P', EmAt P w e v wr L P'
/-- The run that closes lies in a box of its own. -/
structure Lp (P : Nat → Prop) (w : World) (B6 : Nat) (e : Em) (x : Pc) (u v : Value) (wr : World) (L : List (Pc × Value)) (P' : Nat → Prop) : Prop where
  em : EmAt P w e v wr L P'
  box : Blk wr B6 42 (pcA x u)
  kid : SpsAt wr P' x.kids u
  off : ∀ b, P' b → b ≠ B6
  row : ∀ b, v.ownBlock = some b → b ≠ B6
  hi : w.heap.size < B6
def LpMid (P : Nat → Prop) (w : World) (B6 : Nat) (r : Em × Pc) (u v : Value) (wr : World) : Prop := ∃ L P', Lp P w B6 r.1 r.2 u v wr L P'
def txtOf (w : World) (b : Nat) : Nat := match w.cell? ⟨b, 1, none⟩ with | some (.string s) => s.size | _ => 0
theorem EmAt.keeps {P : Nat → Prop} {w : World} {e : Em} {v : Value} {wr w2 : World} {L : List (Pc × Value)} {P' : Nat → Prop} (h : EmAt P w e v wr L P') (k : Keeps wr w2) : EmAt P w e v w2 L P' :=
  ⟨⟨row_below h.pcs.row k, h.pcs.kid.keep h.pcs.lt k, fun b hb => Nat.lt_of_lt_of_le (h.pcs.lt b hb) k.size, h.pcs.off⟩, h.eq, h.wo.keep k, h.keep.trans k, h.old, h.new⟩
theorem Lp.keeps {P : Nat → Prop} {w : World} {B6 : Nat} {e : Em} {x : Pc} {u v : Value} {wr w2 : World} {L : List (Pc × Value)} {P' : Nat → Prop} (h : Lp P w B6 e x u v wr L P') (k : Keeps wr w2) : Lp P w B6 e x u v w2 L P' :=
  ⟨h.em.keeps k, h.box.keep k, h.kid.keep h.em.pcs.lt k, h.off, h.row, h.hi⟩
/-- Nothing but one block of the call's own turns. -/
theorem EmAt.turned {P : Nat → Prop} {w : World} {e : Em} {v : Value} {wr w2 : World} {L : List (Pc × Value)} {P' : Nat → Prop} (h : EmAt P w e v wr L P') {B : Nat} (g : wr.grownBy w2 (some B)) (hB : w.heap.size < B) (h1 : ∀ b, P' b → b ≠ B) (h2 : ∀ b, v.ownBlock = some b → b ≠ B) : EmAt P w e v w2 L P' := by
  have hk : ∀ b, b < wr.heap.size → b ≠ B → w2.heap[b]? = wr.heap[b]? := fun b hb hne => g.block b hb (fun q => hne (by cases q; rfl))
  have hs := h.keep.size
  exact ⟨⟨row_same h.pcs.row fun b hb => hk b (h.pcs.row.lt b hb).2 (h2 b hb), h.pcs.kid.same (fun _ q => q) fun b hb => hk b (h.pcs.lt b hb) (h1 b hb), fun b hb => Nat.lt_of_lt_of_le (h.pcs.lt b hb) g.size, h.pcs.off⟩, h.eq, by
    unfold Blk
    rw [hk _ h.wo.lt (by omega)]
    exact h.wo, ⟨g.os.trans h.keep.os, g.tape.trans h.keep.tape, g.output.trans h.keep.output, Nat.le_trans hs g.size, fun b hb => (hk b (by omega) (by omega)).trans (h.keep.block b hb)⟩, h.old, h.new⟩
/-- One more piece is done. -/
theorem EmAt.more {P : Nat → Prop} {w : World} {e : Em} {v v' : Value} {w2 w3 : World} {L : List (Pc × Value)} {P' : Nat → Prop} {x : Pc} {u : Value} (h : EmAt P w e v w2 L P') (hu : SpsAt w2 P' x.kids u)
    (hr : w3.ownsRow (w.heap.size + 1) 42 9 v' (L.length + 1) (pcR L ++ pcC x u)) (hg : w2.grownBy w3 v.ownBlock) (hl : v'.ownBlock = v.ownBlock ∨ ∃ b, w2.heap.size ≤ b ∧ v'.ownBlock = some b) :
    EmAt P w ⟨e.done ++ [x], e.wo⟩ v' w3 (L ++ [(x, u)]) P' := by
  have hs := h.keep.size
  have hP : ∀ b, P' b → w3.heap[b]? = w2.heap[b]? := fun b hb => hg.block b (h.pcs.lt b hb) (fun q => h.pcs.off b q.symm hb)
  have hv : ∀ b, v.ownBlock = some b → w.heap.size + 1 ≤ b ∧ b < w2.heap.size := fun b hb => h.pcs.row.lt b hb
  exact {
    pcs := {
      row := by
        rw [List.length_append, List.length_singleton, pcR_app]
        have q : pcR [(x, u)] = pcC x u := by unfold pcR; simp
        rw [q]; exact hr
      kid := fun y hy => by
        rcases List.mem_append.1 hy with hy | hy
        · exact (h.pcs.kid y hy).same (fun _ q => q) hP
        · rw [List.mem_singleton] at hy
          subst hy
          exact hu.same (fun _ q => q) hP
      lt := fun b hb => Nat.lt_of_lt_of_le (h.pcs.lt b hb) hg.size
      off := fun b hb hc => by
        rcases hl with q | ⟨b', h1, q⟩
        · exact h.pcs.off b (by rw [← q]; exact hb) hc
        · rw [q] at hb
          cases hb
          have := h.pcs.lt b hc
          omega }
    eq := by rw [List.map_append, h.eq]; rfl
    wo := by
      unfold Blk
      rw [hg.block _ h.wo.lt (fun q => by have := (hv _ q.symm).1; omega)]
      exact h.wo
    keep := ⟨hg.os.trans h.keep.os, hg.tape.trans h.keep.tape, hg.output.trans h.keep.output, Nat.le_trans hs hg.size, fun b hb => (hg.block b (by omega) (fun q => by have := (hv _ q.symm).1; omega)).trans (h.keep.block b hb)⟩
    old := h.old
    new := h.new }
/-- A number is put among the twelve. -/
theorem Lp.wo {P : Nat → Prop} {w : World} {B6 : Nat} {e : Em} {x : Pc} {u v : Value} {wr : World} {L : List (Pc × Value)} {P' : Nat → Prop} (h : Lp P w B6 e x u v wr L P') (hP : ∀ b, P b → b < w.heap.size) (i n : Nat) :
    Lp P w B6 ⟨e.done, e.wo.set i n⟩ x u v (wr.setCell ⟨w.heap.size, i, none⟩ (.int .i64 (n : Nat))) L P' := by
  have hk : ∀ b, b ≠ w.heap.size → (wr.setCell ⟨w.heap.size, i, none⟩ (.int .i64 (n : Nat))).heap[b]? = wr.heap[b]? := fun b hb => heap_setCell_other wr ⟨w.heap.size, i, none⟩ b _ hb
  have hne : ∀ b, P' b → b ≠ w.heap.size := fun b hb => by
    rcases h.em.new b hb with q | q
    · have := hP b q; omega
    · omega
  exact {
    em := {
      pcs := ⟨row_same h.em.pcs.row fun b hb => hk b (by have := (h.em.pcs.row.lt b hb).1; omega), h.em.pcs.kid.same (fun _ q => q) fun b hb => hk b (hne b hb), fun b hb => (by rw [setCellSize]; exact h.em.pcs.lt b hb), h.em.pcs.off⟩
      eq := h.em.eq
      wo := h.em.wo.set i _ (woC_set _ _ _)
      keep := h.em.keep.set (Nat.le_refl _) i _
      old := h.em.old
      new := h.em.new }
    box := h.box.other (by have := h.hi; omega) i _
    kid := h.kid.same (fun _ q => q) fun b hb => hk b (hne b hb)
    off := h.off
    row := h.row
    hi := h.hi }
theorem Lp.txt {P : Nat → Prop} {w : World} {B6 : Nat} {e : Em} {x : Pc} {u v : Value} {wr : World} {L : List (Pc × Value)} {P' : Nat → Prop} (h : Lp P w B6 e x u v wr L P') : txtOf wr B6 = x.text.length := by
  unfold txtOf
  rw [h.box.cell 1 (v := .string ⟨x.text.toArray⟩) rfl]
  show x.text.toArray.size = _
  simp
/-- Behind paired. -/
theorem Lp.paired {P : Nat → Prop} {w : World} {B6 g o : Nat} {e : Em} {x : Pc} {u v3 : Value} {n c : Nat} {w5 w6 : World} {L L3 : List (Pc × Value)} {P2 P3 : Nat → Prop} (h : Lp P w B6 e x u (.slice (some ⟨g, 0, none⟩) n c) w5 L P2) (hp : PcsAt w6 P3 (w.heap.size + 1) v3 L3) (he : L3.map Prod.fst = pairL (L.map Prod.fst) o x) (hk : SpsAt w6 P3 (pairX (L.map Prod.fst) o x).kids u)
    (h1 : ∀ b, P2 b → P3 b) (h2 : ∀ b, P3 b → P2 b ∨ w5.heap.size ≤ b) (hg : w5.grownBy w6 (some g)) (h3 : ∀ b, v3.ownBlock = some b → b = g ∨ w5.heap.size ≤ b) :
    Lp P w B6 ⟨pairL e.done o x, e.wo⟩ (pairX e.done o x) u v3 (w6.setRow B6 (pcA (pairX e.done o x) u)) L3 P3 := by
  have hgg := (h.em.pcs.row.lt g rfl).1
  have hgB := h.row g rfl
  have hB := h.box.lt
  have hhi := h.hi
  have hb6 : Blk w6 B6 42 (pcA x u) := grown_cell hg h.box (fun q => hgB q.symm)
  have e6 : EmAt P w ⟨pairL e.done o x, e.wo⟩ v3 w6 L3 P3 := {
    pcs := hp
    eq := by rw [he, h.em.eq]
    wo := grown_cell hg h.em.wo (by omega)
    keep := ⟨hg.os.trans h.em.keep.os, hg.tape.trans h.em.keep.tape, hg.output.trans h.em.keep.output, Nat.le_trans h.em.keep.size hg.size, fun b hb => (hg.block b (by have := h.em.keep.size; omega) (fun q => by cases q; omega)).trans (h.em.keep.block b hb)⟩
    old := fun b hb => h1 b (h.em.old b hb)
    new := fun b hb => by
      rcases h2 b hb with q | q
      · exact h.em.new b q
      · right; omega }
  have ho : ∀ b, P3 b → b ≠ B6 := fun b hb => by
    rcases h2 b hb with q | q
    · exact h.off b q
    · omega
  have hr : ∀ b, v3.ownBlock = some b → b ≠ B6 := fun b hb => by
    rcases h3 b hb with q | q
    · rw [q]; exact hgB
    · omega
  have gs : w6.grownBy (w6.setRow B6 (pcA (pairX e.done o x) u)) (some B6) := grown_setRow _
  exact {
    em := e6.turned gs hhi ho hr
    box := setRow_heap w6 B6 _ _ _ _ hb6
    kid := by
      have hk' := hk
      rw [h.em.eq] at hk'
      exact hk'.same (fun _ q => q) fun b hb => gs.block b (hp.lt b hb) (fun q => ho b hb (by cases q; rfl))
    off := ho
    row := hr
    hi := hhi }
theorem infoWo : (Tryz.prog.info? 46).map (·.size) = some 12 := by kernel_rfl
def EmPost (P : Nat → Prop) (w : World) (l : List Pc) (e : Ending) (w' : World) : Prop := ∃ A n c L P', e = .returned (.slice A n c) ∧ Vw w' A n L ∧ n ≤ c ∧ c ≤ maxLen ∧ KidsAt w' P' L ∧ L.map Prod.fst = l ∧ Keeps w w' ∧ (∀ b, P' b → P b ∨ w.heap.size ≤ b) ∧ (∀ b, P' b → b < w'.heap.size)
set_option maxRecDepth 100000 in
set_option maxHeartbeats 8000000 in
theorem emphasized_any (A : Option Addr) (n c : Nat) (L : List (Pc × Value)) (P : Nat → Prop) (w : World) (hV : Vw w A n L) (hK : KidsAt w P L) (hP : ∀ b, P b → b < w.heap.size) (hn : n ≤ 100000) (hs : tsum (L.map Prod.fst) ≤ 100000) (hf : ∀ x ∈ L, x.1.first ≤ 1000000) :
    Calls Tryz.prog 9 #[.slice A n c] w (EmPost P w (emM (L.map Prod.fst))) := by
  have HV := Lib.hid hV
  have HL := Lib.hid hV.1
  have HK := Lib.hid hK
  have HP := Lib.hid hP
  have HF := Lib.hid hf
  have HTS := Lib.hid hs
  have HOK := Lib.hid (fun k hk => emF_ok (l := L.map Prod.fst) k hk)
  have W0 := Blk.new w 46 (woC (List.replicate 12 0))
  have HE0 : Hid (EmMid P w Em.zero (.slice none 0 0) (w.alloc (.cells (woC (List.replicate 12 0)) 46))) := Lib.hid ⟨[], P, { pcs := ⟨World.ownsRow_nil _ _ _ _, fun x hx => (by cases hx), fun b hb => (by have := hP b hb; simp; omega), fun b hb => (by cases hb)⟩, eq := rfl, wo := W0, keep := (Keeps.refl w).alloc _, old := fun _ h => h, new := fun _ h => .inl h }⟩
  clear hV hK hP hf hs W0
  go_enter Tryz.func9, Tryz.ntmps9
  go_wp2_with fail
  go_loopw [3, 12] (fun v i wr => ∃ k : Nat, k ≤ n ∧ i = .int .i64 k ∧ Hid (EmMid P w (emF ((L.map Prod.fst).take k)) v wr)) (fun _ i _ => n - (RowKit.intOf i).toNat)
  case atStart => exact ⟨0, Nat.zero_le _, rfl, HE0⟩
  case round =>
    obtain ⟨k, hk, rfl, HE⟩ := hrel
    by_cases hlt : k < n
    · have hkl : k < L.length := by rw [HL.out]; exact hlt
      obtain ⟨L1, P1, E⟩ := HE.out
      obtain ⟨g, o, rfl, hc⟩ := (HV.out.keep E.keep).2 (by omega)
      have hce := hc k hkl
      have hfx := HF.out _ (List.getElem_mem hkl)
      have hku := (HK.out _ (List.getElem_mem hkl)).keep HP.out E.keep
      have hgd : (L.map Prod.fst).getD k default = L[k].1 := by rw [List.getD_eq_getElem?_getD, List.getElem?_map, List.getElem?_eq_getElem hkl]; rfl
      have hst := emF_take (l := L.map Prod.fst) (k := k) (by rw [List.length_map]; exact hkl)
      rw [hgd] at hst
      have htx := tsum_le_at (l := L.map Prod.fst) (k := k) (by rw [List.length_map]; exact hkl)
      rw [hgd] at htx
      have hts := HTS.out
      clear hc hgd
      generalize hL : L[k] = q at *
      obtain ⟨x, u⟩ := q
      dsimp only at hce hfx hku hst htx
      obtain ⟨A0, m0, c0, rfl⟩ := hku.form
      have h1 := pcC_one x (v := .slice A0 m0 c0) rfl
      have HA := Lib.hid (all_oneCell_toArray h1)
      have HZ : Hid ((Tryz.prog.info? 42).map (·.size) = some (pcC x (.slice A0 m0 c0)).length) := Lib.hid sizePc
      have HC := Lib.hid hce
      have HST := Lib.hid hst
      have KA := (Keeps.refl wr).alloc (.cells (pcC x (.slice A0 m0 c0)).toArray 42)
      have hz1 : (wr.alloc (.cells (pcC x (.slice A0 m0 c0)).toArray 42)).heap.size = wr.heap.size + 1 := by simp
      have hsz := E.keep.size
      have HL0 : Hid (LpMid P w wr.heap.size (emF ((L.map Prod.fst).take k), x) (.slice A0 m0 c0) u3 (wr.alloc (.cells (pcC x (.slice A0 m0 c0)).toArray 42))) := Lib.hid ⟨L1, P1, { em := E.keeps KA, box := Blk.new wr 42 (pcA x (.slice A0 m0 c0)), kid := (hku.same E.old fun _ _ => rfl).keep E.pcs.lt KA, off := fun b hb => (by have := E.pcs.lt b hb; omega), row := fun b hb => (by have := (E.pcs.row.lt b hb).2; omega), hi := (by have := E.wo.lt; omega) }⟩
      have HOKk := Lib.hid (HOK.out k (by rw [List.length_map, HL.out]; omega))
      have htk : tsum ((L.map Prod.fst).take k) ≤ 100000 := by have := tsum_split (L.map Prod.fst) k; omega
      clear h1 hce hst E
      go_upto_block 2 with (first
          | (refine wpList_load_mid rfl 42 _ rfl g (o + k * 9) rfl (pcC x (.slice A0 m0 c0)) _ HC.out Tryz.underlying42 rfl HZ.out ?_)
          | (refine wpList_store_row rfl 42 _ _ rfl wr.heap.size (pcC x (.slice A0 m0 c0)).toArray rfl rfl 42 _ (heap_alloc_last wr _) HZ.out rfl HA.out ?_; rw [World.setRow_alloc_new]))
      obtain ⟨B6, hB6⟩ : ∃ B6, wr.heap.size = B6 := ⟨_, rfl⟩
      rw [hB6] at HL0 ⊢
      clear hB6
      generalize wr.alloc (.cells (pcC x (.slice A0 m0 c0)).toArray 42) = WA at *
      simp only [Act.put]
      go_cut [3] (fun s3 wx => ∃ v2 w2, v2 = s3 ∧ w2 = wx ∧ Hid (LpMid P w B6 (emRun (emF ((L.map Prod.fst).take k)) x) (.slice A0 m0 c0) v2 w2))
      case first =>
        go_wp2_with fail
        go_loopw [3] (fun s3 wx => ∃ (v2 : Value) (w2 : World) (e2 : Em) (x2 : Pc) (N T : Nat), v2 = s3 ∧ w2 = wx ∧ x2.first ≤ 1000000 ∧ N + x2.text.length ≤ 300000 ∧ T ≤ 100000 ∧ Hid (LpMid P w B6 (e2, x2) (.slice A0 m0 c0) v2 w2) ∧ Hid (emRun e2 x2 = emRun (emF ((L.map Prod.fst).take k)) x) ∧ Hid (EmOk e2 N T)) (fun _ wx => txtOf wx B6)
        case atStart => exact ⟨_, _, _, x, _, _, rfl, rfl, hfx, by omega, htk, HL0, Lib.hid rfl, HOKk⟩
        case round =>
          obtain ⟨v2, w2, e2, x2, N, T, rfl, rfl, hf2, hN, hT, HM, HR, HO2⟩ := hrel
          obtain ⟨L2, P2, hl⟩ := HM.out
          dsimp only at hl
          obtain ⟨sx, hsx⟩ : ∃ sx : ByteArray, (⟨x2.text.toArray⟩ : ByteArray) = sx := ⟨_, rfl⟩
          have hbx := hl.box
          unfold pcA at hbx
          rw [hsx] at hbx
          have y7 := hbx.cell 7 (v := .bool x2.closes) rfl
          have y1 := hbx.cell 1 (v := .string sx) rfl
          by_cases hc : x2.closes = true
          · by_cases ht : x2.text = []
            · have HE3 : Hid (LpMid P w B6 (emRun (emF ((L.map Prod.fst).take k)) x) (.slice A0 m0 c0) v2 w2) := Lib.hid (by rw [← HR.out, emRun_stop (.inr ht)]; exact HM.out)
              rw [hc] at y7
              have e0 : sx.toList = [] := by rw [Lib.toList_data, ← hsx, ht]
              have e1 : sx.toList.isEmpty = true := by rw [e0]; rfl
              clear hl hbx
              go_wp2_with fail
              go_meet
              case rel => exact ⟨_, _, rfl, rfl, HE3⟩
            · rw [hc] at y7
              have hs0 : 0 < sx.size := by
                rw [← hsx]
                show 0 < x2.text.toArray.size
                rw [List.size_toArray]
                exact List.length_pos_iff.2 ht
              have e1 := tl_ne hs0
              have e2' := tl_empty hs0
              have HCB : Hid (w2.rangeAt B6 0 [.int .i64 x2.kind, .string sx, .string ⟨x2.dest.toArray⟩, .string ⟨x2.title.toArray⟩, .slice A0 m0 c0, .int .i64 x2.first, .bool x2.opens, .bool true, .bool x2.single]) := Lib.hid (fun j z hz => by
                have := hbx
                rw [hc] at this
                exact this.cell _ (by rw [Nat.zero_add]; simpa using hz))
              have CO := Lib.hid (classOf_any x2 (.slice A0 m0 c0) w2 ht hf2)
              have OP := Lib.hid (fun A' c' W' (hv : Vw W' A' L2.length L2) (hq : L2.length ≤ 1000000) (hw : e2.wo.getD (clsM x2) 0 ≤ 1000000) => opener_any A' L2.length c' (e2.wo.getD (clsM x2) 0) L2 x2 (.slice A0 m0 c0) W' hv hq hw ht)
              rw [hl.em.eq] at OP
              have hlen := HO2.out.len
              have hL2 : L2.length = e2.done.length := by rw [← hl.em.eq, List.length_map]
              have hcl := cls_lt x2
              have hwl := HO2.out.wo
              have hcap := HO2.out.cap (clsM x2) hcl
              have ywo := hl.em.wo.cell (clsM x2) (woC_at (i := clsM x2) (by omega))
              have fwo := hl.em.wo.free (clsM x2)
              obtain ⟨A2, c2, ev2, hcc1, hcc2⟩ := row_form hl.em.pcs.row
              subst ev2
              have HVW := Lib.hid (fun W' (q : Keeps w2 W') => (Vw.of_own hl.em.pcs.row).keep q)
              have HH := Lib.hid hl
              have HTX2 := Lib.hid hl.txt
              unfold pcA at CO OP
              rw [hsx, hc] at CO OP
              obtain ⟨m, hm⟩ : ∃ m, clsM x2 = m := ⟨_, rfl⟩
              obtain ⟨fr, hfr⟩ : ∃ fr, e2.wo.getD (clsM x2) 0 = fr := ⟨_, rfl⟩
              obtain ⟨r, hr⟩ : ∃ r, opnM e2.done fr x2 = r := ⟨_, rfl⟩
              have HRM := Lib.hid hm
              have HFR := Lib.hid hfr
              have HRR := Lib.hid hr
              rw [hfr] at OP ywo hcap
              rw [hr] at OP
              rw [hm] at CO ywo fwo hcl
              have NS : ∀ W', Keeps w2 W' → Keeps w2 W' ∧ W'.cell? ⟨w.heap.size, m, none⟩ = some (.int .i64 fr) ∧ Nine1 W' B6 x2.kind sx ⟨x2.dest.toArray⟩ ⟨x2.title.toArray⟩ (.slice A0 m0 c0) x2.first x2.opens true x2.single := fun W' q => by
                have b0 := (hl.em.wo.keep q).cell (clsM x2) (woC_at (i := clsM x2) (by omega))
                rw [hfr, hm] at b0
                have b1 := hbx.keep q
                rw [hc] at b1
                exact ⟨q, b0, b1.cell 0 rfl, b1.cell 1 rfl, b1.cell 2 rfl, b1.cell 3 rfl, b1.cell 4 rfl, b1.cell 5 rfl, b1.cell 6 rfl, b1.cell 7 rfl, b1.cell 8 rfl⟩
              have i0 : (0 : Int) ≤ (m : Int) := by omega
              have i1 : (m : Int) < 12 := by omega
              have hL2b : L2.length ≤ 1000000 := by omega
              have HL2 := Lib.hid hL2
              have hfrb : fr ≤ 1000000 := by omega
              have HTN := Lib.hid ht
              clear hl hm hfr hr hbx ht hL2
              go_upto_region 8 with (first
                | (refine wpList_load_mid rfl 42 _ rfl B6 0 rfl [.int .i64 x2.kind, .string sx, .string ⟨x2.dest.toArray⟩, .string ⟨x2.title.toArray⟩, .slice A0 m0 c0, .int .i64 x2.first, .bool x2.opens, .bool true, .bool x2.single] _ HCB.out Tryz.underlying42 rfl sizePc ?_)
                | (go_at_call 21; go_loud ((with_reducible refine CO.out.mono ?_)); rintro e w4 ⟨rfl, k4⟩))
              have OP4 := Lib.hid (fun W' (q : Keeps w4 W') => OP.out A2 c2 W' (HVW.out _ (k4.trans q)) hL2b hfrb)
              go_region_held3 (fun w' => Keeps w2 w' ∧ w'.cell? ⟨w.heap.size, m, none⟩ = some (.int .i64 fr) ∧ Nine1 w' B6 x2.kind sx ⟨x2.dest.toArray⟩ ⟨x2.title.toArray⟩ (.slice A0 m0 c0) x2.first x2.opens true x2.single)
                (first | (with_reducible assumption) | (with_reducible exact NS _ k4) | (with_reducible exact NS _ k4.drew) | (with_reducible exact NS _ (k4.drew.trans k5)))
                (first | (go_at_call 22; go_loud ((with_reducible refine (OP4.out _ (Keeps.refl _).drew).mono ?_)); rintro e w5 ⟨rfl, k5⟩))
              have K5 := Lib.hid (k4.drew.trans k5)
              clear k4 k5 NS OP4 OP CO
              have yw := (HH.out.em.wo.keep K5.out).cell (clsM x2) (woC_at (i := clsM x2) (by rw [HRM.out]; omega))
              have fw := (HH.out.em.wo.keep K5.out).free m
              rw [HFR.out, HRM.out] at yw
              cases r with
              | none =>
                have q8 : opnI none = -1 := rfl
                have HE4 : Hid (LpMid P w B6 (emRun (emF ((L.map Prod.fst).take k)) x) (.slice A0 m0 c0) (.slice A2 L2.length c2) (w5.setCell ⟨w.heap.size, m, none⟩ (.int .i64 (L2.length : Nat)))) := Lib.hid (by
                  rw [← HR.out, emRun_none hc HTN.out (by rw [HFR.out]; exact HRR.out), HRM.out, ← HL2.out]
                  exact ⟨L2, P2, (HH.out.keeps K5.out).wo HP.out m L2.length⟩)
                go_wp2_with fail
                go_meet
                case rel => exact ⟨_, _, rfl, rfl, HE4⟩
              | some o =>
                have q8 : opnI (some o) = (o : Int) := rfl
                have t8 : ((o : Int) == -1) = false := by simp <;> omega
                obtain ⟨ho1, ho2, ho3, _, _⟩ := opn_text HRR.out
                rw [← HL2.out] at ho1
                obtain ⟨g2, rfl⟩ : ∃ g2, A2 = some ⟨g2, 0, none⟩ := by
                  rcases HH.out.em.pcs.row.2 with ⟨q, _⟩ | ⟨g', cap', cur, q, _⟩
                  · injection q with q1 q2 q3; omega
                  · injection q with q1 q2 q3; exact ⟨g', q1⟩
                have l5 := HH.out.keeps K5.out
                have hsum := HO2.out.sum
                have PA := Lib.hid (paired_any P2 (w.heap.size + 1) g2 L2.length c2 o L2 x2 (.slice A0 m0 c0) w5 l5.em.pcs ho1 hL2b (by have := l5.em.wo.lt; omega) HTN.out (by rw [l5.em.eq]; exact ho3) (by rw [l5.em.eq]; omega) (by omega) l5.kid)
                have b5 := l5.box
                unfold pcA at PA b5
                rw [hsx, hc] at PA b5
                have HB5 := Lib.hid b5
                have HC5 : Hid (w5.rangeAt B6 0 [.int .i64 x2.kind, .string sx, .string ⟨x2.dest.toArray⟩, .string ⟨x2.title.toArray⟩, .slice A0 m0 c0, .int .i64 x2.first, .bool x2.opens, .bool true, .bool x2.single]) := Lib.hid (fun j z hz => HB5.out.cell _ (by rw [Nat.zero_add]; simpa using hz))
                have H5 := Lib.hid l5
                have hgB := l5.row g2 rfl
                clear l5 b5 yw fw ywo fwo HH HVW HCB
                go_wp2_with (first
                  | (refine wpList_load_mid rfl 42 _ rfl B6 0 rfl [.int .i64 x2.kind, .string sx, .string ⟨x2.dest.toArray⟩, .string ⟨x2.title.toArray⟩, .slice A0 m0 c0, .int .i64 x2.first, .bool x2.opens, .bool true, .bool x2.single] _ HC5.out Tryz.underlying42 rfl sizePc ?_)
                  | (go_at_call 23; go_loud ((with_reducible refine PA.out.mono ?_)); rintro e w6 ⟨v3, L3, P3, rfl, hp3, he3, hk3, ho3', hn3, hg3, hv3⟩; obtain ⟨A3, c3, q3, hc31, hc32⟩ := row_form hp3.row; subst q3)
                  | (refine wpList_store_row rfl 42 _ _ rfl B6 (pcA (pairX (L2.map Prod.fst) o x2) (.slice A0 m0 c0)) rfl rfl 42 _ (grown_cell hg3 HB5.out (fun q => hgB q.symm)) sizePc rfl (by simp [pcA, Value.oneCell']) ?_))
                have HL7 : Hid (Lp P w B6 ⟨pairL e2.done o x2, e2.wo⟩ (pairX e2.done o x2) (.slice A0 m0 c0) (.slice A3 L3.length c3) (w6.setRow B6 (pcA (pairX e2.done o x2) (.slice A0 m0 c0))) L3 P3) := Lib.hid (H5.out.paired hp3 he3 hk3 ho3' hn3 hg3 hv3)
                have hdn : L2.map Prod.fst = e2.done := H5.out.em.eq
                rw [hdn]
                have hpl := pair_len (l := e2.done) (o := o) (by rw [← HL2.out]; exact ho1) x2
                have hl3 : L3.length = o + 2 := by have := congrArg List.length he3; rw [List.length_map, hdn, hpl] at this; exact this
                obtain ⟨okp, hxl⟩ := HO2.out.pair (by rw [HFR.out]; exact HRR.out) HTN.out
                have HOP := Lib.hid okp
                have HRS : Hid (emRun e2 x2 = emRun ⟨pairL e2.done o x2, clipW e2.wo (pairL e2.done o x2).length⟩ (pairX e2.done o x2)) := Lib.hid (emRun_some hc HTN.out (by rw [HFR.out]; exact HRR.out))
                rw [hpl, ← hl3] at HRS HOP
                have HTX : Hid (txtOf w2 B6 = x2.text.length) := Lib.hid HTX2.out
                have HN3 := Lib.hid hl3
                have hl3b : L3.length ≤ 1000000 := by have := HL2.out; omega
                clear hp3 he3 hk3 ho3' hn3 hg3 hv3 hdn hpl okp HB5 HC5 H5 PA hl3
                generalize w6.setRow B6 (pcA (pairX e2.done o x2) (.slice A0 m0 c0)) = W7 at *
                go_loopw [45] (fun i wx => ∃ (k3 : Nat) (w8 : World), k3 ≤ 12 ∧ i = .int .i64 k3 ∧ w8 = wx ∧ Hid (Lp P w B6 ⟨pairL e2.done o x2, clipK e2.wo L3.length k3⟩ (pairX e2.done o x2) (.slice A0 m0 c0) (.slice A3 L3.length c3) w8 L3 P3)) (fun i _ => 12 - (RowKit.intOf i).toNat)
                case atStart => exact ⟨0, _, by omega, rfl, rfl, by rw [clipK_zero]; exact HL7⟩
                case round =>
                  obtain ⟨k3, w8, hk3, rfl, rfl, H8⟩ := hrel
                  by_cases hk12 : k3 < 12
                  · have yk := H8.out.em.wo.cell k3 (woC_at (i := k3) (by rw [clipK_len]; omega))
                    have fk := H8.out.em.wo.free k3
                    dsimp only at yk
                    rw [clipK_at (by omega)] at yk
                    have H9 := Lib.hid (H8.out.wo HP.out k3 (min (e2.wo.getD k3 0) L3.length))
                    dsimp only at H9
                    rw [clipK_step (by omega)] at H9
                    obtain ⟨mn, hmn⟩ : ∃ mn, min (e2.wo.getD k3 0) L3.length = mn := ⟨_, rfl⟩
                    rw [hmn] at H9
                    generalize e2.wo.getD k3 0 = ak at *
                    have m1 : min (ak : Int) (L3.length : Int) = (mn : Int) := by omega
                    have m2 : (if (L3.length : Int) < (ak : Int) then (L3.length : Int) else (ak : Int)) = (mn : Int) := by split <;> omega
                    have j0 : (0 : Int) ≤ (k3 : Int) := by omega
                    have j1 : (k3 : Int) < 12 := by omega
                    clear hmn
                    go_wp2_with fail
                    go_roundw
                    case rel => exact ⟨k3 + 1, _, by omega, by go_num, rfl, H9⟩
                    case measure => simp [RowKit.intOf]; omega
                  · have hk12' : k3 = 12 := by omega
                    subst hk12'
                    have H9 : Hid (LpMid P w B6 (⟨pairL e2.done o x2, clipW e2.wo L3.length⟩, pairX e2.done o x2) (.slice A0 m0 c0) (.slice A3 L3.length c3) w8) := Lib.hid ⟨L3, P3, by
                      have := H8.out
                      rw [clipK_all (by omega)] at this
                      exact this⟩
                    have HT9 : Hid (txtOf w8 B6 = (pairX e2.done o x2).text.length) := Lib.hid H8.out.txt
                    have HRR2 := Lib.hid (HRS.out.symm.trans HR.out)
                    go_wp2_with fail
                    go_roundw
                    case rel => exact ⟨_, _, _, pairX e2.done o x2, N + 1, T, rfl, rfl, hf2, by omega, hT, H9, HRR2, HOP⟩
                    case measure => rw [HT9.out, HTX.out]; omega
          · have HE3 : Hid (LpMid P w B6 (emRun (emF ((L.map Prod.fst).take k)) x) (.slice A0 m0 c0) v2 w2) := Lib.hid (by rw [← HR.out, emRun_stop (.inl (by simpa using hc))]; exact HM.out)
            rw [show x2.closes = false by simpa using hc] at y7
            clear hl hbx
            go_wp2_with fail
            go_meet
            case rel => exact ⟨_, _, rfl, rfl, HE3⟩
      case rest =>
        obtain ⟨v2, w2, rfl, rfl, HM⟩ := hcut
        obtain ⟨L2, P2, hl⟩ := HM.out
        have hr := EmOk.run _ HOKk.out x (Nat.le_refl _)
        have hlen := hr.1.len
        have HE2 : Hid (emF ((L.map Prod.fst).take (k + 1)) = ⟨(emRun (emF ((L.map Prod.fst).take k)) x).1.done ++ [(emRun (emF ((L.map Prod.fst).take k)) x).2], (emRun (emF ((L.map Prod.fst).take k)) x).1.wo⟩) := HST
        clear hr
        generalize emRun (emF ((L.map Prod.fst).take k)) x = r at *
        obtain ⟨e2, x2⟩ := r
        dsimp only at hl hlen HE2
        have hL2 : L2.length = e2.done.length := by rw [← hl.em.eq, List.length_map]
        have HCB : Hid (w2.rangeAt B6 0 [.int .i64 x2.kind, .string ⟨x2.text.toArray⟩, .string ⟨x2.dest.toArray⟩, .string ⟨x2.title.toArray⟩, .slice A0 m0 c0, .int .i64 x2.first, .bool x2.opens, .bool x2.closes, .bool x2.single]) := Lib.hid (fun j z hz => hl.box.cell _ (by rw [Nat.zero_add, show pcA x2 (.slice A0 m0 c0) = (pcC x2 (.slice A0 m0 c0)).toArray from rfl, List.getElem?_toArray]; exact hz))
        have KA2 := (Keeps.refl w2).alloc (.cells #[.int .i64 x2.kind, .string ⟨x2.text.toArray⟩, .string ⟨x2.dest.toArray⟩, .string ⟨x2.title.toArray⟩, .slice A0 m0 c0, .int .i64 x2.first, .bool x2.opens, .bool x2.closes, .bool x2.single] 42)
        have hown := row_below hl.em.pcs.row KA2
        have hnw := cells_new w2 [.int .i64 x2.kind, .string ⟨x2.text.toArray⟩, .string ⟨x2.dest.toArray⟩, .string ⟨x2.title.toArray⟩, .slice A0 m0 c0, .int .i64 x2.first, .bool x2.opens, .bool x2.closes, .bool x2.single] 42
        have hsz2 := hl.em.keep.size
        have hza : (w2.alloc (.cells #[.int .i64 x2.kind, .string ⟨x2.text.toArray⟩, .string ⟨x2.dest.toArray⟩, .string ⟨x2.title.toArray⟩, .slice A0 m0 c0, .int .i64 x2.first, .bool x2.opens, .bool x2.closes, .bool x2.single] 42)).heap.size = w2.heap.size + 1 := by simp
        have h1' := pcC_one x2 (v := .slice A0 m0 c0) rfl
        obtain ⟨i0, hi0, hz0, hzz1, hz2⟩ := info_parts infoPc
        have hbnd : L2.length + 1 ≤ 1000000 := by omega
        have HH := Lib.hid hl
        clear hl hza
        go_wp2_with (first
          | (refine wpList_load_mid rfl 42 _ rfl B6 0 rfl [.int .i64 x2.kind, .string ⟨x2.text.toArray⟩, .string ⟨x2.dest.toArray⟩, .string ⟨x2.title.toArray⟩, .slice A0 m0 c0, .int .i64 x2.first, .bool x2.opens, .bool x2.closes, .bool x2.single] _ HCB.out Tryz.underlying42 rfl sizePc ?_)
          | (at_builtin; go_loud (
            refine wpList_append_own_at _ rfl _ _ 33 rfl (w.heap.size + 1) 42 i0 (.agg zeroPc) 9 96 Tryz.underlying33 hi0 hz0 hzz1 hz2 rfl (by decide) _ _ _ rfl hown ⟨w2.heap.size, 0, none⟩ 1 1 [.int .i64 x2.kind, .string ⟨x2.text.toArray⟩, .string ⟨x2.dest.toArray⟩, .string ⟨x2.title.toArray⟩, .slice A0 m0 c0, .int .i64 x2.first, .bool x2.opens, .bool x2.closes, .bool x2.single] rfl rfl hnw h1' (by simp only [maxLen]; omega) (by omega) (by simp; omega) ?_
            intro v' w3 hown' hgrow _ hat)))
        have HNX : Hid (EmMid P w (emF ((L.map Prod.fst).take (k + 1))) v' w3) := Lib.hid (by
          rw [HE2.out]
          refine ⟨L2 ++ [(x2, .slice A0 m0 c0)], P2, (HH.out.em.keeps KA2).more (x := x2) (u := .slice A0 m0 c0) (HH.out.kid.keep HH.out.em.pcs.lt KA2) hown' hgrow ?_⟩
          rcases hat with q | q
          · exact .inl q
          · exact .inr ⟨_, Nat.le_refl _, q⟩)
        clear hown' hgrow hat hnw hown KA2
        go_wp2_with fail
        go_roundw
        case rel => exact ⟨k + 1, by omega, by go_num, HNX⟩
        case measure => simp [RowKit.intOf]; omega
    · have hkn : k = n := by omega
      have HEE := Lib.hid HE.out
      subst hkn
      obtain ⟨L1, P1, E⟩ := HE.out
      obtain ⟨A1, c1, e1, hc1, hc2⟩ := row_form E.pcs.row
      subst e1
      have HF1 : Hid (EmPost P w (emM (L.map Prod.fst)) (.returned (.slice A1 L1.length c1)) wr) := Lib.hid ⟨A1, L1.length, c1, L1, P1, rfl, Vw.of_own E.pcs.row, hc1, hc2, E.pcs.kid, by rw [E.eq, List.take_of_length_le (by rw [List.length_map, HL.out]; exact Nat.le_refl _)]; rfl, E.keep, fun b hb => by rcases E.new b hb with h | h; exact .inl h; exact .inr (by omega), E.pcs.lt⟩
      go_wp2_with fail
      go_ret
      exact HF1.out
end Go.Proofs.YtklmgbkkjmfhcaaGreatDoor


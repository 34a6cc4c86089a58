/-
  Texts of the proof, one behind the other: Ip1, Ip2, Ip3, Ip4, Ip5.
-/
import Derived.Test.YtklmgbkkjmfhcaaGreatDoorM32
import Derived.Deep.RegionHeld3
import Derived.Shelf.Strings.SlTrimAscii
import Derived.Test.YtklmgbkkjmfhcaaGreatDoorM19
import Derived.Test.YtklmgbkkjmfhcaaGreatDoorM20
import Derived.Test.YtklmgbkkjmfhcaaGreatDoorM5
/-
  Contracts of inline's put, countTicks, skipBlanks.
-/
namespace Go.Proofs.YtklmgbkkjmfhcaaGreatDoor
open Go.RowKit Go.Lib

theorem step_append_run' {P : Program} {w : World} {ops : Array Oper} {o : Oper} {a : Act} {K : Act → World → Prop} {Q : Exit → Act → World → Prop} {E : Prop} (hgd : o.guard = none) (s x : Operand) (t tx : TypeId)
    (ho : o.op = .call { callee := .builtin .append, args := #[s, x], argTypes := #[t, tx] }) (v u : Value) (hs : a.eval s = v) (hx : a.eval x = u) (v' : Value) (w' : World)
    (hr : (Builtin.append_ #[t, tx] o.type #[v, u]).run P w = .ok v' w') (h : K (a.put o.dst v') w') :
    if Region.wanted o (yielded ops a.tmps) = true then Oper.wp P o a w K Q else E := by
  have hw : Region.wanted o (yielded ops a.tmps) = true := by simp [Region.wanted, hgd]
  rw [if_pos hw]
  unfold Oper.wp execOp
  simp only [ho, resolve, invoke, builtin, Sem.run_bind, Sem.run_pure, Result.andThen_ok, List.map_toArray, List.map_cons, List.map_nil, hs, hx, hr]
  exact h
section
variable {W : World} {B : Nat} {O : Nat → Option Nat} {s : ByteArray} {rs : List Rf} {p : Ps} {lv bv rv : Value} {fi : Nat} {pm tm em : Value} {L : List (Pc × Value)}
theorem MemI.ne {cls : Nat} (h : MemI W B O s rs p lv bv rv fi pm tm em L) {g : Nat} (hg : O g = some (cls + 1)) : g ≠ B := fun e => by rw [e, h.oB] at hg; cases hg
set_option maxRecDepth 100000 in
set_option maxHeartbeats 8000000 in
theorem put_any (h : MemI W B O s rs p lv bv rv fi pm tm em L) (k : Nat) (t d ti : List UInt8) (kids : List Sp) (kv : Value) (n : Nat) (hk : SpsAt W (Out O W) kids kv) (hn : 1 ≤ n) (ht : t.length ≤ n) (hp : p.pos + n ≤ s.size) :
    Calls Tryz.prog 25 #[.pointer (some ⟨B, 0, none⟩), .agg #[.int .i64 k, .string ⟨t.toArray⟩, .string ⟨d.toArray⟩, .string ⟨ti.toArray⟩, kv], .int .i64 n] W fun e w' => e = .returned (.tuple #[]) ∧ PostI W B O s rs (p.put (spanP k t d ti kids) n) w' := by
  obtain ⟨A0, m0, c0, rfl⟩ := hk.form
  obtain ⟨Al, cl, rfl, hcl1, hcl2⟩ := row_form h.row
  obtain ⟨i0, hi0, hz0, hz1, hz2⟩ := info_parts infoPc
  have hlen : L.length ≤ p.pos := by have := h.wf.len; rw [← h.eq, List.length_map] at this; exact this
  have hpos := h.wf.pos
  rw [bytes_len] at hpos
  have hsiz := h.siz
  have KS := (Keeps.refl W).alloc (.cells #[.int .i64 k, .string ⟨t.toArray⟩, .string ⟨d.toArray⟩, .string ⟨ti.toArray⟩, .slice A0 m0 c0] 31)
  have BSp := Blk.new W 31 #[.int .i64 k, .string ⟨t.toArray⟩, .string ⟨d.toArray⟩, .string ⟨ti.toArray⟩, .slice A0 m0 c0]
  have hz : (W.alloc (.cells #[.int .i64 k, .string ⟨t.toArray⟩, .string ⟨d.toArray⟩, .string ⟨ti.toArray⟩, .slice A0 m0 c0] 31)).heap.size = W.heap.size + 1 := by simp
  have HM := Lib.hid h
  have HK := Lib.hid hk
  have x0 := BSp.cell 0 (v := .int .i64 k) rfl
  have x1 := BSp.cell 1 (v := .string ⟨t.toArray⟩) rfl
  have x2 := BSp.cell 2 (v := .string ⟨d.toArray⟩) rfl
  have x3 := BSp.cell 3 (v := .string ⟨ti.toArray⟩) rfl
  have x4 := BSp.cell 4 (v := .slice A0 m0 c0) rfl
  have y2 := (h.box.keep KS).cell 2 (v := .slice Al L.length cl) rfl
  have KA : Keeps (W.alloc (.cells #[.int .i64 k, .string ⟨t.toArray⟩, .string ⟨d.toArray⟩, .string ⟨ti.toArray⟩, .slice A0 m0 c0] 31)) (((W.alloc (.cells #[.int .i64 k, .string ⟨t.toArray⟩, .string ⟨d.toArray⟩, .string ⟨ti.toArray⟩, .slice A0 m0 c0] 31)).alloc (.cells #[.int .i64 k, .string ⟨t.toArray⟩, .string ⟨d.toArray⟩, .string ⟨ti.toArray⟩, .slice A0 m0 c0, .int .i64 0, .bool false, .bool false, .bool false] 42)).drew) := ((Keeps.refl _).alloc _).drew
  have y2a := (h.box.keep (KS.trans ((Keeps.refl _).alloc (.cells #[.int .i64 k, .string ⟨t.toArray⟩, .string ⟨d.toArray⟩, .string ⟨ti.toArray⟩, .slice A0 m0 c0, .int .i64 0, .bool false, .bool false, .bool false] 42)))).cell 2 (v := .slice Al L.length cl) rfl
  have hnw : ∀ j u, [Value.int .i64 k, .string ⟨t.toArray⟩, .string ⟨d.toArray⟩, .string ⟨ti.toArray⟩, .slice A0 m0 c0, .int .i64 0, .bool false, .bool false, .bool false][j]? = some u → (((W.alloc (.cells #[.int .i64 k, .string ⟨t.toArray⟩, .string ⟨d.toArray⟩, .string ⟨ti.toArray⟩, .slice A0 m0 c0] 31)).alloc (.cells #[.int .i64 k, .string ⟨t.toArray⟩, .string ⟨d.toArray⟩, .string ⟨ti.toArray⟩, .slice A0 m0 c0, .int .i64 0, .bool false, .bool false, .bool false] 42)).drew).cell? ((⟨W.heap.size + 1, 0, none⟩ : Addr).add j) = some u := by
    have := cells_new (W.alloc (.cells #[.int .i64 k, .string ⟨t.toArray⟩, .string ⟨d.toArray⟩, .string ⟨ti.toArray⟩, .slice A0 m0 c0] 31)) [.int .i64 k, .string ⟨t.toArray⟩, .string ⟨d.toArray⟩, .string ⟨ti.toArray⟩, .slice A0 m0 c0, .int .i64 0, .bool false, .bool false, .bool false] 42
    rw [hz] at this
    exact this
  have hrow := row_below h.row (KS.trans KA)
  obtain ⟨v8, w8, ra, o8, g8, _, l8⟩ := run_append_own_at (P := Tryz.prog) (((W.alloc (.cells #[.int .i64 k, .string ⟨t.toArray⟩, .string ⟨d.toArray⟩, .string ⟨ti.toArray⟩, .slice A0 m0 c0] 31)).alloc (.cells #[.int .i64 k, .string ⟨t.toArray⟩, .string ⟨d.toArray⟩, .string ⟨ti.toArray⟩, .slice A0 m0 c0, .int .i64 0, .bool false, .bool false, .bool false] 42)).drew) 0 33 33 42 i0 (.agg zeroPc) 9 96 Tryz.underlying33 hi0 hz0 hz1 hz2 rfl (by decide) _ _ _ hrow ⟨W.heap.size + 1, 0, none⟩ 1 1 [.int .i64 k, .string ⟨t.toArray⟩, .string ⟨d.toArray⟩, .string ⟨ti.toArray⟩, .slice A0 m0 c0, .int .i64 0, .bool false, .bool false, .bool false] rfl hnw (pcC_one (spanP k t d ti kids) (v := .slice A0 m0 c0) rfl) (by simp only [maxLen]; omega) (by omega) (Nat.zero_le _)
  obtain ⟨A8, c8, e8⟩ : ∃ A8 c8, v8 = .slice A8 (L.length + 1) c8 := by
    obtain ⟨A8, c8, e8, _⟩ := row_form o8
    exact ⟨A8, c8, e8⟩
  subst e8
  have neB : ∀ g, (Value.slice Al L.length cl).ownBlock = some g → g ≠ B := fun g e => h.ne (cls := 0) (h.oL g e)
  have B8 : Blk w8 B 38 (boxI s p (.slice Al L.length cl) bv rv fi pm tm em) := by
    unfold Blk
    rw [g8.block B (by have := h.box.lt; have := (KS.trans KA).size; omega) (fun e => neB B e.symm rfl)]
    exact h.box.keep (KS.trans KA)
  have z2 := B8.cell 2 (v := .slice Al L.length cl) rfl
  have f2 := B8.free 2
  have B9 := B8.set 2 (.slice A8 (L.length + 1) c8) rfl
  have z1 := B9.cell 1 (v := .int .i64 p.pos) rfl
  have f1 := B9.free 1
  have FIN : Hid (PostI W B O s rs (p.put (spanP k t d ti kids) n) ((w8.setCell ⟨B, 2, none⟩ (.slice A8 (L.length + 1) c8)).setCell ⟨B, 1, none⟩ (.int .i64 ((p.pos : Int) + (n : Int))))) := Lib.hid (by
    have KT := KS.trans KA
    have hsz := KT.size
    have same : ∀ b, b ≠ B → ((w8.setCell ⟨B, 2, none⟩ (.slice A8 (L.length + 1) c8)).setCell ⟨B, 1, none⟩ (.int .i64 ((p.pos : Int) + (n : Int)))).heap[b]? = w8.heap[b]? := fun b hb => by
      rw [heap_setCell_other _ ⟨B, 1, none⟩ b _ hb, heap_setCell_other _ ⟨B, 2, none⟩ b _ hb]
    have hz8 : ((w8.setCell ⟨B, 2, none⟩ (.slice A8 (L.length + 1) c8)).setCell ⟨B, 1, none⟩ (.int .i64 ((p.pos : Int) + (n : Int)))).heap.size = w8.heap.size := by rw [setCell_size, setCell_size]
    have hs8 := g8.size
    have old : ∀ b, b < W.heap.size → O b ≠ some 0 → O b ≠ some 1 → ((w8.setCell ⟨B, 2, none⟩ (.slice A8 (L.length + 1) c8)).setCell ⟨B, 1, none⟩ (.int .i64 ((p.pos : Int) + (n : Int)))).heap[b]? = W.heap[b]? := fun b hb h0 h1 => by
      rw [same b (fun e => h0 (by rw [e]; exact h.oB)), g8.block b (by omega) (fun e => h1 (h.oL b e.symm))]
      exact KT.block b hb
    have hnb : ∀ b, (Value.slice A8 (L.length + 1) c8).ownBlock = some b → O b = some 1 ∨ W.heap.size ≤ b := fun b e => by
      rcases l8 with q | q
      · rw [q] at e; exact .inl (h.oL b e)
      · rw [q] at e; cases e; right; omega
    have q1 : pcR (L ++ [(spanP k t d ti kids, .slice A0 m0 c0)]) = pcR L ++ [.int .i64 k, .string ⟨t.toArray⟩, .string ⟨d.toArray⟩, .string ⟨ti.toArray⟩, .slice A0 m0 c0, .int .i64 0, .bool false, .bool false, .bool false] := by rw [pcR_app]; rfl
    have hp1 : ((p.pos : Int) + (n : Int)) = (((p.put (spanP k t d ti kids) n).pos : Nat) : Int) := by show _ = ((p.pos + n : Nat) : Int); omega
    obtain ⟨O', m, c⟩ := h.next (W' := (w8.setCell ⟨B, 2, none⟩ (.slice A8 (L.length + 1) c8)).setCell ⟨B, 1, none⟩ (.int .i64 ((p.pos : Int) + (n : Int)))) (p' := p.put (spanP k t d ti kids) n) (lv' := .slice A8 (L.length + 1) c8) (bv' := bv) (fi' := fi) (L' := L ++ [(spanP k t d ti kids, .slice A0 m0 c0)])
      (g8.os.trans KT.os) (g8.tape.trans KT.tape) (g8.output.trans KT.output) (by rw [hz8]; omega)
      (fun b hb h0 h1 _ => old b hb h0 h1)
      (B9.set 1 _ (by rw [hp1]; rfl))
      (by
        rw [q1, List.length_append, List.length_singleton]
        exact row_same o8 fun b e => same b (fun q => by
          rcases hnb b e with r | r
          · exact h.ne (cls := 0) r q
          · have := h.box.lt; omega))
      (by
        rcases l8 with q | q
        · exact .inl q
        · exact .inr ⟨_, by omega, q⟩)
      (row_same h.brs fun b e => by
        have hb := h.oK b e
        exact old b (h.lt b (by rw [hb]; simp)) (by rw [hb]; simp) (by rw [hb]; simp))
      (.inl rfl) (by rw [List.map_append, h.eq]; rfl)
      (fun y hy => by
        rcases List.mem_append.1 hy with hy | hy
        · exact (h.kid y hy).same (fun b hb => ⟨hb.1, by rw [hz8]; have := hb.2; omega, fun e => by
              rcases hnb b e with r | r
              · rw [hb.1] at r; cases r
              · have := hb.2; omega, fun e => by have r := h.oK b e; rw [hb.1] at r; cases r⟩) fun b hb => old b hb.2 (by rw [hb.1]; simp) (by rw [hb.1]; simp)
        · rw [List.mem_singleton] at hy
          subst hy
          exact hk.same (fun b hb => ⟨hb.1, by rw [hz8]; have := hb.2; omega, fun e => by
              rcases hnb b e with r | r
              · rw [hb.1] at r; cases r
              · have := hb.2; omega, fun e => by have r := h.oK b e; rw [hb.1] at r; cases r⟩) fun b hb => old b hb.2 (by rw [hb.1]; simp) (by rw [hb.1]; simp))
      (by show fi + p.br.length ≤ p.pos + n; have := h.fin; omega) (h.wf.more rfl hn ht (by rw [bytes_len]; exact hp)).core
      (fun y hy => by
        rcases List.mem_append.1 hy with hy | hy
        · exact h.fst y hy
        · rw [List.mem_singleton] at hy; subst hy; exact Nat.zero_le _)
    exact ⟨O', ⟨h.wf.more rfl hn ht (by rw [bytes_len]; exact hp), _, _, _, _, _, _, _, _, m⟩, c⟩)
  clear h hk KS BSp KA hnw hrow o8 g8 l8 neB B8 B9 hz0 hz1 hz2 hi0 hcl2
  go_enter Tryz.func25, Tryz.ntmps25
  go_wp2_with fail
  go_region_law (refine step_append_run' rfl (.tmp 10) (.tmp 13) _ _ rfl _ _ (by simp [Act.eval]) (by simp [Act.eval]) _ _ ra ?_)
  all_goals
    go_wp2_with fail
    go_end0
    exact ⟨rfl, FIN.out⟩
theorem tabTrimI_any (t : ByteArray) (w : World) :
    Calls Tryz.prog 47 #[.string t, .string ⟨#[32, 9]⟩] w fun e w' => e = .returned (.string ⟨(trimLeftS t.data.toList [32, 9]).toArray⟩) ∧ Keeps w w' :=
  Any.strings_TrimLeft_laid Tryz.lays161 (by kernel_rfl) t ⟨#[32, 9]⟩ w (by decide) (fun j b h => by
    match j, h with
    | 0, h => cases h; decide
    | 1, h => cases h; decide)
/-- The place alone has turned. -/
theorem MemI.moved {W' : World} (h : MemI W B O s rs p lv bv rv fi pm tm em L) (q : Keeps W W') (n : Nat) (h1 : p.pos ≤ n) (h2 : n ≤ s.size) (h3 : ∀ x, p.list.getLast? = some x → x.single = false) : PostI W B O s rs { p with pos := n } (W'.setCell ⟨B, 1, none⟩ (.int .i64 (n : Nat))) := by
  have hk := h.keep q
  have same : ∀ b, b ≠ B → (W'.setCell ⟨B, 1, none⟩ (.int .i64 (n : Nat))).heap[b]? = W'.heap[b]? := fun b hb => heap_setCell_other _ ⟨B, 1, none⟩ b _ hb
  have hs := q.size
  obtain ⟨O', m, c⟩ := h.next (W' := W'.setCell ⟨B, 1, none⟩ (.int .i64 (n : Nat))) (p' := { p with pos := n }) (lv' := lv) (bv' := bv) (fi' := fi) (L' := L) q.os q.tape q.output (by rw [setCell_size]; exact hs)
    (fun b hb h0 _ _ => (same b (fun e => h0 (by rw [e]; exact h.oB))).trans (q.block b hb)) (hk.box.set 1 _ rfl)
    (row_same hk.row fun b e => same b (h.ne (cls := 0) (h.oL b e))) (.inl rfl) (row_same hk.brs fun b e => same b (h.ne (cls := 1) (h.oK b e))) (.inl rfl) h.eq
    (hk.kid.same (fun b hb => ⟨hb.1, (by rw [setCell_size]; exact hb.2), (fun e => by have r := h.oL b e; rw [hb.1] at r; cases r), (fun e => by have r := h.oK b e; rw [hb.1] at r; cases r)⟩) fun b hb => same b (fun e => by rw [e] at hb; have := hb.1; rw [h.oB] at this; cases this))
    (Nat.le_trans h.fin h1) (h.wf.on n h1 (by rw [bytes_len]; exact h2)) h.fst
  exact ⟨O', ⟨(h.wf.on n h1 (by rw [bytes_len]; exact h2)).full h3, _, _, _, _, _, _, _, _, m⟩, c⟩
set_option maxRecDepth 100000 in
set_option maxHeartbeats 8000000 in
theorem skipBlanks_any (h : MemI W B O s rs p lv bv rv fi pm tm em L) (h3 : ∀ x, p.list.getLast? = some x → x.single = false) :
    Calls Tryz.prog 27 #[.pointer (some ⟨B, 0, none⟩)] W fun e w' => e = .returned (.tuple #[]) ∧ PostI W B O s rs (skipM s.data.toList p) w' := by
  have hpos := h.wf.pos
  rw [bytes_len] at hpos
  have hsiz := h.siz
  have TT := Lib.hid (fun w => tabTrimI_any (s.extract p.pos s.size) w)
  rw [Lib.extract_to_end] at TT
  have hsk := skip_pos s.data.toList p h.wf.pos
  have hsm : (skipM s.data.toList p).pos = s.size - (trimLeftS (s.data.toList.drop p.pos) [32, 9]).length := by show s.data.toList.length - _ = _; rw [bytes_len]
  rw [hsm, bytes_len] at hsk
  have hpe : skipM s.data.toList p = { p with pos := s.size - (trimLeftS (s.data.toList.drop p.pos) [32, 9]).length } := by unfold skipM; rw [bytes_len]
  have htl := trimL_len (s.data.toList.drop p.pos) [32, 9]
  rw [List.length_drop, bytes_len] at htl
  have FIN := Lib.hid (fun W' (q : Keeps W W') => h.moved q _ hsk.1 hsk.2 h3)
  rw [← hpe] at FIN
  have NS : ∀ W', Keeps W W' → Keeps W W' ∧ W'.cell? ⟨B, 0, none⟩ = some (.string s) ∧ W'.cell? ⟨B, 1, none⟩ = some (.int .i64 p.pos) ∧ W'.frozen? ⟨B, 1, none⟩ = false := fun W' q => ⟨q, (h.box.keep q).cell 0 rfl, (h.box.keep q).cell 1 rfl, (h.box.keep q).free 1⟩
  clear hsm hpe hsk h3 h
  obtain ⟨X, hX⟩ : ∃ X : List UInt8, trimLeftS (s.data.toList.drop p.pos) [32, 9] = X := ⟨_, rfl⟩
  rw [hX] at TT FIN htl
  obtain ⟨sX, hsX⟩ : ∃ sX : ByteArray, (⟨X.toArray⟩ : ByteArray) = sX := ⟨_, rfl⟩
  have zX : sX.size = X.length := by rw [← hsX]; show X.toArray.size = _; simp
  rw [hsX] at TT
  rw [← zX] at FIN htl
  have HX := Lib.hid hX
  clear hX hsX zX
  have b0 : (0 : Int) ≤ (p.pos : Int) := by omega
  have b1 : (p.pos : Int) ≤ (s.size : Int) := by omega
  have hw : IntKind.i64.wrap ((s.size : Int) - (sX.size : Int)) = (s.size : Int) - (sX.size : Int) := IntWalk.i64_in _ (by omega)
  have hsub : ((s.size : Int) - (sX.size : Int)) = ((s.size - sX.size : Nat) : Int) := by omega
  have HSUB := Lib.hid hsub
  clear hsub
  go_enter Tryz.func27, Tryz.ntmps27
  go_wp2_with fail
  have C0 : ∀ W', Keeps W W' → W'.cell? ⟨B, 0, none⟩ = some (.string s) := fun W' q => (NS W' q).2.1
  have C1 : ∀ W', Keeps W W' → W'.cell? ⟨B, 1, none⟩ = some (.int .i64 p.pos) := fun W' q => (NS W' q).2.2.1
  have F1 : ∀ W', Keeps W W' → W'.frozen? ⟨B, 1, none⟩ = false := fun W' q => (NS W' q).2.2.2
  have KD : Keeps W W.drew := (Keeps.refl W).drew
  have c0 := C0 _ KD
  have c1 := C1 _ KD
  have f1 := F1 _ KD
  go_region_law (first | (go_simp; go_at_call 47; (with_reducible refine (TT.out _).mono ?_); rintro e w1 ⟨rfl, k1⟩; have K1 := KD.trans k1; have d0 := C0 _ K1; have d1 := C1 _ K1; have e1 := F1 _ K1))
  all_goals
    rw [HSUB.out]
    go_end0
    exact ⟨rfl, FIN.out _ K1⟩
end
end Go.Proofs.YtklmgbkkjmfhcaaGreatDoor

/-
  Inline's list: a piece behind the others, a text of the last piece; contract of takeByte.
-/
namespace Go.Proofs.YtklmgbkkjmfhcaaGreatDoor
open Go.RowKit Go.Lib

section
variable {W : World} {B : Nat} {O : Nat → Option Nat} {s : ByteArray} {rs : List Rf} {p : Ps} {lv bv rv : Value} {fi : Nat} {pm tm em : Value} {L : List (Pc × Value)}
theorem PostI.keep {w w' : World} (h : PostI W B O s rs p w) (q : Keeps w w') : PostI W B O s rs p w' := by
  obtain ⟨O', ⟨wf, lv, bv, rv, fi, pm, tm, em, L, m⟩, c⟩ := h
  exact ⟨O', ⟨wf, lv, bv, rv, fi, pm, tm, em, L, m.keep q⟩, c.trans (Chg.keeps O' q)⟩
/-- A piece has been put behind the others; the struct itself may have turned. -/
theorem MemI.app {w8 W' : World} {v8 : Value} {x : Pc} {kv : Value} {p' : Ps} (h : MemI W B O s rs p lv bv rv fi pm tm em L)
    (o8 : w8.ownsRow 0 42 9 v8 (L.length + 1) (pcR L ++ pcC x kv)) (g8 : W.grownBy w8 lv.ownBlock) (l8 : v8.ownBlock = lv.ownBlock ∨ ∃ b, W.heap.size ≤ b ∧ v8.ownBlock = some b)
    (same : ∀ b, b ≠ B → W'.heap[b]? = w8.heap[b]?) (hz8 : W'.heap.size = w8.heap.size) (hos : W'.os = w8.os) (htp : W'.tape = w8.tape) (hout : W'.output = w8.output)
    (hk : SpsAt W (Out O W) x.kids kv) (hl : p'.list = p.list ++ [x]) (hb : p'.br = p.br) (fin : fi + p'.br.length ≤ p'.pos) (wf : WfC s.data.toList p') (fst : x.first ≤ 1000000)
    (box : Blk W' B 38 (boxI s p' v8 bv rv fi pm tm em)) : ∃ O', MemI W' B O' s rs p' v8 bv rv fi pm tm em (L ++ [(x, kv)]) ∧ Chg W O W' O' := by
  have hs8 := g8.size
  have old : ∀ b, b < W.heap.size → O b ≠ some 0 → O b ≠ some 1 → W'.heap[b]? = W.heap[b]? := fun b hb h0 h1 => by
    rw [same b (fun e => h0 (by rw [e]; exact h.oB)), g8.block b hb (fun e => h1 (h.oL b e.symm))]
  have hnb : ∀ b, v8.ownBlock = some b → O b = some 1 ∨ W.heap.size ≤ b := fun b e => by
    rcases l8 with q | ⟨c, hc, q⟩
    · rw [q] at e; exact .inl (h.oL b e)
    · rw [q] at e; cases e; exact .inr hc
  exact h.next (W' := W') (p' := p') (lv' := v8) (bv' := bv) (fi' := fi) (L' := L ++ [(x, kv)])
    (hos.trans g8.os) (htp.trans g8.tape) (hout.trans g8.output) (by omega)
    (fun b hb h0 h1 _ => old b hb h0 h1) box
    (by
      rw [pcR_app, List.length_append, List.length_singleton, show pcR [(x, kv)] = pcC x kv from List.append_nil _]
      exact row_same o8 fun b e => same b (fun q => by
        rcases hnb b e with r | r
        · exact h.ne (cls := 0) r q
        · have := h.box.lt; omega))
    l8
    (by
      rw [hb]
      exact row_same h.brs fun b e => by
        have hb := h.oK b e
        exact old b (h.lt b (by rw [hb]; simp)) (by rw [hb]; simp) (by rw [hb]; simp))
    (.inl rfl) (by rw [List.map_append, h.eq, hl]; rfl)
    (fun y hy => by
      have lift : ∀ {l : List Sp} {v : Value}, SpsAt W (Out O W) l v → SpsAt W' (fun b => O b = none ∧ b < W'.heap.size ∧ v8.ownBlock ≠ some b ∧ bv.ownBlock ≠ some b) l v := fun q => q.same (fun b hb => ⟨hb.1, (by have := hb.2; omega), (fun e => by
        rcases hnb b e with r | r
        · rw [hb.1] at r; cases r
        · have := hb.2; omega), (fun e => by have r := h.oK b e; rw [hb.1] at r; cases r)⟩) fun b hb => old b hb.2 (by rw [hb.1]; simp) (by rw [hb.1]; simp)
      rcases List.mem_append.1 hy with hy | hy
      · exact lift (h.kid y hy)
      · rw [List.mem_singleton] at hy
        subst hy
        exact lift hk)
    fin wf
    (fun y hy => by
      rw [hl] at hy
      rcases List.mem_append.1 hy with hy | hy
      · exact h.fst y hy
      · rw [List.mem_singleton] at hy; subst hy; exact fst)
theorem pcR_last (L0 : List (Pc × Value)) (x : Pc) (kv : Value) (t : List UInt8) : (pcR (L0 ++ [(x, kv)])).set (L0.length * 9 + 1) (.string ⟨t.toArray⟩) = pcR (L0 ++ [(x.set t, kv)]) := by
  rw [pcR_app, pcR_app, List.set_append_right _ _ (by rw [pcR_len]; omega), pcR_len, show L0.length * 9 + 1 - L0.length * 9 = 1 by omega]
  rfl
end
section
variable {W : World} {B : Nat} {O : Nat → Option Nat} {s : ByteArray} {rs : List Rf} {p : Ps} {bv rv : Value} {fi : Nat} {pm tm em : Value} {L0 : List (Pc × Value)} {x : Pc} {kv : Value} {g n cap : Nat}
theorem MemI.len0 {L : List (Pc × Value)} (h : MemI W B O s rs p (.slice (some ⟨g, 0, none⟩) n cap) bv rv fi pm tm em L) : n = L.length := by
  rcases h.row.2 with ⟨e, _⟩ | ⟨_, _, _, e, _⟩
  · cases e
  · cases e; rfl
theorem MemI.at {L : List (Pc × Value)} (h : MemI W B O s rs p (.slice (some ⟨g, 0, none⟩) n cap) bv rv fi pm tm em L) {i : Nat} (hi : i < L.length) (j : Nat) (hj : j < 9) : W.cell? ⟨g, i * 9 + j, none⟩ = (pcC L[i].1 L[i].2)[j]? := by
  have hr := h.row
  have hn := h.len0
  subst hn
  rw [← pcR_at L i hi j hj]
  exact hr.cellAt _ (by omega)
theorem MemI.frz {L : List (Pc × Value)} (h : MemI W B O s rs p (.slice (some ⟨g, 0, none⟩) n cap) bv rv fi pm tm em L) (j : Nat) : W.frozen? ⟨g, j, none⟩ = false := by
  have hr := h.row
  have hn := h.len0
  subst hn
  exact hr.frozenAt j
/-- The last piece has another text; the struct itself may have turned. -/
theorem MemI.text {W1 : World} {p' : Ps} (h : MemI W B O s rs p (.slice (some ⟨g, 0, none⟩) n cap) bv rv fi pm tm em (L0 ++ [(x, kv)])) (t : List UInt8)
    (same : ∀ b, b ≠ B → W1.heap[b]? = W.heap[b]?) (hz : W1.heap.size = W.heap.size) (hos : W1.os = W.os) (htp : W1.tape = W.tape) (hout : W1.output = W.output)
    (box : Blk W1 B 38 (boxI s p' (.slice (some ⟨g, 0, none⟩) n cap) bv rv fi pm tm em)) (hl : p'.list = L0.map Prod.fst ++ [x.set t]) (hb : p'.br = p.br) (fin : fi + p'.br.length ≤ p'.pos) (wf : WfC s.data.toList p') :
    ∃ O', MemI (W1.setCell ⟨g, L0.length * 9 + 1, none⟩ (.string ⟨t.toArray⟩)) B O' s rs p' (.slice (some ⟨g, 0, none⟩) n cap) bv rv fi pm tm em (L0 ++ [(x.set t, kv)]) ∧ Chg W O (W1.setCell ⟨g, L0.length * 9 + 1, none⟩ (.string ⟨t.toArray⟩)) O' := by
  have hog : O g = some 1 := h.oL g rfl
  have hgB : g ≠ B := h.ne (cls := 0) hog
  have hn := h.len0
  have hr : W1.ownsRow 0 42 9 (.slice (some ⟨g, 0, none⟩) n cap) n (pcR (L0 ++ [(x, kv)])) := by
    rw [hn]
    have := h.row
    rw [hn] at this
    exact row_same this fun b e => by cases e; exact same g hgB
  obtain ⟨r1, r2⟩ := hr.stored (L0.length * 9 + 1) (.string ⟨t.toArray⟩)
  rw [pcR_last] at r1
  have hz2 : (W1.setCell ⟨g, L0.length * 9 + 1, none⟩ (.string ⟨t.toArray⟩)).heap.size = W.heap.size := by rw [setCell_size, hz]
  have hsm : ∀ b, b ≠ g → b ≠ B → (W1.setCell ⟨g, L0.length * 9 + 1, none⟩ (.string ⟨t.toArray⟩)).heap[b]? = W.heap[b]? := fun b h1 h2 => by
    rw [heap_setCell_other _ ⟨g, L0.length * 9 + 1, none⟩ b _ h1, same b h2]
  refine h.next (W' := W1.setCell ⟨g, L0.length * 9 + 1, none⟩ (.string ⟨t.toArray⟩)) (p' := p') (lv' := .slice (some ⟨g, 0, none⟩) n cap) (bv' := bv) (fi' := fi) (L' := L0 ++ [(x.set t, kv)])
    (r2.os.trans hos) (r2.tape.trans htp) (r2.output.trans hout) (by omega)
    (fun b hb h0 h1 _ => hsm b (fun e => h1 (by rw [e]; exact hog)) (fun e => h0 (by rw [e]; exact h.oB)))
    ?_ ?_ (.inl rfl) ?_ (.inl rfl) (by rw [List.map_append, hl]; rfl) ?_ fin wf ?_
  · unfold Blk
    rw [heap_setCell_other _ ⟨g, L0.length * 9 + 1, none⟩ B _ (fun e => hgB e.symm)]
    exact box
  · have : (L0 ++ [(x.set t, kv)]).length = n := by rw [hn]; simp
    rw [this]
    exact r1
  · rw [hb]
    exact row_same h.brs fun b e => by
      have hb := h.oK b e
      exact hsm b (fun e => by rw [e, hog] at hb; cases hb) (h.ne (cls := 1) hb)
  · intro y hy
    have lift : ∀ {l : List Sp} {v : Value}, SpsAt W (Out O W) l v → SpsAt (W1.setCell ⟨g, L0.length * 9 + 1, none⟩ (.string ⟨t.toArray⟩)) (fun b => O b = none ∧ b < (W1.setCell ⟨g, L0.length * 9 + 1, none⟩ (.string ⟨t.toArray⟩)).heap.size ∧ (Value.slice (some ⟨g, 0, none⟩) n cap).ownBlock ≠ some b ∧ bv.ownBlock ≠ some b) l v := fun q => q.same (fun b hb => ⟨hb.1, (by rw [hz2]; exact hb.2), (fun e => by have r : b = g := (by cases e; rfl); have hq := hb.1; rw [r, hog] at hq; cases hq), (fun e => by have r := h.oK b e; rw [hb.1] at r; cases r)⟩) fun b hb => hsm b (fun e => by have hq := hb.1; rw [e, hog] at hq; cases hq) (fun e => by have hq := hb.1; rw [e, h.oB] at hq; cases hq)
    rcases List.mem_append.1 hy with hy | hy
    · exact lift (h.kid y (List.mem_append_left _ hy))
    · rw [List.mem_singleton] at hy
      subst hy
      exact lift (h.kid (x, kv) (List.mem_append_right _ (List.mem_singleton_self _)))
  · intro y hy
    rw [hl] at hy
    have he := h.eq
    rw [List.map_append] at he
    rcases List.mem_append.1 hy with hy | hy
    · exact h.fst y (by rw [← he]; exact List.mem_append_left _ hy)
    · rw [List.mem_singleton] at hy
      subst hy
      exact h.fst x (by rw [← he]; exact List.mem_append_right _ (List.mem_singleton_self _))
theorem ext_grown {s : ByteArray} {a b : Nat} {t : List UInt8} {c : UInt8} (h : (s.data.toList.take b).drop a = t) (hc : s.data.toList.take (b + 1) = s.data.toList.take b ++ [c]) (hb : b ≤ s.size) (ha : a ≤ b) : s.extract a (b + 1) = ⟨(t ++ [c]).toArray⟩ := bytes_eq (by
  rw [Lib.extract_data, ← List.drop_take, hc, List.drop_append_of_le_length (by rw [List.length_take, bytes_len]; omega), h])
set_option maxRecDepth 100000 in
set_option maxHeartbeats 8000000 in
theorem takeByte_old (h : MemI W B O s rs p (.slice (some ⟨g, 0, none⟩) n cap) bv rv fi pm tm em (L0 ++ [(x, kv)])) (hx : x.single = true) (wf : WfI s.data.toList p) (hp : p.pos < s.size) :
    Calls Tryz.prog 18 #[.pointer (some ⟨B, 0, none⟩)] W fun e w' => e = .returned (.tuple #[]) ∧ PostI W B O s rs (byteM s.data.toList p) w' := by
  have hcap : n ≤ cap := by
    rcases h.row.2 with ⟨e, _⟩ | ⟨_, _, _, e, _, _, h1, _⟩
    · cases e
    · cases e; exact h1
  have hn : n = L0.length + 1 := by rw [h.len0]; simp
  subst hn
  have hsiz := h.siz
  have hlen : L0.length + 1 ≤ p.pos := by have := h.wf.len; rw [← h.eq, List.length_map, List.length_append, List.length_singleton] at this; exact this
  have hlast : p.list.getLast? = some x := by rw [← h.eq, List.map_append]; exact last_app _ _
  obtain ⟨o1, o2, o3⟩ := wf.one x hlast hx
  have hbm := byte_old s.data.toList p hlast hx
  obtain ⟨wb, _⟩ := wf.byte (by rw [bytes_len]; exact hp)
  obtain ⟨c, hc, ht, _⟩ := take_drop_one s.data.toList p.pos (by rw [bytes_len]; exact hp)
  rw [hbm, hc] at wb
  have hext : s.extract (p.pos - x.text.length) (p.pos + 1) = ⟨(x.text ++ [c]).toArray⟩ := ext_grown o2 ht (by omega) (by omega)
  have hL : L0.length < (L0 ++ [(x, kv)]).length := by simp
  have hg : (L0 ++ [(x, kv)])[L0.length] = (x, kv) := by simp
  have c1 : W.cell? ⟨g, L0.length * 9 + 1, none⟩ = some (.string ⟨x.text.toArray⟩) := by rw [h.at hL 1 (by decide), hg]; rfl
  have c8 : W.cell? ⟨g, L0.length * 9 + 8, none⟩ = some (.bool true) := by rw [h.at hL 8 (by decide), hg]; show some (Value.bool x.single) = _; rw [hx]
  have hgB : g ≠ B := h.ne (cls := 0) (h.oL g rfl)
  have b0 := h.box.cell 0 (v := .string s) rfl
  have b1 := h.box.cell 1 (v := .int .i64 p.pos) rfl
  have b2 := h.box.cell 2 (v := .slice (some ⟨g, 0, none⟩) (L0.length + 1) cap) rfl
  have f1 := h.box.free 1
  have B1 := h.box.set 1 (.int .i64 ((p.pos : Int) + 1)) rfl
  have d0 := B1.cell 0 (v := .string s) rfl
  have d1 := B1.cell 1 (v := .int .i64 ((p.pos : Int) + 1)) rfl
  have d2 := B1.cell 2 (v := .slice (some ⟨g, 0, none⟩) (L0.length + 1) cap) rfl
  have fg : (W.setCell ⟨B, 1, none⟩ (.int .i64 ((p.pos : Int) + 1))).frozen? ⟨g, L0.length * 9 + 1, none⟩ = false := by
    rw [World.frozen?_of_block (heap_setCell_other W ⟨B, 1, none⟩ g _ hgB)]
    exact h.frz _
  have e1 : (W.setCell ⟨B, 1, none⟩ (.int .i64 ((p.pos : Int) + 1))).cell? ⟨g, L0.length * 9 + 1, none⟩ = some (.string ⟨x.text.toArray⟩) := by
    rw [World.cell?_of_block (heap_setCell_other W ⟨B, 1, none⟩ g _ hgB)]
    exact c1
  have hp1 : ((p.pos : Int) + 1) = ((p.pos + 1 : Nat) : Int) := by omega
  have FIN := Lib.hid (by
    obtain ⟨O', m, q⟩ := h.text (W1 := W.setCell ⟨B, 1, none⟩ (.int .i64 ((p.pos : Int) + 1))) (p' := { p with list := p.list.dropLast ++ [x.set (x.text ++ [c])], pos := p.pos + 1 }) (x.text ++ [c]) (fun b hb => heap_setCell_other W ⟨B, 1, none⟩ b _ hb) (setCell_size _ _ _) rfl rfl rfl (by rw [hp1] at B1 ⊢; exact B1)
      (by show p.list.dropLast ++ _ = _; rw [← h.eq, List.map_append]; simp) rfl (by show fi + p.br.length ≤ p.pos + 1; have := h.fin; omega) wb.core
    exact (⟨O', ⟨wb, _, _, _, _, _, _, _, _, m⟩, q⟩ : PostI W B O s rs { p with list := p.list.dropLast ++ [x.set (x.text ++ [c])], pos := p.pos + 1 } ((W.setCell ⟨B, 1, none⟩ (.int .i64 ((p.pos : Int) + 1))).setCell ⟨g, L0.length * 9 + 1, none⟩ (.string ⟨(x.text ++ [c]).toArray⟩))))
  rw [hbm, hc]
  have hw : IntKind.i64.wrap (((L0.length + 1 : Nat) : Int) - 1) = ((L0.length : Nat) : Int) := by rw [IntWalk.i64_in _ (by omega)]; omega
  have hw1 : IntKind.i64.wrap ((p.pos : Int) + 1) = (p.pos : Int) + 1 := IntWalk.i64_in _ (by omega)
  have hw2 : IntKind.i64.wrap ((p.pos : Int) - ((x.text.length : Nat) : Int)) = ((p.pos - x.text.length : Nat) : Int) := by rw [IntWalk.i64_in _ (by omega)]; omega
  have zt : (⟨x.text.toArray⟩ : ByteArray).size = x.text.length := by show x.text.toArray.size = _; simp
  have hsz : p.pos + 1 ≤ s.size := hp
  have hs1 : (0 : Int) ≤ ((p.pos - x.text.length : Nat) : Int) := by omega
  have hs2 : ((p.pos - x.text.length : Nat) : Int) ≤ (p.pos : Int) + 1 := by omega
  have hs3 : (p.pos : Int) + 1 ≤ (s.size : Int) := by omega
  have hs4 : ((p.pos : Int) + 1).toNat = p.pos + 1 := by omega
  clear h wf wb hbm hlast o2 o3 hc ht hL hg hp1
  go_enter Tryz.func18, Tryz.ntmps18
  go_wp2_with fail
  go_region
  go_wp2_with fail
  go_region
  go_end0
  exact ⟨rfl, PostI.keep FIN.out ((Keeps.refl _).drew.trans (Keeps.refl _).drew)⟩
end
end Go.Proofs.YtklmgbkkjmfhcaaGreatDoor

/-
  Inline's append of one piece, made right ahead of it; contract of takeByte.
-/
namespace Go.Proofs.YtklmgbkkjmfhcaaGreatDoor
open Go.RowKit Go.Lib

section
variable {W : World} {B : Nat} {O : Nat → Option Nat} {s : ByteArray} {rs : List Rf} {p : Ps} {lv bv rv : Value} {fi : Nat} {pm tm em : Value} {L : List (Pc × Value)} {Al : Option Addr} {cl : Nat}
/-- One piece is made, and put behind the others: the new list, where it lies, what stays. -/
theorem MemI.made (h : MemI W B O s rs p (.slice Al L.length cl) bv rv fi pm tm em L) (x : Pc) (A0 : Option Addr) (m0 c0 : Nat) (hlen : L.length ≤ 20000) :
    ∃ A8 c8 w8, (Builtin.append_ #[33, 33] 33 #[.slice Al L.length cl, .slice (some ⟨W.heap.size, 0, none⟩) 1 1]).run Tryz.prog (W.alloc (.cells #[.int .i64 x.kind, .string ⟨x.text.toArray⟩, .string ⟨x.dest.toArray⟩, .string ⟨x.title.toArray⟩, .slice A0 m0 c0, .int .i64 x.first, .bool x.opens, .bool x.closes, .bool x.single] 42)) = .ok (.slice A8 (L.length + 1) c8) w8 ∧
      w8.ownsRow 0 42 9 (.slice A8 (L.length + 1) c8) (L.length + 1) (pcR L ++ pcC x (.slice A0 m0 c0)) ∧ W.grownBy w8 (Value.slice Al L.length cl).ownBlock ∧
      ((Value.slice A8 (L.length + 1) c8).ownBlock = (Value.slice Al L.length cl).ownBlock ∨ ∃ b, W.heap.size ≤ b ∧ (Value.slice A8 (L.length + 1) c8).ownBlock = some b) ∧
      Blk w8 B 38 (boxI s p (.slice Al L.length cl) bv rv fi pm tm em) := by
  obtain ⟨i0, hi0, hz0, hz1, hz2⟩ := info_parts infoPc
  have KA : Keeps W (W.alloc (.cells #[.int .i64 x.kind, .string ⟨x.text.toArray⟩, .string ⟨x.dest.toArray⟩, .string ⟨x.title.toArray⟩, .slice A0 m0 c0, .int .i64 x.first, .bool x.opens, .bool x.closes, .bool x.single] 42)) := (Keeps.refl _).alloc _
  have hrow := row_below h.row KA
  obtain ⟨v8, w8, ra, o8, g8, _, l8⟩ := run_append_own_at (P := Tryz.prog) (W.alloc (.cells #[.int .i64 x.kind, .string ⟨x.text.toArray⟩, .string ⟨x.dest.toArray⟩, .string ⟨x.title.toArray⟩, .slice A0 m0 c0, .int .i64 x.first, .bool x.opens, .bool x.closes, .bool x.single] 42)) 0 33 33 42 i0 (.agg zeroPc) 9 96 Tryz.underlying33 hi0 hz0 hz1 hz2 rfl (by decide) _ _ _ hrow ⟨W.heap.size, 0, none⟩ 1 1 (pcC x (.slice A0 m0 c0)) rfl (cells_new W (pcC x (.slice A0 m0 c0)) 42) (pcC_one x (v := .slice A0 m0 c0) rfl) (by simp only [maxLen]; omega) (by omega) (Nat.zero_le _)
  obtain ⟨A8, c8, e8, _⟩ := row_form o8
  subst e8
  have hb : (Value.slice Al L.length cl).ownBlock ≠ some B := fun e => h.ne (cls := 0) (h.oL B e) rfl
  refine ⟨A8, c8, w8, ra, o8, (keeps_grown KA _).trans g8, ?_, ?_⟩
  · rcases l8 with q | q
    · exact .inl q
    · exact .inr ⟨_, KA.size, q⟩
  · unfold Blk
    rw [g8.block B (by have := h.box.lt; have := KA.size; omega) (fun e => hb e.symm)]
    exact h.box.keep KA
end
section
variable {W : World} {B : Nat} {O : Nat → Option Nat} {s : ByteArray} {rs : List Rf} {p : Ps} {bv rv : Value} {fi : Nat} {pm tm em : Value} {L : List (Pc × Value)} {Al : Option Addr} {cl : Nat}
theorem PostI.from {w1 w' : World} (k : Keeps W w1) (h : PostI w1 B O s rs p w') : PostI W B O s rs p w' := by
  obtain ⟨O', m, c⟩ := h
  exact ⟨O', m, (Chg.keeps O k).trans c⟩
/-- A piece of no text that takes single bytes. -/
def fresP : Pc := ⟨1, [], [], [], [], 0, false, false, true⟩
/-- The last byte alone, behind that piece. -/
theorem fres_any {w1 w8 : World} {A8 : Option Addr} {c8 : Nat} (h : MemI w1 B O s rs p (.slice Al L.length cl) bv rv fi pm tm em L) (hp : p.pos < s.size) (h3 : ∀ x, p.list.getLast? = some x → x.single = false)
    (o8 : w8.ownsRow 0 42 9 (.slice A8 (L.length + 1) c8) (L.length + 1) (pcR L ++ pcC fresP (.slice none 0 0))) (g8 : w1.grownBy w8 (Value.slice Al L.length cl).ownBlock)
    (l8 : (Value.slice A8 (L.length + 1) c8).ownBlock = (Value.slice Al L.length cl).ownBlock ∨ ∃ b, w1.heap.size ≤ b ∧ (Value.slice A8 (L.length + 1) c8).ownBlock = some b)
    (B8 : Blk w8 B 38 (boxI s p (.slice Al L.length cl) bv rv fi pm tm em)) :
    ∃ g c, A8 = some ⟨g, 0, none⟩ ∧ g ≠ B ∧ L.length + 1 ≤ c8 ∧ s.extract p.pos (p.pos + 1) = ⟨#[c]⟩ ∧
      (w8.setCell ⟨B, 2, none⟩ (.slice A8 (L.length + 1) c8)).cell? ⟨g, L.length * 9 + 1, none⟩ = some (.string ⟨#[]⟩) ∧
      (∀ w9 : World, w9.heap[g]? = (w8.setCell ⟨B, 2, none⟩ (.slice A8 (L.length + 1) c8)).heap[g]? → w9.frozen? ⟨g, L.length * 9 + 1, none⟩ = false) ∧
      PostI w1 B O s rs (byteM s.data.toList p) (((w8.setCell ⟨B, 2, none⟩ (.slice A8 (L.length + 1) c8)).setCell ⟨B, 1, none⟩ (.int .i64 ((p.pos : Int) + 1))).setCell ⟨g, L.length * 9 + 1, none⟩ (.string ⟨#[c]⟩)) := by
  obtain ⟨g, rfl, hcap⟩ : ∃ g, A8 = some ⟨g, 0, none⟩ ∧ L.length + 1 ≤ c8 := by
    rcases o8.2 with ⟨e, _⟩ | ⟨g, cap, cur, e, _, _, h1, _⟩
    · cases e
    · cases e; exact ⟨g, rfl, h1⟩
  have hpos : p.pos ≤ s.size := by omega
  obtain ⟨c, hc, ht, _⟩ := take_drop_one s.data.toList p.pos (by rw [bytes_len]; exact hp)
  have hgB : g ≠ B := fun e => by
    rcases l8 with q | ⟨b, hb, q⟩
    · exact h.ne (cls := 0) (h.oL g q.symm) e
    · have hbx := h.box.lt
      have hbg : g = b := Option.some.inj q
      omega
  have hcell : w8.cell? ⟨g, L.length * 9 + 1, none⟩ = some (.string ⟨#[]⟩) := by
    rw [o8.cellAt _ (by omega), List.getElem?_append_right (by rw [pcR_len]; omega), pcR_len, show L.length * 9 + 1 - L.length * 9 = 1 by omega]
    rfl
  have hb2 : (w8.setCell ⟨B, 2, none⟩ (.slice (some ⟨g, 0, none⟩) (L.length + 1) c8)).heap[g]? = w8.heap[g]? := heap_setCell_other w8 ⟨B, 2, none⟩ g _ hgB
  have hext : s.extract p.pos (p.pos + 1) = ⟨#[c]⟩ := ext_grown (t := []) (List.drop_eq_nil_of_le (by rw [List.length_take]; omega)) ht hpos (Nat.le_refl _)
  have wb := ((h.wf.full h3).byte (by rw [bytes_len]; exact hp)).1
  have hbm := byte_new s.data.toList p h3
  rw [hbm, hc] at wb
  have hp1 : ((p.pos : Int) + 1) = ((p.pos + 1 : Nat) : Int) := by omega
  have B9 := B8.set 2 (.slice (some ⟨g, 0, none⟩) (L.length + 1) c8) rfl
  have BA := B9.set 1 (.int .i64 ((p.pos + 1 : Nat) : Int)) rfl
  refine ⟨g, c, rfl, hgB, hcap, hext, by rw [World.cell?_of_block hb2]; exact hcell, fun w9 e9 => by rw [World.frozen?_of_block (e9.trans hb2)]; exact o8.frozenAt _, ?_⟩
  rw [hbm, hc, hp1]
  obtain ⟨O1, m1, q1⟩ := h.app (W' := (w8.setCell ⟨B, 2, none⟩ (.slice (some ⟨g, 0, none⟩) (L.length + 1) c8)).setCell ⟨B, 1, none⟩ (.int .i64 ((p.pos + 1 : Nat) : Int))) (x := fresP) (kv := .slice none 0 0) (p' := { p with list := p.list ++ [fresP], pos := p.pos + 1 }) o8 g8 l8
    (fun b hb => by rw [heap_setCell_other _ ⟨B, 1, none⟩ b _ hb, heap_setCell_other _ ⟨B, 2, none⟩ b _ hb]) (by rw [setCell_size, setCell_size]) rfl rfl rfl (SpsAt.nil _ _) rfl rfl (by show fi + p.br.length ≤ p.pos + 1; have := h.fin; omega)
    (h.wf.fresh (by rw [bytes_len]; exact hp)) (Nat.zero_le _) BA
  obtain ⟨O2, m2, q2⟩ := m1.text (W1 := (w8.setCell ⟨B, 2, none⟩ (.slice (some ⟨g, 0, none⟩) (L.length + 1) c8)).setCell ⟨B, 1, none⟩ (.int .i64 ((p.pos + 1 : Nat) : Int))) (p' := { p with list := p.list ++ [⟨1, [c], [], [], [], 0, false, false, true⟩], pos := p.pos + 1 }) [c] (fun _ _ => rfl) rfl rfl rfl rfl m1.box
    (by show p.list ++ _ = L.map Prod.fst ++ _; rw [h.eq]; rfl) rfl (by show fi + p.br.length ≤ p.pos + 1; have := h.fin; omega) wb.core
  exact ⟨O2, ⟨wb, _, _, _, _, _, _, _, _, m2⟩, q1.trans q2⟩
set_option maxRecDepth 100000 in
set_option maxHeartbeats 8000000 in
theorem takeByte_new (h : MemI W B O s rs p (.slice Al L.length cl) bv rv fi pm tm em L) (hp : p.pos < s.size) (h3 : ∀ x, p.list.getLast? = some x → x.single = false)
    (h4 : (L.length : Int) - 1 < 0 ∨ ∃ g0, Al = some ⟨g0, 0, none⟩ ∧ 0 ≤ (L.length : Int) - 1 ∧ W.cell? ⟨g0, (L.length - 1) * 9 + 8, none⟩ = some (.bool false)) :
    Calls Tryz.prog 18 #[.pointer (some ⟨B, 0, none⟩)] W fun e w' => e = .returned (.tuple #[]) ∧ PostI W B O s rs (byteM s.data.toList p) w' := by
  have hsiz := h.siz
  have hlen : L.length ≤ p.pos := by have := h.wf.len; rw [← h.eq, List.length_map] at this; exact this
  have b0 := h.box.cell 0 (v := .string s) rfl
  have b1 := h.box.cell 1 (v := .int .i64 p.pos) rfl
  have b2 := h.box.cell 2 (v := .slice Al L.length cl) rfl
  have HT := Lib.hid (fun w => textOf_any ⟨#[]⟩ w)
  have hw : IntKind.i64.wrap ((L.length : Int) - 1) = (L.length : Int) - 1 := IntWalk.i64_in _ (by omega)
  have hw1 : IntKind.i64.wrap ((p.pos : Int) + 1) = (p.pos : Int) + 1 := IntWalk.i64_in _ (by omega)
  have HM : Hid (∀ w1 : World, Keeps W w1 → ∃ A8 c8 w8, (Builtin.append_ #[33, 33] 33 #[.slice Al L.length cl, .slice (some ⟨w1.heap.size, 0, none⟩) 1 1]).run Tryz.prog (w1.alloc (.cells #[.int .i64 1, .string ⟨#[]⟩, .string ⟨#[]⟩, .string ⟨#[]⟩, .slice none 0 0, .int .i64 0, .bool false, .bool false, .bool true] 42)) = .ok (.slice A8 (L.length + 1) c8) w8 ∧
      w8.ownsRow 0 42 9 (.slice A8 (L.length + 1) c8) (L.length + 1) (pcR L ++ pcC fresP (.slice none 0 0)) ∧ w1.grownBy w8 (Value.slice Al L.length cl).ownBlock ∧
      ((Value.slice A8 (L.length + 1) c8).ownBlock = (Value.slice Al L.length cl).ownBlock ∨ ∃ b, w1.heap.size ≤ b ∧ (Value.slice A8 (L.length + 1) c8).ownBlock = some b) ∧
      Blk w8 B 38 (boxI s p (.slice Al L.length cl) bv rv fi pm tm em)) := Lib.hid (fun w1 k => (h.keep k).made fresP none 0 0 (by omega))
  have HF := Lib.hid (fun w1 (k : Keeps W w1) A8 c8 w8 o8 g8 l8 B8 => fres_any (A8 := A8) (c8 := c8) (w8 := w8) (h.keep k) hp h3 o8 g8 l8 B8)
  have HB := Lib.hid h.box
  have HC := Lib.hid (fun w1 (k : Keeps W w1) => Chg.keeps O k)
  have hsz : p.pos + 1 ≤ s.size := hp
  have hw3 : IntKind.i64.wrap ((L.length : Int) - 1 + 1) = (L.length : Int) := by rw [IntWalk.i64_in _ (by omega)]; omega
  have hs2 : (p.pos : Int) ≤ (p.pos : Int) + 1 := by omega
  have hs3 : (p.pos : Int) + 1 ≤ (s.size : Int) := by omega
  have hs4 : ((p.pos : Int) + 1).toNat = p.pos + 1 := by omega
  clear h h3
  go_enter Tryz.func18, Tryz.ntmps18
  rcases h4 with h4 | ⟨g0, rfl, h4, c8⟩
  · go_wp2_with fail
    go_region_law (first
      | (refine step_append_run' rfl (.tmp 27) (.tmp 30) _ _ rfl _ _ (by simp [Act.eval]) (by simp [Act.eval]) _ _ ra ?_)
      | (go_simp; go_at_call 20; (with_reducible refine (HT.out _).mono ?_); rintro e w1 ⟨rfl, k1⟩; have K1 := (Keeps.refl W).drew.trans k1; obtain ⟨A8, c8, w8, ra, o8, g8, l8, B8⟩ := HM.out w1 K1; have b2a := (HB.out.keep K1).cell 2 (v := .slice Al L.length cl) rfl; have b2b := (HB.out.keep (K1.trans ((Keeps.refl w1).alloc (.cells #[.int .i64 1, .string ⟨#[]⟩, .string ⟨#[]⟩, .string ⟨#[]⟩, .slice none 0 0, .int .i64 0, .bool false, .bool false, .bool true] 42)))).cell 2 (v := .slice Al L.length cl) rfl; have y2 := B8.cell 2 (v := .slice Al L.length cl) rfl; have yf := B8.free 2))
    all_goals
      obtain ⟨g, c, rfl, hgB, hcap, hext, hcell, hfz, FIN0⟩ := HF.out w1 K1 _ _ _ o8 g8 l8 B8
      have FIN := Lib.hid (PostI.from K1 FIN0)
      have B9 := B8.set 2 (.slice (some ⟨g, 0, none⟩) (L.length + 1) c8) rfl
      have y1 := B9.cell 1 (v := .int .i64 p.pos) rfl
      have y2 := B9.cell 2 (v := .slice (some ⟨g, 0, none⟩) (L.length + 1) c8) rfl
      have yf1 := B9.free 1
      have BA := B9.set 1 (.int .i64 ((p.pos : Int) + 1)) rfl
      have d0 := BA.cell 0 (v := .string s) rfl
      have d1 := BA.cell 1 (v := .int .i64 ((p.pos : Int) + 1)) rfl
      have d2 := BA.cell 2 (v := .slice (some ⟨g, 0, none⟩) (L.length + 1) c8) rfl
      have dfz := hfz ((w8.setCell ⟨B, 2, none⟩ (.slice (some ⟨g, 0, none⟩) (L.length + 1) c8)).setCell ⟨B, 1, none⟩ (.int .i64 ((p.pos : Int) + 1))) (heap_setCell_other _ ⟨B, 1, none⟩ g _ hgB)
      have e1 : ((w8.setCell ⟨B, 2, none⟩ (.slice (some ⟨g, 0, none⟩) (L.length + 1) c8)).setCell ⟨B, 1, none⟩ (.int .i64 ((p.pos : Int) + 1))).cell? ⟨g, L.length * 9 + 1, none⟩ = some (.string ⟨#[]⟩) := by
        rw [World.cell?_of_block (heap_setCell_other _ ⟨B, 1, none⟩ g _ hgB)]
        exact hcell
      clear FIN0 o8 g8 l8 B8 B9 BA hfz b2a b2b yf ra b0 b1 b2
      go_wp2_with fail
      go_region
      go_wp2_with fail
      go_region
      go_end0
      exact ⟨rfl, PostI.keep FIN.out ((Keeps.refl _).drew.trans (Keeps.refl _).drew)⟩
  · go_wp2_with fail
    go_region_law (first
      | (refine step_append_run' rfl (.tmp 27) (.tmp 30) _ _ rfl _ _ (by simp [Act.eval]) (by simp [Act.eval]) _ _ ra ?_)
      | (go_simp; go_at_call 20; (with_reducible refine (HT.out _).mono ?_); rintro e w1 ⟨rfl, k1⟩; have K1 := (Keeps.refl W).drew.trans k1; obtain ⟨A8, c8, w8, ra, o8, g8, l8, B8⟩ := HM.out w1 K1; have b2a := (HB.out.keep K1).cell 2 (v := .slice (some ⟨g0, 0, none⟩) L.length cl) rfl; have b2b := (HB.out.keep (K1.trans ((Keeps.refl w1).alloc (.cells #[.int .i64 1, .string ⟨#[]⟩, .string ⟨#[]⟩, .string ⟨#[]⟩, .slice none 0 0, .int .i64 0, .bool false, .bool false, .bool true] 42)))).cell 2 (v := .slice (some ⟨g0, 0, none⟩) L.length cl) rfl; have y2 := B8.cell 2 (v := .slice (some ⟨g0, 0, none⟩) L.length cl) rfl; have yf := B8.free 2))
    all_goals
      obtain ⟨g, c, rfl, hgB, hcap, hext, hcell, hfz, FIN0⟩ := HF.out w1 K1 _ _ _ o8 g8 l8 B8
      have FIN := Lib.hid (PostI.from K1 FIN0)
      have B9 := B8.set 2 (.slice (some ⟨g, 0, none⟩) (L.length + 1) c8) rfl
      have y1 := B9.cell 1 (v := .int .i64 p.pos) rfl
      have y2 := B9.cell 2 (v := .slice (some ⟨g, 0, none⟩) (L.length + 1) c8) rfl
      have yf1 := B9.free 1
      have BA := B9.set 1 (.int .i64 ((p.pos : Int) + 1)) rfl
      have d0 := BA.cell 0 (v := .string s) rfl
      have d1 := BA.cell 1 (v := .int .i64 ((p.pos : Int) + 1)) rfl
      have d2 := BA.cell 2 (v := .slice (some ⟨g, 0, none⟩) (L.length + 1) c8) rfl
      have dfz := hfz ((w8.setCell ⟨B, 2, none⟩ (.slice (some ⟨g, 0, none⟩) (L.length + 1) c8)).setCell ⟨B, 1, none⟩ (.int .i64 ((p.pos : Int) + 1))) (heap_setCell_other _ ⟨B, 1, none⟩ g _ hgB)
      have e1 : ((w8.setCell ⟨B, 2, none⟩ (.slice (some ⟨g, 0, none⟩) (L.length + 1) c8)).setCell ⟨B, 1, none⟩ (.int .i64 ((p.pos : Int) + 1))).cell? ⟨g, L.length * 9 + 1, none⟩ = some (.string ⟨#[]⟩) := by
        rw [World.cell?_of_block (heap_setCell_other _ ⟨B, 1, none⟩ g _ hgB)]
        exact hcell
      clear FIN0 o8 g8 l8 B8 B9 BA hfz b2a b2b yf ra b0 b1 b2
      go_wp2_with fail
      go_region
      go_wp2_with fail
      go_region
      go_end0
      exact ⟨rfl, PostI.keep FIN.out ((Keeps.refl _).drew.trans (Keeps.refl _).drew)⟩
end
end Go.Proofs.YtklmgbkkjmfhcaaGreatDoor

/-
  Contracts of takeByte, takeHidden.
-/
namespace Go.Proofs.YtklmgbkkjmfhcaaGreatDoor
open Go.RowKit Go.Lib

section
variable {W : World} {B : Nat} {O : Nat → Option Nat} {s : ByteArray} {rs : List Rf} {p : Ps}
theorem takeByte_any (h : ParI W B O s rs p) (hp : p.pos < s.size) :
    Calls Tryz.prog 18 #[.pointer (some ⟨B, 0, none⟩)] W fun e w' => e = .returned (.tuple #[]) ∧ PostI W B O s rs (byteM s.data.toList p) w' := by
  obtain ⟨wf, lv, bv, rv, fi, pm, tm, em, L, m⟩ := h
  obtain ⟨Al, cl, rfl, _⟩ := row_form m.row
  rcases List.eq_nil_or_concat L with e | ⟨L0, ⟨x, kv⟩, e⟩
  · have e0 : p.list = [] := by rw [← m.eq, e]; rfl
    exact takeByte_new m hp (fun x hx => by rw [e0] at hx; cases hx) (.inl (by rw [e]; show ((0 : Nat) : Int) - 1 < 0; omega))
  · rw [List.concat_eq_append] at e
    subst e
    have hlast : p.list.getLast? = some x := by rw [← m.eq, List.map_append]; exact last_app _ _
    obtain ⟨g, eg⟩ : ∃ g, Al = some ⟨g, 0, none⟩ := by
      rcases m.row.2 with ⟨_, e⟩ | ⟨g, _, _, e, _⟩
      · rw [List.length_append, List.length_singleton] at e; omega
      · cases e; exact ⟨g, rfl⟩
    subst eg
    cases hx : x.single with
    | true => exact takeByte_old m hx wf hp
    | false =>
      have hL : L0.length < (L0 ++ [(x, kv)]).length := by simp
      have hg : (L0 ++ [(x, kv)])[L0.length] = (x, kv) := by simp
      refine takeByte_new m hp (fun y hy => by rw [hlast] at hy; cases hy; exact hx) (.inr ⟨g, rfl, by rw [List.length_append, List.length_singleton]; omega, ?_⟩)
      rw [show (L0 ++ [(x, kv)]).length - 1 = L0.length by rw [List.length_append, List.length_singleton]; omega, m.at hL 8 (by decide), hg]
      show some (Value.bool x.single) = _
      rw [hx]
theorem ParI.keep {W' : World} (h : ParI W B O s rs p) (q : Keeps W W') : ParI W' B O s rs p := by
  obtain ⟨wf, lv, bv, rv, fi, pm, tm, em, L, m⟩ := h
  exact ⟨wf, lv, bv, rv, fi, pm, tm, em, L, m.keep q⟩
theorem ParI.box (h : ParI W B O s rs p) : ∃ lv bv rv fi pm tm em, Blk W B 38 (boxI s p lv bv rv fi pm tm em) := by
  obtain ⟨wf, lv, bv, rv, fi, pm, tm, em, L, m⟩ := h
  exact ⟨lv, bv, rv, fi, pm, tm, em, m.box⟩
theorem ParI.siz (h : ParI W B O s rs p) : s.size ≤ 20000 := by
  obtain ⟨wf, lv, bv, rv, fi, pm, tm, em, L, m⟩ := h
  exact m.siz
theorem ParI.env (h : ParI W B O s rs p) : EnvM W O := by
  obtain ⟨wf, lv, bv, rv, fi, pm, tm, em, L, m⟩ := h
  exact m.env
/-- One step, and another behind it. -/
theorem PostI.andThen {W1 W2 : World} {p1 p2 : Ps} (h : PostI W B O s rs p1 W1) (k : ∀ O1, ParI W1 B O1 s rs p1 → PostI W1 B O1 s rs p2 W2) : PostI W B O s rs p2 W2 := by
  obtain ⟨O1, m1, c1⟩ := h
  obtain ⟨O2, m2, c2⟩ := k O1 m1
  exact ⟨O2, m2, c1.trans c2⟩
theorem putText_par (h : ParI W B O s rs p) (t : List UInt8) (n : Nat) (hn : 1 ≤ n) (ht : t.length ≤ n) (hp : p.pos + n ≤ s.size) :
    Calls Tryz.prog 25 #[.pointer (some ⟨B, 0, none⟩), .agg #[.int .i64 1, .string ⟨t.toArray⟩, .string ⟨#[]⟩, .string ⟨#[]⟩, .slice none 0 0], .int .i64 n] W fun e w' => e = .returned (.tuple #[]) ∧ PostI W B O s rs (p.put (textP t) n) w' := by
  obtain ⟨wf, lv, bv, rv, fi, pm, tm, em, L, m⟩ := h
  exact put_any m 1 t [] [] [] (.slice none 0 0) n (SpsAt.nil _ _) hn ht hp
theorem putKind_par (h : ParI W B O s rs p) (k : Nat) (n : Nat) (hn : 1 ≤ n) (hp : p.pos + n ≤ s.size) :
    Calls Tryz.prog 25 #[.pointer (some ⟨B, 0, none⟩), .agg #[.int .i64 k, .string ⟨#[]⟩, .string ⟨#[]⟩, .string ⟨#[]⟩, .slice none 0 0], .int .i64 n] W fun e w' => e = .returned (.tuple #[]) ∧ PostI W B O s rs (p.put (spanP k [] [] [] []) n) w' := by
  obtain ⟨wf, lv, bv, rv, fi, pm, tm, em, L, m⟩ := h
  exact put_any m k [] [] [] [] (.slice none 0 0) n (SpsAt.nil _ _) hn (Nat.zero_le _) hp
theorem skip_par (h : ParI W B O s rs p) (h3 : ∀ x, p.list.getLast? = some x → x.single = false) :
    Calls Tryz.prog 27 #[.pointer (some ⟨B, 0, none⟩)] W fun e w' => e = .returned (.tuple #[]) ∧ PostI W B O s rs (skipM s.data.toList p) w' := by
  obtain ⟨wf, lv, bv, rv, fi, pm, tm, em, L, m⟩ := h
  exact skipBlanks_any m h3
set_option maxRecDepth 100000 in
set_option maxHeartbeats 8000000 in
theorem takeRef_any (h : ParI W B O s rs p) (hp : p.pos < s.size) :
    Calls Tryz.prog 12 #[.pointer (some ⟨B, 0, none⟩)] W fun e w' => e = .returned (.tuple #[]) ∧ PostI W B O s rs (refM s.data.toList p) w' := by
  obtain ⟨lv, bv, rv, fi, pm, tm, em, hb⟩ := h.box
  have hsiz := h.siz
  have b0 := hb.cell 0 (v := .string s) rfl
  have b1 := hb.cell 1 (v := .int .i64 p.pos) rfl
  have hz : (s.extract p.pos s.size).size = s.size - p.pos := by rw [ByteArray.size_extract]; omega
  have RF : ∀ w, Lis w → _ := fun w hw => ref_any (s.extract p.pos s.size) w (by rw [hz]; simp only [maxLen]; omega) hw
  simp only [Lib.extract_to_end] at RF
  have RR := Lib.hid (RF W.drew (h.env.lis.keep (Keeps.refl _).drew))
  have RL := refL_facts (s.data.toList.drop p.pos)
  rw [List.length_drop, bytes_len] at RL
  have hs0 : (0 : Int) ≤ (p.pos : Int) := by omega
  have hs1 : (p.pos : Int) ≤ (s.size : Int) := by omega
  have TT := Lib.hid (fun w => textOf_any ⟨(refB (s.data.toList.drop p.pos)).toArray⟩ w)
  have HB := Lib.hid (takeByte_any (h.keep (Keeps.refl _).drew) hp)
  have HP := Lib.hid h
  unfold refM
  have RN := ref_len (s.data.toList.drop p.pos)
  rw [List.length_drop, bytes_len] at RN
  clear RF hb
  obtain ⟨N, hN⟩ : ∃ N, (refL (s.data.toList.drop p.pos)).2 = N := ⟨_, rfl⟩
  obtain ⟨t, ht⟩ : ∃ t, refB (s.data.toList.drop p.pos) = t := ⟨_, rfl⟩
  rw [hN, ht] at RR RN ⊢
  rw [ht] at TT
  clear RL hz h
  by_cases hn : N = 0
  · rw [if_pos hn]
    subst hn
    rw [show ((0 : Nat) : Int) = 0 from rfl] at RR
    clear TT HP hN ht RN
    go_enter Tryz.func12, Tryz.ntmps12
    go_wp2_with fail
    go_region_held3 (fun w' => w' = W.drew) (first | rfl | assumption)
      (first | (go_at_call 30; (with_reducible refine RR.out.mono ?_); rintro e w1 ⟨rfl, rfl⟩))
    go_wp2_with fail
    refine HB.out.mono ?_
    rintro e w1 ⟨rfl, q⟩
    have Q := Lib.hid (PostI.from (Keeps.refl W).drew q)
    clear q HB
    go_wp2_with fail
    refine bodyPost_ret (results_none rfl _ _ _) rfl ?_
    exact ⟨rfl, Q.out⟩
  · rw [if_neg hn]
    have hP := Lib.hid (fun w (k : Keeps W w) => putText_par (HP.out.keep k) t N (by omega) RN.2 (by have := RN.1; omega))
    have q0 := beqF (show ¬ (N : Int) = 0 by omega)
    clear HB HP hN ht RN
    go_enter Tryz.func12, Tryz.ntmps12
    go_wp2_with fail
    go_region_held3 (fun w' => w' = W.drew) (first | rfl | assumption)
      (first | (go_at_call 30; (with_reducible refine RR.out.mono ?_); rintro e w1 ⟨rfl, rfl⟩))
    go_wp2_with fail
    refine (TT.out _).mono ?_
    rintro e w2 ⟨rfl, k2⟩
    have K2 := (Keeps.refl W).drew.trans k2
    go_wp2_with fail
    refine (hP.out _ K2).mono ?_
    rintro e w3 ⟨rfl, q⟩
    have Q := Lib.hid (PostI.from K2 q)
    clear q
    go_wp2_with fail
    go_end0
    exact ⟨rfl, Q.out⟩
end
end Go.Proofs.YtklmgbkkjmfhcaaGreatDoor

/-
  Contract of takeHidden.
-/
namespace Go.Proofs.YtklmgbkkjmfhcaaGreatDoor
open Go.RowKit Go.Lib

section
variable {W : World} {B : Nat} {O : Nat → Option Nat} {s : ByteArray} {rs : List Rf} {p : Ps}
set_option maxRecDepth 100000 in
set_option maxHeartbeats 8000000 in
theorem takeHidden_any (h : ParI W B O s rs p) (hp : p.pos < s.size) :
    Calls Tryz.prog 10 #[.pointer (some ⟨B, 0, none⟩)] W fun e w' => e = .returned (.tuple #[]) ∧ PostI W B O s rs (hidM s.data.toList p) w' := by
  obtain ⟨lv, bv, rv, fi, pm, tm, em, hb⟩ := h.box
  have hsiz := h.siz
  have b0 := hb.cell 0 (v := .string s) rfl
  have b1 := hb.cell 1 (v := .int .i64 p.pos) rfl
  have hz : (s.extract p.pos s.size).size = s.size - p.pos := by rw [ByteArray.size_extract]; omega
  have hs0 : (0 : Int) ≤ (p.pos : Int) := by omega
  have hs1 : (p.pos : Int) ≤ (s.size : Int) := by omega
  have ES := Lib.hid (fun w => escaped_any (s.extract p.pos s.size) w (by rw [hz]; omega))
  rw [Lib.extract_to_end] at ES
  have HX := Lib.hid (fun w => (Tryz.strings_HasPrefix (s.extract p.pos s.size) ⟨#[92, 10]⟩ w).mono (fun _ _ h => And.intro h.1 h.2.symm))
  rw [show (⟨#[92, 10]⟩ : ByteArray).data.toList = [92, 10] from rfl, Lib.extract_to_end] at HX
  have HP := Lib.hid h
  unfold hidM
  cases he : escB (s.data.toList.drop p.pos) with
  | true =>
    rw [if_pos rfl, escT_one he]
    rw [escV_yes he] at ES
    obtain ⟨c, hc⟩ : ∃ c, (s.data.toList.drop p.pos).getD 1 0 = c := ⟨_, rfl⟩
    rw [hc] at ES ⊢
    have h2 : 1 < (s.data.toList.drop p.pos).length := by
      have he2 : (hasPrefix (s.data.toList.drop p.pos) [92] && decide (1 < (s.data.toList.drop p.pos).length) && signB ((s.data.toList.drop p.pos).getD 1 0)) = true := he
      simp only [Bool.and_eq_true, decide_eq_true_eq] at he2
      exact he2.1.2
    rw [List.length_drop, bytes_len] at h2
    have TT := Lib.hid (fun w => textOf_any ⟨[c].toArray⟩ w)
    have hP := Lib.hid (fun w (k : Keeps W w) => (show Calls Tryz.prog 25 #[.pointer (some ⟨B, 0, none⟩), .agg #[.int .i64 1, .string ⟨[c].toArray⟩, .string ⟨#[]⟩, .string ⟨#[]⟩, .slice none 0 0], .int .i64 2] w fun e w' => e = .returned (.tuple #[]) ∧ PostI w B O s rs (p.put (textP [c]) 2) w' from putText_par (HP.out.keep k) [c] 2 (by omega) (by simp) (by omega)))
    have zc : (⟨[c].toArray⟩ : ByteArray).size = 1 := by show [c].toArray.size = 1; simp
    obtain ⟨sc, hsc⟩ : ∃ sc : ByteArray, (⟨[c].toArray⟩ : ByteArray) = sc := ⟨_, rfl⟩
    rw [hsc] at ES TT hP zc
    clear HX HP hc he h2 hsc h hb hz
    go_enter Tryz.func10, Tryz.ntmps10
    go_wp2_with fail
    go_region
    go_wp2_with fail
    refine (ES.out _).mono ?_
    rintro e w1 ⟨rfl, k1⟩
    have K1 := (Keeps.refl W).drew.trans k1
    go_wp2_with fail
    refine (TT.out _).mono ?_
    rintro e w2 ⟨rfl, k2⟩
    have K2 := K1.trans k2
    go_wp2_with fail
    refine (hP.out _ K2).mono ?_
    rintro e w3 ⟨rfl, q⟩
    have Q := Lib.hid (PostI.from K2 q)
    clear q
    go_wp2_with fail
    refine bodyPost_ret (results_none rfl _ _ _) rfl ?_
    exact ⟨rfl, Q.out⟩
  | false =>
    rw [if_neg (by decide)]
    rw [escV_no he] at ES
    cases hx : hasPrefix (s.data.toList.drop p.pos) [92, 10] with
    | true =>
      rw [if_pos rfl]
      have h2 := pre_len hx
      rw [List.length_drop, bytes_len] at h2
      have h2' : p.pos + 2 ≤ s.size := by have : 2 ≤ s.size - p.pos := h2; omega
      rw [hx] at HX
      have hP := Lib.hid (fun w (k : Keeps W w) => (show Calls Tryz.prog 25 #[.pointer (some ⟨B, 0, none⟩), .agg #[.int .i64 3, .string ⟨#[]⟩, .string ⟨#[]⟩, .string ⟨#[]⟩, .slice none 0 0], .int .i64 2] w fun e w' => e = .returned (.tuple #[]) ∧ PostI w B O s rs (p.put (spanP 3 [] [] [] []) 2) w' from putKind_par (HP.out.keep k) 3 2 (by omega) h2'))
      clear HP he hx h2 h2' h hb hz
      go_enter Tryz.func10, Tryz.ntmps10
      go_wp2_with fail
      go_region
      go_wp2_with fail
      refine (ES.out _).mono ?_
      rintro e w1 ⟨rfl, k1⟩
      have K1 := (Keeps.refl W).drew.trans k1
      go_wp2_with fail
      refine (HX.out _).mono ?_
      rintro e w2 ⟨rfl, rfl⟩
      go_wp2_with fail
      refine (hP.out _ K1).mono ?_
      rintro e w3 ⟨rfl, q⟩
      obtain ⟨O1, m1, c1⟩ := PostI.from K1 q
      have SK := Lib.hid (skip_par m1 (fun x hx => by
        have e : (p.put (spanP 3 [] [] [] []) 2).list.getLast? = some (spanP 3 [] [] [] []) := last_app _ _
        rw [e] at hx
        cases hx
        rfl))
      have C1 := Lib.hid c1
      clear q c1 m1
      go_wp2_with fail
      refine SK.out.mono ?_
      rintro e w4 ⟨rfl, O2, m2, c2⟩
      have Q := Lib.hid (show PostI W B O s rs (skipM s.data.toList (p.put (spanP 3 [] [] [] []) 2)) w4 from ⟨O2, m2, C1.out.trans c2⟩)
      clear m2 c2 C1
      go_wp2_with fail
      refine bodyPost_ret (results_none rfl _ _ _) rfl ?_
      exact ⟨rfl, Q.out⟩
    | false =>
      rw [if_neg (by decide)]
      rw [hx] at HX
      have HB := Lib.hid (fun w (k : Keeps W w) => takeByte_any (HP.out.keep k) hp)
      clear HP he hx h hb hz
      go_enter Tryz.func10, Tryz.ntmps10
      go_wp2_with fail
      go_region
      go_wp2_with fail
      refine (ES.out _).mono ?_
      rintro e w1 ⟨rfl, k1⟩
      have K1 := (Keeps.refl W).drew.trans k1
      go_wp2_with fail
      refine (HX.out _).mono ?_
      rintro e w2 ⟨rfl, rfl⟩
      go_wp2_with fail
      refine (HB.out _ K1).mono ?_
      rintro e w3 ⟨rfl, q⟩
      have Q := Lib.hid (PostI.from K1 q)
      clear q
      go_wp2_with fail
      go_end0
      exact ⟨rfl, Q.out⟩
end
end Go.Proofs.YtklmgbkkjmfhcaaGreatDoor


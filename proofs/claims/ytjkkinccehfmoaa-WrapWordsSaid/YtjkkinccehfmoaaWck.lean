/-
  Contract of the package wrap: reach.
-/
import Derived.Test.YtjkkinccehfmoaaWcj
namespace Go.Proofs.Ytjkkinccehfmoaa
open Go.RowKit Go.Lib Go.Maps

theorem infoWy : (Try.prog.info? 43).map (fun i => (i.zero, i.size, i.bytes)) = some (some (.agg #[.int .i64 0, .int .i64 0, .int .i64 0]), 3, 24) := by kernel_rfl
section
variable {w1 W : World} {B : Nat} {l : List It} {lv pv wv : Value} {wd : Int} {ws : List Wy} {first : Nat}
/-- One way is made, and put behind the others. -/
theorem BrM.made (h : BrM w1 W B lv pv wd wv ws first) (x : Wy) (hlen : ws.length ≤ 1000000) :
    ∃ A8 c8 w8, (Builtin.append_ #[39, 39] 39 #[wv, .slice (some ⟨W.heap.size, 0, none⟩) 1 1]).run Try.prog (W.alloc (.cells #[.int .i64 ((x.f : Int) - 1), .int .i64 x.c, .int .i64 x.a] 43)) = .ok (.slice A8 (ws.length + 1) c8) w8 ∧
      Blk w8 B 41 #[lv, pv, .int .i64 wd, wv, .int .i64 first] ∧
      BrM w1 (w8.setCell ⟨B, 3, none⟩ (.slice A8 (ws.length + 1) c8)) B lv pv wd (.slice A8 (ws.length + 1) c8) (ws ++ [x]) first := by
  obtain ⟨i0, hi0, hz0, hz1, hz2⟩ := info_parts infoWy
  have hn := h.keep.size
  have KA : Keeps W (W.alloc (.cells (wyC x).toArray 43)) := (Keeps.refl _).alloc _
  have hrow := row_below h.row KA
  obtain ⟨v8, w8, ra, o8, g8, _, l8⟩ := run_append_own_at (P := Try.prog) (W.alloc (.cells (wyC x).toArray 43)) w1.heap.size 39 39 43 i0 (.agg #[.int .i64 0, .int .i64 0, .int .i64 0]) 3 24 Try.underlying39 hi0 hz0 hz1 hz2 rfl (by decide) _ _ _ hrow ⟨W.heap.size, 0, none⟩ 1 1 (wyC x) rfl (cells_new W (wyC x) 43) (wyC_one x) (by simp only [maxLen]; omega) (by omega) (Nat.le_trans hn KA.size)
  obtain ⟨A8, c8, e8, _⟩ := row_form o8
  subst e8
  have b8 : Blk w8 B 41 #[lv, pv, .int .i64 wd, wv, .int .i64 first] := by
    unfold Blk
    rw [g8.block B (by have := h.box.lt; have := KA.size; omega) (fun e => h.ne e.symm)]
    exact h.box.keep KA
  have hnB : (Value.slice A8 (ws.length + 1) c8).ownBlock ≠ some B := fun e => by
    rcases l8 with q | q
    · exact h.ne (q.symm.trans e)
    · rw [q] at e
      have := h.box.lt
      have hs := KA.size
      cases e
      omega
  have same : ∀ b, b ≠ B → (w8.setCell ⟨B, 3, none⟩ (.slice A8 (ws.length + 1) c8)).heap[b]? = w8.heap[b]? := fun b hb => heap_setCell_other w8 ⟨B, 3, none⟩ b _ hb
  refine ⟨A8, c8, w8, ra, b8, ⟨b8.set 3 _ rfl, h.low, ?_, hnB, ?_⟩⟩
  · rw [List.length_append, List.length_singleton, wyR_app, show wyR [x] = wyC x from List.append_nil _]
    exact row_same o8 fun g e => same g (fun q => hnB (by rw [← q]; exact e))
  · have k8 : Keeps w1 w8 := Below.grown (h.keep.trans KA) g8 (Nat.le_trans hn KA.size) (fun i hi => (hrow.lt i hi).1)
    exact k8.set h.low 3 _
set_option maxRecDepth 100000 in
set_option maxHeartbeats 8000000 in
theorem reach_any (i : Nat) (h : BrM w1 W B lv pv wd wv ws first) (hE : BrE w1 l lv pv wd) (hi : i ≤ l.length) (hg : legP l i = true) (hW : WsOk l wd ws i) (hF : FrOk l wd ws first i) :
    Calls Try.prog 15 #[.pointer (some ⟨B, 0, none⟩), .int .i64 i] W fun e w' => e = .returned (.tuple #[]) ∧ ∃ (wv' : Value) (ws' : List Wy) (f' : Nat), BrM w1 w' B lv pv wd wv' ws' f' ∧ WsOk l wd ws' (i + 1) ∧ FrOk l wd ws' f' (i + 1) := by
  have hfew := hE.few
  obtain ⟨n0, n1⟩ := hW.len
  have DR := Lib.hid (drop_any i h hE hi (fun n w q => (hW.le n w q).1) hF.le n0 (by omega))
  have CH := Lib.hid (fun k W2 (hk : k ≤ ws.length) (h2 : BrM w1 W2 B lv pv wd wv ws k) => cheapest_any i h2 hE hi (fun n w q => (hW.le n w q).1) hW.cost hk n0 (by omega))
  have MU := Lib.hid (fun W2 (q : Keeps w1 W2) => must_any l lv i W2 (hE.its.keep q) hi hfew)
  have HW := Lib.hid hW
  have HF := Lib.hid hF
  obtain ⟨A, cap, rfl, hc1, hc2⟩ := row_form h.row
  unfold maxLen at hc2
  obtain ⟨A0, cp, hlv, _⟩ := hE.its
  subst hlv
  clear h hE hW hF
  go_enter Try.func15, Try.ntmps15
  go_wp2_with fail
  refine DR.out.mono ?_
  rintro e w2 ⟨rfl, k, h2, hk, hf2⟩
  have FK := Lib.hid (hf2 HF.out)
  have H2 := Lib.hid h2
  clear hf2
  go_wp2_with fail
  refine (CH.out k w2 FK.out.le h2).mono ?_
  rintro e w3 ⟨bc, ba, rfl, hbst, k3⟩
  have HBS := Lib.hid hbst
  have h3 := h2.to (k3.alloc (.cells #[.int .i64 (i : Nat), .int .i64 bc, .int .i64 ba] 43))
  have H3 := Lib.hid h3
  have H30 := Lib.hid (h2.to k3)
  have b0 := h3.box.cell 0 (v := .slice A0 l.length cp) rfl
  have b3 := h3.box.cell 3 (v := .slice A ws.length cap) rfl
  have b4 := h3.box.cell 4 (v := .int .i64 k) rfl
  have f4 := h3.box.free 4
  have lB : B < w3.heap.size := Nat.lt_of_lt_of_le h2.box.lt k3.size
  have MU2 := Lib.hid (MU.out _ h3.keep)
  clear h2 hbst h3 k3
  cases hm : mustP l i with
  | true =>
    rw [hm] at MU2
    have H4 := Lib.hid ((H30.out.setFirst ws.length).to ((Keeps.refl _).alloc (.cells #[.int .i64 (i : Nat), .int .i64 bc, .int .i64 ba] 43)))
    have FM := Lib.hid (FrOk.must (l := l) (wd := wd) HW.out hm)
    have FM2 := Lib.hid (FrOk.mustF (l := l) (wd := wd) (bc := bc) (ba := ba) HW.out hm)
    clear hm
    by_cases ha : 0 ≤ ba
    · rw [decide_eq_true ha]
      have FW := Lib.hid (WsOk.found HW.out FK.out hi hg HBS.out ha)
      go_wp2_with fail
      refine MU2.out.mono ?_
      rintro e w4 ⟨rfl, rfl⟩
      go_wp2_with fail
      have WB : Blk ((w3.setCell ⟨B, 4, none⟩ (.int .i64 (ws.length : Nat))).alloc (.cells #[.int .i64 (i : Nat), .int .i64 bc, .int .i64 ba] 43)) w3.heap.size 43 #[.int .i64 (i : Nat), .int .i64 bc, .int .i64 ba] := by
        have q := Blk.new (w3.setCell ⟨B, 4, none⟩ (.int .i64 (ws.length : Nat))) 43 #[.int .i64 (i : Nat), .int .i64 bc, .int .i64 ba]
        rwa [setCell_size] at q
      have H5 := Lib.hid (H4.out)
      generalize (w3.setCell ⟨B, 4, none⟩ (.int .i64 (ws.length : Nat))).alloc (.cells #[.int .i64 (i : Nat), .int .i64 bc, .int .i64 ba] 43) = w5 at *
      have y3 := H5.out.box.cell 3 (v := .slice A ws.length cap) rfl
      have z0 := WB.cell 0 (v := .int .i64 (i : Nat)) rfl
      have z1 := WB.cell 1 (v := .int .i64 bc) rfl
      have z2 := WB.cell 2 (v := .int .i64 ba) rfl
      have l5 := H5.out.box.lt
      have y3' : (w5.alloc (.cells #[.int .i64 (i : Nat), .int .i64 bc, .int .i64 ba] 43)).cell? ⟨B, 3, none⟩ = some (.slice A ws.length cap) := Keeps.cell2 ((Keeps.refl w5).alloc _) y3
      obtain ⟨A8, c8, w8, ra, b8, h8⟩ := (H5.out.to (Keeps.refl w5).drew).made ⟨i + 1, bc, ba⟩ (by omega)
      simp only at ra
      rw [show (((i + 1 : Nat) : Int) - 1) = (i : Int) by omega] at ra
      have q3 := b8.cell 3 (v := .slice A ws.length cap) rfl
      have q3f := b8.free 3
      have H8 := Lib.hid h8
      clear WB b8 h8 b0 b3 b4 f4
      go_region_law (refine step_append_run' rfl (.tmp 34) (.tmp 36) _ _ rfl _ _ (by simp [Act.eval]) (by simp [Act.eval]) _ _ ra ?_)
      all_goals
        go_wp2_with fail
        go_end0
        exact ⟨rfl, _, _, _, H8.out, FW.out, FM2.out⟩
    · rw [decide_eq_false ha]
      have FW := Lib.hid (WsOk.lost HW.out FK.out hi HBS.out (by omega))
      go_wp2_with fail
      refine MU2.out.mono ?_
      rintro e w4 ⟨rfl, rfl⟩
      go_wp2_with fail
      go_end0
      exact ⟨rfl, _, _, _, H4.out, FW.out, FM.out⟩
  | false =>
    rw [hm] at MU2
    have FM := Lib.hid (FrOk.free FK.out hm)
    have FM2 := Lib.hid (FrOk.freeF (bc := bc) (ba := ba) FK.out hm)
    clear hm
    by_cases ha : 0 ≤ ba
    · rw [decide_eq_true ha]
      have FW := Lib.hid (WsOk.found HW.out FK.out hi hg HBS.out ha)
      go_wp2_with fail
      refine MU2.out.mono ?_
      rintro e w4 ⟨rfl, rfl⟩
      go_wp2_with fail
      have WB := Blk.new w3 43 #[.int .i64 (i : Nat), .int .i64 bc, .int .i64 ba]
      have H5 := Lib.hid (H3.out)
      generalize w3.alloc (.cells #[.int .i64 (i : Nat), .int .i64 bc, .int .i64 ba] 43) = w5 at *
      have y3 := H5.out.box.cell 3 (v := .slice A ws.length cap) rfl
      have z0 := WB.cell 0 (v := .int .i64 (i : Nat)) rfl
      have z1 := WB.cell 1 (v := .int .i64 bc) rfl
      have z2 := WB.cell 2 (v := .int .i64 ba) rfl
      have l5 := H5.out.box.lt
      have y3' : (w5.alloc (.cells #[.int .i64 (i : Nat), .int .i64 bc, .int .i64 ba] 43)).cell? ⟨B, 3, none⟩ = some (.slice A ws.length cap) := Keeps.cell2 ((Keeps.refl w5).alloc _) y3
      obtain ⟨A8, c8, w8, ra, b8, h8⟩ := (H5.out.to (Keeps.refl w5).drew).made ⟨i + 1, bc, ba⟩ (by omega)
      simp only at ra
      rw [show (((i + 1 : Nat) : Int) - 1) = (i : Int) by omega] at ra
      have q3 := b8.cell 3 (v := .slice A ws.length cap) rfl
      have q3f := b8.free 3
      have H8 := Lib.hid h8
      clear WB b8 h8 b0 b3 b4 f4
      go_region_law (refine step_append_run' rfl (.tmp 34) (.tmp 36) _ _ rfl _ _ (by simp [Act.eval]) (by simp [Act.eval]) _ _ ra ?_)
      all_goals
        go_wp2_with fail
        go_end0
        exact ⟨rfl, _, _, _, H8.out, FW.out, FM2.out⟩
    · rw [decide_eq_false ha]
      have FW := Lib.hid (WsOk.lost HW.out FK.out hi HBS.out (by omega))
      go_wp2_with fail
      refine MU2.out.mono ?_
      rintro e w4 ⟨rfl, rfl⟩
      go_wp2_with fail
      go_end0
      exact ⟨rfl, _, _, _, H3.out, FW.out, FM.out⟩
end
end Go.Proofs.Ytjkkinccehfmoaa

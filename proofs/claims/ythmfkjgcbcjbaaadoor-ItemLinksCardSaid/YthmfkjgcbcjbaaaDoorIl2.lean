/-
  Walk of the law ItemLinks.
-/
import Derived.Test.YthmfkjgcbcjbaaaDoorIl1
import Derived.Test.YthmfkjgcbcjbaaaDoorIty
namespace Go.Proofs.YthmfkjgcbcjbaaaDoor
open Go.RowKit Go.Lib Go.Maps

theorem infoSt : (Tryd.prog.info? 39).map (fun i => (i.zero, i.size, i.bytes)) = some (some (.agg #[.int .i64 0, .string ⟨#[]⟩, .string ⟨#[]⟩, .string ⟨#[]⟩, .slice none 0 0]), 5, 80) := by kernel_rfl
/-- The spans of so many links, the block of each one's text. -/
def lkV (gs : List Nat) : List (St × Value) := gs.flatMap fun g => [(lkA, .slice (some ⟨g, 0, none⟩) 1 1), (lkB, .slice none 0 0)]
theorem lkV_snoc (gs : List Nat) (g : Nat) : lkV (gs ++ [g]) = lkV gs ++ [(lkA, .slice (some ⟨g, 0, none⟩) 1 1), (lkB, .slice none 0 0)] := by unfold lkV; rw [List.flatMap_append]; simp
theorem lkV_len (gs : List Nat) : (lkV gs).length = 2 * gs.length := by
  induction gs with
  | nil => rfl
  | cons g gs ih => show ([_, _] ++ lkV gs).length = _; rw [List.length_append, ih]; simp; omega
theorem lkV_map : ∀ gs : List Nat, (lkV gs).map Prod.fst = lkL gs.length := by
  have key : ∀ k : Nat, lkL (k + 1) = [lkA, lkB] ++ lkL k := fun k => by
    induction k with
    | zero => rfl
    | succ k ih =>
      show lkL (k + 1) ++ [lkA, lkB] = [lkA, lkB] ++ (lkL k ++ [lkA, lkB])
      rw [ih, List.append_assoc]
  intro gs
  induction gs with
  | nil => rfl
  | cons g gs ih =>
    show ([_, _] ++ lkV gs).map Prod.fst = _
    rw [List.map_append, ih, List.length_cons, key]
    rfl
/-- Where the first loop stands. -/
structure LkAt (w wr : World) (v : Value) (gs : List Nat) : Prop where
  row : wr.ownsRow w.heap.size 39 5 v (2 * gs.length) (stR (lkV gs))
  kid : ∀ g ∈ gs, Blk wr g 39 #[.int .i64 1, .string ⟨#[120]⟩, .string ⟨#[]⟩, .string ⟨#[]⟩, .slice none 0 0] ∧ v.ownBlock ≠ some g
  keep : Keeps w wr
theorem LkAt.at_ {w wr : World} {v : Value} {gs : List Nat} (h : LkAt w wr v gs) : StAt wr (lkL gs.length) v := by
  rw [← lkV_map]
  refine StAt.own (by rw [lkV_len]; exact h.row) (fun x hx => ?_)
  unfold lkV at hx
  obtain ⟨g, hg, hx⟩ := List.mem_flatMap.1 hx
  rcases List.mem_cons.1 hx with rfl | hx
  · exact StAt.blk (L := [(.mk 1 [120] [] [] [], .slice none 0 0)]) (h.kid g hg).1 (show 1 ≤ maxLen by decide) (fun y hy => by rw [List.mem_singleton] at hy; subst hy; exact StAt.nil _)
  · rw [List.mem_singleton] at hx
    subst hx
    exact StAt.nil _
/-- One link more. -/
theorem LkAt.more {w wr : World} {v : Value} {gs : List Nat} (h : LkAt w wr v gs) (hl : gs.length ≤ 1000) : ∃ A8 c8 w8,
    (Builtin.append_ #[22, 22] 22 #[v, .slice (some ⟨wr.heap.size + 1, 0, none⟩) 2 2]).run Tryd.prog ((wr.alloc (.cells #[.int .i64 1, .string ⟨#[120]⟩, .string ⟨#[]⟩, .string ⟨#[]⟩, .slice none 0 0] 39)).alloc (.cells #[.int .i64 7, .string ⟨#[]⟩, .string ⟨#[]⟩, .string ⟨#[]⟩, .slice (some ⟨wr.heap.size, 0, none⟩) 1 1, .int .i64 1, .string ⟨#[32, 121, 32]⟩, .string ⟨#[]⟩, .string ⟨#[]⟩, .slice none 0 0] 39)) = .ok (.slice A8 (2 * gs.length + 2) c8) w8 ∧ LkAt w w8 (.slice A8 (2 * gs.length + 2) c8) (gs ++ [wr.heap.size]) := by
  obtain ⟨i0, hi0, hz0, hz1, hz2⟩ := info_parts infoSt
  have KA : Keeps wr ((wr.alloc (.cells #[.int .i64 1, .string ⟨#[120]⟩, .string ⟨#[]⟩, .string ⟨#[]⟩, .slice none 0 0] 39)).alloc (.cells #[.int .i64 7, .string ⟨#[]⟩, .string ⟨#[]⟩, .string ⟨#[]⟩, .slice (some ⟨wr.heap.size, 0, none⟩) 1 1, .int .i64 1, .string ⟨#[32, 121, 32]⟩, .string ⟨#[]⟩, .string ⟨#[]⟩, .slice none 0 0] 39)) := keeps_two _ _ _
  have hrow := row_below h.row KA
  have hb := blk_two wr (.cells #[.int .i64 1, .string ⟨#[120]⟩, .string ⟨#[]⟩, .string ⟨#[]⟩, .slice none 0 0] 39) 39 #[.int .i64 7, .string ⟨#[]⟩, .string ⟨#[]⟩, .string ⟨#[]⟩, .slice (some ⟨wr.heap.size, 0, none⟩) 1 1, .int .i64 1, .string ⟨#[32, 121, 32]⟩, .string ⟨#[]⟩, .string ⟨#[]⟩, .slice none 0 0]
  have hk : Blk ((wr.alloc (.cells #[.int .i64 1, .string ⟨#[120]⟩, .string ⟨#[]⟩, .string ⟨#[]⟩, .slice none 0 0] 39)).alloc (.cells #[.int .i64 7, .string ⟨#[]⟩, .string ⟨#[]⟩, .string ⟨#[]⟩, .slice (some ⟨wr.heap.size, 0, none⟩) 1 1, .int .i64 1, .string ⟨#[32, 121, 32]⟩, .string ⟨#[]⟩, .string ⟨#[]⟩, .slice none 0 0] 39)) wr.heap.size 39 #[.int .i64 1, .string ⟨#[120]⟩, .string ⟨#[]⟩, .string ⟨#[]⟩, .slice none 0 0] := (Blk.new wr _ _).alloc _
  have hsz : ((wr.alloc (.cells #[.int .i64 1, .string ⟨#[120]⟩, .string ⟨#[]⟩, .string ⟨#[]⟩, .slice none 0 0] 39)).alloc (.cells #[.int .i64 7, .string ⟨#[]⟩, .string ⟨#[]⟩, .string ⟨#[]⟩, .slice (some ⟨wr.heap.size, 0, none⟩) 1 1, .int .i64 1, .string ⟨#[32, 121, 32]⟩, .string ⟨#[]⟩, .string ⟨#[]⟩, .slice none 0 0] 39)).heap.size = wr.heap.size + 2 := by simp
  have hlt := fun g e => (h.row.lt g e).2
  generalize ((wr.alloc (.cells #[.int .i64 1, .string ⟨#[120]⟩, .string ⟨#[]⟩, .string ⟨#[]⟩, .slice none 0 0] 39)).alloc (.cells #[.int .i64 7, .string ⟨#[]⟩, .string ⟨#[]⟩, .string ⟨#[]⟩, .slice (some ⟨wr.heap.size, 0, none⟩) 1 1, .int .i64 1, .string ⟨#[32, 121, 32]⟩, .string ⟨#[]⟩, .string ⟨#[]⟩, .slice none 0 0] 39)) = W at *
  obtain ⟨v8, w8, ra, o8, g8, _, l8⟩ := run_append_own_at (P := Tryd.prog) W w.heap.size 22 22 39 i0 (.agg #[.int .i64 0, .string ⟨#[]⟩, .string ⟨#[]⟩, .string ⟨#[]⟩, .slice none 0 0]) 5 80 Tryd.underlying22 hi0 hz0 hz1 hz2 rfl (by decide) _ _ _ hrow ⟨wr.heap.size + 1, 0, none⟩ 2 2 [.int .i64 7, .string ⟨#[]⟩, .string ⟨#[]⟩, .string ⟨#[]⟩, .slice (some ⟨wr.heap.size, 0, none⟩) 1 1, .int .i64 1, .string ⟨#[32, 121, 32]⟩, .string ⟨#[]⟩, .string ⟨#[]⟩, .slice none 0 0] rfl (fun j u hj => by rw [Addr.add_mid, Nat.zero_add]; exact hb.cell j (by simpa using hj)) (by
    intro u hu
    simp only [List.mem_cons, List.not_mem_nil, or_false] at hu
    rcases hu with rfl | rfl | rfl | rfl | rfl | rfl | rfl | rfl | rfl | rfl <;> rfl) (by simp only [maxLen]; omega) (by omega) (Nat.le_trans h.keep.size KA.size)
  obtain ⟨A8, c8, e8, _⟩ := row_form o8
  subst e8
  have hold : ∀ g, g < wr.heap.size + 2 → v.ownBlock ≠ some g → (Value.slice A8 (2 * gs.length + 2) c8).ownBlock ≠ some g := fun g hg h0 e => by
    rcases l8 with q | q
    · exact h0 (q.symm.trans e)
    · rw [q] at e
      cases e
      omega
  have hnb : v.ownBlock ≠ some wr.heap.size := fun e => by have := hlt _ e; omega
  refine ⟨A8, c8, w8, ra, ?_, fun g hg => ?_, ?_⟩
  · rw [lkV_snoc, List.length_append, List.length_singleton, show 2 * (gs.length + 1) = 2 * gs.length + 2 by omega]
    have : stR (lkV gs ++ [(lkA, .slice (some ⟨wr.heap.size, 0, none⟩) 1 1), (lkB, .slice none 0 0)]) = stR (lkV gs) ++ [.int .i64 7, .string ⟨#[]⟩, .string ⟨#[]⟩, .string ⟨#[]⟩, .slice (some ⟨wr.heap.size, 0, none⟩) 1 1, .int .i64 1, .string ⟨#[32, 121, 32]⟩, .string ⟨#[]⟩, .string ⟨#[]⟩, .slice none 0 0] := by unfold stR; rw [List.flatMap_append]; rfl
    rw [this]
    exact o8
  · have same : ∀ g, g < wr.heap.size + 2 → v.ownBlock ≠ some g → w8.heap[g]? = W.heap[g]? := fun g hg h0 => g8.block g (by omega) (fun e => h0 e.symm)
    rcases List.mem_append.1 hg with hg | hg
    · obtain ⟨h1, h2⟩ := h.kid g hg
      have := h1.lt
      refine ⟨?_, hold g (by omega) h2⟩
      unfold Blk
      rw [same g (by omega) h2]
      exact h1.keep KA
    · rw [List.mem_singleton] at hg
      subst hg
      refine ⟨?_, hold _ (by omega) hnb⟩
      unfold Blk
      rw [same _ (by omega) hnb]
      exact hk
  · exact rows_grown hrow (h.keep.trans KA) g8
end Go.Proofs.YthmfkjgcbcjbaaaDoor

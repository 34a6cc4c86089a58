/-
  Contract of the package wrap: ends.
-/
import Derived.Test.YtjkkinccehfmoaaWck
namespace Go.Proofs.Ytjkkinccehfmoaa
open Go.RowKit Go.Lib Go.Maps

def nsR (es : List Nat) : List Value := es.map fun e => .int .i64 (e : Nat)
theorem infoNs : (Try.prog.info? 3).map (fun i => (i.zero, i.size, i.bytes)) = some (some (.int .i64 0), 1, 8) := by kernel_rfl
theorem keeps_cells {a : World} {g : Nat} (hg : a.heap.size ≤ g) : ∀ (vs : List Value) (o : Nat) (b : World), Keeps a b → Keeps a (b.setCells g o vs)
  | [], _, _, h => h
  | v :: vs, o, _, h => keeps_cells hg vs (o + 1) _ (h.set hg o v)
/-- One number is put behind the others. -/
theorem ns_made {w0 W : World} {u : Value} {dn : List Nat} (hr : W.ownsRow w0.heap.size 3 1 u dn.length (nsR dn)) (hk : Keeps w0 W) (x : Nat) (hlen : dn.length ≤ 1000000) :
    ∃ A8 c8 w8, (Builtin.append_ #[25, 25] 25 #[u, .slice (some ⟨W.heap.size, 0, none⟩) 1 1]).run Try.prog (W.alloc (.cells #[.int .i64 (x : Nat)] 3)) = .ok (.slice A8 (dn.length + 1) c8) w8 ∧
      w8.ownsRow w0.heap.size 3 1 (.slice A8 (dn.length + 1) c8) (dn ++ [x]).length (nsR (dn ++ [x])) ∧ Keeps w0 w8 := by
  obtain ⟨i0, hi0, hz0, hz1, hz2⟩ := info_parts infoNs
  have hn := hk.size
  have KA : Keeps W (W.alloc (.cells (nsR [x]).toArray 3)) := (Keeps.refl _).alloc _
  have hrow := row_below hr KA
  obtain ⟨v8, w8, ra, o8, g8, _, l8⟩ := run_append_own_at (P := Try.prog) (W.alloc (.cells (nsR [x]).toArray 3)) w0.heap.size 25 25 3 i0 (.int .i64 0) 1 8 Try.underlying25 hi0 hz0 hz1 hz2 rfl (by decide) _ _ _ hrow ⟨W.heap.size, 0, none⟩ 1 1 (nsR [x]) rfl (cells_new W (nsR [x]) 3) (by intro q hq; simp only [nsR, List.map_cons, List.map_nil, List.mem_singleton] at hq; subst hq; rfl) (by simp only [maxLen]; omega) (by omega) (Nat.le_trans hn KA.size)
  obtain ⟨A8, c8, e8, _⟩ := row_form o8
  subst e8
  refine ⟨A8, c8, w8, ra, ?_, Below.grown (hk.trans KA) g8 (Nat.le_trans hn KA.size) (fun i hi => (hrow.lt i hi).1)⟩
  rw [List.length_append, List.length_singleton, show nsR (dn ++ [x]) = nsR dn ++ nsR [x] from List.map_append]
  exact o8
/-- The numbers are turned round. -/
theorem ns_reversed {w0 W : World} {u : Value} {dn : List Nat} (hr : W.ownsRow w0.heap.size 3 1 u dn.length (nsR dn)) (hk : Keeps w0 W) (hlen : dn.length ≤ 1000000) :
    Calls Try.prog 24 #[u] W fun e w' => e = .returned (.tuple #[]) ∧ NsAt w' dn.reverse u ∧ Keeps w0 w' := by
  rcases hr.2 with ⟨rfl, e⟩ | ⟨g, cap, cur, rfl, hg, hh, h1, h2, h3, h4⟩
  · have hd : dn = [] := List.length_eq_zero_iff.1 e
    subst hd
    refine (Try.slices_Reverse_int_empty none 0 W).mono ?_
    rintro e w' ⟨rfl, rfl⟩
    exact ⟨rfl, NsAt.nil _, hk⟩
  · have hc : ∀ j (hj : j < dn.length), W.cell? ⟨g, j, none⟩ = some (.int .i64 (dn[j] : Nat)) := fun j hj => by
      have := hr.cellAt j (by omega)
      rw [this]
      unfold nsR
      rw [List.getElem?_map, List.getElem?_eq_getElem hj]; rfl
    have hb : Blk W g 3 cur := hh
    refine (Try.slices_Reverse_int_cells g 0 dn.length cap (dn.map (fun e : Nat => (e : Int))) W (by simp) (by omega) (fun j hj => ?_) (fun j hj => hb.free _)).mono ?_
    · have hj' : j < dn.length := by simpa using hj
      rw [Nat.zero_add, hc j hj', List.getD_eq_getElem?_getD, List.getElem?_map, List.getElem?_eq_getElem hj']; rfl
    · rintro e w' ⟨rfl, q, rfl⟩
      refine ⟨rfl, ⟨some ⟨g, 0, none⟩, cap, by rw [List.length_reverse], by rw [List.length_reverse]; exact h1, h2, fun _ => ⟨g, 0, rfl, fun i hi => ?_⟩⟩, keeps_cells hg _ _ _ (hk.drewN q)⟩
      have hi' : i < dn.length := by simpa using hi
      have hl : (((dn.map (fun e : Nat => (e : Int))).take dn.length).reverse.map (Value.int .i64)).length = dn.length := by simp
      have := World.cell?_setCells_in g (((dn.map (fun e : Nat => (e : Int))).take dn.length).reverse.map (Value.int .i64)) 0 (W.drewN q) (fun j hj => by
        rw [hl] at hj
        rw [Nat.zero_add, show (W.drewN q).cell? ⟨g, j, none⟩ = W.cell? ⟨g, j, none⟩ from rfl, hc j hj]; rfl) i (by rw [hl]; exact hi')
      rw [this]
      have e1 : (dn.map (fun e : Nat => (e : Int))).take dn.length = dn.map (fun e : Nat => (e : Int)) := List.take_of_length_le (by simp)
      simp only [e1]
      rw [List.getElem_map, List.getElem_reverse, List.getElem_map, List.getElem_reverse]
      simp
end Go.Proofs.Ytjkkinccehfmoaa

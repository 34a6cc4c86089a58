/-
  Spans in memory, as they are read.
-/
import Derived.Test.YthmfkjgcbcjbaaaDoorItg
namespace Go.Proofs.YthmfkjgcbcjbaaaDoor
open Go.RowKit Go.Lib Go.Maps

/-- A span's cells. -/
structure StC (W : World) (g o : Nat) (k : Int) (t d ti : List UInt8) (kv : Value) : Prop where
  c0 : W.cell? ⟨g, o, none⟩ = some (.int .i64 k)
  c1 : W.cell? ⟨g, o + 1, none⟩ = some (.string ⟨t.toArray⟩)
  c2 : W.cell? ⟨g, o + 2, none⟩ = some (.string ⟨d.toArray⟩)
  c3 : W.cell? ⟨g, o + 3, none⟩ = some (.string ⟨ti.toArray⟩)
  c4 : W.cell? ⟨g, o + 4, none⟩ = some kv
theorem StC.keep {W W' : World} {g o : Nat} {k : Int} {t d ti : List UInt8} {kv : Value} (h : StC W g o k t d ti kv) (K : Keeps W W') : StC W' g o k t d ti kv := ⟨K.cell2 h.c0, K.cell2 h.c1, K.cell2 h.c2, K.cell2 h.c3, K.cell2 h.c4⟩
/-- The slice v holds the spans l. -/
inductive StAt (W : World) : List St → Value → Prop
  | mk (L : List (St × Value)) (A : Option Addr) (cap : Nat) (hc : L.length ≤ cap) (hm : cap ≤ maxLen)
      (ha : 0 < L.length → ∃ g o, A = some ⟨g, o, none⟩ ∧ ∀ i (h : i < L.length), ∀ k t d ti ks, (L[i]).1 = .mk k t d ti ks → StC W g (o + i * 5) k t d ti (L[i]).2)
      (hk : ∀ x ∈ L, StAt W x.1.kids x.2) : StAt W (L.map Prod.fst) (.slice A L.length cap)
theorem StAt.keep {W W' : World} {l : List St} {v : Value} (h : StAt W l v) (k : Keeps W W') : StAt W' l v := by
  induction h with
  | mk L A cap hc hm ha hk ih =>
    refine .mk L A cap hc hm (fun h0 => ?_) ih
    obtain ⟨g, o, e, hcell⟩ := ha h0
    exact ⟨g, o, e, fun i h kd t d ti ks q => (hcell i h kd t d ti ks q).keep k⟩
section
variable {W : World} {l : List St} {v : Value}
theorem StAt.slice (h : StAt W l v) : ∃ A cap, v = .slice A l.length cap ∧ l.length ≤ cap ∧ cap ≤ maxLen ∧ (0 < l.length → ∃ g o, A = some ⟨g, o, none⟩) := by
  cases h with
  | mk L A cap hc hm ha hk =>
    rw [List.length_map]
    exact ⟨A, cap, rfl, hc, hm, fun h0 => by obtain ⟨g, o, e, _⟩ := ha h0; exact ⟨g, o, e⟩⟩
theorem StAt.at {g o cap : Nat} (h : StAt W l (.slice (some ⟨g, o, none⟩) l.length cap)) {i : Nat} {k : Int} {t d ti : List UInt8} {ks : List St} (e : l[i]? = some (.mk k t d ti ks)) : ∃ kv, StC W g (o + i * 5) k t d ti kv ∧ StAt W ks kv := by
  generalize hv : Value.slice (some ⟨g, o, none⟩) l.length cap = v at h
  cases h with
  | mk L A cap hc hm ha hk =>
    rw [List.length_map] at hv
    rw [List.getElem?_map] at e
    obtain ⟨x, hx, ex⟩ := Option.map_eq_some_iff.1 e
    obtain ⟨hi, hx2⟩ := List.getElem?_eq_some_iff.1 hx
    obtain ⟨g', o', e1, hcell⟩ := ha (by omega)
    rw [e1] at hv
    simp only [Value.slice.injEq, Option.some.injEq, Addr.mk.injEq, and_true, true_and] at hv
    obtain ⟨⟨rfl, rfl⟩, rfl⟩ := hv
    have hk2 := hk x (List.mem_of_getElem? hx)
    rw [ex] at hk2
    refine ⟨x.2, ?_, hk2⟩
    have := hcell i hi k t d ti ks (by rw [hx2]; exact ex)
    rwa [hx2] at this
theorem StAt.nil (W : World) : StAt W [] (.slice none 0 0) := .mk [] none 0 (Nat.le_refl _) (Nat.zero_le _) (fun h => by cases h) (fun x hx => by cases hx)
end
theorem wS_mk (k : Int) (t d ti : List UInt8) (ks : List St) : wS (.mk k t d ti ks) = 10 + t.length + wL ks := by rw [wS]
theorem wL_at {l : List St} {i : Nat} {x : St} (h : l[i]? = some x) : wL (l.take i) + wS x + wL (l.drop (i + 1)) = wL l := by
  induction l generalizing i with
  | nil => simp at h
  | cons y l ih =>
    cases i with
    | zero =>
      simp only [List.getElem?_cons_zero, Option.some.injEq] at h
      subst h
      simp [wL]
    | succ i =>
      have := ih (i := i) (by simpa using h)
      simp only [List.take_succ_cons, List.drop_succ_cons, wL]
      omega
theorem size_st {l : List St} {i : Nat} {k : Int} {t d ti : List UInt8} {ks : List St} (e : l[i]? = some (.mk k t d ti ks)) : SizeOf.sizeOf ks < SizeOf.sizeOf l := by
  have h := List.sizeOf_lt_of_mem (List.mem_of_getElem? e)
  have : SizeOf.sizeOf (St.mk k t d ti ks) = 1 + SizeOf.sizeOf k + SizeOf.sizeOf t + SizeOf.sizeOf d + SizeOf.sizeOf ti + SizeOf.sizeOf ks := by simp
  omega
end Go.Proofs.YthmfkjgcbcjbaaaDoor

/-
  Texts of the proof, one behind the other: Inq.
-/
import Derived.Test.YtklmgbkkjmfhcaaGreatDoorM5
import Derived.Test.YtklmgbkkjmfhcaaGreatDoorM13
import Derived.Deep.MidRow
import Derived.Deep.WholeRow
/-
  Spans and pieces in memory: lists of spans that nothing turns any more; lists of pieces that a call owns; parts of such lists, as they are read.
-/
namespace Go.Proofs.YtklmgbkkjmfhcaaGreatDoor
open Go.RowKit Go.Lib

def Sp.kids : Sp → List Sp
  | .mk _ _ _ _ l => l
/-- A span's cells; v: the slice that holds its kids. -/
def spC : Sp → Value → List Value
  | .mk k t d ti _, v => [.int .i64 k, .string ⟨t.toArray⟩, .string ⟨d.toArray⟩, .string ⟨ti.toArray⟩, v]
def spR (L : List (Sp × Value)) : List Value := L.flatMap fun x => spC x.1 x.2
def pcC (x : Pc) (v : Value) : List Value := [.int .i64 x.kind, .string ⟨x.text.toArray⟩, .string ⟨x.dest.toArray⟩, .string ⟨x.title.toArray⟩, v, .int .i64 x.first, .bool x.opens, .bool x.closes, .bool x.single]
def pcR (L : List (Pc × Value)) : List Value := L.flatMap fun x => pcC x.1 x.2
theorem infoSp : (Tryz.prog.info? 31).map (fun i => (i.zero, i.size, i.bytes)) = some (some (.agg #[.int .i64 0, .string ⟨#[]⟩, .string ⟨#[]⟩, .string ⟨#[]⟩, .slice none 0 0]), 5, 80) := by kernel_rfl
theorem infoPc : (Tryz.prog.info? 42).map (fun i => (i.zero, i.size, i.bytes)) = some (some (.agg #[.int .i64 0, .string ⟨#[]⟩, .string ⟨#[]⟩, .string ⟨#[]⟩, .slice none 0 0, .int .i64 0, .bool false, .bool false, .bool false]), 9, 96) := by kernel_rfl
theorem spC_len (s : Sp) (v : Value) : (spC s v).length = 5 := by cases s; rfl
theorem pcC_len (x : Pc) (v : Value) : (pcC x v).length = 9 := rfl
theorem spC_one (s : Sp) {v : Value} (h : v.oneCell' = true) : ∀ u ∈ spC s v, u.oneCell' = true := by
  cases s
  intro u hu
  simp only [spC, List.mem_cons, List.not_mem_nil, or_false] at hu
  rcases hu with rfl | rfl | rfl | rfl | rfl <;> first | rfl | exact h
theorem pcC_one (x : Pc) {v : Value} (h : v.oneCell' = true) : ∀ u ∈ pcC x v, u.oneCell' = true := by
  intro u hu
  simp only [pcC, List.mem_cons, List.not_mem_nil, or_false] at hu
  rcases hu with rfl | rfl | rfl | rfl | rfl | rfl | rfl | rfl | rfl <;> first | rfl | exact h
theorem row_one {w : World} {n₀ n z : Nat} {e : TypeId} {v : Value} {vs : List Value} (h : w.ownsRow n₀ e z v n vs) : v.oneCell' = true := by
  rcases h.2 with ⟨rfl, _⟩ | ⟨_, _, _, rfl, _⟩ <;> rfl

/-! ### Spans that nothing turns any more -/
/-- The slice v holds the spans l; all of it lies where P says. -/
inductive SpsAt (W : World) (P : Nat → Prop) : List Sp → Value → Prop
  | mk (L : List (Sp × Value)) (v : Value) (hr : W.ownsRow 0 31 5 v L.length (spR L)) (hp : ∀ g, v.ownBlock = some g → P g) (hk : ∀ x ∈ L, SpsAt W P x.1.kids x.2) : SpsAt W P (L.map Prod.fst) v
theorem SpsAt.same {W W' : World} {P P' : Nat → Prop} {l : List Sp} {v : Value} (h : SpsAt W P l v) (hP : ∀ b, P b → P' b) (hb : ∀ b, P b → W'.heap[b]? = W.heap[b]?) : SpsAt W' P' l v := by
  induction h with
  | mk L v hr hp hk ih => exact .mk L v (row_same hr fun g e => hb g (hp g e)) (fun g e => hP g (hp g e)) ih
theorem SpsAt.keep {W W' : World} {P : Nat → Prop} {l : List Sp} {v : Value} (h : SpsAt W P l v) (hP : ∀ b, P b → b < W.heap.size) (k : Keeps W W') : SpsAt W' P l v := h.same (fun _ => id) fun b hb => k.block b (hP b hb)
theorem SpsAt.nil (W : World) (P : Nat → Prop) : SpsAt W P [] (.slice none 0 0) := .mk [] _ (World.ownsRow_nil _ _ _ _) (fun g e => by cases e) (fun x hx => by cases hx)
theorem SpsAt.one {W : World} {P : Nat → Prop} {l : List Sp} {v : Value} (h : SpsAt W P l v) : v.oneCell' = true := by
  cases h with
  | mk L v hr hp hk => exact row_one hr
/-- What there was, and what was made since. -/
def Nx (P : Nat → Prop) (w w' : World) (b : Nat) : Prop := P b ∨ (w.heap.size ≤ b ∧ b < w'.heap.size)
theorem Nx.lt {P : Nat → Prop} {w w' : World} (h : ∀ b, P b → b < w.heap.size) (k : w.heap.size ≤ w'.heap.size) : ∀ b, Nx P w w' b → b < w'.heap.size := fun b hb => by
  rcases hb with hb | hb
  · have := h b hb; omega
  · exact hb.2

/-! ### Pieces as they are read -/
/-- n pieces from the address A on are L. -/
def Vw (W : World) (A : Option Addr) (n : Nat) (L : List (Pc × Value)) : Prop := L.length = n ∧ (0 < n → ∃ g o, A = some ⟨g, o, none⟩ ∧ ∀ k (h : k < L.length), W.rangeAt g (o + k * 9) (pcC L[k].1 L[k].2))
def KidsAt (W : World) (P : Nat → Prop) (L : List (Pc × Value)) : Prop := ∀ x ∈ L, SpsAt W P x.1.kids x.2
theorem KidsAt.keep {W W' : World} {P : Nat → Prop} {L : List (Pc × Value)} (h : KidsAt W P L) (hP : ∀ b, P b → b < W.heap.size) (k : Keeps W W') : KidsAt W' P L := fun x hx => (h x hx).keep hP k
theorem KidsAt.same {W W' : World} {P P' : Nat → Prop} {L : List (Pc × Value)} (h : KidsAt W P L) (hP : ∀ b, P b → P' b) (hb : ∀ b, P b → W'.heap[b]? = W.heap[b]?) : KidsAt W' P' L := fun x hx => (h x hx).same hP hb
theorem KidsAt.drop {W : World} {P : Nat → Prop} {L : List (Pc × Value)} (h : KidsAt W P L) (k : Nat) : KidsAt W P (L.drop k) := fun x hx => h x (List.mem_of_mem_drop hx)
theorem KidsAt.take {W : World} {P : Nat → Prop} {L : List (Pc × Value)} (h : KidsAt W P L) (k : Nat) : KidsAt W P (L.take k) := fun x hx => h x (List.mem_of_mem_take hx)
theorem range_same {W W' : World} {g o : Nat} {cs : List Value} (h : W.rangeAt g o cs) (e : W'.heap[g]? = W.heap[g]?) : W'.rangeAt g o cs := fun j v hv => (World.cell?_of_block e).trans (h j v hv)
theorem range_lt {W : World} {g o : Nat} {cs : List Value} (h : W.rangeAt g o cs) (h0 : 0 < cs.length) : g < W.heap.size := World.block_lt_of_cell? W _ (h 0 _ (List.getElem?_eq_getElem h0))
theorem Vw.keep {W W' : World} {A : Option Addr} {n : Nat} {L : List (Pc × Value)} (h : Vw W A n L) (k : Keeps W W') : Vw W' A n L := ⟨h.1, fun hn => by
  obtain ⟨g, o, e, hc⟩ := h.2 hn
  refine ⟨g, o, e, fun i hi => range_same (hc i hi) (k.block g (range_lt (hc i hi) (by rw [pcC_len]; decide)))⟩⟩
theorem Vw.same {W W' : World} {A : Option Addr} {n : Nat} {L : List (Pc × Value)} (h : Vw W A n L) (k : ∀ a, A = some a → W'.heap[a.block]? = W.heap[a.block]?) : Vw W' A n L := ⟨h.1, fun hn => by
  obtain ⟨g, o, e, hc⟩ := h.2 hn
  exact ⟨g, o, e, fun i hi => range_same (hc i hi) (k _ e)⟩⟩
theorem Vw.cut {W : World} {A : Option Addr} {n : Nat} {L : List (Pc × Value)} (h : Vw W A n L) {k cap : Nat} (hk : k ≤ n) (hc : n ≤ cap) : Vw W (if cap = k then A else A.map (·.add (k * 9))) (n - k) (L.drop k) := by
  refine ⟨by rw [List.length_drop, h.1], fun hn => ?_⟩
  obtain ⟨g, o, rfl, hcell⟩ := h.2 (by omega)
  rw [if_neg (by omega)]
  refine ⟨g, o + k * 9, by show some (Addr.add _ _) = _; rw [Addr.add_mid], fun i hi => ?_⟩
  rw [List.length_drop] at hi
  rw [List.getElem_drop, show o + k * 9 + i * 9 = o + (k + i) * 9 by omega]
  exact hcell (k + i) (by omega)
theorem Vw.cutS {W : World} {g o n : Nat} {L : List (Pc × Value)} (h : Vw W (some ⟨g, o, none⟩) n L) {k cap : Nat} (hk : k ≤ n) (hc : n ≤ cap) : Vw W (if cap = k then some ⟨g, o, none⟩ else some ⟨g, o + k * 9, none⟩) (n - k) (L.drop k) := by
  have := h.cut hk hc
  rwa [show Option.map (fun x : Addr => x.add (k * 9)) (some ⟨g, o, none⟩) = some ⟨g, o + k * 9, none⟩ by show some (Addr.add _ _) = _; rw [Addr.add_mid]] at this
/-- The first one. -/
theorem Vw.head {W : World} {A : Option Addr} {n : Nat} {x : Pc × Value} {L : List (Pc × Value)} (h : Vw W A n (x :: L)) : ∃ g o, A = some ⟨g, o, none⟩ ∧ W.rangeAt g o (pcC x.1 x.2) := by
  have h1 := h.1
  rw [List.length_cons] at h1
  obtain ⟨g, o, e, hc⟩ := h.2 (by omega)
  have := hc 0 (by rw [List.length_cons]; omega)
  rw [Nat.zero_mul, Nat.add_zero] at this
  exact ⟨g, o, e, this⟩
theorem pcR_at : ∀ (L : List (Pc × Value)) (k : Nat) (h : k < L.length) (j : Nat), j < 9 → (pcR L)[k * 9 + j]? = (pcC L[k].1 L[k].2)[j]?
  | [], k, h, _, _ => absurd h (by simp)
  | x :: L, 0, h, j, hj => by
    unfold pcR
    rw [List.flatMap_cons, Nat.zero_mul, Nat.zero_add, List.getElem?_append_left (by rw [pcC_len]; exact hj)]; rfl
  | x :: L, k + 1, h, j, hj => by
    unfold pcR
    rw [List.flatMap_cons, List.getElem?_append_right (by rw [pcC_len]; omega), pcC_len, show (k + 1) * 9 + j - 9 = k * 9 + j by omega]
    exact pcR_at L k (by simpa using h) j hj
theorem pcR_len (L : List (Pc × Value)) : (pcR L).length = L.length * 9 := by
  unfold pcR
  induction L with
  | nil => rfl
  | cons x L ih => rw [List.flatMap_cons, List.length_append, ih, pcC_len, List.length_cons]; omega
theorem pcR_app (a b : List (Pc × Value)) : pcR (a ++ b) = pcR a ++ pcR b := by unfold pcR; rw [List.flatMap_append]
theorem spR_app (a b : List (Sp × Value)) : spR (a ++ b) = spR a ++ spR b := by unfold spR; rw [List.flatMap_append]
/-- A row of the call's own, as it is read. -/
theorem Vw.of_own {W : World} {n₀ c : Nat} {A : Option Addr} {n : Nat} {L : List (Pc × Value)} (h : W.ownsRow n₀ 42 9 (.slice A n c) L.length (pcR L)) : Vw W A L.length L := by
  refine ⟨rfl, fun hn => ?_⟩
  rcases h.2 with ⟨_, h0⟩ | ⟨g, cap, cur, hv, _⟩
  · omega
  · cases hv
    refine ⟨g, 0, rfl, fun k hk j v hj => ?_⟩
    have hj9 : j < 9 := by
      have := (List.getElem?_eq_some_iff.1 hj).1
      rwa [pcC_len] at this
    rw [Nat.zero_add]
    have := h.cells (g := g) rfl (k * 9 + j) v (by rw [pcR_at L k hk j hj9]; exact hj)
    rwa [Addr.add_mid, Nat.zero_add] at this
/-- A slice of the call's own, its form. -/
theorem row_form {w : World} {n₀ n z : Nat} {e : TypeId} {v : Value} {vs : List Value} (h : w.ownsRow n₀ e z v n vs) : ∃ A cap, v = .slice A n cap ∧ n ≤ cap ∧ cap ≤ maxLen := by
  rcases h.2 with ⟨rfl, rfl⟩ | ⟨g, cap, cur, rfl, _, _, h1, h2, _⟩
  · exact ⟨none, 0, rfl, Nat.le_refl _, by unfold maxLen; omega⟩
  · exact ⟨_, cap, rfl, h1, h2⟩
end Go.Proofs.YtklmgbkkjmfhcaaGreatDoor


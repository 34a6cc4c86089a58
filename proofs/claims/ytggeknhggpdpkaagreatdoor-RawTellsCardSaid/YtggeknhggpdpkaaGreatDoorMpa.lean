/-
  Bytes that a call has copied out of a text, written anew one by one: what stands in each place; by no layer.
-/
import Derived.Test.YtggeknhggpdpkaaGreatDoorBlk
import Derived.Laws.IdiomStrings
namespace Go.Proofs.YtggeknhggpdpkaaGreatDoor
open Go.RowKit Go.Lib

/-- Up to the place k the bytes of s stand in block B as f makes them, from there on as they are; all may be written. -/
def MapAt (f : UInt8 → UInt8) (s : ByteArray) (B k : Nat) (W : World) : Prop := (∀ j (h : j < s.size), W.cell? ⟨B, j, none⟩ = some (.int .u8 (((if j < k then f s[j] else s[j]).toNat : Nat) : Int))) ∧ ∀ j, j < s.size → W.frozen? ⟨B, j, none⟩ = false
theorem map_start (f : UInt8 → UInt8) (s : ByteArray) (w : World) (C : Nat) (e : TypeId) : MapAt f s w.heap.size 0 (w.drew.alloc (.cells (bytesRow s C) e ((bytesRow s C).size, (bytesRow s C).size + 1))) := by
  have hb : (w.drew.alloc (.cells (bytesRow s C) e ((bytesRow s C).size, (bytesRow s C).size + 1))).heap[w.heap.size]? = some (.cells (bytesRow s C) e ((bytesRow s C).size, (bytesRow s C).size + 1)) := heap_alloc_new w.drew _
  have hsz : s.size ≤ (bytesRow s C).size := by
    unfold bytesRow
    rw [Array.size_append, Array.size_map]
    exact Nat.le_add_right _ _
  refine ⟨fun j h => ?_, fun j h => ?_⟩
  · have hc : (bytesRow s C)[j]? = some (.int .u8 (s[j].toNat : Nat)) := by
      unfold bytesRow
      rw [Array.getElem?_append_left (by rw [Array.size_map]; exact h), Array.getElem?_map, Array.getElem?_eq_getElem h]
      rfl
    rw [if_neg (Nat.not_lt_zero _)]
    unfold World.cell?
    dsimp only
    rw [hb]
    exact hc
  · unfold World.frozen?
    dsimp only
    rw [hb]
    simp
    omega
theorem MapAt.next {f : UInt8 → UInt8} {s : ByteArray} {B k : Nat} {W : World} (h : MapAt f s B k W) (hk : k < s.size) (hl : f s[k] = s[k]) : MapAt f s B (k + 1) W := by
  refine ⟨fun j hj => ?_, h.2⟩
  rw [h.1 j hj]
  by_cases e : j = k
  · subst e
    rw [if_neg (by omega), if_pos (by omega), hl]
  · by_cases g : j < k
    · rw [if_pos g, if_pos (by omega)]
    · rw [if_neg g, if_neg (by omega)]
theorem MapAt.put {f : UInt8 → UInt8} {s : ByteArray} {B k : Nat} {W : World} (h : MapAt f s B k W) (hk : k < s.size) {v : Int} (hv : ((f s[k]).toNat : Int) = v) : MapAt f s B (k + 1) (W.setCell ⟨B, k, none⟩ (.int .u8 v)) := by
  refine ⟨fun j hj => ?_, fun j hj => by rw [World.frozen?_setCell]; exact h.2 j hj⟩
  by_cases e : j = k
  · subst e
    rw [World.cell?_setCell_same' W _ _ (by rw [h.1 j hj]; rfl), if_pos (by omega), hv]
  · rw [World.cell?_setCell_other (h := (fun x => e (congrArg Addr.off x).symm : (⟨B, k, none⟩ : Addr) ≠ ⟨B, j, none⟩)), h.1 j hj]
    by_cases g : j < k
    · rw [if_pos g, if_pos (by omega)]
    · rw [if_neg g, if_neg (by omega)]
/-- The byte at the place itself: not yet written; just written. -/
theorem MapAt.here {f : UInt8 → UInt8} {s : ByteArray} {B k : Nat} {W : World} (h : MapAt f s B k W) (hk : k < s.size) : W.cell? ⟨B, k, none⟩ = some (.int .u8 (s[k].toNat : Nat)) := by
  have := h.1 k hk
  rw [if_neg (by omega)] at this
  exact this
theorem MapAt.lt {f : UInt8 → UInt8} {s : ByteArray} {B k : Nat} {W : World} (h : MapAt f s B k W) (hs : 0 < s.size) : B < W.heap.size := by
  have := h.1 0 hs
  unfold World.cell? at this
  dsimp only at this
  rcases Nat.lt_or_ge B W.heap.size with g | g
  · exact g
  · rw [Array.getElem?_eq_none (by omega)] at this; cases this
theorem MapAt.keep {f : UInt8 → UInt8} {s : ByteArray} {B k : Nat} {W W' : World} (h : MapAt f s B k W) (b : Keeps W W') : MapAt f s B k W' := by
  have e : ∀ j, j < s.size → W'.heap[B]? = W.heap[B]? := fun j hj => b.block B (h.lt (by omega))
  refine ⟨fun j hj => ?_, fun j hj => ?_⟩
  · rw [← h.1 j hj]
    unfold World.cell?
    dsimp only
    rw [e j hj]
  · rw [← h.2 j hj]
    unfold World.frozen?
    dsimp only
    rw [e j hj]
theorem add_off (B j : Nat) : (⟨B, 0, none⟩ : Addr).add j = ⟨B, j, none⟩ := by
  simp [Addr.add]
  intro h
  exact h.symm
/-- string(b), when all are written. -/
theorem map_back {P : Program} {f : UInt8 → UInt8} {s : ByteArray} {B : Nat} {W : World} (h : MapAt f s B s.size W) (C : Nat) (src dst e : TypeId) (hs : P.underlying src = some (.slice e)) (he : P.underlying e = some (.int .u8)) (hd : P.underlying dst = some .string) :
    (convert src dst (.slice (some ⟨B, 0, none⟩) s.size C)).run P W = .ok (.string ⟨(s.data.toList.map f).toArray⟩) W := by
  have := run_convert_bytes_back (P := P) W src dst e ⟨B, 0, none⟩ C (s.data.toList.map f) hs he hd (fun j hj => by
    have hj2 : j < s.size := by rw [List.length_map, bytes_len] at hj; exact hj
    have hc := h.1 j hj2
    rw [if_pos (by omega)] at hc
    rw [add_off, hc, List.getElem_map]
    rfl)
  rw [show (s.data.toList.map f).length = s.size by rw [List.length_map, bytes_len]] at this
  exact this
end Go.Proofs.YtggeknhggpdpkaaGreatDoor

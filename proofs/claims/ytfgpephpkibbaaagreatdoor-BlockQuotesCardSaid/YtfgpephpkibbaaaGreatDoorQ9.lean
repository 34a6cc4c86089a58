/-
  Texts of the proof, one behind the other: Rvb.
-/
import Derived.Shelf.SlicesQ.Reverse
import Derived.Ground.SlgnProg
import Derived.Shelf.SlGeneric
import Derived.Test.YtfgpephpkibbaaaGreatDoorQ8
import Derived.Laws.AppendOwn
/-
  slices.Reverse of blocks: the library's contract, laid at the program's own types, and what it leaves of a row.
-/
namespace Go.Proofs
open Go.Shelf
def Tryz.revB_ren : Go.Shelf.Ren := ⟨fun | 35 => 33 | n => n, fun | 22 => 23 | 23 => 26 | 3 => 3 | 4 => 4 | 0 => 0 | n => n, fun | n => n⟩
theorem Tryz.revB : Go.Proofs.SlLaysE0.n35 Tryz.prog Tryz.revB_ren := {
  mixed := by kernel_rfl
  f35 := ⟨Tryz.f33.name, by decide, Tryz.func33.trans (congrArg some (by kernel_rfl))⟩
  t0 := Tryz.underlying0
  a0 := Tryz.isAgg0
  z0 := Tryz.sizeOf0
  v0 := Tryz.zeroValue0
  t3 := Tryz.underlying3
  a3 := Tryz.isAgg3
  z3 := Tryz.sizeOf3
  v3 := Tryz.zeroValue3
  t4 := Tryz.underlying4
  a4 := Tryz.isAgg4
  z4 := Tryz.sizeOf4
  v4 := Tryz.zeroValue4
  t22 := Tryz.underlying23
  a22 := Tryz.isAgg23
  z22 := Tryz.sizeOf23
  v22 := Tryz.zeroValue23 }
end Go.Proofs
namespace Go.Proofs.YtfgpephpkibbaaaGreatDoor
open Go.RowKit Go.Lib Go.Sort

/-- Ten cells. -/
abbrev Ten := { l : List Value // l.length = 10 ∧ ∀ v ∈ l, v.oneCell' = true }
instance : Inhabited Ten := ⟨⟨List.replicate 10 (.bool false), by simp, fun v hv => by simp at hv; subst hv; rfl⟩⟩
def flat10 (cs : List Ten) : List Value := (cs.map Subtype.val).flatten
theorem flat10_len : ∀ cs : List Ten, (flat10 cs).length = cs.length * 10
  | [] => rfl
  | c :: cs => by
    have := flat10_len cs
    unfold flat10 at *
    rw [List.map_cons, List.flatten_cons, List.length_append, this, c.2.1, List.length_cons]; omega
theorem flat10_get : ∀ (cs : List Ten) (t : Nat), t < cs.length * 10 → (flat10 cs)[t]? = (cs[t / 10]?).bind (fun c => c.1[t % 10]?)
  | [], t, h => by simp at h
  | c :: cs, t, h => by
    have e : flat10 (c :: cs) = c.1 ++ flat10 cs := rfl
    rw [e]
    by_cases ht : t < 10
    · rw [List.getElem?_append_left (by rw [c.2.1]; exact ht), Nat.div_eq_of_lt ht, Nat.mod_eq_of_lt ht]; rfl
    · have hq : t / 10 = (t - 10) / 10 + 1 := by omega
      have hr : t % 10 = (t - 10) % 10 := by omega
      rw [List.getElem?_append_right (by rw [c.2.1]; omega), c.2.1, flat10_get cs (t - 10) (by simp only [List.length_cons] at h; omega), hq, hr]; rfl
theorem flatK_flat (cs : List Ten) : (flatK Subtype.val 10 cs.toArray).toList = flat10 cs := by
  apply List.ext_getElem?
  intro t
  by_cases ht : t < cs.length * 10
  · rw [flat10_get cs t ht, Array.getElem?_toList]
    have h1 := get_flatK (Subtype.val : Ten → List Value) 10 cs.toArray t (by simpa using ht)
    have hs : t < (flatK (Subtype.val : Ten → List Value) 10 cs.toArray).size := by rw [size_flatK]; simpa using ht
    have hd : t / 10 < cs.length := by omega
    rw [getElem!_pos _ t hs] at h1
    rw [Array.getElem?_eq_getElem hs, h1, List.getElem?_eq_getElem hd]
    have e : cs.toArray[t / 10]! = cs[t / 10] := by rw [getElem!_pos cs.toArray (t / 10) (by simpa using hd)]; simp
    rw [e]
    show some ((cs[t / 10]).1[t % 10]!) = (cs[t / 10]).1[t % 10]?
    have hm : t % 10 < (cs[t / 10]).1.length := by rw [(cs[t / 10]).2.1]; omega
    rw [getElem!_pos (cs[t / 10]).1 (t % 10) hm, List.getElem?_eq_getElem hm]
  · rw [List.getElem?_eq_none (by rw [Array.length_toList, size_flatK]; simpa using ht), List.getElem?_eq_none (by rw [flat10_len]; omega)]
theorem take_put (cur : Array Value) (D : Array Value) (h : D.size ≤ cur.size) : (putCells (id : Value → Value) 0 D cur).toList.take D.size = D.toList := by
  apply List.ext_getElem?
  intro j
  by_cases hj : j < D.size
  · rw [List.getElem?_take_of_lt hj, Array.getElem?_toList]
    simp [putCells, hj, show j < cur.size by omega]
  · rw [List.getElem?_take_eq_none (by omega), List.getElem?_eq_none (by simp; omega)]
theorem reverse_any (w : World) (base g cap : Nat) (cs : List Ten) (hr : w.ownsRow base 26 10 (.slice (some ⟨g, 0, none⟩) cs.length cap) cs.length (flat10 cs)) :
    Calls Tryz.prog 33 #[.slice (some ⟨g, 0, none⟩) cs.length cap] w fun e w' => e = .returned (.tuple #[]) ∧ w'.ownsRow base 26 10 (.slice (some ⟨g, 0, none⟩) cs.length cap) cs.length (flat10 cs.reverse) ∧ w.grownBy w' (some g) ∧ w'.heap.size = w.heap.size := by
  have hcap : cs.length ≤ cap ∧ cap ≤ maxLen := by
    rcases hr.2 with ⟨e, _⟩ | ⟨_, _, _, e, _, _, h1, h2, _⟩
    · cases e
    · cases e; exact ⟨h1, h2⟩
  have hfl := flatK_flat cs
  have hH : HoldsK (Subtype.val : Ten → List Value) 10 w g 0 cs.toArray := by
    intro j hj
    rw [size_flatK] at hj
    have hj' : j < cs.length * 10 := by simpa using hj
    rw [Nat.zero_add]
    refine ⟨?_, hr.frozenAt j⟩
    rw [hr.cellAt j hj', ← hfl, Array.getElem?_toList]
    have hs : j < (flatK (Subtype.val : Ten → List Value) 10 cs.toArray).size := by rw [size_flatK]; exact hj
    rw [getElem!_pos _ j hs, Array.getElem?_eq_getElem hs]; rfl
  have hc := AnyQ.slices_Reverse Tryz.revB 10 Tryz.isAgg26 Tryz.sizeOf26 (Subtype.val : Ten → List Value) (fun x => x.2.1) (fun x => x.2.2) g 0 cap cs.toArray w hH (by
    have := Nat.le_trans hcap.1 hcap.2
    unfold maxLen at this
    simp; omega)
  refine hc.mono ?_
  rintro e w' ⟨he, n, rfl⟩
  refine ⟨he, ?_, ?_, ?_⟩
  · rcases hr.2 with ⟨e0, _⟩ | ⟨g', cap', cur, e0, hb, hg, h1, h2, h3, h4⟩
    · cases e0
    · cases e0
      have hz : (flatK (Subtype.val : Ten → List Value) 10 cs.toArray.reverse).size = cs.length * 10 := by rw [size_flatK]; simp
      refine ⟨by rw [flat10_len, List.length_reverse], .inr ⟨g, cap, putCells id 0 (flatK (Subtype.val : Ten → List Value) 10 cs.toArray.reverse) cur, rfl, hb, ?_, h1, h2, ?_, ?_⟩⟩
      · show (putRow id (Sort.ahead w n) g 0 _).heap[g]? = _
        simp [putRow, mapBlock, Sort.ahead, Array.getElem?_modify, hg, onCells]
      · simp [putCells, h3]
      · have := take_put cur (flatK (Subtype.val : Ten → List Value) 10 cs.toArray.reverse) (by rw [hz, h3]; exact Nat.mul_le_mul_right _ h1)
        rw [hz] at this
        rw [this, List.reverse_toArray, flatK_flat]
  · refine ⟨rfl, rfl, rfl, ?_, fun b hb hne => ?_⟩
    · show _ ≤ (putRow id (Sort.ahead w n) g 0 _).heap.size
      simp [putRow, mapBlock, Sort.ahead]
    · have : g ≠ b := fun e => hne (by rw [e])
      show (putRow id (Sort.ahead w n) g 0 _).heap[b]? = _
      simp [putRow, mapBlock, Sort.ahead, Array.getElem?_modify, this]
  · show (putRow id (Sort.ahead w n) g 0 _).heap.size = _
    simp [putRow, mapBlock, Sort.ahead]
theorem reverse_none (w : World) : Calls Tryz.prog 33 #[.slice none 0 0] w fun e w' => e = .returned (.tuple #[]) ∧ w' = w :=
  AnyQ.slices_Reverse_empty Tryz.revB none 0 w
end Go.Proofs.YtfgpephpkibbaaaGreatDoor


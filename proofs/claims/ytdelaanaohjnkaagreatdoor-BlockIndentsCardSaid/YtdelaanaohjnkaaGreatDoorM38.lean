/-
  Texts of the proof, one behind the other: Blp.
-/
import Derived.Test.YtdelaanaohjnkaaGreatDoorM32
import Derived.KernelRfl
/-
  What the plain parser makes of texts that are reckoned out: the document's example, lists of words, quotes in one another. No program in sight.
-/
namespace Go.Proofs.YtdelaanaohjnkaaGreatDoor
open Go Go.Lib

def parT (t : List UInt8) : Tr := .mk 5 0 false 0 0 false [] t []
def docT (k : List Tr) : Tr := .mk 1 0 false 0 0 false [] [] k
def quoT (k : List Tr) : Tr := .mk 2 0 false 0 0 false [] [] k
def itmT (k : List Tr) : Tr := .mk 4 0 false 0 0 false [] [] k
def awkL : List UInt8 := [62, 32, 35, 32, 97, 10, 62, 32, 98, 10, 99, 10, 10, 45, 32, 120, 10, 45, 32, 121, 10, 10, 91, 114, 93, 58, 32, 47, 117, 10]
set_option maxRecDepth 100000 in
theorem awk_parse : parseM awkL = some (docT [quoT [.mk 6 1 false 0 0 false [] [97] [], parT [98, 10, 99]], .mk 3 0 false 0 45 true [] [] [itmT [parT [120]], itmT [parT [121]]]], [([114], [47, 117], [])]) := by kernel_rfl

/-! Lists of words. -/
def wrdL : List UInt8 := [119, 111, 114, 100]
/-- One item's line, or its two lines. -/
def oneL (loose ord : Bool) : List UInt8 := (if ord then [49, 46, 32] else [45, 32]) ++ wrdL ++ [10] ++ (if loose then [10] else [])
def itmsL : Nat → Bool → Bool → List UInt8
  | 0, _, _ => []
  | n + 1, l, o => itmsL n l o ++ oneL l o
def lstT (n : Nat) (loose ord : Bool) : Tr := .mk 3 0 ord (if ord then 1 else 0) (if ord then 46 else 45) (!loose) [] [] (List.replicate n (itmT [parT wrdL]))
set_option maxRecDepth 100000 in
theorem itms_ff : (List.range 20).map (fun n => parseM (itmsL (n + 2) false false)) = (List.range 20).map (fun n => some (docT [lstT (n + 2) false false], [])) := by kernel_rfl
set_option maxRecDepth 100000 in
theorem itms_ft : (List.range 20).map (fun n => parseM (itmsL (n + 2) false true)) = (List.range 20).map (fun n => some (docT [lstT (n + 2) false true], [])) := by kernel_rfl
set_option maxRecDepth 100000 in
theorem itms_tf : (List.range 20).map (fun n => parseM (itmsL (n + 2) true false)) = (List.range 20).map (fun n => some (docT [lstT (n + 2) true false], [])) := by kernel_rfl
set_option maxRecDepth 100000 in
theorem itms_tt : (List.range 20).map (fun n => parseM (itmsL (n + 2) true true)) = (List.range 20).map (fun n => some (docT [lstT (n + 2) true true], [])) := by kernel_rfl
theorem itms_parse {n : Nat} (h0 : 2 ≤ n) (hn : n ≤ 21) (l o : Bool) : parseM (itmsL n l o) = some (docT [lstT n l o], []) := by
  have h1 : (List.range 20).map (fun n => parseM (itmsL (n + 2) l o)) = (List.range 20).map (fun n => some (docT [lstT (n + 2) l o], [])) := by
    cases l <;> cases o
    · exact itms_ff
    · exact itms_ft
    · exact itms_tf
    · exact itms_tt
  have h2 := List.map_inj_left.1 h1 (n - 2) (List.mem_range.2 (by omega))
  rw [show n - 2 + 2 = n by omega] at h2
  exact h2

/-! Quotes in one another. -/
def deepL (n : Nat) : List UInt8 := List.replicate n 62 ++ [32, 97, 10]
def deepT : Nat → Tr
  | 0 => parT [97]
  | n + 1 => quoT [deepT n]
set_option maxRecDepth 100000 in
theorem deep_0 : (List.range 40).map (fun n => parseM (deepL (n + 0))) = (List.range 40).map (fun n => some (docT [deepT (n + 0)], [])) := by kernel_rfl
set_option maxRecDepth 100000 in
theorem deep_1 : (List.range 25).map (fun n => parseM (deepL (n + 40))) = (List.range 25).map (fun n => some (docT [deepT (n + 40)], [])) := by kernel_rfl
set_option maxRecDepth 100000 in
theorem deep_2 : (List.range 15).map (fun n => parseM (deepL (n + 65))) = (List.range 15).map (fun n => some (docT [deepT (n + 65)], [])) := by kernel_rfl
set_option maxRecDepth 100000 in
theorem deep_3 : (List.range 10).map (fun n => parseM (deepL (n + 80))) = (List.range 10).map (fun n => some (docT [deepT (n + 80)], [])) := by kernel_rfl
set_option maxRecDepth 100000 in
theorem deep_4 : (List.range 10).map (fun n => parseM (deepL (n + 90))) = (List.range 10).map (fun n => some (docT [deepT (n + 90)], [])) := by kernel_rfl
theorem deep_low {n : Nat} (h : n < 100) : parseM (deepL n) = some (docT [deepT n], []) := by
  by_cases h0 : n < 40
  · have q := List.map_inj_left.1 deep_0 (n - 0) (List.mem_range.2 (by omega))
    rw [show n - 0 + 0 = n by omega] at q
    exact q
  by_cases h1 : n < 65
  · have q := List.map_inj_left.1 deep_1 (n - 40) (List.mem_range.2 (by omega))
    rw [show n - 40 + 40 = n by omega] at q
    exact q
  by_cases h2 : n < 80
  · have q := List.map_inj_left.1 deep_2 (n - 65) (List.mem_range.2 (by omega))
    rw [show n - 65 + 65 = n by omega] at q
    exact q
  by_cases h3 : n < 90
  · have q := List.map_inj_left.1 deep_3 (n - 80) (List.mem_range.2 (by omega))
    rw [show n - 80 + 80 = n by omega] at q
    exact q
  by_cases h4 : n < 100
  · have q := List.map_inj_left.1 deep_4 (n - 90) (List.mem_range.2 (by omega))
    rw [show n - 90 + 90 = n by omega] at q
    exact q
  omega
theorem cwGo_deep : ∀ (n : Nat) (s : St) (i : Nat), (cwGo n s i).deep = s.deep
  | 0, _, _ => rfl
  | n + 1, s, i => by
    unfold cwGo
    split
    · rfl
    · exact (cwGo_deep n (closeM s) i).trans (close_rest s).2.2
theorem addGo_deep : ∀ (n : Nat) (s : St) (k : Nat), (addGo n s k).deep = s.deep
  | 0, _, _ => rfl
  | n + 1, s, k => by
    unfold addGo
    split
    · rfl
    · exact (addGo_deep n (closeM s) k).trans (close_rest s).2.2
theorem add_deep {s : St} (h : s.deep = true) (b : Nd) : (addM s b).deep = true := by
  show ((addGo s.tip s b.kind).deep || _) = true
  rw [addGo_deep, h]; rfl
theorem fill_deep {s : St} (h : s.deep = true) (i : Nat) : (fillM s i).deep = true := by
  unfold fillM
  split
  · exact h
  split
  · split
    · exact (close_rest (putM s i)).2.2.trans h
    · exact h
  split
  · exact h
  · exact add_deep h (blkN 5)
theorem rest_deep {s : St} (h : s.deep = true) (i what : Nat) : (restM s i what).deep = true := by
  have t : ∀ s : St, s.deep = true → (endBlankM (cwM s i) i).deep = true := fun s h => (cwGo_deep _ s i).trans h
  unfold restM
  split
  · split
    · exact h
    · exact fill_deep (t (s.atL (skipM s.line s.line.ind)) h) i
  split
  · exact fill_deep (t s h) i
  · exact t s h
set_option maxRecDepth 100000 in
theorem deep_begun (t : List UInt8) : (begunM (startM st0 (List.replicate 101 62 ++ t)) 0).1.deep = true := by kernel_rfl
theorem deep_take (t : List UInt8) : (takeM st0 (List.replicate 101 62 ++ t)).deep = true := by
  have e : matchedM (startM st0 (List.replicate 101 62 ++ t)) = (startM st0 (List.replicate 101 62 ++ t), 0, false) := match_tip _ _
  unfold takeM lineM
  rw [e, if_neg (by simp)]
  exact rest_deep (deep_begun t) _ _
theorem deep_high {n : Nat} (h : 100 < n) : parseM (deepL n) = none := by
  obtain ⟨m, rfl⟩ : ∃ m, n = 101 + m := ⟨n - 101, by omega⟩
  have hl : linesL (deepL (101 + m)) = [List.replicate (101 + m) 62 ++ [32, 97]] := by
    unfold linesL deepL
    rw [show List.replicate (101 + m) (62 : UInt8) ++ [32, 97, 10] = (List.replicate (101 + m) 62 ++ [32, 97]) ++ [10] by simp]
    rw [linesFrom_run _ _ _ (fun b hb => by
      rcases List.mem_append.1 hb with q | q
      · rw [(List.mem_replicate.1 q).2]; decide
      · simp at q; rcases q with rfl | rfl <;> decide)]
    unfold linesFrom
    rw [if_pos rfl]
    rfl
  unfold parseM
  rw [hl]
  unfold runM
  rw [if_pos (by rw [← List.replicate_append_replicate, List.append_assoc]; exact deep_take _)]
  rfl
set_option maxRecDepth 100000 in
theorem deep_hundred : (parseM (deepL 100)).isNone = true := by kernel_rfl
theorem deep_none {n : Nat} (h : 99 < n) : parseM (deepL n) = none := by
  by_cases e : n = 100
  · subst e
    have := deep_hundred
    cases hp : parseM (deepL 100) with
    | none => rfl
    | some x => rw [hp] at this; cases this
  · exact deep_high (by omega)
end Go.Proofs.YtdelaanaohjnkaaGreatDoor


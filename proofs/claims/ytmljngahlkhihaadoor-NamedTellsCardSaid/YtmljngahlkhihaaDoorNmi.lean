/-
  Contract of Ref, of the document's answer.
-/
import Derived.Test.YtmljngahlkhihaaDoorNmh
import Derived.Test.YtmljngahlkhihaaDoorNmd
import Derived.Deep.DeepCutAuto
import Derived.Deep.CutBlock
namespace Go.Proofs.YtmljngahlkhihaaDoor
open Go.RowKit Go.Lib

/-- A sign that a reference's inside may have. -/
def okC (b : UInt8) : Bool := alnB b || decide (b = 35)
theorem okC_ne {b : UInt8} (h : okC b = true) : b ≠ 59 := by
  unfold okC at h
  rw [Bool.or_eq_true, decide_eq_true_eq] at h
  rcases h with h | rfl
  · exact (aln_ne h).1
  · decide
theorem upto_stop {r : List UInt8} {k : Nat} (hk : k < r.length) (all : ∀ (j : Nat) (h : j < r.length), j < k → okC r[j] = true) (h59 : r[k] = 59) : upto r = r.take k := by
  have e : r = r.take k ++ 59 :: r.drop (k + 1) := by
    conv => lhs; rw [← List.take_append_drop k r, drop_cons r k hk, h59]
  conv => lhs; rw [e]
  refine upto_app (fun b hb => ?_) _
  obtain ⟨j, hj, rfl⟩ := List.getElem_of_mem hb
  rw [List.length_take] at hj
  rw [List.getElem_take]
  exact okC_ne (all j (by omega) (by omega))
theorem stop_some {r : List UInt8} {k : Nat} (hk : k < r.length) (all : ∀ (j : Nat) (h : j < r.length), j < k → okC r[j] = true) (h59 : r[k] = 59) : refL (38 :: r) = if refT (r.take k) ≠ 0 then (refT (r.take k), k + 2) else (0, 0) := by
  have hl : (r.take k).length = k := by rw [List.length_take]; omega
  rw [refL_amp r rfl, upto_stop hk all h59, hl]
  by_cases h : refT (r.take k) ≠ 0
  · rw [if_pos h, if_pos ⟨hk, h⟩]
  · rw [if_neg h, if_neg (fun x => h x.2)]
theorem stop_none {r : List UInt8} {k : Nat} (hk : k ≤ r.length) (all : ∀ (j : Nat) (h : j < r.length), j < k → okC r[j] = true) (stop : k = r.length ∨ k = 33 ∨ ∀ (h : k < r.length), okC r[k] = false) (no : ∀ (h : k < r.length), r[k] ≠ 59) : refL (38 :: r) = (0, 0) := by
  rw [refL_amp r rfl, if_neg]
  rintro ⟨h1, h2⟩
  obtain ⟨f1, f2, f3, _⟩ := refT_facts h2
  have e := upto_of h1
  have hat : ∀ (u z l : List UInt8) (h : l = u ++ 59 :: z) (h1 : u.length < l.length), l[u.length] = 59 := by
    rintro u z l rfl h1
    simp
  have hu : r[(upto r).length] = 59 := hat _ _ r e h1
  have hok : ∀ (j : Nat) (h : j < r.length), j < (upto r).length → okC r[j] = true := by
    intro j h hj
    have hm : r[j] ∈ upto r := by
      have : upto r <+: r := List.takeWhile_prefix _
      rw [← this.getElem hj]
      exact List.getElem_mem _
    unfold okC
    rcases f3 _ hm with h' | h'
    · rw [h']; rfl
    · rw [h']; rfl
  rcases Nat.lt_trichotomy k (upto r).length with h | h | h
  · have hk2 : k < r.length := by omega
    have := hok k hk2 h
    rcases stop with s | s | s
    · omega
    · omega
    · rw [s hk2] at this; cases this
  · subst h
    exact no h1 hu
  · have := okC_ne (all _ h1 h)
    exact this hu
/-- What the document's switch answers of a reference's inside. -/
theorem in_hex (t : ByteArray) (h : 1 < t.size) (h0 : t[0].toNat = 35) (h1 : t[1].toNat = 120 ∨ t[1].toNat = 88) : refT t.data.toList = numL 16 6 (t.data.toList.drop 2) := by
  have e : t.data.toList = t[0] :: t[1] :: t.data.toList.drop 2 := by
    have a := drop_cons t.data.toList 0 (by rw [bytes_len]; omega)
    have b := drop_cons t.data.toList 1 (by rw [bytes_len]; omega)
    rw [List.drop_zero] at a
    conv => lhs; rw [a, b]
    rfl
  have e0 : t[0] = 35 := UInt8.toNat_inj.1 h0
  unfold refT
  rw [if_pos]
  rcases h1 with h1 | h1
  · refine .inl ((pre_iff _ _).2 ⟨t.data.toList.drop 2, ?_⟩)
    conv => lhs; rw [e, e0, show t[1] = 120 from UInt8.toNat_inj.1 h1]
    rfl
  · refine .inr ((pre_iff _ _).2 ⟨t.data.toList.drop 2, ?_⟩)
    conv => lhs; rw [e, e0, show t[1] = 88 from UInt8.toNat_inj.1 h1]
    rfl
theorem not_hex (t : ByteArray) (h : ¬ (∃ h : 1 < t.size, t[0].toNat = 35 ∧ (t[1].toNat = 120 ∨ t[1].toNat = 88))) : refT t.data.toList = if hasPrefix t.data.toList [35] then numL 10 7 (t.data.toList.drop 1) else namedL t.data.toList := by
  unfold refT
  rw [if_neg]
  have key : ∀ c : UInt8, c = 120 ∨ c = 88 → hasPrefix t.data.toList [35, c] = true → False := by
    intro c hc k
    obtain ⟨z, e⟩ := (pre_iff _ _).1 k
    have hl : 1 < t.size := by rw [← bytes_len, e]; simp
    have h0 : t[0] = 35 := by
      have : t.data.toList[0]'(by rw [bytes_len]; omega) = 35 := by simp [e]
      exact this
    have h1 : t[1] = c := by
      have : t.data.toList[1]'(by rw [bytes_len]; omega) = c := by simp [e]
      exact this
    exact h ⟨hl, by rw [h0]; rfl, by rw [h1]; rcases hc with rfl | rfl <;> decide⟩
  rintro (k | k)
  · exact key 120 (.inl rfl) k
  · exact key 88 (.inr rfl) k
theorem in_dec (t : ByteArray) (h : ¬ (∃ h : 1 < t.size, t[0].toNat = 35 ∧ (t[1].toNat = 120 ∨ t[1].toNat = 88))) (hz : 0 < t.size) (h0 : t[0].toNat = 35) : refT t.data.toList = numL 10 7 (t.data.toList.drop 1) := by
  rw [not_hex t h, if_pos]
  have a := drop_cons t.data.toList 0 (by rw [bytes_len]; omega)
  rw [List.drop_zero] at a
  rw [a, pre1_cons]
  exact beq_iff_eq.2 (UInt8.toNat_inj.1 h0).symm
theorem in_name (t : ByteArray) (h : ¬ (∃ h : 0 < t.size, t[0].toNat = 35)) : refT t.data.toList = namedL t.data.toList := by
  rw [not_hex t (fun ⟨k, h0, _⟩ => h ⟨by omega, h0⟩), if_neg]
  intro k
  obtain ⟨z, e⟩ := (pre_iff _ _).1 k
  have hl : 0 < t.size := by rw [← bytes_len, e]; simp
  refine h ⟨hl, ?_⟩
  have : t.data.toList[0]'(by rw [bytes_len]; omega) = 35 := by simp [e]
  rw [show t[0] = 35 from this]; rfl
end Go.Proofs.YtmljngahlkhihaaDoor

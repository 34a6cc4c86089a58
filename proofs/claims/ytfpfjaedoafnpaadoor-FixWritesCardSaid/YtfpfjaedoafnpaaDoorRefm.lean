/-
  Plain lists: a run of digits, as a loop goes through it.
-/
import Derived.Test.YtfpfjaedoafnpaaDoorBack
namespace Go.Proofs.YtfpfjaedoafnpaaDoor
open Go

/-- k digits of L have been gone through, lim at most; they are v. -/
structure Run (L : List UInt8) (lim k : Nat) (v : Int) : Prop where
  lim : k ≤ lim
  len : k ≤ L.length
  all : ∀ (j : Nat) (h : j < L.length), j < k → isD L[j] = true
  val : v = (val (L.take k) : Int)
theorem run_start (L : List UInt8) (lim : Nat) : Run L lim 0 0 := ⟨Nat.zero_le _, Nat.zero_le _, fun _ _ h => absurd h (Nat.not_lt_zero _), rfl⟩
theorem run_next {L : List UInt8} {lim k : Nat} {v : Int} (r : Run L lim k v) (h : k < L.length) (hl : k < lim) (hd : isD L[k] = true) : Run L lim (k + 1) (10 * v + ((L[k].toNat : Int) - 48)) := by
  refine ⟨hl, h, fun j hj hjk => ?_, ?_⟩
  · rcases Nat.lt_or_ge j k with h' | h'
    · exact r.all j hj h'
    · obtain rfl : j = k := by omega
      exact hd
  · rw [List.take_succ_eq_append_getElem h, val_snoc, r.val]
    have := isD_of hd
    omega
theorem run_bd {L : List UInt8} {lim k : Nat} {v : Int} (r : Run L lim k v) : 0 ≤ v ∧ v < 10 ^ k := by
  have h := val_lt (L.take k) (fun b hb => by
    obtain ⟨j, hj, rfl⟩ := List.getElem_of_mem hb
    rw [List.length_take] at hj
    rw [List.getElem_take]
    exact r.all j (by omega) (by omega))
  rw [List.length_take, Nat.min_eq_left r.len] at h
  have hv := r.val
  have e : ((10 ^ k : Nat) : Int) = (10 : Int) ^ k := by rw [Int.natCast_pow]; rfl
  rw [← e]
  omega
theorem run_le15 {L : List UInt8} {lim k : Nat} {v : Int} (r : Run L lim k v) (h : k ≤ 15) : v ≤ 999999999999999 := by
  have h1 := (run_bd r).2
  have h2 : 10 ^ k ≤ 10 ^ 15 := Nat.pow_le_pow_right (by omega) h
  have e : ((10 ^ k : Nat) : Int) = (10 : Int) ^ k := by rw [Int.natCast_pow]; rfl
  rw [← e] at h1
  generalize 10 ^ k = x at *
  omega
theorem run_le14 {L : List UInt8} {lim k : Nat} {v : Int} (r : Run L lim k v) (h : k ≤ 14) : v ≤ 99999999999999 := by
  have h1 := (run_bd r).2
  have h2 : 10 ^ k ≤ 10 ^ 14 := Nat.pow_le_pow_right (by omega) h
  have e : ((10 ^ k : Nat) : Int) = (10 : Int) ^ k := by rw [Int.natCast_pow]; rfl
  rw [← e] at h1
  generalize 10 ^ k = x at *
  omega
theorem run_stop {L : List UInt8} {lim k : Nat} {v : Int} (r : Run L lim k v) (h : k = lim ∨ ∀ (h : k < L.length), isD L[k] = false) : digs L lim = L.take k ∧ (digs L lim).length = k ∧ v = (val (digs L lim) : Int) := by
  have e := digs_stop L lim k r.lim r.all h
  refine ⟨e, ?_, by rw [e]; exact r.val⟩
  rw [e, List.length_take, Nat.min_eq_left r.len]

theorem pad3 (W R : List UInt8) (h : R.length ≤ 3) : val (W ++ (R ++ [48, 48, 48]).take 3) = val W * 1000 + val R * 10 ^ (3 - R.length) := by
  match R, h with
  | [], _ => rw [val_app]; rfl
  | [a], _ => rw [val_app]; show val W * 10 ^ 3 + val [a, 48, 48] = val W * 1000 + val [a] * 10 ^ 2; unfold val; simp only [List.foldl]; have : (48 : UInt8).toNat = 48 := rfl; omega
  | [a, b], _ => rw [val_app]; show val W * 10 ^ 3 + val [a, b, 48] = val W * 1000 + val [a, b] * 10 ^ 1; unfold val; simp only [List.foldl]; have : (48 : UInt8).toNat = 48 := rfl; omega
  | [a, b, c], _ => rw [val_app]; show val W * 10 ^ 3 + val [a, b, c] = val W * 1000 + val [a, b, c] * 10 ^ 0; omega

/-- Where the second loop stands: j digits of R have been gone through, the next one counts c. -/
structure Run2 (w : Int) (L : List UInt8) (j : Nat) (m c : Int) : Prop where
  run : ∃ v, Run L 3 j v ∧ m = w + v * 10 ^ (3 - j)
  scale : (j = 0 ∧ c = 100) ∨ (j = 1 ∧ c = 10) ∨ (j = 2 ∧ c = 1) ∨ (j = 3 ∧ c = 0)
theorem run2_start (w : Int) (L : List UInt8) : Run2 w L 0 w 100 := ⟨⟨0, run_start L 3, by omega⟩, .inl ⟨rfl, rfl⟩⟩
theorem run2_next {w : Int} {L : List UInt8} {j : Nat} {m c : Int} (r : Run2 w L j m c) (h : j < L.length) (hc : 0 < c) (hd : isD L[j] = true) : Run2 w L (j + 1) (m + c * ((L[j].toNat : Int) - 48)) (c / 10) := by
  obtain ⟨⟨v, r1, e⟩, sc⟩ := r
  have hj : j < 3 := by rcases sc with ⟨a, b⟩ | ⟨a, b⟩ | ⟨a, b⟩ | ⟨a, b⟩ <;> omega
  refine ⟨⟨_, run_next r1 h hj hd, ?_⟩, ?_⟩
  · rcases sc with ⟨rfl, rfl⟩ | ⟨rfl, rfl⟩ | ⟨rfl, rfl⟩ | ⟨rfl, rfl⟩ <;> omega
  · rcases sc with ⟨rfl, rfl⟩ | ⟨rfl, rfl⟩ | ⟨rfl, rfl⟩ | ⟨rfl, rfl⟩ <;> omega
theorem run2_bd {w : Int} {L : List UInt8} {j : Nat} {m c : Int} (r : Run2 w L j m c) (hw : 0 ≤ w ∧ w < 1000000000000000000) : 0 ≤ m ∧ m < 1000000000000001000 ∧ 0 ≤ c ∧ c ≤ 100 ∧ j ≤ 3 ∧ j ≤ L.length := by
  obtain ⟨⟨v, r1, e⟩, sc⟩ := r
  have hb := run_bd r1
  have hl := r1.len
  rcases sc with ⟨rfl, rfl⟩ | ⟨rfl, rfl⟩ | ⟨rfl, rfl⟩ | ⟨rfl, rfl⟩ <;> omega
theorem run2_stop {w : Int} {L : List UInt8} {j : Nat} {m c : Int} (r : Run2 w L j m c) (h : ¬ 0 < c ∨ ∀ (h : j < L.length), isD L[j] = false) :
    (digs L 3).length = j ∧ m = w + (val (digs L 3) * 10 ^ (3 - (digs L 3).length) : Nat) := by
  obtain ⟨⟨v, r1, e⟩, sc⟩ := r
  have h' : j = 3 ∨ ∀ (h : j < L.length), isD L[j] = false := h.imp (fun k => by rcases sc with ⟨a, b⟩ | ⟨a, b⟩ | ⟨a, b⟩ | ⟨a, b⟩ <;> omega) id
  obtain ⟨_, e2, e3⟩ := run_stop r1 h'
  refine ⟨e2, ?_⟩
  rw [e, e3, e2, Int.natCast_mul, Int.natCast_pow]
  rfl
end Go.Proofs.YtfpfjaedoafnpaaDoor

/-
  Texts of the proof, one behind the other: Fntc, Fcs.
-/
import Derived.Test.YtfnkokfkhjdkfaaDoorM11
import Derived.LoopTactic
/-
  Contracts of Run and Cut, of the package.
-/
namespace Go.Proofs.YtfnkokfkhjdkfaaDoor
open Go.RowKit Go.Lib

/-- How many codes have room, from the first one on. -/
def cutGo (f size width : Int) : Int → List UInt8 → Nat
  | _, [] => 0
  | used, b :: l => if width < used + advL f size b.toNat then 0 else 1 + cutGo f size width (used + advL f size b.toNat) l
def cutL (f size width : Int) (l : List UInt8) : Nat := if l = [] then 0 else max 1 (cutGo f size width 0 l)
theorem cutGo_le (f size width : Int) : ∀ (u : Int) (l : List UInt8), cutGo f size width u l ≤ l.length
  | _, [] => Nat.le_refl _
  | u, b :: l => by
    unfold cutGo
    have := cutGo_le f size width (u + advL f size b.toNat) l
    rw [List.length_cons]
    split <;> omega
/-- Up to place k all have room; at it there is none, or the end. -/
theorem cutGo_at (f size width : Int) : ∀ (k : Nat) (u : Int) (l : List UInt8), k ≤ l.length → (∀ j, 0 < j → j ≤ k → u + runL f size (l.take j) ≤ width) → (k < l.length → width < u + runL f size (l.take (k + 1))) → cutGo f size width u l = k
  | 0, u, [], _, _, _ => rfl
  | 0, u, b :: l, _, _, h => by
    have := h (by simp)
    simp only [Nat.zero_add, List.take_succ_cons, List.take_zero, runL] at this
    unfold cutGo
    rw [if_pos (by omega)]
  | k + 1, u, [], h, _, _ => by simp at h
  | k + 1, u, b :: l, h, h1, h2 => by
    have a := h1 1 (by omega) (by omega)
    simp only [List.take_succ_cons, List.take_zero, runL] at a
    unfold cutGo
    rw [if_neg (by omega), cutGo_at f size width k _ l (by simpa using h) (fun j hj hjk => by
      have := h1 (j + 1) (by omega) (by omega)
      simp only [List.take_succ_cons, runL] at this
      omega) (fun hk => by
      have := h2 (by simpa using hk)
      rw [List.take_succ_cons] at this
      simp only [runL] at this
      omega)]
    omega
theorem cut_at {f size width : Int} {l : List UInt8} (k : Nat) (hk : k ≤ l.length) (hs : 0 ≤ size) (h1 : runL f size (l.take k) ≤ width ∨ k = 0) (h2 : k < l.length → width < runL f size (l.take (k + 1))) :
    cutL f size width l = if k = l.length then l.length else max k 1 := by
  have e : cutGo f size width 0 l = k := cutGo_at f size width k 0 l hk (fun j hj hjk => by
    have := run_take_le (f := f) hs l j k hjk
    rcases h1 with h1 | h1 <;> omega) (fun h => by have := h2 h; omega)
  unfold cutL
  rw [e]
  by_cases hl : l = []
  · subst hl; rw [if_pos rfl]; simp at hk; subst hk; rfl
  · have := List.length_pos_iff.2 hl
    rw [if_neg hl]
    split <;> omega
theorem run_next {l : List UInt8} {f size acc : Int} {k : Nat} (hk : k < l.length) (ha : acc = runL f size (l.take k)) :
    acc + advL f size l[k].toNat = runL f size (l.take (k + 1)) := by
  rw [List.take_succ_eq_append_getElem hk, run_snoc, ha]

set_option maxRecDepth 100000 in
theorem run_any (f size : Int) (s : ByteArray) (w : World) (hs : s.size ≤ 100000) (h1 : 0 ≤ size) (h2 : size ≤ 2147483648) (hF : Fnt w) :
    Calls Tryd.prog 49 #[.int .i64 f, .int .i64 size, .string s] w fun e w' => e = .returned (.int .i64 (runL f size s.data.toList)) ∧ w = w' := by
  have hl := Lib.hid (bytes_len s)
  have AD := Lib.hid (fun c hc W h => adv_any f size c hc W (by omega) h2 h)
  have HF := Lib.hid hF
  have H1 := Lib.hid h1
  have H2 := Lib.hid h2
  clear hF h1 h2
  go_enter Tryd.func49, Tryd.ntmps49
  go_wp2_with fail
  go_loop [7, 11] (fun acc i => ∃ (k : Nat) (u : Int), k ≤ s.size ∧ i = .int .i64 k ∧ acc = .int .i64 u ∧ Hid (u = runL f size (s.data.toList.take k)) ∧ 0 ≤ u ∧ u ≤ 2179695902 * k) (fun _ i => s.size - (RowKit.intOf i).toNat)
  case atStart => exact ⟨0, 0, Nat.zero_le _, rfl, rfl, Lib.hid rfl, by omega, by omega⟩
  case round =>
    obtain ⟨k, u, hp, rfl, rfl, HU, u0, u1⟩ := hrel
    by_cases c : k < s.size
    · have hb := s[k].toNat_lt
      have HT := Lib.hid (AD.out s[k].toNat hb w HF.out)
      have a0 := adv_nonneg (f := f) hb H1.out
      have a1 := adv_le (f := f) hb H1.out H2.out
      have HN := Lib.hid (run_next (f := f) (size := size) (k := k) (by have := hl.out; omega) HU.out)
      have HG : Hid (advL f size s.data.toList[k].toNat = advL f size s[k].toNat) := Lib.hid rfl
      generalize advL f size s[k].toNat = d at *
      go_wp2_with fail
      refine HT.out.mono ?_
      rintro e W0 ⟨rfl, rfl⟩
      go_wp2_with fail
      go_round
      case rel => exact ⟨k + 1, u + d, by omega, by go_num, rfl, by have e := HN.out; rw [HG.out] at e; exact Lib.hid e, by omega, by omega⟩
      case measure => simp [RowKit.intOf]; omega
    · have HE : Hid (u = runL f size s.data.toList) := by
        have e := HU.out
        rw [List.take_of_length_le (by have := hl.out; omega)] at e
        exact Lib.hid e
      go_wp2_with fail
      go_ret
      exact ⟨ret_int HE.out, rfl⟩
set_option maxRecDepth 100000 in
theorem cut_any (f size width : Int) (s : ByteArray) (w : World) (hs : s.size ≤ 100000) (h1 : 0 ≤ size) (h2 : size ≤ 2147483648) (hF : Fnt w) :
    Calls Tryd.prog 72 #[.int .i64 f, .int .i64 size, .string s, .int .i64 width] w fun e w' => e = .returned (.int .i64 (cutL f size width s.data.toList)) ∧ w = w' := by
  have hl := Lib.hid (bytes_len s)
  have AD := Lib.hid (fun c hc W h => adv_any f size c hc W (by omega) h2 h)
  have HF := Lib.hid hF
  have H1 := Lib.hid h1
  have H2 := Lib.hid h2
  clear hF h1 h2
  go_enter Tryd.func72, Tryd.ntmps72
  go_wp2_with fail
  go_loop [9, 13] (fun acc i => ∃ (k : Nat) (u : Int), k ≤ s.size ∧ i = .int .i64 k ∧ acc = .int .i64 u ∧ Hid (u = runL f size (s.data.toList.take k)) ∧ 0 ≤ u ∧ u ≤ 2179695902 * k ∧ Hid (u ≤ width ∨ k = 0)) (fun _ i => s.size - (RowKit.intOf i).toNat)
  case atStart => exact ⟨0, 0, Nat.zero_le _, rfl, rfl, Lib.hid rfl, by omega, by omega, Lib.hid (.inr rfl)⟩
  case round =>
    obtain ⟨k, u, hp, rfl, rfl, HU, u0, u1, HW⟩ := hrel
    by_cases c : k < s.size
    · have hb := s[k].toNat_lt
      have HT := Lib.hid (AD.out s[k].toNat hb w HF.out)
      have a0 := adv_nonneg (f := f) hb H1.out
      have a1 := adv_le (f := f) hb H1.out H2.out
      have HN := Lib.hid (run_next (f := f) (size := size) (k := k) (by have := hl.out; omega) HU.out)
      have HG : Hid (advL f size s.data.toList[k].toNat = advL f size s[k].toNat) := Lib.hid rfl
      generalize advL f size s[k].toNat = d at *
      by_cases c2 : width < u + d
      · have HC : Hid (cutL f size width s.data.toList = max k 1) := by
          have e := cut_at (f := f) (size := size) (width := width) (l := s.data.toList) k (by have := hl.out; omega) H1.out (by rw [← HU.out]; exact HW.out) (fun _ => by rw [← HN.out, HG.out]; exact c2)
          rw [if_neg (by have := hl.out; omega)] at e
          exact Lib.hid e
        go_wp2_with fail
        refine HT.out.mono ?_
        rintro e W0 ⟨rfl, rfl⟩
        go_wp2_with fail
        all_goals
          go_ret
          exact ⟨ret_int (by rw [HC.out]; omega), rfl⟩
      · go_wp2_with fail
        refine HT.out.mono ?_
        rintro e W0 ⟨rfl, rfl⟩
        go_wp2_with fail
        go_round
        case rel => exact ⟨k + 1, u + d, by omega, by go_num, rfl, by have e := HN.out; rw [HG.out] at e; exact Lib.hid e, by omega, by omega, Lib.hid (.inl (by omega))⟩
        case measure => simp [RowKit.intOf]; omega
    · have HC : Hid (cutL f size width s.data.toList = s.size) := by
        have e := cut_at (f := f) (size := size) (width := width) (l := s.data.toList) k (by have := hl.out; omega) H1.out (by rw [← HU.out]; exact HW.out) (fun h => by have := hl.out; omega)
        rw [if_pos (by have := hl.out; omega)] at e
        exact Lib.hid (e.trans hl.out)
      go_wp2_with fail
      go_ret
      exact ⟨ret_int (by rw [HC.out]), rfl⟩
end Go.Proofs.YtfnkokfkhjdkfaaDoor

/-
  What Cut tells, as a plain function on lists.
-/
namespace Go.Proofs.YtfnkokfkhjdkfaaDoor
open Go.RowKit Go.Lib

theorem cutGo_spec (f size width : Int) : ∀ (u : Int) (l : List UInt8), (cutGo f size width u l = 0 ∨ u + runL f size (l.take (cutGo f size width u l)) ≤ width) ∧ (cutGo f size width u l < l.length → width < u + runL f size (l.take (cutGo f size width u l + 1)))
  | u, [] => ⟨.inl rfl, fun h => by simp [cutGo] at h⟩
  | u, b :: l => by
    by_cases h : width < u + advL f size b.toNat
    · have e : cutGo f size width u (b :: l) = 0 := by unfold cutGo; rw [if_pos h]
      rw [e]
      exact ⟨.inl rfl, fun _ => by simp [runL]; exact h⟩
    · have e : cutGo f size width u (b :: l) = cutGo f size width (u + advL f size b.toNat) l + 1 := by
        conv => lhs; unfold cutGo
        rw [if_neg h]; omega
      obtain ⟨h1, h2⟩ := cutGo_spec f size width (u + advL f size b.toNat) l
      rw [e, List.take_succ_cons, List.take_succ_cons]
      simp only [runL, List.length_cons]
      refine ⟨.inr ?_, fun h3 => by have := h2 (by omega); omega⟩
      rcases h1 with h1 | h1
      · rw [h1, List.take_zero]; simp only [runL]; omega
      · omega
/-- What is cut off has room, and one more hasn't. -/
theorem cut_spec {f size width : Int} (hs : 0 ≤ size) (l : List UInt8) : cutL f size width l ≤ l.length ∧ (l ≠ [] → 0 < cutL f size width l) ∧ (cutL f size width l ≤ 1 ∨ runL f size (l.take (cutL f size width l)) ≤ width) ∧
    (cutL f size width l < l.length → width < runL f size (l.take (cutL f size width l + 1))) := by
  obtain ⟨h1, h2⟩ := cutGo_spec f size width 0 l
  have h3 := cutGo_le f size width 0 l
  unfold cutL
  by_cases hl : l = []
  · subst hl; simp
  · have hp := List.length_pos_iff.2 hl
    rw [if_neg hl]
    by_cases h0 : cutGo f size width 0 l = 0
    · rw [h0] at h2
      have e : max 1 (cutGo f size width 0 l) = 1 := by omega
      rw [e]
      refine ⟨by omega, fun _ => by omega, .inl (by omega), fun _ => ?_⟩
      have a := h2 (by omega)
      have b := run_take_le (f := f) hs l 1 2 (by omega)
      have e1 : runL f size (l.take (0 + 1)) = runL f size (l.take 1) := rfl
      have e2 : runL f size (l.take (1 + 1)) = runL f size (l.take 2) := rfl
      omega
    · have e : max 1 (cutGo f size width 0 l) = cutGo f size width 0 l := by omega
      rw [e]
      refine ⟨h3, fun _ => by omega, .inr (by rcases h1 with h1 | h1 <;> omega), fun h => by have := h2 h; omega⟩
end Go.Proofs.YtfnkokfkhjdkfaaDoor


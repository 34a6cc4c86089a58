/-
  Pile[int]: Len, At, Push, Cut, Pop of a pile in memory, and of a nil one.
-/
import Derived.Test.YtafklopkjbdlkaaPila
namespace Go.Proofs.Ytafklopkjbdlkaa
open Go.RowKit Go.Lib

theorem infoI : (Try.prog.info? 3).map (fun i => (i.zero, i.size, i.bytes)) = some (some (.int .i64 0), 1, 8) := by kernel_rfl
theorem zeroI (w : World) : (zeroValue 3).run Try.prog w = .ok (.int .i64 0) w := by kernel_rfl
theorem differI : 25 ≠ 3 := by decide
/-- Block B holds the pile xs. -/
abbrev PI (n₀ : Nat) (w : World) (B : Nat) (v : Value) (xs : List Int) : Prop := Pil n₀ 25 3 w B v (xs.map (Value.int .i64))

theorem formsI {n₀ B : Nat} {w : World} {v : Value} {xs : List Int} (h : PI n₀ w B v xs) : ∃ a cap, v = .slice a xs.length cap ∧ xs.length ≤ cap ∧ cap ≤ maxLen := by
  rcases h.forms with ⟨rfl, h0⟩ | ⟨g, cap, rfl, h1, h2⟩
  · have : xs = [] := by simpa using h0
    subst this
    exact ⟨none, 0, rfl, Nat.le_refl _, by simp [maxLen]⟩
  · exact ⟨some ⟨g, 0, none⟩, cap, by simp, by simpa using h1, h2⟩
theorem someI {n₀ B : Nat} {w : World} {v : Value} {xs : List Int} (h : PI n₀ w B v xs) (hx : 0 < xs.length) : ∃ g cap, v = .slice (some ⟨g, 0, none⟩) xs.length cap ∧ xs.length ≤ cap ∧ cap ≤ maxLen ∧ n₀ ≤ g ∧ g ≠ B ∧
    ∀ k, k < xs.length → w.cell? ⟨g, k, none⟩ = some ((Value.int .i64) (xs.getD k 0)) := by
  rcases h.forms with ⟨rfl, h0⟩ | ⟨g, cap, rfl, h1, h2⟩
  · have : xs = [] := by simpa using h0
    subst this
    exact absurd hx (by simp)
  · have hr := h.row
    rw [List.length_map] at hr
    refine ⟨g, cap, by simp, by simpa using h1, h2, (hr.lt g rfl).1, fun e => h.box.not_row differI h.row (by simp [Value.ownBlock, e]), fun k hk => ?_⟩
    rw [hr.cellAt k (by omega), List.getElem?_map, List.getElem?_eq_getElem hk]
    simp [List.getD, List.getElem?_eq_getElem hk]

theorem lenI_any {n₀ B : Nat} {v : Value} {xs : List Int} {w : World} (h : PI n₀ w B v xs) :
    Calls Try.prog 18 #[.pointer (some ⟨B, 0, none⟩)] w fun e w' => e = .returned (.int .i64 (xs.length : Int)) ∧ w = w' := by
  obtain ⟨a, cap, rfl, hc, hm⟩ := formsI h
  have hcell := h.box.cell
  have hl : xs.length ≤ 9223372036854775807 := by simp only [maxLen] at hm; omega
  clear h hm
  go_enter Try.func18, Try.ntmps18
  go_wp2_with fail
  go_ret
  exact ⟨rfl, rfl⟩
theorem lenI_nil (w : World) :
    Calls Try.prog 18 #[.pointer none] w fun e w' => e = .returned (.int .i64 0) ∧ w = w' := by
  go_enter Try.func18, Try.ntmps18
  go_wp2_with fail
  go_ret
  exact ⟨rfl, rfl⟩

/-- At, of the place k. -/
theorem atI_hit {n₀ B : Nat} {v : Value} {xs : List Int} {w : World} (h : PI n₀ w B v xs) (k : Nat) (hk : k < xs.length) :
    Calls Try.prog 15 #[.pointer (some ⟨B, 0, none⟩), .int .i64 (k : Int)] w fun e w' => e = .returned (.tuple #[(Value.int .i64) (xs.getD k 0), .bool true]) ∧ w = w' := by
  have LN := Lib.hid (lenI_any h)
  obtain ⟨g, cap, rfl, hc, hm, hn, hne, hcells⟩ := someI h (by omega)
  have hcell := h.box.cell
  have hck := hcells k hk
  have hl : cap ≤ 9223372036854775807 := by simp only [maxLen] at hm; omega
  clear h hm hcells
  generalize xs.getD k 0 = y at *
  go_enter Try.func15, Try.ntmps15
  go_wp2_with fail
  refine LN.out.mono ?_
  rintro e w1 ⟨rfl, rfl⟩
  go_wp2_with fail
  go_ret2
  exact ⟨rfl, rfl⟩
theorem atI_low (p : Option Addr) (i : Int) (hi : i < 0) (w : World) :
    Calls Try.prog 15 #[.pointer p, .int .i64 i] w fun e w' => e = .returned (.tuple #[.int .i64 0, .bool false]) ∧ w = w' := by
  go_enter Try.func15, Try.ntmps15
  go_wp2_with fail
  go_ret2
  exact ⟨rfl, rfl⟩
theorem atI_high {n₀ B : Nat} {v : Value} {xs : List Int} {w : World} (h : PI n₀ w B v xs) (i : Int) (hi : (xs.length : Int) ≤ i) :
    Calls Try.prog 15 #[.pointer (some ⟨B, 0, none⟩), .int .i64 i] w fun e w' => e = .returned (.tuple #[.int .i64 0, .bool false]) ∧ w = w' := by
  have LN := Lib.hid (lenI_any h)
  have h0 : 0 ≤ i := by omega
  clear h
  generalize xs.length = n at *
  go_enter Try.func15, Try.ntmps15
  go_wp2_with fail
  refine LN.out.mono ?_
  rintro e w1 ⟨rfl, rfl⟩
  go_wp2_with fail
  go_ret2
  exact ⟨rfl, rfl⟩
theorem atI_nil (i : Int) (w : World) :
    Calls Try.prog 15 #[.pointer none, .int .i64 i] w fun e w' => e = .returned (.tuple #[.int .i64 0, .bool false]) ∧ w = w' := by
  by_cases hi : i < 0
  · exact atI_low none i hi w
  · have LN := Lib.hid (lenI_nil w)
    have h0 : 0 ≤ i := by omega
    go_enter Try.func15, Try.ntmps15
    go_wp2_with fail
    refine LN.out.mono ?_
    rintro e w1 ⟨rfl, rfl⟩
    go_wp2_with fail
    go_ret2
    exact ⟨rfl, rfl⟩
/-- What At tells of xs at place i. -/
def atI (xs : List Int) (i : Int) : Int := if 0 ≤ i ∧ i < xs.length then xs.getD i.toNat 0 else 0
def is (n : Nat) (i : Int) : Bool := decide (0 ≤ i) && decide (i < n)
theorem atI_any {n₀ B : Nat} {v : Value} {xs : List Int} {w : World} (h : PI n₀ w B v xs) (i : Int) :
    Calls Try.prog 15 #[.pointer (some ⟨B, 0, none⟩), .int .i64 i] w fun e w' => e = .returned (.tuple #[(Value.int .i64) (atI xs i), .bool (is xs.length i)]) ∧ w = w' := by
  by_cases h0 : i < 0
  · refine (atI_low _ i h0 w).mono fun e w' ⟨he, hw⟩ => ⟨?_, hw⟩
    rw [he, atI, if_neg (by omega), is, decide_eq_false (by omega)]
    rfl
  · by_cases h1 : (xs.length : Int) ≤ i
    · refine (atI_high h i h1).mono fun e w' ⟨he, hw⟩ => ⟨?_, hw⟩
      rw [he, atI, if_neg (by omega), is, decide_eq_true (by omega), decide_eq_false (by omega)]
      rfl
    · obtain ⟨k, rfl⟩ : ∃ k : Nat, i = (k : Int) := ⟨i.toNat, by omega⟩
      refine (atI_hit h k (by omega)).mono fun e w' ⟨he, hw⟩ => ⟨?_, hw⟩
      rw [he, atI, if_pos (by omega), is, decide_eq_true (by omega), decide_eq_true (by omega), Int.toNat_natCast]
      rfl
end Go.Proofs.Ytafklopkjbdlkaa

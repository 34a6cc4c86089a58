/-
  Pile[string]: Len, At, Push, Cut, Pop of a pile in memory, and of a nil one.
-/
import Derived.Test.YtafklopkjbdlkaaPilb
namespace Go.Proofs.Ytafklopkjbdlkaa
open Go.RowKit Go.Lib

theorem infoS : (Try.prog.info? 9).map (fun i => (i.zero, i.size, i.bytes)) = some (some (.string ⟨#[]⟩), 1, 16) := by kernel_rfl
theorem zeroS (w : World) : (zeroValue 9).run Try.prog w = .ok (.string ⟨#[]⟩) w := by kernel_rfl
theorem differS : 28 ≠ 9 := by decide
/-- Block B holds the pile xs. -/
abbrev PS (n₀ : Nat) (w : World) (B : Nat) (v : Value) (xs : List ByteArray) : Prop := Pil n₀ 28 9 w B v (xs.map Value.string)

theorem formsS {n₀ B : Nat} {w : World} {v : Value} {xs : List ByteArray} (h : PS n₀ w B v xs) : ∃ a cap, v = .slice a xs.length cap ∧ xs.length ≤ cap ∧ cap ≤ maxLen := by
  rcases h.forms with ⟨rfl, h0⟩ | ⟨g, cap, rfl, h1, h2⟩
  · have : xs = [] := by simpa using h0
    subst this
    exact ⟨none, 0, rfl, Nat.le_refl _, by simp [maxLen]⟩
  · exact ⟨some ⟨g, 0, none⟩, cap, by simp, by simpa using h1, h2⟩
theorem someS {n₀ B : Nat} {w : World} {v : Value} {xs : List ByteArray} (h : PS n₀ w B v xs) (hx : 0 < xs.length) : ∃ g cap, v = .slice (some ⟨g, 0, none⟩) xs.length cap ∧ xs.length ≤ cap ∧ cap ≤ maxLen ∧ n₀ ≤ g ∧ g ≠ B ∧
    ∀ k, k < xs.length → w.cell? ⟨g, k, none⟩ = some (Value.string (xs.getD k ⟨#[]⟩)) := by
  rcases h.forms with ⟨rfl, h0⟩ | ⟨g, cap, rfl, h1, h2⟩
  · have : xs = [] := by simpa using h0
    subst this
    exact absurd hx (by simp)
  · have hr := h.row
    rw [List.length_map] at hr
    refine ⟨g, cap, by simp, by simpa using h1, h2, (hr.lt g rfl).1, fun e => h.box.not_row differS h.row (by simp [Value.ownBlock, e]), fun k hk => ?_⟩
    rw [hr.cellAt k (by omega), List.getElem?_map, List.getElem?_eq_getElem hk]
    simp [List.getD, List.getElem?_eq_getElem hk]

theorem lenS_any {n₀ B : Nat} {v : Value} {xs : List ByteArray} {w : World} (h : PS n₀ w B v xs) :
    Calls Try.prog 20 #[.pointer (some ⟨B, 0, none⟩)] w fun e w' => e = .returned (.int .i64 (xs.length : Int)) ∧ w = w' := by
  obtain ⟨a, cap, rfl, hc, hm⟩ := formsS h
  have hcell := h.box.cell
  have hl : xs.length ≤ 9223372036854775807 := by simp only [maxLen] at hm; omega
  clear h hm
  go_enter Try.func20, Try.ntmps20
  go_wp2_with fail
  go_ret
  exact ⟨rfl, rfl⟩
theorem lenS_nil (w : World) :
    Calls Try.prog 20 #[.pointer none] w fun e w' => e = .returned (.int .i64 0) ∧ w = w' := by
  go_enter Try.func20, Try.ntmps20
  go_wp2_with fail
  go_ret
  exact ⟨rfl, rfl⟩

/-- At, of the place k. -/
theorem atS_hit {n₀ B : Nat} {v : Value} {xs : List ByteArray} {w : World} (h : PS n₀ w B v xs) (k : Nat) (hk : k < xs.length) :
    Calls Try.prog 17 #[.pointer (some ⟨B, 0, none⟩), .int .i64 (k : Int)] w fun e w' => e = .returned (.tuple #[Value.string (xs.getD k ⟨#[]⟩), .bool true]) ∧ w = w' := by
  have LN := Lib.hid (lenS_any h)
  obtain ⟨g, cap, rfl, hc, hm, hn, hne, hcells⟩ := someS h (by omega)
  have hcell := h.box.cell
  have hck := hcells k hk
  have hl : cap ≤ 9223372036854775807 := by simp only [maxLen] at hm; omega
  clear h hm hcells
  generalize xs.getD k ⟨#[]⟩ = y at *
  go_enter Try.func17, Try.ntmps17
  go_wp2_with fail
  refine LN.out.mono ?_
  rintro e w1 ⟨rfl, rfl⟩
  go_wp2_with fail
  go_ret2
  exact ⟨rfl, rfl⟩
theorem atS_low (p : Option Addr) (i : Int) (hi : i < 0) (w : World) :
    Calls Try.prog 17 #[.pointer p, .int .i64 i] w fun e w' => e = .returned (.tuple #[.string ⟨#[]⟩, .bool false]) ∧ w = w' := by
  go_enter Try.func17, Try.ntmps17
  go_wp2_with fail
  go_ret2
  exact ⟨rfl, rfl⟩
theorem atS_high {n₀ B : Nat} {v : Value} {xs : List ByteArray} {w : World} (h : PS n₀ w B v xs) (i : Int) (hi : (xs.length : Int) ≤ i) :
    Calls Try.prog 17 #[.pointer (some ⟨B, 0, none⟩), .int .i64 i] w fun e w' => e = .returned (.tuple #[.string ⟨#[]⟩, .bool false]) ∧ w = w' := by
  have LN := Lib.hid (lenS_any h)
  have h0 : 0 ≤ i := by omega
  clear h
  generalize xs.length = n at *
  go_enter Try.func17, Try.ntmps17
  go_wp2_with fail
  refine LN.out.mono ?_
  rintro e w1 ⟨rfl, rfl⟩
  go_wp2_with fail
  go_ret2
  exact ⟨rfl, rfl⟩
theorem atS_nil (i : Int) (w : World) :
    Calls Try.prog 17 #[.pointer none, .int .i64 i] w fun e w' => e = .returned (.tuple #[.string ⟨#[]⟩, .bool false]) ∧ w = w' := by
  by_cases hi : i < 0
  · exact atS_low none i hi w
  · have LN := Lib.hid (lenS_nil w)
    have h0 : 0 ≤ i := by omega
    go_enter Try.func17, Try.ntmps17
    go_wp2_with fail
    refine LN.out.mono ?_
    rintro e w1 ⟨rfl, rfl⟩
    go_wp2_with fail
    go_ret2
    exact ⟨rfl, rfl⟩
/-- What At tells of xs at place i. -/
def atS (xs : List ByteArray) (i : Int) : ByteArray := if 0 ≤ i ∧ i < xs.length then xs.getD i.toNat ⟨#[]⟩ else ⟨#[]⟩
theorem atS_any {n₀ B : Nat} {v : Value} {xs : List ByteArray} {w : World} (h : PS n₀ w B v xs) (i : Int) :
    Calls Try.prog 17 #[.pointer (some ⟨B, 0, none⟩), .int .i64 i] w fun e w' => e = .returned (.tuple #[Value.string (atS xs i), .bool (is xs.length i)]) ∧ w = w' := by
  by_cases h0 : i < 0
  · refine (atS_low _ i h0 w).mono fun e w' ⟨he, hw⟩ => ⟨?_, hw⟩
    rw [he, atS, if_neg (by omega), is, decide_eq_false (by omega)]
    rfl
  · by_cases h1 : (xs.length : Int) ≤ i
    · refine (atS_high h i h1).mono fun e w' ⟨he, hw⟩ => ⟨?_, hw⟩
      rw [he, atS, if_neg (by omega), is, decide_eq_true (by omega), decide_eq_false (by omega)]
      rfl
    · obtain ⟨k, rfl⟩ : ∃ k : Nat, i = (k : Int) := ⟨i.toNat, by omega⟩
      refine (atS_hit h k (by omega)).mono fun e w' ⟨he, hw⟩ => ⟨?_, hw⟩
      rw [he, atS, if_pos (by omega), is, decide_eq_true (by omega), decide_eq_true (by omega), Int.toNat_natCast]
      rfl
end Go.Proofs.Ytafklopkjbdlkaa

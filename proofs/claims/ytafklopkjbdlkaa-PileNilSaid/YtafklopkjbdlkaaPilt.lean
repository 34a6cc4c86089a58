/-
  Pile[string]: Push, Cut, Pop of a pile in memory, and of a nil one.
-/
import Derived.Test.YtafklopkjbdlkaaPils
namespace Go.Proofs.Ytafklopkjbdlkaa
open Go.RowKit Go.Lib

set_option maxHeartbeats 800000 in
theorem pushS_any {n₀ B : Nat} {v : Value} {xs : List ByteArray} {w : World} (h : PS n₀ w B v xs) (hn : n₀ ≤ w.heap.size) (hl : xs.length ≤ 1000) (x : ByteArray) :
    Calls Try.prog 7 #[.pointer (some ⟨B, 0, none⟩), Value.string x] w fun e w' => e = .returned (.tuple #[]) ∧ ∃ v', PS n₀ w' B v' (xs ++ [x]) ∧ Moved w w' B v v' := by
  have HP := Lib.hid h
  have hcell := h.box.cell
  have hlt := h.box.lt
  have hrow := h.row
  rw [List.length_map] at hrow
  have hrow' : (w.alloc (.cells #[Value.string x] 9)).ownsRow n₀ 9 1 v xs.length (xs.map Value.string) := hrow.alloc _
  clear h hrow
  obtain ⟨i0, hi, hz0, hz1, hz2⟩ := info_parts infoS
  go_enter Try.func7, Try.ntmps7
  go_wp2_with (at_builtin; refine wpList_append_own_at _ rfl _ _ 26 rfl n₀ 9 i0 (.string ⟨#[]⟩) 1 16 Try.underlying26 hi hz0 hz1 hz2 rfl (by decide) _ _ _ rfl hrow' ⟨w.heap.size, 0, none⟩ 1 1 [Value.string x] rfl rfl (cell_one_new _ _ _) (by simp [Value.oneCell']) (by simp only [maxLen]; omega) (by omega) (by simp; omega) ?_; intro v' w1 hown' hgrow _ hat; obtain ⟨g', cap', rfl⟩ := ownsRow_succ hown'; have HH := Lib.hid (And.intro hown' (And.intro hgrow hat)); have hst := HP.out.stored differS (us := (xs ++ [x]).map Value.string) (v' := .slice (some ⟨g', 0, none⟩) (xs.length + 1) cap') (w1 := w1) (by simpa using hown') ((World.grownBy_alloc w _ _).trans hgrow) (hat.imp id (fun e => ⟨_, e, by simp⟩)); have hc1 := hst.1.cell; have hf1 := hst.1.frozen; have HS := Lib.hid hst.2; clear hst hown' hgrow hat hrow')
  go_end0
  exact ⟨rfl, _, HS.out.1, HS.out.2⟩
theorem pushS_nil (x : ByteArray) (w : World) :
    Calls Try.prog 7 #[.pointer none, Value.string x] w fun e w' => e = .returned (.tuple #[]) ∧ w = w' := by
  go_enter Try.func7, Try.ntmps7
  go_wp2_with fail
  refine bodyPost_ret (results_none rfl _ _ _) rfl ?_
  exact ⟨rfl, rfl⟩

/-- Cut, at a place k that there is. -/
theorem cutS_hit {n₀ B : Nat} {v : Value} {xs : List ByteArray} {w : World} (h : PS n₀ w B v xs) (k : Nat) (hk : k < xs.length) :
    Calls Try.prog 13 #[.pointer (some ⟨B, 0, none⟩), .int .i64 (k : Int)] w fun e w' => e = .returned (.tuple #[]) ∧ ∃ v', PS n₀ w' B v' (xs.take k) ∧ Moved w w' B v v' := by
  have LN := Lib.hid (lenS_any h)
  have HP := Lib.hid h
  have hrow := h.row
  rw [List.length_map] at hrow
  obtain ⟨g, cap, rfl, hc, hm, hn, hne, hcells⟩ := someS h (by omega)
  have hcell := h.box.cell
  have hl : cap ≤ 9223372036854775807 := by simp only [maxLen] at hm; omega
  have hcl : ∀ ty, (Builtin.clear_ #[26] ty #[.slice (some ⟨g, k, none⟩) (xs.length - k) (cap - k)]).run Try.prog w = .ok (.tuple #[]) (w.setCells g k (List.replicate (xs.length - k) (.string ⟨#[]⟩))) :=
    fun ty => Lib.run_clear_slice w 26 9 ty (.string ⟨#[]⟩) Try.underlying26 zeroS rfl rfl g k (xs.length - k) (cap - k) (by omega)
      (fun j hj => by rw [hcells (k + j) (by omega)]; rfl) (fun j hj => hrow.frozenAt (k + j))
  obtain ⟨r1, r2⟩ := row_cut (zs := List.replicate (xs.length - k) (.string ⟨#[]⟩)) hrow (Nat.le_of_lt hk)
  have hst := HP.out.stored differS (us := (xs.take k).map Value.string) (v' := .slice (some ⟨g, 0, none⟩) k cap) (w1 := w.setCells g k (List.replicate (xs.length - k) (.string ⟨#[]⟩))) (by rw [List.map_take, List.length_take, List.length_map, Nat.min_eq_left (by omega)]; exact r1) r2 (.inl rfl)
  have hc1 := hst.1.cell
  have hf1 := hst.1.frozen
  have HS := Lib.hid hst.2
  have e1 : k ≤ cap := by omega
  have e2 : ¬ cap = k := by omega
  clear h hm hcells hrow r1 r2 hst HP
  generalize w.setCells g k (List.replicate (xs.length - k) (.string ⟨#[]⟩)) = w1 at *
  go_enter Try.func13, Try.ntmps13
  go_wp2_with fail
  refine LN.out.mono ?_
  rintro e w2 ⟨rfl, rfl⟩
  go_wp2_with fail
  go_end0
  exact ⟨rfl, _, HS.out.1, HS.out.2⟩
/-- Cut, at a place that there isn't: nothing. -/
theorem cutS_low (p : Option Addr) (i : Int) (hi : i < 0) (w : World) :
    Calls Try.prog 13 #[.pointer p, .int .i64 i] w fun e w' => e = .returned (.tuple #[]) ∧ w = w' := by
  go_enter Try.func13, Try.ntmps13
  go_wp2_with fail
  refine bodyPost_ret (results_none rfl _ _ _) rfl ?_
  exact ⟨rfl, rfl⟩
theorem cutS_high {n₀ B : Nat} {v : Value} {xs : List ByteArray} {w : World} (h : PS n₀ w B v xs) (i : Int) (hi : (xs.length : Int) ≤ i) :
    Calls Try.prog 13 #[.pointer (some ⟨B, 0, none⟩), .int .i64 i] w fun e w' => e = .returned (.tuple #[]) ∧ w = w' := by
  have LN := Lib.hid (lenS_any h)
  have h0 : 0 ≤ i := by omega
  clear h
  generalize xs.length = n at *
  go_enter Try.func13, Try.ntmps13
  go_wp2_with fail
  refine LN.out.mono ?_
  rintro e w1 ⟨rfl, rfl⟩
  go_wp2_with fail
  refine bodyPost_ret (results_none rfl _ _ _) rfl ?_
  exact ⟨rfl, rfl⟩
theorem cutS_nil (i : Int) (w : World) :
    Calls Try.prog 13 #[.pointer none, .int .i64 i] w fun e w' => e = .returned (.tuple #[]) ∧ w = w' := by
  by_cases hi : i < 0
  · exact cutS_low none i hi w
  · have LN := Lib.hid (lenS_nil w)
    have h0 : 0 ≤ i := by omega
    go_enter Try.func13, Try.ntmps13
    go_wp2_with fail
    refine LN.out.mono ?_
    rintro e w1 ⟨rfl, rfl⟩
    go_wp2_with fail
    refine bodyPost_ret (results_none rfl _ _ _) rfl ?_
    exact ⟨rfl, rfl⟩
/-- What Cut leaves of xs. -/
def cutS (xs : List ByteArray) (i : Int) : List ByteArray := if 0 ≤ i then xs.take i.toNat else xs
theorem cutS_any {n₀ B : Nat} {v : Value} {xs : List ByteArray} {w : World} (h : PS n₀ w B v xs) (i : Int) :
    Calls Try.prog 13 #[.pointer (some ⟨B, 0, none⟩), .int .i64 i] w fun e w' => e = .returned (.tuple #[]) ∧ ∃ v', PS n₀ w' B v' (cutS xs i) ∧ Moved w w' B v v' := by
  by_cases h0 : i < 0
  · refine (cutS_low _ i h0 w).mono fun e w' ⟨he, hw⟩ => ⟨he, v, ?_, ?_⟩
    · rw [← hw, cutS, if_neg (by omega)]; exact h
    · rw [← hw]; exact Moved.refl _ _ _
  · by_cases h1 : (xs.length : Int) ≤ i
    · refine (cutS_high h i h1).mono fun e w' ⟨he, hw⟩ => ⟨he, v, ?_, ?_⟩
      · rw [← hw, cutS, if_pos (by omega), List.take_of_length_le (by omega)]; exact h
      · rw [← hw]; exact Moved.refl _ _ _
    · obtain ⟨k, rfl⟩ : ∃ k : Nat, i = (k : Int) := ⟨i.toNat, by omega⟩
      rw [cutS, if_pos (by omega), Int.toNat_natCast]
      exact cutS_hit h k (by omega)

/-- Pop: the last one, and what is left. -/
theorem popS_any {n₀ B : Nat} {v : Value} {xs : List ByteArray} {w : World} (h : PS n₀ w B v xs) :
    Calls Try.prog 11 #[.pointer (some ⟨B, 0, none⟩)] w fun e w' => e = .returned (.tuple #[Value.string (atS xs ((xs.length : Int) - 1)), .bool (is xs.length ((xs.length : Int) - 1))]) ∧
      ∃ v', PS n₀ w' B v' (cutS xs ((xs.length : Int) - 1)) ∧ Moved w w' B v v' := by
  have LN := Lib.hid (lenS_any h)
  have AT := Lib.hid (atS_any h ((xs.length : Int) - 1))
  have CT := Lib.hid (cutS_any h ((xs.length : Int) - 1))
  obtain ⟨a, cap, _, hc, hm⟩ := formsS h
  have hl : xs.length ≤ 9223372036854775807 := by simp only [maxLen] at hm; omega
  clear h hm hc
  generalize atS xs ((xs.length : Int) - 1) = y at *
  generalize is xs.length ((xs.length : Int) - 1) = b at *
  generalize cutS xs ((xs.length : Int) - 1) = zs at *
  generalize xs.length = n at *
  go_enter Try.func11, Try.ntmps11
  go_wp2_with fail
  refine LN.out.mono ?_
  rintro e w1 ⟨rfl, rfl⟩
  go_wp2_with fail
  refine AT.out.mono ?_
  rintro e w1 ⟨rfl, rfl⟩
  go_wp2_with fail
  refine CT.out.mono ?_
  rintro e w1 ⟨rfl, H⟩
  have HH := Lib.hid H
  clear H
  go_wp2_with fail
  go_ret2
  exact ⟨rfl, HH.out⟩
theorem popS_nil (w : World) :
    Calls Try.prog 11 #[.pointer none] w fun e w' => e = .returned (.tuple #[.string ⟨#[]⟩, .bool false]) ∧ w = w' := by
  have LN := Lib.hid (lenS_nil w)
  have AT := Lib.hid (atS_nil (-1) w)
  have CT := Lib.hid (cutS_nil (-1) w)
  go_enter Try.func11, Try.ntmps11
  go_wp2_with fail
  refine LN.out.mono ?_
  rintro e w1 ⟨rfl, rfl⟩
  go_wp2_with fail
  refine AT.out.mono ?_
  rintro e w1 ⟨rfl, rfl⟩
  go_wp2_with fail
  refine CT.out.mono ?_
  rintro e w1 ⟨rfl, rfl⟩
  go_wp2_with fail
  go_ret2
  exact ⟨rfl, rfl⟩
end Go.Proofs.Ytafklopkjbdlkaa

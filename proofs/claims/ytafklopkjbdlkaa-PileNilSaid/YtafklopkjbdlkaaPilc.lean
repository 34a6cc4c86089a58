/-
  Pile[int]: Push, Cut, Pop of a pile in memory, and of a nil one.
-/
import Derived.Test.YtafklopkjbdlkaaPilb
namespace Go.Proofs.Ytafklopkjbdlkaa
open Go.RowKit Go.Lib

set_option maxHeartbeats 800000 in
theorem pushI_any {n₀ B : Nat} {v : Value} {xs : List Int} {w : World} (h : PI n₀ w B v xs) (hn : n₀ ≤ w.heap.size) (hl : xs.length ≤ 1000) (x : Int) :
    Calls Try.prog 6 #[.pointer (some ⟨B, 0, none⟩), (Value.int .i64) x] w fun e w' => e = .returned (.tuple #[]) ∧ ∃ v', PI n₀ w' B v' (xs ++ [x]) ∧ Moved w w' B v v' := by
  have HP := Lib.hid h
  have hcell := h.box.cell
  have hlt := h.box.lt
  have hrow := h.row
  rw [List.length_map] at hrow
  have hrow' : (w.alloc (.cells #[(Value.int .i64) x] 3)).ownsRow n₀ 3 1 v xs.length (xs.map (Value.int .i64)) := hrow.alloc _
  clear h hrow
  obtain ⟨i0, hi, hz0, hz1, hz2⟩ := info_parts infoI
  go_enter Try.func6, Try.ntmps6
  go_wp2_with (at_builtin; refine wpList_append_own_at _ rfl _ _ 23 rfl n₀ 3 i0 (.int .i64 0) 1 8 Try.underlying23 hi hz0 hz1 hz2 rfl (by decide) _ _ _ rfl hrow' ⟨w.heap.size, 0, none⟩ 1 1 [(Value.int .i64) x] rfl rfl (cell_one_new _ _ _) (by simp [Value.oneCell']) (by simp only [maxLen]; omega) (by omega) (by simp; omega) ?_; intro v' w1 hown' hgrow _ hat; obtain ⟨g', cap', rfl⟩ := ownsRow_succ hown'; have HH := Lib.hid (And.intro hown' (And.intro hgrow hat)); have hst := HP.out.stored differI (us := (xs ++ [x]).map (Value.int .i64)) (v' := .slice (some ⟨g', 0, none⟩) (xs.length + 1) cap') (w1 := w1) (by simpa using hown') ((World.grownBy_alloc w _ _).trans hgrow) (hat.imp id (fun e => ⟨_, e, by simp⟩)); have hc1 := hst.1.cell; have hf1 := hst.1.frozen; have HS := Lib.hid hst.2; clear hst hown' hgrow hat hrow')
  go_end0
  exact ⟨rfl, _, HS.out.1, HS.out.2⟩
theorem pushI_nil (x : Int) (w : World) :
    Calls Try.prog 6 #[.pointer none, (Value.int .i64) x] w fun e w' => e = .returned (.tuple #[]) ∧ w = w' := by
  go_enter Try.func6, Try.ntmps6
  go_wp2_with fail
  refine bodyPost_ret (results_none rfl _ _ _) rfl ?_
  exact ⟨rfl, rfl⟩

/-- Cut, at a place k that there is. -/
theorem cutI_hit {n₀ B : Nat} {v : Value} {xs : List Int} {w : World} (h : PI n₀ w B v xs) (k : Nat) (hk : k < xs.length) :
    Calls Try.prog 12 #[.pointer (some ⟨B, 0, none⟩), .int .i64 (k : Int)] w fun e w' => e = .returned (.tuple #[]) ∧ ∃ v', PI n₀ w' B v' (xs.take k) ∧ Moved w w' B v v' := by
  have LN := Lib.hid (lenI_any h)
  have HP := Lib.hid h
  have hrow := h.row
  rw [List.length_map] at hrow
  obtain ⟨g, cap, rfl, hc, hm, hn, hne, hcells⟩ := someI h (by omega)
  have hcell := h.box.cell
  have hl : cap ≤ 9223372036854775807 := by simp only [maxLen] at hm; omega
  have hcl : ∀ ty, (Builtin.clear_ #[23] ty #[.slice (some ⟨g, k, none⟩) (xs.length - k) (cap - k)]).run Try.prog w = .ok (.tuple #[]) (w.setCells g k (List.replicate (xs.length - k) (.int .i64 0))) :=
    fun ty => Lib.run_clear_slice w 23 3 ty (.int .i64 0) Try.underlying23 zeroI rfl rfl g k (xs.length - k) (cap - k) (by omega)
      (fun j hj => by rw [hcells (k + j) (by omega)]; rfl) (fun j hj => hrow.frozenAt (k + j))
  obtain ⟨r1, r2⟩ := row_cut (zs := List.replicate (xs.length - k) (.int .i64 0)) hrow (Nat.le_of_lt hk)
  have hst := HP.out.stored differI (us := (xs.take k).map (Value.int .i64)) (v' := .slice (some ⟨g, 0, none⟩) k cap) (w1 := w.setCells g k (List.replicate (xs.length - k) (.int .i64 0))) (by rw [List.map_take, List.length_take, List.length_map, Nat.min_eq_left (by omega)]; exact r1) r2 (.inl rfl)
  have hc1 := hst.1.cell
  have hf1 := hst.1.frozen
  have HS := Lib.hid hst.2
  have e1 : k ≤ cap := by omega
  have e2 : ¬ cap = k := by omega
  clear h hm hcells hrow r1 r2 hst HP
  generalize w.setCells g k (List.replicate (xs.length - k) (.int .i64 0)) = w1 at *
  go_enter Try.func12, Try.ntmps12
  go_wp2_with fail
  refine LN.out.mono ?_
  rintro e w2 ⟨rfl, rfl⟩
  go_wp2_with fail
  go_end0
  exact ⟨rfl, _, HS.out.1, HS.out.2⟩
/-- Cut, at a place that there isn't: nothing. -/
theorem cutI_low (p : Option Addr) (i : Int) (hi : i < 0) (w : World) :
    Calls Try.prog 12 #[.pointer p, .int .i64 i] w fun e w' => e = .returned (.tuple #[]) ∧ w = w' := by
  go_enter Try.func12, Try.ntmps12
  go_wp2_with fail
  refine bodyPost_ret (results_none rfl _ _ _) rfl ?_
  exact ⟨rfl, rfl⟩
theorem cutI_high {n₀ B : Nat} {v : Value} {xs : List Int} {w : World} (h : PI n₀ w B v xs) (i : Int) (hi : (xs.length : Int) ≤ i) :
    Calls Try.prog 12 #[.pointer (some ⟨B, 0, none⟩), .int .i64 i] w fun e w' => e = .returned (.tuple #[]) ∧ w = w' := by
  have LN := Lib.hid (lenI_any h)
  have h0 : 0 ≤ i := by omega
  clear h
  generalize xs.length = n at *
  go_enter Try.func12, Try.ntmps12
  go_wp2_with fail
  refine LN.out.mono ?_
  rintro e w1 ⟨rfl, rfl⟩
  go_wp2_with fail
  refine bodyPost_ret (results_none rfl _ _ _) rfl ?_
  exact ⟨rfl, rfl⟩
theorem cutI_nil (i : Int) (w : World) :
    Calls Try.prog 12 #[.pointer none, .int .i64 i] w fun e w' => e = .returned (.tuple #[]) ∧ w = w' := by
  by_cases hi : i < 0
  · exact cutI_low none i hi w
  · have LN := Lib.hid (lenI_nil w)
    have h0 : 0 ≤ i := by omega
    go_enter Try.func12, Try.ntmps12
    go_wp2_with fail
    refine LN.out.mono ?_
    rintro e w1 ⟨rfl, rfl⟩
    go_wp2_with fail
    refine bodyPost_ret (results_none rfl _ _ _) rfl ?_
    exact ⟨rfl, rfl⟩
/-- What Cut leaves of xs. -/
def cutI (xs : List Int) (i : Int) : List Int := if 0 ≤ i then xs.take i.toNat else xs
theorem cutI_any {n₀ B : Nat} {v : Value} {xs : List Int} {w : World} (h : PI n₀ w B v xs) (i : Int) :
    Calls Try.prog 12 #[.pointer (some ⟨B, 0, none⟩), .int .i64 i] w fun e w' => e = .returned (.tuple #[]) ∧ ∃ v', PI n₀ w' B v' (cutI xs i) ∧ Moved w w' B v v' := by
  by_cases h0 : i < 0
  · refine (cutI_low _ i h0 w).mono fun e w' ⟨he, hw⟩ => ⟨he, v, ?_, ?_⟩
    · rw [← hw, cutI, if_neg (by omega)]; exact h
    · rw [← hw]; exact Moved.refl _ _ _
  · by_cases h1 : (xs.length : Int) ≤ i
    · refine (cutI_high h i h1).mono fun e w' ⟨he, hw⟩ => ⟨he, v, ?_, ?_⟩
      · rw [← hw, cutI, if_pos (by omega), List.take_of_length_le (by omega)]; exact h
      · rw [← hw]; exact Moved.refl _ _ _
    · obtain ⟨k, rfl⟩ : ∃ k : Nat, i = (k : Int) := ⟨i.toNat, by omega⟩
      rw [cutI, if_pos (by omega), Int.toNat_natCast]
      exact cutI_hit h k (by omega)

/-- Pop: the last one, and what is left. -/
theorem popI_any {n₀ B : Nat} {v : Value} {xs : List Int} {w : World} (h : PI n₀ w B v xs) :
    Calls Try.prog 9 #[.pointer (some ⟨B, 0, none⟩)] w fun e w' => e = .returned (.tuple #[(Value.int .i64) (atI xs ((xs.length : Int) - 1)), .bool (is xs.length ((xs.length : Int) - 1))]) ∧
      ∃ v', PI n₀ w' B v' (cutI xs ((xs.length : Int) - 1)) ∧ Moved w w' B v v' := by
  have LN := Lib.hid (lenI_any h)
  have AT := Lib.hid (atI_any h ((xs.length : Int) - 1))
  have CT := Lib.hid (cutI_any h ((xs.length : Int) - 1))
  obtain ⟨a, cap, _, hc, hm⟩ := formsI h
  have hl : xs.length ≤ 9223372036854775807 := by simp only [maxLen] at hm; omega
  clear h hm hc
  generalize atI xs ((xs.length : Int) - 1) = y at *
  generalize is xs.length ((xs.length : Int) - 1) = b at *
  generalize cutI xs ((xs.length : Int) - 1) = zs at *
  generalize xs.length = n at *
  go_enter Try.func9, Try.ntmps9
  go_wp2_with fail
  refine LN.out.mono ?_
  rintro e w1 ⟨rfl, rfl⟩
  go_wp2_with fail
  refine AT.out.mono ?_
  rintro e w1 ⟨rfl, rfl⟩
  go_wp2_with fail
  refine CT.out.mono ?_
  rintro e w1 ⟨rfl, H⟩
  have HH := Lib.hid H
  clear H
  go_wp2_with fail
  go_ret2
  exact ⟨rfl, HH.out⟩
theorem popI_nil (w : World) :
    Calls Try.prog 9 #[.pointer none] w fun e w' => e = .returned (.tuple #[.int .i64 0, .bool false]) ∧ w = w' := by
  have LN := Lib.hid (lenI_nil w)
  have AT := Lib.hid (atI_nil (-1) w)
  have CT := Lib.hid (cutI_nil (-1) w)
  go_enter Try.func9, Try.ntmps9
  go_wp2_with fail
  refine LN.out.mono ?_
  rintro e w1 ⟨rfl, rfl⟩
  go_wp2_with fail
  refine AT.out.mono ?_
  rintro e w1 ⟨rfl, rfl⟩
  go_wp2_with fail
  refine CT.out.mono ?_
  rintro e w1 ⟨rfl, rfl⟩
  go_wp2_with fail
  go_ret2
  exact ⟨rfl, rfl⟩
end Go.Proofs.Ytafklopkjbdlkaa

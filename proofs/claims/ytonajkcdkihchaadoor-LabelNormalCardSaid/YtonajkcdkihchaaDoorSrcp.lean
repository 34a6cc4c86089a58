/-
  Blanks, as layer 3 asks for them.
-/
import Derived.Test.YtonajkcdkihchaaDoorSrct
import Derived.Test.YtonajkcdkihchaaDoorWlk
namespace Go.Proofs.YtonajkcdkihchaaDoor
open Go.RowKit Go.Lib

def bl (r : Int) : Bool := decide (r = 32) || decide (r = 9)
theorem bl_of {l : List UInt8} {pos n : Nat} {r : Int} (h : Step l pos r n) : (bl r = true ∧ ∃ b, (l.drop pos).take n = [b] ∧ isB b = true) ∨ (bl r = false ∧ ∃ b ∈ (l.drop pos).take n, isB b = false) := by
  rcases h.kind with ⟨rfl, h2, b, h3, h4⟩ | ⟨h2, h3⟩
  · have e : bl r = isB b := by
      unfold bl isB
      rw [← h4]
      congr 1 <;> (rw [Bool.eq_iff_iff]; simp only [decide_eq_true_eq]; omega)
    cases hb : isB b with
    | true => exact .inl ⟨e.trans hb, b, h3, hb⟩
    | false => exact .inr ⟨e.trans hb, b, by rw [h3]; simp, hb⟩
  · refine .inr ⟨?_, ?_⟩
    · unfold bl; rw [decide_eq_false (by omega), decide_eq_false (by omega)]; rfl
    · have hlen : ((l.drop pos).take n).length = n := by rw [List.length_take, List.length_drop]; have := h.room; omega
      have h1 := h.one
      cases hc : (l.drop pos).take n with
      | nil => rw [hc] at hlen; simp at hlen; omega
      | cons b t => exact ⟨b, List.mem_cons_self .., isB_big (h3 b (by rw [hc]; exact List.mem_cons_self ..))⟩

theorem isBlank_yes (r : Int) (w : World) (h : bl r = true) :
    Calls Tryd.prog 25 #[.int .i32 r] w fun e w' => e = .returned (.bool true) ∧ w = w' := by
  unfold bl at h
  by_cases c : r = 32
  · subst c
    clear h
    go_enter Tryd.func25, Tryd.ntmps25
    go_wp2
    go_ret
    exact ⟨rfl, rfl⟩
  · have c2 : r = 9 := by simpa [c] using h
    subst c2
    clear h c
    go_enter Tryd.func25, Tryd.ntmps25
    go_wp2
    go_ret
    exact ⟨rfl, rfl⟩
theorem isBlank_no (r : Int) (w : World) (h : bl r = false) :
    Calls Tryd.prog 25 #[.int .i32 r] w fun e w' => e = .returned (.bool false) ∧ w = w' := by
  have c1 : (r == 32) = false := by
    unfold bl at h
    simpa using (Bool.or_eq_false_iff.1 h).1
  have c2 : (r == 9) = false := by
    unfold bl at h
    simpa using (Bool.or_eq_false_iff.1 h).2
  clear h
  go_enter Tryd.func25, Tryd.ntmps25
  go_wp2
  go_ret
  exact ⟨rfl, rfl⟩
end Go.Proofs.YtonajkcdkihchaaDoor

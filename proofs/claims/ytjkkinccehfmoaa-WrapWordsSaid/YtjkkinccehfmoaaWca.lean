/-
  Contracts of the package wrap: measure's with and less, lean.
-/
import Derived.Test.YtjkkinccehfmoaaWpb
import Derived.Test.YtjkkinccehfmoaaIsat
import Derived.Test.YtjkkinccehfmoaaHld
import Derived.Test.YtjkkinccehfmoaaBltw
import Derived.Test.YtjkkinccehfmoaaBeq
namespace Go.Proofs.Ytjkkinccehfmoaa
open Go.RowKit Go.Lib Go.Maps

def meV (m : Me) : Value := .agg #[.int .i64 m.w, .int .i64 m.g, .int .i64 m.s]
/-- Far from overflowing. -/
def meB (m : Me) : Prop := (-1152921504606846976 ≤ m.w ∧ m.w ≤ 1152921504606846976) ∧ (-1152921504606846976 ≤ m.g ∧ m.g ≤ 1152921504606846976) ∧ (-1152921504606846976 ≤ m.s ∧ m.s ≤ 1152921504606846976)
set_option maxRecDepth 100000 in
set_option maxHeartbeats 4000000 in
theorem with_any (m : Me) (x : It) (g o : Nat) (W : World) (hr : W.rangeAt g o (itC x)) (hm : meB m) (hx : itW x) :
    Calls Try.prog 19 #[meV m, .pointer (some ⟨g, o, none⟩)] W fun e w' => e = .returned (meV (meAdd m x)) ∧ Keeps W w' := by
  have lt := range_lt hr (by rw [itC_len]; decide)
  have y0 : W.cell? ⟨g, o, none⟩ = some (.int .i64 x.kind) := hr 0 _ rfl
  have y1 : W.cell? ⟨g, o + 1, none⟩ = some (.int .i64 x.width) := hr 1 _ rfl
  have y2 : W.cell? ⟨g, o + 2, none⟩ = some (.int .i64 x.grow) := hr 2 _ rfl
  have y3 : W.cell? ⟨g, o + 3, none⟩ = some (.int .i64 x.shrink) := hr 3 _ rfl
  obtain ⟨⟨m1, m2⟩, ⟨m3, m4⟩, m5, m6⟩ := hm
  obtain ⟨⟨x1, x2⟩, ⟨x3, x4⟩, x5, x6⟩ := hx
  obtain ⟨mw, mg, ms⟩ := m
  obtain ⟨k, w, gr, s, c, cs, f, sz, lk⟩ := x
  clear hr
  simp only at *
  unfold meV meAdd
  by_cases hk : k = 3
  · subst hk
    rw [if_pos rfl]
    simp only
    go_enter Try.func19, Try.ntmps19
    go_wp2_with fail
    exact ret_blk rfl rfl rfl (blk_two _ _ _ _) Try.underlying47 (by kernel_rfl) ⟨rfl, keeps_two _ _ _⟩
  · have t : (k == 3) = false := beqF hk
    rw [if_neg hk]
    simp only
    go_enter Try.func19, Try.ntmps19
    have bs := (Blk.new W 47 #[.int .i64 mw, .int .i64 mg, .int .i64 ms]).alloc (.cells #[.int .i64 0, .int .i64 0, .int .i64 0] 47)
    go_wp2_with fail
    go_region
    go_wp2_with fail
    exact ret_blk rfl rfl rfl (blk_two _ _ _ _).drew Try.underlying47 (by kernel_rfl) ⟨rfl, (keeps_two _ _ _).drew⟩
set_option maxRecDepth 100000 in
set_option maxHeartbeats 4000000 in
theorem mless_any (a b : Me) (W : World) (ha : meB a) (hb : meB b) :
    Calls Try.prog 32 #[meV a, meV b] W fun e w' => e = .returned (meV (meSub a b)) ∧ Keeps W w' := by
  obtain ⟨⟨a1, a2⟩, ⟨a3, a4⟩, a5, a6⟩ := ha
  obtain ⟨⟨b1, b2⟩, ⟨b3, b4⟩, b5, b6⟩ := hb
  obtain ⟨aw, ag, az⟩ := a
  obtain ⟨bw, bg, bz⟩ := b
  simp only at *
  unfold meV meSub
  simp only
  go_enter Try.func32, Try.ntmps32
  go_wp2_with fail
  exact ret_blk rfl rfl rfl (blk_three _ _ _ _ _) Try.underlying47 (by kernel_rfl) ⟨rfl, (keeps_two _ _ _).alloc _⟩
set_option maxRecDepth 100000 in
set_option maxHeartbeats 4000000 in
theorem lean_any (x : It) (g o : Nat) (W : World) (hr : W.rangeAt g o (itC x)) (hx : itW x) :
    Calls Try.prog 20 #[.pointer (some ⟨g, o, none⟩)] W fun e w' => e = .returned (.int .i64 (lnI x)) ∧ Keeps W w' := by
  have lt := range_lt hr (by rw [itC_len]; decide)
  have y0 : W.cell? ⟨g, o, none⟩ = some (.int .i64 x.kind) := hr 0 _ rfl
  have y1 : W.cell? ⟨g, o + 1, none⟩ = some (.int .i64 x.width) := hr 1 _ rfl
  have y3 : W.cell? ⟨g, o + 3, none⟩ = some (.int .i64 x.shrink) := hr 3 _ rfl
  obtain ⟨⟨x1, x2⟩, ⟨x3, x4⟩, x5, x6⟩ := hx
  obtain ⟨k, w, gr, s, c, cs, f, sz, lk⟩ := x
  clear hr
  simp only at *
  unfold lnI
  by_cases hk : k = 3
  · subst hk
    rw [if_pos rfl]
    go_enter Try.func20, Try.ntmps20
    go_wp2_with fail
    go_ret
    exact ⟨rfl, Keeps.refl _⟩
  · have t : (k == 3) = false := beqF hk
    rw [if_neg hk]
    simp only
    obtain ⟨z, hz, hm, z0, z1⟩ : ∃ z, (if s < 0 then (0 : Int) else s) = z ∧ max s 0 = z ∧ 0 ≤ z ∧ z ≤ 1099511627776 := ⟨_, rfl, by omega, by omega, by omega⟩
    rw [hm]
    clear hm
    go_enter Try.func20, Try.ntmps20
    go_wp2_with fail
    go_region
    go_wp2_with fail
    go_ret
    exact ⟨rfl, (Keeps.refl _).drew⟩
end Go.Proofs.Ytjkkinccehfmoaa

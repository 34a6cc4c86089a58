/-
  List: all that a pile has, from the bottom on, in a new list.
-/
import Derived.Test.YtafklopkjbdlkaaPit
namespace Go.Proofs.Ytafklopkjbdlkaa
open Go.RowKit Go.Lib Go.Shelf

attribute [local go_sem] Oper.semAt_some

/-- From the bottom on, with the places. -/
def fwd (xs : List Int) (k : Nat) : List (Nat × Int) := upto (fun j => (j, xs[j]?.getD 0)) k
theorem fwd_all (xs : List Int) (k : Nat) (hk : k ≤ xs.length) : (fwd xs k).map (·.2) = xs.take k := by
  apply List.ext_getElem
  · simp [fwd, upto, hk]
  · intro i h1 h2
    have : i < xs.length := by simp [fwd, upto] at h1; omega
    simp [fwd, upto, this]

set_option maxRecDepth 100000 in
set_option maxHeartbeats 2000000 in
theorem list_in (n : Nat) (hn : 3 ≤ n) (p : Option Addr) (xs : List Int) (hl : xs.length ≤ 1000) (w : World) (hL : Lie w.heap.size w p xs) :
    CallsIn Fence.wide n Try.prog 24 #[.pointer p] w fun e W' => ∃ v, e = .returned v ∧ W'.ownsRow w.heap.size 3 1 v xs.length (xs.map (Value.int .i64)) ∧ Below w.heap.size w W' := by
  have h1 : 1 ≤ n := by omega
  have LN := Lib.hid (len_lie hL)
  have AI := Lib.hid (fun W => all_in (n - 1) p W)
  obtain ⟨i0, hi, hz0, hz1, hz2⟩ := info_parts infoI
  refine callsIn_of_wp_marks Try.func24 rfl trivial ?_ rfl
  simp only [Try.ntmps24, List.size_toArray, List.length_cons, List.length_nil, Nat.reduceAdd, Nat.reduceSub, Array.replicate_succ, Array.replicate_zero, List.push_toArray, List.append_toArray, List.nil_append, List.cons_append]
  gi_wp2_with fail
  refine ⟨trivial, (callsIn_wide.2 LN.out).mono ?_⟩
  rintro e w1 ⟨rfl, rfl⟩
  gi_wp2_with (gi_at_make; refine wpListIn_make_own _ rfl _ _ 23 rfl w.heap.size 3 i0 (.int .i64 0) 1 Try.underlying23 hi hz0 hz1 .i64 .i64 (xs.length : Int) xs.length rfl rfl rfl (by rw [hz2]; omega) (by simp only [maxLen]; omega) (Nat.le_refl _) ?_; intro w1 hown0 hg0)
  refine ⟨trivial, (AI.out _).mono ?_⟩
  rintro e w2 ⟨rfl, rfl⟩
  gi_wp2_with fail
  have hB1 : Below w.heap.size w w1 := (Below.refl _ w).grown hg0 (Nat.le_refl _) (fun k e => by cases e)
  have hs1 := hB1.size
  have bO := Boxed.new w1 23 (.slice (some ⟨w.heap.size, 0, none⟩) 0 xs.length)
  have bN := Boxed.new (w1.alloc (.cells #[.slice (some ⟨w.heap.size, 0, none⟩) 0 xs.length] 23)) 47 (.pointer p)
  rw [World.size_alloc] at bN
  have hB0 : Below w.heap.size w ((w1.alloc (.cells #[.slice (some ⟨w.heap.size, 0, none⟩) 0 xs.length] 23)).alloc (.cells #[.pointer p] 47)) := (hB1.alloc hs1 _).alloc (by simp; omega) _
  refine wpIn_rangeFunc_ownG rfl h1 (gf := 27) (lb := #[.pointer (some ⟨w1.heap.size + 1, 0, none⟩)]) rfl trivial (enters_of Try.func27 (by kernel_rfl) rfl)
    (all_stops (n - 1) (by omega) (w1.heap.size + 1) w.heap.size p xs hl _ (by simp) (by simp; omega) bN.cell (hL.below hB0)) (fun h k => Kept.trans h k) (kept_b (by simp; omega) (by simp)) (Below.refl _ _) (fun _ => rfl)
    (fun pre W => (∃ v, Boxed W w1.heap.size 23 v ∧ W.ownsRow w.heap.size 3 1 v pre.length (pre.map (fun x => Value.int .i64 x.2)) ∧ True) ∧ (Boxed W (w1.heap.size + 1) 47 (.pointer p) ∧ Below w.heap.size w W))
    (fun _ _ _ => False)
    (OwnFrom.and (Own.from (holdsRow_own w.heap.size w1.heap.size 23 3 1 (fun pre : List (Nat × Int) => pre.length) (fun pre => pre.map (fun x => Value.int .i64 x.2)) (fun _ _ => True)) _) (OwnFrom.and (Own.from (boxed_own (w1.heap.size + 1) 47 (fun _ => .pointer p)) _) (ownFrom_below (Nat.le_refl _) (by simp; omega))))
    (fun _ _ _ _ _ hs _ _ => hs)
    ⟨⟨_, bO.alloc _, (hown0.alloc _).alloc _, trivial⟩, bN, hB0⟩
    (fun x => { tmps := #[.pointer p, undef, .slice none 0 0, .pointer (some ⟨w1.heap.size, 0, none⟩), undef, .int .i64 x.2, .pointer p, .int .i64 (xs.length : Int), .slice (some ⟨w.heap.size, 0, none⟩) 0 xs.length, .pointer p, .func (.func 27) #[] #[.pointer (some ⟨w1.heap.size + 1, 0, none⟩)], .int .i64 (x.1 : Int), .int .i64 x.2, undef, undef, undef, undef, undef], defers := [] }) ?assign ?body ?done ?stop
  case assign =>
    intro l x W K hK
    gi_wp2
    exact hK
  case body =>
    rintro l pre x W ⟨⟨v, hv, hrow, _⟩, hN, hB⟩ hlt
    have hc := hv.cell
    gi_wp2_with (gi_at_builtin; refine wpListIn_append_own _ rfl _ _ 23 rfl w.heap.size 3 i0 (.int .i64 0) 1 8 Try.underlying23 hi hz0 hz1 hz2 rfl (by decide) _ _ _ rfl (hrow.alloc _) ⟨W.heap.size, 0, none⟩ 1 1 [.int .i64 x.2] rfl rfl (cell_one_new _ _ _) (by simp [Value.oneCell']) (by simp only [maxLen]; omega) (by omega) (by have := hB.size; simp; omega) ?_; intro v' w2 hown' hgrow _; obtain ⟨g', cap', rfl⟩ := ownsRow_succ hown'; have hN1 := ((hN.alloc (.cells #[.int .i64 x.2] 3)).kept hgrow (hN.not_row (by decide) hrow)); obtain ⟨hv1, hv2, hr2, hk2, hb2⟩ := hv.appended (by decide) hrow hB.size hs1 hown' hgrow; have hc1 := hv1.cell; have hf1 := hv1.frozen)
    have hN2 := hN1.other (B' := w1.heap.size) (by omega) (.slice (some ⟨g', 0, none⟩) (pre.length + 1) cap')
    exact ⟨hk2.from _, ⟨hb2, Eq.trans hN2 hN.symm⟩, ⟨_, hv2, by simpa using hr2, trivial⟩, hN2, hB.trans hb2⟩
  case done =>
    rintro D ys W hD rfl ⟨⟨v, hv, hrow, _⟩, hN, hB⟩ hK
    have hc := hv.cell
    gi_wp2
    refine ⟨by simp, .inl ⟨_, _, rfl, run_takeDeferred hK, ?_⟩⟩
    have hall := fwd_all xs xs.length (Nat.le_refl _)
    rw [List.take_length] at hall
    have hm : (upto (fun j => (j, xs[j]?.getD 0)) xs.length).map (fun x : Nat × Int => Value.int .i64 x.2) = xs.map (Value.int .i64) := by
      conv => rhs; rw [← hall]
      rw [List.map_map]; rfl
    rw [upto_length, hm] at hrow
    exact ⟨_, results_tmp rfl _ _ _, v, rfl, ownsRow_putObj hrow _ hK rfl, hB.trans (belowK_b (w := w) (Nat.le_refl _) W D _ _ (by simp at hD; omega) hK rfl rfl)⟩
  case stop =>
    rintro D c pre W _ _ h _
    exact h.elim
end Go.Proofs.Ytafklopkjbdlkaa

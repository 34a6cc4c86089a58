/-
  up, of the statements of layer 2: what a pile tells from the bottom on, or the first of it.
-/
import Derived.Test.YtafklopkjbdlkaaPli
namespace Go.Proofs.Ytafklopkjbdlkaa
open Go.RowKit Go.Lib Go.Shelf

attribute [local go_sem] Oper.semAt_some

/-- The places are 0, 1, 2, .. -/
def good (pre : List (Nat × Int)) : Bool := pre.map (·.1) == List.range pre.length
theorem good_nil : good [] = true := rfl
theorem good_snoc (pre : List (Nat × Int)) (x : Nat × Int) : good (pre ++ [x]) = (good pre && (x.1 == pre.length)) := by
  rw [Bool.eq_iff_iff]
  simp only [good, Bool.and_eq_true, beq_iff_eq, List.map_append, List.map_singleton, List.length_append, List.length_singleton, List.range_succ]
  constructor
  · intro h
    obtain ⟨h1, h2⟩ := List.append_inj' h rfl
    exact ⟨h1, by simpa using h2⟩
  · rintro ⟨h1, h2⟩
    rw [h1, h2]
theorem good_fwd (xs : List Int) (k : Nat) : good (fwd xs k) = true := by
  simp [good, fwd, upto]
  apply List.ext_getElem <;> simp

/-- What lies in up's own boxes: the bound, the list, whether the places were right, the pile's pointer. -/
structure Ups (s : Nat) (most : Nat) (p : Option Addr) (pre : List (Nat × Int)) (g : Bool) (W : World) (v : Value) : Prop where
  hv : Boxed W (s + 1) 23 v
  row : W.ownsRow (s + 1) 3 1 v pre.length (pre.map (fun x => Value.int .i64 x.2))
  hM : Boxed W s 3 (.int .i64 (most : Int))
  hF : Boxed W (s + 1 + 1) 4 (.bool g)
  hN : Boxed W (s + 1 + 1 + 1) 47 (.pointer p)

variable {s most : Nat} {p : Option Addr} {pre : List (Nat × Int)} {g : Bool} {W : World} {v : Value}

theorem Ups.form (h : Ups s most p pre g W v) : ∃ ao cap, v = .slice ao pre.length cap := by
  rcases Go.Joins.ownsRow_forms h.row with ⟨rfl, e⟩ | ⟨g, cap, rfl⟩
  · exact ⟨none, 0, by rw [e]⟩
  · exact ⟨_, cap, rfl⟩
theorem Ups.flag (h : Ups s most p pre g W v) (g2 : Bool) : Ups s most p pre g2 (W.setCell ⟨s + 1 + 1, 0, none⟩ (.bool g2)) v :=
  ⟨h.hv.other (by omega) _, h.row.kept (grownBy_setCell' W (s + 1 + 1) _) (.inr (h.hF.not_row (by decide) h.row).symm), h.hM.other (by omega) _, h.hF.set _, h.hN.other (by omega) _⟩
theorem Ups.grow (h : Ups s most p pre g W v) (hs : s + 1 ≤ W.heap.size) {x : Nat × Int} {w1 : World} {v' : Value} {m : Nat} (hm : m = pre.length + 1)
    (hown : w1.ownsRow (s + 1) 3 1 v' m (pre.map (fun x => Value.int .i64 x.2) ++ [Value.int .i64 x.2])) (hgrow : (W.alloc (.cells #[.int .i64 x.2] 3)).grownBy w1 v.ownBlock) :
    Boxed w1 (s + 1) 23 v ∧ Ups s most p (pre ++ [x]) g (w1.setCell ⟨s + 1, 0, none⟩ v') v' ∧ KeepsOthers W (w1.setCell ⟨s + 1, 0, none⟩ v') ∧ Below (s + 1) W (w1.setCell ⟨s + 1, 0, none⟩ v') := by
  subst hm
  obtain ⟨a1, a2, a3, a4, a5⟩ := h.hv.appended (by decide) h.row hs (Nat.le_refl _) hown hgrow
  refine ⟨a1, ⟨a2, by simpa using a3, ?_, ?_, ?_⟩, a4, a5⟩
  · exact ((h.hM.alloc _).kept hgrow (fun e => by have := (h.row.lt _ e.symm).1; omega)).other (by omega) _
  · exact ((h.hF.alloc _).kept hgrow (h.hF.not_row (by decide) h.row)).other (by omega) _
  · exact ((h.hN.alloc _).kept hgrow (h.hN.not_row (by decide) h.row)).other (by omega) _
theorem ups_own (s most : Nat) (p : Option Addr) (f : List (Nat × Int) → Bool) : Own (fun pre W => ∃ v, Ups s most p pre (f pre) W v) := by
  rintro pre X Y row ⟨v, h⟩ hg hr
  have key : ∀ (B : Nat) (t : TypeId) (u : Value), Boxed X B t u → Boxed Y B t u := fun B t u hb => hb.kept hg (fun e => by
    obtain ⟨o, ho, hc⟩ := hr B e.symm
    rw [show X.heap[B]? = _ from hb] at ho; cases ho; cases hc)
  refine ⟨v, key _ _ _ h.hv, h.row.kept hg ?_, key _ _ _ h.hM, key _ _ _ h.hF, key _ _ _ h.hN⟩
  rcases h.row.2 with ⟨rfl, _⟩ | ⟨g, cap, cur, rfl, _, hgb, _⟩
  · exact .inl rfl
  · refine .inr fun e' => ?_
    obtain ⟨o, ho, hc⟩ := hr g (by simpa [Value.ownBlock] using e'.symm)
    rw [hgb] at ho; cases ho; cases hc

theorem Ups.told {xs : List Int} {k : Nat} (hk : k ≤ xs.length) {m : Nat} {ao : Option Addr} {cap : Nat} (h : Ups s most p (fwd xs k) g W (.slice ao m cap)) : W.ownsRow s 3 1 (.slice ao m cap) k ((xs.take k).map (Value.int .i64)) := by
  have hr := h.row
  have e : (fwd xs k).map (fun x : Nat × Int => Value.int .i64 x.2) = (xs.take k).map (Value.int .i64) := by
    rw [← fwd_all xs k hk, List.map_map]; rfl
  have el : (fwd xs k).length = k := upto_length _ _
  rw [e, el] at hr
  exact Go.Joins.ownsRow_le hr (by omega)

set_option maxRecDepth 100000 in
set_option maxHeartbeats 2000000 in
theorem ups_in (n : Nat) (hn : 3 ≤ n) (p : Option Addr) (xs : List Int) (hl : xs.length ≤ 1000) (most : Nat) (hm : 1 ≤ most) (hm2 : most ≤ 1000) (w : World) (hL : Lie w.heap.size w p xs) :
    CallsIn Fence.wide n Try.prog 22 #[.pointer p, .int .i64 (most : Int)] w fun e W' => ∃ v, e = .returned (.tuple #[v, .bool true]) ∧ W'.ownsRow w.heap.size 3 1 v (min xs.length most) ((xs.take most).map (Value.int .i64)) ∧ Below w.heap.size w W' := by
  have h1 : 1 ≤ n := by omega
  have cmp := cmpAll
  have AI := Lib.hid (fun W => all_in (n - 1) p W)
  obtain ⟨i0, hi, hz0, hz1, hz2⟩ := info_parts infoI
  refine callsIn_of_wp_marks Try.func22 rfl trivial ?_ rfl
  simp only [Try.ntmps22, List.size_toArray, List.length_cons, List.length_nil, Nat.reduceAdd, Nat.reduceSub, Array.replicate_succ, Array.replicate_zero, List.push_toArray, List.append_toArray, List.nil_append, List.cons_append]
  gi_wp2_with fail
  refine ⟨trivial, (AI.out _).mono ?_⟩
  rintro e w2 ⟨rfl, rfl⟩
  gi_wp2_with fail
  have st : Ups w.heap.size most p [] true ((((w.alloc (.cells #[.int .i64 (most : Int)] 3)).alloc (.cells #[.slice none 0 0] 23)).alloc (.cells #[.bool true] 4)).alloc (.cells #[.pointer p] 47)) (.slice none 0 0) := by
    refine ⟨?_, World.ownsRow_nil _ _ _ _, (((Boxed.new w _ _).alloc _).alloc _).alloc _, ?_, ?_⟩
    · have := ((Boxed.new (w.alloc (.cells #[.int .i64 (most : Int)] 3)) 23 (.slice none 0 0)).alloc (.cells #[.bool true] 4)).alloc (.cells #[.pointer p] 47)
      rwa [World.size_alloc] at this
    · have := (Boxed.new ((w.alloc (.cells #[.int .i64 (most : Int)] 3)).alloc (.cells #[.slice none 0 0] 23)) 4 (.bool true)).alloc (.cells #[.pointer p] 47)
      rwa [World.size_alloc, World.size_alloc] at this
    · have := Boxed.new (((w.alloc (.cells #[.int .i64 (most : Int)] 3)).alloc (.cells #[.slice none 0 0] 23)).alloc (.cells #[.bool true] 4)) 47 (.pointer p)
      rwa [World.size_alloc, World.size_alloc, World.size_alloc] at this
  have hB0 : Below w.heap.size w ((((w.alloc (.cells #[.int .i64 (most : Int)] 3)).alloc (.cells #[.slice none 0 0] 23)).alloc (.cells #[.bool true] 4)).alloc (.cells #[.pointer p] 47)) := ((((Below.refl _ w).alloc (Nat.le_refl _) _).alloc (by simp) _).alloc (by simp; omega) _).alloc (by simp; omega) _
  refine wpIn_rangeFunc_ownG rfl h1 (gf := 27) (lb := #[.pointer (some ⟨w.heap.size + 1 + 1 + 1, 0, none⟩)]) rfl trivial (enters_of Try.func27 (by kernel_rfl) rfl)
    (all_stops (n - 1) (by omega) (w.heap.size + 1 + 1 + 1) w.heap.size p xs hl _ (by simp) (by simp; omega) st.hN.cell (hL.below hB0)) (fun h k => Kept.trans h k) (kept_b (by simp; omega) (by simp)) (Below.refl _ _) (fun _ => rfl)
    (fun pre W => (∃ v, Ups w.heap.size most p pre (good pre) W v) ∧ (Below w.heap.size w W ∧ (w.heap.size + 1 ≤ W.heap.size ∧ pre.length < most)))
    (fun c pre W => (∃ v, Ups w.heap.size most p pre (good pre) W v) ∧ (Below w.heap.size w W ∧ (c = .exit 0 ∧ pre.length = most)))
    (OwnFrom.and (Own.from (ups_own w.heap.size most p good) _) (OwnFrom.and (ownFrom_below (Nat.le_refl _) (by simp; omega)) (fun pre X Y row hs hg _ => ⟨Nat.le_trans hs.1 hg.size, hs.2⟩)))
    (fun c => OwnFrom.and (Own.from (ups_own w.heap.size most p good) _) (OwnFrom.and (ownFrom_below (Nat.le_refl _) (by simp; omega)) (fun pre X Y row hs hg _ => hs)))
    ⟨⟨_, st⟩, hB0, by simp <;> omega, by simp <;> omega⟩
    (fun x => { tmps := #[.pointer p, .int .i64 (most : Int), undef, .pointer (some ⟨w.heap.size, 0, none⟩), .slice none 0 0, .bool false, .pointer (some ⟨w.heap.size + 1, 0, none⟩), .pointer (some ⟨w.heap.size + 1 + 1, 0, none⟩), .func (.func 27) #[] #[.pointer (some ⟨w.heap.size + 1 + 1 + 1, 0, none⟩)], .int .i64 (x.1 : Int), .int .i64 x.2, .pointer p,
        .func (.func 27) #[] #[.pointer (some ⟨w.heap.size + 1 + 1 + 1, 0, none⟩)], .func (.func 27) #[] #[.pointer (some ⟨w.heap.size + 1 + 1 + 1, 0, none⟩)], .bool false, .func (.func 27) #[] #[.pointer (some ⟨w.heap.size + 1 + 1 + 1, 0, none⟩)], .int .i64 (x.1 : Int), .int .i64 x.2,
        undef, undef, undef, undef, undef, undef, undef, undef, undef, undef, undef, undef, undef, undef, undef, undef, undef], defers := [] }) ?assign ?body ?done ?stop
  case assign =>
    intro l x W K hK
    gi_wp2
    exact hK
  case body =>
    rintro l pre x W ⟨⟨v, hu⟩, hB, hs, hlm⟩ hlt
    obtain ⟨ao, cap, rfl⟩ := hu.form
    have gs := good_snoc pre x
    generalize hgb : good pre = b at *
    generalize hgx : (x.1 == pre.length) = c at *
    have tz : ((x.1 : Int) == (pre.length : Int)) = c := by
      rw [← hgx, Bool.eq_iff_iff, beq_iff_eq, beq_iff_eq]
      omega
    generalize hg2 : (b && c) = g2 at *
    have HG := Lib.hid gs
    have hu1 := hu.flag g2
    have c1 := cell_one_new (W.setCell ⟨w.heap.size + 1 + 1, 0, none⟩ (.bool g2)) (.int .i64 x.2) 3
    have hsz : (W.setCell ⟨w.heap.size + 1 + 1, 0, none⟩ (.bool g2)).heap.size = W.heap.size := by simp [World.setCell]
    rw [hsz] at c1
    have hcF := hu.hF.cell
    have hfF := hu.hF.frozen
    have hcv := hu.hv.cell
    have HU := Lib.hid hu
    have hcv1 := hu1.hv.cell
    have hcm1 := hu1.hM.cell
    have hrow1 := hu1.row.alloc (.cells #[.int .i64 x.2] 3)
    have HU1 := Lib.hid hu1
    clear hu hu1 gs hgx hgb
    have fin : ∀ (w2 : World) (u : Value), Below (w.heap.size + 1) (W.setCell ⟨w.heap.size + 1 + 1, 0, none⟩ (.bool g2)) (w2.setCell ⟨w.heap.size + 1, 0, none⟩ u) → Below w.heap.size W (w2.setCell ⟨w.heap.size + 1, 0, none⟩ u) := fun _ _ h =>
      ((Below.refl w.heap.size W).setCell (p := ⟨w.heap.size + 1 + 1, 0, none⟩) (by show _ ≤ w.heap.size + 1 + 1; omega) (.bool g2)).trans (h.mono (by omega))
    have FI := Lib.hid fin
    clear fin
    have AP : ∀ (ops : Array Oper) (rest : List Oper) (o : Oper) (a : Act) (Q : Exit → Act → World → Prop) (m : Nat) (F : Fence), o.guard = none → ∀ (s x' : Operand), o.op = Op.call { callee := Callee.builtin Builtin.append, args := #[s, x'], argTypes := #[23, 23] } →
        a.eval s = .slice ao pre.length cap → a.eval x' = .slice (some ⟨W.heap.size, 0, none⟩) 1 1 →
        (∀ g' cap' w2, Ups w.heap.size most p (pre ++ [x]) g2 (w2.setCell ⟨w.heap.size + 1, 0, none⟩ (.slice (some ⟨g', 0, none⟩) (pre.length + 1) cap')) (.slice (some ⟨g', 0, none⟩) (pre.length + 1) cap') →
          Boxed w2 (w.heap.size + 1) 23 (.slice ao pre.length cap) → KeepsOthers (W.setCell ⟨w.heap.size + 1 + 1, 0, none⟩ (.bool g2)) (w2.setCell ⟨w.heap.size + 1, 0, none⟩ (.slice (some ⟨g', 0, none⟩) (pre.length + 1) cap')) →
          Below (w.heap.size + 1) (W.setCell ⟨w.heap.size + 1 + 1, 0, none⟩ (.bool g2)) (w2.setCell ⟨w.heap.size + 1, 0, none⟩ (.slice (some ⟨g', 0, none⟩) (pre.length + 1) cap')) → wpListIn F m Try.prog ops Q rest (a.put o.dst (.slice (some ⟨g', 0, none⟩) (pre.length + 1) cap')) w2) →
        wpListIn F m Try.prog ops Q (o :: rest) a ((W.setCell ⟨w.heap.size + 1 + 1, 0, none⟩ (.bool g2)).alloc (.cells #[.int .i64 x.2] 3)) := by
      intro ops rest o a Q m F hg s x' hop hs1 hx1 hK
      refine wpListIn_append_own _ hg s x' 23 hop (w.heap.size + 1) 3 i0 (.int .i64 0) 1 8 Try.underlying23 hi hz0 hz1 hz2 rfl (by decide) _ _ _ hs1 hrow1 ⟨W.heap.size, 0, none⟩ 1 1 [.int .i64 x.2] hx1 rfl c1 (by simp [Value.oneCell']) (by simp only [maxLen]; omega) (by omega) (by simp; omega) ?_
      intro v' w2 hown' hgrow _
      obtain ⟨g', cap', rfl⟩ := ownsRow_succ hown'
      obtain ⟨q1, q2, q3, q4⟩ := HU1.out.grow (by rw [hsz]; exact hs) rfl hown' hgrow
      exact hK g' cap' w2 q2 q1 q3 q4
    have APP := Lib.hid AP
    clear AP hrow1 c1
    by_cases hmm : pre.length + 1 = most
    · have tm : (((pre.length : Int) + 1) == (most : Int)) = true := by rw [beq_iff_eq]; omega
      have HM := Lib.hid hmm
      clear hmm
      cases b <;> cases c <;> cases g2 <;> first | (exact absurd hg2 (by decide)) | skip
      all_goals clear hg2
      all_goals gi_wp2_with (gi_at_builtin; refine APP.out _ _ _ _ _ _ _ rfl _ _ rfl rfl rfl ?_; intro g' cap' w2 q2 q1 q3 q4; have hc1 := q1.cell; have hf1 := q1.frozen; have hcv2 := q2.hv.cell; have hcm2 := q2.hM.cell; have Q2 := Lib.hid q2; have Q3 := Lib.hid q3; have Q4 := Lib.hid q4; clear q1 q2 q3 q4)
      all_goals exact ⟨((KeepsOthers.setCell _ _ _).trans Q3.out).from _, ⟨_, by rw [HG.out]; exact Q2.out⟩, hB.trans (FI.out _ _ Q4.out), rfl, by rw [List.length_append]; exact HM.out⟩
    · have tm : (((pre.length : Int) + 1) == (most : Int)) = false := by rw [beq_eq_false_iff_ne]; omega
      have HM := Lib.hid hmm
      clear hmm
      cases b <;> cases c <;> cases g2 <;> first | (exact absurd hg2 (by decide)) | skip
      all_goals clear hg2
      all_goals gi_wp2_with (gi_at_builtin; refine APP.out _ _ _ _ _ _ _ rfl _ _ rfl rfl rfl ?_; intro g' cap' w2 q2 q1 q3 q4; have hc1 := q1.cell; have hf1 := q1.frozen; have hcv2 := q2.hv.cell; have hcm2 := q2.hM.cell; have Q2 := Lib.hid q2; have Q3 := Lib.hid q3; have Q4 := Lib.hid q4; clear q1 q2 q3 q4)
      all_goals exact ⟨((KeepsOthers.setCell _ _ _).trans Q3.out).from _, ⟨FI.out _ _ Q4.out, Eq.trans Q2.out.hN HU.out.hN.symm⟩, ⟨_, by rw [HG.out]; exact Q2.out⟩, hB.trans (FI.out _ _ Q4.out), Nat.le_trans hs (FI.out _ _ Q4.out).size, by have := HM.out; rw [List.length_append]; simp; omega⟩
  case done =>
    rintro D ys W hD rfl ⟨⟨v, hu⟩, hB, hs, hlm⟩ hK
    have hg : good (upto (fun j => (j, xs[j]?.getD 0)) xs.length) = true := good_fwd xs xs.length
    rw [hg] at hu
    obtain ⟨ao, cap, rfl⟩ := hu.form
    have hc := hu.hv.cell
    have hf := hu.hF.cell
    have HU := Lib.hid hu
    clear hu
    have hk : xs.length < most := by rw [upto_length] at hlm; exact hlm
    gi_wp2
    gi_region
    all_goals gi_wp2
    all_goals refine ⟨by simp, .inl ⟨_, _, rfl, run_takeDeferred hK, ?_⟩⟩
    all_goals refine ⟨_, results_tmp2 rfl _ _ _, _, rfl, ownsRow_putObj (W := W.drew) (show W.drew.ownsRow _ _ _ _ _ _ from ?_) _ hK rfl, ?_⟩
    all_goals first
      | (rw [Nat.min_eq_left (Nat.le_of_lt hk), List.take_of_length_le (Nat.le_of_lt hk), ← List.take_length (l := xs)]
         have := HU.out.told (Nat.le_refl _)
         rw [List.take_length] at this ⊢
         exact this)
      | exact hB.trans (Below.trans ((Below.refl _ W).drew) (belowK_b (w := w) (Nat.le_refl _) W.drew D _ _ (by simp at hD; omega) hK rfl rfl))
  case stop =>
    rintro D c pre W hD ⟨k, hk, rfl⟩ ⟨⟨v, hu⟩, hB, rfl, hlm⟩ hK
    have hg : good (upto (fun j => (j, xs[j]?.getD 0)) k) = true := good_fwd xs k
    rw [hg] at hu
    obtain ⟨ao, cap, rfl⟩ := hu.form
    have hc := hu.hv.cell
    have hf := hu.hF.cell
    have HU := Lib.hid hu
    clear hu
    have hkm : k = most := by rw [upto_length] at hlm; exact hlm
    gi_wp2
    gi_region
    all_goals gi_wp2
    all_goals refine ⟨by simp, .inl ⟨_, _, rfl, run_takeDeferred hK, ?_⟩⟩
    all_goals refine ⟨_, results_tmp2 rfl _ _ _, _, rfl, ownsRow_putObj (W := W.drew) (show W.drew.ownsRow _ _ _ _ _ _ from ?_) _ hK rfl, ?_⟩
    all_goals first
      | (rw [Nat.min_eq_right (by omega), ← hkm]
         exact HU.out.told hk)
      | exact hB.trans (Below.trans ((Below.refl _ W).drew) (belowK_b (w := w) (Nat.le_refl _) W.drew D _ _ (by simp at hD; omega) hK rfl rfl))
end Go.Proofs.Ytafklopkjbdlkaa

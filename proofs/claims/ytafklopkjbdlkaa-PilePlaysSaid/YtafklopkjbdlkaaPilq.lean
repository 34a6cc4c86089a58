/-
  The document's pile: Cut, Pop of a pile in memory.
-/
import Derived.Test.YtafklopkjbdlkaaPilr
import Derived.RegionTactic
import Derived.BigRegion
import Derived.Deep.AppendLies
import Derived.Deep.RegionLaw
namespace Go.Proofs.Ytafklopkjbdlkaa
open Go.RowKit Go.Lib

theorem cells_take {w : World} {g : Nat} {xs : List Int} {k : Nat} (cs : ∀ j u, (xs.map (Value.int .i64))[j]? = some u → w.cell? ((⟨g, 0, none⟩ : Addr).add j) = some u) :
    ∀ j u, ((xs.take k).map (Value.int .i64))[j]? = some u → w.cell? ((⟨g, 0, none⟩ : Addr).add j) = some u := by
  intro j u hj
  refine cs j u ?_
  rw [List.map_take, List.getElem?_take] at hj
  split at hj
  · exact hj
  · cases hj

theorem ones (xs : List Int) : ∀ u ∈ xs.map (Value.int .i64), u.oneCell' = true := fun u hu => by
  obtain ⟨z, _, rfl⟩ := List.mem_map.1 hu
  rfl

/-- append onto a slice of the call's own that isn't nil, at a step of a region that draws its order. -/
theorem step_append_own {P : Program} {w : World} {ops : Array Oper} {o : Oper} {a : Act} {K : Act → World → Prop} {Q : Exit → Act → World → Prop} {E : Prop} (hgd : o.guard = none) (s x : Operand) (t : TypeId)
    (ho : o.op = .call { callee := .builtin .append, args := #[s, x], argTypes := #[t, t] })
    (base : Nat) (e : TypeId) (i : TypeInfo) (z : Value) (size bytes : Nat) (ht : P.underlying t = some (.slice e)) (hi : P.info? e = some i) (hz : i.zero = some z)
    (hsize : i.size = size) (hby : i.bytes = bytes) (hzs : z.cells.size = size) (hsz : 0 < size)
    (g0 n c0 : Nat) (xs : List Value) (hs : a.eval s = .slice (some ⟨g0, 0, none⟩) n c0) (hown : w.ownsRow base e size (.slice (some ⟨g0, 0, none⟩) n c0) n xs)
    (ad : Addr) (m c : Nat) (news : List Value) (hx : a.eval x = .slice (some ad) m c) (hl : news.length = m * size) (hnews : ∀ j u, news[j]? = some u → w.cell? (ad.add j) = some u) (h1 : ∀ u ∈ news, u.oneCell' = true)
    (h63 : n + m ≤ maxLen) (hbytes : (n + m) * bytes ≤ 140737488355328) (hbase : base ≤ w.heap.size)
    (h : ∀ g cap w', w'.ownsRow base e size (.slice (some ⟨g, 0, none⟩) (n + m) cap) (n + m) (xs ++ news) → w.grownBy w' (some g0) → K (a.put o.dst (.slice (some ⟨g, 0, none⟩) (n + m) cap)) w') :
    if Region.wanted o (yielded ops a.tmps) = true then Oper.wp P o a w K Q else E := by
  have hw : Region.wanted o (yielded ops a.tmps) = true := by simp [Region.wanted, hgd]
  rw [if_pos hw]
  obtain ⟨v', w', hr, h2, h3, h4, h5⟩ := run_append_own_at (P := P) w base t o.type e i z size bytes ht hi hz hsize hby hzs hsz _ n xs hown ad m c news hl hnews h1 h63 hbytes hbase
  obtain ⟨g, cap, rfl⟩ : ∃ g cap, v' = .slice (some ⟨g, 0, none⟩) (n + m) cap := by
    rcases Go.Joins.ownsRow_forms h2 with ⟨e, _⟩ | h
    · have := (h4.1 e).1; cases this
    · exact h
  unfold Oper.wp execOp
  simp only [ho, resolve, invoke, builtin, Sem.run_bind, Sem.run_pure, Result.andThen_ok, List.map_toArray, List.map_cons, List.map_nil, hs, hx, hr]
  exact h g cap w' h2 h3

set_option maxHeartbeats 800000 in
theorem cutR_hit {n₀ B : Nat} {v : Value} {xs : List Int} {w : World} (h : PR n₀ w B v xs) (hn : n₀ ≤ w.heap.size) (hl : xs.length ≤ 1000) (k : Nat) (hk : k < xs.length) :
    Calls Try.prog 14 #[.pointer (some ⟨B, 0, none⟩), .int .i64 (k : Int)] w fun e w' => e = .returned (.tuple #[]) ∧ ∃ v', PR n₀ w' B v' (xs.take k) ∧ Moved w w' B v v' := by
  have HP := Lib.hid h
  obtain ⟨i0, hi, hz0, hz1, hz2⟩ := info_parts infoI
  have hlt := h.box.lt
  have hcell0 : w.cell? ⟨B, 0, none⟩ = some v := h.box.cell
  have hcell : (w.alloc (.cells #[] 3)).cell? ⟨B, 0, none⟩ = some v := (h.box.alloc _).cell
  have own0 : (w.alloc (.cells #[] 3)).ownsRow w.heap.size 3 1 (.slice (some ⟨w.heap.size, 0, none⟩) 0 0) 0 [] := World.ownsRow_lit w #[] 0 (Nat.le_refl _) (Nat.zero_le _) rfl
  have hb0 : Below w.heap.size w (w.alloc (.cells #[] 3)) := (Below.refl _ w).alloc (Nat.le_refl _) _
  rcases h.forms with ⟨rfl, e0⟩ | ⟨g, cap, rfl, hc, hm⟩
  · obtain rfl : xs = [] := by simpa using e0
    exact absurd hk (by simp)
  · rw [List.length_map] at *
    have cs := cells_take (k := k) ((h.row.alloc (.cells #[] 3)).cells (g := g) rfl)
    have hm' : cap ≤ 9223372036854775807 := by simp only [maxLen] at hm; omega
    have e1 : k ≤ cap := by omega
    have e2 : ¬ cap = 0 := by omega
    have e3 : min k xs.length = k := by omega
    have lk : (xs.take k).length = k := by rw [List.length_take]; omega
    clear h hm
    go_enter Try.func14, Try.ntmps14
    go_wp2_with (at_builtin; go_loud (
         refine wpList_append_own_at _ rfl _ _ 23 rfl w.heap.size 3 i0 (.int .i64 0) 1 8 Try.underlying23 hi hz0 hz1 hz2 rfl (by decide) _ _ _ rfl own0 ⟨g, 0, none⟩ k cap ((xs.take k).map (Value.int .i64)) rfl (by rw [List.length_map, lk, Nat.mul_one]) cs (ones _) (by simp only [maxLen]; omega) (by omega) (by simp) ?_
         intro v1 w1 hown1 hgrow1 hnil1 hat1
         rw [Nat.zero_add, List.nil_append] at hown1
         obtain ⟨g1, cap1, rfl⟩ : ∃ g1 cap1, v1 = .slice (some ⟨g1, 0, none⟩) k cap1 := by
           rcases Go.Joins.ownsRow_forms hown1 with ⟨e, _⟩ | h
           · have := (hnil1.1 e).1; cases this
           · exact h
         have hb1 : Below w.heap.size w w1 := hb0.grown hgrow1 (by simp) (fun k e => by cases e; exact Nat.le_refl _)
         have hst := PR.made HP.out (us := xs.take k) (w1 := w1) (v' := .slice (some ⟨g1, 0, none⟩) k cap1) hn (by rw [lk]; exact hown1) hb1 (fun e => by cases e)
         have hc1 := hst.1.cell
         have hf1 := hst.1.frozen
         have HS := Lib.hid hst.2
         clear hst hown1 hgrow1 hnil1 hat1 hb1))
    go_end0
    exact ⟨rfl, _, HS.out.1, HS.out.2⟩
theorem cutR_any {n₀ B : Nat} {v : Value} {xs : List Int} {w : World} (h : PR n₀ w B v xs) (hn : n₀ ≤ w.heap.size) (hl : xs.length ≤ 1000) (i : Int) :
    Calls Try.prog 14 #[.pointer (some ⟨B, 0, none⟩), .int .i64 i] w fun e w' => e = .returned (.tuple #[]) ∧ ∃ v', PR n₀ w' B v' (cutI xs i) ∧ Moved w w' B v v' := by
  have HP := Lib.hid h
  have nothing : cutI xs i = xs → (Calls Try.prog 14 #[.pointer (some ⟨B, 0, none⟩), .int .i64 i] w fun e w' => e = .returned (.tuple #[]) ∧ w = w') →
      Calls Try.prog 14 #[.pointer (some ⟨B, 0, none⟩), .int .i64 i] w fun e w' => e = .returned (.tuple #[]) ∧ ∃ v', PR n₀ w' B v' (cutI xs i) ∧ Moved w w' B v v' := fun hx hc =>
    hc.mono fun e w' ⟨he, hw⟩ => by
      subst hw
      exact ⟨he, v, by rw [hx]; exact HP.out, Moved.refl _ _ _⟩
  by_cases h0 : i < 0
  · refine nothing (by rw [cutI, if_neg (by omega)]) ?_
    clear nothing h HP
    go_enter Try.func14, Try.ntmps14
    go_wp2_with fail
    go_end0
    exact ⟨rfl, rfl⟩
  · by_cases h1 : (xs.length : Int) ≤ i
    · refine nothing (by rw [cutI, if_pos (by omega), List.take_of_length_le (by omega)]) ?_
      obtain ⟨a, cap, rfl, hc, hm⟩ := formsR h
      have hcell := h.box.cell
      have hl : xs.length ≤ 9223372036854775807 := by simp only [maxLen] at hm; omega
      have h2 : 0 ≤ i := by omega
      clear nothing h hm HP
      generalize xs.length = n at *
      go_enter Try.func14, Try.ntmps14
      go_wp2_with fail
      go_end0
      exact ⟨rfl, rfl⟩
    · obtain ⟨k, rfl⟩ : ∃ k : Nat, i = (k : Int) := ⟨i.toNat, by omega⟩
      rw [cutI, if_pos (by omega), Int.toNat_natCast]
      exact cutR_hit h hn hl k (by omega)

set_option maxHeartbeats 800000 in
theorem popR_any {n₀ B : Nat} {v : Value} {xs : List Int} {w : World} (h : PR n₀ w B v xs) (hn : n₀ ≤ w.heap.size) (hl : xs.length ≤ 1000) :
    Calls Try.prog 10 #[.pointer (some ⟨B, 0, none⟩)] w fun e w' => e = .returned (.tuple #[.int .i64 (atI xs ((xs.length : Int) - 1)), .bool (is xs.length ((xs.length : Int) - 1))]) ∧
      ∃ v', PR n₀ w' B v' (cutI xs ((xs.length : Int) - 1)) ∧ Moved w w' B v v' := by
  have HP := Lib.hid h
  rcases Nat.eq_zero_or_pos xs.length with hx | hx
  · obtain rfl : xs = [] := List.length_eq_zero_iff.1 hx
    obtain ⟨a, cap, rfl, hc, hm⟩ := formsR h
    have hcell := h.box.cell
    clear h
    go_enter Try.func10, Try.ntmps10
    go_wp2_with fail
    go_ret2
    exact ⟨rfl, _, HP.out, Moved.refl _ _ _⟩
  · obtain ⟨k, hk⟩ : ∃ k, xs.length = k + 1 := ⟨xs.length - 1, by omega⟩
    have e1 : atI xs ((xs.length : Int) - 1) = xs.getD k 0 := by rw [atI, if_pos (by omega)]; congr 1; omega
    have e2 : is xs.length ((xs.length : Int) - 1) = true := by rw [is, decide_eq_true (by omega), decide_eq_true (by omega)]; rfl
    have e3 : cutI xs ((xs.length : Int) - 1) = xs.take k := by rw [cutI, if_pos (by omega)]; congr 1; omega
    rw [e1, e2, e3]
    clear e1 e2 e3
    obtain ⟨g, cap, ev, hc, hm, hn0, hne, hcells⟩ := someR h (by omega)
    rw [hk] at ev hc
    subst ev
    obtain ⟨i0, hi, hz0, hz1, hz2⟩ := info_parts infoI
    have hcell0 : w.cell? ⟨B, 0, none⟩ = some (.slice (some ⟨g, 0, none⟩) (k + 1) cap) := h.box.cell
    have hck := hcells k (by omega)
    have hm' : cap ≤ 9223372036854775807 := by simp only [maxLen] at hm; omega
    have e0 : ¬ cap = 0 := by omega
    have e1 : k ≤ cap := by omega
    have lk : (xs.take k).length = k := by rw [List.length_take]; omega
    have hwk : IntKind.i64.wrap (k : Int) = (k : Int) := IntWalk.i64_in _ ⟨by omega, by omega⟩
    have e2 : (k : Int) ≤ (cap : Int) := by omega
    clear h hm hcells
    go_enter Try.func10, Try.ntmps10
    go_wp2_with fail
    go_quiet (fail)
    go_wp2_with fail
    have hb0 : Below w.heap.size w (w.drewN nq) := ⟨rfl, rfl, rfl, Nat.le_refl _, fun _ _ => rfl⟩
    have hP2 := HP.out.keep hb0
    obtain ⟨w2, hw2⟩ : ∃ w2, w.drewN nq = w2 := ⟨_, rfl⟩
    rw [hw2] at hb0 hP2 ⊢
    clear hw2 hck hcell0
    have HP2 := Lib.hid hP2
    have hlt := hP2.box.lt
    have hcell1 : w2.cell? ⟨B, 0, none⟩ = some (.slice (some ⟨g, 0, none⟩) (k + 1) cap) := hP2.box.cell
    have hcell2 : (w2.alloc (.cells #[] 3)).cell? ⟨B, 0, none⟩ = some (.slice (some ⟨g, 0, none⟩) (k + 1) cap) := (hP2.box.alloc _).cell
    have own0 : (w2.alloc (.cells #[] 3)).ownsRow w2.heap.size 3 1 (.slice (some ⟨w2.heap.size, 0, none⟩) 0 0) 0 [] := World.ownsRow_lit w2 #[] 0 (Nat.le_refl _) (Nat.zero_le _) rfl
    have cs := cells_take (k := k) ((hP2.row.alloc (.cells #[] 3)).cells (g := g) rfl)
    clear hP2
    go_region_law (refine step_append_own rfl (.tmp 30) (.tmp 41) 23 rfl w2.heap.size 3 i0 (.int .i64 0) 1 8 Try.underlying23 hi hz0 hz1 hz2 rfl (by decide) w2.heap.size 0 0 [] (by simp [Act.eval, Act.put]) own0 ⟨g, 0, none⟩ k cap ((xs.take k).map (Value.int .i64)) (by simp [Act.eval, Act.put]) (by rw [List.length_map, lk, Nat.mul_one]) cs (ones _) (by simp only [maxLen]; omega) (by omega) (by simp) ?_
                   intro g1 cap1 w1 hown1 hgrow1
                   rw [Nat.zero_add, List.nil_append] at hown1
                   have hb1 : Below w2.heap.size w2 w1 := (((Below.refl _ w2).alloc (Nat.le_refl _) (.cells #[] 3)).drew).grown hgrow1 (by simp) (fun k e => by cases e; exact Nat.le_refl _)
                   have hst := PR.made HP2.out (us := xs.take k) (w1 := w1) (v' := .slice (some ⟨g1, 0, none⟩) k cap1) (Nat.le_trans hn hb0.size) (by rw [lk]; exact hown1) hb1 (fun e => by cases e)
                   have hc1 := hst.1.cell
                   have hf1 := hst.1.frozen
                   have HS := Lib.hid hst.2
                   clear hst hown1 hgrow1 hb1)
    all_goals go_wp2_with fail
    all_goals go_ret2
    all_goals exact ⟨by rw [List.getD, List.getElem?_eq_getElem (by omega)]; rfl, _, HS.out.1, Moved.of_below hb0 HS.out.2⟩
end Go.Proofs.Ytafklopkjbdlkaa

/-
  Texts of the proof, one behind the other: Its.
-/
import Derived.Test.YtfnkokfkhjdkfaaDoorM19
import Derived.Test.YtfnkokfkhjdkfaaDoorM30
/-
  Contracts of other and stand, of the package item's splitter.
-/
namespace Go.Proofs.YtfnkokfkhjdkfaaDoor
open Go.RowKit Go.Lib Go.Maps

/-- What splitter's methods work on: the list at block B, the width, what is left of it; all of it made since w0. -/
structure Spl (w0 : World) (wd : Int) (W : World) (B : Nat) (v : Value) (its : List It) (r : Int) : Prop where
  own : Own w0.heap.size 69 W B [.int .i64 wd, .int .i64 (r / 18446744073709551616), .int .u64 (r % 18446744073709551616)] v its
  keep : Keeps w0 W
def PostSpl (w0 : World) (wd : Int) (W : World) (B : Nat) (v : Value) (its : List It) (r : Int) (W' : World) : Prop := ∃ v', Spl w0 wd W' B v' its r ∧ Mvd W W' B v v'
section
variable {w0 W : World} {B : Nat} {v : Value} {its : List It} {wd r : Int}
theorem Spl.moved {W' : World} {v' : Value} {its' : List It} {r' : Int} (h : Spl w0 wd W B v its r) (o : Own w0.heap.size 69 W' B [.int .i64 wd, .int .i64 (r' / 18446744073709551616), .int .u64 (r' % 18446744073709551616)] v' its') (m : Mvd W W' B v v') : PostSpl w0 wd W B v its' r' W' :=
  ⟨v', ⟨o, Below.trans h.keep (h.own.below m h.keep.size)⟩, m⟩
theorem Spl.to {W' : World} (h : Spl w0 wd W B v its r) (k : Keeps W W') : Spl w0 wd W' B v its r := ⟨h.own.keep k, h.keep.trans k⟩
theorem Spl.post (h : Spl w0 wd W B v its r) {W' : World} (k : Keeps W W') : PostSpl w0 wd W B v its r W' := ⟨v, h.to k, Mvd.keep k⟩
theorem PostSpl.from {W1 W' : World} (k : Keeps W W1) (h : PostSpl w0 wd W1 B v its r W') : PostSpl w0 wd W B v its r W' := by
  obtain ⟨v', m, c⟩ := h
  exact ⟨v', m, (Mvd.keep k).trans c⟩
theorem PostSpl.keep {W1 W' : World} (h : PostSpl w0 wd W B v its r W1) (k : Keeps W1 W') : PostSpl w0 wd W B v its r W' := by
  obtain ⟨v', m, c⟩ := h
  exact ⟨v', m.to k, c.trans (Mvd.keep k)⟩
theorem Spl.new (h : Spl w0 wd W B v its r) (t : TypeId) (cs : Array Value) : Sd B (W.alloc (.cells cs t)) v W.heap.size t cs :=
  ⟨Blk.new W t cs, fun e => by have := h.own.box.lt; omega, fun e => by have := (h.own.row.lt _ e).2; omega⟩
/-- One item is made and put behind; the struct's field tells so. -/
theorem Spl.made (h : Spl w0 wd W B v its r) (x : It) (hlen : its.length ≤ 1000000) : ∃ A8 c8 w8,
    (Builtin.append_ #[27, 27] 27 #[v, .slice (some ⟨W.heap.size, 0, none⟩) 1 1]).run Tryd.prog (W.alloc (.cells #[.int .i64 x.kind, .int .i64 x.width, .int .i64 x.grow, .int .i64 x.shrink, .int .i64 x.cost, .string ⟨x.codes.toArray⟩, .int .i64 x.font, .int .i64 x.size, .int .i64 x.link] 42)) = .ok (.slice A8 (its.length + 1) c8) w8 ∧
      Blk w8 B 69 #[v, .int .i64 wd, .int .i64 (r / 18446744073709551616), .int .u64 (r % 18446744073709551616)] ∧ PostSpl w0 wd W B v (its ++ [x]) r (w8.setCell ⟨B, 0, none⟩ (.slice A8 (its.length + 1) c8)) := by
  obtain ⟨A8, c8, w8, ra, b8, o8, m8⟩ := h.own.made x hlen h.keep.size
  exact ⟨A8, c8, w8, ra, b8, h.moved o8 m8⟩
/-- What is left is told anew. -/
theorem Spl.room (h : Spl w0 wd W B v its r) (r' : Int) : PostSpl w0 wd W B v its r' ((W.setCell ⟨B, 2, none⟩ (.int .i64 (r' / 18446744073709551616))).setCell ⟨B, 3, none⟩ (.int .u64 (r' % 18446744073709551616))) := by
  obtain ⟨o1, m1⟩ := h.own.set 1 (.int .i64 (r' / 18446744073709551616)) _ rfl
  obtain ⟨o2, m2⟩ := o1.set 2 (.int .u64 (r' % 18446744073709551616)) [.int .i64 wd, .int .i64 (r' / 18446744073709551616), .int .u64 (r' % 18446744073709551616)] rfl
  exact h.moved o2 (m1.trans m2)
def itV (x : It) : Value := .agg #[.int .i64 x.kind, .int .i64 x.width, .int .i64 x.grow, .int .i64 x.shrink, .int .i64 x.cost, .string ⟨x.codes.toArray⟩, .int .i64 x.font, .int .i64 x.size, .int .i64 x.link]
set_option maxRecDepth 100000 in
set_option maxHeartbeats 8000000 in
theorem other_any (x : It) (h : Spl w0 wd W B v its r) (hl : its.length ≤ 999999) (h1 : -9223372036854775808 ≤ wd) (h2 : wd ≤ 9223372036854775807) :
    Calls Tryd.prog 30 #[.pointer (some ⟨B, 0, none⟩), itV x] W fun e w' => e = .returned (.tuple #[]) ∧ PostSpl w0 wd W B v (its ++ [x]) wd w' := by
  have KA := Lib.hid (fun o => (Keeps.refl W).alloc o)
  have RO := Lib.hid (fun W1 => roomOf_any wd W1 h1 h2)
  have HM := Lib.hid (fun W1 (k : Keeps W W1) => (h.to k).made x (Nat.le_succ_of_le hl))
  have HB := Lib.hid (fun W1 (k : Keeps W W1) => (h.own.keep k).box.cell 0 (v := v) rfl)
  have HP := Lib.hid (fun W1 (k : Keeps W W1) W' (q : PostSpl w0 wd W1 B v (its ++ [x]) r W') => PostSpl.from k q)
  have HR := Lib.hid (fun W1 v1 (m : Spl w0 wd W1 B v1 (its ++ [x]) r) => m.room wd)
  obtain ⟨A, cap, hv, _, _⟩ := row_form h.own.row
  subst hv
  clear h
  unfold itV roomV at *
  obtain ⟨x1, x2, x3, x4, x5, x6, x7, x8, x9⟩ := x
  simp only at *
  generalize wd / 18446744073709551616 = q at *
  generalize wd % 18446744073709551616 = q2 at *
  go_enter Tryd.func30, Tryd.ntmps30
  have K0 := KA.out (.cells #[.int .i64 x1, .int .i64 x2, .int .i64 x3, .int .i64 x4, .int .i64 x5, .string ⟨x6.toArray⟩, .int .i64 x7, .int .i64 x8, .int .i64 x9] 42)
  obtain ⟨A8, c8, w8, ra, b8, p8⟩ := HM.out _ K0.drew
  have b0 := HB.out _ K0
  have b2 := HB.out _ (K0.alloc (.cells #[.int .i64 x1, .int .i64 x2, .int .i64 x3, .int .i64 x4, .int .i64 x5, .string ⟨x6.toArray⟩, .int .i64 x7, .int .i64 x8, .int .i64 x9] 42))
  rw [show (W.alloc (.cells #[.int .i64 x1, .int .i64 x2, .int .i64 x3, .int .i64 x4, .int .i64 x5, .string ⟨x6.toArray⟩, .int .i64 x7, .int .i64 x8, .int .i64 x9] 42)).drew.alloc (.cells #[.int .i64 x1, .int .i64 x2, .int .i64 x3, .int .i64 x4, .int .i64 x5, .string ⟨x6.toArray⟩, .int .i64 x7, .int .i64 x8, .int .i64 x9] 42) = ((W.alloc (.cells #[.int .i64 x1, .int .i64 x2, .int .i64 x3, .int .i64 x4, .int .i64 x5, .string ⟨x6.toArray⟩, .int .i64 x7, .int .i64 x8, .int .i64 x9] 42)).alloc (.cells #[.int .i64 x1, .int .i64 x2, .int .i64 x3, .int .i64 x4, .int .i64 x5, .string ⟨x6.toArray⟩, .int .i64 x7, .int .i64 x8, .int .i64 x9] 42)).drew from rfl] at ra
  have y2 := b8.cell 0 (v := .slice A its.length cap) rfl
  have yf := b8.free 0
  go_wp2_with fail
  go_region_law (refine step_append_run' rfl (.tmp 8) (.tmp 10) _ _ rfl _ _ (by simp [Act.eval]) (by simp [Act.eval]) _ _ ra ?_)
  all_goals
    obtain ⟨v9, m9, q9⟩ := HP.out _ K0.drew _ p8
    have c1 := m9.own.box.cell 1 (v := .int .i64 wd) rfl
    go_wp2_with fail
    refine (RO.out _).mono ?_
    rintro e w2 ⟨rfl, k2⟩
    have m2 := m9.to k2
    have d2 := m2.own.box.cell 2 rfl
    have d3 := m2.own.box.cell 3 rfl
    have f2 := m2.own.box.free 2
    have f3 := m2.own.box.free 3
    obtain ⟨v3, m3, q3⟩ := HR.out _ _ m2
    have FIN : PostSpl w0 wd W B (.slice A its.length cap) (its ++ [⟨x1, x2, x3, x4, x5, x6, x7, x8, x9⟩]) wd _ := ⟨v3, m3, (q9.trans (Mvd.keep k2)).trans q3⟩
    clear m9 m2 m3 q3 q9 p8 b8 ra
    go_wp2_with fail
    go_end0
    exact ⟨rfl, FIN⟩
set_option maxRecDepth 100000 in
set_option maxHeartbeats 8000000 in
theorem stand_any (x : It) (h : Spl w0 wd W B v its r) (hl : its.length ≤ 999999) (h0 : -1208925819614629174706176 ≤ r) (h3 : r ≤ 1208925819614629174706176) (h1 : -9223372036854775808 ≤ x.width) (h2 : x.width ≤ 9223372036854775807) :
    Calls Tryd.prog 53 #[.pointer (some ⟨B, 0, none⟩), itV x] W fun e w' => e = .returned (.tuple #[]) ∧ PostSpl w0 wd W B v (its ++ [x]) (r - x.width) w' := by
  have KA := Lib.hid (fun o => (Keeps.refl W).alloc o)
  have RO := Lib.hid (fun W1 => less_any r x.width W1 h0 h3 h1 h2)
  have HM := Lib.hid (fun W1 (k : Keeps W W1) => (h.to k).made x (Nat.le_succ_of_le hl))
  have HB := Lib.hid (fun W1 (k : Keeps W W1) => (h.own.keep k).box.cell 0 (v := v) rfl)
  have HS := Lib.hid (fun cs => h.new 42 cs)
  have HR := Lib.hid (fun W1 v1 (m : Spl w0 wd W1 B v1 (its ++ [x]) r) => m.room (r - x.width))
  obtain ⟨A, cap, hv, _, _⟩ := row_form h.own.row
  subst hv
  clear h
  unfold itV roomV at *
  obtain ⟨x1, x2, x3, x4, x5, x6, x7, x8, x9⟩ := x
  simp only at *
  generalize hq1 : (r - x2) / 18446744073709551616 = q at *
  generalize hq2 : (r - x2) % 18446744073709551616 = q2 at *
  generalize hr1 : r / 18446744073709551616 = r1 at *
  generalize hr2 : r % 18446744073709551616 = r2 at *
  go_enter Tryd.func53, Tryd.ntmps53
  have K0 := KA.out (.cells #[.int .i64 x1, .int .i64 x2, .int .i64 x3, .int .i64 x4, .int .i64 x5, .string ⟨x6.toArray⟩, .int .i64 x7, .int .i64 x8, .int .i64 x9] 42)
  have S0 := HS.out #[.int .i64 x1, .int .i64 x2, .int .i64 x3, .int .i64 x4, .int .i64 x5, .string ⟨x6.toArray⟩, .int .i64 x7, .int .i64 x8, .int .i64 x9]
  obtain ⟨A8, c8, w8, ra, b8, p8⟩ := HM.out _ K0.drew
  have b0 := HB.out _ K0
  have b2 := HB.out _ (K0.alloc (.cells #[.int .i64 x1, .int .i64 x2, .int .i64 x3, .int .i64 x4, .int .i64 x5, .string ⟨x6.toArray⟩, .int .i64 x7, .int .i64 x8, .int .i64 x9] 42))
  rw [show (W.alloc (.cells #[.int .i64 x1, .int .i64 x2, .int .i64 x3, .int .i64 x4, .int .i64 x5, .string ⟨x6.toArray⟩, .int .i64 x7, .int .i64 x8, .int .i64 x9] 42)).drew.alloc (.cells #[.int .i64 x1, .int .i64 x2, .int .i64 x3, .int .i64 x4, .int .i64 x5, .string ⟨x6.toArray⟩, .int .i64 x7, .int .i64 x8, .int .i64 x9] 42) = ((W.alloc (.cells #[.int .i64 x1, .int .i64 x2, .int .i64 x3, .int .i64 x4, .int .i64 x5, .string ⟨x6.toArray⟩, .int .i64 x7, .int .i64 x8, .int .i64 x9] 42)).alloc (.cells #[.int .i64 x1, .int .i64 x2, .int .i64 x3, .int .i64 x4, .int .i64 x5, .string ⟨x6.toArray⟩, .int .i64 x7, .int .i64 x8, .int .i64 x9] 42)).drew from rfl] at ra
  have y2 := b8.cell 0 (v := .slice A its.length cap) rfl
  have yf := b8.free 0
  go_wp2_with fail
  go_region_law (refine step_append_run' rfl (.tmp 8) (.tmp 10) _ _ rfl _ _ (by simp [Act.eval]) (by simp [Act.eval]) _ _ ra ?_)
  all_goals
    obtain ⟨v9, m9, q9⟩ := p8
    have S9 := (S0.keep (Keeps.refl _).drew).moved q9
    have c1 := m9.own.box.cell 1 (v := .int .i64 wd) rfl
    have c2 := m9.own.box.cell 2 rfl
    have c3 := m9.own.box.cell 3 rfl
    have s1 := S9.blk.cell 1 (v := .int .i64 x2) rfl
    have Q9 := (Mvd.keep (B := B) (v := .slice A its.length cap) K0.drew).trans q9
    clear S9 q9 b8 ra
    go_wp2_with fail
    go_region_law (go_simp; go_at_call 70; (with_reducible refine (RO.out _).mono ?_); rintro e w2 ⟨rfl, k2⟩; have m2 := m9.to ((Keeps.refl _).drew.trans k2); have d2 := m2.own.box.cell 2 rfl; have d3 := m2.own.box.cell 3 rfl; have f2 := m2.own.box.free 2; have f3 := m2.own.box.free 3)
    all_goals
      obtain ⟨v3, m3, q3⟩ := HR.out _ _ m2
      have FIN : PostSpl w0 wd W B (.slice A its.length cap) (its ++ [⟨x1, x2, x3, x4, x5, x6, x7, x8, x9⟩]) (r - x2) _ := ⟨v3, m3, (Q9.trans (Mvd.keep ((Keeps.refl _).drew.trans k2))).trans q3⟩
      clear m9 m2 m3 q3 Q9
      go_wp2_with fail
      go_end0
      exact ⟨rfl, FIN⟩
end
end Go.Proofs.YtfnkokfkhjdkfaaDoor


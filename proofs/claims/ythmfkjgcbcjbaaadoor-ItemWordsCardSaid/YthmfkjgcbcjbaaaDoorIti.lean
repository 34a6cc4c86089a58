/-
  Contract of span, of the package item, given that of spans for the kids.
-/
import Derived.Test.YthmfkjgcbcjbaaaDoorIth
namespace Go.Proofs.YthmfkjgcbcjbaaaDoor
open Go.RowKit Go.Lib Go.Maps

/-- What spans has to do, with these kids, in the slice kv. -/
def SpansDo (w0 : World) (sz : Int) (ks : List St) (kv : Value) : Prop :=
  ∀ (s : Sty) (W : World) (B : Nat) (v : Value) (its : List It) (nx : Int), Md w0 W B v its nx → its.length + 2 * wL ks ≤ 190000 → 0 ≤ nx → nx + wL ks ≤ 4611686018427387904 →
    Calls Tryd.prog 17 #[.pointer (some ⟨B, 0, none⟩), kv, styV sz s] W fun e w' => e = .returned (.tuple #[]) ∧ PostMd w0 W B v (spnsP sz ks s (its, nx)).1 (spnsP sz ks s (its, nx)).2 w'
section
variable {w0 W : World} {B : Nat} {v : Value} {its : List It} {nx : Int} {g o : Nat} {k : Int} {t d ti : List UInt8} {ks : List St} {kv : Value}
theorem StC.loads (hx : StC w0 g o k t d ti kv) (h : Md w0 W B v its nx) : ∀ {W1 : World}, Keeps W W1 → StC W1 g o k t d ti kv := fun q => hx.keep (h.keep.trans q)
set_option maxRecDepth 100000 in
set_option maxHeartbeats 16000000 in
theorem link_do (sz : Int) (s : Sty) (hS : SpansDo w0 sz ks kv) (h : Md w0 W B v its nx) (hx : StC w0 g o k t d ti kv) (hl : its.length + 2 * wL ks ≤ 190000) (hn : 0 ≤ nx) (hm : nx + 10 + wL ks ≤ 4611686018427387904) :
    Calls Tryd.prog 47 #[.pointer (some ⟨B, 0, none⟩), .pointer (some ⟨g, o, none⟩), styV sz s] W fun e w' => e = .returned (.tuple #[]) ∧ PostMd w0 W B v (if s.image = true then spnsP sz ks s (its, nx) else spnsP sz ks { s with link := nx } (its, nx + 1)).1 (if s.image = true then spnsP sz ks s (its, nx) else spnsP sz ks { s with link := nx } (its, nx + 1)).2 w' := by
  obtain ⟨f, l, b⟩ := s
  have HX := Lib.hid (fun W1 (q : Keeps W W1) => hx.loads h q)
  have H0 := Lib.hid (fun W1 (q : Keeps W W1) => h.to q)
  have HM := Lib.hid (by
    obtain ⟨o1, q1⟩ := h.own.set 0 (.int .i64 (nx + 1)) [.int .i64 (nx + 1)] rfl
    exact (h.moved o1 q1 : PostMd w0 W B v its (nx + 1) (W.setCell ⟨B, 1, none⟩ (.int .i64 (nx + 1)))))
  have n1 := h.own.box.cell 1 (v := .int .i64 nx) rfl
  have nf := h.own.box.free 1
  have HY := Lib.hid (fun W1 (q : Keeps w0 W1) => hx.keep q)
  have KA := Lib.hid (fun o => (Keeps.refl W).alloc o)
  have HS := Lib.hid hS
  have hB := h.own.box.lt
  clear hx h hS
  have x4 := (HX.out _ (KA.out (.cells #[.int .i64 f, .int .i64 sz, .int .i64 l, .bool b] 50))).c4
  cases b with
  | true =>
    simp only [if_pos]
    unfold styV at *
    have CS := Lib.hid (HS.out ⟨f, l, true⟩ _ B v its nx (H0.out _ (KA.out (.cells #[.int .i64 f, .int .i64 sz, .int .i64 l, .bool true] 50)).drew) hl hn (by omega))
    unfold styV at CS
    simp only at CS
    go_enter Tryd.func47, Tryd.ntmps47
    go_wp2_with fail
    go_region_law (go_simp; go_at_call 17; (with_reducible refine CS.out.mono ?_); rintro e w2 ⟨rfl, p2⟩)
    all_goals
      have FIN := PostMd.from (KA.out _).drew p2
      go_end0
      exact ⟨rfl, FIN⟩
  | false =>
    simp only [Bool.false_eq_true, if_false]
    unfold styV at *
    have hw1 : IntKind.i64.wrap (nx + 1) = nx + 1 := IntWalk.i64_in _ (by omega)
    obtain ⟨v1, m1, Q1⟩ := HM.out
    have hz : (W.setCell ⟨B, 1, none⟩ (.int .i64 (nx + 1))).heap.size = W.heap.size := setCell_size _ _ _
    have bs := Blk.new (W.setCell ⟨B, 1, none⟩ (.int .i64 (nx + 1))) 50 #[.int .i64 f, .int .i64 sz, .int .i64 nx, .bool false]
    rw [hz] at bs
    have KB := (Keeps.refl (W.setCell ⟨B, 1, none⟩ (.int .i64 (nx + 1)))).alloc (.cells #[.int .i64 f, .int .i64 sz, .int .i64 nx, .bool false] 50)
    have m2 := m1.to KB
    have Q2 := Lib.hid (Q1.trans (Mvd.keep KB))
    have s0 := bs.cell 0 (v := .int .i64 f) rfl
    have s1 := bs.cell 1 (v := .int .i64 sz) rfl
    have s2 := bs.cell 2 (v := .int .i64 nx) rfl
    have s3 := bs.cell 3 (v := .bool false) rfl
    have y4 := (HY.out _ m2.keep).c4
    have CS := Lib.hid (HS.out ⟨f, nx, false⟩ _ B v1 its (nx + 1) (m2.to (Keeps.refl _).drew) hl (by omega) (by omega))
    unfold styV at CS
    simp only at CS
    clear bs m1 m2 Q1 KB x4
    go_enter Tryd.func47, Tryd.ntmps47
    go_wp2_with fail
    go_region_law (go_simp; go_at_call 17; (with_reducible refine CS.out.mono ?_); rintro e w2 ⟨rfl, p2⟩)
    all_goals
      obtain ⟨v2, m2, q2⟩ := PostMd.from (Keeps.refl _).drew p2
      have FIN : PostMd w0 W B v _ _ w2 := ⟨v2, m2, Q2.out.trans q2⟩
      go_end0
      exact ⟨rfl, FIN⟩
end
end Go.Proofs.YthmfkjgcbcjbaaaDoor

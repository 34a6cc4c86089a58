/-
  Contracts of glue, breakLine and word, of the package item.
-/
import Derived.Test.YthmfkjgcbcjbaaaDoorItd
import Derived.Test.YthmfkjgcbcjbaaaDoorCwc
namespace Go.Proofs.YthmfkjgcbcjbaaaDoor
open Go.RowKit Go.Lib Go.Maps

section
variable {w0 W : World} {B : Nat} {v : Value} {its : List It} {nx : Int}
theorem glue_yes {sz : Int} {s : Sty} (h : endsK 1 its = true) : glueP sz s its = its ++ [itGlue sz s] := by unfold glueP; rw [if_pos h]
theorem glue_not {sz : Int} {s : Sty} (h : endsK 1 its = false) : glueP sz s its = its := by unfold glueP; rw [if_neg (by rw [h]; decide)]
/-- One item is made and put behind; the struct's field tells so. -/
theorem Md.made (h : Md w0 W B v its nx) (x : It) (hlen : its.length ≤ 1000000) : ∃ A8 c8 w8,
    (Builtin.append_ #[27, 27] 27 #[v, .slice (some ⟨W.heap.size, 0, none⟩) 1 1]).run Tryd.prog (W.alloc (.cells #[.int .i64 x.kind, .int .i64 x.width, .int .i64 x.grow, .int .i64 x.shrink, .int .i64 x.cost, .string ⟨x.codes.toArray⟩, .int .i64 x.font, .int .i64 x.size, .int .i64 x.link] 35)) = .ok (.slice A8 (its.length + 1) c8) w8 ∧
      Blk w8 B 47 #[v, .int .i64 nx] ∧ PostMd w0 W B v (its ++ [x]) nx (w8.setCell ⟨B, 0, none⟩ (.slice A8 (its.length + 1) c8)) := by
  obtain ⟨A8, c8, w8, ra, b8, o8, m8⟩ := h.own.made x hlen h.keep.size
  exact ⟨A8, c8, w8, ra, b8, h.moved o8 m8⟩
set_option maxRecDepth 100000 in
set_option maxHeartbeats 4000000 in
theorem mglue_any (sz : Int) (s : Sty) (h : Md w0 W B v its nx) (hl : its.length ≤ 999999) (h1 : 0 ≤ sz) (h2 : sz ≤ 2147483648) (hF : Fnt w0) :
    Calls Tryd.prog 43 #[.pointer (some ⟨B, 0, none⟩), styV sz s] W fun e w' => e = .returned (.tuple #[]) ∧ PostMd w0 W B v (glueP sz s its) nx w' := by
  have KA := Lib.hid (fun o => (Keeps.refl W).alloc o)
  have EW := Lib.hid (fun o => endsWith_any 1 (h.to (KA.out o)) (Nat.le_succ_of_le hl))
  obtain ⟨f, l, b⟩ := s
  cases he : endsK 1 its with
  | false =>
    rw [he] at EW
    rw [glue_not he]
    have FIN := Lib.hid (fun o => h.post (KA.out o))
    clear h
    unfold styV
    go_enter Tryd.func43, Tryd.ntmps43
    go_wp2_with fail
    refine (EW.out _).mono ?_
    rintro e w1 ⟨rfl, rfl⟩
    go_wp2_with fail
    go_end0
    exact ⟨rfl, FIN.out _⟩
  | true =>
    rw [he] at EW
    rw [glue_yes he]
    have HG := Lib.hid (fun W1 (k : Keeps W W1) => sglue_any sz ⟨f, l, b⟩ W1 h1 h2 (hF.keep (h.keep.trans k)))
    have HM := Lib.hid (fun W1 (k : Keeps W W1) => (h.to k).made (itGlue sz ⟨f, l, b⟩) (Nat.le_succ_of_le hl))
    have HB := Lib.hid (fun W1 (k : Keeps W W1) => (h.own.keep k).box.cell 0 (v := v) rfl)
    have HP := Lib.hid (fun W1 (k : Keeps W W1) W' (q : PostMd w0 W1 B v (its ++ [itGlue sz ⟨f, l, b⟩]) nx W') => PostMd.from k q)
    obtain ⟨A, cap, hv, _, _⟩ := row_form h.own.row
    subst hv
    unfold styV at *
    clear h
    generalize hx : itGlue sz ⟨f, l, b⟩ = x at *
    obtain ⟨x1, x2, x3, x4, x5, x6, x7, x8, x9⟩ := x
    simp only [itC_arr] at HG
    go_enter Tryd.func43, Tryd.ntmps43
    go_wp2_with fail
    refine (EW.out _).mono ?_
    rintro e w1 ⟨rfl, rfl⟩
    have b0 := HB.out _ (KA.out (.cells #[.int .i64 f, .int .i64 sz, .int .i64 l, .bool b] 50))
    go_wp2_with fail
    go_region_law (first
      | (refine step_append_run' rfl (.tmp 10) (.tmp 13) _ _ rfl _ _ (by simp [Act.eval]) (by simp [Act.eval]) _ _ ra ?_)
      | (go_simp; go_at_call 56; (with_reducible refine (HG.out _ (KA.out _).drew).mono ?_); rintro e w1 ⟨rfl, k1⟩; have K1 := (KA.out _).drew.trans k1; obtain ⟨A8, c8, w8, ra, b8, p8⟩ := HM.out w1 K1; have b2a := HB.out w1 K1; have b2b := HB.out _ (K1.trans ((Keeps.refl w1).alloc (.cells #[.int .i64 x1, .int .i64 x2, .int .i64 x3, .int .i64 x4, .int .i64 x5, .string ⟨x6.toArray⟩, .int .i64 x7, .int .i64 x8, .int .i64 x9] 35))); have y2 := b8.cell 0 (v := .slice A its.length cap) rfl; have yf := b8.free 0))
    all_goals
      have FIN := HP.out w1 K1 _ p8
      clear p8 ra b8 b2a b2b y2 yf
      go_end0
      exact ⟨rfl, FIN⟩
theorem brk_not (h : endsK 1 (dropG its) = false) : brkP its = dropG its := by unfold brkP; rw [if_neg (by rw [h]; decide)]
theorem brk_yes (h : endsK 1 (dropG its) = true) : brkP its = dropG its ++ [itPen (-10000)] := by unfold brkP; rw [if_pos h]
set_option maxRecDepth 100000 in
set_option maxHeartbeats 4000000 in
theorem breakLine_any (h : Md w0 W B v its nx) (hl : its.length ≤ 999999) :
    Calls Tryd.prog 44 #[.pointer (some ⟨B, 0, none⟩)] W fun e w' => e = .returned (.tuple #[]) ∧ PostMd w0 W B v (brkP its) nx w' := by
  have DG := Lib.hid (dropGlue_any h (Nat.le_succ_of_le hl))
  have hd := Nat.le_trans (drop_len its) hl
  cases he : endsK 1 (dropG its) with
  | false =>
    rw [brk_not he]
    clear h
    go_enter Tryd.func44, Tryd.ntmps44
    go_wp2_with fail
    refine DG.out.mono ?_
    rintro e w1 ⟨rfl, P1⟩
    obtain ⟨v1, m1, q1⟩ := P1
    have EW := endsWith_any 1 m1 (Nat.le_succ_of_le hd)
    rw [he] at EW
    have FIN : PostMd w0 W B v (dropG its) nx w1 := ⟨v1, m1, q1⟩
    clear m1 q1
    go_wp2_with fail
    refine EW.mono ?_
    rintro e w2 ⟨rfl, rfl⟩
    go_wp2_with fail
    go_end0
    exact ⟨rfl, FIN⟩
  | true =>
    rw [brk_yes he]
    clear h
    go_enter Tryd.func44, Tryd.ntmps44
    go_wp2_with fail
    refine DG.out.mono ?_
    rintro e w1 ⟨rfl, P1⟩
    obtain ⟨v1, m1, q1⟩ := P1
    have EW := endsWith_any 1 m1 (Nat.le_succ_of_le hd)
    rw [he] at EW
    obtain ⟨A, cap, rfl, _, _⟩ := row_form m1.own.row
    have b0 := m1.own.box.cell 0 (v := .slice A (dropG its).length cap) rfl
    obtain ⟨A8, c8, w8, ra, b8, v8, m8, q8⟩ := m1.made (itPen (-10000)) (Nat.le_succ_of_le hd)
    have FIN : PostMd w0 W B v (dropG its ++ [itPen (-10000)]) nx (w8.setCell ⟨B, 0, none⟩ (.slice A8 ((dropG its).length + 1) c8)) := ⟨v8, m8, q1.trans q8⟩
    have y2 := b8.cell 0 (v := .slice A (dropG its).length cap) rfl
    have yf := b8.free 0
    clear m1 q1 m8 q8 b8
    unfold itPen at ra
    simp only at ra
    go_wp2_with fail
    refine EW.mono ?_
    rintro e w2 ⟨rfl, rfl⟩
    go_wp2_with (at_builtin; refine wpList_append_run rfl (.tmp 10) (.tmp 12) _ _ rfl _ _ (by rfl) (by rfl) _ _ ra ?_)
    go_end0
    exact ⟨rfl, FIN⟩
end
end Go.Proofs.YthmfkjgcbcjbaaaDoor

/-
  Texts of the proof, one behind the other: Ite, Im4.
-/
import Derived.Test.YtfnkokfkhjdkfaaDoorM17
import Derived.Test.YtfnkokfkhjdkfaaDoorM26
import Derived.Test.YtfnkokfkhjdkfaaDoorM11
/-
  Contracts of glue, breakLine and word, of the package item.
-/
namespace Go.Proofs.YtfnkokfkhjdkfaaDoor
open Go.RowKit Go.Lib Go.Maps

section
variable {w0 W : World} {B : Nat} {v : Value} {its : List It} {nx : Int}
theorem glue_yes {sz : Int} {s : Sty} (h : endsK 1 its = true) : glueP sz s its = its ++ [itGlue sz s] := by unfold glueP; rw [if_pos h]
theorem glue_not {sz : Int} {s : Sty} (h : endsK 1 its = false) : glueP sz s its = its := by unfold glueP; rw [if_neg (by rw [h]; decide)]
/-- One item is made and put behind; the struct's field tells so. -/
theorem Md.made (h : Md w0 W B v its nx) (x : It) (hlen : its.length ≤ 1000000) : ∃ A8 c8 w8,
    (Builtin.append_ #[27, 27] 27 #[v, .slice (some ⟨W.heap.size, 0, none⟩) 1 1]).run Tryd.prog (W.alloc (.cells #[.int .i64 x.kind, .int .i64 x.width, .int .i64 x.grow, .int .i64 x.shrink, .int .i64 x.cost, .string ⟨x.codes.toArray⟩, .int .i64 x.font, .int .i64 x.size, .int .i64 x.link] 42)) = .ok (.slice A8 (its.length + 1) c8) w8 ∧
      Blk w8 B 50 #[v, .int .i64 nx] ∧ PostMd w0 W B v (its ++ [x]) nx (w8.setCell ⟨B, 0, none⟩ (.slice A8 (its.length + 1) c8)) := by
  obtain ⟨A8, c8, w8, ra, b8, o8, m8⟩ := h.own.made x hlen h.keep.size
  exact ⟨A8, c8, w8, ra, b8, h.moved o8 m8⟩
set_option maxRecDepth 100000 in
set_option maxHeartbeats 4000000 in
theorem mglue_any (sz : Int) (s : Sty) (h : Md w0 W B v its nx) (hl : its.length ≤ 999999) (h1 : 0 ≤ sz) (h2 : sz ≤ 2147483648) (hF : Fnt w0) :
    Calls Tryd.prog 57 #[.pointer (some ⟨B, 0, none⟩), styV sz s] W fun e w' => e = .returned (.tuple #[]) ∧ PostMd w0 W B v (glueP sz s its) nx w' := by
  have KA := Lib.hid (fun o => (Keeps.refl W).alloc o)
  have EW := Lib.hid (fun o => endsWith_any 1 (h.to (KA.out o)) (Nat.le_succ_of_le hl))
  obtain ⟨f, l, b⟩ := s
  cases he : endsK 1 its with
  | false =>
    rw [he] at EW
    rw [glue_not he]
    have FIN := Lib.hid (fun o => h.post (KA.out o))
    clear h
    unfold styV
    go_enter Tryd.func57, Tryd.ntmps57
    go_wp2_with fail
    refine (EW.out _).mono ?_
    rintro e w1 ⟨rfl, rfl⟩
    go_wp2_with fail
    go_end0
    exact ⟨rfl, FIN.out _⟩
  | true =>
    rw [he] at EW
    rw [glue_yes he]
    have HG := Lib.hid (fun W1 (k : Keeps W W1) => sglue_any sz ⟨f, l, b⟩ W1 h1 h2 (hF.keep (h.keep.trans k)))
    have HM := Lib.hid (fun W1 (k : Keeps W W1) => (h.to k).made (itGlue sz ⟨f, l, b⟩) (Nat.le_succ_of_le hl))
    have HB := Lib.hid (fun W1 (k : Keeps W W1) => (h.own.keep k).box.cell 0 (v := v) rfl)
    have HP := Lib.hid (fun W1 (k : Keeps W W1) W' (q : PostMd w0 W1 B v (its ++ [itGlue sz ⟨f, l, b⟩]) nx W') => PostMd.from k q)
    obtain ⟨A, cap, hv, _, _⟩ := row_form h.own.row
    subst hv
    unfold styV at *
    clear h
    generalize hx : itGlue sz ⟨f, l, b⟩ = x at *
    obtain ⟨x1, x2, x3, x4, x5, x6, x7, x8, x9⟩ := x
    simp only [itC_arr] at HG
    go_enter Tryd.func57, Tryd.ntmps57
    go_wp2_with fail
    refine (EW.out _).mono ?_
    rintro e w1 ⟨rfl, rfl⟩
    have b0 := HB.out _ (KA.out (.cells #[.int .i64 f, .int .i64 sz, .int .i64 l, .bool b] 53))
    go_wp2_with fail
    go_region_law (first
      | (refine step_append_run' rfl (.tmp 10) (.tmp 13) _ _ rfl _ _ (by simp [Act.eval]) (by simp [Act.eval]) _ _ ra ?_)
      | (go_simp; go_at_call 75; (with_reducible refine (HG.out _ (KA.out _).drew).mono ?_); rintro e w1 ⟨rfl, k1⟩; have K1 := (KA.out _).drew.trans k1; obtain ⟨A8, c8, w8, ra, b8, p8⟩ := HM.out w1 K1; have b2a := HB.out w1 K1; have b2b := HB.out _ (K1.trans ((Keeps.refl w1).alloc (.cells #[.int .i64 x1, .int .i64 x2, .int .i64 x3, .int .i64 x4, .int .i64 x5, .string ⟨x6.toArray⟩, .int .i64 x7, .int .i64 x8, .int .i64 x9] 42))); have y2 := b8.cell 0 (v := .slice A its.length cap) rfl; have yf := b8.free 0))
    all_goals
      have FIN := HP.out w1 K1 _ p8
      clear p8 ra b8 b2a b2b y2 yf
      go_end0
      exact ⟨rfl, FIN⟩
theorem brk_not (h : endsK 1 (dropG its) = false) : brkP its = dropG its := by unfold brkP; rw [if_neg (by rw [h]; decide)]
theorem brk_yes (h : endsK 1 (dropG its) = true) : brkP its = dropG its ++ [itPen (-10000)] := by unfold brkP; rw [if_pos h]
set_option maxRecDepth 100000 in
set_option maxHeartbeats 4000000 in
theorem breakLine_any (h : Md w0 W B v its nx) (hl : its.length ≤ 999999) :
    Calls Tryd.prog 58 #[.pointer (some ⟨B, 0, none⟩)] W fun e w' => e = .returned (.tuple #[]) ∧ PostMd w0 W B v (brkP its) nx w' := by
  have DG := Lib.hid (dropGlue_any h (Nat.le_succ_of_le hl))
  have hd := Nat.le_trans (drop_len its) hl
  cases he : endsK 1 (dropG its) with
  | false =>
    rw [brk_not he]
    clear h
    go_enter Tryd.func58, Tryd.ntmps58
    go_wp2_with fail
    refine DG.out.mono ?_
    rintro e w1 ⟨rfl, P1⟩
    obtain ⟨v1, m1, q1⟩ := P1
    have EW := endsWith_any 1 m1 (Nat.le_succ_of_le hd)
    rw [he] at EW
    have FIN : PostMd w0 W B v (dropG its) nx w1 := ⟨v1, m1, q1⟩
    clear m1 q1
    go_wp2_with fail
    refine EW.mono ?_
    rintro e w2 ⟨rfl, rfl⟩
    go_wp2_with fail
    go_end0
    exact ⟨rfl, FIN⟩
  | true =>
    rw [brk_yes he]
    clear h
    go_enter Tryd.func58, Tryd.ntmps58
    go_wp2_with fail
    refine DG.out.mono ?_
    rintro e w1 ⟨rfl, P1⟩
    obtain ⟨v1, m1, q1⟩ := P1
    have EW := endsWith_any 1 m1 (Nat.le_succ_of_le hd)
    rw [he] at EW
    obtain ⟨A, cap, rfl, _, _⟩ := row_form m1.own.row
    have b0 := m1.own.box.cell 0 (v := .slice A (dropG its).length cap) rfl
    obtain ⟨A8, c8, w8, ra, b8, v8, m8, q8⟩ := m1.made (itPen (-10000)) (Nat.le_succ_of_le hd)
    have FIN : PostMd w0 W B v (dropG its ++ [itPen (-10000)]) nx (w8.setCell ⟨B, 0, none⟩ (.slice A8 ((dropG its).length + 1) c8)) := ⟨v8, m8, q1.trans q8⟩
    have y2 := b8.cell 0 (v := .slice A (dropG its).length cap) rfl
    have yf := b8.free 0
    clear m1 q1 m8 q8 b8
    unfold itPen at ra
    simp only at ra
    go_wp2_with fail
    refine EW.mono ?_
    rintro e w2 ⟨rfl, rfl⟩
    go_wp2_with (at_builtin; refine wpList_append_run rfl (.tmp 10) (.tmp 12) _ _ rfl _ _ (by rfl) (by rfl) _ _ ra ?_)
    go_end0
    exact ⟨rfl, FIN⟩
end
end Go.Proofs.YtfnkokfkhjdkfaaDoor

/-
  The document's maker in memory; contracts of its glue and trim.
-/
namespace Go.Proofs.YtfnkokfkhjdkfaaDoor
open Go.RowKit Go.Lib Go.Maps

/-- The document's maker at B: its items, its size, the next link. -/
structure Mr (w0 : World) (sz : Int) (W : World) (B : Nat) (v : Value) (its : List It) (nx : Int) : Prop where
  own : Own w0.heap.size 56 W B [.int .i64 sz, .int .i64 nx] v its
  keep : Keeps w0 W
def PostMr (w0 : World) (sz : Int) (W : World) (B : Nat) (v : Value) (its : List It) (nx : Int) (W' : World) : Prop := ∃ v', Mr w0 sz W' B v' its nx ∧ Mvd W W' B v v'
section
variable {w0 W : World} {sz : Int} {B : Nat} {v : Value} {its : List It} {nx : Int}
theorem Mr.moved {W' : World} {v' : Value} {its' : List It} {nx' : Int} (h : Mr w0 sz W B v its nx) (o : Own w0.heap.size 56 W' B [.int .i64 sz, .int .i64 nx'] v' its') (m : Mvd W W' B v v') : PostMr w0 sz W B v its' nx' W' :=
  ⟨v', ⟨o, Below.trans h.keep (h.own.below m h.keep.size)⟩, m⟩
theorem Mr.to {W' : World} (h : Mr w0 sz W B v its nx) (k : Keeps W W') : Mr w0 sz W' B v its nx := ⟨h.own.keep k, h.keep.trans k⟩
theorem Mr.post (h : Mr w0 sz W B v its nx) {W' : World} (k : Keeps W W') : PostMr w0 sz W B v its nx W' := ⟨v, h.to k, Mvd.keep k⟩
theorem PostMr.from {W1 W' : World} (k : Keeps W W1) (h : PostMr w0 sz W1 B v its nx W') : PostMr w0 sz W B v its nx W' := by
  obtain ⟨v', m, c⟩ := h
  exact ⟨v', m, (Mvd.keep k).trans c⟩
theorem PostMr.keep {W1 W' : World} (h : PostMr w0 sz W B v its nx W1) (k : Keeps W1 W') : PostMr w0 sz W B v its nx W' := by
  obtain ⟨v', m, c⟩ := h
  exact ⟨v', m.to k, c.trans (Mvd.keep k)⟩
/-- One item is made and put behind; the struct's field tells so. -/
theorem Mr.made (h : Mr w0 sz W B v its nx) (x : It) (hlen : its.length ≤ 1000000) : ∃ A8 c8 w8,
    (Builtin.append_ #[27, 27] 27 #[v, .slice (some ⟨W.heap.size, 0, none⟩) 1 1]).run Tryd.prog (W.alloc (.cells #[.int .i64 x.kind, .int .i64 x.width, .int .i64 x.grow, .int .i64 x.shrink, .int .i64 x.cost, .string ⟨x.codes.toArray⟩, .int .i64 x.font, .int .i64 x.size, .int .i64 x.link] 42)) = .ok (.slice A8 (its.length + 1) c8) w8 ∧
      Blk w8 B 56 #[v, .int .i64 sz, .int .i64 nx] ∧ PostMr w0 sz W B v (its ++ [x]) nx (w8.setCell ⟨B, 0, none⟩ (.slice A8 (its.length + 1) c8)) := by
  obtain ⟨A8, c8, w8, ra, b8, o8, m8⟩ := h.own.made x hlen h.keep.size
  exact ⟨A8, c8, w8, ra, b8, h.moved o8 m8⟩
set_option maxRecDepth 100000 in
set_option maxHeartbeats 4000000 in
theorem rtrim_any (h : Mr w0 sz W B v its nx) (hl : its.length ≤ 1000000) :
    Calls Tryd.prog 21 #[.pointer (some ⟨B, 0, none⟩)] W fun e w' => e = .returned (.tuple #[]) ∧ PostMr w0 sz W B v (dropG its) nx w' := by
  have b0 := h.own.box.cell 0 (v := v) rfl
  rcases List.eq_nil_or_concat its with rfl | ⟨l, x, rfl⟩
  · obtain ⟨A, cap, rfl, h1, h2⟩ := row_form h.own.row
    have FIN := Lib.hid (show PostMr w0 sz W B (.slice A ([] : List It).length cap) (dropG []) nx W from h.post (Keeps.refl _))
    simp only [List.length_nil] at *
    clear h
    go_enter Tryd.func21, Tryd.ntmps21
    go_wp2_with fail
    go_end0
    exact ⟨rfl, FIN.out⟩
  · rw [List.concat_eq_append] at *
    obtain ⟨g, cap, rfl, h1, h2⟩ := h.own.at_ (by simp)
    have c0 := h.own.cell (i := l.length) (by simp) 0 (by decide)
    rw [List.getElem_append_right (Nat.le_refl _)] at c0
    simp only [Nat.sub_self, List.getElem_singleton, Nat.add_zero] at c0
    have c1 : W.cell? ⟨g, l.length * 9, none⟩ = some (.int .i64 x.kind) := c0
    clear c0
    have he := ends_app 2 l x
    cases hb : (x.kind == 2) with
    | false =>
      rw [hb] at he
      have FIN := Lib.hid (show PostMr w0 sz W B (.slice (some ⟨g, 0, none⟩) (l ++ [x]).length cap) (dropG (l ++ [x])) nx W by rw [drop_not he]; exact h.post (Keeps.refl _))
      clear h he
      simp only [List.length_append, List.length_singleton] at *
      generalize l.length = n at *
      have hw : IntKind.i64.wrap (((n + 1 : Nat) : Int) - 1) = (n : Int) := by rw [IntWalk.i64_in _ (by omega)]; omega
      have hn : n < n + 1 := by omega
      go_enter Tryd.func21, Tryd.ntmps21
      go_wp2_with fail
      go_end0
      exact ⟨rfl, FIN.out⟩
    | true =>
      rw [hb] at he
      have f0 := h.own.box.free 0
      have FIN := Lib.hid (show PostMr w0 sz W B (.slice (some ⟨g, 0, none⟩) (l ++ [x]).length cap) (dropG (l ++ [x])) nx (W.setCell ⟨B, 0, none⟩ (.slice (some ⟨g, 0, none⟩) ((l ++ [x]).length - 1) cap)) by
        obtain ⟨o, m⟩ := h.own.pop (by simp)
        rw [drop_yes he]
        exact h.moved o m)
      clear h he
      simp only [List.length_append, List.length_singleton, Nat.add_sub_cancel] at *
      generalize l.length = n at *
      have hw : IntKind.i64.wrap (((n + 1 : Nat) : Int) - 1) = (n : Int) := by rw [IntWalk.i64_in _ (by omega)]; omega
      have hn : n < n + 1 := by omega
      have hs1 : (0 : Int) ≤ (n : Int) := by omega
      have hs2 : (n : Int) ≤ (cap : Int) := by omega
      go_enter Tryd.func21, Tryd.ntmps21
      go_wp2_with fail
      go_end0
      exact ⟨rfl, FIN.out⟩
set_option maxRecDepth 100000 in
set_option maxHeartbeats 4000000 in
theorem rglue_any (f : Int) (h : Mr w0 sz W B v its nx) (hl : its.length ≤ 999999) (z1 : 0 ≤ sz) (z2 : sz ≤ 2147483648) (hF : FntR w0) :
    Calls Tryd.prog 35 #[.pointer (some ⟨B, 0, none⟩), .int .i64 f] W fun e w' => e = .returned (.tuple #[]) ∧ PostMr w0 sz W B v (glueP sz ⟨f, 0, false⟩ its) nx w' := by
  have b0 := h.own.box.cell 0 (v := v) rfl
  have b1 := h.own.box.cell 1 (v := .int .i64 sz) rfl
  rcases List.eq_nil_or_concat its with rfl | ⟨l, x, rfl⟩
  · obtain ⟨A, cap, rfl, h1, h2⟩ := row_form h.own.row
    have FIN := Lib.hid (show PostMr w0 sz W B (.slice A ([] : List It).length cap) (glueP sz ⟨f, 0, false⟩ []) nx W from h.post (Keeps.refl _))
    simp only [List.length_nil] at *
    clear h
    go_enter Tryd.func35, Tryd.ntmps35
    go_wp2_with fail
    refine bodyPost_ret (results_none rfl _ _ _) rfl ?_
    exact ⟨rfl, FIN.out⟩
  · rw [List.concat_eq_append] at *
    obtain ⟨g, cap, rfl, h1, h2⟩ := h.own.at_ (by simp)
    have c0 := h.own.cell (i := l.length) (by simp) 0 (by decide)
    rw [List.getElem_append_right (Nat.le_refl _)] at c0
    simp only [Nat.sub_self, List.getElem_singleton, Nat.add_zero] at c0
    have c1 : W.cell? ⟨g, l.length * 9, none⟩ = some (.int .i64 x.kind) := c0
    clear c0
    have he := ends_app 1 l x
    cases hb : (x.kind == 1) with
    | false =>
      rw [hb] at he
      rw [glue_not he]
      have FIN := Lib.hid (h.post (Keeps.refl _))
      clear h he
      simp only [List.length_append, List.length_singleton] at *
      generalize l.length = n at *
      have hw : IntKind.i64.wrap (((n + 1 : Nat) : Int) - 1) = (n : Int) := by rw [IntWalk.i64_in _ (by omega)]; omega
      have hn : n < n + 1 := by omega
      have t0 : (((n + 1 : Nat) : Int) == 0) = false := beqF (by omega)
      have t1 : ((n : Int) + 1 == 0) = false := beqF (by omega)
      go_enter Tryd.func35, Tryd.ntmps35
      go_wp2_with fail
      refine bodyPost_ret (results_none rfl _ _ _) rfl ?_
      exact ⟨rfl, FIN.out⟩
    | true =>
      rw [hb] at he
      rw [glue_yes he]
      have RA := Lib.hid (radv_any f sz 32 (by decide) W (by omega) z2 (hF.keep h.keep))
      obtain ⟨A8, c8, w8, ra, b8, p8⟩ := h.made (itGlue sz ⟨f, 0, false⟩) (Nat.le_succ_of_le hl)
      have y2 := b8.cell 0 (v := .slice (some ⟨g, 0, none⟩) (l ++ [x]).length cap) rfl
      have yf := b8.free 0
      have FIN := Lib.hid p8
      have a0 := adv_nonneg (f := f) (c := 32) (by decide) z1
      have a1 := adv_le (f := f) (c := 32) (by decide) z1 z2
      unfold itGlue at ra
      simp only at ra
      clear h he p8 b8
      simp only [List.length_append, List.length_singleton] at *
      generalize advL f sz 32 = d at *
      generalize l.length = n at *
      have hw : IntKind.i64.wrap (((n + 1 : Nat) : Int) - 1) = (n : Int) := by rw [IntWalk.i64_in _ (by omega)]; omega
      have hn : n < n + 1 := by omega
      have t0 : (((n + 1 : Nat) : Int) == 0) = false := beqF (by omega)
      have t1 : ((n : Int) + 1 == 0) = false := beqF (by omega)
      have q2 : IntKind.i64.wrap (d.tdiv 2) = d.tdiv 2 := by rw [Int.tdiv_eq_ediv_of_nonneg a0]; exact IntWalk.i64_in _ (by omega)
      have q3 : IntKind.i64.wrap (d.tdiv 3) = d.tdiv 3 := by rw [Int.tdiv_eq_ediv_of_nonneg a0]; exact IntWalk.i64_in _ (by omega)
      go_enter Tryd.func35, Tryd.ntmps35
      go_wp2_with fail
      refine RA.out.mono ?_
      rintro e w1 ⟨rfl, rfl⟩
      go_wp2_with (at_builtin; refine wpList_append_run rfl (.tmp 35) (.tmp 42) _ _ rfl _ _ (by rfl) (by rfl) _ _ ra ?_)
      go_end0
      exact ⟨rfl, FIN.out⟩
end
end Go.Proofs.YtfnkokfkhjdkfaaDoor


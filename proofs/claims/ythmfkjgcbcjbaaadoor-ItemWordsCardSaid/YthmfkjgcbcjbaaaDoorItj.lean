/-
  Contract of span, of the package item, given that of spans for the kids.
-/
import Derived.Test.YthmfkjgcbcjbaaaDoorIti
namespace Go.Proofs.YthmfkjgcbcjbaaaDoor
open Go.RowKit Go.Lib Go.Maps

section
variable {w0 W : World} {B : Nat} {v : Value} {its : List It} {nx : Int} {g o : Nat} {k : Int} {t d ti : List UInt8} {ks : List St} {kv : Value}
set_option maxRecDepth 100000 in
set_option maxHeartbeats 32000000 in
theorem span_do (sz : Int) (s : Sty) (h1 : 0 ≤ sz) (h2 : sz ≤ 2147483648) (hE : EnvI w0) (hS : SpansDo w0 sz ks kv) (h : Md w0 W B v its nx) (hx : StC w0 g o k t d ti kv) (hl : its.length + 2 * wS (.mk k t d ti ks) ≤ 190000) (hn : 0 ≤ nx) (hm : nx + wS (.mk k t d ti ks) ≤ 4611686018427387904) :
    Calls Tryd.prog 26 #[.pointer (some ⟨B, 0, none⟩), .pointer (some ⟨g, o, none⟩), styV sz s] W fun e w' => e = .returned (.tuple #[]) ∧ PostMd w0 W B v (spnP sz (.mk k t d ti ks) s (its, nx)).1 (spnP sz (.mk k t d ti ks) s (its, nx)).2 w' := by
  rw [wS_mk] at hl hm
  have KA := Lib.hid (fun o => (Keeps.refl W).alloc o)
  have H0 := Lib.hid (fun W1 (q : Keeps W W1) => h.to q)
  have HX := Lib.hid (fun W1 (q : Keeps W W1) => hx.loads h q)
  have HS := Lib.hid (fun s' W1 (q : Keeps W W1) => hS s' W1 B v its nx (h.to q) (by omega) hn (by omega))
  have HT := Lib.hid (fun s' W1 (q : Keeps W W1) => text_any' sz s' ⟨t.toArray⟩ (h.to q) (by show its.length + 2 * t.toArray.size ≤ _; simp; omega) h1 h2 hE (by show t.toArray.size ≤ _; simp; omega))
  have HG := Lib.hid (fun W1 (q : Keeps W W1) => mglue_any sz s (h.to q) (by omega) h1 h2 hE.fnt)
  have HBr := Lib.hid (fun W1 (q : Keeps W W1) => breakLine_any (h.to q) (by omega))
  have HLk := Lib.hid (fun W1 (q : Keeps W W1) => link_do sz s hS (h.to q) hx (by omega) hn (by omega))
  have HP := Lib.hid (fun W1 (q : Keeps W W1) its' nx' W' (p : PostMd w0 W1 B v its' nx' W') => PostMd.from q p)
  have HF := Lib.hid (fun W1 (q : Keeps W W1) => h.post q)
  have M1 := Lib.hid (fun W1 => mono_any sz s W1)
  have M2 := Lib.hid (fun W1 => slanted_any sz s W1)
  have M3 := Lib.hid (fun W1 => bold_any sz s W1)
  have M4 := Lib.hid (fun W1 => inImage_any sz s W1)
  clear hx hS h hE
  obtain ⟨f, l, b⟩ := s
  have x := HX.out _ (KA.out (.cells #[.int .i64 f, .int .i64 sz, .int .i64 l, .bool b] 50))
  have x0 := x.c0
  have x1 := x.c1
  have x4 := x.c4
  have ht : (⟨t.toArray⟩ : ByteArray).data.toList = t := rfl
  rw [ht] at HT
  clear x ht
  rw [spnP]
  unfold styV at *
  simp only at *
  by_cases e1 : k = 1
  · subst e1
    rw [if_pos rfl]
    go_enter Tryd.func26, Tryd.ntmps26
    go_wp2_with fail
    go_region_law (go_simp; go_at_call 41; (with_reducible refine (HT.out ⟨f, l, b⟩ _ (KA.out (.cells #[.int .i64 f, .int .i64 sz, .int .i64 l, .bool b] 50)).drew).mono ?_); rintro e w2 ⟨rfl, p2⟩)
    all_goals
      have FIN := HP.out _ (KA.out (.cells #[.int .i64 f, .int .i64 sz, .int .i64 l, .bool b] 50)).drew _ _ _ p2
      go_end0
      exact ⟨rfl, FIN⟩
  by_cases e2 : k = 2
  · subst e2
    rw [if_neg (by decide : ¬ (2 : Int) = 1), if_pos rfl]
    go_enter Tryd.func26, Tryd.ntmps26
    go_wp2_with fail
    refine (HG.out _ (KA.out (.cells #[.int .i64 f, .int .i64 sz, .int .i64 l, .bool b] 50))).mono ?_
    rintro e w2 ⟨rfl, p2⟩
    go_wp2_with fail
    have FIN := HP.out _ (KA.out (.cells #[.int .i64 f, .int .i64 sz, .int .i64 l, .bool b] 50)) _ _ _ p2
    go_end0
    exact ⟨rfl, FIN⟩
  by_cases e3 : k = 3
  · subst e3
    rw [if_neg (by decide : ¬ (3 : Int) = 1), if_neg (by decide : ¬ (3 : Int) = 2), if_pos rfl]
    go_enter Tryd.func26, Tryd.ntmps26
    go_wp2_with fail
    refine (HBr.out _ (KA.out (.cells #[.int .i64 f, .int .i64 sz, .int .i64 l, .bool b] 50))).mono ?_
    rintro e w2 ⟨rfl, p2⟩
    go_wp2_with fail
    have FIN := HP.out _ (KA.out (.cells #[.int .i64 f, .int .i64 sz, .int .i64 l, .bool b] 50)) _ _ _ p2
    go_end0
    exact ⟨rfl, FIN⟩
  by_cases e4 : k = 4
  · subst e4
    rw [if_neg (by decide : ¬ (4 : Int) = 1), if_neg (by decide : ¬ (4 : Int) = 2), if_neg (by decide : ¬ (4 : Int) = 3), if_pos rfl]
    go_enter Tryd.func26, Tryd.ntmps26
    go_wp2_with fail
    go_region_law (first
      | (go_simp; go_at_call 42; (with_reducible refine (M1.out _).mono ?_); rintro e w1 ⟨rfl, k1⟩; have K1 := (KA.out (.cells #[.int .i64 f, .int .i64 sz, .int .i64 l, .bool b] 50)).drew.trans k1; have y1 := (HX.out w1 K1).c1)
      | (go_simp; go_at_call 41; (with_reducible refine (HT.out ⟨4, l, b⟩ _ K1).mono ?_); rintro e w2 ⟨rfl, p2⟩))
    all_goals
      have FIN := HP.out _ K1 _ _ _ p2
      go_end0
      exact ⟨rfl, FIN⟩
  by_cases e5 : k = 5
  · subst e5
    rw [if_neg (by decide : ¬ (5 : Int) = 1), if_neg (by decide : ¬ (5 : Int) = 2), if_neg (by decide : ¬ (5 : Int) = 3), if_neg (by decide : ¬ (5 : Int) = 4), if_pos rfl]
    go_enter Tryd.func26, Tryd.ntmps26
    go_wp2_with fail
    go_region_law (first
      | (go_simp; go_at_call 45; (with_reducible refine (M2.out _).mono ?_); rintro e w1 ⟨rfl, k1⟩; have K1 := (KA.out (.cells #[.int .i64 f, .int .i64 sz, .int .i64 l, .bool b] 50)).drew.trans k1; have y4 := (HX.out w1 K1).c4)
      | (go_simp; go_at_call 17; (with_reducible refine (HS.out ⟨slF f, l, b⟩ _ K1).mono ?_); rintro e w2 ⟨rfl, p2⟩))
    all_goals
      have FIN := HP.out _ K1 _ _ _ p2
      go_end0
      exact ⟨rfl, FIN⟩
  by_cases e6 : k = 6
  · subst e6
    rw [if_neg (by decide : ¬ (6 : Int) = 1), if_neg (by decide : ¬ (6 : Int) = 2), if_neg (by decide : ¬ (6 : Int) = 3), if_neg (by decide : ¬ (6 : Int) = 4), if_neg (by decide : ¬ (6 : Int) = 5), if_pos rfl]
    go_enter Tryd.func26, Tryd.ntmps26
    go_wp2_with fail
    go_region_law (first
      | (go_simp; go_at_call 46; (with_reducible refine (M3.out _).mono ?_); rintro e w1 ⟨rfl, k1⟩; have K1 := (KA.out (.cells #[.int .i64 f, .int .i64 sz, .int .i64 l, .bool b] 50)).drew.trans k1; have y4 := (HX.out w1 K1).c4)
      | (go_simp; go_at_call 17; (with_reducible refine (HS.out ⟨bdF f, l, b⟩ _ K1).mono ?_); rintro e w2 ⟨rfl, p2⟩))
    all_goals
      have FIN := HP.out _ K1 _ _ _ p2
      go_end0
      exact ⟨rfl, FIN⟩
  by_cases e7 : k = 7
  · subst e7
    rw [if_neg (by decide : ¬ (7 : Int) = 1), if_neg (by decide : ¬ (7 : Int) = 2), if_neg (by decide : ¬ (7 : Int) = 3), if_neg (by decide : ¬ (7 : Int) = 4), if_neg (by decide : ¬ (7 : Int) = 5), if_neg (by decide : ¬ (7 : Int) = 6), if_pos rfl]
    generalize (if b = true then spnsP sz ks ⟨f, l, b⟩ (its, nx) else spnsP sz ks ⟨f, nx, b⟩ (its, nx + 1)) = q at *
    go_enter Tryd.func26, Tryd.ntmps26
    go_wp2_with fail
    refine (HLk.out _ (KA.out (.cells #[.int .i64 f, .int .i64 sz, .int .i64 l, .bool b] 50))).mono ?_
    rintro e w2 ⟨rfl, p2⟩
    go_wp2_with fail
    have FIN := HP.out _ (KA.out (.cells #[.int .i64 f, .int .i64 sz, .int .i64 l, .bool b] 50)) _ _ _ p2
    go_end0
    exact ⟨rfl, FIN⟩
  by_cases e8 : k = 8
  · subst e8
    rw [if_neg (by decide : ¬ (8 : Int) = 1), if_neg (by decide : ¬ (8 : Int) = 2), if_neg (by decide : ¬ (8 : Int) = 3), if_neg (by decide : ¬ (8 : Int) = 4), if_neg (by decide : ¬ (8 : Int) = 5), if_neg (by decide : ¬ (8 : Int) = 6), if_neg (by decide : ¬ (8 : Int) = 7), if_pos rfl]
    go_enter Tryd.func26, Tryd.ntmps26
    go_wp2_with fail
    go_region_law (first
      | (go_simp; go_at_call 48; (with_reducible refine (M4.out _).mono ?_); rintro e w1 ⟨rfl, k1⟩; have K1 := (KA.out (.cells #[.int .i64 f, .int .i64 sz, .int .i64 l, .bool b] 50)).drew.trans k1; have y4 := (HX.out w1 K1).c4)
      | (go_simp; go_at_call 17; (with_reducible refine (HS.out ⟨f, l, true⟩ _ K1).mono ?_); rintro e w2 ⟨rfl, p2⟩))
    all_goals
      have FIN := HP.out _ K1 _ _ _ p2
      go_end0
      exact ⟨rfl, FIN⟩
  by_cases e9 : k = 9
  · subst e9
    rw [if_neg (by decide : ¬ (9 : Int) = 1), if_neg (by decide : ¬ (9 : Int) = 2), if_neg (by decide : ¬ (9 : Int) = 3), if_neg (by decide : ¬ (9 : Int) = 4), if_neg (by decide : ¬ (9 : Int) = 5), if_neg (by decide : ¬ (9 : Int) = 6), if_neg (by decide : ¬ (9 : Int) = 7), if_neg (by decide : ¬ (9 : Int) = 8), if_pos rfl]
    go_enter Tryd.func26, Tryd.ntmps26
    go_wp2_with fail
    go_region_law (first
      | (go_simp; go_at_call 42; (with_reducible refine (M1.out _).mono ?_); rintro e w1 ⟨rfl, k1⟩; have K1 := (KA.out (.cells #[.int .i64 f, .int .i64 sz, .int .i64 l, .bool b] 50)).drew.trans k1; have y1 := (HX.out w1 K1).c1)
      | (go_simp; go_at_call 41; (with_reducible refine (HT.out ⟨4, l, b⟩ _ K1).mono ?_); rintro e w2 ⟨rfl, p2⟩))
    all_goals
      have FIN := HP.out _ K1 _ _ _ p2
      go_end0
      exact ⟨rfl, FIN⟩
  · simp only [if_neg e1, if_neg e2, if_neg e3, if_neg e4, if_neg e5, if_neg e6, if_neg e7, if_neg e8, if_neg e9]
    have u1 := beqF e1
    have u2 := beqF e2
    have u3 := beqF e3
    have u4 := beqF e4
    have u5 := beqF e5
    have u6 := beqF e6
    have u7 := beqF e7
    have u8 := beqF e8
    have u9 := beqF e9
    clear e1 e2 e3 e4 e5 e6 e7 e8 e9
    go_enter Tryd.func26, Tryd.ntmps26
    go_wp2_with fail
    go_end0
    exact ⟨rfl, HF.out _ (KA.out _)⟩
end
end Go.Proofs.YthmfkjgcbcjbaaaDoor

/-
  Contract of word, of the package item.
-/
import Derived.Test.YthmfkjgcbcjbaaaDoorIte
import Derived.Test.YthmfkjgcbcjbaaaDoorIt1
namespace Go.Proofs.YthmfkjgcbcjbaaaDoor
open Go.RowKit Go.Lib Go.Maps

section
variable {w0 W : World} {B : Nat} {v : Value} {its : List It} {nx : Int}
/-- The tables that item's functions read. -/
structure EnvI (w : World) : Prop where
  odd : Odd w
  fnt : Fnt w
theorem EnvI.keep {w w' : World} (h : EnvI w) (k : Keeps w w') : EnvI w' := ⟨h.odd.keep k, h.fnt.keep k⟩
set_option maxRecDepth 100000 in
set_option maxHeartbeats 8000000 in
theorem word_any (sz : Int) (s : Sty) (t : ByteArray) (h : Md w0 W B v its nx) (hl : its.length ≤ 999999) (h1 : 0 ≤ sz) (h2 : sz ≤ 2147483648) (hE : EnvI w0) (ht : t.size ≤ 100000) :
    Calls Tryd.prog 55 #[.pointer (some ⟨B, 0, none⟩), .string t, styV sz s] W fun e w' => e = .returned (.tuple #[]) ∧ PostMd w0 W B v (wordP sz s t.data.toList its) nx w' := by
  have KA := Lib.hid (fun o => (Keeps.refl W).alloc o)
  by_cases hn : t.data.toList = []
  · have htt : t = ⟨#[]⟩ := bytes_eq hn
    have FIN := Lib.hid (fun o => h.post (KA.out o))
    rw [show wordP sz s t.data.toList its = its by unfold wordP; rw [if_pos hn]]
    subst htt
    clear h hE
    obtain ⟨f, l, b⟩ := s
    unfold styV
    go_enter Tryd.func55, Tryd.ntmps55
    go_wp2_with fail
    go_end0
    exact ⟨rfl, FIN.out _⟩
  · rw [show wordP sz s t.data.toList its = its ++ [itBox sz s (codesL t.data.toList)] by unfold wordP; rw [if_neg hn]]
    have te : t.toList.isEmpty = false := by rw [List.isEmpty_eq_false_iff, Lib.toList_data]; exact hn
    have hcl := Nat.le_trans (Nat.le_of_eq (codesL_len t.data.toList)) (runesL_len t.data.toList)
    rw [bytes_len] at hcl
    have HC := Lib.hid (fun W1 (k : Keeps W W1) => codes_any t W1 ht (hE.odd.keep (h.keep.trans k)))
    have HX := Lib.hid (fun W1 (k : Keeps W W1) => box_any sz s ⟨(codesL t.data.toList).toArray⟩ W1 (by show (codesL t.data.toList).toArray.size ≤ _; simp; omega) h1 h2 (hE.fnt.keep (h.keep.trans k)))
    have HM := Lib.hid (fun W1 (k : Keeps W W1) => (h.to k).made (itBox sz s (codesL t.data.toList)) (Nat.le_succ_of_le hl))
    have HB := Lib.hid (fun W1 (k : Keeps W W1) => (h.own.keep k).box.cell 0 (v := v) rfl)
    have HP := Lib.hid (fun W1 (k : Keeps W W1) W' (q : PostMd w0 W1 B v (its ++ [itBox sz s (codesL t.data.toList)]) nx W') => PostMd.from k q)
    obtain ⟨A, cap, hv, _, _⟩ := row_form h.own.row
    subst hv
    clear h hE hcl hn
    obtain ⟨f, l, b⟩ := s
    unfold styV itBox at *
    simp only at *
    generalize codesL t.data.toList = c at *
    generalize hd : runL f sz c = d at *
    go_enter Tryd.func55, Tryd.ntmps55
    have b0 := HB.out _ (KA.out (.cells #[.int .i64 f, .int .i64 sz, .int .i64 l, .bool b] 50))
    have BS := Lib.hid (fun W1 (k : Keeps (W.alloc (.cells #[.int .i64 f, .int .i64 sz, .int .i64 l, .bool b] 50)) W1) => (Blk.new W 50 #[.int .i64 f, .int .i64 sz, .int .i64 l, .bool b]).keep k)
    go_wp2_with fail
    go_region_law (first
      | (refine step_append_run' rfl (.tmp 12) (.tmp 17) _ _ rfl _ _ (by simp [Act.eval]) (by simp [Act.eval]) _ _ ra ?_)
      | (go_simp; go_at_call 60; (with_reducible refine (HC.out _ (KA.out _).drew).mono ?_); rintro e w1 ⟨rfl, k1⟩; have K1 := (KA.out _).drew.trans k1; have b2a := HB.out w1 K1; have bs := BS.out w1 ((Keeps.refl _).drew.trans k1); have s0 := bs.cell 0 (v := .int .i64 f) rfl; have s1 := bs.cell 1 (v := .int .i64 sz) rfl; have s2 := bs.cell 2 (v := .int .i64 l) rfl; have s3 := bs.cell 3 (v := .bool b) rfl)
      | (go_simp; go_at_call 37; (with_reducible refine (HX.out _ K1).mono ?_); rintro e w2 ⟨rfl, k2⟩; have K2 := K1.trans k2; obtain ⟨A8, c8, w8, ra, b8, p8⟩ := HM.out w2 K2; have b2c := HB.out w2 K2; have b2d := HB.out _ (K2.trans ((Keeps.refl w2).alloc (.cells #[.int .i64 1, .int .i64 d, .int .i64 0, .int .i64 0, .int .i64 0, .string ⟨c.toArray⟩, .int .i64 f, .int .i64 sz, .int .i64 l] 35))); have y2 := b8.cell 0 (v := .slice A its.length cap) rfl; have yf := b8.free 0))
    all_goals
      have FIN := HP.out w2 K2 _ p8
      go_end0
      exact ⟨rfl, FIN⟩
end
end Go.Proofs.YthmfkjgcbcjbaaaDoor

/-
  Contracts of spans and Make, of the package item.
-/
import Derived.Test.YthmfkjgcbcjbaaaDoorItj
namespace Go.Proofs.YthmfkjgcbcjbaaaDoor
open Go.RowKit Go.Lib Go.Maps

theorem spns_app (sz : Int) : ∀ (a b : List St) (s : Sty) (p : List It × Int), spnsP sz (a ++ b) s p = spnsP sz b s (spnsP sz a s p)
  | [], b, s, p => rfl
  | x :: a, b, s, p => by
    rw [List.cons_append, spnsP, spnsP, spns_app sz a b s]
theorem spns_next {sz : Int} {l : List St} {i : Nat} {x : St} (h : l[i]? = some x) (s : Sty) (p : List It × Int) : spnsP sz (l.take (i + 1)) s p = spnP sz x s (spnsP sz (l.take i) s p) := by
  obtain ⟨hi, hx⟩ := List.getElem?_eq_some_iff.1 h
  rw [List.take_succ_eq_append_getElem hi, spns_app, hx, spnsP, spnsP]
theorem wL_take (l : List St) (i : Nat) : wL (l.take i) ≤ wL l := by
  induction l generalizing i with
  | nil => simp
  | cons y l ih =>
    cases i with
    | zero => simp [wL]
    | succ i =>
      have := ih i
      simp only [List.take_succ_cons, wL]
      omega
set_option maxRecDepth 100000 in
set_option maxHeartbeats 16000000 in
theorem spns_any : ∀ (n : Nat) {w0 : World} (sz : Int) (l : List St) (lv : Value), SizeOf.sizeOf l ≤ n → 0 ≤ sz → sz ≤ 2147483648 → EnvI w0 → StAt w0 l lv → SpansDo w0 sz l lv := by
  intro n
  induction n with
  | zero =>
    intro w0 sz l lv hf
    have : 0 < SizeOf.sizeOf l := by cases l <;> simp <;> omega
    omega
  | succ n ih =>
  intro w0 sz l lv hf h1 h2 hE hA s W B v its nx h hl hn hm
  obtain ⟨A, cap, rfl, hc1, hc2, hg⟩ := hA.slice
  unfold maxLen at hc2
  obtain ⟨m, hm0⟩ : ∃ m, l.length = m := ⟨_, rfl⟩
  have KA := Lib.hid (fun o => (Keeps.refl W).alloc o)
  have H0 := Lib.hid (fun o => h.to ((Keeps.refl W).alloc o))
  have M0 := Lib.hid (fun o => Mvd.keep (B := B) (v := v) ((Keeps.refl W).alloc o))
  have S0 := Lib.hid (Sd.new h)
  have IH : Hid (∀ (i g o : Nat) (x : St), l[i]? = some x → A = some ⟨g, o, none⟩ → ∀ (W1 : World) (v1 : Value) (its1 : List It) (nx1 : Int), Md w0 W1 B v1 its1 nx1 → its1.length ≤ its.length + 2 * wL (l.take i) → nx ≤ nx1 → nx1 ≤ nx + wL (l.take i) →
      Calls Tryd.prog 26 #[.pointer (some ⟨B, 0, none⟩), .pointer (some ⟨g, o + i * 5, none⟩), styV sz s] W1 fun e w' => e = .returned (.tuple #[]) ∧ PostMd w0 W1 B v1 (spnP sz x s (its1, nx1)).1 (spnP sz x s (its1, nx1)).2 w') := by
    refine Lib.hid fun i g o x hx hAg W1 v1 its1 nx1 hM b1 b2 b3 => ?_
    have hw := wL_at hx
    subst hAg
    obtain ⟨kd, t, d, ti, ks⟩ := x
    obtain ⟨kv, hc, hks⟩ := hA.at hx
    have hsz := size_st hx
    exact span_do sz s h1 h2 hE (ih sz ks kv (by omega) h1 h2 hE hks) hM hc (by omega) (by omega) (by omega)
  have HN := Lib.hid (fun i x (hx : l[i]? = some x) => spns_next (sz := sz) hx s (its, nx))
  have HL := Lib.hid (fun i => spns_len sz (l.take i) s (its, nx))
  have HE := Lib.hid (show spnsP sz (l.take m) s (its, nx) = spnsP sz l s (its, nx) by rw [List.take_of_length_le (Nat.le_of_eq hm0)])
  have HX := Lib.hid (fun i (hi : i < m) => (⟨l[i]'(by omega), List.getElem?_eq_getElem (by omega)⟩ : ∃ x, l[i]? = some x))
  have Z0 : Hid ((its, nx) = spnsP sz (l.take 0) s (its, nx)) := Lib.hid rfl
  rw [hm0] at hc1 hg ⊢
  clear hA h hE ih
  obtain ⟨f, lk, b⟩ := s
  unfold styV at *
  simp only at *
  go_enter Tryd.func17, Tryd.ntmps17
  go_wp2_with fail
  go_loopw [9] (fun y wr => ∃ (k : Nat) (v1 : Value) (its1 : List It) (nx1 : Int), k ≤ m ∧ y = .int .i64 k ∧ Hid (Md w0 wr B v1 its1 nx1) ∧ Hid (Mvd W wr B v v1) ∧ Hid (Sd B wr v1 W.heap.size 50 #[.int .i64 f, .int .i64 sz, .int .i64 lk, .bool b]) ∧ Hid ((its1, nx1) = spnsP sz (l.take k) ⟨f, lk, b⟩ (its, nx))) (fun y _ => m - (RowKit.intOf y).toNat)
  case atStart => exact ⟨0, v, its, nx, Nat.zero_le _, rfl, Lib.hid (H0.out _), Lib.hid (M0.out _), Lib.hid (S0.out _ _), Z0⟩
  case round =>
    obtain ⟨k, v1, its1, nx1, hk, rfl, HM, HV, HS, HP⟩ := hrel
    by_cases c : k < m
    · obtain ⟨g, o, rfl⟩ := hg (by omega)
      obtain ⟨x, hx⟩ := HX.out k c
      have L1 := HL.out k
      rw [← HP.out] at L1
      simp only at L1
      obtain ⟨l1, l2, l3⟩ := L1
      have NX := Lib.hid (HN.out k x hx)
      rw [← HP.out] at NX
      have CS := Lib.hid (IH.out k g o x hx rfl _ v1 its1 nx1 (HM.out.to (Keeps.refl _).drew) l1 l2 l3)
      have bs := HS.out.blk
      have s0 := bs.cell 0 (v := .int .i64 f) rfl
      have s1 := bs.cell 1 (v := .int .i64 sz) rfl
      have s2 := bs.cell 2 (v := .int .i64 lk) rfl
      have s3 := bs.cell 3 (v := .bool b) rfl
      clear bs hx l1 l2 l3
      go_wp2_with fail
      go_region_law (go_simp; go_at_call 26; (with_reducible refine CS.out.mono ?_); rintro e w2 ⟨rfl, p2⟩)
      all_goals
        obtain ⟨v2, m2, q2⟩ := PostMd.from (Keeps.refl _).drew p2
        have S2 := HS.out.moved q2
        have V2 := HV.out.trans q2
        clear p2 q2
        go_wp2_with fail
        go_roundw
        case rel => exact ⟨k + 1, v2, _, _, by omega, by go_num, Lib.hid m2, Lib.hid V2, Lib.hid S2, Lib.hid NX.out.symm⟩
        case measure => simp only [RowKit.intOf]; omega
    · have e : k = m := by omega
      subst e
      have EP := HP.out.trans HE.out
      have FIN : PostMd w0 W B v (spnsP sz l ⟨f, lk, b⟩ (its, nx)).1 (spnsP sz l ⟨f, lk, b⟩ (its, nx)).2 wr := by
        rw [← EP]
        exact ⟨v1, HM.out, HV.out⟩
      clear EP
      go_wp2_with fail
      go_end0
      exact ⟨rfl, FIN⟩
end Go.Proofs.YthmfkjgcbcjbaaaDoor

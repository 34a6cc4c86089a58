/-
  How many codes items of spans have; contract of the document's Run.
-/
import Derived.Test.YthmfkjgcbcjbaaaDoorIf1
import Derived.Test.YthmfkjgcbcjbaaaDoorFnrr
import Derived.Test.YthmfkjgcbcjbaaaDoorIg2
namespace Go.Proofs.YthmfkjgcbcjbaaaDoor
open Go.RowKit Go.Lib

theorem cat_drop (l : List It) : (catL (dropG l)).length ≤ (catL l).length := by
  unfold dropG
  split
  · rename_i h
    rcases List.eq_nil_or_concat l with rfl | ⟨m, x, rfl⟩
    · simp
    · rw [List.concat_eq_append, List.dropLast_concat, cat_app, List.length_append]; omega
  · exact Nat.le_refl _
theorem cat_glue (sz : Int) (s : Sty) (l : List It) : (catL (glueP sz s l)).length = (catL l).length := by
  unfold glueP
  split
  · rw [cat_app]; simp [catL, itGlue]
  · rfl
theorem cat_brk (l : List It) : (catL (brkP l)).length ≤ (catL l).length := by
  have := cat_drop l
  unfold brkP
  split
  · rw [cat_app]; simp [catL, itPen] at *; exact this
  · exact this
theorem cat_word (sz : Int) (s : Sty) (t : List UInt8) (l : List It) : (catL (wordP sz s t l)).length ≤ (catL l).length + t.length := by
  unfold wordP
  split
  · omega
  · rw [cat_app, List.length_append]
    have := codes_le t
    have e : catL [itBox sz s (codesL t)] = codesL t := by simp [catL, itBox]
    rw [e]; omega
theorem cat_txt (sz : Int) (s : Sty) : ∀ (t cur : List UInt8) (l : List It), (catL (txtP sz s cur t l)).length ≤ (catL l).length + cur.length + t.length
  | [], cur, l => by
    have := cat_word sz s cur l
    rw [txtP]; omega
  | b :: t, cur, l => by
    have h1 := cat_txt sz s t [] (glueP sz s (wordP sz s cur l))
    have h2 := cat_txt sz s t (cur ++ [b]) l
    rw [cat_glue] at h1
    have h3 := cat_word sz s cur l
    rw [txtP, List.length_cons]
    split
    · simp only [List.length_nil] at h1; omega
    · rw [List.length_append, List.length_singleton] at h2; omega
mutual
theorem cat_spn (sz : Int) : ∀ (x : St) (s : Sty) (p : List It × Int), (catL (spnP sz x s p).1).length ≤ (catL p.1).length + wS x
  | .mk k t _ _ ks, s, p => by
    have a1 := cat_txt sz s t [] p.1
    have a2 := cat_txt sz { s with font := 4 } t [] p.1
    have a3 := cat_glue sz s p.1
    have a4 := cat_brk p.1
    have b1 := cat_spns sz ks { s with font := slF s.font } p
    have b2 := cat_spns sz ks { s with font := bdF s.font } p
    have b3 := cat_spns sz ks s p
    have b4 := cat_spns sz ks { s with link := p.2 } (p.1, p.2 + 1)
    have b5 := cat_spns sz ks { s with image := true } p
    simp only [List.length_nil] at a1 a2 b4
    rw [spnP, wS]
    repeat' split
    all_goals first | omega | (simp only; omega)
theorem cat_spns (sz : Int) : ∀ (l : List St) (s : Sty) (p : List It × Int), (catL (spnsP sz l s p).1).length ≤ (catL p.1).length + wL l
  | [], s, p => by rw [spnsP, wL]; omega
  | x :: l, s, p => by
    have h1 := cat_spn sz x s p
    have h2 := cat_spns sz l s (spnP sz x s p)
    rw [spnsP, wL]; omega
end
theorem cat_make (f sz lk : Int) (l : List St) : (catL (makeL l f sz lk).1).length ≤ wL l := by
  have h1 := cat_spns sz l ⟨f, 0, false⟩ ([], lk)
  have h2 := cat_drop (spnsP sz l ⟨f, 0, false⟩ ([], lk)).1
  unfold makeL
  simp only [catL, List.flatMap_nil, List.length_nil] at h1 h2 ⊢
  omega
theorem wI_cat : ∀ l : List It, wI l = 4 * (catL l).length + 5 * l.length
  | [] => rfl
  | x :: l => by
    rw [wI, wI_cat l]
    have e : catL (x :: l) = x.codes ++ catL l := by simp [catL]
    rw [e, List.length_append, List.length_cons]; omega
set_option maxRecDepth 100000 in
theorem rrun_any (f size : Int) (s : ByteArray) (w : World) (hs : s.size ≤ 100000) (h1 : 0 ≤ size) (h2 : size ≤ 2147483648) (hF : FntR w) :
    Calls Tryd.prog 15 #[.int .i64 f, .int .i64 size, .string s] w fun e w' => e = .returned (.int .i64 (runL f size s.data.toList)) ∧ w = w' := by
  have hl := Lib.hid (bytes_len s)
  have AD := Lib.hid (fun c hc W h => radv_any f size c hc W (by omega) h2 h)
  have HF := Lib.hid hF
  have H1 := Lib.hid h1
  have H2 := Lib.hid h2
  clear hF h1 h2
  go_enter Tryd.func15, Tryd.ntmps15
  go_wp2_with fail
  go_loop [7, 8] (fun acc i => ∃ (k : Nat) (u : Int), k ≤ s.size ∧ i = .int .i64 k ∧ acc = .int .i64 u ∧ Hid (u = runL f size (s.data.toList.take k)) ∧ 0 ≤ u ∧ u ≤ 2179695902 * k) (fun _ i => s.size - (RowKit.intOf i).toNat)
  case atStart => exact ⟨0, 0, Nat.zero_le _, rfl, rfl, Lib.hid rfl, by omega, by omega⟩
  case round =>
    obtain ⟨k, u, hp, rfl, rfl, HU, u0, u1⟩ := hrel
    by_cases c : k < s.size
    · have hb := s[k].toNat_lt
      have HT := Lib.hid (AD.out s[k].toNat hb w HF.out)
      have a0 := adv_nonneg (f := f) hb H1.out
      have a1 := adv_le (f := f) hb H1.out H2.out
      have HN := Lib.hid (run_next (f := f) (size := size) (k := k) (by have := hl.out; omega) HU.out)
      have HG : Hid (advL f size s.data.toList[k].toNat = advL f size s[k].toNat) := Lib.hid rfl
      generalize advL f size s[k].toNat = d at *
      go_wp2_with fail
      refine HT.out.mono ?_
      rintro e W0 ⟨rfl, rfl⟩
      go_wp2_with fail
      go_round
      case rel => exact ⟨k + 1, u + d, by omega, by go_num, rfl, by have e := HN.out; rw [HG.out] at e; exact Lib.hid e, by omega, by omega⟩
      case measure => simp [RowKit.intOf]; omega
    · have HE : Hid (u = runL f size s.data.toList) := by
        have e := HU.out
        rw [List.take_of_length_le (by have := hl.out; omega)] at e
        exact Lib.hid e
      go_wp2_with fail
      go_ret
      exact ⟨ret_int HE.out, rfl⟩
end Go.Proofs.YthmfkjgcbcjbaaaDoor

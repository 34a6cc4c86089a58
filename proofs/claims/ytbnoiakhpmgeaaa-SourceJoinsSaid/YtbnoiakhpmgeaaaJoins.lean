/-
  SourceJoins returns true of any two texts.
-/
import Derived.Test.YtbnoiakhpmgeaaaSaw
namespace Go.Proofs.Ytbnoiakhpmgeaaa
open Go.RowKit Go.Lib

theorem last_byte {a : ByteArray} (h : 0 < a.size) : a.data.toList.getLastD 0 = a[a.size - 1] := by
  have e := tl_snoc h
  generalize a[a.size - 1] = c at *
  rw [e]
  simp
theorem lines_joined (a b : ByteArray) (h0 : 0 < a.size) (h1 : ¬ a[a.size - 1].toNat = 10) : linesB (a ++ ⟨#[10]⟩ ++ b) = linesB a ++ linesB b := by
  have hne : a.data.toList ≠ [] := fun e => by have := bytes_len a; rw [e] at this; simp at this; omega
  have hl : a.data.toList.getLast hne ≠ 10 := fun e => h1 (by
    have h2 := last_byte h0
    rw [List.getLastD_eq_getLast?, List.getLast?_eq_some_getLast hne, Option.getD_some] at h2
    rw [← h2, e]; rfl)
  have e : (a ++ ⟨#[10]⟩ ++ b).data.toList = a.data.toList ++ 10 :: b.data.toList := by simp
  unfold linesB
  rw [e, lines_join _ _ hne hl, List.map_append]

/-- The builtin append, by its run: at a guarded operation too. -/
theorem wpList_append_run {P : Program} {w : World} {ops : Array Oper} {rest : List Oper} {o : Oper} {a : Act} {Q : Exit → Act → World → Prop} (hw : Region.wanted o (yielded ops a.tmps) = true) (s x : Operand) (t : TypeId)
    (ho : o.op = .call { callee := .builtin .append, args := #[s, x], argTypes := #[t, t] }) (v u : Value) (hs : a.eval s = v) (hx : a.eval x = u) (v' : Value) (w' : World)
    (hr : (Builtin.append_ #[t, t] o.type #[v, u]).run P w = .ok v' w') (h : wpList P ops Q rest (a.put o.dst v') w') : wpList P ops Q (o :: rest) a w :=
  wpList_step fun K hK => by
    rw [if_pos hw]
    unfold Oper.wp execOp
    simp only [ho, resolve, invoke, builtin, Sem.run_bind, Sem.run_pure, Result.andThen_ok, List.map_toArray, List.map_cons, List.map_nil, hs, hx, hr]
    exact hK _ _ h
/-- append of a list of texts onto a row that the call owns: whatever the list. -/
theorem app_texts (W : World) (B n m₀ : Nat) (v u : Value) (vs : List Value) (xs : List ByteArray) (hd : W.ownsRow B 9 1 v n vs) (hx : Texts m₀ W u xs) (hn : n + xs.length ≤ 200000) (hB : B ≤ W.heap.size) :
    ∃ v' w', (Builtin.append_ #[25, 25] 25 #[v, u]).run Try.prog W = .ok v' w' ∧ w'.ownsRow B 9 1 v' (n + xs.length) (vs ++ xs.map Value.string) ∧ W.grownBy w' v.ownBlock := by
  obtain ⟨i0, hi, hz0, hz1, hz2⟩ := info_parts infoS
  unfold Texts at hx
  rcases Go.Joins.ownsRow_forms hx with ⟨rfl, h0⟩ | ⟨g, cap, rfl⟩
  · have hx0 : xs = [] := List.length_eq_zero_iff.1 h0
    subst hx0
    exact ⟨v, W, run_append_owned_none W B _ _ 9 i0 1 Try.underlying25 hi v n vs hd, by simpa using hd, ⟨rfl, rfl, rfl, Nat.le_refl _, fun _ _ _ => rfl⟩⟩
  · obtain ⟨v', w', hr, h1, h2, _, _⟩ := run_append_own_at (P := Try.prog) W B 25 25 9 i0 (.string ⟨#[]⟩) 1 16 Try.underlying25 hi hz0 hz1 hz2 rfl (by decide) v n vs hd ⟨g, 0, none⟩ xs.length cap (xs.map Value.string) (by simp) (hx.cells (g := g) rfl) (fun u hu => by
      obtain ⟨z, _, rfl⟩ := List.mem_map.1 hu
      rfl) (by simp only [maxLen]; omega) (by omega) hB
    exact ⟨v', w', hr, h1, h2⟩

set_option maxHeartbeats 2000000 in
theorem joins_idle (a b : ByteArray) (w : World) (ha : a.size ≤ maxLen) (hb : b.size ≤ maxLen) (h : 1500 < a.size ∨ 1500 < b.size ∨ a.size = 0 ∨ ∃ h : 0 < a.size, a[a.size - 1].toNat = 10) :
    Calls Try.prog 7 #[.string a, .string b] w fun e w' => e = .returned (.bool true) ∧ Keeps w w' := by
  have AW := Lib.hid (awake_any w)
  unfold maxLen at ha hb
  by_cases c1 : 1500 < a.size
  · clear h
    go_enter Try.func7, Try.ntmps7
    go_wp2_with fail
    refine AW.out.mono ?_
    rintro e w2 ⟨rfl, k2⟩
    go_wp2_with fail
    go_ret
    exact ⟨rfl, k2⟩
  · by_cases c2 : 1500 < b.size
    · clear h
      go_enter Try.func7, Try.ntmps7
      go_wp2_with fail
      refine AW.out.mono ?_
      rintro e w2 ⟨rfl, k2⟩
      go_wp2_with fail
      go_ret
      exact ⟨rfl, k2⟩
    · by_cases c3 : 0 < a.size
      · have hl : a[a.size - 1].toNat = 10 := by
          rcases h with h | h | h | ⟨_, h⟩
          · omega
          · omega
          · omega
          · exact h
        have n1 := tl_empty c3
        have n2 := tl_ne c3
        have tb : ((a[a.size - 1].toNat : Int) == 10) = true := beq_iff_eq.2 (by omega)
        clear h hl
        go_enter Try.func7, Try.ntmps7
        go_wp2_with fail
        refine AW.out.mono ?_
        rintro e w2 ⟨rfl, k2⟩
        go_wp2_with fail
        go_ret
        exact ⟨rfl, k2⟩
      · obtain rfl : a = ⟨#[]⟩ := bytes_eq (List.length_eq_zero_iff.1 (by rw [bytes_len]; omega))
        clear h c1 c3
        go_enter Try.func7, Try.ntmps7
        go_wp2_with fail
        refine AW.out.mono ?_
        rintro e w2 ⟨rfl, k2⟩
        go_wp2_with fail
        go_ret
        exact ⟨rfl, k2⟩

set_option maxHeartbeats 2000000 in
theorem joins_asked (a b : ByteArray) (w : World) (ha : a.size ≤ 1500) (hb : b.size ≤ 1500) (h0 : 0 < a.size) (h1 : ¬ a[a.size - 1].toNat = 10) :
    Calls Try.prog 7 #[.string a, .string b] w fun e w' => e = .returned (.bool true) ∧ Keeps w w' := by
  have AW := Lib.hid (awake_any w)
  have L := Lib.hid (fun W => lines_any (a ++ ⟨#[10]⟩ ++ b) W (by rw [ByteArray.size_append, ByteArray.size_append]; have e1 : (⟨#[10]⟩ : ByteArray).size = 1 := rfl; omega))
  rw [lines_joined a b h0 h1] at L
  have LA := Lib.hid (fun W => lines_any a W (by omega))
  have LB := Lib.hid (fun W => lines_any b W (by omega))
  have n1 := tl_empty h0
  have n2 := tl_ne h0
  have tb : ((a[a.size - 1].toNat : Int) == 10) = false := beq_eq_false_iff_ne.2 (by omega)
  have la := linesB_len a
  have lb := linesB_len b
  have SM := Lib.hid (fun n₀ m₀ v u W x y => same_any n₀ m₀ v u (linesB a ++ linesB b) W x y (by rw [List.length_append]; omega))
  generalize linesB a = xa at *
  generalize linesB b = xb at *
  obtain ⟨i0, hi, hz0, hz1, hz2⟩ := info_parts infoS
  clear h1
  go_enter Try.func7, Try.ntmps7
  go_wp2_with fail
  refine AW.out.mono ?_
  rintro e w1 ⟨rfl, k1⟩
  go_wp2_with fail
  refine (L.out _).mono ?_
  rintro e w2 ⟨v, rfl, h2, k2⟩
  have K2 := Lib.hid (k1.trans k2)
  have H2 := Lib.hid h2
  clear k1 k2 h2
  go_wp2_with fail
  refine (LA.out _).mono ?_
  rintro e w3 ⟨va, rfl, h3, k3⟩
  have hz3 : w2.heap.size < w3.heap.size := Nat.lt_of_lt_of_le (by simp) k3.size
  have HE : Hid (w3.ownsRow w2.heap.size 9 1 (.slice (some ⟨w2.heap.size, 0, none⟩) 0 0) 0 []) := Lib.hid (own_keep (World.ownsRow_lit w2 #[] 0 (Nat.le_refl _) (Nat.zero_le _) rfl) k3)
  have K02 := K2
  have K23 := Lib.hid (((Keeps.refl w2).alloc (.cells #[] 9)).trans k3)
  obtain ⟨aoa, ca, rfl, cca, ccb⟩ := own_form (vs := xa.map Value.string) h3
  unfold maxLen at ccb
  have H3 := Lib.hid h3
  clear k3 h3
  obtain ⟨v4, w4, r4, h4, g4⟩ := app_texts w3 w2.heap.size 0 _ _ _ [] xa HE.out H3.out (by omega) (by omega)
  have K24 := Lib.hid (keeps_grown (w := w2) HE.out K23.out g4)
  have K4 := Lib.hid (K02.out.trans K24.out)
  have H4 : Hid (w4.ownsRow w2.heap.size 9 1 v4 (0 + xa.length) ([] ++ xa.map Value.string)) := Lib.hid h4
  clear h4 g4
  go_wp2_with (at_builtin; go_must (refine wpList_append_run rfl (.tmp 33) (.tmp 35) _ rfl _ _ rfl rfl _ _ r4 ?_))
  refine (LB.out _).mono ?_
  rintro e w5 ⟨vb, rfl, h5, k5⟩
  have K25 := Lib.hid (K24.out.trans k5)
  obtain ⟨aob, cb, rfl, ccc, ccd⟩ := own_form (vs := xb.map Value.string) h5
  unfold maxLen at ccd
  have H5 := Lib.hid h5
  have H45 := Lib.hid (own_keep H4.out k5)
  clear h5 k5
  obtain ⟨v6, w6, r6, h6, g6⟩ := app_texts w5 w2.heap.size _ _ _ _ _ xb H45.out H5.out (by omega) K25.out.size
  have K26 := Lib.hid (keeps_grown (w := w2) H45.out K25.out g6)
  have K6 := Lib.hid (K02.out.trans K26.out)
  have H6 : Hid (Texts w2.heap.size w6 v6 (xa ++ xb)) := by
    have : Texts w2.heap.size w6 v6 (xa ++ xb) := by
      unfold Texts
      rw [List.length_append, List.map_append]
      simpa using h6
    exact Lib.hid this
  have H26 := Lib.hid (own_keep H2.out K26.out)
  clear h6 g6
  go_wp2_with (at_builtin; go_must (refine wpList_append_run rfl (.tmp 36) (.tmp 38) _ rfl _ _ rfl rfl _ _ r6 ?_))
  refine (SM.out _ _ _ _ _ H26.out H6.out).mono ?_
  rintro e w7 ⟨rfl, k7⟩
  have K7 := Lib.hid (K6.out.trans k7)
  clear k7
  go_wp2_with fail
  go_ret
  exact ⟨rfl, K7.out⟩
theorem joins_any (a b : ByteArray) (w : World) (ha : a.size ≤ maxLen) (hb : b.size ≤ maxLen) :
    Calls Try.prog 7 #[.string a, .string b] w fun e w' => e = .returned (.bool true) ∧ Keeps w w' := by
  by_cases c1 : 1500 < a.size
  · exact joins_idle a b w ha hb (.inl c1)
  · by_cases c2 : 1500 < b.size
    · exact joins_idle a b w ha hb (.inr (.inl c2))
    · by_cases c3 : 0 < a.size
      · by_cases c4 : a[a.size - 1].toNat = 10
        · exact joins_idle a b w ha hb (.inr (.inr (.inr ⟨c3, c4⟩)))
        · exact joins_asked a b w (by omega) (by omega) c3 c4
      · exact joins_idle a b w ha hb (.inr (.inr (.inl (by omega))))
end Go.Proofs.Ytbnoiakhpmgeaaa

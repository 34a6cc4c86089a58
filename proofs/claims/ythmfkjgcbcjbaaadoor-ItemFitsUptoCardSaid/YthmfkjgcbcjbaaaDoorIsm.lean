/-
  Contracts of the law's weight, small, fine.
-/
import Derived.Test.YthmfkjgcbcjbaaaDoorIth
import Derived.Test.YthmfkjgcbcjbaaaDoorCls
namespace Go.Proofs.YthmfkjgcbcjbaaaDoor
open Go.RowKit Go.Lib Go.Maps

mutual
/-- How much spans are, as the law reckons. -/
def wG : St → Nat
  | .mk _ t _ _ ks => 10 + min t.length 3000 + wGs ks 0
def wGs : List St → Nat → Nat
  | [], n => n
  | x :: l, n => if n ≤ 3000 then wGs l (n + wG x) else n
end
mutual
theorem wG_le : ∀ x : St, wG x ≤ wS x
  | .mk _ t _ _ ks => by
    have := wGs_le ks 0
    rw [wG, wS]
    omega
theorem wGs_le : ∀ (l : List St) (n : Nat), wGs l n ≤ n + wL l
  | [], n => by rw [wGs, wL]; omega
  | x :: l, n => by
    have h1 := wG_le x
    have h2 := wGs_le l (n + wG x)
    rw [wGs, wL]
    split <;> omega
end
theorem wGs_ge : ∀ (l : List St) (n : Nat), n ≤ wGs l n
  | [], n => by rw [wGs]; exact Nat.le_refl _
  | x :: l, n => by
    have h2 := wGs_ge l (n + wG x)
    rw [wGs]
    split <;> omega
mutual
theorem wG_eq : ∀ x : St, wG x ≤ 3000 → wG x = wS x
  | .mk _ t _ _ ks, h => by
    rw [wG] at h ⊢
    have := wGs_eq ks 0 (by omega)
    rw [wS]
    omega
/-- Where it isn't much, nothing has been left out. -/
theorem wGs_eq : ∀ (l : List St) (n : Nat), wGs l n ≤ 3000 → wGs l n = n + wL l
  | [], n, _ => by rw [wGs, wL]; omega
  | x :: l, n, h => by
    rw [wGs] at h ⊢
    split at h
    · rename_i hn
      rw [if_pos hn]
      have h1 := wGs_ge l (n + wG x)
      have h2 := wG_eq x (by omega)
      have h3 := wGs_eq l (n + wG x) h
      rw [wL]
      omega
    · omega
end
theorem wGs_cat (l : List St) {i : Nat} (h : i < l.length) (n : Nat) : wGs (l.drop i) n = if n ≤ 3000 then wGs (l.drop (i + 1)) (n + wG l[i]) else n := by rw [List.drop_eq_getElem_cons h, wGs]
set_option maxRecDepth 100000 in
set_option maxHeartbeats 8000000 in
theorem weight_any : ∀ (f : Nat) (l : List St) (W : World) (v : Value), SizeOf.sizeOf l ≤ f → StAt W l v → wL l ≤ 100000000 →
    Calls Tryd.prog 16 #[v] W fun e w' => e = .returned (.int .i64 (wGs l 0)) ∧ Keeps W w' := by
  intro f
  induction f with
  | zero =>
    intro l W v hf
    have : 0 < SizeOf.sizeOf l := by cases l <;> simp <;> omega
    omega
  | succ f ih =>
  intro l W v hf hA hw
  obtain ⟨A, cap, rfl, hc1, hc2, hg⟩ := hA.slice
  unfold maxLen at hc2
  have IH : Hid (∀ (i : Nat) (g o : Nat) (k : Int) (t d ti : List UInt8) (ks : List St), l[i]? = some (.mk k t d ti ks) → A = some ⟨g, o, none⟩ → ∃ kv, (∀ W1, Keeps W W1 → StC W1 g (o + i * 5) k t d ti kv) ∧ ∀ W1, Keeps W W1 → Calls Tryd.prog 16 #[kv] W1 fun e w' => e = .returned (.int .i64 (wGs ks 0)) ∧ Keeps W1 w') := by
    refine Lib.hid fun i g o k t d ti ks hx hAg => ?_
    have hwi := wL_at hx
    rw [wS_mk] at hwi
    subst hAg
    obtain ⟨kv, hc, hks⟩ := hA.at hx
    have hsz := size_st hx
    exact ⟨kv, fun W1 q => hc.keep q, fun W1 q => ih ks W1 kv (by omega) (hks.keep q) (by omega)⟩
  obtain ⟨m, hm0⟩ : ∃ m, l.length = m := ⟨_, rfl⟩
  have HM := Lib.hid hm0
  have HX : Hid (∀ i, i < m → ∃ k t d ti ks, l[i]? = some (St.mk k t d ti ks)) := Lib.hid fun i hi => by
    have h' : i < l.length := by omega
    rw [List.getElem?_eq_getElem h']
    cases l[i] with
    | mk k t d ti ks => exact ⟨k, t, d, ti, ks, rfl⟩
  have HW : Hid (∀ (i : Nat) (k : Int) (t d ti : List UInt8) (ks : List St), l[i]? = some (St.mk k t d ti ks) → ∀ n : Nat, wGs (l.drop i) n = if n ≤ 3000 then wGs (l.drop (i + 1)) (n + (10 + min t.length 3000 + wGs ks 0)) else n) := Lib.hid fun i k t d ti ks hx n => by
    obtain ⟨hi, e⟩ := List.getElem?_eq_some_iff.1 hx
    rw [wGs_cat l hi n, e, wG]
  have HK : Hid (∀ (i : Nat) (k : Int) (t d ti : List UInt8) (ks : List St), l[i]? = some (St.mk k t d ti ks) → wGs ks 0 ≤ 100000000) := Lib.hid fun i k t d ti ks hx => by
    have h1 := wL_at hx
    rw [wS_mk] at h1
    have h2 := wGs_le ks 0
    omega
  have Z0 : Hid (wGs (l.drop 0) 0 = wGs l 0) := Lib.hid rfl
  rw [hm0] at hc1 hg ⊢
  clear hA ih hf hm0
  go_enter Tryd.func16, Tryd.ntmps16
  go_wp2_with fail
  go_loopw [3, 4] (fun x y wr => ∃ (n i : Nat), i ≤ m ∧ x = .int .i64 n ∧ y = .int .i64 i ∧ n ≤ 200000000 ∧ Hid (Keeps W wr) ∧ Hid (wGs (l.drop i) n = wGs l 0)) (fun _ y _ => m - (RowKit.intOf y).toNat)
  case atStart => exact ⟨0, 0, Nat.zero_le _, rfl, rfl, by omega, Lib.hid (Keeps.refl _), Z0⟩
  case round =>
    obtain ⟨n, i, hi, rfl, rfl, hn, HR, HQ⟩ := hrel
    by_cases c : i < m
    · have b1 : decide ((i : Int) < (m : Int)) = true := decide_eq_true (by omega)
      by_cases c2 : n ≤ 3000
      · have b2 : decide ((n : Int) ≤ 3000) = true := decide_eq_true (by omega)
        obtain ⟨k, t, d, ti, ks, hx⟩ := HX.out i c
        obtain ⟨g, o, rfl⟩ := hg (by omega)
        obtain ⟨kv, hc, hcall⟩ := IH.out i g o k t d ti ks hx rfl
        have X := hc wr HR.out
        have x1 := X.c1
        have x4 := X.c4
        have CS := Lib.hid hcall
        have HN := HW.out i k t d ti ks hx n
        have HKK := HK.out i k t d ti ks hx
        rw [if_pos c2, HQ.out] at HN
        have HN2 := Lib.hid HN
        have hz : (⟨t.toArray⟩ : ByteArray).size = t.length := by show t.toArray.size = _; simp
        obtain ⟨tb, htb⟩ : ∃ tb : ByteArray, (⟨t.toArray⟩ : ByteArray) = tb := ⟨_, rfl⟩
        rw [htb] at x1 hz
        clear X hc hcall HN hx htb HQ
        generalize wGs ks 0 = q at *
        generalize hmn : min t.length 3000 = mn at *
        have hmi : (if (t.length : Int) < 3000 then (t.length : Int) else 3000) = (mn : Int) := by split <;> omega
        rw [← hz] at hmi
        obtain ⟨L, hL⟩ : ∃ L : List (Addr × Value), L = [(⟨g, o + i * 5 + 1, none⟩, .string tb), (⟨g, o + i * 5 + 4, none⟩, kv)] := ⟨_, rfl⟩
        have C0 : ∀ q ∈ L, wr.cell? q.1 = some q.2 := by rw [hL]; exact cells_cons x1 (cells_cons x4 (cells_nil _))
        have NE : Nonempty (InS (CellsK L wr)) := ⟨⟨_, CellsK.start C0⟩⟩
        have G1 : ∀ x : InS (CellsK L wr), x.w.cell? ⟨g, o + i * 5 + 1, none⟩ = some (.string tb) := fun x => x.ok.cells (_, _) (by rw [hL]; simp)
        have G2 : ∀ x : InS (CellsK L wr), x.w.cell? ⟨g, o + i * 5 + 4, none⟩ = some kv := fun x => x.ok.cells (_, _) (by rw [hL]; simp)
        have GO : Hid (∀ x : InS (CellsK L wr), Keeps W x.w) := Lib.hid (fun x => HR.out.trans x.ok.since)
        have hw1 : IntKind.i64.wrap ((n : Int) + 10) = (n : Int) + 10 := IntWalk.i64_in _ (by omega)
        have hw2 : IntKind.i64.wrap ((n : Int) + 10 + (mn : Int)) = (n : Int) + 10 + (mn : Int) := IntWalk.i64_in _ (by omega)
        have hw3 : IntKind.i64.wrap ((n : Int) + 10 + (mn : Int) + (q : Int)) = (n : Int) + 10 + (mn : Int) + (q : Int) := IntWalk.i64_in _ (by omega)
        have hi1 : (0 : Int) ≤ (i : Int) := by omega
        have hi2 : (i : Int) < (m : Int) := by omega
        clear hL x1 x4 hmn hz
        go_wp2_with fail
        refine wp_region_class (CellsK L wr) (by kernel_rfl) (by kernel_rfl) (CellsK.start C0) ?_
        repeat (go_big_quiet_step ((go_at_call 16; exact class_call (fun _ p k => p.keep k) (CS.out _ (GO.out _)))))
        refine wpQuiet_nil ?_
        rintro w5 ⟨⟨w6, h6⟩, rfl⟩
        have K6 := Lib.hid (HR.out.trans h6.since)
        clear NE G1 G2 GO C0 h6
        go_wp2_with fail
        go_roundw
        case rel => exact ⟨n + (10 + mn + q), i + 1, by omega, by go_num, by go_num, by omega, K6, Lib.hid HN2.out.symm⟩
        case measure => simp only [RowKit.intOf]; omega
      · have b2 : decide ((n : Int) ≤ 3000) = false := decide_eq_false (by omega)
        have hq : n = wGs l 0 := by
          obtain ⟨k, t, d, ti, ks, hx⟩ := HX.out i c
          have e := HW.out i k t d ti ks hx n
          rw [if_neg c2, HQ.out] at e
          exact e.symm
        have HF := Lib.hid hq
        clear hq HQ
        go_wp2_with fail
        go_ret
        exact ⟨ret_int (congrArg (fun x : Nat => (x : Int)) HF.out), HR.out⟩
    · have b1 : decide ((i : Int) < (m : Int)) = false := decide_eq_false (by omega)
      have e : i = m := by omega
      subst e
      have hq : n = wGs l 0 := by
        have e := HQ.out
        rw [List.drop_of_length_le (Nat.le_of_eq HM.out), wGs] at e
        exact e
      have HF := Lib.hid hq
      clear hq HQ
      go_wp2_with fail
      go_ret
      exact ⟨ret_int (congrArg (fun x : Nat => (x : Int)) HF.out), HR.out⟩
set_option maxRecDepth 100000 in
theorem small_any (l : List St) (W : World) (v : Value) (hA : StAt W l v) (hw : wL l ≤ 100000000) :
    Calls Tryd.prog 8 #[v] W fun e w' => e = .returned (.bool (decide (wGs l 0 ≤ 3000))) ∧ Keeps W w' := by
  have WC := Lib.hid (weight_any _ l W v (Nat.le_refl _) hA hw)
  obtain ⟨A, cap, rfl, _, _, _⟩ := hA.slice
  have hd : decide (wGs l 0 ≤ 3000) = decide (((wGs l 0 : Nat) : Int) ≤ 3000) := by
    by_cases h : wGs l 0 ≤ 3000
    · rw [decide_eq_true h, decide_eq_true (by omega)]
    · rw [decide_eq_false h, decide_eq_false (by omega)]
  rw [hd]
  clear hA hd
  generalize wGs l 0 = n at *
  go_enter Tryd.func8, Tryd.ntmps8
  go_wp2_with fail
  refine WC.out.mono ?_
  rintro e w1 ⟨rfl, k1⟩
  go_wp2_with fail
  go_ret
  exact ⟨rfl, k1⟩
/-- A size that may be reckoned with. -/
theorem fine_any (n : Int) (W : World) : Calls Tryd.prog 9 #[.int .i64 n] W fun e w' => e = .returned (.bool (decide (0 ≤ n ∧ n ≤ 2147483648))) ∧ W = w' := by
  by_cases h0 : 0 ≤ n
  · have t0 : decide (0 ≤ n) = true := decide_eq_true h0
    have hd : decide (0 ≤ n ∧ n ≤ 2147483648) = decide (n ≤ 2147483648) := by
      by_cases h : n ≤ 2147483648
      · rw [decide_eq_true h, decide_eq_true ⟨h0, h⟩]
      · rw [decide_eq_false h, decide_eq_false (fun q => h q.2)]
    rw [hd]
    clear hd
    go_enter Tryd.func9, Tryd.ntmps9
    go_wp2_with fail
    all_goals
      go_ret
      first
        | exact ⟨rfl, rfl⟩
        | exact ⟨by simp_all, rfl⟩
  · have hd : decide (0 ≤ n ∧ n ≤ 2147483648) = false := decide_eq_false (fun q => h0 q.1)
    rw [hd]
    have t0 : decide (0 ≤ n) = false := decide_eq_false h0
    have t1 : n < 0 := by omega
    clear hd
    go_enter Tryd.func9, Tryd.ntmps9
    go_wp2_with fail
    go_ret
    exact ⟨rfl, rfl⟩
end Go.Proofs.YthmfkjgcbcjbaaaDoor

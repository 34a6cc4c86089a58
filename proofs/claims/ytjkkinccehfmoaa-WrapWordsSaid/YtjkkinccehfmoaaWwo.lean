/-
  Walk of the law WrapWords.
-/
import Derived.Test.YtjkkinccehfmoaaWlr
namespace Go.Proofs.Ytjkkinccehfmoaa
open Go.RowKit Go.Lib Go.Maps

/-- One item is put behind the others. -/
theorem its_made {w0 W : World} {u : Value} {its : List It} (hr : W.ownsRow w0.heap.size 32 9 u its.length (itR its)) (hk : Keeps w0 W) (x : It) (hlen : its.length ≤ 1000000) :
    ∃ A8 c8 w8, (Builtin.append_ #[22, 22] 22 #[u, .slice (some ⟨W.heap.size, 0, none⟩) 1 1]).run Try.prog (W.alloc (.cells #[.int .i64 x.kind, .int .i64 x.width, .int .i64 x.grow, .int .i64 x.shrink, .int .i64 x.cost, .string ⟨x.codes.toArray⟩, .int .i64 x.font, .int .i64 x.size, .int .i64 x.link] 32)) = .ok (.slice A8 (its.length + 1) c8) w8 ∧
      w8.ownsRow w0.heap.size 32 9 (.slice A8 (its.length + 1) c8) (its ++ [x]).length (itR (its ++ [x])) ∧ Keeps w0 w8 := by
  obtain ⟨i0, hi0, hz0, hz1, hz2⟩ := info_parts infoIt
  have hn := hk.size
  have KA : Keeps W (W.alloc (.cells (itC x).toArray 32)) := (Keeps.refl _).alloc _
  have hrow := row_below hr KA
  obtain ⟨v8, w8, ra, o8, g8, _, l8⟩ := run_append_own_at (P := Try.prog) (W.alloc (.cells (itC x).toArray 32)) w0.heap.size 22 22 32 i0 (.agg zeroIt) 9 80 Try.underlying22 hi0 hz0 hz1 hz2 rfl (by decide) _ _ _ hrow ⟨W.heap.size, 0, none⟩ 1 1 (itC x) rfl (cells_new W (itC x) 32) (itC_one x) (by simp only [maxLen]; omega) (by omega) (Nat.le_trans hn KA.size)
  obtain ⟨A8, c8, e8, _⟩ := row_form o8
  subst e8
  refine ⟨A8, c8, w8, ra, ?_, Below.grown (hk.trans KA) g8 (Nat.le_trans hn KA.size) (fun i hi => (hrow.lt i hi).1)⟩
  rw [List.length_append, List.length_singleton, itR_app, show itR [x] = itC x from List.append_nil _]
  exact o8
theorem isAt_row {n₀ : Nat} {W : World} {v : Value} {its : List It} (h : W.ownsRow n₀ 32 9 v its.length (itR its)) : IsAt W its v := by
  obtain ⟨A, cap, e, h1, h2⟩ := row_form h
  refine ⟨A, cap, e, h1, h2, fun h0 => ?_⟩
  rcases h.2 with ⟨_, q⟩ | ⟨g, cap', cur, q, _⟩
  · omega
  · subst e
    injection q with q1 q2 q3
    subst q1
    refine ⟨g, 0, rfl, fun i hi j u hj => ?_⟩
    have hj9 : j < 9 := by
      have := (List.getElem?_eq_some_iff.1 hj).1
      rwa [itC_len] at this
    rw [Nat.zero_add, ← itR_at its i hi j hj9] at *
    have := h.cellAt (i * 9 + j) (by omega)
    rw [this]
    exact hj
set_option maxRecDepth 100000 in
set_option maxHeartbeats 8000000 in
theorem wwords_any (n k : Nat) (hn : n < 256) (hk : k < 256) (W : World) :
    Calls Try.prog 4 #[.int .u8 n, .int .u8 k] W fun e w' => e = .returned (.bool true) ∧ Keeps W w' := by
  have AW := Lib.hid (fun W1 => awake18_any W1)
  have BX := Lib.hid (fun W1 => wbox_any 10 W1)
  obtain ⟨a, ha⟩ : ∃ a : Nat, ((n : Int) % 20) = (a : Int) := ⟨n % 20, by omega⟩
  obtain ⟨b, hb⟩ : ∃ b : Nat, ((k : Int) % 9) = (b : Int) := ⟨k % 9, by omega⟩
  have ha2 : Int.tmod (n : Int) 20 = (a : Int) := by rw [Int.tmod_eq_emod_of_nonneg (by omega)]; exact ha
  have hb2 : Int.tmod (k : Int) 9 = (b : Int) := by rw [Int.tmod_eq_emod_of_nonneg (by omega)]; exact hb
  obtain ⟨N, hN⟩ : ∃ N : Nat, N = a + 1 := ⟨_, rfl⟩
  obtain ⟨r, hr⟩ : ∃ r : Nat, r = b + 1 := ⟨_, rfl⟩
  have hN1 : 1 + (a : Int) = (N : Int) := by omega
  have hr1 : 1 + (b : Int) = (r : Int) := by omega
  have hN2 : 1 ≤ N ∧ N ≤ 20 := by omega
  have hr2 : 1 ≤ r ∧ r ≤ 9 := by omega
  have a0 : 0 ≤ (a : Int) ∧ (a : Int) ≤ 19 := by omega
  have b0 : 0 ≤ (b : Int) ∧ (b : Int) ≤ 8 := by omega
  have hN0 : 0 < N := by omega
  have hr0 : 0 < r := by omega
  have tr0 : ((r : Int) == 0) = false := beqF (by omega)
  have tr1 : ((r : Int) == -1) = false := beqF (by omega)
  clear hN hr
  go_enter Try.func4, Try.ntmps4
  go_wp2_with fail
  go_loopw [7, 8] (fun u y wr => ∃ i : Nat, i ≤ N ∧ y = .int .i64 i ∧ Hid (wr.ownsRow W.heap.size 32 9 u (wdL i).length (itR (wdL i))) ∧ Hid (Keeps W wr)) (fun _ y _ => N - (RowKit.intOf y).toNat)
  case atStart => exact ⟨0, Nat.zero_le _, rfl, Lib.hid (World.ownsRow_nil _ _ _ _), Lib.hid (Keeps.refl _)⟩
  case round =>
    obtain ⟨i, hi, rfl, HR, HK⟩ := hrel
    obtain ⟨A, cap, rfl, _, _⟩ := row_form HR.out
    by_cases c : i < N
    · have tc : decide ((i : Int) < (N : Int)) = true := decide_eq_true (by omega)
      cases i with
      | zero =>
        have z1 : ((0 : Nat) : Int) = 0 := rfl
        rw [z1] at *
        have RB := Lib.hid (fun w3 (q : Keeps wr w3) => its_made (row_below HR.out q) (HK.out.trans q) (wb 10) (by show (0 : Nat) ≤ _; omega))
        go_wp2_with fail
        refine (BX.out _).mono ?_
        rintro e w3 ⟨rfl, k3⟩
        obtain ⟨A8, c8, w8, ra, o8, k8⟩ := RB.out w3 k3
        unfold wb at ra
        simp only at ra
        have O8 := Lib.hid o8
        have K8 := Lib.hid k8
        clear o8 k8 RB
        go_wp2_with (at_builtin; refine wpList_append_run rfl (.tmp 32) (.tmp 34) _ _ rfl _ _ (by rfl) (by rfl) _ _ ra ?_)
        go_roundw
        case rel => exact ⟨1, by omega, by go_num, O8, K8⟩
        case measure => simp only [RowKit.intOf]; omega
      | succ j =>
        have hln := Lib.hid (wdL_len j)
        have tj : decide ((0 : Int) < ((j + 1 : Nat) : Int)) = true := decide_eq_true (by omega)
        obtain ⟨A7, c7, w7, ra, o7, k7⟩ := its_made HR.out HK.out (wg 2 0 0) (by have := hln.out; omega)
        unfold wg at ra
        simp only at ra
        have RB := Lib.hid (fun w3 (q : Keeps w7 w3) => its_made (row_below o7 q) (k7.trans q) (wb 10) (by rw [List.length_append, List.length_singleton]; have := hln.out; omega))
        have hsn := wdL_snoc (j + 1) (Nat.succ_pos _)
        have HSN : Hid ((wdL (j + 1) ++ [wg 2 0 0]) ++ [wb 10] = wdL (j + 1 + 1)) := Lib.hid (by rw [hsn, List.append_assoc]; rfl)
        clear o7 k7 hsn
        go_wp2_with (at_builtin; refine wpList_append_run rfl (.tmp 28) (.tmp 30) _ _ rfl _ _ (by rfl) (by rfl) _ _ ra ?_)
        refine (BX.out _).mono ?_
        rintro e w3 ⟨rfl, k3⟩
        obtain ⟨A8, c8, w8, rb, o8, k8⟩ := RB.out w3 k3
        unfold wb at rb
        simp only at rb
        have O8 : Hid (w8.ownsRow W.heap.size 32 9 (.slice A8 ((wdL (j + 1) ++ [wg 2 0 0]).length + 1) c8) (wdL (j + 1 + 1)).length (itR (wdL (j + 1 + 1)))) := Lib.hid (by rw [← HSN.out]; exact o8)
        have K8 := Lib.hid k8
        have hlx : (wdL (j + 1) ++ [wg 2 0 0]).length = (wdL (j + 1)).length + 1 := by simp
        rw [hlx] at rb O8
        clear o8 k8 RB hlx
        go_wp2_with (at_builtin; refine wpList_append_run rfl (.tmp 32) (.tmp 34) _ _ rfl _ _ (by rfl) (by rfl) _ _ rb ?_)
        go_roundw
        case rel => exact ⟨j + 1 + 1, by omega, by go_num, O8, K8⟩
        case measure => simp only [RowKit.intOf]; omega
    · have e : i = N := by omega
      subst e
      have tc : decide ((i : Int) < (i : Int)) = false := decide_eq_false (by omega)
      have hwl := wd_len hN0
      have BK := Lib.hid (breaks_any (wdL i) _ (12 * (r : Int) - 2) wr (isAt_row HR.out) (by omega) wdL_w (by omega) (by omega))
      clear hwl
      go_wp2_with fail
      refine BK.out.mono ?_
      rintro e w4 ⟨v, es, ok, rfl, hns, hbk, k4⟩
      obtain ⟨rfl, hcnt, c2, hch⟩ := wd_told hN0 hr0 hbk
      have hfew := hch.few
      rw [wd_len hN0] at hfew
      have CH := Lib.hid hch
      have K4 := Lib.hid (HK.out.trans k4)
      obtain ⟨A2, cp2, rfl, g1, g2, g3⟩ := hns
      unfold maxLen at g2
      have HE : Hid (∀ q (h : q < es.length), ∃ g o, A2 = some ⟨g, o, none⟩ ∧ w4.cell? ⟨g, o + q, none⟩ = some (.int .i64 (es[q] : Nat))) := Lib.hid fun q h => by
        obtain ⟨g, o, e, hc⟩ := g3 (by omega)
        exact ⟨g, o, e, hc q h⟩
      obtain ⟨Q, hQ⟩ : ∃ Q : Nat, Int.tdiv ((i : Int) + (r : Int) - 1) (r : Int) = (Q : Int) ∧ Q ≤ es.length := ⟨(i + r - 1) / r, by
        rw [Int.tdiv_eq_ediv_of_nonneg (by omega)]
        have : ((i : Int) + (r : Int) - 1) = ((i + r - 1 : Nat) : Int) := by omega
        rw [this]; rfl, by
        have : (i + r - 1) / r < es.length + 1 := by
          rw [Nat.div_lt_iff_lt_mul hr0, Nat.add_mul, Nat.mul_comm]
          omega
        omega⟩
      obtain ⟨m, hm⟩ : ∃ m, es.length = m := ⟨_, rfl⟩
      have HM := Lib.hid hm
      rw [hm] at g1 hfew hQ ⊢
      obtain ⟨hQ1, hQ2⟩ := hQ
      have tQ : decide ((m : Int) < (Q : Int)) = false := decide_eq_false (by omega)
      clear hcnt g3 hm hch k4 hbk
      go_wp2_with fail
      go_loop [11, 12] (fun u y => ∃ q f : Nat, q ≤ m ∧ f ≤ 2 * i ∧ u = .int .i64 f ∧ y = .int .i64 q ∧ Hid (f = nextF (es.take q))) (fun _ y => m - (RowKit.intOf y).toNat)
      case atStart => exact ⟨0, 0, Nat.zero_le _, Nat.zero_le _, rfl, rfl, Lib.hid rfl⟩
      case round =>
        obtain ⟨q, f, hq, hf, rfl, rfl, HF⟩ := hrel
        by_cases cq : q < m
        · have uq : decide ((q : Int) < (m : Int)) = true := decide_eq_true (by omega)
          have hq' : q < es.length := by rw [HM.out]; exact cq
          obtain ⟨a3, k3, e1, e2, e3, e4, e5, e6⟩ := wd_each hN0 CH.out hq'
          rw [← HF.out] at e1
          obtain ⟨g, o, eA, y0⟩ := HE.out q hq'
          cases eA
          have HE6 := Lib.hid e6
          generalize es[q] = e at *
          have i0 : (0 : Int) ≤ (q : Int) := by omega
          have i1 : (q : Int) < (m : Int) := by omega
          obtain ⟨d, hd, hdr⟩ : ∃ d : Nat, Int.tdiv ((e : Int) - (f : Int) + 1) 2 = (d : Int) ∧ d ≤ r := ⟨k3 - a3 + 1, by
            rw [Int.tdiv_eq_ediv_of_nonneg (by omega)]
            omega, by omega⟩
          have td : decide ((r : Int) < (d : Int)) = false := decide_eq_false (by omega)
          have b1 : e ≤ 2 * i := by omega
          have b2 : e + 1 ≤ 2 * i := by omega
          have HE7 : Hid (e + 1 = nextF (es.take (q + 1))) := Lib.hid (by rw [HE6.out]; omega)
          clear e1 e2 e3 e4 e5 e6 HE6
          go_wp2_with fail
          go_round
          case rel => exact ⟨q + 1, e + 1, by omega, b2, by go_num, by go_num, HE7⟩
          case measure => simp only [RowKit.intOf]; omega
        · have uq : decide ((q : Int) < (m : Int)) = false := decide_eq_false (by omega)
          go_wp2_with fail
          refine (AW.out _).mono ?_
          rintro e w5 ⟨rfl, k5⟩
          go_wp2_with fail
          go_ret
          exact ⟨rfl, K4.out.trans k5⟩
end Go.Proofs.Ytjkkinccehfmoaa

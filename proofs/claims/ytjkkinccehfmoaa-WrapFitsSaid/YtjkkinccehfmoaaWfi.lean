/-
  Walk of the law WrapFits.
-/
import Derived.Test.YtjkkinccehfmoaaWal
namespace Go.Proofs.Ytjkkinccehfmoaa
open Go.RowKit Go.Lib Go.Maps

set_option maxRecDepth 100000 in
set_option maxHeartbeats 8000000 in
theorem wfits_any (l : List It) (lv : Value) (wd : Int) (W : World) (hA : IsAt W l lv) :
    Calls Try.prog 3 #[lv, .int .i64 wd] W fun e w' => e = .returned (.bool true) ∧ Keeps W w' := by
  have GR := Lib.hid (great_any l lv wd 60 W hA (by decide))
  have AW := Lib.hid (fun W1 => awake18_any W1)
  have HA := Lib.hid hA
  obtain ⟨A0, cp, rfl, hc1, hc2, h3⟩ := hA
  unfold maxLen at hc2
  have HC : Hid (∀ k (h : k < l.length) (w1 : World), Keeps W w1 → ∃ g o, A0 = some ⟨g, o, none⟩ ∧ w1.cell? ⟨g, o + k * 9, none⟩ = some (.int .i64 l[k].kind) ∧ w1.cell? ⟨g, o + k * 9 + 4, none⟩ = some (.int .i64 l[k].cost)) := Lib.hid fun k h w1 q => by
    obtain ⟨g, o, e, hc⟩ := h3 (by omega)
    exact ⟨g, o, e, q.cell2 (hc k h 0 _ rfl), q.cell2 (hc k h 4 _ rfl)⟩
  clear h3
  go_enter Try.func3, Try.ntmps3
  go_wp2_with fail
  refine GR.out.mono ?_
  rintro e w1 ⟨b, rfl, hb, k1⟩
  cases b with
  | true =>
    go_wp2_with fail
    refine (AW.out _).mono ?_
    rintro e w2 ⟨rfl, k2⟩
    go_wp2_with fail
    go_ret
    exact ⟨rfl, k1.trans k2⟩
  | false =>
    obtain ⟨hl, ⟨h1, h2⟩, hx⟩ := hb rfl
    have BK := Lib.hid (breaks_any l (.slice A0 l.length cp) wd w1 (HA.out.keep k1) (by omega) hx (by omega) (by omega))
    have LG := Lib.hid (fun i (hi : i ≤ l.length) W1 (q : Keeps W W1) => legal_any l (.slice A0 l.length cp) i W1 (HA.out.keep q) hi (by omega))
    have SU := Lib.hid (fun a b (hab : a ≤ b) (hb : b ≤ l.length) W1 (q : Keeps W W1) => wsum_any l (.slice A0 l.length cp) a b W1 (HA.out.keep q) hab hb (by omega) hx)
    have HSB := Lib.hid (fun a b (hb : b ≤ 1000) => sub_B hx (j := b) (k := min (bxP l a) b) hb (by omega))
    have K1 := Lib.hid k1
    clear hx hb k1
    go_wp2_with fail
    refine BK.out.mono ?_
    rintro e w2 ⟨v, es, ok, rfl, hns, hbk, k2⟩
    have K2 := Lib.hid (K1.out.trans k2)
    have NS := Lib.hid hns
    obtain ⟨A2, c2, rfl, g1, g2, g3⟩ := hns
    unfold maxLen at g2
    have HE : Hid (∀ i (h : i < es.length) (w1 : World), Keeps w2 w1 → ∃ g o, A2 = some ⟨g, o, none⟩ ∧ w1.cell? ⟨g, o + i, none⟩ = some (.int .i64 (es[i] : Nat))) := Lib.hid fun i h w1 q => by
      obtain ⟨g, o, e, hc⟩ := g3 (by omega)
      exact ⟨g, o, e, q.cell2 (hc i h)⟩
    clear k2 g3
    rcases hbk with ⟨rfl, c, hc, _⟩ | ⟨rfl, rfl, _⟩
    · have CH := Lib.hid hc
      have hf := hc.few
      have HL : Hid (nextF es = l.length + 1) := Lib.hid hc.next.symm
      obtain ⟨n, hn⟩ : ∃ n, l.length = n := ⟨_, rfl⟩
      have HN := Lib.hid hn
      obtain ⟨m, hm⟩ : ∃ m, es.length = m := ⟨_, rfl⟩
      have HM := Lib.hid hm
      rw [hn] at hl hc1 LG SU HL hf ⊢
      rw [hm] at g1 hf ⊢
      clear hc hn hm
      go_wp2_with fail
      go_loopw [7, 8] (fun u y wr => ∃ (i f : Nat), i ≤ m ∧ f ≤ n + 1 ∧ u = .int .i64 f ∧ y = .int .i64 i ∧ Hid (f = nextF (es.take i)) ∧ Hid (Keeps w2 wr)) (fun _ y _ => m - (RowKit.intOf y).toNat)
      case atStart => exact ⟨0, 0, Nat.zero_le _, Nat.zero_le _, rfl, rfl, Lib.hid rfl, Lib.hid (Keeps.refl _)⟩
      case round =>
        obtain ⟨i, f, hi, hfn, rfl, rfl, HF, HK⟩ := hrel
        by_cases ci : i < m
        · have tc : decide ((i : Int) < (m : Int)) = true := decide_eq_true (by omega)
          have hi' : i < es.length := by rw [HM.out]; exact ci
          obtain ⟨c', p, a1, a2, a3, a4, a5, a6⟩ := CH.out.at_ hi'
          rw [← HF.out] at a2 a5
          rw [HN.out] at a3
          obtain ⟨g, o, eA, y0⟩ := HE.out i hi' wr HK.out
          cases eA
          have HN6 := Lib.hid a6
          generalize es[i] = e at *
          have KW := Lib.hid (K2.out.trans HK.out)
          have LE := Lib.hid (LG.out e a3 wr KW.out)
          rw [a4] at LE
          have SE := Lib.hid (SU.out f e a2 a3 wr KW.out)
          have hft := prcM_fits (can_noM a5).2
          have HNM := Lib.hid (noM_iff.1 (can_noM a5).1)
          have hB := HSB.out f e (by omega)
          have HB2 : Hid (meB (btw l f e)) := Lib.hid hB
          unfold meB at hB
          have hBt : btw l f e = meSub (preM l e) (preM l (min (bxP l f) e)) := rfl
          rw [← hBt] at hB
          clear hBt
          generalize btw l f e = mm at *
          obtain ⟨mw, mg, ms⟩ := mm
          simp only at hft hB SE
          obtain ⟨⟨w0, w1'⟩, _, w3, w4⟩ := hB
          have i0 : (0 : Int) ≤ (i : Int) := by omega
          have i1 : (i : Int) < (m : Int) := by omega
          have t1 : decide ((e : Int) < (f : Int)) = false := decide_eq_false (by omega)
          have t2 : decide ((n : Int) < (e : Int)) = false := decide_eq_false (by omega)
          clear a1 a4 a5 a6 HB2
          by_cases q : wd < mw
          · have t3 : decide (wd < mw) = true := decide_eq_true q
            have t4 : decide (wd < mw - ms) = false := decide_eq_false (by omega)
            clear hft
            go_wp2_with fail
            refine LE.out.mono ?_
            rintro e1 w5 ⟨rfl, rfl⟩
            go_wp2_with fail
            refine SE.out.mono ?_
            rintro e1 w6 ⟨rfl, k6⟩
            have y6 := k6.cell2 y0
            have K6 := Lib.hid (HK.out.trans k6)
            go_wp2_with fail
            go_loop [12] (fun z => ∃ k : Nat, f ≤ k ∧ k ≤ e ∧ z = .int .i64 k) (fun z => e - (RowKit.intOf z).toNat)
            case atStart => exact ⟨f, Nat.le_refl _, a2, rfl⟩
            case round =>
              obtain ⟨k, hk1, hk2, rfl⟩ := hrel
              by_cases ck : k < e
              · have u1 : decide ((k : Int) < (e : Int)) = true := decide_eq_true (by omega)
                have hkl : k < l.length := by rw [HN.out]; omega
                have hmu := HNM.out k hk1 ck
                obtain ⟨gl, ol, eL, z0, z4⟩ := HC.out k hkl w6 (K2.out.trans K6.out)
                cases eL
                have j0 : (0 : Int) ≤ (k : Int) := by omega
                have j1 : (k : Int) < (n : Int) := by omega
                by_cases hkd : l[k].kind = 3
                · rw [must_pen hkl hkd] at hmu
                  rw [hkd] at z0
                  generalize l[k].cost = xc at *
                  clear hkl hkd
                  go_wp2_with fail
                  go_round
                  case rel => exact ⟨k + 1, by omega, by omega, by go_num⟩
                  case measure => simp only [RowKit.intOf]; omega
                · have tk : (l[k].kind == 3) = false := beqF hkd
                  generalize l[k].cost = xc at *
                  generalize l[k].kind = xk at *
                  clear hkl hkd hmu
                  go_wp2_with fail
                  go_round
                  case rel => exact ⟨k + 1, by omega, by omega, by go_num⟩
                  case measure => simp only [RowKit.intOf]; omega
              · have u1 : decide ((k : Int) < (e : Int)) = false := decide_eq_false (by omega)
                go_wp2_with fail
                go_roundw
                case rel => exact ⟨i + 1, e + 1, by omega, by omega, by go_num, by go_num, Lib.hid HN6.out.symm, K6⟩
                case measure => simp only [RowKit.intOf]; omega
          · have t3 : decide (wd < mw) = false := decide_eq_false q
            clear hft
            go_wp2_with fail
            refine LE.out.mono ?_
            rintro e1 w5 ⟨rfl, rfl⟩
            go_wp2_with fail
            refine SE.out.mono ?_
            rintro e1 w6 ⟨rfl, k6⟩
            have y6 := k6.cell2 y0
            have K6 := Lib.hid (HK.out.trans k6)
            go_wp2_with fail
            go_loop [12] (fun z => ∃ k : Nat, f ≤ k ∧ k ≤ e ∧ z = .int .i64 k) (fun z => e - (RowKit.intOf z).toNat)
            case atStart => exact ⟨f, Nat.le_refl _, a2, rfl⟩
            case round =>
              obtain ⟨k, hk1, hk2, rfl⟩ := hrel
              by_cases ck : k < e
              · have u1 : decide ((k : Int) < (e : Int)) = true := decide_eq_true (by omega)
                have hkl : k < l.length := by rw [HN.out]; omega
                have hmu := HNM.out k hk1 ck
                obtain ⟨gl, ol, eL, z0, z4⟩ := HC.out k hkl w6 (K2.out.trans K6.out)
                cases eL
                have j0 : (0 : Int) ≤ (k : Int) := by omega
                have j1 : (k : Int) < (n : Int) := by omega
                by_cases hkd : l[k].kind = 3
                · rw [must_pen hkl hkd] at hmu
                  rw [hkd] at z0
                  generalize l[k].cost = xc at *
                  clear hkl hkd
                  go_wp2_with fail
                  go_round
                  case rel => exact ⟨k + 1, by omega, by omega, by go_num⟩
                  case measure => simp only [RowKit.intOf]; omega
                · have tk : (l[k].kind == 3) = false := beqF hkd
                  generalize l[k].cost = xc at *
                  generalize l[k].kind = xk at *
                  clear hkl hkd hmu
                  go_wp2_with fail
                  go_round
                  case rel => exact ⟨k + 1, by omega, by omega, by go_num⟩
                  case measure => simp only [RowKit.intOf]; omega
              · have u1 : decide ((k : Int) < (e : Int)) = false := decide_eq_false (by omega)
                go_wp2_with fail
                go_roundw
                case rel => exact ⟨i + 1, e + 1, by omega, by omega, by go_num, by go_num, Lib.hid HN6.out.symm, K6⟩
                case measure => simp only [RowKit.intOf]; omega
        · have e : i = m := by omega
          have tc : decide ((i : Int) < (m : Int)) = false := decide_eq_false (by omega)
          have hfe : f = n + 1 := by rw [HF.out, e, ← HM.out, next_all, HL.out]
          have te : ((f : Int) == (n : Int) + 1) = true := beqT (by omega)
          clear hfe
          go_wp2_with fail
          refine (AW.out _).mono ?_
          rintro e w5 ⟨rfl, k5⟩
          go_wp2_with fail
          go_ret
          exact ⟨rfl, K2.out.trans (HK.out.trans k5)⟩
    · simp only [List.length_nil] at g1 ⊢
      go_wp2_with fail
      refine (AW.out _).mono ?_
      rintro e w5 ⟨rfl, k5⟩
      go_wp2_with fail
      go_ret
      exact ⟨rfl, K2.out.trans k5⟩
end Go.Proofs.Ytjkkinccehfmoaa

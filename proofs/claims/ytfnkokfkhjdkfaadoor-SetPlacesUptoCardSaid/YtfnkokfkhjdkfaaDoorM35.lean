/-
  Texts of the proof, one behind the other: Src, Srk.
-/
import Derived.Test.YtfnkokfkhjdkfaaDoorM28
import Derived.Test.YtfnkokfkhjdkfaaDoorM20
import Derived.Test.YtfnkokfkhjdkfaaDoorM5
import Derived.Test.YtfnkokfkhjdkfaaDoorM15
/-
  Contract of the document's Price.
-/
namespace Go.Proofs.YtfnkokfkhjdkfaaDoor
open Go.RowKit Go.Lib Go.Maps

set_option maxRecDepth 100000 in
set_option maxHeartbeats 16000000 in
theorem rprice_any (l : List It) (lv : Value) (a b : Nat) (wd : Int) (W : World) (hA : IsAt W l lv) (hab : a ≤ b) (hb : b ≤ l.length) (hl : l.length ≤ 100000) (hx : ∀ x ∈ l, itW x) (h1 : -1152921504606846976 ≤ wd) (h2 : wd ≤ 1152921504606846976) :
    Calls Tryd.prog 26 #[lv, .int .i64 a, .int .i64 b, .int .i64 wd] W fun e w' => e = .returned (pcV (canO l wd a b)) ∧ Keeps W w' := by
  have SU := Lib.hid (rsum_any l lv a b W hA hab hb hl hx)
  have hB := sub_B hx (j := b) (k := min (bxF l a) b) (by omega) (by omega)
  have HP : Hid (prc l wd a b = prcM (btw l a b) wd (stp l b)) := Lib.hid rfl
  have MU := Lib.hid (fun j (hj : j ≤ b) W1 (k : Keeps W W1) => rmust_any l lv j W1 (hA.keep k) (by omega))
  have D := Lib.hid (fun b c w1 => rdem_any b c w1)
  have hE : b = l.length ∨ ∃ (g o c0 : Nat) (y : It), l[b]? = some y ∧ lv = .slice (some ⟨g, o, none⟩) l.length c0 ∧ W.rangeAt g (o + b * 9) (itC y) := by
    obtain ⟨A, cap, e0, c1, c2, hc⟩ := hA
    by_cases e : b = l.length
    · exact .inl e
    · have hlt : b < l.length := by omega
      obtain ⟨g, o, eA, hr⟩ := hc (by omega)
      rw [eA] at e0
      exact .inr ⟨g, o, cap, l[b], List.getElem?_eq_getElem hlt, e0, hr b hlt⟩
  have BM : btw l a b = meSub (preM l b) (preM l (min (bxF l a) b)) := rfl
  rw [← BM] at hB
  obtain ⟨A, cap, rfl, c1, c2, _⟩ := hA
  unfold maxLen at c2
  obtain ⟨n, hn⟩ : ∃ n, l.length = n := ⟨_, rfl⟩
  have HN := Lib.hid hn
  rw [hn] at c1 hb hl SU MU hE ⊢
  generalize btw l a b = m at *
  obtain ⟨mw, mg, ms⟩ := m
  obtain ⟨⟨m1, m2⟩, ⟨m3, m4⟩, m5, m6⟩ := hB
  simp only at SU m1 m2 m3 m4 m5 m6
  have B1 := Lib.hid (fun (q : wd < mw) w1 => rbad_any (mw - wd) ms w1 (by omega) (by omega) (by omega))
  have B2 := Lib.hid (fun (q : mw ≤ wd) w1 => rbad_any (wd - mw) mg w1 (by omega) (by omega) (by omega))
  have R : prcM ⟨mw, mg, ms⟩ wd (stp l b) = if wd < mw then (if wd < mw - ms then none else some (dem (bad (mw - wd) ms) (stp l b).2)) else if (stp l b).1 = true then some (dem 0 (stp l b).2) else some (dem (bad (wd - mw) mg) (stp l b).2) := rfl
  rw [R] at HP
  clear R hx hn BM
  go_enter Tryd.func26, Tryd.ntmps26
  go_wp2_with fail
  go_loop [10] (fun y => ∃ k : Nat, a ≤ k ∧ k ≤ b ∧ y = .int .i64 k ∧ Hid (∀ j, a ≤ j → j < k → mustP l j = false)) (fun y => b - (RowKit.intOf y).toNat)
  case atStart => exact ⟨a, Nat.le_refl _, hab, rfl, Lib.hid (fun j q1 q2 => by omega)⟩
  case round =>
    obtain ⟨k, hk1, hk2, rfl, HM⟩ := hrel
    by_cases c : k < b
    · have t1 : decide ((k : Int) < (b : Int)) = true := decide_eq_true (by omega)
      have MK := Lib.hid (MU.out k (by omega) W (Keeps.refl _))
      cases hm : mustP l k with
      | true =>
        rw [hm] at MK
        have HR : Hid (canO l wd a b = none) := Lib.hid (can_no (noM_not hk1 c hm))
        clear hm hE
        go_wp2_with fail
        refine MK.out.mono ?_
        rintro e w1 ⟨rfl, rfl⟩
        go_wp2_with fail
        go_ret2
        exact ⟨by rw [HR.out]; rfl, Keeps.refl _⟩
      | false =>
        rw [hm] at MK
        have HN : Hid (∀ j, a ≤ j → j < k + 1 → mustP l j = false) := Lib.hid (fun j q1 q2 => by
          by_cases e : j = k
          · rw [e]; exact hm
          · exact HM.out j q1 (by omega))
        clear hm hE
        go_wp2_with fail
        refine MK.out.mono ?_
        rintro e w1 ⟨rfl, rfl⟩
        go_wp2_with fail
        go_round
        case rel => exact ⟨k + 1, by omega, by omega, by go_num, HN⟩
        case measure => simp only [RowKit.intOf]; omega
    · have e : k = b := by omega
      have HR : Hid (canO l wd a b = prc l wd a b) := Lib.hid (can_yes (noM_iff.2 (by rw [← e]; exact HM.out)))
      have t1 : decide ((k : Int) < (b : Int)) = false := decide_eq_false (by omega)
      clear e
      rcases hE with hbn | ⟨g, o, c0, y, hy, hv, hr⟩
      · have HS : Hid (stp l b = (true, 0)) := Lib.hid (stp_must (by rw [hbn, ← HN.out]; exact must_end l))
        have HMb : Hid (mustP l b = true) := Lib.hid (by rw [hbn, ← HN.out]; exact must_end l)
        have u1 : decide ((b : Int) < (n : Int)) = false := decide_eq_false (by omega)
        have u2 : decide (b < n) = false := decide_eq_false (by omega)
        clear hbn
        by_cases q1 : wd < mw
        · by_cases q2 : wd < mw - ms
          · have HV : Hid (canO l wd a b = none) := Lib.hid (by rw [HR.out, HP.out, if_pos q1, if_pos q2])
            go_wp2_with fail
            refine SU.out.mono ?_
            rintro e w1 ⟨rfl, k1⟩
            go_wp2_with fail
            go_ret2
            exact ⟨by rw [HV.out]; rfl, k1⟩
          · have HV : Hid (canO l wd a b = some (dem (bad (mw - wd) ms) 0)) := Lib.hid (by rw [HR.out, HP.out, if_pos q1, if_neg q2, HS.out])
            have B1 := Lib.hid (B1.out q1)
            generalize bad (mw - wd) ms = bb at *
            go_wp2_with fail
            refine SU.out.mono ?_
            rintro e w1 ⟨rfl, k1⟩
            go_wp2_with fail
            refine (B1.out _).mono ?_
            rintro e w2 ⟨rfl, k2⟩
            have K2 := k1.trans k2
            go_wp2_with fail
            refine (D.out bb _ _).mono ?_
            rintro e w8 ⟨rfl, rfl⟩
            go_wp2_with fail
            go_ret2
            exact ⟨by rw [HV.out]; rfl, K2⟩
        · have q3 : decide (mw < wd) = decide (mw < wd) := rfl
          have HV : Hid (canO l wd a b = some (dem 0 0)) := Lib.hid (by rw [HR.out, HP.out, if_neg q1, HS.out, if_pos rfl])
          clear q3
          go_wp2_with fail
          refine SU.out.mono ?_
          rintro e w1 ⟨rfl, k1⟩
          go_wp2_with fail
          refine (MU.out b (Nat.le_refl _) _ k1).mono ?_
          rw [HMb.out]
          rintro e w2 ⟨rfl, rfl⟩
          go_wp2_with fail
          refine (D.out 0 _ _).mono ?_
          rintro e w8 ⟨rfl, rfl⟩
          go_wp2_with fail
          go_ret2
          exact ⟨by rw [HV.out]; rfl, k1⟩
      · obtain ⟨hbl, hye⟩ := List.getElem?_eq_some_iff.1 hy
        injection hv with hv1 _ hv2
        subst hv1 hv2
        have y0 : W.cell? ⟨g, o + b * 9, none⟩ = some (.int .i64 y.kind) := hr 0 _ rfl
        have y4 : W.cell? ⟨g, o + b * 9 + 4, none⟩ = some (.int .i64 y.cost) := hr 4 _ rfl
        have hbn : b < n := by rw [← HN.out]; exact hbl
        have u1 : decide ((b : Int) < (n : Int)) = true := decide_eq_true (by omega)
        have u2 : decide (b < n) = true := decide_eq_true (by omega)
        have i0 : (0 : Int) ≤ (b : Int) := by omega
        have i1 : (b : Int) < (n : Int) := by omega
        have HY := Lib.hid hye
        clear hr hy hye
        by_cases h3 : y.kind = 3
        · by_cases h4 : y.cost ≤ -10000
          · have HMb : Hid (mustP l b = true) := Lib.hid (by rw [must_pen hbl (by rw [HY.out]; exact h3), HY.out]; exact decide_eq_true h4)
            have HS : Hid (stp l b = (true, 0)) := Lib.hid (stp_must HMb.out)
            rw [h3] at y0
            generalize y.cost = yc at *
            clear hbl h3 HY
            by_cases q1 : wd < mw
            · by_cases q2 : wd < mw - ms
              · have HV : Hid (canO l wd a b = none) := Lib.hid (by rw [HR.out, HP.out, if_pos q1, if_pos q2])
                go_wp2_with fail
                refine SU.out.mono ?_
                rintro e w1 ⟨rfl, k1⟩
                go_wp2_with fail
                go_ret2
                exact ⟨by rw [HV.out]; rfl, k1⟩
              · have HV : Hid (canO l wd a b = some (dem (bad (mw - wd) ms) 0)) := Lib.hid (by rw [HR.out, HP.out, if_pos q1, if_neg q2, HS.out])
                have B1 := Lib.hid (B1.out q1)
                generalize bad (mw - wd) ms = bb at *
                go_wp2_with fail
                refine SU.out.mono ?_
                rintro e w1 ⟨rfl, k1⟩
                have y0 := k1.cell2 y0
                have y4 := k1.cell2 y4
                go_wp2_with fail
                refine (B1.out _).mono ?_
                rintro e w2 ⟨rfl, k2⟩
                have K2 := k1.trans k2
                have y0 := k2.cell2 y0
                have y4 := k2.cell2 y4
                go_wp2_with fail
                refine (MU.out b (Nat.le_refl _) _ K2).mono ?_
                rw [HMb.out]
                rintro e w9 ⟨rfl, rfl⟩
                go_wp2_with fail
                refine (D.out bb _ _).mono ?_
                rintro e w8 ⟨rfl, rfl⟩
                go_wp2_with fail
                go_ret2
                exact ⟨by rw [HV.out]; rfl, K2⟩
            · have q3 : decide (mw < wd) = decide (mw < wd) := rfl
              have HV : Hid (canO l wd a b = some (dem 0 0)) := Lib.hid (by rw [HR.out, HP.out, if_neg q1, HS.out, if_pos rfl])
              clear q3
              go_wp2_with fail
              refine SU.out.mono ?_
              rintro e w1 ⟨rfl, k1⟩
              have y0 := k1.cell2 y0
              have y4 := k1.cell2 y4
              go_wp2_with fail
              refine (MU.out b (Nat.le_refl _) _ k1).mono ?_
              rw [HMb.out]
              rintro e w2 ⟨rfl, rfl⟩
              go_wp2_with fail
              refine (MU.out b (Nat.le_refl _) _ k1).mono ?_
              rw [HMb.out]
              rintro e w9 ⟨rfl, rfl⟩
              go_wp2_with fail
              refine (D.out 0 _ _).mono ?_
              rintro e w8 ⟨rfl, rfl⟩
              go_wp2_with fail
              go_ret2
              exact ⟨by rw [HV.out]; rfl, k1⟩
          · have HMb : Hid (mustP l b = false) := Lib.hid (by rw [must_pen hbl (by rw [HY.out]; exact h3), HY.out]; exact decide_eq_false h4)
            have HS : Hid (stp l b = (false, y.cost)) := Lib.hid (by rw [stp_pen HMb.out hbl (by rw [HY.out]; exact h3), HY.out])
            rw [h3] at y0
            generalize y.cost = yc at *
            clear hbl h3 HY
            by_cases q1 : wd < mw
            · by_cases q2 : wd < mw - ms
              · have HV : Hid (canO l wd a b = none) := Lib.hid (by rw [HR.out, HP.out, if_pos q1, if_pos q2])
                go_wp2_with fail
                refine SU.out.mono ?_
                rintro e w1 ⟨rfl, k1⟩
                go_wp2_with fail
                go_ret2
                exact ⟨by rw [HV.out]; rfl, k1⟩
              · have HV : Hid (canO l wd a b = some (dem (bad (mw - wd) ms) yc)) := Lib.hid (by rw [HR.out, HP.out, if_pos q1, if_neg q2, HS.out])
                have B1 := Lib.hid (B1.out q1)
                generalize bad (mw - wd) ms = bb at *
                go_wp2_with fail
                refine SU.out.mono ?_
                rintro e w1 ⟨rfl, k1⟩
                have y0 := k1.cell2 y0
                have y4 := k1.cell2 y4
                go_wp2_with fail
                refine (B1.out _).mono ?_
                rintro e w2 ⟨rfl, k2⟩
                have K2 := k1.trans k2
                have y0 := k2.cell2 y0
                have y4 := k2.cell2 y4
                go_wp2_with fail
                refine (MU.out b (Nat.le_refl _) _ K2).mono ?_
                rw [HMb.out]
                rintro e w9 ⟨rfl, rfl⟩
                go_wp2_with fail
                refine (D.out bb _ _).mono ?_
                rintro e w8 ⟨rfl, rfl⟩
                go_wp2_with fail
                go_ret2
                exact ⟨by rw [HV.out]; rfl, K2⟩
            · have q3 : decide (mw < wd) = decide (mw < wd) := rfl
              have HV : Hid (canO l wd a b = some (dem (bad (wd - mw) mg) yc)) := Lib.hid (by rw [HR.out, HP.out, if_neg q1, HS.out, if_neg (fun q => (by cases q))])
              have B2 := Lib.hid (B2.out (Int.not_lt.1 q1))
              generalize bad (wd - mw) mg = bb at *
              clear q3
              go_wp2_with fail
              refine SU.out.mono ?_
              rintro e w1 ⟨rfl, k1⟩
              have y0 := k1.cell2 y0
              have y4 := k1.cell2 y4
              go_wp2_with fail
              refine (MU.out b (Nat.le_refl _) _ k1).mono ?_
              rw [HMb.out]
              rintro e w2 ⟨rfl, rfl⟩
              go_wp2_with fail
              refine (B2.out _).mono ?_
              rintro e w3 ⟨rfl, k2⟩
              have K2 := k1.trans k2
              have y0 := k2.cell2 y0
              have y4 := k2.cell2 y4
              go_wp2_with fail
              refine (MU.out b (Nat.le_refl _) _ K2).mono ?_
              rw [HMb.out]
              rintro e w9 ⟨rfl, rfl⟩
              go_wp2_with fail
              refine (D.out bb _ _).mono ?_
              rintro e w8 ⟨rfl, rfl⟩
              go_wp2_with fail
              go_ret2
              exact ⟨by rw [HV.out]; rfl, K2⟩
        · have HMb : Hid (mustP l b = false) := Lib.hid (must_else hbl (by rw [HY.out]; exact h3))
          have HS : Hid (stp l b = (false, 0)) := Lib.hid (stp_else HMb.out hbl (by rw [HY.out]; exact h3))
          have tq : (y.kind == 3) = false := beqF h3
          generalize y.cost = yc at *
          generalize y.kind = yk at *
          clear hbl HY
          by_cases q1 : wd < mw
          · by_cases q2 : wd < mw - ms
            · have HV : Hid (canO l wd a b = none) := Lib.hid (by rw [HR.out, HP.out, if_pos q1, if_pos q2])
              go_wp2_with fail
              refine SU.out.mono ?_
              rintro e w1 ⟨rfl, k1⟩
              go_wp2_with fail
              go_ret2
              exact ⟨by rw [HV.out]; rfl, k1⟩
            · have HV : Hid (canO l wd a b = some (dem (bad (mw - wd) ms) 0)) := Lib.hid (by rw [HR.out, HP.out, if_pos q1, if_neg q2, HS.out])
              have B1 := Lib.hid (B1.out q1)
              generalize bad (mw - wd) ms = bb at *
              go_wp2_with fail
              refine SU.out.mono ?_
              rintro e w1 ⟨rfl, k1⟩
              have y0 := k1.cell2 y0
              have y4 := k1.cell2 y4
              go_wp2_with fail
              refine (B1.out _).mono ?_
              rintro e w2 ⟨rfl, k2⟩
              have K2 := k1.trans k2
              have y0 := k2.cell2 y0
              have y4 := k2.cell2 y4
              go_wp2_with fail
              refine (D.out bb _ _).mono ?_
              rintro e w8 ⟨rfl, rfl⟩
              go_wp2_with fail
              go_ret2
              exact ⟨by rw [HV.out]; rfl, K2⟩
          · have q3 : decide (mw < wd) = decide (mw < wd) := rfl
            have HV : Hid (canO l wd a b = some (dem (bad (wd - mw) mg) 0)) := Lib.hid (by rw [HR.out, HP.out, if_neg q1, HS.out, if_neg (fun q => (by cases q))])
            have B2 := Lib.hid (B2.out (Int.not_lt.1 q1))
            generalize bad (wd - mw) mg = bb at *
            clear q3
            go_wp2_with fail
            refine SU.out.mono ?_
            rintro e w1 ⟨rfl, k1⟩
            have y0 := k1.cell2 y0
            have y4 := k1.cell2 y4
            go_wp2_with fail
            refine (MU.out b (Nat.le_refl _) _ k1).mono ?_
            rw [HMb.out]
            rintro e w2 ⟨rfl, rfl⟩
            go_wp2_with fail
            refine (B2.out _).mono ?_
            rintro e w3 ⟨rfl, k2⟩
            have K2 := k1.trans k2
            have y0 := k2.cell2 y0
            have y4 := k2.cell2 y4
            go_wp2_with fail
            refine (D.out bb _ _).mono ?_
            rintro e w8 ⟨rfl, rfl⟩
            go_wp2_with fail
            go_ret2
            exact ⟨by rw [HV.out]; rfl, K2⟩
end Go.Proofs.YtfnkokfkhjdkfaaDoor

/-
  Contract of the document's Breaks.
-/
namespace Go.Proofs.YtfnkokfkhjdkfaaDoor
open Go.RowKit Go.Lib Go.Maps

/-- R18k, shut. -/
def R18h (l : List It) (wd : Int) (fr bs : List Int) (i k : Nat) (q b : Int) : Prop := Hid (R18k l wd fr bs i k q b)
theorem R18k.lk {l : List It} {wd : Int} {fr bs : List Int} {i k : Nat} {q b : Int} (h : R18k l wd fr bs i k q b) : R18h l wd fr bs i k q b := Lib.hid h
/-- Where the outer loop stands. -/
def R18m (W : World) (l : List It) (wd : Int) (i : Nat) (wr : World) : Prop := ∃ fr bs, R18 l wd fr bs i ∧ Blk wr (W.heap.size + 1) 3 (intC fr) ∧ Blk wr W.heap.size 3 (intC bs) ∧ Keeps W wr
/-- What the document's Breaks tells, if there is a way. -/
def BrkD (W : World) (l : List It) (wd : Int) (e : Ending) (w' : World) : Prop := ∃ (A : Option Addr) (cap : Nat) (es : List Nat) (c : Int), e = .returned (.tuple #[.slice A es.length cap, .bool true]) ∧ Chain l wd es (l.length + 1) c ∧ w'.ownsRow W.heap.size 3 1 (.slice A es.length cap) es.length (nsR es) ∧ Keeps W w'
set_option maxRecDepth 100000 in
set_option maxHeartbeats 32000000 in
theorem rbreaks_any (l : List It) (lv : Value) (wd : Int) (W : World) (hA : IsAt W l lv) (hl : l.length ≤ 100000) (hx : ∀ x ∈ l, itW x) (h1 : -1152921504606846976 ≤ wd) (h2 : wd ≤ 1152921504606846976) (hway : ∃ es c, Chain l wd es (l.length + 1) c) :
    Calls Tryd.prog 14 #[lv, .int .i64 wd] W (BrkD W l wd) := by
  have LG := Lib.hid (fun i (hi : i ≤ l.length) W1 (k : Keeps W W1) => rlegal_any l lv i W1 (hA.keep k) hi)
  have PR := Lib.hid (fun a b (hab : a ≤ b) (hb : b ≤ l.length) W1 (k : Keeps W W1) => rprice_any l lv a b wd W1 (hA.keep k) hab hb hl hx h1 h2)
  obtain ⟨A, cap, rfl, c1, c2, _⟩ := hA
  unfold maxLen at c2
  have HWAY := Lib.hid hway
  obtain ⟨n, hn⟩ : ∃ n, l.length = n := ⟨_, rfl⟩
  have HN := Lib.hid hn
  have HLF : Hid (∀ fr bs i, R18 l wd fr bs i → fr.length = n + 1 ∧ bs.length = n + 1) := Lib.hid fun fr bs i h => by rw [h.lf, h.lb, hn]; exact ⟨rfl, rfl⟩
  have ST : Hid (R18 l wd (List.replicate (n + 1) 0) (List.replicate (n + 1) 0) 0) := Lib.hid (by rw [← hn]; exact R18.start)
  have NX : Hid (∀ fr bs i q b, R18 l wd fr bs i → i ≤ n → R18k l wd fr bs i (i + 1) q b → R18 l wd (fr.set i q) (bs.set i b) (i + 1)) := Lib.hid fun fr bs i q b h hi hk => h.next (by omega) hk
  have SK : Hid (∀ fr bs i, R18 l wd fr bs i → i ≤ n → legP l i = false → R18 l wd (fr.set i (-1)) bs (i + 1)) := Lib.hid fun fr bs i h hi hg => h.skip (by omega) hg
  rw [hn] at c1 hl LG PR ⊢
  clear hn hx hway
  obtain ⟨i0, hi0, hz0, hz1, hz2⟩ := info_parts infoNs
  obtain ⟨Z, hZ⟩ : ∃ Z, Z = intC (List.replicate (n + 1) 0) := ⟨_, rfl⟩
  have HZ := Lib.hid hZ
  have MK : ∀ w : World, (Instr.makeSlice 36 (.int .i64 ((n : Int) + 1)) (.int .i64 ((n : Int) + 1))).run Tryd.prog w = .ok (.slice (some ⟨w.heap.size, 0, none⟩) (n + 1) (n + 1)) (w.alloc (.cells Z 3)) := fun w => by
    have := run_make (P := Tryd.prog) (w := w) 36 3 i0 _ Tryd.underlying36 hi0 hz0 .i64 .i64 ((n : Int) + 1) ((n : Int) + 1) (by omega) (by omega) (by rw [hz2]; omega) (by omega)
    rw [this, hz1, show ((n : Int) + 1).toNat = n + 1 by omega, Nat.mul_one, hZ, ← made_ints]
    rfl
  have S0 : Hid (R18m W l wd 0 ((W.alloc (.cells Z 3)).alloc (.cells Z 3))) := Lib.hid ⟨_, _, ST.out, by rw [hZ]; exact blk_two _ _ _ _, by rw [hZ]; exact blk_old _ _ _ _, keeps_two _ _ _⟩
  clear hZ hi0 hz0 hz1 hz2
  unfold BrkD
  go_enter Tryd.func14, Tryd.ntmps14
  go_wp2_with fail
  go_loopw [8] (fun y wr => ∃ i : Nat, i ≤ n + 1 ∧ y = .int .i64 i ∧ Hid (R18m W l wd i wr)) (fun y _ => n + 1 - (RowKit.intOf y).toNat)
  case atStart => exact ⟨0, Nat.zero_le _, rfl, S0⟩
  case round =>
    obtain ⟨i, hi, rfl, HM⟩ := hrel
    by_cases c : i ≤ n
    · obtain ⟨fr, bs, hR, hF, hB, hK⟩ := HM.out
      obtain ⟨lf, lb⟩ := HLF.out _ _ _ hR
      obtain ⟨b0, hb0⟩ : ∃ b0, bs[i]? = some b0 := ⟨_, List.getElem?_eq_getElem (by omega)⟩
      obtain ⟨f0, hf0⟩ : ∃ f0, fr[i]? = some f0 := ⟨_, List.getElem?_eq_getElem (by omega)⟩
      have t1 : decide ((i : Int) ≤ (n : Int)) = true := decide_eq_true (by omega)
      have zF := hF.cell i (intC_at hf0)
      have gF := hF.free i
      have i0 : (0 : Int) ≤ (i : Int) := by omega
      have i1 : (i : Int) < (n : Int) + 1 := by omega
      have sF := Lib.hid (hF.set i (.int .i64 (-1)) (intC_set _ _ _))
      have sB : Hid (Blk (wr.setCell ⟨W.heap.size + 1, i, none⟩ (.int .i64 (-1))) W.heap.size 3 (intC (bs.set i b0))) := Lib.hid (by
        rw [show bs.set i b0 = bs by
          obtain ⟨hj, e⟩ := List.getElem?_eq_some_iff.1 hb0
          rw [← e]
          exact List.set_getElem_self hj]
        exact hB.other (by omega) i _)
      have sK := Lib.hid (hK.set (Nat.le_succ _) i (.int .i64 (-1)))
      have HR0 := Lib.hid hR
      have HKS := Lib.hid (R18k.start hR hb0)
      have LGI := Lib.hid (LG.out i c _ sK.out)
      cases hm : legP l i with
      | false =>
        rw [hm] at LGI
        have FIN : Hid (R18m W l wd (i + 1) (wr.setCell ⟨W.heap.size + 1, i, none⟩ (.int .i64 (-1)))) := Lib.hid ⟨_, _, SK.out _ _ _ hR c hm, sF.out, hB.other (by omega) i _, sK.out⟩
        clear hm hR hF hB hK HM hb0 hf0
        go_wp2_with fail
        refine LGI.out.mono ?_
        rintro e w2 ⟨rfl, rfl⟩
        go_wp2_with fail
        go_roundw
        case rel => exact ⟨i + 1, by omega, by go_num, FIN⟩
        case measure => simp only [RowKit.intOf]; omega
      | true =>
        rw [hm] at LGI
        have HG := Lib.hid hm
        clear hm hR hF hB hK HM hb0 hf0
        go_wp2_with fail
        refine LGI.out.mono ?_
        rintro e w2 ⟨rfl, rfl⟩
        go_wp2_with fail
        go_loopw [9] (fun y w2 => ∃ (k : Nat) (q b : Int), k ≤ i + 1 ∧ y = .int .i64 k ∧ R18h l wd fr bs i k q b ∧ Hid (Blk w2 (W.heap.size + 1) 3 (intC (fr.set i q))) ∧ Hid (Blk w2 W.heap.size 3 (intC (bs.set i b))) ∧ Hid (Keeps W w2)) (fun y _ => i + 1 - (RowKit.intOf y).toNat)
        case atStart => exact ⟨0, -1, b0, Nat.zero_le _, rfl, HKS, sF, sB, sK⟩
        case round =>
          obtain ⟨k, q, b, hk, rfl, HR, HF2, HB2, HK⟩ := hrel
          by_cases hki : k ≤ i
          · have u1 : decide ((k : Int) ≤ (i : Int)) = true := decide_eq_true (by omega)
            by_cases hk0 : k = 0
            · have u2 : decide ((0 : Int) < (k : Int)) = false := decide_eq_false (by omega)
              have u2' : decide (0 < k) = false := decide_eq_false (by omega)
              have HK0 := Lib.hid hk0
              clear hk0
              have PRK := Lib.hid (fun W1 (q : Keeps W W1) => PR.out k i hki (by omega) W1 q)
              cases hp : canO l wd k i with
              | none =>
                rw [hp] at PRK
                have RN := Lib.hid (HR.out.none hp)
                have hp' := Lib.hid hp
                unfold pcV at PRK
                simp only at PRK
                clear hp
                go_wp2_with fail
                refine (PRK.out _ HK.out).mono ?_
                rintro e w3 ⟨rfl, k3⟩
                have HF3 := Lib.hid (HF2.out.keep k3)
                have HB3 := Lib.hid (HB2.out.keep k3)
                have HK3 := Lib.hid (HK.out.trans k3)
                go_wp2_with fail
                go_roundw
                case rel => exact ⟨k + 1, q, b, by omega, by go_num, RN.out.lk, HF3, HB3, HK3⟩
                case measure => simp only [RowKit.intOf]; omega
              | some p =>
                rw [hp] at PRK
                have hpb := (can_bd hp).1
                have RT := Lib.hid (HR.out.take hki HG.out hp (.inl HK0.out) (by have := HK0.out; omega : -300000000 * (k : Int) ≤ 0 ∧ (0 : Int) ≤ 300000000 * (k : Int)))
                unfold pcV at PRK
                simp only at PRK
                have hrb := HR.out.bd
                have hrl := HR.out.low
                have HRk := Lib.hid (fun h0 : 0 ≤ q => HR.out.more h0)
                by_cases q0 : q < 0
                · have d1 : decide (q < 0) = true := decide_eq_true q0
                  clear hp
                  go_wp2_with fail
                  refine (PRK.out _ HK.out).mono ?_
                  rintro e w3 ⟨rfl, k3⟩
                  have HF3 := HF2.out.keep k3
                  have HB3 := HB2.out.keep k3
                  have HK3 := Lib.hid (HK.out.trans k3)
                  have yF := HF3.cell i (intC_at (by rw [List.getElem?_set_self (by omega)]))
                  have yB := HB3.cell i (intC_at (by rw [List.getElem?_set_self (by omega)]))
                  have fF := HF3.free i
                  have fB := HB3.free i
                  have yF2 := (HF3.other (g := W.heap.size) (by omega) i (.int .i64 (p))).cell i (intC_at (by rw [List.getElem?_set_self (by omega)]))
                  have fF2 := (HF3.other (g := W.heap.size) (by omega) i (.int .i64 (p))).free i
                  have NB := Lib.hid ((HB3.set i (.int .i64 (p)) (by rw [intC_set, List.set_set])).other (g := W.heap.size + 1) (by omega) i (.int .i64 (k : Int)))
                  have NF := Lib.hid ((HF3.other (g := W.heap.size) (by omega) i (.int .i64 (p))).set i (.int .i64 (k : Int)) (by rw [intC_set, List.set_set]))
                  have NK := Lib.hid ((HK3.out.set (Nat.le_refl _) i (.int .i64 (p))).set (Nat.le_succ _) i (.int .i64 (k : Int)))
                  go_wp2_with fail
                  go_roundw
                  case rel => exact ⟨k + 1, k, p, by omega, by go_num, by have := RT.out.lk; rwa [Int.zero_add] at this, NF, NB, NK⟩
                  case measure => simp only [RowKit.intOf]; omega
                · have d1 : decide (q < 0) = false := decide_eq_false q0
                  by_cases q1 : p < b
                  · have d2 : decide (p < b) = true := decide_eq_true q1
                    clear hp
                    go_wp2_with fail
                    refine (PRK.out _ HK.out).mono ?_
                    rintro e w3 ⟨rfl, k3⟩
                    have HF3 := HF2.out.keep k3
                    have HB3 := HB2.out.keep k3
                    have HK3 := Lib.hid (HK.out.trans k3)
                    have yF := HF3.cell i (intC_at (by rw [List.getElem?_set_self (by omega)]))
                    have yB := HB3.cell i (intC_at (by rw [List.getElem?_set_self (by omega)]))
                    have fF := HF3.free i
                    have fB := HB3.free i
                    have yF2 := (HF3.other (g := W.heap.size) (by omega) i (.int .i64 (p))).cell i (intC_at (by rw [List.getElem?_set_self (by omega)]))
                    have fF2 := (HF3.other (g := W.heap.size) (by omega) i (.int .i64 (p))).free i
                    have NB := Lib.hid ((HB3.set i (.int .i64 (p)) (by rw [intC_set, List.set_set])).other (g := W.heap.size + 1) (by omega) i (.int .i64 (k : Int)))
                    have NF := Lib.hid ((HF3.other (g := W.heap.size) (by omega) i (.int .i64 (p))).set i (.int .i64 (k : Int)) (by rw [intC_set, List.set_set]))
                    have NK := Lib.hid ((HK3.out.set (Nat.le_refl _) i (.int .i64 (p))).set (Nat.le_succ _) i (.int .i64 (k : Int)))
                    go_wp2_with fail
                    go_roundw
                    case rel => exact ⟨k + 1, k, p, by omega, by go_num, by have := RT.out.lk; rwa [Int.zero_add] at this, NF, NB, NK⟩
                    case measure => simp only [RowKit.intOf]; omega
                  · have d2 : decide (p < b) = false := decide_eq_false q1
                    have RN := Lib.hid (HRk.out (by omega))
                    clear hp
                    go_wp2_with fail
                    refine (PRK.out _ HK.out).mono ?_
                    rintro e w3 ⟨rfl, k3⟩
                    have HF3 := HF2.out.keep k3
                    have HB3 := HB2.out.keep k3
                    have HK3 := Lib.hid (HK.out.trans k3)
                    have yF := HF3.cell i (intC_at (by rw [List.getElem?_set_self (by omega)]))
                    have yB := HB3.cell i (intC_at (by rw [List.getElem?_set_self (by omega)]))
                    go_wp2_with fail
                    go_roundw
                    case rel => exact ⟨k + 1, q, b, by omega, by go_num, RN.out.lk, Lib.hid HF3, Lib.hid HB3, HK3⟩
                    case measure => simp only [RowKit.intOf]; omega
            · have u2 : decide ((0 : Int) < (k : Int)) = true := decide_eq_true (by omega)
              have u2' : decide (0 < k) = true := decide_eq_true (by omega)
              obtain ⟨j, hj⟩ : ∃ j, j = k - 1 := ⟨_, rfl⟩
              have hw : IntKind.i64.wrap ((k : Int) - 1) = (j : Int) := by rw [IntWalk.i64_in _ (by omega)]; omega
              have j0 : (0 : Int) ≤ (j : Int) := by omega
              have j1 : (j : Int) < (n : Int) + 1 := by omega
              obtain ⟨r, hr⟩ : ∃ r, fr[j]? = some r := ⟨_, List.getElem?_eq_getElem (by omega)⟩
              obtain ⟨was, hwas⟩ : ∃ b, bs[j]? = some b := ⟨_, List.getElem?_eq_getElem (by omega)⟩
              have yj := HF2.out.cell j (intC_at (by rw [List.getElem?_set_ne (by omega)]; exact hr))
              have yb := HB2.out.cell j (intC_at (by rw [List.getElem?_set_ne (by omega)]; exact hwas))
              have hwb := HR0.out.bd j was hwas
              have hjk : ((j : Int) + 1) = (k : Int) := by omega
              rw [hjk] at hwb
              by_cases r0 : r < 0
              · have u3 : decide (r < 0) = true := decide_eq_true r0
                have RN := Lib.hid (HR.out.skip hk0 (fun r' h' => by rw [← hj, hr] at h'; injection h' with h'; omega))
                clear hr hwas hj hk0 hjk
                go_wp2_with fail
                go_roundw
                case rel => exact ⟨k + 1, q, b, by omega, by go_num, RN.out.lk, HF2, HB2, HK⟩
                case measure => simp only [RowKit.intOf]; omega
              · have u3 : decide (r < 0) = false := decide_eq_false r0
                have HWK : Hid (k = 0 ∨ ∃ r, fr[k - 1]? = some r ∧ 0 ≤ r) := Lib.hid (.inr ⟨r, by rw [← hj]; exact hr, by omega⟩)
                have hkn : k ≤ 100001 := by omega
                clear hr hwas hj hk0 hjk
                have PRK := Lib.hid (fun W1 (q : Keeps W W1) => PR.out k i hki (by omega) W1 q)
                cases hp : canO l wd k i with
                | none =>
                  rw [hp] at PRK
                  have RN := Lib.hid (HR.out.none hp)
                  have hp' := Lib.hid hp
                  unfold pcV at PRK
                  simp only at PRK
                  clear hp
                  go_wp2_with fail
                  refine (PRK.out _ HK.out).mono ?_
                  rintro e w3 ⟨rfl, k3⟩
                  have HF3 := Lib.hid (HF2.out.keep k3)
                  have HB3 := Lib.hid (HB2.out.keep k3)
                  have HK3 := Lib.hid (HK.out.trans k3)
                  go_wp2_with fail
                  go_roundw
                  case rel => exact ⟨k + 1, q, b, by omega, by go_num, RN.out.lk, HF3, HB3, HK3⟩
                  case measure => simp only [RowKit.intOf]; omega
                | some p =>
                  rw [hp] at PRK
                  have hpb := (can_bd hp).1
                  have RT := Lib.hid (HR.out.take hki HG.out hp HWK.out hwb)
                  unfold pcV at PRK
                  simp only at PRK
                  have hrb := HR.out.bd
                  have hrl := HR.out.low
                  have HRk := Lib.hid (fun h0 : 0 ≤ q => HR.out.more h0)
                  by_cases q0 : q < 0
                  · have d1 : decide (q < 0) = true := decide_eq_true q0
                    clear hp
                    go_wp2_with fail
                    refine (PRK.out _ HK.out).mono ?_
                    rintro e w3 ⟨rfl, k3⟩
                    have HF3 := HF2.out.keep k3
                    have HB3 := HB2.out.keep k3
                    have HK3 := Lib.hid (HK.out.trans k3)
                    have yF := HF3.cell i (intC_at (by rw [List.getElem?_set_self (by omega)]))
                    have yB := HB3.cell i (intC_at (by rw [List.getElem?_set_self (by omega)]))
                    have fF := HF3.free i
                    have fB := HB3.free i
                    have yF2 := (HF3.other (g := W.heap.size) (by omega) i (.int .i64 (was + p))).cell i (intC_at (by rw [List.getElem?_set_self (by omega)]))
                    have fF2 := (HF3.other (g := W.heap.size) (by omega) i (.int .i64 (was + p))).free i
                    have NB := Lib.hid ((HB3.set i (.int .i64 (was + p)) (by rw [intC_set, List.set_set])).other (g := W.heap.size + 1) (by omega) i (.int .i64 (k : Int)))
                    have NF := Lib.hid ((HF3.other (g := W.heap.size) (by omega) i (.int .i64 (was + p))).set i (.int .i64 (k : Int)) (by rw [intC_set, List.set_set]))
                    have NK := Lib.hid ((HK3.out.set (Nat.le_refl _) i (.int .i64 (was + p))).set (Nat.le_succ _) i (.int .i64 (k : Int)))
                    go_wp2_with fail
                    go_roundw
                    case rel => exact ⟨k + 1, k, was + p, by omega, by go_num, RT.out.lk, NF, NB, NK⟩
                    case measure => simp only [RowKit.intOf]; omega
                  · have d1 : decide (q < 0) = false := decide_eq_false q0
                    by_cases q1 : was + p < b
                    · have d2 : decide (was + p < b) = true := decide_eq_true q1
                      clear hp
                      go_wp2_with fail
                      refine (PRK.out _ HK.out).mono ?_
                      rintro e w3 ⟨rfl, k3⟩
                      have HF3 := HF2.out.keep k3
                      have HB3 := HB2.out.keep k3
                      have HK3 := Lib.hid (HK.out.trans k3)
                      have yF := HF3.cell i (intC_at (by rw [List.getElem?_set_self (by omega)]))
                      have yB := HB3.cell i (intC_at (by rw [List.getElem?_set_self (by omega)]))
                      have fF := HF3.free i
                      have fB := HB3.free i
                      have yF2 := (HF3.other (g := W.heap.size) (by omega) i (.int .i64 (was + p))).cell i (intC_at (by rw [List.getElem?_set_self (by omega)]))
                      have fF2 := (HF3.other (g := W.heap.size) (by omega) i (.int .i64 (was + p))).free i
                      have NB := Lib.hid ((HB3.set i (.int .i64 (was + p)) (by rw [intC_set, List.set_set])).other (g := W.heap.size + 1) (by omega) i (.int .i64 (k : Int)))
                      have NF := Lib.hid ((HF3.other (g := W.heap.size) (by omega) i (.int .i64 (was + p))).set i (.int .i64 (k : Int)) (by rw [intC_set, List.set_set]))
                      have NK := Lib.hid ((HK3.out.set (Nat.le_refl _) i (.int .i64 (was + p))).set (Nat.le_succ _) i (.int .i64 (k : Int)))
                      go_wp2_with fail
                      go_roundw
                      case rel => exact ⟨k + 1, k, was + p, by omega, by go_num, RT.out.lk, NF, NB, NK⟩
                      case measure => simp only [RowKit.intOf]; omega
                    · have d2 : decide (was + p < b) = false := decide_eq_false q1
                      have RN := Lib.hid (HRk.out (by omega))
                      clear hp
                      go_wp2_with fail
                      refine (PRK.out _ HK.out).mono ?_
                      rintro e w3 ⟨rfl, k3⟩
                      have HF3 := HF2.out.keep k3
                      have HB3 := HB2.out.keep k3
                      have HK3 := Lib.hid (HK.out.trans k3)
                      have yF := HF3.cell i (intC_at (by rw [List.getElem?_set_self (by omega)]))
                      have yB := HB3.cell i (intC_at (by rw [List.getElem?_set_self (by omega)]))
                      go_wp2_with fail
                      go_roundw
                      case rel => exact ⟨k + 1, q, b, by omega, by go_num, RN.out.lk, Lib.hid HF3, Lib.hid HB3, HK3⟩
                      case measure => simp only [RowKit.intOf]; omega
          · have u1 : decide ((k : Int) ≤ (i : Int)) = false := decide_eq_false (by omega)
            have e : k = i + 1 := by omega
            have hkr := HR.out
            rw [e] at hkr
            have FIN : Hid (R18m W l wd (i + 1) wr) := Lib.hid ⟨_, _, NX.out _ _ _ _ _ HR0.out c hkr, HF2.out, HB2.out, HK.out⟩
            clear e hkr
            go_wp2_with fail
            go_roundw
            case rel => exact ⟨i + 1, by omega, by go_num, FIN⟩
            case measure => simp only [RowKit.intOf]; omega
    · have t1 : decide ((i : Int) ≤ (n : Int)) = false := decide_eq_false (by omega)
      have e : i = n + 1 := by omega
      subst e
      obtain ⟨fr, bs, hR, hF, hB, hK⟩ := HM.out
      obtain ⟨lf, lb⟩ := HLF.out _ _ _ hR
      obtain ⟨q, hq⟩ : ∃ q, fr[n]? = some q := ⟨_, List.getElem?_eq_getElem (by omega)⟩
      have hq0 : ¬ q < 0 := fun h => by
        obtain ⟨es, c, hc⟩ := HWAY.out
        rw [HN.out] at hc
        exact hR.no n q (by omega) hq h es c hc
      have d0 : decide (q < 0) = false := decide_eq_false hq0
      have zF := hF.cell n (intC_at hq)
      have FC := Lib.hid (fun w (k : Keeps wr w) j q (h : fr[j]? = some q) => (hF.keep k).cell j (intC_at h))
      have FY := Lib.hid (fun j q (hj : j ≤ n) (h : fr[j]? = some q) (h0 : 0 ≤ q) => hR.yes j q (by omega) h h0)
      have n0 : (0 : Int) ≤ (n : Int) := by omega
      have n1 : (n : Int) < (n : Int) + 1 := by omega
      have HQ := Lib.hid hq
      have hq1 : 0 ≤ q := by omega
      have HKw := Lib.hid hK
      have HX0 : Hid (Ext l wd (n + 1) []) := Lib.hid (by rw [← HN.out]; exact Ext.nil)
      have HXC : Hid (∀ (at_ : Nat) (q : Int) (out : List Nat), Ext l wd (at_ + 1) out → at_ ≤ n → 0 ≤ q → FrJ l wd fr at_ q → Ext l wd q.toNat (at_ :: out)) := Lib.hid fun at_ q out h ha h0 hj => h.cons (by rw [HN.out]; exact ha) h0 hj
      clear hR hF hB hK HM hq
      go_wp2_with fail
      go_loopw [15, 14] (fun y u w2 => ∃ (a : Nat) (q : Int) (es : List Nat) (A : Option Addr) (cap : Nat), a ≤ n ∧ y = .int .i64 a ∧ u = .slice A es.length cap ∧ es.length + a ≤ n ∧ Hid (fr[a]? = some q) ∧ 0 ≤ q ∧ Hid (Ext l wd (a + 1) es) ∧ Hid (w2.ownsRow W.heap.size 3 1 (.slice A es.length cap) es.length (nsR es)) ∧ Hid (Keeps wr w2)) (fun y _ _ => (RowKit.intOf y).toNat)
      case atStart => exact ⟨n, q, [], none, 0, Nat.le_refl _, rfl, rfl, by simp, HQ, hq1, HX0, Lib.hid (World.ownsRow_nil _ _ _ _), Lib.hid (Keeps.refl _)⟩
      case round =>
        obtain ⟨a, q2, es, A2, cap2, ha, rfl, rfl, hes, HQ2, h20, HX, HO, HK2⟩ := hrel
        obtain ⟨A8, c8, w8, ra, o8, k8, m1, m2⟩ := ns_front (w0 := W) HO.out (HKw.out.trans HK2.out) a (by omega)
        have zA := FC.out w8 (HK2.out.trans k8) a q2 HQ2.out
        have HO8 := Lib.hid o8
        have HK8 := Lib.hid (HK2.out.trans k8)
        have HJ := Lib.hid (FY.out a q2 ha HQ2.out h20)
        have HX8 := Lib.hid (HXC.out a q2 es HX.out ha h20 HJ.out)
        have hqa := HJ.out.le
        have a0 : (0 : Int) ≤ (a : Int) := by omega
        have a1 : (a : Int) < (n : Int) + 1 := by omega
        unfold maxLen at m2
        clear o8 k8
        by_cases z : q2 = 0
        · subst z
          have FIN : Hid (∃ c, Chain l wd (a :: es) (l.length + 1) c) := Lib.hid (Ext.done HX8.out)
          have KW := Lib.hid (HKw.out.trans HK8.out)
          go_wp2_with (at_builtin; refine wpList_append_run rfl (.tmp 106) (.tmp 107) _ _ rfl _ _ (by rfl) (by rfl) _ _ ra ?_)
          go_ret2
          obtain ⟨cc, hcc⟩ := FIN.out
          exact ⟨_, _, a :: es, cc, rfl, hcc, HO8.out, KW.out⟩
        · have z1 : (q2 == 0) = false := beqF z
          obtain ⟨a', ha'⟩ : ∃ a' : Nat, (a' : Int) = q2 - 1 := ⟨(q2 - 1).toNat, by omega⟩
          have hw : IntKind.i64.wrap (q2 - 1) = (a' : Int) := by rw [IntWalk.i64_in _ (by omega), ha']
          have et : q2.toNat = a' + 1 := by omega
          obtain ⟨q3, hq3, hq30⟩ : ∃ q3, fr[a']? = some q3 ∧ 0 ≤ q3 := by
            rcases HJ.out.was with e | ⟨r, e1, e2⟩
            · exact absurd e z
            · exact ⟨r, by rw [et, Nat.add_sub_cancel] at e1; exact e1, e2⟩
          have HQ3 := Lib.hid hq3
          have HX9 : Hid (Ext l wd (a' + 1) (a :: es)) := Lib.hid (by rw [← et]; exact HX8.out)
          have hl2 : (a :: es).length + a' ≤ n := by rw [List.length_cons]; omega
          have hlt : a' < a := by omega
          clear et hq3 ha'
          go_wp2_with (at_builtin; refine wpList_append_run rfl (.tmp 106) (.tmp 107) _ _ rfl _ _ (by rfl) (by rfl) _ _ ra ?_)
          go_roundw
          case rel => exact ⟨a', q3, a :: es, A8, c8, by omega, by go_num, rfl, hl2, HQ3, hq30, HX9, HO8, HK8⟩
          case measure => simp only [RowKit.intOf]; omega
end Go.Proofs.YtfnkokfkhjdkfaaDoor


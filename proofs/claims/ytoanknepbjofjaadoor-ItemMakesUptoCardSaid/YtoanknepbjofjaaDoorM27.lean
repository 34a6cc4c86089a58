/-
  Texts of the proof, one behind the other: Im8, Im9, ImA, ImB, Ity, ImC.
-/
import Derived.Test.YtoanknepbjofjaaDoorM26
import Derived.Test.YtoanknepbjofjaaDoorM13
import Derived.Test.YtoanknepbjofjaaDoorM3
import Derived.Test.YtoanknepbjofjaaDoorM22
/-
  What the document's spans make is not too long; its image, given what its spans do with the kids.
-/
namespace Go.Proofs.YtoanknepbjofjaaDoor
open Go.RowKit Go.Lib Go.Maps

theorem relL_len (n : Nat) (lk : Int) (L : List It) : (relL n lk L).length = L.length := by
  unfold relL
  rw [List.length_append, List.length_take, List.length_map, List.length_drop]
  omega
theorem relL_none {n : Nat} {lk : Int} {L : List It} (h : L.length ≤ n) : relL n lk L = L := by
  unfold relL
  rw [List.drop_of_length_le h, List.take_of_length_le h]
  simp
mutual
theorem rS_len (sz : Int) : ∀ (x : St) (f lk : Int) (p : List It × Int), (rS sz x f lk p).1.length ≤ p.1.length + 2 * wS x ∧ p.2 ≤ (rS sz x f lk p).2 ∧ (rS sz x f lk p).2 ≤ p.2 + wS x
  | .mk k t _ _ ks, f, lk, p => by
    have a1 := txt_len sz ⟨f, max 0 lk, false⟩ t [] p.1
    have a2 := txt_len sz ⟨4, max 0 lk, false⟩ t [] p.1
    have a3 := glue_len sz ⟨f, 0, false⟩ p.1
    have a4 := brk_len p.1
    have b1 := rL_len sz ks (slF f) lk p
    have b2 := rL_len sz ks (bdF f) lk p
    have b3 := rL_len sz ks f lk p
    have b4 := rL_len sz ks f p.2 (p.1, p.2 + 1)
    have b5 := rL_len sz ks f (-1) p
    have b6 := relL_len p.1.length lk (rL sz ks f (-1) p).1
    simp only at b4
    rw [rS, wS]
    repeat' split
    all_goals first | (refine ⟨?_, ?_, ?_⟩ <;> simp only <;> omega) | omega
theorem rL_len (sz : Int) : ∀ (l : List St) (f lk : Int) (p : List It × Int), (rL sz l f lk p).1.length ≤ p.1.length + 2 * wL l ∧ p.2 ≤ (rL sz l f lk p).2 ∧ (rL sz l f lk p).2 ≤ p.2 + wL l
  | [], f, lk, p => by rw [rL, wL]; omega
  | x :: l, f, lk, p => by
    have h1 := rS_len sz x f lk p
    have h2 := rL_len sz l f lk (rS sz x f lk p)
    rw [rL, wL]
    omega
end
theorem rl_app (sz : Int) : ∀ (a b : List St) (f lk : Int) (p : List It × Int), rL sz (a ++ b) f lk p = rL sz b f lk (rL sz a f lk p)
  | [], b, f, lk, p => by rw [List.nil_append, rL]
  | x :: a, b, f, lk, p => by
    rw [List.cons_append, rL, rL, rl_app sz a b f lk]
theorem rl_next {sz : Int} {l : List St} {i : Nat} {x : St} (h : l[i]? = some x) (f lk : Int) (p : List It × Int) : rL sz (l.take (i + 1)) f lk p = rS sz x f lk (rL sz (l.take i) f lk p) := by
  obtain ⟨hi, hx⟩ := List.getElem?_eq_some_iff.1 h
  rw [List.take_succ_eq_append_getElem hi, rl_app, hx, rL, rL]
/-- What the document's spans has to do, with these kids, in the slice kv. -/
def RDo (w0 : World) (sz : Int) (ks : List St) (kv : Value) : Prop :=
  ∀ (f lk : Int) (W : World) (B : Nat) (v : Value) (its : List It) (nx : Int), Mr w0 sz W B v its nx → its.length + 2 * wL ks ≤ 190000 → 0 ≤ nx → nx + wL ks ≤ 4611686018427387904 →
    Calls Tryd.prog 14 #[.pointer (some ⟨B, 0, none⟩), kv, .int .i64 f, .int .i64 lk] W fun e w' => e = .returned (.tuple #[]) ∧ PostMr w0 sz W B v (rL sz ks f lk (its, nx)).1 (rL sz ks f lk (its, nx)).2 w'
section
variable {w0 W : World} {sz : Int} {B : Nat} {v : Value} {its : List It} {nx : Int} {ks : List St} {kv : Value}
theorem Mr.link {W : World} {g cap : Nat} (h : Mr w0 sz W B (.slice (some ⟨g, 0, none⟩) its.length cap) its nx) {i : Nat} (hi : i < its.length) (lk : Int) :
    Mr w0 sz (W.setCell ⟨g, i * 9 + 8, none⟩ (.int .i64 lk)) B (.slice (some ⟨g, 0, none⟩) its.length cap) (its.set i { its[i] with link := lk }) nx ∧ Mvd W (W.setCell ⟨g, i * 9 + 8, none⟩ (.int .i64 lk)) B (.slice (some ⟨g, 0, none⟩) its.length cap) (.slice (some ⟨g, 0, none⟩) its.length cap) := by
  obtain ⟨o, m⟩ := h.own.link hi lk
  exact ⟨⟨o, Below.trans h.keep (h.own.below m h.keep.size)⟩, m⟩
set_option maxRecDepth 100000 in
set_option maxHeartbeats 8000000 in
theorem rimage_do (f lk : Int) (hS : RDo w0 sz ks kv) (h : Mr w0 sz W B v its nx) (hl : its.length + 2 * wL ks ≤ 190000) (hn : 0 ≤ nx) (hm : nx + wL ks ≤ 4611686018427387904) :
    Calls Tryd.prog 26 #[.pointer (some ⟨B, 0, none⟩), kv, .int .i64 f, .int .i64 lk] W fun e w' => e = .returned (.tuple #[]) ∧ PostMr w0 sz W B v (if 0 < lk then (relL its.length lk (rL sz ks f (-1) (its, nx)).1, (rL sz ks f (-1) (its, nx)).2) else rL sz ks f (-1) (its, nx)).1 (if 0 < lk then (relL its.length lk (rL sz ks f (-1) (its, nx)).1, (rL sz ks f (-1) (its, nx)).2) else rL sz ks f (-1) (its, nx)).2 w' := by
  have CS := Lib.hid (hS f (-1) W B v its nx h hl hn hm)
  have hlen := (rL_len sz ks f (-1) (its, nx)).1
  simp only at hlen
  have b0 := h.own.box.cell 0 (v := v) rfl
  obtain ⟨A, cap, rfl, _, _⟩ := row_form h.own.row
  generalize rL sz ks f (-1) (its, nx) = R at *
  obtain ⟨L, n2⟩ := R
  simp only at CS hlen
  obtain ⟨N, hN⟩ : ∃ N, its.length = N := ⟨_, rfl⟩
  have HN := Lib.hid hN
  rw [hN] at b0 CS hl hlen ⊢
  obtain ⟨T, hT⟩ : ∃ T, (if 0 < lk then (relL N lk L, n2) else (L, n2)) = T := ⟨_, rfl⟩
  rw [hT]
  have HT := Lib.hid hT
  clear h hS hN hT
  go_enter Tryd.func26, Tryd.ntmps26
  go_wp2_with fail
  refine CS.out.mono ?_
  rintro e w2 ⟨rfl, v2, m2, q2⟩
  have hlc : L.length ≤ 200000 := by omega
  obtain ⟨A2, cap2, rfl, g1, g2⟩ := row_form m2.own.row
  have c0 := m2.own.box.cell 0 (v := .slice A2 L.length cap2) rfl
  have M2 := Lib.hid m2
  have Q2 := Lib.hid q2
  by_cases hq : N < L.length
  · by_cases hp : 0 < lk
    · have hT2 := HT.out
      rw [if_pos hp] at hT2
      have HT2 := Lib.hid hT2
      clear hT2
      obtain ⟨g, cap3, e3, _, _⟩ := m2.own.at_ (by omega)
      simp only [Value.slice.injEq, true_and] at e3
      obtain ⟨rfl, rfl⟩ := e3
      have tp : decide (0 < lk) = true := decide_eq_true hp
      obtain ⟨mm, hmm⟩ : ∃ mm, L.length = mm := ⟨_, rfl⟩
      have HMM := Lib.hid hmm
      have START : Hid (Mr w0 sz w2 B (.slice (some ⟨g, 0, none⟩) mm cap2) (relT N N lk L) n2) := Lib.hid (by rw [relT_start, ← hmm]; exact m2)
      have Q3 : Hid (Mvd W w2 B (.slice A N cap) (.slice (some ⟨g, 0, none⟩) mm cap2)) := Lib.hid (by rw [← hmm]; exact q2)
      rw [hmm] at c0 hq hlc g1
      clear m2 q2 M2 Q2 hmm hlen
      go_wp2_with fail
      go_loopw [9] (fun y wr => ∃ i : Nat, N ≤ i ∧ i ≤ mm ∧ y = .int .i64 i ∧ Hid (Mr w0 sz wr B (.slice (some ⟨g, 0, none⟩) mm cap2) (relT N i lk L) n2) ∧ Hid (Mvd W wr B (.slice A N cap) (.slice (some ⟨g, 0, none⟩) mm cap2))) (fun y _ => mm - (RowKit.intOf y).toNat)
      case atStart => exact ⟨N, Nat.le_refl _, by omega, rfl, START, Q3⟩
      case round =>
        obtain ⟨i, hi1, hi2, rfl, HM, HV⟩ := hrel
        have hm3 := HM.out
        have d0 := hm3.own.box.cell 0 (v := .slice (some ⟨g, 0, none⟩) mm cap2) rfl
        by_cases c : i < mm
        · have tc : decide ((i : Int) < (mm : Int)) = true := decide_eq_true (by omega)
          have hil : i < L.length := by rw [HMM.out]; exact c
          have hrl := relT_len (n := N) (i := i) (lk := lk) (L := L) hi1 (by omega)
          rw [HMM.out] at hrl
          have hir : i < (relT N i lk L).length := by omega
          have hget := relT_get (n := N) (lk := lk) hi1 hil
          rw [List.getElem?_eq_getElem hir] at hget
          injection hget with hget
          have hnx := relT_next (n := N) (lk := lk) hi1 hil
          have hm4 : Mr w0 sz wr B (.slice (some ⟨g, 0, none⟩) (relT N i lk L).length cap2) (relT N i lk L) n2 := by rw [hrl]; exact hm3
          have k0 := hm4.own.cell hir 0 (by decide)
          rw [hget] at k0
          have k1 : wr.cell? ⟨g, i * 9, none⟩ = some (.int .i64 L[i].kind) := k0
          have k8 := hm4.own.cell hir 8 (by decide)
          rw [hget] at k8
          have k9 : wr.cell? ⟨g, i * 9 + 8, none⟩ = some (.int .i64 L[i].link) := k8
          have lkk := hm4.link hir lk
          rw [hget, hrl] at lkk
          have i0 : (0 : Int) ≤ (i : Int) := by omega
          have i1 : (i : Int) < (mm : Int) := by omega
          by_cases hkd : L[i].kind = 1
          · have hrel : relB lk L[i] = { L[i] with link := lk } := by unfold relB; rw [if_pos hkd]
            rw [hrel] at hnx
            rw [← hnx] at lkk
            have FM := Lib.hid lkk.1
            have FV := Lib.hid (HV.out.trans lkk.2)
            have fz : wr.frozen? ⟨g, i * 9 + 8, none⟩ = false := by
              rcases hm4.own.row.2 with ⟨e, _⟩ | ⟨g', cap', cur, e, _, hg, _⟩
              · cases e
              · simp only [Value.slice.injEq, Option.some.injEq, Addr.mk.injEq, and_true, true_and] at e
                obtain ⟨rfl, _⟩ := e
                exact (show Blk wr g 37 cur from hg).free _
            rw [hkd] at k1
            generalize L[i].link = ol at *
            clear hm3 hm4 hrl hir hget hnx k0 k8 lkk hrel hkd hil
            go_wp2_with fail
            go_roundw
            case rel => exact ⟨i + 1, by omega, by omega, by go_num, FM, FV⟩
            case measure => simp only [RowKit.intOf]; omega
          · have hrel : relB lk L[i] = L[i] := by unfold relB; rw [if_neg hkd]
            rw [hrel, ← hget, List.set_getElem_self] at hnx
            have FM : Hid (Mr w0 sz wr B (.slice (some ⟨g, 0, none⟩) mm cap2) (relT N (i + 1) lk L) n2) := Lib.hid (by rw [hnx]; exact hm3)
            have tk : (L[i].kind == 1) = false := beqF hkd
            generalize L[i].kind = xk at *
            clear hm3 hm4 hrl hir hget hnx k0 k8 k9 lkk hrel hkd hil
            go_wp2_with fail
            go_roundw
            case rel => exact ⟨i + 1, by omega, by omega, by go_num, FM, HV⟩
            case measure => simp only [RowKit.intOf]; omega
        · have e : i = mm := by omega
          have tc : decide ((i : Int) < (mm : Int)) = false := decide_eq_false (by omega)
          have FIN : PostMr w0 sz W B (.slice A N cap) T.1 T.2 wr := by
            have hh : relT N i lk L = relL N lk L := by rw [e, ← HMM.out]; exact relT_end N lk L
            rw [hh] at hm3
            rw [← HT2.out]
            exact ⟨_, hm3, HV.out⟩
          have FIN := Lib.hid FIN
          clear hm3
          go_wp2_with fail
          go_end0
          exact ⟨rfl, FIN.out⟩
    · have hT2 := HT.out
      rw [if_neg hp] at hT2
      have tp : decide (0 < lk) = false := decide_eq_false hp
      have FIN := Lib.hid (show PostMr w0 sz W B (.slice A N cap) T.1 T.2 w2 by rw [← hT2]; exact ⟨_, M2.out, Q2.out⟩)
      clear hT2
      have tc : decide ((N : Int) < (L.length : Int)) = true := decide_eq_true (by omega)
      clear m2 q2
      go_wp2_with fail
      go_loop [9] (fun y => y = .int .i64 (N : Nat)) (fun _ => 0)
      case atStart => rfl
      case round =>
        have e9 := hrel
        subst e9
        go_wp2_with fail
        go_end0
        exact ⟨rfl, FIN.out⟩
  · have tc : decide ((N : Int) < (L.length : Int)) = false := decide_eq_false (by omega)
    have FIN : PostMr w0 sz W B (.slice A N cap) T.1 T.2 w2 := by
      rw [← HT.out, relL_none (by omega), ite_self]
      exact ⟨_, m2, q2⟩
    have FIN := Lib.hid FIN
    clear m2 q2
    go_wp2_with fail
    go_loop [9] (fun y => y = .int .i64 (N : Nat)) (fun _ => 0)
    case atStart => rfl
    case round =>
      have e9 := hrel
      subst e9
      go_wp2_with fail
      go_end0
      exact ⟨rfl, FIN.out⟩
end
end Go.Proofs.YtoanknepbjofjaaDoor

/-
  Contract of the document's spans.
-/
namespace Go.Proofs.YtoanknepbjofjaaDoor
open Go.RowKit Go.Lib Go.Maps

theorem Own.link_set {w0 W : World} {sz : Int} {B : Nat} {v : Value} {its : List It} {nx : Int} (h : Mr w0 sz W B v its nx) (n2 : Int) : PostMr w0 sz W B v its n2 (W.setCell ⟨B, 2, none⟩ (.int .i64 n2)) := by
  obtain ⟨o1, q1⟩ := h.own.set 1 (.int .i64 n2) [.int .i64 sz, .int .i64 n2] rfl
  exact h.moved o1 q1
set_option maxRecDepth 100000 in
set_option maxHeartbeats 32000000 in
theorem rspans_any : ∀ (n : Nat) {w0 : World} (sz : Int) (l : List St) (lv : Value), SizeOf.sizeOf l ≤ n → 0 ≤ sz → sz ≤ 2147483648 → FntR w0 → StAt w0 l lv → RDo w0 sz l lv := by
  intro n
  induction n with
  | zero =>
    intro w0 sz l lv hf
    have : 0 < SizeOf.sizeOf l := by cases l <;> simp <;> omega
    omega
  | succ n ih =>
  intro w0 sz l lv hf h1 h2 hF hA f lk W B v its nx h hl hn hm
  obtain ⟨A, cap, rfl, hc1, hc2, hg⟩ := hA.slice
  unfold maxLen at hc2
  obtain ⟨m, hm0⟩ : ∃ m, l.length = m := ⟨_, rfl⟩
  have HA := Lib.hid hA
  have H0 := Lib.hid h
  have HFR := Lib.hid hF
  have HNX := Lib.hid (fun i x (hx : l[i]? = some x) => rl_next (sz := sz) hx f lk (its, nx))
  have HL := Lib.hid (fun i => rL_len sz (l.take i) f lk (its, nx))
  have HE := Lib.hid (show rL sz (l.take m) f lk (its, nx) = rL sz l f lk (its, nx) by rw [List.take_of_length_le (Nat.le_of_eq hm0)])
  have HX := Lib.hid (fun i (hi : i < m) => (⟨l[i]'(by omega), List.getElem?_eq_getElem (by omega)⟩ : ∃ x, l[i]? = some x))
  have HW := Lib.hid (fun i x (hx : l[i]? = some x) => wL_at hx)
  have IH := Lib.hid (fun (i : Nat) (kd : Int) (t d ti : List UInt8) (ks : List St) (kv : Value) (hx : l[i]? = some (St.mk kd t d ti ks)) (hk : StAt w0 ks kv) => ih sz ks kv (by have := size_st hx; omega) h1 h2 hF hk)
  have Z0 : Hid ((its, nx) = rL sz (l.take 0) f lk (its, nx)) := Lib.hid rfl
  have SL := Lib.hid (fun W1 => rslant_any f W1)
  have TH := Lib.hid (fun W1 => rthick_any f W1)
  rw [hm0] at hc1 hg HA ⊢
  clear hA h hF ih
  go_enter Tryd.func14, Tryd.ntmps14
  go_wp2_with fail
  go_loopw [8] (fun y wr => ∃ (k : Nat) (v1 : Value) (its1 : List It) (nx1 : Int), k ≤ m ∧ y = .int .i64 k ∧ Hid (Mr w0 sz wr B v1 its1 nx1) ∧ Hid (Mvd W wr B v v1) ∧ Hid ((its1, nx1) = rL sz (l.take k) f lk (its, nx))) (fun y _ => m - (RowKit.intOf y).toNat)
  case atStart => exact ⟨0, v, its, nx, Nat.zero_le _, rfl, H0, Lib.hid (Mvd.refl _ _ _), Z0⟩
  case round =>
    obtain ⟨k, v1, its1, nx1, hk, rfl, HM, HV, HP⟩ := hrel
    by_cases c : k < m
    · have tc : decide ((k : Int) < (m : Int)) = true := decide_eq_true (by omega)
      obtain ⟨g, o, rfl⟩ := hg (by omega)
      obtain ⟨x, hx⟩ := HX.out k c
      have L1 := HL.out k
      rw [← HP.out] at L1
      simp only at L1
      obtain ⟨l1, l2, l3⟩ := L1
      have NX := Lib.hid (HNX.out k x hx)
      rw [← HP.out] at NX
      have hw := HW.out k x hx
      obtain ⟨kd, t, d, ti, ks⟩ := x
      rw [wS_mk] at hw
      obtain ⟨kv, hcl, hks⟩ : ∃ kv, StC w0 g (o + k * 5) kd t d ti kv ∧ StAt w0 ks kv := by
        have hA2 : StAt w0 l (.slice (some ⟨g, o, none⟩) l.length cap) := by rw [hm0]; exact HA.out
        exact hA2.at hx
      have hcw := hcl.keep HM.out.keep
      have KD := Lib.hid (IH.out k kd t d ti ks kv hx hks)
      obtain ⟨kA, kc, hkv, _, _, _⟩ := hks.slice
      subst hkv
      obtain ⟨tb, htb⟩ : ∃ tb : ByteArray, (⟨t.toArray⟩ : ByteArray) = tb := ⟨_, rfl⟩
      obtain ⟨db, hdb⟩ : ∃ tb : ByteArray, (⟨d.toArray⟩ : ByteArray) = tb := ⟨_, rfl⟩
      obtain ⟨ib, hib⟩ : ∃ tb : ByteArray, (⟨ti.toArray⟩ : ByteArray) = tb := ⟨_, rfl⟩
      have hts : tb.data.toList = t := by rw [← htb]
      have htz : tb.size ≤ 95000 := by rw [← bytes_len tb, hts]; omega
      have x0 := hcw.c0
      have x1 := hcw.c1
      have x2 := hcw.c2
      have x3 := hcw.c3
      have x4 := hcw.c4
      rw [htb] at x1
      rw [hdb] at x2
      rw [hib] at x3
      have HTX := Lib.hid (fun f' lk' W1 (q : Keeps wr W1) => rtext_any tb f' lk' (HM.out.to q) (by omega) (by have := bytes_len tb; rw [hts] at this; omega) h1 h2 HFR.out)
      rw [hts] at HTX
      have HGL := Lib.hid (fun W1 (q : Keeps wr W1) => rglue_any f (HM.out.to q) (by omega) h1 h2 HFR.out)
      have HTR := Lib.hid (fun W1 (q : Keeps wr W1) => rtrim_any (HM.out.to q) (by omega))
      have HSP := Lib.hid (fun f' lk' W1 (q : Keeps wr W1) => KD.out f' lk' W1 B v1 its1 nx1 (HM.out.to q) (by omega) (by omega) (by omega))
      have HIM := Lib.hid (fun W1 (q : Keeps wr W1) => rimage_do f lk KD.out (HM.out.to q) (by omega) (by omega) (by omega))
      have hbl := HM.out.own.box.lt
      have i0 : (0 : Int) ≤ (k : Int) := by omega
      have i1 : (k : Int) < (m : Int) := by omega
      have hn1 : 0 ≤ nx1 := by omega
      have hn2 : nx1 + 10 + wL ks ≤ 4611686018427387904 := by omega
      have hl3 : its1.length + 2 * wL ks ≤ 190000 := by omega
      have hl4 : its1.length ≤ 190000 := by omega
      clear hx hcw hcl hks htb hdb hib hts htz l1 l2 l3 hw
      by_cases hk1 : kd = 1
      · subst hk1
        have NC : Hid (((txtP sz ⟨f, max 0 lk, false⟩ [] t its1, nx1) : List It × Int) = rL sz (l.take (k + 1)) f lk (its, nx)) := Lib.hid (by rw [NX.out, rS]; simp)
        go_wp2_with fail
        refine (HTX.out f (max 0 lk) _ ((Keeps.refl wr).alloc (.cells #[.int .i64 1, .string tb, .string db, .string ib, .slice kA ks.length kc] 34))).mono ?_
        rintro e w2 ⟨rfl, p2⟩
        obtain ⟨v2, m2, q2⟩ := PostMr.from ((Keeps.refl wr).alloc (.cells #[.int .i64 1, .string tb, .string db, .string ib, .slice kA ks.length kc] 34)) p2
        have M2 := Lib.hid m2
        have V2 := Lib.hid (HV.out.trans q2)
        clear p2 m2 q2
        go_wp2_with fail
        go_roundw
        case rel => exact ⟨k + 1, v2, _, _, by omega, by go_num, M2, V2, NC⟩
        case measure => simp only [RowKit.intOf]; omega
      by_cases hk2 : kd = 2
      · subst hk2
        have NC : Hid (((glueP sz ⟨f, 0, false⟩ its1, nx1) : List It × Int) = rL sz (l.take (k + 1)) f lk (its, nx)) := Lib.hid (by rw [NX.out, rS]; simp)
        go_wp2_with fail
        refine (HGL.out _ ((Keeps.refl wr).alloc (.cells #[.int .i64 2, .string tb, .string db, .string ib, .slice kA ks.length kc] 34))).mono ?_
        rintro e w2 ⟨rfl, p2⟩
        obtain ⟨v2, m2, q2⟩ := PostMr.from ((Keeps.refl wr).alloc (.cells #[.int .i64 2, .string tb, .string db, .string ib, .slice kA ks.length kc] 34)) p2
        have M2 := Lib.hid m2
        have V2 := Lib.hid (HV.out.trans q2)
        clear p2 m2 q2
        go_wp2_with fail
        go_roundw
        case rel => exact ⟨k + 1, v2, _, _, by omega, by go_num, M2, V2, NC⟩
        case measure => simp only [RowKit.intOf]; omega
      by_cases hk3 : kd = 3
      · subst hk3
        have NC : Hid (((brkP its1, nx1) : List It × Int) = rL sz (l.take (k + 1)) f lk (its, nx)) := Lib.hid (by rw [NX.out, rS]; simp)
        have hd := drop_len its1
        go_wp2_with fail
        refine (HTR.out _ ((Keeps.refl wr).alloc (.cells #[.int .i64 3, .string tb, .string db, .string ib, .slice kA ks.length kc] 34))).mono ?_
        rintro e w2 ⟨rfl, p2⟩
        obtain ⟨v2, m2, q2⟩ := PostMr.from ((Keeps.refl wr).alloc (.cells #[.int .i64 3, .string tb, .string db, .string ib, .slice kA ks.length kc] 34)) p2
        have V2 := Lib.hid (HV.out.trans q2)
        have c0 := m2.own.box.cell 0 (v := v2) rfl
        clear p2 q2
        cases hee : endsK 1 (dropG its1) with
        | false =>
          have hbk : brkP its1 = dropG its1 := by unfold brkP; rw [if_neg (by rw [hee]; decide)]
          rw [hbk] at NC
          have M2 := Lib.hid (m2.to (Keeps.refl _).drew)
          have V2 := Lib.hid (V2.out.trans (Mvd.keep (Keeps.refl _).drew))
          rcases List.eq_nil_or_concat (dropG its1) with e0 | ⟨l', x', e0⟩
          · obtain ⟨A2, cap2, rfl, _, _⟩ := row_form m2.own.row
            have z0 : (dropG its1).length = 0 := by rw [e0]; rfl
            rw [z0] at c0
            clear m2 hee hbk e0 z0 hd
            go_wp2_with fail
            go_region
            go_wp2_with fail
            go_roundw
            case rel => exact ⟨k + 1, _, _, _, by omega, by go_num, M2, V2, NC⟩
            case measure => simp only [RowKit.intOf]; omega
          · rw [List.concat_eq_append] at e0
            obtain ⟨g2, cap2, rfl, g3, g4⟩ := m2.own.at_ (by rw [e0]; simp)
            have hlx : (dropG its1).length = l'.length + 1 := by rw [e0]; simp
            have cx := m2.own.cell (i := l'.length) (by omega) 0 (by decide)
            have hx' : (dropG its1)[l'.length]'(by omega) = x' := by simp only [e0]; simp
            rw [hx'] at cx
            have c1 : w2.cell? ⟨g2, l'.length * 9, none⟩ = some (.int .i64 x'.kind) := cx
            have tx : (x'.kind == 1) = false := by rw [e0, ends_app] at hee; exact hee
            rw [hlx] at c0 g3
            have hqb : l'.length ≤ 190000 := by omega
            generalize x'.kind = xk at *
            clear m2 hee hbk e0 hx' cx hd hlx
            generalize l'.length = q at *
            have hwq : IntKind.i64.wrap (((q + 1 : Nat) : Int) - 1) = (q : Int) := by rw [IntWalk.i64_in _ (by omega)]; omega
            have j0 : (0 : Int) ≤ (q : Int) := by omega
            have j1 : (q : Int) < ((q + 1 : Nat) : Int) := by omega
            have j2 : decide ((0 : Int) < ((q + 1 : Nat) : Int)) = true := decide_eq_true (by omega)
            have j3 : (q : Int) < (q : Int) + 1 := by omega
            go_wp2_with fail
            go_region
            go_wp2_with fail
            go_roundw
            case rel => exact ⟨k + 1, _, _, _, by omega, by go_num, M2, V2, NC⟩
            case measure => simp only [RowKit.intOf]; omega
        | true =>
          have hbk : brkP its1 = dropG its1 ++ [itPen (-10000)] := by unfold brkP; rw [if_pos hee]
          rw [hbk] at NC
          rcases List.eq_nil_or_concat (dropG its1) with e0 | ⟨l', x', e0⟩
          · rw [e0] at hee; cases hee
          · rw [List.concat_eq_append] at e0
            obtain ⟨g2, cap2, rfl, g3, g4⟩ := m2.own.at_ (by rw [e0]; simp)
            have hlx : (dropG its1).length = l'.length + 1 := by rw [e0]; simp
            have cx := m2.own.cell (i := l'.length) (by omega) 0 (by decide)
            have hx' : (dropG its1)[l'.length]'(by omega) = x' := by simp only [e0]; simp
            rw [hx'] at cx
            have hkk : x'.kind = 1 := by rw [e0, ends_app] at hee; exact eq_of_beq hee
            have c1 : w2.cell? ⟨g2, l'.length * 9, none⟩ = some (.int .i64 1) := by rw [← hkk]; exact cx
            obtain ⟨A8, c8, w8, ra, b8, p8⟩ := (m2.to (Keeps.refl _).drew).made (itPen (-10000)) (by omega)
            obtain ⟨v3, m3, q3⟩ := PostMr.from (Keeps.refl _).drew p8
            have M3 := Lib.hid m3
            have V3 := Lib.hid (V2.out.trans q3)
            unfold itPen at ra
            simp only at ra
            rw [hlx] at c0 g3 ra b8 M3 V3
            have d0 := b8.cell 0 (v := .slice (some ⟨g2, 0, none⟩) (l'.length + 1) cap2) rfl
            have df := b8.free 0
            have hqb : l'.length ≤ 190000 := by omega
            clear m2 hee hbk e0 hx' cx hd hlx b8 p8 m3 q3 hkk
            generalize l'.length = q at *
            have hwq : IntKind.i64.wrap (((q + 1 : Nat) : Int) - 1) = (q : Int) := by rw [IntWalk.i64_in _ (by omega)]; omega
            have j0 : (0 : Int) ≤ (q : Int) := by omega
            have j1 : (q : Int) < ((q + 1 : Nat) : Int) := by omega
            have j2 : decide ((0 : Int) < ((q + 1 : Nat) : Int)) = true := decide_eq_true (by omega)
            have j3 : (q : Int) < (q : Int) + 1 := by omega
            go_wp2_with fail
            go_region
            go_wp2_with (at_builtin; refine wpList_append_run rfl (.tmp 75) (.tmp 77) _ _ rfl _ _ (by rfl) (by rfl) _ _ ra ?_)
            go_roundw
            case rel => exact ⟨k + 1, _, _, _, by omega, by go_num, M3, V3, NC⟩
            case measure => simp only [RowKit.intOf]; omega
      by_cases hk4 : kd = 4
      · subst hk4
        have NC : Hid (((txtP sz ⟨4, max 0 lk, false⟩ [] t its1, nx1) : List It × Int) = rL sz (l.take (k + 1)) f lk (its, nx)) := Lib.hid (by rw [NX.out, rS]; simp)
        go_wp2_with fail
        refine (HTX.out 4 (max 0 lk) _ ((Keeps.refl wr).alloc (.cells #[.int .i64 4, .string tb, .string db, .string ib, .slice kA ks.length kc] 34))).mono ?_
        rintro e w2 ⟨rfl, p2⟩
        obtain ⟨v2, m2, q2⟩ := PostMr.from ((Keeps.refl wr).alloc (.cells #[.int .i64 4, .string tb, .string db, .string ib, .slice kA ks.length kc] 34)) p2
        have M2 := Lib.hid m2
        have V2 := Lib.hid (HV.out.trans q2)
        clear p2 m2 q2
        go_wp2_with fail
        go_roundw
        case rel => exact ⟨k + 1, v2, _, _, by omega, by go_num, M2, V2, NC⟩
        case measure => simp only [RowKit.intOf]; omega
      by_cases hk5 : kd = 5
      · subst hk5
        have NC : Hid (rL sz ks (slF f) lk (its1, nx1) = rL sz (l.take (k + 1)) f lk (its, nx)) := Lib.hid (by rw [NX.out, rS]; simp)
        have HS5 := Lib.hid (HSP.out (slF f) lk (wr.alloc (.cells #[.int .i64 5, .string tb, .string db, .string ib, .slice kA ks.length kc] 34)).drew ((Keeps.refl wr).alloc (.cells #[.int .i64 5, .string tb, .string db, .string ib, .slice kA ks.length kc] 34)).drew)
        go_wp2_with fail
        go_region_law (first
          | (go_simp; go_at_call 24; (with_reducible refine (SL.out _).mono ?_); rintro e w3 ⟨rfl, rfl⟩)
          | (go_simp; go_at_call 14; (with_reducible refine HS5.out.mono ?_); rintro e w2 ⟨rfl, p2⟩))
        all_goals
          obtain ⟨v2, m2, q2⟩ := PostMr.from ((Keeps.refl wr).alloc (.cells #[.int .i64 5, .string tb, .string db, .string ib, .slice kA ks.length kc] 34)).drew p2
          have M2 := Lib.hid m2
          have V2 := Lib.hid (HV.out.trans q2)
          clear p2 m2 q2
          go_wp2_with fail
          go_roundw
          case rel => exact ⟨k + 1, v2, _, _, by omega, by go_num, M2, V2, NC⟩
          case measure => simp only [RowKit.intOf]; omega
      by_cases hk6 : kd = 6
      · subst hk6
        have NC : Hid (rL sz ks (bdF f) lk (its1, nx1) = rL sz (l.take (k + 1)) f lk (its, nx)) := Lib.hid (by rw [NX.out, rS]; simp)
        have HS5 := Lib.hid (HSP.out (bdF f) lk (wr.alloc (.cells #[.int .i64 6, .string tb, .string db, .string ib, .slice kA ks.length kc] 34)).drew ((Keeps.refl wr).alloc (.cells #[.int .i64 6, .string tb, .string db, .string ib, .slice kA ks.length kc] 34)).drew)
        go_wp2_with fail
        go_region_law (first
          | (go_simp; go_at_call 25; (with_reducible refine (TH.out _).mono ?_); rintro e w3 ⟨rfl, rfl⟩)
          | (go_simp; go_at_call 14; (with_reducible refine HS5.out.mono ?_); rintro e w2 ⟨rfl, p2⟩))
        all_goals
          obtain ⟨v2, m2, q2⟩ := PostMr.from ((Keeps.refl wr).alloc (.cells #[.int .i64 6, .string tb, .string db, .string ib, .slice kA ks.length kc] 34)).drew p2
          have M2 := Lib.hid m2
          have V2 := Lib.hid (HV.out.trans q2)
          clear p2 m2 q2
          go_wp2_with fail
          go_roundw
          case rel => exact ⟨k + 1, v2, _, _, by omega, by go_num, M2, V2, NC⟩
          case measure => simp only [RowKit.intOf]; omega
      by_cases hk7 : kd = 7
      · subst hk7
        by_cases hlk : lk < 0
        · have tl : decide (lk < 0) = true := decide_eq_true hlk
          have NC : Hid (rL sz ks f lk (its1, nx1) = rL sz (l.take (k + 1)) f lk (its, nx)) := Lib.hid (by rw [NX.out, rS]; simp [hlk])
          go_wp2_with fail
          refine (HSP.out f lk _ ((Keeps.refl wr).alloc (.cells #[.int .i64 7, .string tb, .string db, .string ib, .slice kA ks.length kc] 34))).mono ?_
          rintro e w2 ⟨rfl, p2⟩
          obtain ⟨v2, m2, q2⟩ := PostMr.from ((Keeps.refl wr).alloc (.cells #[.int .i64 7, .string tb, .string db, .string ib, .slice kA ks.length kc] 34)) p2
          have M2 := Lib.hid m2
          have V2 := Lib.hid (HV.out.trans q2)
          clear p2 m2 q2
          go_wp2_with fail
          go_roundw
          case rel => exact ⟨k + 1, v2, _, _, by omega, by go_num, M2, V2, NC⟩
          case measure => simp only [RowKit.intOf]; omega
        · have tl : decide (lk < 0) = false := decide_eq_false hlk
          have NC : Hid (rL sz ks f nx1 (its1, nx1 + 1) = rL sz (l.take (k + 1)) f lk (its, nx)) := Lib.hid (by rw [NX.out, rS]; simp [hlk])
          obtain ⟨v3, m3, q3⟩ := Own.link_set HM.out (nx1 + 1)
          have n0 := HM.out.own.box.cell 2 (v := .int .i64 nx1) rfl
          have n0f := HM.out.own.box.free 2
          have m4 := m3.to ((Keeps.refl _).alloc (.cells #[.int .i64 7, .string tb, .string db, .string ib, .slice kA ks.length kc] 34))
          have V4 := Lib.hid ((HV.out.trans q3).trans (Mvd.keep ((Keeps.refl _).alloc (.cells #[.int .i64 7, .string tb, .string db, .string ib, .slice kA ks.length kc] 34))))
          have n3 := m4.own.box.cell 2 (v := .int .i64 (nx1 + 1)) rfl
          have bx := Blk.new (wr.setCell ⟨B, 2, none⟩ (.int .i64 (nx1 + 1))) 34 #[.int .i64 7, .string tb, .string db, .string ib, .slice kA ks.length kc]
          rw [setCell_size] at bx
          have n4 := bx.cell 4 (v := .slice kA ks.length kc) rfl
          have HS7 := Lib.hid (KD.out f nx1 _ B v3 its1 (nx1 + 1) (m4.to (Keeps.refl _).drew) (by omega) (by omega) (by omega))
          have hwn : IntKind.i64.wrap nx1 = nx1 := IntWalk.i64_in _ (by omega)
          clear m3 q3 m4 bx
          go_wp2_with fail
          generalize (wr.setCell ⟨B, 2, none⟩ (.int .i64 (nx1 + 1))).alloc (.cells #[.int .i64 7, .string tb, .string db, .string ib, .slice kA ks.length kc] 34) = w7 at *
          go_region_law (go_simp; go_at_call 14; (with_reducible refine HS7.out.mono ?_); rintro e w2 ⟨rfl, p2⟩)
          all_goals
            obtain ⟨v2, m2, q2⟩ := PostMr.from (Keeps.refl _).drew p2
            have M2 := Lib.hid m2
            have V2 := Lib.hid (V4.out.trans q2)
            clear p2 m2 q2
            go_wp2_with fail
            go_roundw
            case rel => exact ⟨k + 1, v2, _, _, by omega, by go_num, M2, V2, NC⟩
            case measure => simp only [RowKit.intOf]; omega
      by_cases hk8 : kd = 8
      · subst hk8
        have NC : Hid ((if 0 < lk then (relL its1.length lk (rL sz ks f (-1) (its1, nx1)).1, (rL sz ks f (-1) (its1, nx1)).2) else rL sz ks f (-1) (its1, nx1)) = rL sz (l.take (k + 1)) f lk (its, nx)) := Lib.hid (by rw [NX.out, rS]; simp)
        go_wp2_with fail
        refine (HIM.out _ ((Keeps.refl wr).alloc (.cells #[.int .i64 8, .string tb, .string db, .string ib, .slice kA ks.length kc] 34))).mono ?_
        rintro e w2 ⟨rfl, p2⟩
        obtain ⟨v2, m2, q2⟩ := PostMr.from ((Keeps.refl wr).alloc (.cells #[.int .i64 8, .string tb, .string db, .string ib, .slice kA ks.length kc] 34)) p2
        have M2 := Lib.hid m2
        have V2 := Lib.hid (HV.out.trans q2)
        clear p2 m2 q2
        go_wp2_with fail
        go_roundw
        case rel => exact ⟨k + 1, v2, _, _, by omega, by go_num, M2, V2, NC⟩
        case measure => simp only [RowKit.intOf]; omega
      by_cases hk9 : kd = 9
      · subst hk9
        have NC : Hid (((txtP sz ⟨4, max 0 lk, false⟩ [] t its1, nx1) : List It × Int) = rL sz (l.take (k + 1)) f lk (its, nx)) := Lib.hid (by rw [NX.out, rS]; simp)
        go_wp2_with fail
        refine (HTX.out 4 (max 0 lk) _ ((Keeps.refl wr).alloc (.cells #[.int .i64 9, .string tb, .string db, .string ib, .slice kA ks.length kc] 34))).mono ?_
        rintro e w2 ⟨rfl, p2⟩
        obtain ⟨v2, m2, q2⟩ := PostMr.from ((Keeps.refl wr).alloc (.cells #[.int .i64 9, .string tb, .string db, .string ib, .slice kA ks.length kc] 34)) p2
        have M2 := Lib.hid m2
        have V2 := Lib.hid (HV.out.trans q2)
        clear p2 m2 q2
        go_wp2_with fail
        go_roundw
        case rel => exact ⟨k + 1, v2, _, _, by omega, by go_num, M2, V2, NC⟩
        case measure => simp only [RowKit.intOf]; omega
      have NC : Hid (((its1, nx1) : List It × Int) = rL sz (l.take (k + 1)) f lk (its, nx)) := Lib.hid (by rw [NX.out, rS]; simp [hk1, hk2, hk3, hk4, hk5, hk6, hk7, hk8, hk9])
      have t1 : (kd == 1) = false := beqF hk1
      have t2 : (kd == 2) = false := beqF hk2
      have t3 : (kd == 3) = false := beqF hk3
      have t4 : (kd == 4) = false := beqF hk4
      have t5 : (kd == 5) = false := beqF hk5
      have t6 : (kd == 6) = false := beqF hk6
      have t7 : (kd == 7) = false := beqF hk7
      have t8 : (kd == 8) = false := beqF hk8
      have t9 : (kd == 9) = false := beqF hk9
      have M2 := Lib.hid (HM.out.to ((Keeps.refl wr).alloc (.cells #[.int .i64 kd, .string tb, .string db, .string ib, .slice kA ks.length kc] 34)))
      have V2 := Lib.hid (HV.out.trans (Mvd.keep ((Keeps.refl wr).alloc (.cells #[.int .i64 kd, .string tb, .string db, .string ib, .slice kA ks.length kc] 34))))
      clear hk1 hk2 hk3 hk4 hk5 hk6 hk7 hk8 hk9
      go_wp2_with fail
      go_roundw
      case rel => exact ⟨k + 1, _, _, _, by omega, by go_num, M2, V2, NC⟩
      case measure => simp only [RowKit.intOf]; omega
    · have e : k = m := by omega
      have tc : decide ((k : Int) < (m : Int)) = false := decide_eq_false (by omega)
      have EP := HP.out
      rw [e, HE.out] at EP
      have FIN : PostMr w0 sz W B v (rL sz l f lk (its, nx)).1 (rL sz l f lk (its, nx)).2 wr := by
        rw [← EP]
        exact ⟨v1, HM.out, HV.out⟩
      have FIN := Lib.hid FIN
      clear EP
      go_wp2_with fail
      go_end0
      exact ⟨rfl, FIN.out⟩
end Go.Proofs.YtoanknepbjofjaaDoor

/-
  The document's Make and Same.
-/
namespace Go.Proofs.YtoanknepbjofjaaDoor
open Go.RowKit Go.Lib Go.Maps

/-- What the document's Make tells. -/
def MakeQ (w : World) (p : List It × Int) (e : Ending) (w' : World) : Prop := ∃ v, e = .returned (.tuple #[v, .int .i64 p.2]) ∧ ItsAt w.heap.size w' v p.1 ∧ Keeps w w'
set_option maxRecDepth 100000 in
set_option maxHeartbeats 8000000 in
theorem rmake_any (l : List St) (lv : Value) (f sz link : Int) (w : World) (hA : StAt w l lv) (hF : FntR w) (h1 : 0 ≤ sz) (h2 : sz ≤ 2147483648) (hl : 2 * wL l ≤ 190000) (hn : 0 ≤ link) (hm : link + wL l ≤ 4611686018427387904) :
    Calls Tryd.prog 8 #[lv, .int .i64 f, .int .i64 sz, .int .i64 link] w (MakeQ w (makeR l f sz link)) := by
  have M0 : Mr w sz (w.alloc (.cells #[.slice none 0 0, .int .i64 sz, .int .i64 link] 45)) w.heap.size (.slice none 0 0) [] link := ⟨Own.new w 45 [.int .i64 sz, .int .i64 link] (Nat.le_refl _), (Keeps.refl w).alloc _⟩
  have CS := Lib.hid (rspans_any _ sz l lv (Nat.le_refl _) h1 h2 hF hA f 0 _ _ _ _ _ M0 (by simpa using hl) hn hm)
  have HL := (rL_len sz l f 0 ([], link)).1
  have EQ : makeR l f sz link = (dropG (rL sz l f 0 ([], link)).1, (rL sz l f 0 ([], link)).2) := rfl
  rw [EQ]
  clear EQ
  generalize rL sz l f 0 ([], link) = R at *
  obtain ⟨L, n2⟩ := R
  simp only at CS HL ⊢
  have hll : L.length ≤ 190000 := by simp only [List.length_nil] at HL; omega
  obtain ⟨A, cap, rfl, _, _, _⟩ := hA.slice
  clear M0 hA hF HL
  go_enter Tryd.func8, Tryd.ntmps8
  go_wp2_with fail
  refine CS.out.mono ?_
  rintro e w2 ⟨rfl, v2, m2, q2⟩
  have TR := Lib.hid (rtrim_any m2 (by omega))
  clear m2 q2
  go_wp2_with fail
  refine TR.out.mono ?_
  rintro e w3 ⟨rfl, v3, m3, q3⟩
  have b0 := m3.own.box.cell 0 (v := v3) rfl
  have b2 := m3.own.box.cell 2 (v := .int .i64 n2) rfl
  have ROW := Lib.hid m3.own.row
  have KK := Lib.hid m3.keep
  obtain ⟨A3, c3, rfl, _, _⟩ := row_form m3.own.row
  clear m3 q3
  go_wp2_with fail
  go_region
  go_wp2_with fail
  go_ret2
  exact ⟨_, rfl, row_below ROW.out (Keeps.refl _).drew, KK.out.drew⟩
theorem eql_item (a b c d e f g h : Int) (s : ByteArray) (W : World) : (binOp .neq 37 (.agg #[.int .i64 a, .int .i64 b, .int .i64 c, .int .i64 d, .int .i64 e, .string s, .int .i64 f, .int .i64 g, .int .i64 h]) (.agg #[.int .i64 a, .int .i64 b, .int .i64 c, .int .i64 d, .int .i64 e, .string s, .int .i64 f, .int .i64 g, .int .i64 h])).run Tryd.prog W = .ok (.bool false) W := by
  rw [run_neq_struct, run_equalIn_agg _ _ _ _ _ (by kernel_rfl) Tryd.stoodInHeld37]
  simp [go_sem, Tryd.underlying37, Tryd.underlying9, Tryd.underlying3]
end Go.Proofs.YtoanknepbjofjaaDoor

/-
  The document's Same, of the same items.
-/
namespace Go.Proofs.YtoanknepbjofjaaDoor
open Go.RowKit Go.Lib Go.Maps

set_option maxRecDepth 100000 in
set_option maxHeartbeats 8000000 in
theorem rsame_any (its : List It) (va vb : Value) (W : World) (hA : IsAt W its va) (hB : IsAt W its vb) (hl : its.length ≤ 1000000) :
    Calls Tryd.prog 9 #[va, vb] W fun e w' => e = .returned (.bool true) ∧ Keeps W w' := by
  obtain ⟨A, ca, rfl, a1, a2, a3⟩ := hA
  obtain ⟨B, cb, rfl, b1, b2, b3⟩ := hB
  unfold maxLen at a2 b2
  have HC : Hid (∀ k (h : k < its.length) (w1 : World), Keeps W w1 → ∃ g o g' o', A = some ⟨g, o, none⟩ ∧ B = some ⟨g', o', none⟩ ∧ w1.rangeAt g (o + k * 9) (itC its[k]) ∧ w1.rangeAt g' (o' + k * 9) (itC its[k])) := Lib.hid fun k h w1 q => by
    obtain ⟨g, o, e, hc⟩ := a3 (by omega)
    obtain ⟨g', o', e', hc'⟩ := b3 (by omega)
    exact ⟨g, o, g', o', e, e', range_same (hc k h) (q.block g (range_lt (hc k h) (by rw [itC_len]; decide))), range_same (hc' k h) (q.block g' (range_lt (hc' k h) (by rw [itC_len]; decide)))⟩
  obtain ⟨n, hn⟩ : ∃ n, its.length = n := ⟨_, rfl⟩
  have HN := Lib.hid hn
  rw [hn] at a1 b1 hl ⊢
  clear a3 b3 hn
  have tn : ((n : Int) == (n : Int)) = true := beqT rfl
  go_enter Tryd.func9, Tryd.ntmps9
  go_wp2_with fail
  go_loopw [5] (fun y wr => ∃ k : Nat, k ≤ n ∧ y = .int .i64 k ∧ Hid (Keeps W wr)) (fun y _ => n - (RowKit.intOf y).toNat)
  case atStart => exact ⟨0, Nat.zero_le _, rfl, Lib.hid (Keeps.refl _)⟩
  case round =>
    obtain ⟨k, hk, rfl, HK⟩ := hrel
    by_cases c : k < n
    · have tc : decide ((k : Int) < (n : Int)) = true := decide_eq_true (by omega)
      obtain ⟨g, o, g', o', eA, eB, hr, hr2⟩ := HC.out k (by rw [HN.out]; exact c) wr HK.out
      cases eA
      cases eB
      have hki : k < its.length := by rw [HN.out]; exact c
      generalize its[k] = x at *
      obtain ⟨x0, x1, x2, x3, x4, xc, x6, x7, x8⟩ := x
      obtain ⟨cs, hcs⟩ : ∃ cs : ByteArray, cs = ⟨xc.toArray⟩ := ⟨_, rfl⟩
      unfold itC at hr hr2
      simp only at hr hr2
      rw [← hcs] at hr hr2
      have EQ := fun W1 => eql_item x0 x1 x2 x3 x4 x6 x7 x8 cs W1
      have y0 : wr.cell? ⟨g, o + k * 9, none⟩ = some (.int .i64 x0) := hr 0 _ rfl
      have y1 : wr.cell? ⟨g, o + k * 9 + 1, none⟩ = some (.int .i64 x1) := hr 1 _ rfl
      have y2 : wr.cell? ⟨g, o + k * 9 + 2, none⟩ = some (.int .i64 x2) := hr 2 _ rfl
      have y3 : wr.cell? ⟨g, o + k * 9 + 3, none⟩ = some (.int .i64 x3) := hr 3 _ rfl
      have y4 : wr.cell? ⟨g, o + k * 9 + 4, none⟩ = some (.int .i64 x4) := hr 4 _ rfl
      have y5 : wr.cell? ⟨g, o + k * 9 + 5, none⟩ = some (.string cs) := hr 5 _ rfl
      have y6 : wr.cell? ⟨g, o + k * 9 + 6, none⟩ = some (.int .i64 x6) := hr 6 _ rfl
      have y7 : wr.cell? ⟨g, o + k * 9 + 7, none⟩ = some (.int .i64 x7) := hr 7 _ rfl
      have y8 : wr.cell? ⟨g, o + k * 9 + 8, none⟩ = some (.int .i64 x8) := hr 8 _ rfl
      have z0 : wr.cell? ⟨g', o' + k * 9, none⟩ = some (.int .i64 x0) := hr2 0 _ rfl
      have z1 : wr.cell? ⟨g', o' + k * 9 + 1, none⟩ = some (.int .i64 x1) := hr2 1 _ rfl
      have z2 : wr.cell? ⟨g', o' + k * 9 + 2, none⟩ = some (.int .i64 x2) := hr2 2 _ rfl
      have z3 : wr.cell? ⟨g', o' + k * 9 + 3, none⟩ = some (.int .i64 x3) := hr2 3 _ rfl
      have z4 : wr.cell? ⟨g', o' + k * 9 + 4, none⟩ = some (.int .i64 x4) := hr2 4 _ rfl
      have z5 : wr.cell? ⟨g', o' + k * 9 + 5, none⟩ = some (.string cs) := hr2 5 _ rfl
      have z6 : wr.cell? ⟨g', o' + k * 9 + 6, none⟩ = some (.int .i64 x6) := hr2 6 _ rfl
      have z7 : wr.cell? ⟨g', o' + k * 9 + 7, none⟩ = some (.int .i64 x7) := hr2 7 _ rfl
      have z8 : wr.cell? ⟨g', o' + k * 9 + 8, none⟩ = some (.int .i64 x8) := hr2 8 _ rfl
      have i0 : (0 : Int) ≤ (k : Int) := by omega
      have i1 : (k : Int) < (n : Int) := by omega
      clear hr hr2 hcs
      go_wp2_with fail
      go_region
      go_wp2_with fail
      go_roundw
      case rel => exact ⟨k + 1, by omega, by go_num, Lib.hid HK.out.drew⟩
      case measure => simp only [RowKit.intOf]; omega
    · have e : k = n := by omega
      have tc : decide ((k : Int) < (n : Int)) = false := decide_eq_false (by omega)
      clear e
      go_wp2_with fail
      go_ret
      exact ⟨rfl, HK.out⟩
end Go.Proofs.YtoanknepbjofjaaDoor

/-
  Contract of the law's awake.
-/
namespace Go.Proofs.YtoanknepbjofjaaDoor
open Go.RowKit Go.Lib Go.Maps

def awL (g : Nat) : List (St × Value) := [(.mk 1 [97, 98, 32, 32, 99] [] [] [], .slice none 0 0), (.mk 7 [] [] [] [.mk 1 [100] [] [] []], .slice (some ⟨g, 0, none⟩) 1 1)]
theorem aw_at (w : World) : StAt ((w.alloc (.cells #[.int .i64 1, .string ⟨#[100]⟩, .string ⟨#[]⟩, .string ⟨#[]⟩, .slice none 0 0] 34)).alloc (.cells #[.int .i64 1, .string ⟨#[97, 98, 32, 32, 99]⟩, .string ⟨#[]⟩, .string ⟨#[]⟩, .slice none 0 0, .int .i64 7, .string ⟨#[]⟩, .string ⟨#[]⟩, .string ⟨#[]⟩, .slice (some ⟨w.heap.size, 0, none⟩) 1 1] 34)) awSp (.slice (some ⟨w.heap.size + 1, 0, none⟩) 2 2) := by
  refine StAt.blk (L := awL w.heap.size) (blk_two _ _ _ _) (show 2 ≤ maxLen by decide) (fun x hx => ?_)
  rcases List.mem_cons.1 hx with rfl | hx
  · exact StAt.nil _
  · rw [List.mem_singleton] at hx
    subst hx
    exact StAt.blk (L := [(.mk 1 [100] [] [] [], .slice none 0 0)]) ((Blk.new w _ _).alloc _) (by decide) (fun y hy => by rw [List.mem_singleton] at hy; subst hy; exact StAt.nil _)
theorem aw_is (w : World) : IsAt (w.alloc (.cells #[.int .i64 1, .int .i64 24000, .int .i64 0, .int .i64 0, .int .i64 0, .string ⟨#[97, 98, 99, 100]⟩, .int .i64 4, .int .i64 10000, .int .i64 0] 37)) awBx (.slice (some ⟨w.heap.size, 0, none⟩) 1 1) :=
  ⟨_, 1, rfl, Nat.le_refl _, by decide, fun _ => ⟨_, 0, rfl, fun i hi j u hu => by
    have e : i = 0 := by have : i < 1 := hi; omega
    subst e
    exact (Blk.new w 37 (itC awBx[0]).toArray).cell _ (by simpa using hu)⟩⟩
set_option maxRecDepth 100000 in
set_option maxHeartbeats 8000000 in
theorem awake17_any (w : World) (hE : EnvI w) : Calls Tryd.prog 6 #[] w fun e w' => e = .returned (.bool true) ∧ Keeps w w' := by
  have HE := Lib.hid (fun W (k : Keeps w W) => hE.keep k)
  have KA := Lib.hid (fun o o2 => keeps_two w o o2)
  have MK := Lib.hid (fun W lv (hA : StAt W awSp lv) (k : Keeps w W) => make_any awSp lv 0 10000 4 W hA (HE.out W k) (by decide) (by decide) (by decide) (by decide) (by decide))
  rw [aw_make] at MK
  have SP := Lib.hid (fun W lv (hA : IsAt W awBx lv) (k : Keeps w W) => split_any awBx lv 13000 W hA (HE.out W k) (fun x hx => by
    unfold awBx at hx
    rw [List.mem_singleton] at hx
    subst hx
    exact ⟨by decide, .inr ⟨by unfold bxP; rw [aw_box], by decide, by decide⟩⟩) (by decide) (by decide) (by decide))
  rw [aw_split] at SP
  have AT := Lib.hid (aw_at w)
  clear hE HE
  go_enter Tryd.func6, Tryd.ntmps6
  go_wp2_with fail
  refine (MK.out _ _ AT.out (KA.out _ _)).mono ?_
  rintro e w1 ⟨v1, rfl, I1, k1⟩
  have K1 := (KA.out _ _).trans k1
  obtain ⟨A1, c1, rfl, h1, h2, h3⟩ := I1.form
  obtain ⟨g1, rfl⟩ := h3 (by decide)
  have hc1 : 4 ≤ c1 := h1
  have HI := Lib.hid I1
  clear I1 h1 h2 h3 k1
  rw [show awIt.length = 4 from rfl] at *
  go_wp2_with fail
  refine (SP.out _ _ (aw_is _) (K1.alloc _)).mono ?_
  rintro e w2 ⟨v2, rfl, I2, k2⟩
  have K2 := (K1.alloc _).trans k2
  obtain ⟨A2, c2, rfl, h1, h2, h3⟩ := I2.form
  obtain ⟨g2, rfl⟩ := h3 (by decide)
  have hc2 : 3 ≤ c2 := h1
  have I1 := (HI.out.keep ((Keeps.refl w1).alloc _)).keep k2
  have a5 : w2.cell? ⟨g1, 5, none⟩ = some (.string ⟨#[97, 98]⟩) := I1.cell (its := awIt) (i := 0) (by decide) 5 (by decide)
  have a9 : w2.cell? ⟨g1, 9, none⟩ = some (.int .i64 2) := I1.cell (its := awIt) (i := 1) (by decide) 0 (by decide)
  have a10 : w2.cell? ⟨g1, 10, none⟩ = some (.int .i64 2780) := I1.cell (its := awIt) (i := 1) (by decide) 1 (by decide)
  have a23 : w2.cell? ⟨g1, 23, none⟩ = some (.string ⟨#[99]⟩) := I1.cell (its := awIt) (i := 2) (by decide) 5 (by decide)
  have a35 : w2.cell? ⟨g1, 35, none⟩ = some (.int .i64 4) := I1.cell (its := awIt) (i := 3) (by decide) 8 (by decide)
  have b5 : w2.cell? ⟨g2, 5, none⟩ = some (.string ⟨#[97, 98]⟩) := I2.cell (its := awCut) (i := 0) (by decide) 5 (by decide)
  have b9 : w2.cell? ⟨g2, 9, none⟩ = some (.int .i64 3) := I2.cell (its := awCut) (i := 1) (by decide) 0 (by decide)
  have b23 : w2.cell? ⟨g2, 23, none⟩ = some (.string ⟨#[99, 100]⟩) := I2.cell (its := awCut) (i := 2) (by decide) 5 (by decide)
  clear I1 I2 HI h1 h2 h3 k2
  rw [show awCut.length = 3 from rfl] at *
  go_wp2_with fail
  go_ret
  exact ⟨rfl, K2⟩
end Go.Proofs.YtoanknepbjofjaaDoor

/-
  Walk of the law ItemMakes.
-/
namespace Go.Proofs.YtoanknepbjofjaaDoor
open Go.RowKit Go.Lib Go.Maps

set_option maxRecDepth 100000 in
set_option maxHeartbeats 8000000 in
theorem itmakes_any (l : List St) (lv : Value) (f sz : Int) (lk : Nat) (hlk : lk < 256) (w : World) (hA : StAt w l lv) (hw : wL l ≤ 100000000) (hR : FntR w) (hE : EnvI w) :
    Calls Tryd.prog 3 #[lv, .agg #[.int .i64 f, .int .i64 sz], .int .u8 lk] w fun e w' => e = .returned (.bool true) ∧ Keeps w w' := by
  have KA := Lib.hid ((Keeps.refl w).alloc (.cells #[.int .i64 f, .int .i64 sz] 23))
  have SM := Lib.hid (fun W (k : Keeps w W) => small_any l W lv (hA.keep k) hw)
  have FI := Lib.hid (fun W => fine_any sz W)
  have AW := Lib.hid (fun W (k : Keeps w W) => awake17_any W (hE.keep k))
  have bx := Blk.new w 23 #[.int .i64 f, .int .i64 sz]
  have c0 := bx.cell 0 (v := .int .i64 f) rfl
  have c1 := bx.cell 1 (v := .int .i64 sz) rfl
  clear bx
  obtain ⟨A, cap, hv, _, _, _⟩ := hA.slice
  by_cases hsm : wGs l 0 ≤ 3000
  · rw [decide_eq_true hsm] at SM
    by_cases hfi : 0 ≤ sz ∧ sz ≤ 2147483648
    · rw [decide_eq_true hfi] at FI
      have hwl : wL l ≤ 3000 := by have := wGs_eq l 0 hsm; omega
      have MK := Lib.hid (fun W (k : Keeps w W) => make_any l lv f sz (lk : Int) W (hA.keep k) (hE.keep k) hfi.1 hfi.2 (by omega) (by omega) (by omega))
      have MR := Lib.hid (fun W (k : Keeps w W) => rmake_any l lv f sz (lk : Int) W (hA.keep k) (hR.keep k) hfi.1 hfi.2 (by omega) (by omega) (by omega))
      have hln : (makeL l f sz (lk : Int)).1.length ≤ 10000 := by
        have h1 := (spns_len sz l ⟨f, 0, false⟩ ([], (lk : Int))).1
        have h2 := drop_len (spnsP sz l ⟨f, 0, false⟩ ([], (lk : Int))).1
        unfold makeL
        simp only [List.length_nil] at h1 ⊢
        omega
      rw [make_same l f sz (lk : Int) (by omega)] at MR
      unfold MakeP at MK
      unfold MakeQ at MR
      generalize makeL l f sz (lk : Int) = p at *
      obtain ⟨its, nx⟩ := p
      simp only at MK MR hln
      subst hv
      clear hA hR hE hsm hfi hwl
      go_enter Tryd.func3, Tryd.ntmps3
      go_wp2_with fail
      go_region
      go_wp2_with fail
      refine (SM.out _ KA.out.drew).mono ?_
      rintro e w1 ⟨rfl, k1⟩
      have K1 := Lib.hid (KA.out.drew.trans k1)
      clear k1
      go_wp2_with fail
      refine (FI.out _).mono ?_
      rintro e w2 ⟨rfl, rfl⟩
      go_wp2_with fail
      refine (MK.out _ K1.out).mono ?_
      rintro e w3 ⟨v3, rfl, I3, k3⟩
      have K3 := Lib.hid (K1.out.trans k3)
      have HI3 := Lib.hid I3.isAt
      clear k3
      go_wp2_with fail
      refine (MR.out _ K3.out).mono ?_
      rintro e w4 ⟨v4, rfl, I4, k4⟩
      have K4 := Lib.hid (K3.out.trans k4)
      have HA3 := Lib.hid (HI3.out.keep k4)
      have HA4 := Lib.hid I4.isAt
      clear k4 I3 I4 HI3
      go_wp2_with fail
      refine (AW.out _ K4.out).mono ?_
      rintro e w5 ⟨rfl, k5⟩
      have SA := Lib.hid (rsame_any its v3 v4 w5 (HA3.out.keep k5) (HA4.out.keep k5) (by omega))
      have K5 := Lib.hid (K4.out.trans k5)
      clear k5
      go_wp2_with fail
      refine SA.out.mono ?_
      rintro e w6 ⟨rfl, k6⟩
      go_wp2_with fail
      go_ret
      exact ⟨rfl, K5.out.trans k6⟩
    · rw [decide_eq_false hfi] at FI
      subst hv
      clear hA hR hE hsm hfi
      go_enter Tryd.func3, Tryd.ntmps3
      go_wp2_with fail
      go_region
      go_wp2_with fail
      refine (SM.out _ KA.out.drew).mono ?_
      rintro e w1 ⟨rfl, k1⟩
      have K1 := Lib.hid (KA.out.drew.trans k1)
      clear k1
      go_wp2_with fail
      refine (FI.out _).mono ?_
      rintro e w2 ⟨rfl, rfl⟩
      go_wp2_with fail
      refine (AW.out _ K1.out).mono ?_
      rintro e w5 ⟨rfl, k5⟩
      go_wp2_with fail
      go_ret
      exact ⟨rfl, K1.out.trans k5⟩
  · rw [decide_eq_false hsm] at SM
    subst hv
    clear hA hR hE hsm
    go_enter Tryd.func3, Tryd.ntmps3
    go_wp2_with fail
    go_region
    go_wp2_with fail
    refine (SM.out _ KA.out.drew).mono ?_
    rintro e w1 ⟨rfl, k1⟩
    have K1 := Lib.hid (KA.out.drew.trans k1)
    clear k1
    go_wp2_with fail
    refine (AW.out _ K1.out).mono ?_
    rintro e w5 ⟨rfl, k5⟩
    go_wp2_with fail
    go_ret
    exact ⟨rfl, K1.out.trans k5⟩
end Go.Proofs.YtoanknepbjofjaaDoor


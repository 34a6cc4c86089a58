/-
  Texts of the proof, one behind the other: Im9, ImA.
-/
import Derived.Test.YtfnkokfkhjdkfaaDoorM38
import Derived.Test.YtfnkokfkhjdkfaaDoorM16
/-
  Contract of the document's spans.
-/
namespace Go.Proofs.YtfnkokfkhjdkfaaDoor
open Go.RowKit Go.Lib Go.Maps

theorem Own.link_set {w0 W : World} {sz : Int} {B : Nat} {v : Value} {its : List It} {nx : Int} (h : Mr w0 sz W B v its nx) (n2 : Int) : PostMr w0 sz W B v its n2 (W.setCell ⟨B, 2, none⟩ (.int .i64 n2)) := by
  obtain ⟨o1, q1⟩ := h.own.set 1 (.int .i64 n2) [.int .i64 sz, .int .i64 n2] rfl
  exact h.moved o1 q1
set_option maxRecDepth 100000 in
set_option maxHeartbeats 32000000 in
theorem rspans_any : ∀ (n : Nat) {w0 : World} (sz : Int) (l : List St) (lv : Value), SizeOf.sizeOf l ≤ n → 0 ≤ sz → sz ≤ 2147483648 → FntR w0 → StAt w0 l lv → RDo w0 sz l lv := by
  intro n
  induction n with
  | zero =>
    intro w0 sz l lv hf
    have : 0 < SizeOf.sizeOf l := by cases l <;> simp <;> omega
    omega
  | succ n ih =>
  intro w0 sz l lv hf h1 h2 hF hA f lk W B v its nx h hl hn hm
  obtain ⟨A, cap, rfl, hc1, hc2, hg⟩ := hA.slice
  unfold maxLen at hc2
  obtain ⟨m, hm0⟩ : ∃ m, l.length = m := ⟨_, rfl⟩
  have HA := Lib.hid hA
  have H0 := Lib.hid h
  have HFR := Lib.hid hF
  have HNX := Lib.hid (fun i x (hx : l[i]? = some x) => rl_next (sz := sz) hx f lk (its, nx))
  have HL := Lib.hid (fun i => rL_len sz (l.take i) f lk (its, nx))
  have HE := Lib.hid (show rL sz (l.take m) f lk (its, nx) = rL sz l f lk (its, nx) by rw [List.take_of_length_le (Nat.le_of_eq hm0)])
  have HX := Lib.hid (fun i (hi : i < m) => (⟨l[i]'(by omega), List.getElem?_eq_getElem (by omega)⟩ : ∃ x, l[i]? = some x))
  have HW := Lib.hid (fun i x (hx : l[i]? = some x) => wL_at hx)
  have IH := Lib.hid (fun (i : Nat) (kd : Int) (t d ti : List UInt8) (ks : List St) (kv : Value) (hx : l[i]? = some (St.mk kd t d ti ks)) (hk : StAt w0 ks kv) => ih sz ks kv (by have := size_st hx; omega) h1 h2 hF hk)
  have Z0 : Hid ((its, nx) = rL sz (l.take 0) f lk (its, nx)) := Lib.hid rfl
  have SL := Lib.hid (fun W1 => rslant_any f W1)
  have TH := Lib.hid (fun W1 => rthick_any f W1)
  rw [hm0] at hc1 hg HA ⊢
  clear hA h hF ih
  go_enter Tryd.func20, Tryd.ntmps20
  go_wp2_with fail
  go_loopw [8] (fun y wr => ∃ (k : Nat) (v1 : Value) (its1 : List It) (nx1 : Int), k ≤ m ∧ y = .int .i64 k ∧ Hid (Mr w0 sz wr B v1 its1 nx1) ∧ Hid (Mvd W wr B v v1) ∧ Hid ((its1, nx1) = rL sz (l.take k) f lk (its, nx))) (fun y _ => m - (RowKit.intOf y).toNat)
  case atStart => exact ⟨0, v, its, nx, Nat.zero_le _, rfl, H0, Lib.hid (Mvd.refl _ _ _), Z0⟩
  case round =>
    obtain ⟨k, v1, its1, nx1, hk, rfl, HM, HV, HP⟩ := hrel
    by_cases c : k < m
    · have tc : decide ((k : Int) < (m : Int)) = true := decide_eq_true (by omega)
      obtain ⟨g, o, rfl⟩ := hg (by omega)
      obtain ⟨x, hx⟩ := HX.out k c
      have L1 := HL.out k
      rw [← HP.out] at L1
      simp only at L1
      obtain ⟨l1, l2, l3⟩ := L1
      have NX := Lib.hid (HNX.out k x hx)
      rw [← HP.out] at NX
      have hw := HW.out k x hx
      obtain ⟨kd, t, d, ti, ks⟩ := x
      rw [wS_mk] at hw
      obtain ⟨kv, hcl, hks⟩ : ∃ kv, StC w0 g (o + k * 5) kd t d ti kv ∧ StAt w0 ks kv := by
        have hA2 : StAt w0 l (.slice (some ⟨g, o, none⟩) l.length cap) := by rw [hm0]; exact HA.out
        exact hA2.at hx
      have hcw := hcl.keep HM.out.keep
      have KD := Lib.hid (IH.out k kd t d ti ks kv hx hks)
      obtain ⟨kA, kc, hkv, _, _, _⟩ := hks.slice
      subst hkv
      obtain ⟨tb, htb⟩ : ∃ tb : ByteArray, (⟨t.toArray⟩ : ByteArray) = tb := ⟨_, rfl⟩
      obtain ⟨db, hdb⟩ : ∃ tb : ByteArray, (⟨d.toArray⟩ : ByteArray) = tb := ⟨_, rfl⟩
      obtain ⟨ib, hib⟩ : ∃ tb : ByteArray, (⟨ti.toArray⟩ : ByteArray) = tb := ⟨_, rfl⟩
      have hts : tb.data.toList = t := by rw [← htb]
      have htz : tb.size ≤ 95000 := by rw [← bytes_len tb, hts]; omega
      have x0 := hcw.c0
      have x1 := hcw.c1
      have x2 := hcw.c2
      have x3 := hcw.c3
      have x4 := hcw.c4
      rw [htb] at x1
      rw [hdb] at x2
      rw [hib] at x3
      have HTX := Lib.hid (fun f' lk' W1 (q : Keeps wr W1) => rtext_any tb f' lk' (HM.out.to q) (by omega) (by have := bytes_len tb; rw [hts] at this; omega) h1 h2 HFR.out)
      rw [hts] at HTX
      have HGL := Lib.hid (fun W1 (q : Keeps wr W1) => rglue_any f (HM.out.to q) (by omega) h1 h2 HFR.out)
      have HTR := Lib.hid (fun W1 (q : Keeps wr W1) => rtrim_any (HM.out.to q) (by omega))
      have HSP := Lib.hid (fun f' lk' W1 (q : Keeps wr W1) => KD.out f' lk' W1 B v1 its1 nx1 (HM.out.to q) (by omega) (by omega) (by omega))
      have HIM := Lib.hid (fun W1 (q : Keeps wr W1) => rimage_do f lk KD.out (HM.out.to q) (by omega) (by omega) (by omega))
      have hbl := HM.out.own.box.lt
      have i0 : (0 : Int) ≤ (k : Int) := by omega
      have i1 : (k : Int) < (m : Int) := by omega
      have hn1 : 0 ≤ nx1 := by omega
      have hn2 : nx1 + 10 + wL ks ≤ 4611686018427387904 := by omega
      have hl3 : its1.length + 2 * wL ks ≤ 190000 := by omega
      have hl4 : its1.length ≤ 190000 := by omega
      clear hx hcw hcl hks htb hdb hib hts htz l1 l2 l3 hw
      by_cases hk1 : kd = 1
      · subst hk1
        have NC : Hid (((txtP sz ⟨f, max 0 lk, false⟩ [] t its1, nx1) : List It × Int) = rL sz (l.take (k + 1)) f lk (its, nx)) := Lib.hid (by rw [NX.out, rS]; simp)
        go_wp2_with fail
        refine (HTX.out f (max 0 lk) _ ((Keeps.refl wr).alloc (.cells #[.int .i64 1, .string tb, .string db, .string ib, .slice kA ks.length kc] 48))).mono ?_
        rintro e w2 ⟨rfl, p2⟩
        obtain ⟨v2, m2, q2⟩ := PostMr.from ((Keeps.refl wr).alloc (.cells #[.int .i64 1, .string tb, .string db, .string ib, .slice kA ks.length kc] 48)) p2
        have M2 := Lib.hid m2
        have V2 := Lib.hid (HV.out.trans q2)
        clear p2 m2 q2
        go_wp2_with fail
        go_roundw
        case rel => exact ⟨k + 1, v2, _, _, by omega, by go_num, M2, V2, NC⟩
        case measure => simp only [RowKit.intOf]; omega
      by_cases hk2 : kd = 2
      · subst hk2
        have NC : Hid (((glueP sz ⟨f, 0, false⟩ its1, nx1) : List It × Int) = rL sz (l.take (k + 1)) f lk (its, nx)) := Lib.hid (by rw [NX.out, rS]; simp)
        go_wp2_with fail
        refine (HGL.out _ ((Keeps.refl wr).alloc (.cells #[.int .i64 2, .string tb, .string db, .string ib, .slice kA ks.length kc] 48))).mono ?_
        rintro e w2 ⟨rfl, p2⟩
        obtain ⟨v2, m2, q2⟩ := PostMr.from ((Keeps.refl wr).alloc (.cells #[.int .i64 2, .string tb, .string db, .string ib, .slice kA ks.length kc] 48)) p2
        have M2 := Lib.hid m2
        have V2 := Lib.hid (HV.out.trans q2)
        clear p2 m2 q2
        go_wp2_with fail
        go_roundw
        case rel => exact ⟨k + 1, v2, _, _, by omega, by go_num, M2, V2, NC⟩
        case measure => simp only [RowKit.intOf]; omega
      by_cases hk3 : kd = 3
      · subst hk3
        have NC : Hid (((brkP its1, nx1) : List It × Int) = rL sz (l.take (k + 1)) f lk (its, nx)) := Lib.hid (by rw [NX.out, rS]; simp)
        have hd := drop_len its1
        go_wp2_with fail
        refine (HTR.out _ ((Keeps.refl wr).alloc (.cells #[.int .i64 3, .string tb, .string db, .string ib, .slice kA ks.length kc] 48))).mono ?_
        rintro e w2 ⟨rfl, p2⟩
        obtain ⟨v2, m2, q2⟩ := PostMr.from ((Keeps.refl wr).alloc (.cells #[.int .i64 3, .string tb, .string db, .string ib, .slice kA ks.length kc] 48)) p2
        have V2 := Lib.hid (HV.out.trans q2)
        have c0 := m2.own.box.cell 0 (v := v2) rfl
        clear p2 q2
        cases hee : endsK 1 (dropG its1) with
        | false =>
          have hbk : brkP its1 = dropG its1 := by unfold brkP; rw [if_neg (by rw [hee]; decide)]
          rw [hbk] at NC
          have M2 := Lib.hid (m2.to (Keeps.refl _).drew)
          have V2 := Lib.hid (V2.out.trans (Mvd.keep (Keeps.refl _).drew))
          rcases List.eq_nil_or_concat (dropG its1) with e0 | ⟨l', x', e0⟩
          · obtain ⟨A2, cap2, rfl, _, _⟩ := row_form m2.own.row
            have z0 : (dropG its1).length = 0 := by rw [e0]; rfl
            rw [z0] at c0
            clear m2 hee hbk e0 z0 hd
            go_wp2_with fail
            go_region
            go_wp2_with fail
            go_roundw
            case rel => exact ⟨k + 1, _, _, _, by omega, by go_num, M2, V2, NC⟩
            case measure => simp only [RowKit.intOf]; omega
          · rw [List.concat_eq_append] at e0
            obtain ⟨g2, cap2, rfl, g3, g4⟩ := m2.own.at_ (by rw [e0]; simp)
            have hlx : (dropG its1).length = l'.length + 1 := by rw [e0]; simp
            have cx := m2.own.cell (i := l'.length) (by omega) 0 (by decide)
            have hx' : (dropG its1)[l'.length]'(by omega) = x' := by simp only [e0]; simp
            rw [hx'] at cx
            have c1 : w2.cell? ⟨g2, l'.length * 9, none⟩ = some (.int .i64 x'.kind) := cx
            have tx : (x'.kind == 1) = false := by rw [e0, ends_app] at hee; exact hee
            rw [hlx] at c0 g3
            have hqb : l'.length ≤ 190000 := by omega
            generalize x'.kind = xk at *
            clear m2 hee hbk e0 hx' cx hd hlx
            generalize l'.length = q at *
            have hwq : IntKind.i64.wrap (((q + 1 : Nat) : Int) - 1) = (q : Int) := by rw [IntWalk.i64_in _ (by omega)]; omega
            have j0 : (0 : Int) ≤ (q : Int) := by omega
            have j1 : (q : Int) < ((q + 1 : Nat) : Int) := by omega
            have j2 : decide ((0 : Int) < ((q + 1 : Nat) : Int)) = true := decide_eq_true (by omega)
            have j3 : (q : Int) < (q : Int) + 1 := by omega
            go_wp2_with fail
            go_region
            go_wp2_with fail
            go_roundw
            case rel => exact ⟨k + 1, _, _, _, by omega, by go_num, M2, V2, NC⟩
            case measure => simp only [RowKit.intOf]; omega
        | true =>
          have hbk : brkP its1 = dropG its1 ++ [itPen (-10000)] := by unfold brkP; rw [if_pos hee]
          rw [hbk] at NC
          rcases List.eq_nil_or_concat (dropG its1) with e0 | ⟨l', x', e0⟩
          · rw [e0] at hee; cases hee
          · rw [List.concat_eq_append] at e0
            obtain ⟨g2, cap2, rfl, g3, g4⟩ := m2.own.at_ (by rw [e0]; simp)
            have hlx : (dropG its1).length = l'.length + 1 := by rw [e0]; simp
            have cx := m2.own.cell (i := l'.length) (by omega) 0 (by decide)
            have hx' : (dropG its1)[l'.length]'(by omega) = x' := by simp only [e0]; simp
            rw [hx'] at cx
            have hkk : x'.kind = 1 := by rw [e0, ends_app] at hee; exact eq_of_beq hee
            have c1 : w2.cell? ⟨g2, l'.length * 9, none⟩ = some (.int .i64 1) := by rw [← hkk]; exact cx
            obtain ⟨A8, c8, w8, ra, b8, p8⟩ := (m2.to (Keeps.refl _).drew).made (itPen (-10000)) (by omega)
            obtain ⟨v3, m3, q3⟩ := PostMr.from (Keeps.refl _).drew p8
            have M3 := Lib.hid m3
            have V3 := Lib.hid (V2.out.trans q3)
            unfold itPen at ra
            simp only at ra
            rw [hlx] at c0 g3 ra b8 M3 V3
            have d0 := b8.cell 0 (v := .slice (some ⟨g2, 0, none⟩) (l'.length + 1) cap2) rfl
            have df := b8.free 0
            have hqb : l'.length ≤ 190000 := by omega
            clear m2 hee hbk e0 hx' cx hd hlx b8 p8 m3 q3 hkk
            generalize l'.length = q at *
            have hwq : IntKind.i64.wrap (((q + 1 : Nat) : Int) - 1) = (q : Int) := by rw [IntWalk.i64_in _ (by omega)]; omega
            have j0 : (0 : Int) ≤ (q : Int) := by omega
            have j1 : (q : Int) < ((q + 1 : Nat) : Int) := by omega
            have j2 : decide ((0 : Int) < ((q + 1 : Nat) : Int)) = true := decide_eq_true (by omega)
            have j3 : (q : Int) < (q : Int) + 1 := by omega
            go_wp2_with fail
            go_region
            go_wp2_with (at_builtin; refine wpList_append_run rfl (.tmp 75) (.tmp 77) _ _ rfl _ _ (by rfl) (by rfl) _ _ ra ?_)
            go_roundw
            case rel => exact ⟨k + 1, _, _, _, by omega, by go_num, M3, V3, NC⟩
            case measure => simp only [RowKit.intOf]; omega
      by_cases hk4 : kd = 4
      · subst hk4
        have NC : Hid (((txtP sz ⟨4, max 0 lk, false⟩ [] t its1, nx1) : List It × Int) = rL sz (l.take (k + 1)) f lk (its, nx)) := Lib.hid (by rw [NX.out, rS]; simp)
        go_wp2_with fail
        refine (HTX.out 4 (max 0 lk) _ ((Keeps.refl wr).alloc (.cells #[.int .i64 4, .string tb, .string db, .string ib, .slice kA ks.length kc] 48))).mono ?_
        rintro e w2 ⟨rfl, p2⟩
        obtain ⟨v2, m2, q2⟩ := PostMr.from ((Keeps.refl wr).alloc (.cells #[.int .i64 4, .string tb, .string db, .string ib, .slice kA ks.length kc] 48)) p2
        have M2 := Lib.hid m2
        have V2 := Lib.hid (HV.out.trans q2)
        clear p2 m2 q2
        go_wp2_with fail
        go_roundw
        case rel => exact ⟨k + 1, v2, _, _, by omega, by go_num, M2, V2, NC⟩
        case measure => simp only [RowKit.intOf]; omega
      by_cases hk5 : kd = 5
      · subst hk5
        have NC : Hid (rL sz ks (slF f) lk (its1, nx1) = rL sz (l.take (k + 1)) f lk (its, nx)) := Lib.hid (by rw [NX.out, rS]; simp)
        have HS5 := Lib.hid (HSP.out (slF f) lk (wr.alloc (.cells #[.int .i64 5, .string tb, .string db, .string ib, .slice kA ks.length kc] 48)).drew ((Keeps.refl wr).alloc (.cells #[.int .i64 5, .string tb, .string db, .string ib, .slice kA ks.length kc] 48)).drew)
        go_wp2_with fail
        go_region_law (first
          | (go_simp; go_at_call 36; (with_reducible refine (SL.out _).mono ?_); rintro e w3 ⟨rfl, rfl⟩)
          | (go_simp; go_at_call 20; (with_reducible refine HS5.out.mono ?_); rintro e w2 ⟨rfl, p2⟩))
        all_goals
          obtain ⟨v2, m2, q2⟩ := PostMr.from ((Keeps.refl wr).alloc (.cells #[.int .i64 5, .string tb, .string db, .string ib, .slice kA ks.length kc] 48)).drew p2
          have M2 := Lib.hid m2
          have V2 := Lib.hid (HV.out.trans q2)
          clear p2 m2 q2
          go_wp2_with fail
          go_roundw
          case rel => exact ⟨k + 1, v2, _, _, by omega, by go_num, M2, V2, NC⟩
          case measure => simp only [RowKit.intOf]; omega
      by_cases hk6 : kd = 6
      · subst hk6
        have NC : Hid (rL sz ks (bdF f) lk (its1, nx1) = rL sz (l.take (k + 1)) f lk (its, nx)) := Lib.hid (by rw [NX.out, rS]; simp)
        have HS5 := Lib.hid (HSP.out (bdF f) lk (wr.alloc (.cells #[.int .i64 6, .string tb, .string db, .string ib, .slice kA ks.length kc] 48)).drew ((Keeps.refl wr).alloc (.cells #[.int .i64 6, .string tb, .string db, .string ib, .slice kA ks.length kc] 48)).drew)
        go_wp2_with fail
        go_region_law (first
          | (go_simp; go_at_call 37; (with_reducible refine (TH.out _).mono ?_); rintro e w3 ⟨rfl, rfl⟩)
          | (go_simp; go_at_call 20; (with_reducible refine HS5.out.mono ?_); rintro e w2 ⟨rfl, p2⟩))
        all_goals
          obtain ⟨v2, m2, q2⟩ := PostMr.from ((Keeps.refl wr).alloc (.cells #[.int .i64 6, .string tb, .string db, .string ib, .slice kA ks.length kc] 48)).drew p2
          have M2 := Lib.hid m2
          have V2 := Lib.hid (HV.out.trans q2)
          clear p2 m2 q2
          go_wp2_with fail
          go_roundw
          case rel => exact ⟨k + 1, v2, _, _, by omega, by go_num, M2, V2, NC⟩
          case measure => simp only [RowKit.intOf]; omega
      by_cases hk7 : kd = 7
      · subst hk7
        by_cases hlk : lk < 0
        · have tl : decide (lk < 0) = true := decide_eq_true hlk
          have NC : Hid (rL sz ks f lk (its1, nx1) = rL sz (l.take (k + 1)) f lk (its, nx)) := Lib.hid (by rw [NX.out, rS]; simp [hlk])
          go_wp2_with fail
          refine (HSP.out f lk _ ((Keeps.refl wr).alloc (.cells #[.int .i64 7, .string tb, .string db, .string ib, .slice kA ks.length kc] 48))).mono ?_
          rintro e w2 ⟨rfl, p2⟩
          obtain ⟨v2, m2, q2⟩ := PostMr.from ((Keeps.refl wr).alloc (.cells #[.int .i64 7, .string tb, .string db, .string ib, .slice kA ks.length kc] 48)) p2
          have M2 := Lib.hid m2
          have V2 := Lib.hid (HV.out.trans q2)
          clear p2 m2 q2
          go_wp2_with fail
          go_roundw
          case rel => exact ⟨k + 1, v2, _, _, by omega, by go_num, M2, V2, NC⟩
          case measure => simp only [RowKit.intOf]; omega
        · have tl : decide (lk < 0) = false := decide_eq_false hlk
          have NC : Hid (rL sz ks f nx1 (its1, nx1 + 1) = rL sz (l.take (k + 1)) f lk (its, nx)) := Lib.hid (by rw [NX.out, rS]; simp [hlk])
          obtain ⟨v3, m3, q3⟩ := Own.link_set HM.out (nx1 + 1)
          have n0 := HM.out.own.box.cell 2 (v := .int .i64 nx1) rfl
          have n0f := HM.out.own.box.free 2
          have m4 := m3.to ((Keeps.refl _).alloc (.cells #[.int .i64 7, .string tb, .string db, .string ib, .slice kA ks.length kc] 48))
          have V4 := Lib.hid ((HV.out.trans q3).trans (Mvd.keep ((Keeps.refl _).alloc (.cells #[.int .i64 7, .string tb, .string db, .string ib, .slice kA ks.length kc] 48))))
          have n3 := m4.own.box.cell 2 (v := .int .i64 (nx1 + 1)) rfl
          have bx := Blk.new (wr.setCell ⟨B, 2, none⟩ (.int .i64 (nx1 + 1))) 48 #[.int .i64 7, .string tb, .string db, .string ib, .slice kA ks.length kc]
          rw [setCell_size] at bx
          have n4 := bx.cell 4 (v := .slice kA ks.length kc) rfl
          have HS7 := Lib.hid (KD.out f nx1 _ B v3 its1 (nx1 + 1) (m4.to (Keeps.refl _).drew) (by omega) (by omega) (by omega))
          have hwn : IntKind.i64.wrap nx1 = nx1 := IntWalk.i64_in _ (by omega)
          clear m3 q3 m4 bx
          go_wp2_with fail
          generalize (wr.setCell ⟨B, 2, none⟩ (.int .i64 (nx1 + 1))).alloc (.cells #[.int .i64 7, .string tb, .string db, .string ib, .slice kA ks.length kc] 48) = w7 at *
          go_region_law (go_simp; go_at_call 20; (with_reducible refine HS7.out.mono ?_); rintro e w2 ⟨rfl, p2⟩)
          all_goals
            obtain ⟨v2, m2, q2⟩ := PostMr.from (Keeps.refl _).drew p2
            have M2 := Lib.hid m2
            have V2 := Lib.hid (V4.out.trans q2)
            clear p2 m2 q2
            go_wp2_with fail
            go_roundw
            case rel => exact ⟨k + 1, v2, _, _, by omega, by go_num, M2, V2, NC⟩
            case measure => simp only [RowKit.intOf]; omega
      by_cases hk8 : kd = 8
      · subst hk8
        have NC : Hid ((if 0 < lk then (relL its1.length lk (rL sz ks f (-1) (its1, nx1)).1, (rL sz ks f (-1) (its1, nx1)).2) else rL sz ks f (-1) (its1, nx1)) = rL sz (l.take (k + 1)) f lk (its, nx)) := Lib.hid (by rw [NX.out, rS]; simp)
        go_wp2_with fail
        refine (HIM.out _ ((Keeps.refl wr).alloc (.cells #[.int .i64 8, .string tb, .string db, .string ib, .slice kA ks.length kc] 48))).mono ?_
        rintro e w2 ⟨rfl, p2⟩
        obtain ⟨v2, m2, q2⟩ := PostMr.from ((Keeps.refl wr).alloc (.cells #[.int .i64 8, .string tb, .string db, .string ib, .slice kA ks.length kc] 48)) p2
        have M2 := Lib.hid m2
        have V2 := Lib.hid (HV.out.trans q2)
        clear p2 m2 q2
        go_wp2_with fail
        go_roundw
        case rel => exact ⟨k + 1, v2, _, _, by omega, by go_num, M2, V2, NC⟩
        case measure => simp only [RowKit.intOf]; omega
      by_cases hk9 : kd = 9
      · subst hk9
        have NC : Hid (((txtP sz ⟨4, max 0 lk, false⟩ [] t its1, nx1) : List It × Int) = rL sz (l.take (k + 1)) f lk (its, nx)) := Lib.hid (by rw [NX.out, rS]; simp)
        go_wp2_with fail
        refine (HTX.out 4 (max 0 lk) _ ((Keeps.refl wr).alloc (.cells #[.int .i64 9, .string tb, .string db, .string ib, .slice kA ks.length kc] 48))).mono ?_
        rintro e w2 ⟨rfl, p2⟩
        obtain ⟨v2, m2, q2⟩ := PostMr.from ((Keeps.refl wr).alloc (.cells #[.int .i64 9, .string tb, .string db, .string ib, .slice kA ks.length kc] 48)) p2
        have M2 := Lib.hid m2
        have V2 := Lib.hid (HV.out.trans q2)
        clear p2 m2 q2
        go_wp2_with fail
        go_roundw
        case rel => exact ⟨k + 1, v2, _, _, by omega, by go_num, M2, V2, NC⟩
        case measure => simp only [RowKit.intOf]; omega
      have NC : Hid (((its1, nx1) : List It × Int) = rL sz (l.take (k + 1)) f lk (its, nx)) := Lib.hid (by rw [NX.out, rS]; simp [hk1, hk2, hk3, hk4, hk5, hk6, hk7, hk8, hk9])
      have t1 : (kd == 1) = false := beqF hk1
      have t2 : (kd == 2) = false := beqF hk2
      have t3 : (kd == 3) = false := beqF hk3
      have t4 : (kd == 4) = false := beqF hk4
      have t5 : (kd == 5) = false := beqF hk5
      have t6 : (kd == 6) = false := beqF hk6
      have t7 : (kd == 7) = false := beqF hk7
      have t8 : (kd == 8) = false := beqF hk8
      have t9 : (kd == 9) = false := beqF hk9
      have M2 := Lib.hid (HM.out.to ((Keeps.refl wr).alloc (.cells #[.int .i64 kd, .string tb, .string db, .string ib, .slice kA ks.length kc] 48)))
      have V2 := Lib.hid (HV.out.trans (Mvd.keep ((Keeps.refl wr).alloc (.cells #[.int .i64 kd, .string tb, .string db, .string ib, .slice kA ks.length kc] 48))))
      clear hk1 hk2 hk3 hk4 hk5 hk6 hk7 hk8 hk9
      go_wp2_with fail
      go_roundw
      case rel => exact ⟨k + 1, _, _, _, by omega, by go_num, M2, V2, NC⟩
      case measure => simp only [RowKit.intOf]; omega
    · have e : k = m := by omega
      have tc : decide ((k : Int) < (m : Int)) = false := decide_eq_false (by omega)
      have EP := HP.out
      rw [e, HE.out] at EP
      have FIN : PostMr w0 sz W B v (rL sz l f lk (its, nx)).1 (rL sz l f lk (its, nx)).2 wr := by
        rw [← EP]
        exact ⟨v1, HM.out, HV.out⟩
      have FIN := Lib.hid FIN
      clear EP
      go_wp2_with fail
      go_end0
      exact ⟨rfl, FIN.out⟩
end Go.Proofs.YtfnkokfkhjdkfaaDoor

/-
  The document's Make and Same.
-/
namespace Go.Proofs.YtfnkokfkhjdkfaaDoor
open Go.RowKit Go.Lib Go.Maps

/-- What the document's Make tells. -/
def MakeQ (w : World) (p : List It × Int) (e : Ending) (w' : World) : Prop := ∃ v, e = .returned (.tuple #[v, .int .i64 p.2]) ∧ ItsAt w.heap.size w' v p.1 ∧ Keeps w w'
set_option maxRecDepth 100000 in
set_option maxHeartbeats 8000000 in
theorem rmake_any (l : List St) (lv : Value) (f sz link : Int) (w : World) (hA : StAt w l lv) (hF : FntR w) (h1 : 0 ≤ sz) (h2 : sz ≤ 2147483648) (hl : 2 * wL l ≤ 190000) (hn : 0 ≤ link) (hm : link + wL l ≤ 4611686018427387904) :
    Calls Tryd.prog 9 #[lv, .int .i64 f, .int .i64 sz, .int .i64 link] w (MakeQ w (makeR l f sz link)) := by
  have M0 : Mr w sz (w.alloc (.cells #[.slice none 0 0, .int .i64 sz, .int .i64 link] 56)) w.heap.size (.slice none 0 0) [] link := ⟨Own.new w 56 [.int .i64 sz, .int .i64 link] (Nat.le_refl _), (Keeps.refl w).alloc _⟩
  have CS := Lib.hid (rspans_any _ sz l lv (Nat.le_refl _) h1 h2 hF hA f 0 _ _ _ _ _ M0 (by simpa using hl) hn hm)
  have HL := (rL_len sz l f 0 ([], link)).1
  have EQ : makeR l f sz link = (dropG (rL sz l f 0 ([], link)).1, (rL sz l f 0 ([], link)).2) := rfl
  rw [EQ]
  clear EQ
  generalize rL sz l f 0 ([], link) = R at *
  obtain ⟨L, n2⟩ := R
  simp only at CS HL ⊢
  have hll : L.length ≤ 190000 := by simp only [List.length_nil] at HL; omega
  obtain ⟨A, cap, rfl, _, _, _⟩ := hA.slice
  clear M0 hA hF HL
  go_enter Tryd.func9, Tryd.ntmps9
  go_wp2_with fail
  refine CS.out.mono ?_
  rintro e w2 ⟨rfl, v2, m2, q2⟩
  have TR := Lib.hid (rtrim_any m2 (by omega))
  clear m2 q2
  go_wp2_with fail
  refine TR.out.mono ?_
  rintro e w3 ⟨rfl, v3, m3, q3⟩
  have b0 := m3.own.box.cell 0 (v := v3) rfl
  have b2 := m3.own.box.cell 2 (v := .int .i64 n2) rfl
  have ROW := Lib.hid m3.own.row
  have KK := Lib.hid m3.keep
  obtain ⟨A3, c3, rfl, _, _⟩ := row_form m3.own.row
  clear m3 q3
  go_wp2_with fail
  go_region
  go_wp2_with fail
  go_ret2
  exact ⟨_, rfl, row_below ROW.out (Keeps.refl _).drew, KK.out.drew⟩
theorem eql_item (a b c d e f g h : Int) (s : ByteArray) (W : World) : (binOp .neq 42 (.agg #[.int .i64 a, .int .i64 b, .int .i64 c, .int .i64 d, .int .i64 e, .string s, .int .i64 f, .int .i64 g, .int .i64 h]) (.agg #[.int .i64 a, .int .i64 b, .int .i64 c, .int .i64 d, .int .i64 e, .string s, .int .i64 f, .int .i64 g, .int .i64 h])).run Tryd.prog W = .ok (.bool false) W := by
  rw [run_neq_struct, run_equalIn_agg _ _ _ _ _ (by kernel_rfl) Tryd.stoodInHeld42]
  simp [go_sem, Tryd.underlying42, Tryd.underlying9, Tryd.underlying3]
end Go.Proofs.YtfnkokfkhjdkfaaDoor


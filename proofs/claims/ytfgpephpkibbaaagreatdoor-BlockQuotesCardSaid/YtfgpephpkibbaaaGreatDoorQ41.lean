/-
  Texts of the proof, one behind the other: BkN, BkO, Bku, BkG.
-/
import Derived.Test.YtfgpephpkibbaaaGreatDoorQ40
import Derived.Test.YtfgpephpkibbaaaGreatDoorQ39
/-
  Contract of block's beginItem.
-/
namespace Go.Proofs.YtfgpephpkibbaaaGreatDoor
open Go.RowKit Go.Lib

theorem add_line {s : St} (hw : Wf s.list s.tip) (b : Nd) (hk : b.kind ≠ 4 ∨ holdsB (s.nd s.tip).kind b.kind = true) : (addM s b).line = s.line ∧ (addM s b).known = s.known :=
  ⟨(addGo_ok s.tip s b.kind (Nat.le_refl _) hw hk).2.2.2.1, (addGo_ok s.tip s b.kind (Nat.le_refl _) hw hk).2.2.2.2.1⟩
theorem holds_list {q : Nat} (h : q = 3) : holdsB q 4 = true := by subst h; rfl
/-- The list that an item comes to, as it stands there, or added. -/
theorem list_ok {s : St} (hw : Wf s.list s.tip) (x : Bool × Nat × Nat × Nat) {a b : Nat} (hc : Cap s a b) :
    Wf (listM s x).list (listM s x).tip ∧ Cap (listM s x) (a + 1) b ∧ holdsB ((listM s x).nd (listM s x).tip).kind 4 = true ∧ (listM s x).line = s.line ∧ (listM s x).known = s.known := by
  unfold listM
  split
  · next c =>
    refine ⟨hw, hc.more (by omega) (Nat.le_refl _), holds_list ?_, rfl, rfl⟩
    unfold takesB at c
    simp only [Bool.and_eq_true, decide_eq_true_eq] at c
    exact c.1.1
  · refine ⟨add_wf hw _ (.inl (show (3 : Nat) ≠ 4 by decide)) (Nat.zero_le _), hc.add hw _ (.inl (show (3 : Nat) ≠ 4 by decide)), holds_list (add_tip _ _), (add_line hw _ (.inl (show (3 : Nat) ≠ 4 by decide))).1, (add_line hw _ (.inl (show (3 : Nat) ≠ 4 by decide))).2⟩
theorem lst_wid (l : List UInt8) : (lstL l).2.2.2 ≤ l.length := by
  unfold lstL
  split
  · exact sgn_le l
  · exact Nat.zero_le _
theorem Chg.own0 {W W' : World} {O O' : Nat → Option Nat} (c : Chg W O W' O') {b : Nat} (h : O b = none) (hl : b < W.heap.size) : O' b = none := by rw [c.own b hl]; exact h
theorem keep7 {a b : World} {B g bb o : Nat} {v0 v1 v2 v3 v4 v5 v6 : Value} (kk : Keeps a b)
    (h : a.cell? ⟨B, 0, none⟩ = some v0 ∧ a.cell? ⟨g, o, none⟩ = some v1 ∧ a.cell? ⟨B, 8, none⟩ = some v2 ∧ a.cell? ⟨bb, 0, none⟩ = some v3 ∧ a.cell? ⟨bb, 1, none⟩ = some v4 ∧ a.cell? ⟨bb, 2, none⟩ = some v5 ∧ a.cell? ⟨bb, 3, none⟩ = some v6) :
    b.cell? ⟨B, 0, none⟩ = some v0 ∧ b.cell? ⟨g, o, none⟩ = some v1 ∧ b.cell? ⟨B, 8, none⟩ = some v2 ∧ b.cell? ⟨bb, 0, none⟩ = some v3 ∧ b.cell? ⟨bb, 1, none⟩ = some v4 ∧ b.cell? ⟨bb, 2, none⟩ = some v5 ∧ b.cell? ⟨bb, 3, none⟩ = some v6 := by
  obtain ⟨h0, h1, h2, h3, h4, h5, h6⟩ := h
  exact ⟨keep_cell h0 kk, keep_cell h1 kk, keep_cell h2 kk, keep_cell h3 kk, keep_cell h4 kk, keep_cell h5 kk, keep_cell h6 kk⟩
theorem set_two {w : World} {g j B bb : Nat} {x v0 v3 : Value} (h1 : g ≠ B) (h2 : g ≠ bb) (y : w.cell? ⟨B, 0, none⟩ = some v0) (z : w.cell? ⟨bb, 3, none⟩ = some v3) :
    (w.setCell ⟨g, j, none⟩ x).cell? ⟨B, 0, none⟩ = some v0 ∧ (w.setCell ⟨g, j, none⟩ x).cell? ⟨bb, 3, none⟩ = some v3 :=
  ⟨(World.cell?_of_block (a := ⟨B, 0, none⟩) (heap_setCell_other w ⟨g, j, none⟩ B x (fun e => h1 e.symm))).trans y, (World.cell?_of_block (a := ⟨bb, 3, none⟩) (heap_setCell_other w ⟨g, j, none⟩ bb x (fun e => h2 e.symm))).trans z⟩
theorem item_at {W W' : World} {B bb g n cap i : Nat} {O : Nat → Option Nat} {s : St} {l : Ln} {T : TypeId} {c0 c1 c2 c3 : Value} (q : NPost W B O (s.atL l) (.slice (some ⟨g, 0, none⟩) n cap) W') (hb : Blk W bb T #[c0, c1, c2, c3]) (h0 : O bb = none) (hi : i < s.list.length) :
    W'.cell? ⟨B, 0, none⟩ = some (.slice (some ⟨g, 0, none⟩) n cap) ∧ W'.cell? ⟨bb, 3, none⟩ = some c3 ∧ W'.cell? ⟨g, i * 20 + 15, none⟩ = some (.int .i64 ((s.nd i).indent : Nat)) ∧ W'.frozen? ⟨g, i * 20 + 15, none⟩ = false := by
  obtain ⟨O1, rv, tv, xs, sb, k, h, c⟩ := q
  exact ⟨h.box.cell 0 rfl, (c.blk hb h0).cell 3 rfl, h.at (i := i) hi 15 (by decide), h.free _⟩
section
variable {W : World} {B : Nat} {O : Nat → Option Nat} {s : St} {rv : Value} {tv : Nat → Value} {xs : List Value} {sb : ByteArray} {k g n cap : Nat}
set_option maxRecDepth 100000 in
set_option maxHeartbeats 8000000 in
theorem beginItem_any (h : Mem W B O s (.slice (some ⟨g, 0, none⟩) n cap) rv tv xs sb k) (hw : Wf s.list s.tip) {i : Nat} (ho : On s.list s.tip i) (hp : phi s ≤ 90000) (hlen : s.list.length ≤ 90000) :
    Calls Tryz.prog 63 #[.pointer (some ⟨B, 0, none⟩), .int .i64 i] W fun e w' => e = .returned (.bool (bItemM s i).2) ∧ Post W B O (bItemM s i).1 w' := by
  obtain ⟨rfl, hc1, hc2⟩ := h.num
  have hnl := h.lw.nextLen
  have hsz := h.siz
  have hzs : (⟨s.line.next.toArray⟩ : ByteArray).size = s.line.next.length := by simp [ByteArray.size]
  have LI := Lib.hid (mlist_any ⟨s.line.next.toArray⟩ W (by simp only [maxLen]; omega))
  have hi : i < s.list.length := by have := ho.le hw; have := hw.tip; omega
  have hi2 : (i : Int) < (s.list.length : Int) := by omega
  have Y0 := Lib.hid (fun W' (q : Keeps W W') => (h.keep q).box.cell 0 (v := .slice (some ⟨g, 0, none⟩) s.list.length cap) rfl)
  have Y8 := Lib.hid (fun W' (q : Keeps W W') => (h.keep q).box.cell 8 (v := .string ⟨s.line.next.toArray⟩) rfl)
  have Z0 : Hid (∀ W', Keeps W W' → W'.cell? ⟨g, i * 20, none⟩ = some (.int .i64 ((s.nd i).kind : Nat))) := Lib.hid (fun W' q => (h.keep q).at hi 0 (by decide))
  have y8 := Y8.out W (Keeps.refl W)
  have CW := Lib.hid (fun W' (q : Keeps W W') => closeWithin_any (h.keep q) hw ho (by omega))
  have IN := Lib.hid (fun x (t : ByteArray) W => interrupts_any x t W)
  have ID := Lib.hid (fun W' (q : Keeps W W') => Par.post ⟨_, _, _, _, _, _, h⟩ q)
  have hOn : Hid (∀ W', Keeps W W' → O W'.heap.size = none) := Lib.hid (fun W' q => by
    cases e : O W'.heap.size with
    | none => rfl
    | some x => have := (h.keep q).lt W'.heap.size (by rw [e]; simp); omega)
  have hcw := cw_ok hw ho
  have CP := Lib.hid (Cap.cw (s := s) (a := 90000) (b := 90000) ⟨hlen, hp⟩ i)
  have w1f : Wf (cwM s i).list (cwM s i).tip := by rw [hcw.2.1]; exact hcw.1
  have LO := Lib.hid (fun x => list_ok w1f x CP.out)
  have W1F := Lib.hid w1f
  rw [show (⟨s.line.next.toArray⟩ : ByteArray).data.toList = s.line.next by simp] at LI
  have HI : Hid (bItemM s i = if itemB s i then (inItemM (addM (listM (cwM s i) (lstL s.line.next)) (blkN 4)) (lstL s.line.next).2.2.2, true) else (s, false)) := Lib.hid rfl
  have HIB : Hid (itemB s i = (lstB s.line.next && !(decide ((s.nd i).kind = 5) && !mayB (lstL s.line.next) (s.line.next.drop (lstL s.line.next).2.2.2)))) := Lib.hid rfl
  have hwd := lst_wid s.line.next
  obtain ⟨N, hN⟩ : ∃ N : ByteArray, (⟨s.line.next.toArray⟩ : ByteArray) = N := ⟨_, rfl⟩
  have HN : Hid (s.line.next = N.data.toList) := Lib.hid (by rw [← hN])
  have hNs : N.size ≤ 10000 := by rw [← hN, hzs]; omega
  rw [hN] at LI Y8 y8 hzs
  rw [← hzs] at hwd
  obtain ⟨E, hE⟩ : ∃ E, bItemM s i = E := ⟨_, rfl⟩
  rw [hE] at HI ⊢
  generalize hx : lstL s.line.next = x at *
  obtain ⟨od, st, mk, wd⟩ := x
  dsimp only at HI HIB hwd
  have LO2 := Lib.hid (LO.out (od, st, mk, wd))
  have L1 : Hid ((cwM s i).tip < (cwM s i).list.length) := Lib.hid w1f.tip
  have hwd2 : (wd : Int) ≤ (N.size : Int) := by omega
  unfold sgnV at LI
  dsimp only at LI
  generalize cwM s i = s1 at *
  generalize hk : (s.nd i).kind = q at *
  clear h hw ho hp hlen hE hcw w1f hN LO hc1 hc2 hnl hsz hzs hk hx
  by_cases hb : itemB s i = true
  · have HE1 : Hid (E.1 = inItemM (addM (listM s1 (od, st, mk, wd)) (blkN 4)) wd) := Lib.hid (by rw [HI.out, if_pos hb])
    have HE1b : Hid (E.2 = true) := Lib.hid (by rw [HI.out, if_pos hb])
    have P1 : Hid (phi s1 ≤ 90000) := Lib.hid CP.out.txt
    have Q1 : Hid (s1.list.length ≤ 90000) := Lib.hid CP.out.len
    have hok : lstB s.line.next = true := by rw [HIB.out] at hb; revert hb; cases lstB s.line.next <;> simp
    rw [hok] at LI
    rw [HIB.out, hok, Bool.true_and] at hb
    clear HI ID HIB CP
    by_cases q5 : q = 5
    · have hm : mayB (od, st, mk, wd) (s.line.next.drop wd) = true := by revert hb; rw [decide_eq_true q5]; cases mayB (od, st, mk, wd) (s.line.next.drop wd) <;> simp
      subst q5
      clear hb hok
      go_enter Tryz.func63, Tryz.ntmps63
      go_wp2_with fail
      refine LI.out.mono ?_
      rintro e w1 ⟨rfl, k1⟩
      have KA := k1.alloc (.cells #[.bool od, .int .i64 (st : Nat), .int .u8 (mk : Nat), .int .i64 (wd : Nat)] 97)
      have BS := Lib.hid (Blk.new w1 97 #[.bool od, .int .i64 (st : Nat), .int .u8 (mk : Nat), .int .i64 (wd : Nat)])
      have ON := Lib.hid (hOn.out _ k1)
      go_wp2_with fail
      generalize w1.heap.size = bb at *
      generalize w1.alloc (.cells #[.bool od, .int .i64 (st : Nat), .int .u8 (mk : Nat), .int .i64 (wd : Nat)] 97) = w2 at *
      have y0 := Y0.out _ KA
      have y8' := Y8.out _ KA
      have z0 := Z0.out _ KA
      have x0 := BS.out.cell 0 (v := .bool od) rfl
      have x1 := BS.out.cell 1 (v := .int .i64 (st : Nat)) rfl
      have x2 := BS.out.cell 2 (v := .int .u8 (mk : Nat)) rfl
      have x3 := BS.out.cell 3 (v := .int .i64 (wd : Nat)) rfl
      have IX := Lib.hid (fun W => IN.out (od, st, mk, wd) (N.extract wd N.size) W)
      rw [Lib.extract_to_end, ← HN.out, hm] at IX
      unfold sgnV at IX
      dsimp only at IX
      clear hm IN
      go_region_held3 (fun w' => w'.cell? ⟨B, 0, none⟩ = some (.slice (some ⟨g, 0, none⟩) s.list.length cap) ∧ w'.cell? ⟨g, i * 20, none⟩ = some (.int .i64 5) ∧ w'.cell? ⟨B, 8, none⟩ = some (.string N) ∧ w'.cell? ⟨bb, 0, none⟩ = some (.bool od) ∧ w'.cell? ⟨bb, 1, none⟩ = some (.int .i64 (st : Nat)) ∧ w'.cell? ⟨bb, 2, none⟩ = some (.int .u8 (mk : Nat)) ∧ w'.cell? ⟨bb, 3, none⟩ = some (.int .i64 (wd : Nat)))
        (first | assumption | (exact ⟨y0, z0, y8', x0, x1, x2, x3⟩) | (refine keep7 kk ?_; assumption) | (exact keep7 kk ⟨y0, z0, y8', x0, x1, x2, x3⟩))
        (first
          | (go_at_call 87; (with_reducible refine (IX.out _).mono ?_); rintro e w3 ⟨rfl, kk⟩))
      all_goals
        have KV := Lib.hid (KA.drew.trans kk)
        have BV := Lib.hid (BS.out.drew.keep kk)
        clear kk IX y0 y8' z0 x0 x1 x2 x3 KA BS y8 Y0 Y8 Z0
        go_wp2_with fail
        refine (CW.out _ KV.out).mono ?_
        rintro e w4 ⟨rfl, O4, rv4, tv4, xs4, sb4, k4, h4, c4⟩
        have C4 := Lib.hid ((Chg.keeps O KV.out).trans c4)
        have B4 := Lib.hid (c4.blk BV.out ON.out)
        have ON4 := Lib.hid (c4.own0 ON.out BV.out.lt)
        have TT := Lib.hid (fun W' (q : Keeps w4 W') => tipTakes_any (h4.keep q) L1.out (od, st, mk, wd))
        have H4 := Lib.hid h4
        clear h4 c4 CW KV BV
        unfold sgnV at TT
        dsimp only at TT
        have x0 := B4.out.cell 0 (v := .bool od) rfl
        have x1 := B4.out.cell 1 (v := .int .i64 (st : Nat)) rfl
        have x2 := B4.out.cell 2 (v := .int .u8 (mk : Nat)) rfl
        have x3 := B4.out.cell 3 (v := .int .i64 (wd : Nat)) rfl
        have HL : Hid (listM s1 (od, st, mk, wd) = if takesB s1 (od, st, mk, wd) then s1 else addM s1 { blkN 3 with ord := od, start := st, mark := mk }) := Lib.hid rfl
        go_wp2_with fail
        refine (TT.out _ (Keeps.refl _)).mono ?_
        rintro e w5 ⟨rfl, k5⟩
        have H5 := Lib.hid (H4.out.keep k5)
        have C5 := Lib.hid (C4.out.trans (Chg.keeps O4 k5))
        have B5 := Lib.hid (B4.out.keep k5)
        clear x0 x1 x2 x3 TT k5 H4 C4 B4
        cases tk : takesB s1 (od, st, mk, wd)
        · rw [tk, if_neg (by simp)] at HL
          have AD := Lib.hid (add_any H5.out W1F.out { blkN 3 with ord := od, start := st, mark := mk } rfl (.inl (show (3 : Nat) ≠ 4 by decide)) (by have := P1.out; omega) (by have := Q1.out; omega))
          rw [← HL.out] at AD
          have x0 := B5.out.cell 0 (v := .bool od) rfl
          have x1 := B5.out.cell 1 (v := .int .i64 (st : Nat)) rfl
          have x2 := B5.out.cell 2 (v := .int .u8 (mk : Nat)) rfl
          unfold blkC at AD
          dsimp only [blkN] at AD
          clear tk HL H5
          go_wp2_with fail
          refine AD.out.mono ?_
          rintro e w6 ⟨rfl, O6, p6, c6⟩
          have C6 := Lib.hid (C5.out.trans c6)
          have B6 := Lib.hid (c6.blk B5.out ON4.out)
          have ON6 := Lib.hid (c6.own0 ON4.out B5.out.lt)
          obtain ⟨g6, cap6, rv6, tv6, xs6, sb6, k6, m6⟩ := p6.form (Nat.lt_of_le_of_lt (Nat.zero_le _) LO2.out.1.tip)
          have M6 := Lib.hid m6
          clear p6 c6 m6 AD x0 x1 x2 C5 B5
          have AI := Lib.hid (add_any M6.out LO2.out.1 (blkN 4) rfl (.inr LO2.out.2.2.1) (by have := LO2.out.2.1.txt; omega) (by have := LO2.out.2.1.len; omega))
          have AT := Lib.hid (add_tip_lt (listM s1 (od, st, mk, wd)) (blkN 4))
          generalize addM (listM s1 (od, st, mk, wd)) (blkN 4) = s3 at *
          unfold blkC at AI
          dsimp only [blkN] at AI
          clear M6 LO2
          go_wp2_with fail
          refine AI.out.mono ?_
          rintro e w7 ⟨rfl, O7, p7, c7⟩
          have C7 := Lib.hid (C6.out.trans c7)
          have B7 := Lib.hid (c7.blk B6.out ON6.out)
          have ON7 := Lib.hid (c7.own0 ON6.out B6.out.lt)
          obtain ⟨g7, cap7, rv7, tv7, xs7, sb7, k7, m7⟩ := p7.form (Nat.lt_of_le_of_lt (Nat.zero_le _) AT.out)
          have M7 := Lib.hid m7
          clear p7 c7 m7 AI C6 B6
          have hll := M7.out.num.2.2
          have PM := Lib.hid (lpastMark_any (M7.out.keep ((Keeps.refl w7).drew)) wd (by omega))
          have y0 := M7.out.box.cell 0 (v := .slice (some ⟨g7, 0, none⟩) s3.list.length cap7) rfl
          have b3 := B7.out.cell 3 (v := .int .i64 (wd : Nat)) rfl
          have B7d := Lib.hid (B7.out.drew)
          have hBg : g7 ≠ B := fun e => by have a := M7.out.oB; rw [← e, M7.out.oL g7 rfl] at a; cases a
          have hBb : g7 ≠ bb := fun e => by have a := ON7.out; rw [← e, M7.out.oL g7 rfl] at a; cases a
          have tl2 : (s3.tip : Int) < (s3.list.length : Int) := by have := AT.out; omega
          have C7d := Lib.hid (C7.out.trans (Chg.keeps O7 ((Keeps.refl w7).drew)))
          clear M7 C7 B7
          go_wp2_with fail
          go_region_held3 (fun w' => w'.cell? ⟨B, 0, none⟩ = some (.slice (some ⟨g7, 0, none⟩) s3.list.length cap7) ∧ w'.cell? ⟨bb, 3, none⟩ = some (.int .i64 (wd : Nat)))
            (first | assumption | (exact ⟨y0, b3⟩) | (exact ⟨ya, ba⟩) | (exact set_two hBg hBb ya ba))
            (first
              | (go_at_call 89; (with_reducible refine PM.out.mono ?_); rintro e w8 ⟨rfl, q8⟩; obtain ⟨ya, ba, za, fa⟩ := item_at q8 B7d.out ON7.out AT.out))
          all_goals
            obtain ⟨O8, rv8, tv8, xs8, sb8, k8, h8, c8⟩ := q8
            obtain ⟨O9, m9, q9⟩ := h8.store (i := s3.tip) AT.out { s3.nd s3.tip with indent := (pastMarkM s3.line wd).2 } 15 (by decide) _ (nd_indent _ _ _) rfl
            have R := Lib.hid (show Post W B O E.1 _ from ⟨O9, ⟨_, _, _, _, _, _, by rw [HE1.out]; exact m9⟩, C7d.out.trans (c8.trans q9)⟩)
            have HE2 := Lib.hid (congrArg (fun e => Ending.returned (Value.bool e)) HE1b.out)
            clear h8 c8 m9 q9
            go_wp2_with fail
            go_ret
            exact ⟨HE2.out.symm, R.out⟩
        · rw [tk, if_pos rfl] at HL
          have M6 := H5
          rw [← HL.out] at M6
          have C6 := C5
          have B6 := B5
          have ON6 := ON4
          clear tk HL H5 C5 B5
          have AI := Lib.hid (add_any M6.out LO2.out.1 (blkN 4) rfl (.inr LO2.out.2.2.1) (by have := LO2.out.2.1.txt; omega) (by have := LO2.out.2.1.len; omega))
          have AT := Lib.hid (add_tip_lt (listM s1 (od, st, mk, wd)) (blkN 4))
          generalize addM (listM s1 (od, st, mk, wd)) (blkN 4) = s3 at *
          unfold blkC at AI
          dsimp only [blkN] at AI
          clear M6 LO2
          go_wp2_with fail
          refine AI.out.mono ?_
          rintro e w7 ⟨rfl, O7, p7, c7⟩
          have C7 := Lib.hid (C6.out.trans c7)
          have B7 := Lib.hid (c7.blk B6.out ON6.out)
          have ON7 := Lib.hid (c7.own0 ON6.out B6.out.lt)
          obtain ⟨g7, cap7, rv7, tv7, xs7, sb7, k7, m7⟩ := p7.form (Nat.lt_of_le_of_lt (Nat.zero_le _) AT.out)
          have M7 := Lib.hid m7
          clear p7 c7 m7 AI C6 B6
          have hll := M7.out.num.2.2
          have PM := Lib.hid (lpastMark_any (M7.out.keep ((Keeps.refl w7).drew)) wd (by omega))
          have y0 := M7.out.box.cell 0 (v := .slice (some ⟨g7, 0, none⟩) s3.list.length cap7) rfl
          have b3 := B7.out.cell 3 (v := .int .i64 (wd : Nat)) rfl
          have B7d := Lib.hid (B7.out.drew)
          have hBg : g7 ≠ B := fun e => by have a := M7.out.oB; rw [← e, M7.out.oL g7 rfl] at a; cases a
          have hBb : g7 ≠ bb := fun e => by have a := ON7.out; rw [← e, M7.out.oL g7 rfl] at a; cases a
          have tl2 : (s3.tip : Int) < (s3.list.length : Int) := by have := AT.out; omega
          have C7d := Lib.hid (C7.out.trans (Chg.keeps O7 ((Keeps.refl w7).drew)))
          clear M7 C7 B7
          go_wp2_with fail
          go_region_held3 (fun w' => w'.cell? ⟨B, 0, none⟩ = some (.slice (some ⟨g7, 0, none⟩) s3.list.length cap7) ∧ w'.cell? ⟨bb, 3, none⟩ = some (.int .i64 (wd : Nat)))
            (first | assumption | (exact ⟨y0, b3⟩) | (exact ⟨ya, ba⟩) | (exact set_two hBg hBb ya ba))
            (first
              | (go_at_call 89; (with_reducible refine PM.out.mono ?_); rintro e w8 ⟨rfl, q8⟩; obtain ⟨ya, ba, za, fa⟩ := item_at q8 B7d.out ON7.out AT.out))
          all_goals
            obtain ⟨O8, rv8, tv8, xs8, sb8, k8, h8, c8⟩ := q8
            obtain ⟨O9, m9, q9⟩ := h8.store (i := s3.tip) AT.out { s3.nd s3.tip with indent := (pastMarkM s3.line wd).2 } 15 (by decide) _ (nd_indent _ _ _) rfl
            have R := Lib.hid (show Post W B O E.1 _ from ⟨O9, ⟨_, _, _, _, _, _, by rw [HE1.out]; exact m9⟩, C7d.out.trans (c8.trans q9)⟩)
            have HE2 := Lib.hid (congrArg (fun e => Ending.returned (Value.bool e)) HE1b.out)
            clear h8 c8 m9 q9
            go_wp2_with fail
            go_ret
            exact ⟨HE2.out.symm, R.out⟩
    · have t5 : ((q : Int) == 5) = false := beq_eq_false_iff_ne.2 (by omega)
      clear hb hok q5
      go_enter Tryz.func63, Tryz.ntmps63
      go_wp2_with fail
      refine LI.out.mono ?_
      rintro e w1 ⟨rfl, k1⟩
      have KA := k1.alloc (.cells #[.bool od, .int .i64 (st : Nat), .int .u8 (mk : Nat), .int .i64 (wd : Nat)] 97)
      have BS := Lib.hid (Blk.new w1 97 #[.bool od, .int .i64 (st : Nat), .int .u8 (mk : Nat), .int .i64 (wd : Nat)])
      have ON := Lib.hid (hOn.out _ k1)
      go_wp2_with fail
      generalize w1.heap.size = bb at *
      generalize w1.alloc (.cells #[.bool od, .int .i64 (st : Nat), .int .u8 (mk : Nat), .int .i64 (wd : Nat)] 97) = w2 at *
      have y0 := Y0.out _ KA
      have y8' := Y8.out _ KA
      have z0 := Z0.out _ KA
      go_quiet (fail)
      have KV := Lib.hid (KA.drewN nq)
      have BV := Lib.hid (BS.out.keep ((Keeps.refl w2).drewN nq))
      clear IN y0 y8' z0 KA BS y8 Y0 Y8 Z0
      go_wp2_with fail
      refine (CW.out _ KV.out).mono ?_
      rintro e w4 ⟨rfl, O4, rv4, tv4, xs4, sb4, k4, h4, c4⟩
      have C4 := Lib.hid ((Chg.keeps O KV.out).trans c4)
      have B4 := Lib.hid (c4.blk BV.out ON.out)
      have ON4 := Lib.hid (c4.own0 ON.out BV.out.lt)
      have TT := Lib.hid (fun W' (q : Keeps w4 W') => tipTakes_any (h4.keep q) L1.out (od, st, mk, wd))
      have H4 := Lib.hid h4
      clear h4 c4 CW KV BV
      unfold sgnV at TT
      dsimp only at TT
      have x0 := B4.out.cell 0 (v := .bool od) rfl
      have x1 := B4.out.cell 1 (v := .int .i64 (st : Nat)) rfl
      have x2 := B4.out.cell 2 (v := .int .u8 (mk : Nat)) rfl
      have x3 := B4.out.cell 3 (v := .int .i64 (wd : Nat)) rfl
      have HL : Hid (listM s1 (od, st, mk, wd) = if takesB s1 (od, st, mk, wd) then s1 else addM s1 { blkN 3 with ord := od, start := st, mark := mk }) := Lib.hid rfl
      go_wp2_with fail
      refine (TT.out _ (Keeps.refl _)).mono ?_
      rintro e w5 ⟨rfl, k5⟩
      have H5 := Lib.hid (H4.out.keep k5)
      have C5 := Lib.hid (C4.out.trans (Chg.keeps O4 k5))
      have B5 := Lib.hid (B4.out.keep k5)
      clear x0 x1 x2 x3 TT k5 H4 C4 B4
      cases tk : takesB s1 (od, st, mk, wd)
      · rw [tk, if_neg (by simp)] at HL
        have AD := Lib.hid (add_any H5.out W1F.out { blkN 3 with ord := od, start := st, mark := mk } rfl (.inl (show (3 : Nat) ≠ 4 by decide)) (by have := P1.out; omega) (by have := Q1.out; omega))
        rw [← HL.out] at AD
        have x0 := B5.out.cell 0 (v := .bool od) rfl
        have x1 := B5.out.cell 1 (v := .int .i64 (st : Nat)) rfl
        have x2 := B5.out.cell 2 (v := .int .u8 (mk : Nat)) rfl
        unfold blkC at AD
        dsimp only [blkN] at AD
        clear tk HL H5
        go_wp2_with fail
        refine AD.out.mono ?_
        rintro e w6 ⟨rfl, O6, p6, c6⟩
        have C6 := Lib.hid (C5.out.trans c6)
        have B6 := Lib.hid (c6.blk B5.out ON4.out)
        have ON6 := Lib.hid (c6.own0 ON4.out B5.out.lt)
        obtain ⟨g6, cap6, rv6, tv6, xs6, sb6, k6, m6⟩ := p6.form (Nat.lt_of_le_of_lt (Nat.zero_le _) LO2.out.1.tip)
        have M6 := Lib.hid m6
        clear p6 c6 m6 AD x0 x1 x2 C5 B5
        have AI := Lib.hid (add_any M6.out LO2.out.1 (blkN 4) rfl (.inr LO2.out.2.2.1) (by have := LO2.out.2.1.txt; omega) (by have := LO2.out.2.1.len; omega))
        have AT := Lib.hid (add_tip_lt (listM s1 (od, st, mk, wd)) (blkN 4))
        generalize addM (listM s1 (od, st, mk, wd)) (blkN 4) = s3 at *
        unfold blkC at AI
        dsimp only [blkN] at AI
        clear M6 LO2
        go_wp2_with fail
        refine AI.out.mono ?_
        rintro e w7 ⟨rfl, O7, p7, c7⟩
        have C7 := Lib.hid (C6.out.trans c7)
        have B7 := Lib.hid (c7.blk B6.out ON6.out)
        have ON7 := Lib.hid (c7.own0 ON6.out B6.out.lt)
        obtain ⟨g7, cap7, rv7, tv7, xs7, sb7, k7, m7⟩ := p7.form (Nat.lt_of_le_of_lt (Nat.zero_le _) AT.out)
        have M7 := Lib.hid m7
        clear p7 c7 m7 AI C6 B6
        have hll := M7.out.num.2.2
        have PM := Lib.hid (lpastMark_any (M7.out.keep ((Keeps.refl w7).drew)) wd (by omega))
        have y0 := M7.out.box.cell 0 (v := .slice (some ⟨g7, 0, none⟩) s3.list.length cap7) rfl
        have b3 := B7.out.cell 3 (v := .int .i64 (wd : Nat)) rfl
        have B7d := Lib.hid (B7.out.drew)
        have hBg : g7 ≠ B := fun e => by have a := M7.out.oB; rw [← e, M7.out.oL g7 rfl] at a; cases a
        have hBb : g7 ≠ bb := fun e => by have a := ON7.out; rw [← e, M7.out.oL g7 rfl] at a; cases a
        have tl2 : (s3.tip : Int) < (s3.list.length : Int) := by have := AT.out; omega
        have C7d := Lib.hid (C7.out.trans (Chg.keeps O7 ((Keeps.refl w7).drew)))
        clear M7 C7 B7
        go_wp2_with fail
        go_region_held3 (fun w' => w'.cell? ⟨B, 0, none⟩ = some (.slice (some ⟨g7, 0, none⟩) s3.list.length cap7) ∧ w'.cell? ⟨bb, 3, none⟩ = some (.int .i64 (wd : Nat)))
          (first | assumption | (exact ⟨y0, b3⟩) | (exact ⟨ya, ba⟩) | (exact set_two hBg hBb ya ba))
          (first
            | (go_at_call 89; (with_reducible refine PM.out.mono ?_); rintro e w8 ⟨rfl, q8⟩; obtain ⟨ya, ba, za, fa⟩ := item_at q8 B7d.out ON7.out AT.out))
        all_goals
          obtain ⟨O8, rv8, tv8, xs8, sb8, k8, h8, c8⟩ := q8
          obtain ⟨O9, m9, q9⟩ := h8.store (i := s3.tip) AT.out { s3.nd s3.tip with indent := (pastMarkM s3.line wd).2 } 15 (by decide) _ (nd_indent _ _ _) rfl
          have R := Lib.hid (show Post W B O E.1 _ from ⟨O9, ⟨_, _, _, _, _, _, by rw [HE1.out]; exact m9⟩, C7d.out.trans (c8.trans q9)⟩)
          have HE2 := Lib.hid (congrArg (fun e => Ending.returned (Value.bool e)) HE1b.out)
          clear h8 c8 m9 q9
          go_wp2_with fail
          go_ret
          exact ⟨HE2.out.symm, R.out⟩
      · rw [tk, if_pos rfl] at HL
        have M6 := H5
        rw [← HL.out] at M6
        have C6 := C5
        have B6 := B5
        have ON6 := ON4
        clear tk HL H5 C5 B5
        have AI := Lib.hid (add_any M6.out LO2.out.1 (blkN 4) rfl (.inr LO2.out.2.2.1) (by have := LO2.out.2.1.txt; omega) (by have := LO2.out.2.1.len; omega))
        have AT := Lib.hid (add_tip_lt (listM s1 (od, st, mk, wd)) (blkN 4))
        generalize addM (listM s1 (od, st, mk, wd)) (blkN 4) = s3 at *
        unfold blkC at AI
        dsimp only [blkN] at AI
        clear M6 LO2
        go_wp2_with fail
        refine AI.out.mono ?_
        rintro e w7 ⟨rfl, O7, p7, c7⟩
        have C7 := Lib.hid (C6.out.trans c7)
        have B7 := Lib.hid (c7.blk B6.out ON6.out)
        have ON7 := Lib.hid (c7.own0 ON6.out B6.out.lt)
        obtain ⟨g7, cap7, rv7, tv7, xs7, sb7, k7, m7⟩ := p7.form (Nat.lt_of_le_of_lt (Nat.zero_le _) AT.out)
        have M7 := Lib.hid m7
        clear p7 c7 m7 AI C6 B6
        have hll := M7.out.num.2.2
        have PM := Lib.hid (lpastMark_any (M7.out.keep ((Keeps.refl w7).drew)) wd (by omega))
        have y0 := M7.out.box.cell 0 (v := .slice (some ⟨g7, 0, none⟩) s3.list.length cap7) rfl
        have b3 := B7.out.cell 3 (v := .int .i64 (wd : Nat)) rfl
        have B7d := Lib.hid (B7.out.drew)
        have hBg : g7 ≠ B := fun e => by have a := M7.out.oB; rw [← e, M7.out.oL g7 rfl] at a; cases a
        have hBb : g7 ≠ bb := fun e => by have a := ON7.out; rw [← e, M7.out.oL g7 rfl] at a; cases a
        have tl2 : (s3.tip : Int) < (s3.list.length : Int) := by have := AT.out; omega
        have C7d := Lib.hid (C7.out.trans (Chg.keeps O7 ((Keeps.refl w7).drew)))
        clear M7 C7 B7
        go_wp2_with fail
        go_region_held3 (fun w' => w'.cell? ⟨B, 0, none⟩ = some (.slice (some ⟨g7, 0, none⟩) s3.list.length cap7) ∧ w'.cell? ⟨bb, 3, none⟩ = some (.int .i64 (wd : Nat)))
          (first | assumption | (exact ⟨y0, b3⟩) | (exact ⟨ya, ba⟩) | (exact set_two hBg hBb ya ba))
          (first
            | (go_at_call 89; (with_reducible refine PM.out.mono ?_); rintro e w8 ⟨rfl, q8⟩; obtain ⟨ya, ba, za, fa⟩ := item_at q8 B7d.out ON7.out AT.out))
        all_goals
          obtain ⟨O8, rv8, tv8, xs8, sb8, k8, h8, c8⟩ := q8
          obtain ⟨O9, m9, q9⟩ := h8.store (i := s3.tip) AT.out { s3.nd s3.tip with indent := (pastMarkM s3.line wd).2 } 15 (by decide) _ (nd_indent _ _ _) rfl
          have R := Lib.hid (show Post W B O E.1 _ from ⟨O9, ⟨_, _, _, _, _, _, by rw [HE1.out]; exact m9⟩, C7d.out.trans (c8.trans q9)⟩)
          have HE2 := Lib.hid (congrArg (fun e => Ending.returned (Value.bool e)) HE1b.out)
          clear h8 c8 m9 q9
          go_wp2_with fail
          go_ret
          exact ⟨HE2.out.symm, R.out⟩
  · have HE1 : Hid (E.1 = s) := Lib.hid (by rw [HI.out, if_neg hb])
    have HE1b : Hid (E.2 = false) := Lib.hid (by rw [HI.out, if_neg hb])
    rw [HIB.out] at hb
    clear HI HIB CP LO2
    cases hok : lstB s.line.next with
    | false =>
      rw [hok] at LI
      clear hb hok
      go_enter Tryz.func63, Tryz.ntmps63
      go_wp2_with fail
      refine LI.out.mono ?_
      rintro e w1 ⟨rfl, k1⟩
      have KA := k1.alloc (.cells #[.bool od, .int .i64 (st : Nat), .int .u8 (mk : Nat), .int .i64 (wd : Nat)] 97)
      have BS := Lib.hid (Blk.new w1 97 #[.bool od, .int .i64 (st : Nat), .int .u8 (mk : Nat), .int .i64 (wd : Nat)])
      have ON := Lib.hid (hOn.out _ k1)
      go_wp2_with fail
      generalize w1.heap.size = bb at *
      generalize w1.alloc (.cells #[.bool od, .int .i64 (st : Nat), .int .u8 (mk : Nat), .int .i64 (wd : Nat)] 97) = w2 at *
      go_quiet (fail)
      have EE := Lib.hid (show Ending.returned (Value.bool false) = .returned (.bool E.2) ∧ Post W B O E.1 _ from ⟨by rw [HE1b.out], by rw [HE1.out]; exact ID.out _ (KA.drewN nq)⟩)
      go_wp2_with fail
      go_ret
      exact EE.out
    | true =>
      rw [hok] at LI
      rw [hok, Bool.true_and] at hb
      have q5 : q = 5 := by refine Decidable.byContradiction fun e => hb ?_; rw [decide_eq_false e]; rfl
      have hm : mayB (od, st, mk, wd) (s.line.next.drop wd) = false := by
        cases hm : mayB (od, st, mk, wd) (s.line.next.drop wd) with
        | false => rfl
        | true => refine absurd ?_ hb; rw [hm]; simp
      subst q5
      clear hb hok
      go_enter Tryz.func63, Tryz.ntmps63
      go_wp2_with fail
      refine LI.out.mono ?_
      rintro e w1 ⟨rfl, k1⟩
      have KA := k1.alloc (.cells #[.bool od, .int .i64 (st : Nat), .int .u8 (mk : Nat), .int .i64 (wd : Nat)] 97)
      have BS := Lib.hid (Blk.new w1 97 #[.bool od, .int .i64 (st : Nat), .int .u8 (mk : Nat), .int .i64 (wd : Nat)])
      have ON := Lib.hid (hOn.out _ k1)
      go_wp2_with fail
      generalize w1.heap.size = bb at *
      generalize w1.alloc (.cells #[.bool od, .int .i64 (st : Nat), .int .u8 (mk : Nat), .int .i64 (wd : Nat)] 97) = w2 at *
      have y0 := Y0.out _ KA
      have y8' := Y8.out _ KA
      have z0 := Z0.out _ KA
      have x0 := BS.out.cell 0 (v := .bool od) rfl
      have x1 := BS.out.cell 1 (v := .int .i64 (st : Nat)) rfl
      have x2 := BS.out.cell 2 (v := .int .u8 (mk : Nat)) rfl
      have x3 := BS.out.cell 3 (v := .int .i64 (wd : Nat)) rfl
      have IX := Lib.hid (fun W => IN.out (od, st, mk, wd) (N.extract wd N.size) W)
      rw [Lib.extract_to_end, ← HN.out, hm] at IX
      unfold sgnV at IX
      dsimp only at IX
      clear hm IN
      go_region_held3 (fun w' => w'.cell? ⟨B, 0, none⟩ = some (.slice (some ⟨g, 0, none⟩) s.list.length cap) ∧ w'.cell? ⟨g, i * 20, none⟩ = some (.int .i64 5) ∧ w'.cell? ⟨B, 8, none⟩ = some (.string N) ∧ w'.cell? ⟨bb, 0, none⟩ = some (.bool od) ∧ w'.cell? ⟨bb, 1, none⟩ = some (.int .i64 (st : Nat)) ∧ w'.cell? ⟨bb, 2, none⟩ = some (.int .u8 (mk : Nat)) ∧ w'.cell? ⟨bb, 3, none⟩ = some (.int .i64 (wd : Nat)))
        (first | assumption | (exact ⟨y0, z0, y8', x0, x1, x2, x3⟩) | (refine keep7 kk ?_; assumption) | (exact keep7 kk ⟨y0, z0, y8', x0, x1, x2, x3⟩))
        (first
          | (go_at_call 87; (with_reducible refine (IX.out _).mono ?_); rintro e w3 ⟨rfl, kk⟩))
      all_goals
        have EE := Lib.hid (show Ending.returned (Value.bool false) = .returned (.bool E.2) ∧ Post W B O E.1 _ from ⟨by rw [HE1b.out], by rw [HE1.out]; exact ID.out _ (KA.drew.trans kk)⟩)
        clear kk IX y0 y8' z0 x0 x1 x2 x3 KA BS y8 Y0 Y8 Z0
        go_wp2_with fail
        go_ret
        exact EE.out
end
end Go.Proofs.YtfgpephpkibbaaaGreatDoor

/-
  Contract of block's begin.
-/
namespace Go.Proofs.YtfgpephpkibbaaaGreatDoor
open Go.RowKit Go.Lib

/-- What every step of the parser's asks of its state. -/
structure Ok (s : St) (i : Nat) : Prop where
  wf : Wf s.list s.tip
  on : On s.list s.tip i
  phi : phi s ≤ 80000
  len : s.list.length ≤ 80000
theorem Ok.lt {s : St} {i : Nat} (h : Ok s i) : i < s.list.length := by have := h.on.le h.wf; have := h.wf.tip; omega
theorem Ok.pos {s : St} {i : Nat} (h : Ok s i) : 0 < s.list.length := by have := h.lt; omega
/-- A paragraph's definitions are told: the blocks stand as they did. -/
theorem Ok.define {s : St} {i : Nat} (h : Ok s i) : Ok (defineM s i) i := by
  have hl := h.lt
  have hc : Cap (defineM s i) 80000 80000 := Cap.define ⟨h.len, h.phi⟩ i
  refine ⟨h.wf.text i _ _, On.same (l := s.list) (l' := (defineM s i).list) (fun j => show (gN (s.list.set i { s.nd i with text := trimL (dfrL (s.nd i).text) }) j).up = (gN s.list j).up from set_up rfl) h.on, hc.txt, hc.len⟩
theorem Ok.under {s : St} {i : Nat} (h : Ok s i) (e : (bUnderM s i).2 = false) : Ok (bUnderM s i).1 i ∧ (bUnderM s i).1.line = s.line ∧ (bUnderM s i).1.known = s.known ∧ (bUnderM s i).1.tip = s.tip ∧ (bUnderM s i).1.list.length = s.list.length := by
  unfold bUnderM at *
  split
  · exact ⟨h, rfl, rfl, rfl, rfl⟩
  · next c =>
    rw [if_neg c] at e
    split
    · exact ⟨h.define, rfl, rfl, rfl, define_len s i⟩
    · next c2 => rw [if_neg c2] at e; cases e
section
variable {W : World} {B : Nat} {O : Nat → Option Nat} {s : St} {i : Nat}
theorem beginCode_par (p : Par W B O s) (k : Ok s i) : Calls Tryz.prog 56 #[.pointer (some ⟨B, 0, none⟩), .int .i64 i] W fun e w' => e = .returned (.int .i64 ((bCodeM s i).2 : Nat)) ∧ Post W B O (bCodeM s i).1 w' := by
  obtain ⟨_, _, _, _, _, _, _, m⟩ := p.form k.pos
  exact beginCode_any m k.wf k.on (by have := k.phi; omega) (by have := k.len; omega)
theorem beginQuote_par (p : Par W B O s) (k : Ok s i) : Calls Tryz.prog 57 #[.pointer (some ⟨B, 0, none⟩), .int .i64 i] W fun e w' => e = .returned (.bool (pastQuoteM s.line).2) ∧ Post W B O (if (pastQuoteM s.line).2 = true then addInM (s.atL (pastQuoteM s.line).1) i (blkN 2) else s) w' := by
  obtain ⟨_, _, _, _, _, _, _, m⟩ := p.form k.pos
  exact beginQuote_any m k.wf k.on (by have := k.phi; omega) (by have := k.len; omega)
theorem beginHeading_par (p : Par W B O s) (k : Ok s i) : Calls Tryz.prog 58 #[.pointer (some ⟨B, 0, none⟩), .int .i64 i] W fun e w' => e = .returned (.bool (!decide (headN s.line.next = 0))) ∧ Post W B O (if headN s.line.next ≠ 0 then bHeadM s i else s) w' := by
  obtain ⟨_, _, _, _, _, _, _, m⟩ := p.form k.pos
  exact beginHeading_any m k.wf k.on (by have := k.phi; omega) (by have := k.len; omega)
theorem beginFence_par (p : Par W B O s) (k : Ok s i) : Calls Tryz.prog 59 #[.pointer (some ⟨B, 0, none⟩), .int .i64 i] W fun e w' => e = .returned (.bool (!decide (fenN s.line.next = 0))) ∧ Post W B O (if fenN s.line.next ≠ 0 then bFenceM s i else s) w' := by
  obtain ⟨_, _, _, _, _, _, _, m⟩ := p.form k.pos
  exact beginFence_any m k.wf k.on (by have := k.phi; omega) (by have := k.len; omega)
theorem beginHtml_par (p : Par W B O s) (k : Ok s i) : Calls Tryz.prog 60 #[.pointer (some ⟨B, 0, none⟩), .int .i64 i] W fun e w' => e = .returned (.bool (!decide (htmKM s = 0))) ∧ Post W B O (if htmKM s ≠ 0 then bHtmlM s i else s) w' := by
  obtain ⟨_, _, _, _, _, _, _, m⟩ := p.form k.pos
  exact beginHtml_any m k.wf k.on (by have := k.phi; omega) (by have := k.len; omega)
theorem beginRule_par (p : Par W B O s) (k : Ok s i) : Calls Tryz.prog 62 #[.pointer (some ⟨B, 0, none⟩), .int .i64 i] W fun e w' => e = .returned (.bool (ruleL s.line.next)) ∧ Post W B O (if ruleL s.line.next = true then addInM s i (blkN 9) else s) w' := by
  obtain ⟨_, _, _, _, _, _, _, m⟩ := p.form k.pos
  exact beginRule_any m k.wf k.on (by have := k.phi; omega) (by have := k.len; omega)
theorem beginItem_par (p : Par W B O s) (k : Ok s i) : Calls Tryz.prog 63 #[.pointer (some ⟨B, 0, none⟩), .int .i64 i] W fun e w' => e = .returned (.bool (bItemM s i).2) ∧ Post W B O (bItemM s i).1 w' := by
  obtain ⟨_, _, _, _, _, _, _, m⟩ := p.form k.pos
  exact beginItem_any m k.wf k.on (by have := k.phi; omega) (by have := k.len; omega)
theorem beginUnder_par (p : Par W B O s) (k : Ok s i) : Calls Tryz.prog 61 #[.pointer (some ⟨B, 0, none⟩), .int .i64 i] W fun e w' => e = .returned (.bool (bUnderM s i).2) ∧ Post W B O (bUnderM s i).1 w' := by
  obtain ⟨_, _, _, _, _, _, _, m⟩ := p.form k.pos
  exact (beginUnder_any m k.lt (by have := k.phi; omega)).mono fun _ _ ⟨h, q⟩ => ⟨h, q.post⟩
set_option maxRecDepth 100000 in
set_option maxHeartbeats 8000000 in
theorem begin_par (p : Par W B O s) (k : Ok s i) :
    Calls Tryz.prog 39 #[.pointer (some ⟨B, 0, none⟩), .int .i64 i] W fun e w' => e = .returned (.int .i64 ((beginM s i).2 : Nat)) ∧ Post W B O (beginM s i).1 w' := by
  obtain ⟨_, _, _, _, _, _, _, m⟩ := p.form k.pos
  have BL := Lib.hid (lblank_any m)
  have y7 := m.box.cell 7 (v := .int .i64 s.line.ind) rfl
  have ID := Lib.hid (show Post W B O s W from p.post (Keeps.refl W))
  have CC := Lib.hid (beginCode_par p k)
  have CQ := Lib.hid (beginQuote_par p k)
  have CH := Lib.hid (fun W' O' (p' : Par W' B O' s) => beginHeading_par p' k)
  have CF := Lib.hid (fun W' O' (p' : Par W' B O' s) => beginFence_par p' k)
  have CT := Lib.hid (fun W' O' (p' : Par W' B O' s) => beginHtml_par p' k)
  have CU := Lib.hid (fun W' O' (p' : Par W' B O' s) => beginUnder_par p' k)
  have CR : Hid ((bUnderM s i).2 = false → ∀ W' O' (p' : Par W' B O' (bUnderM s i).1), Calls Tryz.prog 62 #[.pointer (some ⟨B, 0, none⟩), .int .i64 i] W' fun e w' => e = .returned (.bool (ruleL (bUnderM s i).1.line.next)) ∧ Post W' B O' (if ruleL (bUnderM s i).1.line.next = true then addInM (bUnderM s i).1 i (blkN 9) else (bUnderM s i).1) w') := Lib.hid (fun e W' O' p' => beginRule_par p' (k.under e).1)
  have CI : Hid ((bUnderM s i).2 = false → ∀ W' O' (p' : Par W' B O' (bUnderM s i).1), Calls Tryz.prog 63 #[.pointer (some ⟨B, 0, none⟩), .int .i64 i] W' fun e w' => e = .returned (.bool (bItemM (bUnderM s i).1 i).2) ∧ Post W' B O' (bItemM (bUnderM s i).1 i).1 w') := Lib.hid (fun e W' O' p' => beginItem_par p' (k.under e).1)
  have HF : Hid (beginM s i = _) := Lib.hid (beginM.eq_1 s i)
  have HR : Hid (bRestM (bUnderM s i).1 i = _) := Lib.hid (bRestM.eq_1 (bUnderM s i).1 i)
  obtain ⟨E, hE⟩ : ∃ E, beginM s i = E := ⟨_, rfl⟩
  rw [hE] at HF
  rw [hE]
  clear hE p k m
  by_cases c1 : s.line.next = []
  · have HE : Hid (E = (s, 0)) := Lib.hid (by rw [HF.out, if_pos c1])
    rw [decide_eq_true c1] at BL
    have R := ID
    clear HF HR CC CQ CH CF CT CU CR CI c1
    go_enter Tryz.func39, Tryz.ntmps39
    go_wp2_with fail
    refine BL.out.mono ?_
    rintro e w1 ⟨rfl, rfl⟩
    go_wp2_with fail
    go_ret
    exact ⟨by rw [HE.out]; rfl, by rw [HE.out]; exact R.out⟩
  rw [decide_eq_false c1] at BL
  rw [if_neg c1] at HF
  clear c1 ID
  by_cases c2 : 4 ≤ s.line.ind
  · have HE : Hid (E = bCodeM s i) := Lib.hid (by rw [HF.out, if_pos c2])
    have t2 : decide ((4 : Int) ≤ (s.line.ind : Int)) = true := decide_eq_true (by omega)
    clear HF HR CQ CH CF CT CU CR CI c2
    go_enter Tryz.func39, Tryz.ntmps39
    go_wp2_with fail
    refine BL.out.mono ?_
    rintro e w1 ⟨rfl, rfl⟩
    go_wp2_with fail
    refine (CC.out).mono ?_
    rintro e w2 ⟨rfl, q⟩
    have R := Lib.hid (q)
    clear q
    go_wp2_with fail
    go_ret
    exact ⟨by rw [HE.out]; rfl, by rw [HE.out]; exact R.out⟩
  rw [if_neg c2] at HF
  have t2 : decide ((4 : Int) ≤ (s.line.ind : Int)) = false := decide_eq_false (by omega)
  clear c2 CC
  by_cases c3 : (pastQuoteM s.line).2 = true
  · have HE : Hid (E = (addInM (s.atL (pastQuoteM s.line).1) i (blkN 2), 1)) := Lib.hid (by rw [HF.out, if_pos c3])
    rw [if_pos c3, c3] at CQ
    clear HF HR CH CF CT CU CR CI c3
    go_enter Tryz.func39, Tryz.ntmps39
    go_wp2_with fail
    refine BL.out.mono ?_
    rintro e w1 ⟨rfl, rfl⟩
    go_wp2_with fail
    refine (CQ.out).mono ?_
    rintro e w2 ⟨rfl, q⟩
    have R := Lib.hid (q)
    clear q
    go_wp2_with fail
    go_ret
    exact ⟨by rw [HE.out]; rfl, by rw [HE.out]; exact R.out⟩
  rw [if_neg c3] at HF
  rw [if_neg c3, show (pastQuoteM s.line).2 = false by revert c3; cases (pastQuoteM s.line).2 <;> simp] at CQ
  clear c3
  by_cases c4 : headN s.line.next = 0
  case neg =>
    have HE : Hid (E = (bHeadM s i, 3)) := Lib.hid (by rw [HF.out, if_pos c4])
    rw [if_pos c4, decide_eq_false c4] at CH
    clear HF HR CF CT CU CR CI c4
    go_enter Tryz.func39, Tryz.ntmps39
    go_wp2_with fail
    refine BL.out.mono ?_
    rintro e w1 ⟨rfl, rfl⟩
    go_wp2_with fail
    refine (CQ.out).mono ?_
    rintro e w2 ⟨rfl, O2, p2, c2⟩
    have Q := Lib.hid p2
    have C := Lib.hid (c2)
    clear p2 c2
    go_wp2_with fail
    refine (CH.out _ _ Q.out).mono ?_
    rintro e w2 ⟨rfl, q⟩
    have R := Lib.hid (Post.trans C.out q)
    clear q
    go_wp2_with fail
    go_ret
    exact ⟨by rw [HE.out]; rfl, by rw [HE.out]; exact R.out⟩
  rw [if_neg (fun q => q c4)] at HF
  rw [if_neg (fun q => q c4), decide_eq_true c4] at CH
  clear c4
  by_cases c5 : fenN s.line.next = 0
  case neg =>
    have HE : Hid (E = (bFenceM s i, 3)) := Lib.hid (by rw [HF.out, if_pos c5])
    rw [if_pos c5, decide_eq_false c5] at CF
    clear HF HR CT CU CR CI c5
    go_enter Tryz.func39, Tryz.ntmps39
    go_wp2_with fail
    refine BL.out.mono ?_
    rintro e w1 ⟨rfl, rfl⟩
    go_wp2_with fail
    refine (CQ.out).mono ?_
    rintro e w2 ⟨rfl, O2, p2, c2⟩
    have Q := Lib.hid p2
    have C := Lib.hid (c2)
    clear p2 c2
    go_wp2_with fail
    refine (CH.out _ _ Q.out).mono ?_
    rintro e w2 ⟨rfl, O2, p2, c2⟩
    have Q := Lib.hid p2
    have C := Lib.hid (C.out.trans c2)
    clear p2 c2
    go_wp2_with fail
    refine (CF.out _ _ Q.out).mono ?_
    rintro e w2 ⟨rfl, q⟩
    have R := Lib.hid (Post.trans C.out q)
    clear q
    go_wp2_with fail
    go_ret
    exact ⟨by rw [HE.out]; rfl, by rw [HE.out]; exact R.out⟩
  rw [if_neg (fun q => q c5)] at HF
  rw [if_neg (fun q => q c5), decide_eq_true c5] at CF
  clear c5
  by_cases c6 : htmKM s = 0
  case neg =>
    have HE : Hid (E = (bHtmlM s i, 2)) := Lib.hid (by rw [HF.out, if_pos c6])
    rw [if_pos c6, decide_eq_false c6] at CT
    clear HF HR CU CR CI c6
    go_enter Tryz.func39, Tryz.ntmps39
    go_wp2_with fail
    refine BL.out.mono ?_
    rintro e w1 ⟨rfl, rfl⟩
    go_wp2_with fail
    refine (CQ.out).mono ?_
    rintro e w2 ⟨rfl, O2, p2, c2⟩
    have Q := Lib.hid p2
    have C := Lib.hid (c2)
    clear p2 c2
    go_wp2_with fail
    refine (CH.out _ _ Q.out).mono ?_
    rintro e w2 ⟨rfl, O2, p2, c2⟩
    have Q := Lib.hid p2
    have C := Lib.hid (C.out.trans c2)
    clear p2 c2
    go_wp2_with fail
    refine (CF.out _ _ Q.out).mono ?_
    rintro e w2 ⟨rfl, O2, p2, c2⟩
    have Q := Lib.hid p2
    have C := Lib.hid (C.out.trans c2)
    clear p2 c2
    go_wp2_with fail
    refine (CT.out _ _ Q.out).mono ?_
    rintro e w2 ⟨rfl, q⟩
    have R := Lib.hid (Post.trans C.out q)
    clear q
    go_wp2_with fail
    go_ret
    exact ⟨by rw [HE.out]; rfl, by rw [HE.out]; exact R.out⟩
  rw [if_neg (fun q => q c6)] at HF
  rw [if_neg (fun q => q c6), decide_eq_true c6] at CT
  clear c6
  by_cases c7 : (bUnderM s i).2 = true
  · have HE : Hid (E = ((bUnderM s i).1, 3)) := Lib.hid (by rw [HF.out, if_pos c7])
    rw [c7] at CU
    clear HF HR CR CI c7
    go_enter Tryz.func39, Tryz.ntmps39
    go_wp2_with fail
    refine BL.out.mono ?_
    rintro e w1 ⟨rfl, rfl⟩
    go_wp2_with fail
    refine (CQ.out).mono ?_
    rintro e w2 ⟨rfl, O2, p2, c2⟩
    have Q := Lib.hid p2
    have C := Lib.hid (c2)
    clear p2 c2
    go_wp2_with fail
    refine (CH.out _ _ Q.out).mono ?_
    rintro e w2 ⟨rfl, O2, p2, c2⟩
    have Q := Lib.hid p2
    have C := Lib.hid (C.out.trans c2)
    clear p2 c2
    go_wp2_with fail
    refine (CF.out _ _ Q.out).mono ?_
    rintro e w2 ⟨rfl, O2, p2, c2⟩
    have Q := Lib.hid p2
    have C := Lib.hid (C.out.trans c2)
    clear p2 c2
    go_wp2_with fail
    refine (CT.out _ _ Q.out).mono ?_
    rintro e w2 ⟨rfl, O2, p2, c2⟩
    have Q := Lib.hid p2
    have C := Lib.hid (C.out.trans c2)
    clear p2 c2
    go_wp2_with fail
    refine (CU.out _ _ Q.out).mono ?_
    rintro e w2 ⟨rfl, q⟩
    have R := Lib.hid (Post.trans C.out q)
    clear q
    go_wp2_with fail
    go_ret
    exact ⟨by rw [HE.out]; rfl, by rw [HE.out]; exact R.out⟩
  have e7 : (bUnderM s i).2 = false := by revert c7; cases (bUnderM s i).2 <;> simp
  have CR := Lib.hid (CR.out e7)
  have CI := Lib.hid (CI.out e7)
  rw [if_neg c7] at HF
  rw [e7] at CU
  rw [HR.out] at HF
  generalize (bUnderM s i).1 = s1 at *
  clear c7 HR e7
  by_cases c8 : ruleL s1.line.next = true
  · have HE : Hid (E = (addInM s1 i (blkN 9), 3)) := Lib.hid (by rw [HF.out, if_pos c8])
    rw [if_pos c8, c8] at CR
    clear HF CI c8
    go_enter Tryz.func39, Tryz.ntmps39
    go_wp2_with fail
    refine BL.out.mono ?_
    rintro e w1 ⟨rfl, rfl⟩
    go_wp2_with fail
    refine (CQ.out).mono ?_
    rintro e w2 ⟨rfl, O2, p2, c2⟩
    have Q := Lib.hid p2
    have C := Lib.hid (c2)
    clear p2 c2
    go_wp2_with fail
    refine (CH.out _ _ Q.out).mono ?_
    rintro e w2 ⟨rfl, O2, p2, c2⟩
    have Q := Lib.hid p2
    have C := Lib.hid (C.out.trans c2)
    clear p2 c2
    go_wp2_with fail
    refine (CF.out _ _ Q.out).mono ?_
    rintro e w2 ⟨rfl, O2, p2, c2⟩
    have Q := Lib.hid p2
    have C := Lib.hid (C.out.trans c2)
    clear p2 c2
    go_wp2_with fail
    refine (CT.out _ _ Q.out).mono ?_
    rintro e w2 ⟨rfl, O2, p2, c2⟩
    have Q := Lib.hid p2
    have C := Lib.hid (C.out.trans c2)
    clear p2 c2
    go_wp2_with fail
    refine (CU.out _ _ Q.out).mono ?_
    rintro e w2 ⟨rfl, O2, p2, c2⟩
    have Q := Lib.hid p2
    have C := Lib.hid (C.out.trans c2)
    clear p2 c2
    go_wp2_with fail
    refine (CR.out _ _ Q.out).mono ?_
    rintro e w2 ⟨rfl, q⟩
    have R := Lib.hid (Post.trans C.out q)
    clear q
    go_wp2_with fail
    go_ret
    exact ⟨by rw [HE.out]; rfl, by rw [HE.out]; exact R.out⟩
  rw [if_neg c8] at HF
  rw [if_neg c8, show ruleL s1.line.next = false by revert c8; cases ruleL s1.line.next <;> simp] at CR
  clear c8
  by_cases c9 : (bItemM s1 i).2 = true
  · have HE : Hid (E = ((bItemM s1 i).1, 1)) := Lib.hid (by rw [HF.out, if_pos c9])
    rw [c9] at CI
    clear HF c9
    go_enter Tryz.func39, Tryz.ntmps39
    go_wp2_with fail
    refine BL.out.mono ?_
    rintro e w1 ⟨rfl, rfl⟩
    go_wp2_with fail
    refine (CQ.out).mono ?_
    rintro e w2 ⟨rfl, O2, p2, c2⟩
    have Q := Lib.hid p2
    have C := Lib.hid (c2)
    clear p2 c2
    go_wp2_with fail
    refine (CH.out _ _ Q.out).mono ?_
    rintro e w2 ⟨rfl, O2, p2, c2⟩
    have Q := Lib.hid p2
    have C := Lib.hid (C.out.trans c2)
    clear p2 c2
    go_wp2_with fail
    refine (CF.out _ _ Q.out).mono ?_
    rintro e w2 ⟨rfl, O2, p2, c2⟩
    have Q := Lib.hid p2
    have C := Lib.hid (C.out.trans c2)
    clear p2 c2
    go_wp2_with fail
    refine (CT.out _ _ Q.out).mono ?_
    rintro e w2 ⟨rfl, O2, p2, c2⟩
    have Q := Lib.hid p2
    have C := Lib.hid (C.out.trans c2)
    clear p2 c2
    go_wp2_with fail
    refine (CU.out _ _ Q.out).mono ?_
    rintro e w2 ⟨rfl, O2, p2, c2⟩
    have Q := Lib.hid p2
    have C := Lib.hid (C.out.trans c2)
    clear p2 c2
    go_wp2_with fail
    refine (CR.out _ _ Q.out).mono ?_
    rintro e w2 ⟨rfl, O2, p2, c2⟩
    have Q := Lib.hid p2
    have C := Lib.hid (C.out.trans c2)
    clear p2 c2
    go_wp2_with fail
    refine (CI.out _ _ Q.out).mono ?_
    rintro e w2 ⟨rfl, q⟩
    have R := Lib.hid (Post.trans C.out q)
    clear q
    go_wp2_with fail
    go_ret
    exact ⟨by rw [HE.out]; rfl, by rw [HE.out]; exact R.out⟩
  have HE : Hid (E = (s1, 0)) := Lib.hid (by rw [HF.out, if_neg c9])
  have e9 : (bItemM s1 i).2 = false := by revert c9; cases (bItemM s1 i).2 <;> simp
  have e10 : (bItemM s1 i).1 = s1 := by
    unfold bItemM at *
    split
    · next c => rw [if_pos c] at e9; cases e9
    · rfl
  rw [e9, e10] at CI
  clear HF c9 e9 e10
  go_enter Tryz.func39, Tryz.ntmps39
  go_wp2_with fail
  refine BL.out.mono ?_
  rintro e w1 ⟨rfl, rfl⟩
  go_wp2_with fail
  refine (CQ.out).mono ?_
  rintro e w2 ⟨rfl, O2, p2, c2⟩
  have Q := Lib.hid p2
  have C := Lib.hid (c2)
  clear p2 c2
  go_wp2_with fail
  refine (CH.out _ _ Q.out).mono ?_
  rintro e w2 ⟨rfl, O2, p2, c2⟩
  have Q := Lib.hid p2
  have C := Lib.hid (C.out.trans c2)
  clear p2 c2
  go_wp2_with fail
  refine (CF.out _ _ Q.out).mono ?_
  rintro e w2 ⟨rfl, O2, p2, c2⟩
  have Q := Lib.hid p2
  have C := Lib.hid (C.out.trans c2)
  clear p2 c2
  go_wp2_with fail
  refine (CT.out _ _ Q.out).mono ?_
  rintro e w2 ⟨rfl, O2, p2, c2⟩
  have Q := Lib.hid p2
  have C := Lib.hid (C.out.trans c2)
  clear p2 c2
  go_wp2_with fail
  refine (CU.out _ _ Q.out).mono ?_
  rintro e w2 ⟨rfl, O2, p2, c2⟩
  have Q := Lib.hid p2
  have C := Lib.hid (C.out.trans c2)
  clear p2 c2
  go_wp2_with fail
  refine (CR.out _ _ Q.out).mono ?_
  rintro e w2 ⟨rfl, O2, p2, c2⟩
  have Q := Lib.hid p2
  have C := Lib.hid (C.out.trans c2)
  clear p2 c2
  go_wp2_with fail
  refine (CI.out _ _ Q.out).mono ?_
  rintro e w2 ⟨rfl, q⟩
  have R := Lib.hid (Post.trans C.out q)
  clear q
  go_wp2_with fail
  go_ret
  exact ⟨by rw [HE.out]; rfl, by rw [HE.out]; exact R.out⟩
end
end Go.Proofs.YtfgpephpkibbaaaGreatDoor

/-
  Contract of block's goesOn. (Written by wip/tools/bkgoes.py.)
-/
namespace Go.Proofs.YtfgpephpkibbaaaGreatDoor
open Go.RowKit Go.Lib

section
variable {W : World} {B : Nat} {O : Nat → Option Nat} {s : St} {rv : Value} {tv : Nat → Value} {xs : List Value} {sb : ByteArray} {k g n cap : Nat}
set_option maxRecDepth 100000 in
set_option maxHeartbeats 2000000 in
theorem goesOn_any (h : Mem W B O s (.slice (some ⟨g, 0, none⟩) n cap) rv tv xs sb k) {i : Nat} (hi : i < s.list.length) (hind : (s.nd i).indent ≤ 1000000) :
    Calls Tryz.prog 38 #[.pointer (some ⟨B, 0, none⟩), .int .i64 i] W fun e w' => e = .returned (.bool (goesOnM s i).2) ∧ NPost W B O (s.atL (goesOnM s i).1) (.slice (some ⟨g, 0, none⟩) n cap) w' := by
  obtain ⟨rfl, hc1, hc2⟩ := h.num
  have y0 := h.box.cell 0 (v := .slice (some ⟨g, 0, none⟩) s.list.length cap) rfl
  have z0 : W.cell? ⟨g, i * 20, none⟩ = some (.int .i64 ((s.nd i).kind : Nat)) := h.at hi 0 (by decide)
  have z18 : W.cell? ⟨g, i * 20 + 18, none⟩ = some (.int .i64 ((s.nd i).html : Nat)) := h.at hi 18 (by decide)
  have BL := Lib.hid (lblank_any h)
  have IG := Lib.hid (itemGoesOn_any h hi hind)
  have CG := Lib.hid (codeGoesOn_any h hi hind)
  have QU := Lib.hid (lpastQuote_any h)
  have ID := Lib.hid (show NPost W B O (s.atL s.line) (.slice (some ⟨g, 0, none⟩) s.list.length cap) W from ⟨O, rv, tv, xs, sb, k, h, Chg.refl _ _⟩)
  have hi2 : (i : Int) < (s.list.length : Int) := by omega
  unfold goesOnM
  generalize (s.nd i).kind = q at *
  generalize (s.nd i).html = m at *
  generalize hL : s.list.length = L at *
  clear h hc1 hc2 hL
  by_cases q2 : q = 2
  · subst q2
    rw [if_pos rfl]
    clear BL IG CG ID
    go_enter Tryz.func38, Tryz.ntmps38
    go_wp2_with fail
    refine QU.out.mono ?_
    rintro e w2 ⟨rfl, q2⟩
    have R := Lib.hid q2
    clear q2
    go_wp2_with fail
    go_ret
    exact ⟨rfl, R.out⟩
  · rw [if_neg q2]
    have t2 := beqF (show ¬ (q : Int) = 2 by omega)
    clear q2
    by_cases q3 : q = 3
    · subst q3
      rw [if_pos rfl]
      clear BL IG CG QU
      go_enter Tryz.func38, Tryz.ntmps38
      go_wp2_with fail
      go_ret
      exact ⟨rfl, ID.out⟩
    · rw [if_neg q3]
      have t3 := beqF (show ¬ (q : Int) = 3 by omega)
      clear q3
      by_cases q4 : q = 4
      · subst q4
        rw [if_pos rfl]
        clear BL CG QU ID
        go_enter Tryz.func38, Tryz.ntmps38
        go_wp2_with fail
        refine IG.out.mono ?_
        rintro e w2 ⟨rfl, q2⟩
        have R := Lib.hid q2
        clear q2
        go_wp2_with fail
        go_ret
        exact ⟨rfl, R.out⟩
      · rw [if_neg q4]
        have t4 := beqF (show ¬ (q : Int) = 4 by omega)
        clear q4
        by_cases q7 : q = 7
        · subst q7
          rw [if_pos rfl]
          clear BL IG QU ID
          go_enter Tryz.func38, Tryz.ntmps38
          go_wp2_with fail
          refine CG.out.mono ?_
          rintro e w2 ⟨rfl, q2⟩
          have R := Lib.hid q2
          clear q2
          go_wp2_with fail
          go_ret
          exact ⟨rfl, R.out⟩
        · rw [if_neg q7]
          have t7 := beqF (show ¬ (q : Int) = 7 by omega)
          clear q7
          by_cases q8 : q = 8
          · subst q8
            rw [if_pos rfl]
            clear IG CG QU
            by_cases m6 : m < 6
            · rw [decide_eq_true m6]
              have t1 : decide ((m : Int) < 6) = true := decide_eq_true (by omega)
              clear BL
              go_enter Tryz.func38, Tryz.ntmps38
              go_wp2_with fail
              go_ret
              exact ⟨rfl, ID.out⟩
            · rw [decide_eq_false m6]
              have t1 : decide ((m : Int) < 6) = false := decide_eq_false (by omega)
              by_cases c : s.line.next = []
              · rw [decide_eq_true c] at *
                go_enter Tryz.func38, Tryz.ntmps38
                go_wp2_with fail
                refine BL.out.mono ?_
                rintro e w1 ⟨rfl, rfl⟩
                go_wp2_with fail
                go_ret
                exact ⟨rfl, ID.out⟩
              · rw [decide_eq_false c] at *
                go_enter Tryz.func38, Tryz.ntmps38
                go_wp2_with fail
                refine BL.out.mono ?_
                rintro e w1 ⟨rfl, rfl⟩
                go_wp2_with fail
                go_ret
                exact ⟨rfl, ID.out⟩
          · rw [if_neg q8]
            have t8 := beqF (show ¬ (q : Int) = 8 by omega)
            clear q8
            by_cases q5 : q = 5
            · subst q5
              rw [if_pos rfl]
              clear IG CG QU
              by_cases c : s.line.next = []
              · rw [decide_eq_true c] at *
                go_enter Tryz.func38, Tryz.ntmps38
                go_wp2_with fail
                refine BL.out.mono ?_
                rintro e w1 ⟨rfl, rfl⟩
                go_wp2_with fail
                go_ret
                exact ⟨rfl, ID.out⟩
              · rw [decide_eq_false c] at *
                go_enter Tryz.func38, Tryz.ntmps38
                go_wp2_with fail
                refine BL.out.mono ?_
                rintro e w1 ⟨rfl, rfl⟩
                go_wp2_with fail
                go_ret
                exact ⟨rfl, ID.out⟩
            · rw [if_neg q5]
              have t5 := beqF (show ¬ (q : Int) = 5 by omega)
              clear q5
              clear BL IG CG QU
              go_enter Tryz.func38, Tryz.ntmps38
              go_wp2_with fail
              go_ret
              exact ⟨rfl, ID.out⟩
end
end Go.Proofs.YtfgpephpkibbaaaGreatDoor

/-
  What endBlank leaves: the list's form, its texts, its kinds. No program in sight.
-/
namespace Go.Proofs.YtfgpephpkibbaaaGreatDoor
open Go Go.Lib

theorem tx_be (l : List Nd) (i : Nat) (b : Bool) : txN (l.set i { gN l i with be := b }) = txN l := by
  by_cases hj : i < l.length
  · exact Nat.add_right_cancel (tx_set l i { gN l i with be := b } hj)
  · rw [tx_out (by omega)]
theorem eb_keep : ∀ (n : Nat) (l : List Nd) (j : Int) (b : Bool) {t : Nat}, Wf l t → Wf (ebGo n l j b) t ∧ (ebGo n l j b).length = l.length ∧ txN (ebGo n l j b) = txN l ∧ (∀ i, (gN (ebGo n l j b) i).kind = (gN l i).kind) ∧ ∀ i, (gN (ebGo n l j b) i).up = (gN l i).up
  | 0, _, _, _, _, h => ⟨h, rfl, rfl, fun _ => rfl, fun _ => rfl⟩
  | n + 1, l, j, b, t, h => by
    unfold ebGo
    split
    · exact ⟨h, rfl, rfl, fun _ => rfl, fun _ => rfl⟩
    · obtain ⟨r1, r2, r3, r4, r5⟩ := eb_keep n (l.set j.toNat { gN l j.toNat with be := b }) (gN l j.toNat).up b (h.be _ b)
      refine ⟨r1, by rw [r2, List.length_set], ?_, fun i => ?_, fun i => ?_⟩
      · rw [r3]
        exact tx_be l _ b
      · rw [r4, gN_set]
        split
        · next e => rw [e.1]
        · rfl
      · rw [r5, gN_set]
        split
        · next e => rw [e.1]
        · rfl
theorem endBlank_keep {s : St} {t : Nat} (h : Wf s.list t) (i : Nat) : Wf (endBlankM s i).list t ∧ (endBlankM s i).list.length = s.list.length ∧ phi (endBlankM s i) = phi s ∧ (∀ j, ((endBlankM s i).nd j).kind = (s.nd j).kind) ∧ (endBlankM s i).tip = s.tip ∧ (endBlankM s i).line = s.line ∧ (endBlankM s i).deep = s.deep ∧ (endBlankM s i).known = s.known := by
  have h0 : Wf (ebLast s i) t ∧ (ebLast s i).length = s.list.length ∧ txN (ebLast s i) = txN s.list ∧ ∀ j, (gN (ebLast s i) j).kind = (gN s.list j).kind := by
    unfold ebLast
    split
    · refine ⟨h.be _ true, List.length_set, ?_, fun j => ?_⟩
      · exact tx_be s.list _ true
      · rw [gN_set]
        split
        · next e => rw [e.1]; rfl
        · rfl
    · exact ⟨h, rfl, rfl, fun _ => rfl⟩
  obtain ⟨a1, a2, a3, a4⟩ := h0
  obtain ⟨r1, r2, r3, r4, _⟩ := eb_keep s.list.length (ebLast s i) i (decide (s.line.next = []) && !fullB s i) a1
  refine ⟨r1, r2.trans a2, ?_, fun j => (r4 j).trans (a4 j), rfl, rfl, rfl, rfl⟩
  unfold phi endBlankM
  dsimp only
  rw [r3, a3]
end Go.Proofs.YtfgpephpkibbaaaGreatDoor


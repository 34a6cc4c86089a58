/-
  Texts of the proof, one behind the other: Spl, Spn, Spq, Spw.
-/
import Derived.Test.YtfnkokfkhjdkfaaDoorM28
import Derived.Test.YtfnkokfkhjdkfaaDoorM20
import Derived.Test.YtfnkokfkhjdkfaaDoorM16
import Derived.Test.YtfnkokfkhjdkfaaDoorM15
/-
  Contracts of the package set: within, part, shift, slackOf, isLast, run.
-/
namespace Go.Proofs.YtfnkokfkhjdkfaaDoor
open Go.RowKit Go.Lib Go.Maps

theorem scl_eq {a b c : Int} (h1 : 0 ≤ a) (h2 : a ≤ 4611686018427387904) (h3 : 0 ≤ b) (h4 : b ≤ c) (h5 : c ≤ 4611686018427387904) : scl a b c = sclP a b c := by
  by_cases h : 0 < c
  · have h6 := scl_nn (c := c) h1 h3
    have h7 := scl_le (c := c) h1 h4
    have e : sclP a b c = a * b / c := by unfold sclP; rw [if_pos h]
    rw [e] at h6 h7 ⊢
    exact (scl_yes (scl_in (room_mk (by omega)) (room_mk (by omega)) (room_mk (by omega)) h (room_mk (by omega)))).1
  · rw [(scl_no (scl_0 h)).1]
    unfold sclP
    rw [if_neg h]
theorem scl_none (a b : Int) : scl a b 0 = 0 := (scl_no (scl_0 (by omega))).1
set_option maxRecDepth 100000 in
set_option maxHeartbeats 4000000 in
theorem swithin_any (l : List It) (lv : Value) (i : Nat) (W : World) (hA : IsAt W l lv) (hi : i ≤ l.length) :
    Calls Tryd.prog 39 #[lv, .int .i64 i] W fun e w' => e = .returned (.int .i64 i) ∧ W = w' := by
  obtain ⟨A, cap, rfl, h1, h2, h3⟩ := hA
  clear h3
  unfold maxLen at h2
  generalize l.length = n at *
  have m1 : max (i : Int) 0 = (i : Int) := by omega
  have m2 : min (i : Int) (n : Int) = (i : Int) := by omega
  go_enter Tryd.func39, Tryd.ntmps39
  go_wp2_with fail
  go_ret
  exact ⟨rfl, rfl⟩
set_option maxRecDepth 100000 in
set_option maxHeartbeats 4000000 in
theorem spart_any (a b c : Int) (W : World) : Calls Tryd.prog 66 #[.int .i64 a, .int .i64 b, .int .i64 c] W fun e w' => e = .returned (.int .i64 (scl a b c)) ∧ Keeps W w' := by
  have SC := Lib.hid (scale_any a b c W)
  cases h : sclOk a b c with
  | true =>
    obtain ⟨e1, e2⟩ := scl_yes h
    rw [e2] at SC
    clear e1 e2 h
    generalize scl a b c = v at *
    go_enter Tryd.func66, Tryd.ntmps66
    go_wp2_with fail
    refine SC.out.mono ?_
    rintro e w1 ⟨rfl, k1⟩
    go_wp2_with fail
    go_ret
    exact ⟨rfl, k1⟩
  | false =>
    obtain ⟨e1, e2⟩ := scl_no h
    rw [e1, e2] at SC
    rw [e1]
    clear e1 e2 h
    go_enter Tryd.func66, Tryd.ntmps66
    go_wp2_with fail
    refine SC.out.mono ?_
    rintro e w1 ⟨rfl, k1⟩
    go_wp2_with fail
    go_ret
    exact ⟨rfl, k1⟩
/-- A line's slack: by how much it is to grow, or to shrink, and by how much it may. -/
def slV (t : Me) (wd : Int) (last : Bool) : Value :=
  if wd < t.w then .agg #[.int .i64 0, .int .i64 0, .int .i64 (t.w - wd), .int .i64 t.s]
  else if last = true then .agg #[.int .i64 0, .int .i64 0, .int .i64 0, .int .i64 0]
  else .agg #[.int .i64 (wd - t.w), .int .i64 t.g, .int .i64 0, .int .i64 0]
set_option maxRecDepth 100000 in
set_option maxHeartbeats 4000000 in
theorem slackOf_any (l : List It) (lv : Value) (a b : Nat) (wd : Int) (last : Bool) (W : World) (hA : IsAt W l lv) (hab : a ≤ b) (hb : b ≤ l.length) (hl : l.length ≤ 100000) (hx : ∀ x ∈ l, itW x) (h1 : -1152921504606846976 ≤ wd) (h2 : wd ≤ 1152921504606846976) :
    Calls Tryd.prog 40 #[lv, .int .i64 a, .int .i64 b, .int .i64 wd, .bool last] W fun e w' => e = .returned (slV (btw l a b) wd last) ∧ Keeps W w' := by
  have SU := Lib.hid (fun W1 (k : Keeps W W1) => wsum_any l lv a b W1 (hA.keep k) hab hb hl hx)
  have hB := sub_B hx (j := b) (k := min (bxF l a) b) (by omega) (by omega)
  have BM : btw l a b = meSub (preM l b) (preM l (min (bxF l a) b)) := rfl
  rw [← BM] at hB
  obtain ⟨A, cap, rfl, _, _, _⟩ := hA
  generalize btw l a b = m at *
  obtain ⟨mw, mg, ms⟩ := m
  obtain ⟨⟨m1, m2⟩, ⟨m3, m4⟩, m5, m6⟩ := hB
  simp only at SU m1 m2 m3 m4 m5 m6
  have K0 := Lib.hid (fun o => (Keeps.refl W).alloc o)
  have B0 := Lib.hid (Blk.new W 80 #[.int .i64 0, .int .i64 0, .int .i64 0, .int .i64 0])
  unfold slV
  clear BM hx
  by_cases c : wd < mw
  · have t1 : decide (wd < mw) = true := decide_eq_true c
    rw [if_pos c]
    go_enter Tryd.func40, Tryd.ntmps40
    go_wp2_with fail
    refine (SU.out _ (K0.out _)).mono ?_
    rintro e w1 ⟨rfl, k1⟩
    have b1 := B0.out.keep k1
    have z0 := b1.cell 0 (v := .int .i64 0) rfl
    have z1 := b1.cell 1 (v := .int .i64 0) rfl
    have z2 := b1.cell 2 (v := .int .i64 0) rfl
    have z3 := b1.cell 3 (v := .int .i64 0) rfl
    have f0 := b1.free 0
    have f1 := b1.free 1
    have f2 := b1.free 2
    have f3 := b1.free 3
    have KK := Lib.hid ((K0.out _).trans k1)
    have b4 := ((((b1.set 0 (.int .i64 0) rfl).set 1 (.int .i64 0) rfl).set 2 (.int .i64 (mw - wd)) rfl).set 3 (.int .i64 ms) rfl)
    go_wp2_with fail
    exact ret_blk rfl rfl rfl b4 Tryd.underlying80 (by kernel_rfl) ⟨rfl, (((KK.out.set (Nat.le_refl _) 0 _).set (Nat.le_refl _) 1 _).set (Nat.le_refl _) 2 _).set (Nat.le_refl _) 3 _⟩
  · have t1 : decide (wd < mw) = false := decide_eq_false c
    rw [if_neg c]
    cases last with
    | true =>
      rw [if_pos rfl]
      go_enter Tryd.func40, Tryd.ntmps40
      go_wp2_with fail
      refine (SU.out _ (K0.out _)).mono ?_
      rintro e w1 ⟨rfl, k1⟩
      have b1 := B0.out.keep k1
      have z0 := b1.cell 0 (v := .int .i64 0) rfl
      have z1 := b1.cell 1 (v := .int .i64 0) rfl
      have z2 := b1.cell 2 (v := .int .i64 0) rfl
      have z3 := b1.cell 3 (v := .int .i64 0) rfl
      have f0 := b1.free 0
      have f1 := b1.free 1
      have f2 := b1.free 2
      have f3 := b1.free 3
      have KK := Lib.hid ((K0.out _).trans k1)
      have b4 := ((((b1.set 0 (.int .i64 0) rfl).set 1 (.int .i64 0) rfl).set 2 (.int .i64 0) rfl).set 3 (.int .i64 0) rfl)
      go_wp2_with fail
      exact ret_blk rfl rfl rfl b4 Tryd.underlying80 (by kernel_rfl) ⟨rfl, (((KK.out.set (Nat.le_refl _) 0 _).set (Nat.le_refl _) 1 _).set (Nat.le_refl _) 2 _).set (Nat.le_refl _) 3 _⟩
    | false =>
      rw [if_neg (by decide)]
      go_enter Tryd.func40, Tryd.ntmps40
      go_wp2_with fail
      refine (SU.out _ (K0.out _)).mono ?_
      rintro e w1 ⟨rfl, k1⟩
      have b1 := B0.out.keep k1
      have z0 := b1.cell 0 (v := .int .i64 0) rfl
      have z1 := b1.cell 1 (v := .int .i64 0) rfl
      have z2 := b1.cell 2 (v := .int .i64 0) rfl
      have z3 := b1.cell 3 (v := .int .i64 0) rfl
      have f0 := b1.free 0
      have f1 := b1.free 1
      have f2 := b1.free 2
      have f3 := b1.free 3
      have KK := Lib.hid ((K0.out _).trans k1)
      have b4 := ((((b1.set 0 (.int .i64 (wd - mw)) rfl).set 1 (.int .i64 mg) rfl).set 2 (.int .i64 0) rfl).set 3 (.int .i64 0) rfl)
      go_wp2_with fail
      exact ret_blk rfl rfl rfl b4 Tryd.underlying80 (by kernel_rfl) ⟨rfl, (((KK.out.set (Nat.le_refl _) 0 _).set (Nat.le_refl _) 1 _).set (Nat.le_refl _) 2 _).set (Nat.le_refl _) 3 _⟩
set_option maxRecDepth 100000 in
set_option maxHeartbeats 4000000 in
theorem sshift_go (a b c d g s : Int) (W : World) (p q : Int) (hp : scl a g b = p) (hq : scl c s d = q) (p0 : 0 ≤ p) (p1 : p ≤ 4611686018427387904) (q0 : 0 ≤ q) (q1 : q ≤ 4611686018427387904) :
    Calls Tryd.prog 42 #[.agg #[.int .i64 a, .int .i64 b, .int .i64 c, .int .i64 d], .int .i64 g, .int .i64 s] W fun e w' => e = .returned (.int .i64 (p - q)) ∧ Keeps W w' := by
  have P1 := Lib.hid (fun W1 => spart_any a g b W1)
  have P2 := Lib.hid (fun W1 => spart_any c s d W1)
  rw [hp] at P1
  rw [hq] at P2
  clear hp hq
  have B0 := Blk.new W 80 #[.int .i64 a, .int .i64 b, .int .i64 c, .int .i64 d]
  have K0 := Lib.hid ((Keeps.refl W).alloc (.cells #[.int .i64 a, .int .i64 b, .int .i64 c, .int .i64 d] 80))
  have z0 := B0.cell 0 (v := .int .i64 a) rfl
  have z1 := B0.cell 1 (v := .int .i64 b) rfl
  have z2 := B0.cell 2 (v := .int .i64 c) rfl
  have z3 := B0.cell 3 (v := .int .i64 d) rfl
  generalize hwx : W.alloc (.cells #[.int .i64 a, .int .i64 b, .int .i64 c, .int .i64 d] 80) = wx at *
  obtain ⟨L, hL⟩ : ∃ L : List (Addr × Value), L = [(⟨W.heap.size, 0, none⟩, .int .i64 a), (⟨W.heap.size, 1, none⟩, .int .i64 b), (⟨W.heap.size, 2, none⟩, .int .i64 c), (⟨W.heap.size, 3, none⟩, .int .i64 d)] := ⟨_, rfl⟩
  have C0 : ∀ q ∈ L, wx.cell? q.1 = some q.2 := by rw [hL]; exact cells_cons z0 (cells_cons z1 (cells_cons z2 (cells_cons z3 (cells_nil _))))
  have NE : Nonempty (InS (CellsK L wx)) := ⟨⟨_, CellsK.start C0⟩⟩
  have G0 : ∀ x : InS (CellsK L wx), x.w.cell? ⟨W.heap.size, 0, none⟩ = some (.int .i64 a) := fun x => x.ok.cells (_, _) (by rw [hL]; simp)
  have G1 : ∀ x : InS (CellsK L wx), x.w.cell? ⟨W.heap.size, 1, none⟩ = some (.int .i64 b) := fun x => x.ok.cells (_, _) (by rw [hL]; simp)
  have G2 : ∀ x : InS (CellsK L wx), x.w.cell? ⟨W.heap.size, 2, none⟩ = some (.int .i64 c) := fun x => x.ok.cells (_, _) (by rw [hL]; simp)
  have G3 : ∀ x : InS (CellsK L wx), x.w.cell? ⟨W.heap.size, 3, none⟩ = some (.int .i64 d) := fun x => x.ok.cells (_, _) (by rw [hL]; simp)
  clear hL z0 z1 z2 z3 B0
  go_enter Tryd.func42, Tryd.ntmps42
  go_wp2_with fail
  refine wp_region_class (CellsK L wx) (by kernel_rfl) (by kernel_rfl) (CellsK.start C0) ?_
  iterate 14 (go_big_quiet_step ((go_at_call 66; (first | (with_reducible exact class_call (fun _ p k => p.keep k) (P1.out _)) | (with_reducible exact class_call (fun _ p k => p.keep k) (P2.out _))))))
  refine wpQuiet_nil ?_
  rintro w5 ⟨⟨w6, h6⟩, rfl⟩
  have K6 := Lib.hid (K0.out.trans h6.since)
  clear NE G0 G1 G2 G3 C0 h6
  go_wp2_with fail
  go_ret
  exact ⟨rfl, K6.out⟩
set_option maxRecDepth 100000 in
set_option maxHeartbeats 4000000 in
theorem slast_any (l : List It) (lv : Value) (i : Nat) (W : World) (hA : IsAt W l lv) (hi : i ≤ l.length) :
    Calls Tryd.prog 27 #[lv, .int .i64 i] W fun e w' => e = .returned (.bool (mustP l i)) ∧ W = w' := by
  obtain ⟨A, cap, rfl, h1, h2, h3⟩ := hA
  unfold maxLen at h2
  by_cases e : i = l.length
  · have R := Lib.hid (must_end l)
    clear h3 hi
    subst e
    generalize mustP l l.length = b at *
    generalize l.length = n at *
    have t1 : decide ((n : Int) ≤ (n : Int)) = true := decide_eq_true (by omega)
    go_enter Tryd.func27, Tryd.ntmps27
    go_wp2_with fail
    go_ret
    exact ⟨ret_bool R.out.symm, rfl⟩
  · have hlt : i < l.length := by omega
    obtain ⟨g, o, rfl, hc⟩ := h3 (by omega)
    have hr := hc i hlt
    have y0 : W.cell? ⟨g, o + i * 9, none⟩ = some (.int .i64 l[i].kind) := hr 0 _ rfl
    have y4 : W.cell? ⟨g, o + i * 9 + 4, none⟩ = some (.int .i64 l[i].cost) := hr 4 _ rfl
    have t0 : decide ((l.length : Int) ≤ (i : Int)) = false := decide_eq_false (by omega)
    have t0' : decide (l.length ≤ i) = false := decide_eq_false (by omega)
    have t2 : decide ((0 : Int) ≤ (i : Int)) = true := decide_eq_true (by omega)
    by_cases hk : l[i].kind = 3
    · have R := Lib.hid (must_pen hlt hk)
      rw [hk] at y0
      generalize mustP l i = b at *
      generalize l[i].cost = c at *
      clear h3 hk hr hc
      generalize l.length = n at *
      go_enter Tryd.func27, Tryd.ntmps27
      go_wp2_with fail
      go_ret
      exact ⟨ret_bool R.out.symm, rfl⟩
    · have R := Lib.hid (must_else hlt hk)
      have tk : (l[i].kind == 3) = false := beqF hk
      generalize mustP l i = b at *
      generalize l[i].kind = k at *
      generalize l[i].cost = c at *
      clear h3 hr hc hk
      generalize l.length = n at *
      go_enter Tryd.func27, Tryd.ntmps27
      go_wp2_with fail
      go_ret
      exact ⟨ret_bool R.out.symm, rfl⟩
set_option maxRecDepth 100000 in
set_option maxHeartbeats 4000000 in
theorem srun_any (y : It) (cs : ByteArray) (hcs : cs = ⟨y.codes.toArray⟩) (g o : Nat) (x : Int) (W : World) (hr : W.rangeAt g o (itC y)) :
    Calls Tryd.prog 41 #[.pointer (some ⟨g, o, none⟩), .int .i64 x] W fun e w' => e = .returned (.agg #[.int .i64 x, .int .i64 0, .int .i64 y.width, .int .i64 y.font, .int .i64 y.size, .string cs, .int .i64 y.link]) ∧ Keeps W w' := by
  have lt := range_lt hr (by rw [itC_len]; decide)
  have y1 : W.cell? ⟨g, o + 1, none⟩ = some (.int .i64 y.width) := hr 1 _ rfl
  have y5 : W.cell? ⟨g, o + 5, none⟩ = some (.string cs) := by rw [hcs]; exact hr 5 _ rfl
  have y6 : W.cell? ⟨g, o + 6, none⟩ = some (.int .i64 y.font) := hr 6 _ rfl
  have y7 : W.cell? ⟨g, o + 7, none⟩ = some (.int .i64 y.size) := hr 7 _ rfl
  have y8 : W.cell? ⟨g, o + 8, none⟩ = some (.int .i64 y.link) := hr 8 _ rfl
  clear hr hcs
  have K0 := Lib.hid (fun o => ((Keeps.refl W).alloc o).drew)
  go_enter Tryd.func41, Tryd.ntmps41
  go_wp2_with fail
  go_region
  go_wp2_with fail
  exact ret_blk rfl rfl rfl (Blk.new _ _ _).drew Tryd.underlying45 (by kernel_rfl) ⟨rfl, K0.out _⟩
end Go.Proofs.YtfnkokfkhjdkfaaDoor

/-
  Contract of the package set: Line.
-/
namespace Go.Proofs.YtfnkokfkhjdkfaaDoor
open Go.RowKit Go.Lib Go.Maps

/-- Numbers of a line: what is ahead is no more than all. -/
structure MeIn (m t : Me) (wd : Int) : Prop where
  g0 : 0 ≤ m.g
  g1 : m.g ≤ t.g
  g2 : t.g ≤ 1152921504606846976
  s0 : 0 ≤ m.s
  s1 : m.s ≤ t.s
  s2 : t.s ≤ 1152921504606846976
  w0 : -1152921504606846976 ≤ t.w
  w1 : t.w ≤ 1152921504606846976
  d0 : -1152921504606846976 ≤ wd
  d1 : wd ≤ 1152921504606846976
theorem slV_form (t : Me) (wd : Int) (last : Bool) : ∃ s0 s1 s2 s3 : Int, slV t wd last = .agg #[.int .i64 s0, .int .i64 s1, .int .i64 s2, .int .i64 s3] := by
  unfold slV
  split
  · exact ⟨_, _, _, _, rfl⟩
  · split <;> exact ⟨_, _, _, _, rfl⟩
theorem mov_bd {m t : Me} {wd : Int} (last : Bool) (h : MeIn m t wd) : -2305843009213693952 ≤ movP m t (wd - t.w) last ∧ movP m t (wd - t.w) last ≤ 2305843009213693952 := by
  obtain ⟨h1, h2, h3, h4, h5, h6, h7, h8, h9, ha⟩ := h
  unfold movP
  split
  · split
    · omega
    · have e1 := scl_nn (a := wd - t.w) (c := t.g) (by omega) h1
      have e2 := scl_le (a := wd - t.w) (by omega) h2
      omega
  · split
    · have e1 := scl_nn (a := -(wd - t.w)) (c := t.s) (by omega) h4
      have e2 := scl_le (a := -(wd - t.w)) (by omega) h5
      omega
    · omega
theorem sshift_any {m t : Me} {wd : Int} (last : Bool) (W : World) (h : MeIn m t wd) :
    Calls Tryd.prog 42 #[slV t wd last, .int .i64 m.g, .int .i64 m.s] W fun e w' => e = .returned (.int .i64 (movP m t (wd - t.w) last)) ∧ Keeps W w' := by
  obtain ⟨h1, h2, h3, h4, h5, h6, h7, h8, h9, ha⟩ := h
  unfold slV movP
  by_cases c : wd < t.w
  · rw [if_pos c, if_neg (by omega), if_pos (by omega)]
    have e1 := scl_nn (a := t.w - wd) (c := t.s) (by omega) h4
    have e2 := scl_le (a := t.w - wd) (by omega) h5
    have := sshift_go 0 0 (t.w - wd) t.s m.g m.s W 0 (sclP (t.w - wd) m.s t.s) (scl_none _ _) (scl_eq (by omega) (by omega) h4 h5 (by omega)) (by omega) (by omega) e1 (by omega)
    rw [show -(wd - t.w) = t.w - wd by omega]
    rwa [Int.zero_sub] at this
  · rw [if_neg c]
    cases last with
    | true =>
      rw [if_pos rfl]
      have := sshift_go 0 0 0 0 m.g m.s W 0 0 (scl_none _ _) (scl_none _ _) (by omega) (by omega) (by omega) (by omega)
      rw [Int.sub_zero] at this
      by_cases d : 0 < wd - t.w
      · rw [if_pos d, if_pos rfl]
        exact this
      · rw [if_neg d, if_neg (by omega)]
        exact this
    | false =>
      rw [if_neg (by decide)]
      have e1 := scl_nn (a := wd - t.w) (c := t.g) (by omega) h1
      have e2 := scl_le (a := wd - t.w) (by omega) h2
      have := sshift_go (wd - t.w) t.g 0 0 m.g m.s W (sclP (wd - t.w) m.g t.g) 0 (scl_eq (by omega) (by omega) h1 h2 (by omega)) (scl_none _ _) e1 (by omega) (by omega) (by omega)
      rw [Int.sub_zero] at this
      by_cases d : 0 < wd - t.w
      · rw [if_pos d, if_neg (by decide)]
        exact this
      · have z : wd - t.w = 0 := by omega
        rw [if_neg d, if_neg (by omega)]
        rw [z] at this ⊢
        have z2 : sclP 0 m.g t.g = 0 := by
          have f1 := scl_nn (a := 0) (c := t.g) (by omega) h1
          have f2 := scl_le (a := 0) (by omega) h2
          omega
        rw [z2] at this
        exact this
theorem rn_len {l : List It} {wd x : Int} {a b : Nat} {last : Bool} : ∀ k, (rnTo l wd x a b last k).length ≤ k
  | 0 => Nat.le_refl _
  | k + 1 => by
    have := rn_len (l := l) (wd := wd) (x := x) (a := a) (b := b) (last := last) k
    rw [rnTo]
    split
    · split
      · rw [List.length_append, List.length_singleton]; omega
      · omega
    · omega
theorem pre_in {l : List It} (h : ∀ x ∈ l, PlIt x) (hx : ∀ x ∈ l, itW x) {c k b : Nat} {wd : Int} (h1 : c ≤ k) (h2 : k ≤ b) (h3 : b ≤ l.length) (h4 : l.length ≤ 100000) (d0 : -1152921504606846976 ≤ wd) (d1 : wd ≤ 1152921504606846976) :
    MeIn (meSub (preM l k) (preM l c)) (meSub (preM l b) (preM l c)) wd := by
  have m1 := pre_mono h h1 (by omega)
  have m2 := pre_mono h h2 h3
  obtain ⟨⟨b1, b2⟩, ⟨b3, b4⟩, b5, b6⟩ := sub_B hx (j := b) (k := c) (by omega) (by omega)
  refine ⟨?_, ?_, b4, ?_, ?_, b6, b1, b2, d0, d1⟩ <;> unfold meSub <;> simp only <;> omega
set_option maxRecDepth 100000 in
set_option maxHeartbeats 16000000 in
theorem sline_any (l : List It) (lv : Value) (a b : Nat) (x wd : Int) (last : Bool) (W : World) (hA : IsAt W l lv) (hab : a ≤ b) (hb : b ≤ l.length) (hl : l.length ≤ 100000) (hp : ∀ y ∈ l, PlIt y) (hx : ∀ y ∈ l, itW y) (h1 : -1152921504606846976 ≤ wd) (h2 : wd ≤ 1152921504606846976) (x0 : -1099511627776 ≤ x) (x1 : x ≤ 1099511627776) :
    Calls Tryd.prog 22 #[lv, .int .i64 a, .int .i64 b, .int .i64 x, .int .i64 wd, .bool last] W fun e w' => ∃ v, e = .returned v ∧ RnsAt W.heap.size w' v (rnTo l wd x a b last b) ∧ Keeps W w' := by
  have WI := Lib.hid (fun i (hi : i ≤ l.length) W1 (k : Keeps W W1) => swithin_any l lv i W1 (hA.keep k) hi)
  have SL := Lib.hid (fun W1 (k : Keeps W W1) => slackOf_any l lv a b wd last W1 (hA.keep k) hab hb hl hx h1 h2)
  have SH := Lib.hid (fun m W1 (h : MeIn m (btw l a b) wd) => sshift_any last W1 h)
  have MI := Lib.hid (fun k (hk1 : min (bxF l a) b ≤ k) (hk2 : k ≤ b) => pre_in hp hx hk1 hk2 hb hl h1 h2)
  have MB := Lib.hid (fun m (h : MeIn m (btw l a b) wd) => mov_bd last h)
  obtain ⟨s0, s1, s2, s3, hsl⟩ := slV_form (btw l a b) wd last
  rw [hsl] at SL SH
  have BT : Hid (btw l a b = meSub (preM l b) (preM l (min (bxF l a) b))) := Lib.hid rfl
  obtain ⟨A, cap, rfl, c1, c2, h3⟩ := hA
  unfold maxLen at c2
  have HC : Hid (∀ i, i < l.length → ∃ (g o : Nat) (y : It), A = some ⟨g, o, none⟩ ∧ l[i]? = some y ∧ W.rangeAt g (o + i * 9) (itC y)) := Lib.hid fun i hi => by
    obtain ⟨g, o, e, hc⟩ := h3 (by omega)
    exact ⟨g, o, l[i], e, List.getElem?_eq_getElem hi, hc i hi⟩
  have HX := Lib.hid hx
  have HPL := Lib.hid hp
  obtain ⟨n, hn⟩ : ∃ n, l.length = n := ⟨_, rfl⟩
  have HN := Lib.hid hn
  have HSB := Lib.hid (fun k (hk : k ≤ n) => sub_B hx (j := k) (k := min (bxF l a) b) (by omega) (by omega))
  rw [hn] at c1 hb hl WI SL ⊢
  clear hn hx hp h3 hsl
  go_enter Tryd.func22, Tryd.ntmps22
  go_wp2_with fail
  refine (WI.out a (by omega) _ (Keeps.refl _)).mono ?_
  rintro e w1 ⟨rfl, rfl⟩
  go_wp2_with fail
  refine (WI.out b (by omega) _ (Keeps.refl _)).mono ?_
  rintro e w1 ⟨rfl, rfl⟩
  go_wp2_with fail
  refine (SL.out _ (Keeps.refl _)).mono ?_
  rintro e w2 ⟨rfl, k2⟩
  have B2 := Lib.hid (Blk.new w2 80 #[.int .i64 s0, .int .i64 s1, .int .i64 s2, .int .i64 s3])
  have K2 := Lib.hid (k2.alloc (.cells #[.int .i64 s0, .int .i64 s1, .int .i64 s2, .int .i64 s3] 80))
  obtain ⟨S, hS⟩ : ∃ S, w2.heap.size = S := ⟨_, rfl⟩
  rw [hS] at B2
  have hSl : W.heap.size ≤ S := by have := k2.size; omega
  obtain ⟨w3, hw3⟩ : ∃ w3, w2.alloc (.cells #[.int .i64 s0, .int .i64 s1, .int .i64 s2, .int .i64 s3] 80) = w3 := ⟨_, rfl⟩
  rw [hw3] at B2 K2
  clear k2
  go_wp2_with fail
  go_loop [1] (fun y => ∃ k : Nat, a ≤ k ∧ k ≤ b ∧ y = .int .i64 k ∧ Hid (bxF l k = bxF l a) ∧ Hid (rnTo l wd x a b last k = [])) (fun y => b - (RowKit.intOf y).toNat)
  case atStart => exact ⟨a, Nat.le_refl _, hab, rfl, Lib.hid rfl, Lib.hid (rn_low (Nat.le_refl _))⟩
  case round =>
    obtain ⟨k, hk1, hk2, rfl, HB, HE⟩ := hrel
    by_cases c : k < b
    · obtain ⟨g, o, y, rfl, hy, hr⟩ := HC.out k (by rw [HN.out]; omega)
      have hrw := range_same hr (K2.out.block g (range_lt hr (by rw [itC_len]; decide)))
      have y0 : w3.cell? ⟨g, o + k * 9, none⟩ = some (.int .i64 y.kind) := hrw 0 _ rfl
      obtain ⟨hkl, hye⟩ := List.getElem?_eq_some_iff.1 hy
      have z0 : (0 : Int) ≤ (k : Int) := by omega
      have z1 : (k : Int) < (n : Int) := by omega
      have t1 : decide ((k : Int) < (b : Int)) = true := decide_eq_true (by omega)
      by_cases q : y.kind = 1
      · have HK : Hid (min (bxF l a) b = k) := Lib.hid (by
          rw [← HB.out, bxF_box hkl (by rw [hye]; exact q)]; omega)
        rw [q] at y0
        clear hr hrw hy hye hkl q
        go_wp2_with fail
        go_loopw [14, 15, 16, 17, 18] (fun u y1 y2 y3 z wr => ∃ (i : Nat) (A4 : Option Addr) (c4 : Nat) (mw mg ms : Int) (rs : List Rn), k ≤ i ∧ i ≤ b ∧ u = .slice A4 rs.length c4 ∧ y1 = .int .i64 (x + mw) ∧ y2 = .int .i64 mg ∧ y3 = .int .i64 ms ∧ z = .int .i64 i ∧ Hid (meSub (preM l i) (preM l k) = ⟨mw, mg, ms⟩) ∧ Hid (rnTo l wd x a b last i = rs) ∧ Hid (RnsAt w3.heap.size wr (.slice A4 rs.length c4) rs) ∧ Hid (Keeps w3 wr)) (fun _ _ _ _ z _ => b - (RowKit.intOf z).toNat)
        case atStart => exact ⟨k, none, 0, 0, 0, 0, [], Nat.le_refl _, hk2, rfl, by rw [Int.add_zero], rfl, rfl, rfl, Lib.hid (sub_self _), HE, Lib.hid (RnsAt.nil _ _), Lib.hid (Keeps.refl _)⟩
        case round =>
          obtain ⟨i, A4, c4, mw, mg, ms, rs, hi1, hi2, rfl, rfl, rfl, rfl, rfl, HM, HRs, HO, HKr⟩ := hrel
          by_cases ci : i < b
          · obtain ⟨g2, o2, y2, eA2, hy2, hr2⟩ := HC.out i (by rw [HN.out]; omega)
            cases eA2
            obtain ⟨hil, hye2⟩ := List.getElem?_eq_some_iff.1 hy2
            have hpl := HPL.out y2 (List.mem_of_getElem? hy2)
            have hyw := HX.out y2 (List.mem_of_getElem? hy2)
            have hlt := range_lt hr2 (by rw [itC_len]; decide)
            have hrw := range_same hr2 ((K2.out.trans HKr.out).block g hlt)
            have HNx : Hid (meAdd ⟨mw, mg, ms⟩ y2 = meSub (preM l (i + 1)) (preM l k)) := Lib.hid (by rw [← HM.out, sub_add, preM_next hil, hye2])
            have hB := HSB.out i (by omega)
            rw [HK.out, HM.out] at hB
            obtain ⟨⟨n1, n2⟩, ⟨n3, n4⟩, n5, n6⟩ := hB
            simp only at n1 n2 n3 n4 n5 n6
            obtain ⟨⟨q1, q2⟩, ⟨q3, q4⟩, q5, q6⟩ := hyw
            have hrsl := rn_len (l := l) (wd := wd) (x := x) (a := a) (b := b) (last := last) i
            rw [HRs.out] at hrsl
            have u1 : decide ((i : Int) < (b : Int)) = true := decide_eq_true (by omega)
            have j0 : (0 : Int) ≤ (i : Int) := by omega
            have j1 : (i : Int) < (n : Int) := by omega
            have z0 : wr.cell? ⟨g, o + i * 9, none⟩ = some (.int .i64 y2.kind) := hrw 0 _ rfl
            have z1 : wr.cell? ⟨g, o + i * 9 + 1, none⟩ = some (.int .i64 y2.width) := hrw 1 _ rfl
            have z2 : wr.cell? ⟨g, o + i * 9 + 2, none⟩ = some (.int .i64 y2.grow) := hrw 2 _ rfl
            have z3 : wr.cell? ⟨g, o + i * 9 + 3, none⟩ = some (.int .i64 y2.shrink) := hrw 3 _ rfl
            rcases hpl.kind with p1 | p1 | p1
            · have RB := rn_box (wd := wd) (x := x) (b := b) (last := last) hil (show a ≤ i by omega) (by rw [hye2]; exact p1)
              rw [HRs.out, hye2] at RB
              have hpos : posP l wd x a b last i = x + mw + movP ⟨mw, mg, ms⟩ (btw l a b) (wd - (btw l a b).w) last := by
                unfold posP
                rw [HK.out, HM.out]
              have hmi := MI.out i (by rw [HK.out]; omega) (by omega)
              rw [← BT.out, HK.out, HM.out] at hmi
              have hmb := MB.out _ hmi
              have SHC := Lib.hid (fun W1 => SH.out _ W1 hmi)
              obtain ⟨mv, hmv⟩ : ∃ mv, movP ⟨mw, mg, ms⟩ (btw l a b) (wd - (btw l a b).w) last = mv := ⟨_, rfl⟩
              rw [hmv] at hmb SHC hpos
              rw [hpos] at RB
              have HA : Hid (meSub (preM l (i + 1)) (preM l k) = ⟨mw + y2.width, mg + y2.grow, ms + y2.shrink⟩) := Lib.hid (by rw [← HNx.out]; unfold meAdd; rw [if_neg (by omega)])
              obtain ⟨cs, hcs⟩ : ∃ cs : ByteArray, cs = ⟨y2.codes.toArray⟩ := ⟨_, rfl⟩
              have RU := Lib.hid (fun W1 (q : Keeps wr W1) => srun_any y2 cs hcs g (o + i * 9) (x + mw + mv) W1 (range_same hrw (q.block g (range_lt hrw (by rw [itC_len]; decide)))))
              have MK : Hid (∀ W1, Keeps wr W1 → ∃ A8 c8 w8, (Builtin.append_ #[43, 43] 43 #[.slice A4 rs.length c4, .slice (some ⟨W1.heap.size, 0, none⟩) 1 1]).run Tryd.prog (W1.alloc (.cells #[.int .i64 (x + mw + mv), .int .i64 0, .int .i64 y2.width, .int .i64 y2.font, .int .i64 y2.size, .string cs, .int .i64 y2.link] 45)) = .ok (.slice A8 (rs.length + 1) c8) w8 ∧ RnsAt w3.heap.size w8 (.slice A8 (rs.length + 1) c8) (rs ++ [rnOf y2 (x + mw + mv)]) ∧ Keeps w3 w8) := Lib.hid (fun W1 q => by
                obtain ⟨A8, c8, w8, ra, R8, K8⟩ := rns_made (w0 := w3) (HO.out.keep q) (HKr.out.trans q) (rnOf y2 (x + mw + mv)) (by omega)
                unfold rnOf at ra
                simp only at ra
                rw [← hcs] at ra
                exact ⟨A8, c8, w8, ra, R8, K8⟩)
              have HRW := Lib.hid (fun W1 (q : Keeps w3 W1) => range_same hr2 ((K2.out.trans q).block g hlt))
              have RB2 : Hid (rnTo l wd x a b last (i + 1) = rs ++ [rnOf y2 (x + mw + mv)]) := Lib.hid RB
              have bS := B2.out.keep HKr.out
              have sl0 := bS.cell 0 (v := .int .i64 s0) rfl
              have sl1 := bS.cell 1 (v := .int .i64 s1) rfl
              have sl2 := bS.cell 2 (v := .int .i64 s2) rfl
              have sl3 := bS.cell 3 (v := .int .i64 s3) rfl
              rw [p1] at z0
              have HYK := Lib.hid p1
              generalize hgw : y2.width = yw at *
              generalize hgg : y2.grow = yg at *
              generalize hgs : y2.shrink = ys at *
              have HGW := Lib.hid hgw
              have HGG := Lib.hid hgg
              have HGS := Lib.hid hgs
              clear hrw hr2 hy2 hye2 hil hpl RB hpos hmi hmv HNx p1 bS hcs hgw hgg hgs
              go_wp2_with fail
              refine (SHC.out _).mono ?_
              rintro e w5 ⟨rfl, k5⟩
              go_wp2_with fail
              refine (RU.out _ k5).mono ?_
              rintro e w6 ⟨rfl, k6⟩
              obtain ⟨A8, c8, w8, ra, R8, K8⟩ := MK.out w6 (k5.trans k6)
              have hrw8 := HRW.out w8 K8
              have v0 : w8.cell? ⟨g, o + i * 9, none⟩ = some (.int .i64 1) := by rw [← HYK.out]; exact hrw8 0 _ rfl
              have v1 : w8.cell? ⟨g, o + i * 9 + 1, none⟩ = some (.int .i64 yw) := by rw [← HGW.out]; exact hrw8 1 _ rfl
              have v2 : w8.cell? ⟨g, o + i * 9 + 2, none⟩ = some (.int .i64 yg) := by rw [← HGG.out]; exact hrw8 2 _ rfl
              have v3 : w8.cell? ⟨g, o + i * 9 + 3, none⟩ = some (.int .i64 ys) := by rw [← HGS.out]; exact hrw8 3 _ rfl
              have HO8 := Lib.hid R8
              have HK8 := Lib.hid K8
              clear R8 K8 hrw8 k5 k6 z0 z1 z2 z3
              have el : (rs ++ [rnOf y2 (x + mw + mv)]).length = rs.length + 1 := by simp
              have HO9 : Hid (RnsAt w3.heap.size w8 (.slice A8 (rs ++ [rnOf y2 (x + mw + mv)]).length c8) (rs ++ [rnOf y2 (x + mw + mv)])) := Lib.hid (by rw [el]; exact HO8.out)
              have HEL := Lib.hid el
              clear el
              go_wp2_with (at_builtin; refine wpList_append_run rfl (.tmp 65) (.tmp 74) _ _ rfl _ _ (by rfl) (by rfl) _ _ ra ?_)
              go_roundw
              case rel => exact ⟨i + 1, A8, c8, mw + yw, mg + yg, ms + ys, rs ++ [rnOf y2 (x + mw + mv)], by omega, by omega, by rw [HEL.out], by go_num, by go_num, by go_num, by go_num, HA, RB2, HO9, HK8⟩
              case measure => simp only [RowKit.intOf]; omega
            · have HA : Hid (meSub (preM l (i + 1)) (preM l k) = ⟨mw + y2.width, mg + y2.grow, ms + y2.shrink⟩) := Lib.hid (by rw [← HNx.out]; unfold meAdd; rw [if_neg (by omega)])
              have HR1 : Hid (rnTo l wd x a b last (i + 1) = rs) := Lib.hid (by rw [rn_oth hil (fun h => by rw [hye2] at h; omega)]; exact HRs.out)
              rw [p1] at z0
              generalize y2.width = yw at *
              generalize y2.grow = yg at *
              generalize y2.shrink = ys at *
              clear hrw hr2 hy2 hye2 hil hpl HNx p1
              go_wp2_with fail
              go_roundw
              case rel => exact ⟨i + 1, A4, c4, mw + yw, mg + yg, ms + ys, rs, by omega, by omega, rfl, by go_num, by go_num, by go_num, by go_num, HA, HR1, HO, HKr⟩
              case measure => simp only [RowKit.intOf]; omega
            · have HA : Hid (meSub (preM l (i + 1)) (preM l k) = ⟨mw, mg, ms⟩) := Lib.hid (by rw [← HNx.out]; unfold meAdd; rw [if_pos p1])
              have HR1 : Hid (rnTo l wd x a b last (i + 1) = rs) := Lib.hid (by rw [rn_oth hil (fun h => by rw [hye2] at h; omega)]; exact HRs.out)
              rw [p1] at z0
              clear hrw hr2 hy2 hye2 hil hpl HNx p1 z1 z2 z3
              go_wp2_with fail
              go_roundw
              case rel => exact ⟨i + 1, A4, c4, mw, mg, ms, rs, by omega, by omega, rfl, rfl, rfl, rfl, by go_num, HA, HR1, HO, HKr⟩
              case measure => simp only [RowKit.intOf]; omega
          · have e : i = b := by omega
            have u1 : decide ((i : Int) < (b : Int)) = false := decide_eq_false (by omega)
            have FIN : Hid (RnsAt W.heap.size wr (.slice A4 rs.length c4) (rnTo l wd x a b last b)) := Lib.hid (by have FR := HRs.out; rw [e] at FR; rw [FR]; exact Go.Joins.ownsRow_le HO.out K2.out.size)
            have KF := Lib.hid (K2.out.trans HKr.out)
            clear e
            go_wp2_with fail
            go_ret
            exact ⟨_, rfl, FIN.out, KF.out⟩
      · have HK : Hid (bxF l (k + 1) = bxF l a) := Lib.hid (by
          rw [← HB.out, bxF_next hkl (by rw [hye]; exact q)])
        have HE2 : Hid (rnTo l wd x a b last (k + 1) = []) := Lib.hid (by rw [rn_oth hkl (fun h => q (by rw [← hye]; exact h.2))]; exact HE.out)
        have tq : (y.kind == 1) = false := beqF q
        have tn : (y.kind != 1) = true := by rw [bne_iff_ne]; exact q
        generalize y.kind = yk at *
        clear hr hrw hy hye hkl
        go_wp2_with fail
        go_round
        case rel => exact ⟨k + 1, by omega, by omega, by go_num, HK, HE2⟩
        case measure => simp only [RowKit.intOf]; omega
    · have HK : Hid (min (bxF l a) b = k) := Lib.hid (by
        have := bxF_ge l k
        rw [HB.out] at this; omega)
      have t1 : decide ((k : Int) < (b : Int)) = false := decide_eq_false (by omega)
      go_wp2_with fail
      go_loopw [14, 15, 16, 17, 18] (fun u y1 y2 y3 z wr => ∃ (i : Nat) (A4 : Option Addr) (c4 : Nat) (mw mg ms : Int) (rs : List Rn), k ≤ i ∧ i ≤ b ∧ u = .slice A4 rs.length c4 ∧ y1 = .int .i64 (x + mw) ∧ y2 = .int .i64 mg ∧ y3 = .int .i64 ms ∧ z = .int .i64 i ∧ Hid (meSub (preM l i) (preM l k) = ⟨mw, mg, ms⟩) ∧ Hid (rnTo l wd x a b last i = rs) ∧ Hid (RnsAt w3.heap.size wr (.slice A4 rs.length c4) rs) ∧ Hid (Keeps w3 wr)) (fun _ _ _ _ z _ => b - (RowKit.intOf z).toNat)
      case atStart => exact ⟨k, none, 0, 0, 0, 0, [], Nat.le_refl _, hk2, rfl, by rw [Int.add_zero], rfl, rfl, rfl, Lib.hid (sub_self _), HE, Lib.hid (RnsAt.nil _ _), Lib.hid (Keeps.refl _)⟩
      case round =>
        obtain ⟨i, A4, c4, mw, mg, ms, rs, hi1, hi2, rfl, rfl, rfl, rfl, rfl, HM, HRs, HO, HKr⟩ := hrel
        by_cases ci : i < b
        · omega
        · have e : i = b := by omega
          have u1 : decide ((i : Int) < (b : Int)) = false := decide_eq_false (by omega)
          have FIN : Hid (RnsAt W.heap.size wr (.slice A4 rs.length c4) (rnTo l wd x a b last b)) := Lib.hid (by have FR := HRs.out; rw [e] at FR; rw [FR]; exact Go.Joins.ownsRow_le HO.out K2.out.size)
          have KF := Lib.hid (K2.out.trans HKr.out)
          clear e
          go_wp2_with fail
          go_ret
          exact ⟨_, rfl, FIN.out, KF.out⟩
end Go.Proofs.YtfnkokfkhjdkfaaDoor

/-
  Contract of the package set: Lines.
-/
namespace Go.Proofs.YtfnkokfkhjdkfaaDoor
open Go.RowKit Go.Lib Go.Maps

/-- The runs of the line that ends at the j-th place. -/
def lnAt (l : List It) (wd x : Int) (es : List Nat) (j : Nat) : List Rn := match es[j]? with
  | some e => rnTo l wd x (nextF (es.take j)) e (mustP l e) e
  | none => []
theorem nextF_at {es : List Nat} {i e : Nat} (h : es[i]? = some e) : nextF (es.take (i + 1)) = e + 1 := by
  unfold nextF
  rw [List.take_add_one, h]
  simp
theorem NsAt.own {W : World} {n₀ : Nat} {es : List Nat} {v : Value} (h : W.ownsRow n₀ 3 1 v es.length (nsR es)) : NsAt W es v := by
  rcases h.2 with ⟨rfl, h0⟩ | ⟨g, cap, cur, rfl, _, _, h1, h2, _⟩
  · exact ⟨none, 0, by rw [h0], by omega, Nat.zero_le _, fun q => by omega⟩
  · refine ⟨_, cap, rfl, h1, h2, fun _ => ⟨g, 0, rfl, fun i hi => ?_⟩⟩
    rw [Nat.zero_add, World.ownsRow.cellAt h i (by omega)]
    unfold nsR
    rw [List.getElem?_map, List.getElem?_eq_getElem hi]
    rfl
set_option maxRecDepth 100000 in
set_option maxHeartbeats 16000000 in
theorem slines_any (l : List It) (lv ev : Value) (es : List Nat) (x wd c : Int) (W : World) (hA : IsAt W l lv) (hE : NsAt W es ev) (hl : l.length ≤ 100000) (hes : es.length ≤ 200000) (hc : Chain l wd es (l.length + 1) c) (hp : ∀ y ∈ l, PlIt y) (hx : ∀ y ∈ l, itW y) (h1 : -1152921504606846976 ≤ wd) (h2 : wd ≤ 1152921504606846976) (x0 : -1099511627776 ≤ x) (x1 : x ≤ 1099511627776) :
    Calls Tryd.prog 15 #[lv, ev, .int .i64 x, .int .i64 wd] W fun e w' => ∃ v ls, e = .returned v ∧ LnsAt W.heap.size w' v ls ∧ ls.map Prod.fst = (List.range es.length).map (lnAt l wd x es) ∧ Keeps W w' := by
  have LI := Lib.hid (fun a b last (hab : a ≤ b) (hb : b ≤ l.length) W1 (k : Keeps W W1) => sline_any l lv a b x wd last W1 (hA.keep k) hab hb hl hp hx h1 h2 x0 x1)
  have LA := Lib.hid (fun i (hi : i ≤ l.length) W1 (k : Keeps W W1) => slast_any l lv i W1 (hA.keep k) hi)
  obtain ⟨A, cap, rfl, c1, c2, _⟩ := hA
  obtain ⟨B, cp, rfl, c3, c4, h4⟩ := hE
  unfold maxLen at c2 c4
  have HC : Hid (∀ i, i < es.length → ∃ (g o e : Nat), B = some ⟨g, o, none⟩ ∧ es[i]? = some e ∧ nextF (es.take i) ≤ e ∧ e ≤ l.length ∧ ∀ W1, Keeps W W1 → W1.cell? ⟨g, o + i, none⟩ = some (.int .i64 e)) := Lib.hid fun i hi => by
    obtain ⟨g, o, e, hcell⟩ := h4 (by omega)
    obtain ⟨_, _, _, hq1, hq2, _⟩ := hc.at_ hi
    exact ⟨g, o, es[i], e, List.getElem?_eq_getElem hi, hq1, hq2, fun W1 k => k.cell2 (hcell i hi)⟩
  obtain ⟨n, hn⟩ : ∃ n, l.length = n := ⟨_, rfl⟩
  have HN := Lib.hid hn
  obtain ⟨m, hm⟩ : ∃ m, es.length = m := ⟨_, rfl⟩
  rw [hm] at HC c3 hes ⊢
  rw [hn] at c1 hl LI LA HC ⊢
  clear hn hx hp hc h4 hm
  go_enter Tryd.func15, Tryd.ntmps15
  go_wp2_with fail
  go_loopw [9, 10, 15] (fun u y z wr => ∃ (i f : Nat) (A9 : Option Addr) (c9 : Nat) (ls : List (List Rn × Value)), i ≤ m ∧ u = .slice A9 ls.length c9 ∧ y = .int .i64 f ∧ z = .int .i64 i ∧ Hid (ls.length = i) ∧ f ≤ n + 1 ∧ Hid (f = nextF (es.take i)) ∧ Hid (ls.map Prod.fst = (List.range i).map (lnAt l wd x es)) ∧ Hid (LnsAt W.heap.size wr (.slice A9 ls.length c9) ls) ∧ Hid (Keeps W wr)) (fun _ _ z _ => m - (RowKit.intOf z).toNat)
  case atStart => exact ⟨0, 0, none, 0, [], Nat.zero_le _, rfl, rfl, rfl, Lib.hid rfl, by omega, Lib.hid rfl, Lib.hid rfl, Lib.hid (LnsAt.nil _ _), Lib.hid (Keeps.refl _)⟩
  case round =>
    obtain ⟨i, f, A9, c9, ls, hi, rfl, rfl, rfl, hli, hfn, HF, HL, HO, HK⟩ := hrel
    by_cases ci : i < m
    · obtain ⟨g, o, e, rfl, he, hf1, hf2, hcell⟩ := HC.out i ci
      rw [← HF.out] at hf1
      have y0 := hcell wr HK.out
      have t1 : decide ((i : Int) < (m : Int)) = true := decide_eq_true (by omega)
      have LAe := Lib.hid (LA.out e hf2 wr HK.out)
      have LIe := Lib.hid (LI.out f e (mustP l e) hf1 hf2 wr HK.out)
      have HL2 : Hid (∀ y, (ls ++ [(rnTo l wd x f e (mustP l e) e, y)]).map Prod.fst = (List.range (i + 1)).map (lnAt l wd x es)) := Lib.hid (fun y => by
        rw [List.map_append, HL.out, List.range_succ, List.map_append]
        congr 1
        show [_] = [lnAt l wd x es i]
        unfold lnAt
        rw [he]
        simp only
        rw [← HF.out])
      have HF2 : Hid (e + 1 = nextF (es.take (i + 1))) := Lib.hid (nextF_at he).symm
      have j0 : (0 : Int) ≤ (i : Int) := by omega
      have j1 : (i : Int) < (m : Int) := by omega
      generalize rnTo l wd x f e (mustP l e) e = rs at *
      generalize mustP l e = lst at *
      clear he hcell
      go_wp2_with fail
      refine LAe.out.mono ?_
      rintro e1 w1 ⟨rfl, rfl⟩
      go_wp2_with fail
      refine LIe.out.mono ?_
      rintro e1 w2 ⟨v2, rfl, R2, k2⟩
      have hny : v2.ownBlock ≠ (Value.slice A9 ls.length c9).ownBlock ∨ v2.ownBlock = none := by
        cases h : v2.ownBlock with
        | none => exact .inr rfl
        | some b =>
          refine .inl (fun e2 => ?_)
          have q1 := (World.ownsRow.lt R2 b h).1
          have q2 := (World.ownsRow.lt HO.out.row b e2.symm).2
          omega
      obtain ⟨A8, c8, w8, ra, R8, K8⟩ := lns_made (w0 := W) (HO.out.keep k2) (Go.Joins.ownsRow_le R2 HK.out.size) hny (HK.out.trans k2) (by have := hli.out; omega)
      obtain ⟨A2, cp2, rfl, _, _, _⟩ := R2.form
      have el : (ls ++ [(rs, Value.slice A2 rs.length cp2)]).length = ls.length + 1 := by simp
      have HO8 : Hid (LnsAt W.heap.size w8 (.slice A8 (ls ++ [(rs, Value.slice A2 rs.length cp2)]).length c8) (ls ++ [(rs, Value.slice A2 rs.length cp2)])) := Lib.hid (by rw [el]; exact R8)
      have HK8 := Lib.hid K8
      have HEL := Lib.hid el
      clear R2 R8 K8 k2 hny el
      go_wp2_with (at_builtin; refine wpList_append_run rfl (.tmp 19) (.tmp 29) _ _ rfl _ _ (by rfl) (by rfl) _ _ ra ?_)
      go_roundw
      case rel => exact ⟨i + 1, e + 1, A8, c8, _, by omega, by rw [HEL.out], by go_num, by go_num, Lib.hid (by rw [HEL.out, hli.out]), by omega, HF2, Lib.hid (HL2.out _), HO8, HK8⟩
      case measure => simp only [RowKit.intOf]; omega
    · have e : i = m := by omega
      have t1 : decide ((i : Int) < (m : Int)) = false := decide_eq_false (by omega)
      have FL : Hid (ls.map Prod.fst = (List.range m).map (lnAt l wd x es)) := Lib.hid (by rw [← e]; exact HL.out)
      clear e
      go_wp2_with fail
      go_ret
      exact ⟨_, ls, rfl, HO.out, FL.out, HK.out⟩
end Go.Proofs.YtfnkokfkhjdkfaaDoor

/-
  The law's awake: the document's examples.
-/
namespace Go.Proofs.YtfnkokfkhjdkfaaDoor
open Go.RowKit Go.Lib Go.Maps

def awS : List It := [⟨1, 40, 0, 0, 0, [97], 0, 0, 0⟩, ⟨2, 12, 6, 4, 0, [], 0, 0, 0⟩, ⟨1, 40, 0, 0, 0, [98], 0, 0, 0⟩]
theorem awS_p : ∀ y ∈ awS, PlIt y := fun y hy => by
  simp only [awS, List.mem_cons, List.not_mem_nil, or_false] at hy
  rcases hy with rfl | rfl | rfl
  · exact ⟨.inl rfl, fun _ => ⟨by decide, rfl, rfl⟩, fun h => absurd h (by decide), fun h => absurd h (by decide)⟩
  · exact ⟨.inr (.inl rfl), fun h => absurd h (by decide), fun _ => ⟨by decide, by decide, by decide, by decide, by decide⟩, fun h => absurd h (by decide)⟩
  · exact ⟨.inl rfl, fun _ => ⟨by decide, rfl, rfl⟩, fun h => absurd h (by decide), fun h => absurd h (by decide)⟩
theorem awS_w : ∀ y ∈ awS, itW y := fun y hy => by
  simp only [awS, List.mem_cons, List.not_mem_nil, or_false] at hy
  rcases hy with rfl | rfl | rfl <;> (unfold itW; decide)
def awA : List Rn := [⟨5, 0, 40, 0, 0, [97], 0⟩, ⟨65, 0, 40, 0, 0, [98], 0⟩]
def awB : List Rn := [⟨5, 0, 40, 0, 0, [97], 0⟩, ⟨57, 0, 40, 0, 0, [98], 0⟩]
theorem awA_is : rnTo awS 100 5 0 3 false 3 = awA := by kernel_rfl
theorem awB_is : rnTo awS 100 5 0 3 true 3 = awB := by kernel_rfl
theorem awC_0 : lnAt awS 60 0 [1, 3] 0 = [⟨0, 0, 40, 0, 0, [97], 0⟩] := by kernel_rfl
theorem awC_1 : lnAt awS 60 0 [1, 3] 1 = [⟨0, 0, 40, 0, 0, [98], 0⟩] := by kernel_rfl
theorem awS_chain : ∃ c, Chain awS 60 [1, 3] (awS.length + 1) c := by
  obtain ⟨p, hp⟩ := Option.isSome_iff_exists.1 (show (canO awS 60 0 1).isSome = true by kernel_rfl)
  obtain ⟨q, hq⟩ := Option.isSome_iff_exists.1 (show (canO awS 60 2 3).isSome = true by kernel_rfl)
  exact ⟨_, .snoc 3 q (.snoc 1 p .nil (by decide) (by decide) (by kernel_rfl) hp) (by decide) (by decide) (by kernel_rfl) hq⟩
theorem awS_at (w : World) : IsAt (w.alloc (.cells #[.int .i64 1, .int .i64 40, .int .i64 0, .int .i64 0, .int .i64 0, .string ⟨#[97]⟩, .int .i64 0, .int .i64 0, .int .i64 0, .int .i64 2, .int .i64 12, .int .i64 6, .int .i64 4, .int .i64 0, .string ⟨#[]⟩, .int .i64 0, .int .i64 0, .int .i64 0, .int .i64 1, .int .i64 40, .int .i64 0, .int .i64 0, .int .i64 0, .string ⟨#[98]⟩, .int .i64 0, .int .i64 0, .int .i64 0] 42)) awS (.slice (some ⟨w.heap.size, 0, none⟩) 3 3) :=
  ⟨_, 3, rfl, Nat.le_refl _, by decide, fun _ => ⟨_, 0, rfl, fun i hi j u hu => by
    have hj : j < 9 := (List.getElem?_eq_some_iff.1 hu).1
    rw [Nat.zero_add]
    refine (Blk.new w 42 _).cell _ ?_
    have h3 : i < 3 := hi
    obtain rfl | rfl | rfl : i = 0 ∨ i = 1 ∨ i = 2 := by omega
    · rw [← hu]
      obtain rfl | rfl | rfl | rfl | rfl | rfl | rfl | rfl | rfl : j = 0 ∨ j = 1 ∨ j = 2 ∨ j = 3 ∨ j = 4 ∨ j = 5 ∨ j = 6 ∨ j = 7 ∨ j = 8 := by omega
      all_goals rfl
    · rw [← hu]
      obtain rfl | rfl | rfl | rfl | rfl | rfl | rfl | rfl | rfl : j = 0 ∨ j = 1 ∨ j = 2 ∨ j = 3 ∨ j = 4 ∨ j = 5 ∨ j = 6 ∨ j = 7 ∨ j = 8 := by omega
      all_goals rfl
    · rw [← hu]
      obtain rfl | rfl | rfl | rfl | rfl | rfl | rfl | rfl | rfl : j = 0 ∨ j = 1 ∨ j = 2 ∨ j = 3 ∨ j = 4 ∨ j = 5 ∨ j = 6 ∨ j = 7 ∨ j = 8 := by omega
      all_goals rfl⟩⟩
theorem ns_two13 (w : World) : NsAt (w.alloc (.cells #[.int .i64 1, .int .i64 3] 3)) [1, 3] (.slice (some ⟨w.heap.size, 0, none⟩) 2 2) :=
  ⟨_, 2, rfl, Nat.le_refl _, by decide, fun _ => ⟨_, 0, rfl, fun i hi => by
    have h2 : i < 2 := hi
    rw [Nat.zero_add]
    refine (Blk.new w 3 _).cell _ ?_
    obtain rfl | rfl : i = 0 ∨ i = 1 := by omega
    all_goals rfl⟩⟩
set_option maxRecDepth 100000 in
set_option maxHeartbeats 16000000 in
theorem awake19_any (w : World) : Calls Tryd.prog 12 #[] w fun e w' => e = .returned (.bool true) ∧ Keeps w w' := by
  obtain ⟨c, hc⟩ := awS_chain
  have AT := Lib.hid (awS_at w)
  have K0 := Lib.hid (fun o => (Keeps.refl w).alloc o)
  have L1 := Lib.hid (fun W1 (h : IsAt W1 awS (.slice (some ⟨w.heap.size, 0, none⟩) 3 3)) => sline_any awS (.slice (some ⟨w.heap.size, 0, none⟩) 3 3) 0 3 5 100 false W1 h (by decide) (by decide) (by decide) awS_p awS_w (by decide) (by decide) (by decide) (by decide))
  have L2 := Lib.hid (fun W1 (h : IsAt W1 awS (.slice (some ⟨w.heap.size, 0, none⟩) 3 3)) => sline_any awS (.slice (some ⟨w.heap.size, 0, none⟩) 3 3) 0 3 5 100 true W1 h (by decide) (by decide) (by decide) awS_p awS_w (by decide) (by decide) (by decide) (by decide))
  have L3 := Lib.hid (fun W1 ev (h : IsAt W1 awS (.slice (some ⟨w.heap.size, 0, none⟩) 3 3)) (h2 : NsAt W1 [1, 3] ev) => slines_any awS (.slice (some ⟨w.heap.size, 0, none⟩) 3 3) ev [1, 3] 0 60 c W1 h h2 (by decide) (by decide) hc awS_p awS_w (by decide) (by decide) (by decide) (by decide))
  rw [awA_is] at L1
  rw [awB_is] at L2
  clear hc
  go_enter Tryd.func12, Tryd.ntmps12
  go_wp2_with fail
  refine (L1.out _ AT.out).mono ?_
  rintro e w1 ⟨v1, rfl, R1, k1⟩
  obtain ⟨A1, c1, rfl, q1, q2, q3⟩ := R1.form
  obtain ⟨g1, rfl⟩ := q3 (by decide)
  rw [show awA.length = 2 from rfl] at *
  have A1 := Lib.hid (AT.out.keep k1)
  have H1 := Lib.hid R1
  have K1 := Lib.hid ((K0.out _).trans k1)
  clear R1 k1 q3
  go_wp2_with fail
  refine (L2.out _ A1.out).mono ?_
  rintro e w2 ⟨v2, rfl, R2, k2⟩
  obtain ⟨A2, c2, rfl, p1, p2, p3⟩ := R2.form
  obtain ⟨g2, rfl⟩ := p3 (by decide)
  rw [show awB.length = 2 from rfl] at *
  have A2 := Lib.hid (A1.out.keep k2)
  have H2 := Lib.hid R2
  have H12 := Lib.hid (H1.out.keep k2)
  have K2 := Lib.hid (K1.out.trans k2)
  clear R2 k2 p3
  go_wp2_with fail
  refine (L3.out _ _ (A2.out.keep ((Keeps.refl w2).alloc _)) (ns_two13 w2)).mono ?_
  rintro e w3 ⟨v3, ls, rfl, R3, E3, k3⟩
  have KA := ((Keeps.refl w2).alloc (.cells #[.int .i64 1, .int .i64 3] 3)).trans k3
  have K3 := Lib.hid (K2.out.trans KA)
  have hl2 : ls.length = 2 := by
    have := congrArg List.length E3
    simpa using this
  obtain ⟨x0, x1, rfl⟩ : ∃ x0 x1, ls = [x0, x1] := by
    match ls, hl2 with
    | [x0, x1], _ => exact ⟨x0, x1, rfl⟩
  obtain ⟨r0, v0⟩ := x0
  obtain ⟨r1, v1⟩ := x1
  have E4 : [r0, r1] = [lnAt awS 60 0 [1, 3] 0, lnAt awS 60 0 [1, 3] 1] := E3
  injection E4 with e0 E5
  injection E5 with e1 _
  rw [awC_0] at e0
  rw [awC_1] at e1
  subst e0 e1
  obtain ⟨Q0, _⟩ := R3.at_ _ List.mem_cons_self
  obtain ⟨Q1, _⟩ := R3.at_ _ (List.mem_cons_of_mem _ List.mem_cons_self)
  obtain ⟨B0, d0, hv0, _, _, _⟩ := Q0.form
  obtain ⟨B1, d1, hv1, o1, o2, o3⟩ := Q1.form
  obtain ⟨g4, rfl⟩ := o3 (by simp)
  obtain ⟨A3, c3, rfl, u1, u2, u3⟩ := R3.form
  obtain ⟨g3, rfl⟩ := u3 (by simp)
  simp only at hv0 hv1 Q1
  have l0 : w3.cell? ⟨g3, 0, none⟩ = some v0 := R3.cell (i := 0) (by simp)
  have l1 : w3.cell? ⟨g3, 1, none⟩ = some v1 := R3.cell (i := 1) (by simp)
  rw [hv0] at l0
  rw [hv1] at l1 Q1
  have m5 : w3.cell? ⟨g4, 5, none⟩ = some (.string ⟨#[98]⟩) := Q1.cell (i := 0) (by decide) 5 (by decide)
  have a0 : w3.cell? ⟨g1, 0, none⟩ = some (.int .i64 5) := KA.cell2 (H12.out.cell (rs := awA) (i := 0) (by decide) 0 (by decide))
  have a7 : w3.cell? ⟨g1, 7, none⟩ = some (.int .i64 65) := KA.cell2 (H12.out.cell (rs := awA) (i := 1) (by decide) 0 (by decide))
  have b7 : w3.cell? ⟨g2, 7, none⟩ = some (.int .i64 57) := KA.cell2 (H2.out.cell (rs := awB) (i := 1) (by decide) 0 (by decide))
  simp only [List.length_cons, List.length_nil, Nat.zero_add] at l0 l1 u1
  clear Q0 Q1 R3 E3 k3 KA hv0 hv1 H1 H2 H12 A1 A2 L1 L2 L3
  unfold maxLen at *
  go_wp2_with fail
  go_ret
  exact ⟨rfl, K3.out⟩
end Go.Proofs.YtfnkokfkhjdkfaaDoor


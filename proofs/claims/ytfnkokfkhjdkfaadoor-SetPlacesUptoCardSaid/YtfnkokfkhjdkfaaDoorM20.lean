/-
  Texts of the proof, one behind the other: Wcw, Wcs, Srb.
-/
import Derived.Test.YtfnkokfkhjdkfaaDoorM4
import Derived.Test.YtfnkokfkhjdkfaaDoorM16
import Derived.Test.YtfnkokfkhjdkfaaDoorM18
import Derived.Test.YtfnkokfkhjdkfaaDoorM15
import Derived.Test.YtfnkokfkhjdkfaaDoorM3
import Derived.Test.YtfnkokfkhjdkfaaDoorM9
import Derived.Deep.RegionLaw
/-
  Contracts of the package wrap: measure's with.
-/
namespace Go.Proofs.YtfnkokfkhjdkfaaDoor
open Go.RowKit Go.Lib Go.Maps

def meV (m : Me) : Value := .agg #[.int .i64 m.w, .int .i64 m.g, .int .i64 m.s]
/-- What a line costs, if it can be. -/
def pcV : Option Int → Value
  | none => .tuple #[.int .i64 0, .bool false]
  | some p => .tuple #[.int .i64 p, .bool true]
/-- Far from overflowing. -/
def meB (m : Me) : Prop := (-1152921504606846976 ≤ m.w ∧ m.w ≤ 1152921504606846976) ∧ (-1152921504606846976 ≤ m.g ∧ m.g ≤ 1152921504606846976) ∧ (-1152921504606846976 ≤ m.s ∧ m.s ≤ 1152921504606846976)
set_option maxRecDepth 100000 in
set_option maxHeartbeats 4000000 in
theorem with_any (m : Me) (x : It) (g o : Nat) (W : World) (hr : W.rangeAt g o (itC x)) (hm : meB m) (hx : itW x) :
    Calls Tryd.prog 85 #[meV m, .pointer (some ⟨g, o, none⟩)] W fun e w' => e = .returned (meV (meAdd m x)) ∧ Keeps W w' := by
  have lt := range_lt hr (by rw [itC_len]; decide)
  have y0 : W.cell? ⟨g, o, none⟩ = some (.int .i64 x.kind) := hr 0 _ rfl
  have y1 : W.cell? ⟨g, o + 1, none⟩ = some (.int .i64 x.width) := hr 1 _ rfl
  have y2 : W.cell? ⟨g, o + 2, none⟩ = some (.int .i64 x.grow) := hr 2 _ rfl
  have y3 : W.cell? ⟨g, o + 3, none⟩ = some (.int .i64 x.shrink) := hr 3 _ rfl
  obtain ⟨⟨m1, m2⟩, ⟨m3, m4⟩, m5, m6⟩ := hm
  obtain ⟨⟨x1, x2⟩, ⟨x3, x4⟩, x5, x6⟩ := hx
  obtain ⟨mw, mg, ms⟩ := m
  obtain ⟨k, w, gr, s, c, cs, f, sz, lk⟩ := x
  clear hr
  simp only at *
  unfold meV meAdd
  by_cases hk : k = 3
  · subst hk
    rw [if_pos rfl]
    simp only
    go_enter Tryd.func85, Tryd.ntmps85
    go_wp2_with fail
    exact ret_blk rfl rfl rfl (blk_two _ _ _ _) Tryd.underlying109 (by kernel_rfl) ⟨rfl, keeps_two _ _ _⟩
  · have t : (k == 3) = false := beqF hk
    rw [if_neg hk]
    simp only
    go_enter Tryd.func85, Tryd.ntmps85
    have bs := (Blk.new W 109 #[.int .i64 mw, .int .i64 mg, .int .i64 ms]).alloc (.cells #[.int .i64 0, .int .i64 0, .int .i64 0] 109)
    go_wp2_with fail
    go_region
    go_wp2_with fail
    exact ret_blk rfl rfl rfl (blk_two _ _ _ _).drew Tryd.underlying109 (by kernel_rfl) ⟨rfl, (keeps_two _ _ _).drew⟩
end Go.Proofs.YtfnkokfkhjdkfaaDoor

/-
  Contracts of the package wrap: measureOf, Sum.
-/
namespace Go.Proofs.YtfnkokfkhjdkfaaDoor
open Go.RowKit Go.Lib Go.Maps

theorem sub_B {l : List It} (h : ∀ x ∈ l, itW x) {j k : Nat} (hj : j ≤ 100000) (hk : k ≤ 100000) : meB (meSub (preM l j) (preM l k)) := by
  obtain ⟨a1, a2, a3⟩ := preM_bd h j
  obtain ⟨b1, b2, b3⟩ := preM_bd h k
  unfold meB meSub
  simp only
  refine ⟨⟨?_, ?_⟩, ⟨?_, ?_⟩, ?_, ?_⟩ <;> omega
theorem pre_B {l : List It} (h : ∀ x ∈ l, itW x) {j : Nat} (hj : j ≤ 100000) : meB (preM l j) := by
  obtain ⟨a1, a2, a3⟩ := preM_bd h j
  unfold meB
  refine ⟨⟨?_, ?_⟩, ⟨?_, ?_⟩, ?_, ?_⟩ <;> omega
theorem sub_add (a b : Me) (x : It) : meAdd (meSub a b) x = meSub (meAdd a x) b := by
  unfold meAdd meSub
  split
  · rfl
  · simp only [Me.mk.injEq]
    refine ⟨?_, ?_, ?_⟩ <;> omega
theorem sub_self (a : Me) : meSub a a = meZ := by unfold meSub meZ; simp
def meC (m : Me) : Array Value := #[.int .i64 m.w, .int .i64 m.g, .int .i64 m.s]
set_option maxRecDepth 100000 in
set_option maxHeartbeats 4000000 in
theorem measureOf_any (l : List It) (lv : Value) (a b : Nat) (W : World) (hA : IsAt W l lv) (hab : a ≤ b) (hb : b ≤ l.length) (hl : l.length ≤ 100000) (hx : ∀ x ∈ l, itW x) :
    Calls Tryd.prog 78 #[lv, .int .i64 a, .int .i64 b] W fun e w' => e = .returned (meV (btw l a b)) ∧ Keeps W w' := by
  obtain ⟨A, cap, rfl, h1, h2, h3⟩ := hA
  unfold maxLen at h2
  have HC : Hid (∀ i, i < l.length → ∃ (g o : Nat) (x : It), A = some ⟨g, o, none⟩ ∧ l[i]? = some x ∧ W.rangeAt g (o + i * 9) (itC x)) := Lib.hid fun i hi => by
    obtain ⟨g, o, e, hc⟩ := h3 (by omega)
    exact ⟨g, o, l[i], e, List.getElem?_eq_getElem hi, hc i hi⟩
  clear h3
  have HX := Lib.hid hx
  have HL := Lib.hid hl
  obtain ⟨n, hn⟩ : ∃ n, l.length = n := ⟨_, rfl⟩
  have HN := Lib.hid hn
  rw [hn] at h1 hb hl ⊢
  clear hn hx
  have ta : max (a : Int) 0 = (a : Int) := by omega
  have tb : min (b : Int) (n : Int) = (b : Int) := by omega
  have B0 := Blk.new W 109 #[.int .i64 0, .int .i64 0, .int .i64 0]
  go_enter Tryd.func78, Tryd.ntmps78
  go_wp2_with fail
  go_loop [1] (fun y => ∃ k : Nat, a ≤ k ∧ k ≤ b ∧ y = .int .i64 k ∧ Hid (bxF l k = bxF l a)) (fun y => b - (RowKit.intOf y).toNat)
  case atStart => exact ⟨a, Nat.le_refl _, hab, rfl, Lib.hid rfl⟩
  case round =>
    obtain ⟨k, hk1, hk2, rfl, HB⟩ := hrel
    by_cases c : k < b
    · obtain ⟨g, o, x, rfl, hx, hr⟩ := HC.out k (by rw [HN.out]; omega)
      have y0 : W.cell? ⟨g, o + k * 9, none⟩ = some (.int .i64 x.kind) := hr 0 _ rfl
      have lt := World.block_lt_of_cell? W _ y0
      simp only at lt
      have t1 : decide ((k : Int) < (b : Int)) = true := decide_eq_true (by omega)
      obtain ⟨hkl, hxe⟩ := List.getElem?_eq_some_iff.1 hx
      by_cases q : x.kind = 1
      · have HK : Hid (min (bxF l a) b = k) := Lib.hid (by
          rw [← HB.out, bxF_box hkl (by rw [hxe]; exact q)]; omega)
        rw [q] at y0
        clear hr hx hxe hkl
        go_wp2_with fail
        go_loopw [8] (fun y wr => ∃ j : Nat, k ≤ j ∧ j ≤ b ∧ y = .int .i64 j ∧ Hid (Blk wr (W.heap.size + 1) 109 (meC (meSub (preM l j) (preM l k)))) ∧ Hid (Keeps (W.alloc (.cells #[.int .i64 0, .int .i64 0, .int .i64 0] 109)) wr)) (fun y _ => b - (RowKit.intOf y).toNat)
        case atStart => exact ⟨k, Nat.le_refl _, hk2, rfl, Lib.hid (by rw [sub_self]; exact blk_two _ _ _ _), Lib.hid ((Keeps.refl _).alloc _)⟩
        case round =>
          obtain ⟨j, hj1, hj2, rfl, HBk, HKp⟩ := hrel
          by_cases cj : j < b
          · obtain ⟨g2, o2, x, eA, hx, hr⟩ := HC.out j (by rw [HN.out]; omega)
            cases eA
            have hxw := HX.out x (List.mem_of_getElem? hx)
            obtain ⟨hjl, hxe⟩ := List.getElem?_eq_some_iff.1 hx
            have HNx : Hid (meAdd (meSub (preM l j) (preM l k)) x = meSub (preM l (j + 1)) (preM l k)) := Lib.hid (by rw [sub_add, preM_next hjl, hxe])
            have hB := sub_B HX.out (j := j) (k := k) (by omega) (by omega)
            have hlt := range_lt hr (by rw [itC_len]; decide)
            have hW1 : (W.alloc (.cells #[.int .i64 0, .int .i64 0, .int .i64 0] 109)).heap.size = W.heap.size + 1 := by simp
            have hKW := ((Keeps.refl W).alloc (.cells #[.int .i64 0, .int .i64 0, .int .i64 0] 109)).trans HKp.out
            have WI := Lib.hid (fun w1 (q : Keeps wr w1) => with_any (meSub (preM l j) (preM l k)) x g (o + j * 9) w1 (range_same hr ((hKW.trans q).block g hlt)) hB hxw)
            rw [HNx.out] at WI
            have HS := Lib.hid (fun w1 (q : Keeps wr w1) => (HBk.out.keep q).set 0 (.int .i64 (meSub (preM l (j + 1)) (preM l k)).w) rfl |>.set 1 (.int .i64 (meSub (preM l (j + 1)) (preM l k)).g) rfl |>.set 2 (.int .i64 (meSub (preM l (j + 1)) (preM l k)).s) rfl)
            have HT := Lib.hid (fun w1 (q : Keeps wr w1) => (((HKp.out.trans q).set (Nat.le_of_eq hW1) 0 (.int .i64 (meSub (preM l (j + 1)) (preM l k)).w)).set (Nat.le_of_eq hW1) 1 (.int .i64 (meSub (preM l (j + 1)) (preM l k)).g)).set (Nat.le_of_eq hW1) 2 (.int .i64 (meSub (preM l (j + 1)) (preM l k)).s))
            have HB2 := Lib.hid (fun w1 (q : Keeps wr w1) => HBk.out.keep q)
            unfold meV meC at *
            obtain ⟨m2, hm2⟩ : ∃ m2, meSub (preM l (j + 1)) (preM l k) = m2 := ⟨_, rfl⟩
            have HM2 := Lib.hid hm2
            rw [hm2] at WI HS HT
            clear hm2
            generalize meSub (preM l j) (preM l k) = m at *
            obtain ⟨mw, mg, ms⟩ := m
            obtain ⟨nw, ng, ns⟩ := m2
            simp only at WI HS HT HB2 HBk
            have b0 := HBk.out.cell 0 (v := .int .i64 mw) rfl
            have b1 := HBk.out.cell 1 (v := .int .i64 mg) rfl
            have b2 := HBk.out.cell 2 (v := .int .i64 ms) rfl
            have lt2 := HBk.out.lt
            have i0 : (0 : Int) ≤ (j : Int) := by omega
            have i1 : (j : Int) < (n : Int) := by omega
            have t1 : decide ((j : Int) < (b : Int)) = true := decide_eq_true (by omega)
            clear hr hx hxe hjl hB hxw hKW HNx
            go_wp2_with fail
            go_region_law (go_simp; go_at_call 85; (with_reducible refine (WI.out _ (Keeps.refl _).drew).mono ?_); rintro e w1 ⟨rfl, k1⟩; have q1 := (Keeps.refl wr).drew.trans k1; have z0 := (HB2.out w1 q1).cell 0 (v := .int .i64 mw) rfl; have z1 := (HB2.out w1 q1).cell 1 (v := .int .i64 mg) rfl; have z2 := (HB2.out w1 q1).cell 2 (v := .int .i64 ms) rfl; have f0 := (HB2.out w1 q1).free 0; have f1 := (HB2.out w1 q1).free 1; have f2 := (HB2.out w1 q1).free 2)
            all_goals
              go_wp2_with fail
              go_roundw
              case rel => exact ⟨j + 1, by omega, by omega, by go_num, Lib.hid (by rw [HM2.out]; exact HS.out w1 q1), Lib.hid (HT.out w1 q1)⟩
              case measure => simp only [RowKit.intOf]; omega
          · have e : j = b := by omega
            have HR : Hid (btw l a b = meSub (preM l j) (preM l k)) := Lib.hid (by unfold btw; rw [HK.out, e])
            have t1 : decide ((j : Int) < (b : Int)) = false := decide_eq_false (by omega)
            have KW := Lib.hid (((Keeps.refl W).alloc (.cells #[.int .i64 0, .int .i64 0, .int .i64 0] 109)).trans HKp.out)
            have BR := B0.keep HKp.out
            unfold meV meC at *
            generalize meSub (preM l j) (preM l k) = m at *
            obtain ⟨mw, mg, ms⟩ := m
            simp only at HBk
            have b0 := HBk.out.cell 0 (v := .int .i64 mw) rfl
            have b1 := HBk.out.cell 1 (v := .int .i64 mg) rfl
            have b2 := HBk.out.cell 2 (v := .int .i64 ms) rfl
            have f0 := BR.free 0
            have f1 := BR.free 1
            have f2 := BR.free 2
            have r0 := BR.cell 0 (v := .int .i64 0) rfl
            have r1 := BR.cell 1 (v := .int .i64 0) rfl
            have r2 := BR.cell 2 (v := .int .i64 0) rfl
            have lt2 := BR.lt
            clear e
            go_wp2_with fail
            exact ret_blk rfl rfl rfl (((BR.set 0 _ rfl).set 1 _ rfl).set 2 _ rfl) Tryd.underlying109 (by kernel_rfl) ⟨by rw [HR.out]; rfl, ((KW.out.set (Nat.le_refl _) 0 _).set (Nat.le_refl _) 1 _).set (Nat.le_refl _) 2 _⟩
      · have HK : Hid (bxF l (k + 1) = bxF l a) := Lib.hid (by
          rw [← HB.out, bxF_next hkl (by rw [hxe]; exact q)])
        have tq : (x.kind == 1) = false := beqF q
        generalize x.kind = xk at *
        clear hr hx hxe hkl
        go_wp2_with fail
        go_round
        case rel => exact ⟨k + 1, by omega, by omega, by go_num, HK⟩
        case measure => simp only [RowKit.intOf]; omega
    · have HK : Hid (min (bxF l a) b = k) := Lib.hid (by
        have := bxF_ge l k
        rw [HB.out] at this; omega)
      have t1 : decide ((k : Int) < (b : Int)) = false := decide_eq_false (by omega)
      go_wp2_with fail
      go_loopw [8] (fun y wr => ∃ j : Nat, k ≤ j ∧ j ≤ b ∧ y = .int .i64 j ∧ Hid (Blk wr (W.heap.size + 1) 109 (meC (meSub (preM l j) (preM l k)))) ∧ Hid (Keeps (W.alloc (.cells #[.int .i64 0, .int .i64 0, .int .i64 0] 109)) wr)) (fun y _ => b - (RowKit.intOf y).toNat)
      case atStart => exact ⟨k, Nat.le_refl _, hk2, rfl, Lib.hid (by rw [sub_self]; exact blk_two _ _ _ _), Lib.hid ((Keeps.refl _).alloc _)⟩
      case round =>
        obtain ⟨j, hj1, hj2, rfl, HBk, HKp⟩ := hrel
        by_cases cj : j < b
        · obtain ⟨g, o, x, eA, hx, hr⟩ := HC.out j (by rw [HN.out]; omega)
          cases eA
          have hxw := HX.out x (List.mem_of_getElem? hx)
          obtain ⟨hjl, hxe⟩ := List.getElem?_eq_some_iff.1 hx
          have HNx : Hid (meAdd (meSub (preM l j) (preM l k)) x = meSub (preM l (j + 1)) (preM l k)) := Lib.hid (by rw [sub_add, preM_next hjl, hxe])
          have hB := sub_B HX.out (j := j) (k := k) (by omega) (by omega)
          have hlt := range_lt hr (by rw [itC_len]; decide)
          have hW1 : (W.alloc (.cells #[.int .i64 0, .int .i64 0, .int .i64 0] 109)).heap.size = W.heap.size + 1 := by simp
          have hKW := ((Keeps.refl W).alloc (.cells #[.int .i64 0, .int .i64 0, .int .i64 0] 109)).trans HKp.out
          have WI := Lib.hid (fun w1 (q : Keeps wr w1) => with_any (meSub (preM l j) (preM l k)) x g (o + j * 9) w1 (range_same hr ((hKW.trans q).block g hlt)) hB hxw)
          rw [HNx.out] at WI
          have HS := Lib.hid (fun w1 (q : Keeps wr w1) => (HBk.out.keep q).set 0 (.int .i64 (meSub (preM l (j + 1)) (preM l k)).w) rfl |>.set 1 (.int .i64 (meSub (preM l (j + 1)) (preM l k)).g) rfl |>.set 2 (.int .i64 (meSub (preM l (j + 1)) (preM l k)).s) rfl)
          have HT := Lib.hid (fun w1 (q : Keeps wr w1) => (((HKp.out.trans q).set (Nat.le_of_eq hW1) 0 (.int .i64 (meSub (preM l (j + 1)) (preM l k)).w)).set (Nat.le_of_eq hW1) 1 (.int .i64 (meSub (preM l (j + 1)) (preM l k)).g)).set (Nat.le_of_eq hW1) 2 (.int .i64 (meSub (preM l (j + 1)) (preM l k)).s))
          have HB2 := Lib.hid (fun w1 (q : Keeps wr w1) => HBk.out.keep q)
          unfold meV meC at *
          obtain ⟨m2, hm2⟩ : ∃ m2, meSub (preM l (j + 1)) (preM l k) = m2 := ⟨_, rfl⟩
          have HM2 := Lib.hid hm2
          rw [hm2] at WI HS HT
          clear hm2
          generalize meSub (preM l j) (preM l k) = m at *
          obtain ⟨mw, mg, ms⟩ := m
          obtain ⟨nw, ng, ns⟩ := m2
          simp only at WI HS HT HB2 HBk
          have b0 := HBk.out.cell 0 (v := .int .i64 mw) rfl
          have b1 := HBk.out.cell 1 (v := .int .i64 mg) rfl
          have b2 := HBk.out.cell 2 (v := .int .i64 ms) rfl
          have lt2 := HBk.out.lt
          have i0 : (0 : Int) ≤ (j : Int) := by omega
          have i1 : (j : Int) < (n : Int) := by omega
          have t1 : decide ((j : Int) < (b : Int)) = true := decide_eq_true (by omega)
          clear hr hx hxe hjl hB hxw hKW HNx
          go_wp2_with fail
          go_region_law (go_simp; go_at_call 85; (with_reducible refine (WI.out _ (Keeps.refl _).drew).mono ?_); rintro e w1 ⟨rfl, k1⟩; have q1 := (Keeps.refl wr).drew.trans k1; have z0 := (HB2.out w1 q1).cell 0 (v := .int .i64 mw) rfl; have z1 := (HB2.out w1 q1).cell 1 (v := .int .i64 mg) rfl; have z2 := (HB2.out w1 q1).cell 2 (v := .int .i64 ms) rfl; have f0 := (HB2.out w1 q1).free 0; have f1 := (HB2.out w1 q1).free 1; have f2 := (HB2.out w1 q1).free 2)
          all_goals
            go_wp2_with fail
            go_roundw
            case rel => exact ⟨j + 1, by omega, by omega, by go_num, Lib.hid (by rw [HM2.out]; exact HS.out w1 q1), Lib.hid (HT.out w1 q1)⟩
            case measure => simp only [RowKit.intOf]; omega
        · have e : j = b := by omega
          have HR : Hid (btw l a b = meSub (preM l j) (preM l k)) := Lib.hid (by unfold btw; rw [HK.out, e])
          have t1 : decide ((j : Int) < (b : Int)) = false := decide_eq_false (by omega)
          have KW := Lib.hid (((Keeps.refl W).alloc (.cells #[.int .i64 0, .int .i64 0, .int .i64 0] 109)).trans HKp.out)
          have BR := B0.keep HKp.out
          unfold meV meC at *
          generalize meSub (preM l j) (preM l k) = m at *
          obtain ⟨mw, mg, ms⟩ := m
          simp only at HBk
          have b0 := HBk.out.cell 0 (v := .int .i64 mw) rfl
          have b1 := HBk.out.cell 1 (v := .int .i64 mg) rfl
          have b2 := HBk.out.cell 2 (v := .int .i64 ms) rfl
          have f0 := BR.free 0
          have f1 := BR.free 1
          have f2 := BR.free 2
          have r0 := BR.cell 0 (v := .int .i64 0) rfl
          have r1 := BR.cell 1 (v := .int .i64 0) rfl
          have r2 := BR.cell 2 (v := .int .i64 0) rfl
          have lt2 := BR.lt
          clear e
          go_wp2_with fail
          exact ret_blk rfl rfl rfl (((BR.set 0 _ rfl).set 1 _ rfl).set 2 _ rfl) Tryd.underlying109 (by kernel_rfl) ⟨by rw [HR.out]; rfl, ((KW.out.set (Nat.le_refl _) 0 _).set (Nat.le_refl _) 1 _).set (Nat.le_refl _) 2 _⟩
theorem ret_three {a b c d e f : Int} (h : a = b) (k : c = d) (j : e = f) : Ending.returned (.tuple #[.int .i64 a, .int .i64 c, .int .i64 e]) = .returned (.tuple #[.int .i64 b, .int .i64 d, .int .i64 f]) := by rw [h, k, j]
set_option maxRecDepth 100000 in
set_option maxHeartbeats 4000000 in
theorem wsum_any (l : List It) (lv : Value) (a b : Nat) (W : World) (hA : IsAt W l lv) (hab : a ≤ b) (hb : b ≤ l.length) (hl : l.length ≤ 100000) (hx : ∀ x ∈ l, itW x) :
    Calls Tryd.prog 65 #[lv, .int .i64 a, .int .i64 b] W fun e w' => e = .returned (.tuple #[.int .i64 (btw l a b).w, .int .i64 (btw l a b).g, .int .i64 (btw l a b).s]) ∧ Keeps W w' := by
  have MO := Lib.hid (measureOf_any l lv a b W hA hab hb hl hx)
  unfold meV at MO
  generalize btw l a b = m at *
  obtain ⟨mw, mg, ms⟩ := m
  simp only at MO ⊢
  clear hA hx
  go_enter Tryd.func65, Tryd.ntmps65
  go_wp2_with fail
  refine MO.out.mono ?_
  rintro e w1 ⟨rfl, k1⟩
  go_wp2_with fail
  go_region
  go_wp2_with fail
  go_ret3
  exact ⟨rfl, (k1.alloc _).drew⟩
end Go.Proofs.YtfnkokfkhjdkfaaDoor

/-
  Contracts of the document's Legal, forced, Sum.
-/
namespace Go.Proofs.YtfnkokfkhjdkfaaDoor
open Go.RowKit Go.Lib Go.Maps

theorem bneJ {x y : Int} (h : x ≠ y) : (x != y) = true := by rw [bne_iff_ne]; exact h
theorem bneE {x y : Int} (h : x = y) : (x != y) = false := by rw [bne_eq_false_iff_eq]; exact h
set_option maxRecDepth 100000 in
set_option maxHeartbeats 4000000 in
theorem rmust_any (l : List It) (lv : Value) (i : Nat) (W : World) (hA : IsAt W l lv) (hi : i ≤ l.length) :
    Calls Tryd.prog 44 #[lv, .int .i64 i] W fun e w' => e = .returned (.bool (mustP l i)) ∧ W = w' := by
  obtain ⟨A, cap, rfl, h1, h2, h3⟩ := hA
  unfold maxLen at h2
  by_cases e : i = l.length
  · have R := Lib.hid (must_end l)
    clear h3 hi
    subst e
    generalize mustP l l.length = b at *
    generalize l.length = n at *
    go_enter Tryd.func44, Tryd.ntmps44
    go_wp2_with fail
    go_ret
    exact ⟨ret_bool R.out.symm, rfl⟩
  · have hlt : i < l.length := by omega
    obtain ⟨g, o, rfl, hc⟩ := h3 (by omega)
    have hr := hc i hlt
    have y0 : W.cell? ⟨g, o + i * 9, none⟩ = some (.int .i64 l[i].kind) := hr 0 _ rfl
    have y4 : W.cell? ⟨g, o + i * 9 + 4, none⟩ = some (.int .i64 l[i].cost) := hr 4 _ rfl
    by_cases hk : l[i].kind = 3
    · have R := Lib.hid (must_pen hlt hk)
      rw [hk] at y0
      generalize mustP l i = b at *
      generalize l[i].cost = c at *
      clear h3 hk hr hc
      generalize l.length = n at *
      have t : ((i : Int) == (n : Int)) = false := beqF (by omega)
      go_enter Tryd.func44, Tryd.ntmps44
      go_wp2_with fail
      go_ret
      exact ⟨ret_bool R.out.symm, rfl⟩
    · have R := Lib.hid (must_else hlt hk)
      have tk : (l[i].kind == 3) = false := beqF hk
      generalize mustP l i = b at *
      generalize l[i].kind = k at *
      generalize l[i].cost = c at *
      clear h3 hr hc hk
      generalize l.length = n at *
      have t : ((i : Int) == (n : Int)) = false := beqF (by omega)
      go_enter Tryd.func44, Tryd.ntmps44
      go_wp2_with fail
      go_ret
      exact ⟨ret_bool R.out.symm, rfl⟩
set_option maxRecDepth 100000 in
set_option maxHeartbeats 4000000 in
theorem rlegal_any (l : List It) (lv : Value) (i : Nat) (W : World) (hA : IsAt W l lv) (hi : i ≤ l.length) :
    Calls Tryd.prog 25 #[lv, .int .i64 i] W fun e w' => e = .returned (.bool (legP l i)) ∧ W = w' := by
  obtain ⟨A, cap, rfl, h1, h2, h3⟩ := hA
  unfold maxLen at h2
  by_cases e : i = l.length
  · have R := Lib.hid (leg_end l)
    clear h3 hi
    subst e
    generalize legP l l.length = b at *
    generalize l.length = n at *
    go_enter Tryd.func25, Tryd.ntmps25
    go_wp2_with fail
    go_ret
    exact ⟨ret_bool R.out.symm, rfl⟩
  · have hlt : i < l.length := by omega
    obtain ⟨g, o, rfl, hc⟩ := h3 (by omega)
    have y0 : W.cell? ⟨g, o + i * 9, none⟩ = some (.int .i64 l[i].kind) := hc i hlt 0 _ rfl
    have y4 : W.cell? ⟨g, o + i * 9 + 4, none⟩ = some (.int .i64 l[i].cost) := hc i hlt 4 _ rfl
    have t : ((i : Int) == (l.length : Int)) = false := beqF (by omega)
    have t0 : decide ((i : Int) < 0) = false := decide_eq_false (by omega)
    have t1 : decide ((l.length : Int) < (i : Int)) = false := decide_eq_false (by omega)
    have t1' : decide (l.length < i) = false := decide_eq_false (by omega)
    have hne : ¬ i = l.length := e
    by_cases h2k : l[i].kind = 2
    · cases i with
      | zero =>
        have R := Lib.hid (leg_zero hlt h2k)
        rw [h2k] at y0
        generalize legP l 0 = b at *
        generalize l[0].cost = c at *
        clear h3 hc h2k
        generalize l.length = n at *
        have y0' : W.cell? ⟨g, o, none⟩ = some (.int .i64 2) := by simpa using y0
        have z1 : ((0 : Nat) : Int) = 0 := rfl
        rw [z1] at *
        have hn0 : (0 : Int) < (n : Int) := by omega
        have hn1 : ((0 : Int) == (n : Int)) = false := beqF (by omega)
        clear hne e
        go_enter Tryd.func25, Tryd.ntmps25
        go_wp2_with fail
        go_ret
        exact ⟨ret_bool R.out.symm, rfl⟩
      | succ j =>
        have R := Lib.hid (leg_glue hlt h2k)
        have yj : W.cell? ⟨g, o + j * 9, none⟩ = some (.int .i64 l[j].kind) := hc j (by omega) 0 _ rfl
        rw [h2k] at y0
        generalize legP l (j + 1) = b at *
        generalize l[j + 1].cost = c at *
        generalize l[j].kind = k at *
        clear h3 hc h2k
        generalize l.length = n at *
        have t2 : decide ((0 : Int) < ((j + 1 : Nat) : Int)) = true := decide_eq_true (by omega)
        have hw : IntKind.i64.wrap (((j + 1 : Nat) : Int) - 1) = (j : Int) := by rw [IntWalk.i64_in _ (by omega)]; omega
        have j0 : (0 : Int) ≤ (j : Int) := by omega
        have j1 : (j : Int) < (n : Int) := by omega
        clear hne e
        go_enter Tryd.func25, Tryd.ntmps25
        go_wp2_with fail
        go_ret
        exact ⟨ret_bool R.out.symm, rfl⟩
    · by_cases h3k : l[i].kind = 3
      · have R := Lib.hid (leg_pen hlt h3k)
        rw [h3k] at y0
        generalize legP l i = b at *
        generalize l[i].cost = c at *
        clear h3 hc h2k h3k
        generalize l.length = n at *
        clear hne e
        go_enter Tryd.func25, Tryd.ntmps25
        go_wp2_with fail
        go_ret
        exact ⟨ret_bool R.out.symm, rfl⟩
      · have R := Lib.hid (leg_else hlt h2k h3k)
        have t2 : (l[i].kind == 2) = false := beqF h2k
        have t3 : (l[i].kind == 3) = false := beqF h3k
        generalize legP l i = b at *
        generalize l[i].cost = c at *
        generalize l[i].kind = k at *
        clear h3 hc
        generalize l.length = n at *
        clear hne e
        go_enter Tryd.func25, Tryd.ntmps25
        go_wp2_with fail
        go_ret
        exact ⟨ret_bool R.out.symm, rfl⟩
set_option maxRecDepth 100000 in
set_option maxHeartbeats 8000000 in
theorem rsum_any (l : List It) (lv : Value) (a b : Nat) (W : World) (hA : IsAt W l lv) (hab : a ≤ b) (hb : b ≤ l.length) (hl : l.length ≤ 100000) (hx : ∀ x ∈ l, itW x) :
    Calls Tryd.prog 45 #[lv, .int .i64 a, .int .i64 b] W fun e w' => e = .returned (.tuple #[.int .i64 (btw l a b).w, .int .i64 (btw l a b).g, .int .i64 (btw l a b).s]) ∧ Keeps W w' := by
  obtain ⟨A, cap, rfl, h1, h2, h3⟩ := hA
  unfold maxLen at h2
  have HC : Hid (∀ i, i < l.length → ∃ (g o : Nat) (x : It), A = some ⟨g, o, none⟩ ∧ l[i]? = some x ∧ W.rangeAt g (o + i * 9) (itC x)) := Lib.hid fun i hi => by
    obtain ⟨g, o, e, hc⟩ := h3 (by omega)
    exact ⟨g, o, l[i], e, List.getElem?_eq_getElem hi, hc i hi⟩
  clear h3
  have HX := Lib.hid hx
  obtain ⟨n, hn⟩ : ∃ n, l.length = n := ⟨_, rfl⟩
  have HN := Lib.hid hn
  rw [hn] at h1 hb hl ⊢
  clear hn hx
  go_enter Tryd.func45, Tryd.ntmps45
  go_wp2_with fail
  go_loop [1] (fun y => ∃ k : Nat, a ≤ k ∧ k ≤ b ∧ y = .int .i64 k ∧ Hid (bxF l k = bxF l a)) (fun y => b - (RowKit.intOf y).toNat)
  case atStart => exact ⟨a, Nat.le_refl _, hab, rfl, Lib.hid rfl⟩
  case round =>
    obtain ⟨k, hk1, hk2, rfl, HB⟩ := hrel
    by_cases c : k < b
    · obtain ⟨g, o, x, rfl, hx, hr⟩ := HC.out k (by rw [HN.out]; omega)
      have y0 : W.cell? ⟨g, o + k * 9, none⟩ = some (.int .i64 x.kind) := hr 0 _ rfl
      obtain ⟨hkl, hxe⟩ := List.getElem?_eq_some_iff.1 hx
      have z0 : (0 : Int) ≤ (k : Int) := by omega
      have z1 : (k : Int) < (n : Int) := by omega
      have z2 : decide ((k : Int) < (n : Int)) = true := decide_eq_true (by omega)
      by_cases q : x.kind = 1
      · have HK : Hid (min (bxF l a) b = k) := Lib.hid (by
          rw [← HB.out, bxF_box hkl (by rw [hxe]; exact q)]; omega)
        rw [q] at y0
        clear hr hx hxe hkl q
        have t1 : decide ((k : Int) < (b : Int)) = true := decide_eq_true (by omega)
        go_wp2_with fail
        go_loopw [12, 9, 10, 11] (fun y s9 s10 s11 wr => ∃ (j : Nat) (w g s : Int), k ≤ j ∧ j ≤ b ∧ y = .int .i64 j ∧ s9 = .int .i64 w ∧ s10 = .int .i64 g ∧ s11 = .int .i64 s ∧ Hid (meSub (preM l j) (preM l k) = ⟨w, g, s⟩) ∧ Hid (Keeps W wr)) (fun y _ _ _ _ => b - (RowKit.intOf y).toNat)
        case atStart => exact ⟨k, 0, 0, 0, Nat.le_refl _, hk2, rfl, rfl, rfl, rfl, Lib.hid (sub_self _), Lib.hid (Keeps.refl _)⟩
        case round =>
          obtain ⟨j, mw, mg, ms, hj1, hj2, rfl, rfl, rfl, rfl, HM, HKW⟩ := hrel
          have hB := sub_B HX.out (j := j) (k := k) (by omega) (by omega)
          rw [HM.out] at hB
          obtain ⟨⟨m1, m2⟩, ⟨m3, m4⟩, m5, m6⟩ := hB
          simp only at m1 m2 m3 m4 m5 m6
          by_cases cj : j < b
          · obtain ⟨g, o, x, eA, hx, hr⟩ := HC.out j (by rw [HN.out]; omega)
            cases eA
            have hxw := HX.out x (List.mem_of_getElem? hx)
            obtain ⟨hjl, hxe⟩ := List.getElem?_eq_some_iff.1 hx
            have HNx : Hid (meAdd ⟨mw, mg, ms⟩ x = meSub (preM l (j + 1)) (preM l k)) := Lib.hid (by rw [← HM.out, sub_add, preM_next hjl, hxe])
            have hrw := range_same hr (HKW.out.block g (range_lt hr (by rw [itC_len]; decide)))
            have y0 : wr.cell? ⟨g, o + j * 9, none⟩ = some (.int .i64 x.kind) := hrw 0 _ rfl
            have y1 : wr.cell? ⟨g, o + j * 9 + 1, none⟩ = some (.int .i64 x.width) := hrw 1 _ rfl
            have y2 : wr.cell? ⟨g, o + j * 9 + 2, none⟩ = some (.int .i64 x.grow) := hrw 2 _ rfl
            have y3 : wr.cell? ⟨g, o + j * 9 + 3, none⟩ = some (.int .i64 x.shrink) := hrw 3 _ rfl
            obtain ⟨⟨x1, x2⟩, ⟨x3, x4⟩, x5, x6⟩ := hxw
            have i0 : (0 : Int) ≤ (j : Int) := by omega
            have i1 : (j : Int) < (n : Int) := by omega
            have u1 : decide ((j : Int) < (b : Int)) = true := decide_eq_true (by omega)
            have u2 : decide ((j : Int) < (n : Int)) = true := decide_eq_true (by omega)
            by_cases q3 : x.kind = 3
            · have HA : Hid (meSub (preM l (j + 1)) (preM l k) = ⟨mw, mg, ms⟩) := Lib.hid (by rw [← HNx.out]; unfold meAdd; rw [if_pos q3])
              rw [q3] at y0
              clear hr hrw hx hxe hjl HNx y1 y2 y3 q3
              go_wp2_with fail
              go_roundw
              case rel => exact ⟨j + 1, mw, mg, ms, by omega, by omega, by go_num, rfl, rfl, rfl, HA, HKW⟩
              case measure => simp only [RowKit.intOf]; omega
            · have HA : Hid (meSub (preM l (j + 1)) (preM l k) = ⟨mw + x.width, mg + x.grow, ms + x.shrink⟩) := Lib.hid (by rw [← HNx.out]; unfold meAdd; rw [if_neg q3])
              have tq : (x.kind == 3) = false := beqF q3
              have tn : (x.kind != 3) = true := bneJ q3
              generalize x.kind = xk at *
              generalize x.width = xw at *
              generalize x.grow = xg at *
              generalize x.shrink = xs at *
              clear hr hrw hx hxe hjl HNx
              go_wp2_with fail
              go_region
              go_wp2_with fail
              go_roundw
              case rel => exact ⟨j + 1, mw + xw, mg + xg, ms + xs, by omega, by omega, by go_num, by go_num, by go_num, by go_num, HA, Lib.hid HKW.out.drew⟩
              case measure => simp only [RowKit.intOf]; omega
          · have e : j = b := by omega
            have HR : Hid (btw l a b = ⟨mw, mg, ms⟩) := Lib.hid (by unfold btw; rw [HK.out, ← HM.out, e])
            have u1 : decide ((j : Int) < (b : Int)) = false := decide_eq_false (by omega)
            clear e
            go_wp2_with fail
            go_ret3
            exact ⟨by rw [HR.out]; rfl, HKW.out⟩
      · have HK : Hid (bxF l (k + 1) = bxF l a) := Lib.hid (by
          rw [← HB.out, bxF_next hkl (by rw [hxe]; exact q)])
        have tq : (x.kind == 1) = false := beqF q
        have tn : (x.kind != 1) = true := bneJ q
        have t1 : decide ((k : Int) < (b : Int)) = true := decide_eq_true (by omega)
        generalize x.kind = xk at *
        clear hr hx hxe hkl
        go_wp2_with fail
        go_round
        case rel => exact ⟨k + 1, by omega, by omega, by go_num, HK⟩
        case measure => simp only [RowKit.intOf]; omega
    · have HK : Hid (min (bxF l a) b = k) := Lib.hid (by
        have := bxF_ge l k
        rw [HB.out] at this; omega)
      have t1 : decide ((k : Int) < (b : Int)) = false := decide_eq_false (by omega)
      go_wp2_with fail
      go_loopw [12, 9, 10, 11] (fun y s9 s10 s11 wr => ∃ (j : Nat) (w g s : Int), k ≤ j ∧ j ≤ b ∧ y = .int .i64 j ∧ s9 = .int .i64 w ∧ s10 = .int .i64 g ∧ s11 = .int .i64 s ∧ Hid (meSub (preM l j) (preM l k) = ⟨w, g, s⟩) ∧ Hid (Keeps W wr)) (fun y _ _ _ _ => b - (RowKit.intOf y).toNat)
      case atStart => exact ⟨k, 0, 0, 0, Nat.le_refl _, hk2, rfl, rfl, rfl, rfl, Lib.hid (sub_self _), Lib.hid (Keeps.refl _)⟩
      case round =>
        obtain ⟨j, mw, mg, ms, hj1, hj2, rfl, rfl, rfl, rfl, HM, HKW⟩ := hrel
        have hB := sub_B HX.out (j := j) (k := k) (by omega) (by omega)
        rw [HM.out] at hB
        obtain ⟨⟨m1, m2⟩, ⟨m3, m4⟩, m5, m6⟩ := hB
        simp only at m1 m2 m3 m4 m5 m6
        by_cases cj : j < b
        · omega
        · have e : j = b := by omega
          have HR : Hid (btw l a b = ⟨mw, mg, ms⟩) := Lib.hid (by unfold btw; rw [HK.out, ← HM.out, e])
          have u1 : decide ((j : Int) < (b : Int)) = false := decide_eq_false (by omega)
          clear e
          go_wp2_with fail
          go_ret3
          exact ⟨by rw [HR.out]; rfl, HKW.out⟩
end Go.Proofs.YtfnkokfkhjdkfaaDoor


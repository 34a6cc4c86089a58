/-
  Contracts of the package wrap: measureOf, Sum.
-/
import Derived.Test.YtjkkinccehfmoaaWcc
import Derived.Deep.RegionLaw
namespace Go.Proofs.Ytjkkinccehfmoaa
open Go.RowKit Go.Lib Go.Maps

theorem sub_B {l : List It} (h : ∀ x ∈ l, itW x) {j k : Nat} (hj : j ≤ 1000) (hk : k ≤ 1000) : meB (meSub (preM l j) (preM l k)) := by
  obtain ⟨a1, a2, a3⟩ := preM_bd h j
  obtain ⟨b1, b2, b3⟩ := preM_bd h k
  unfold meB meSub
  simp only
  refine ⟨⟨?_, ?_⟩, ⟨?_, ?_⟩, ?_, ?_⟩ <;> omega
theorem pre_B {l : List It} (h : ∀ x ∈ l, itW x) {j : Nat} (hj : j ≤ 1000) : meB (preM l j) := by
  obtain ⟨a1, a2, a3⟩ := preM_bd h j
  unfold meB
  refine ⟨⟨?_, ?_⟩, ⟨?_, ?_⟩, ?_, ?_⟩ <;> omega
theorem sub_add (a b : Me) (x : It) : meAdd (meSub a b) x = meSub (meAdd a x) b := by
  unfold meAdd meSub
  split
  · rfl
  · simp only [Me.mk.injEq]
    refine ⟨?_, ?_, ?_⟩ <;> omega
theorem sub_self (a : Me) : meSub a a = meZ := by unfold meSub meZ; simp
def meC (m : Me) : Array Value := #[.int .i64 m.w, .int .i64 m.g, .int .i64 m.s]
set_option maxRecDepth 100000 in
set_option maxHeartbeats 4000000 in
theorem measureOf_any (l : List It) (lv : Value) (a b : Nat) (W : World) (hA : IsAt W l lv) (hab : a ≤ b) (hb : b ≤ l.length) (hl : l.length ≤ 1000) (hx : ∀ x ∈ l, itW x) :
    Calls Try.prog 17 #[lv, .int .i64 a, .int .i64 b] W fun e w' => e = .returned (meV (btw l a b)) ∧ Keeps W w' := by
  obtain ⟨A, cap, rfl, h1, h2, h3⟩ := hA
  unfold maxLen at h2
  have HC : Hid (∀ i, i < l.length → ∃ (g o : Nat) (x : It), A = some ⟨g, o, none⟩ ∧ l[i]? = some x ∧ W.rangeAt g (o + i * 9) (itC x)) := Lib.hid fun i hi => by
    obtain ⟨g, o, e, hc⟩ := h3 (by omega)
    exact ⟨g, o, l[i], e, List.getElem?_eq_getElem hi, hc i hi⟩
  clear h3
  have HX := Lib.hid hx
  have HL := Lib.hid hl
  obtain ⟨n, hn⟩ : ∃ n, l.length = n := ⟨_, rfl⟩
  have HN := Lib.hid hn
  rw [hn] at h1 hb hl ⊢
  clear hn hx
  have ta : max (a : Int) 0 = (a : Int) := by omega
  have tb : min (b : Int) (n : Int) = (b : Int) := by omega
  have B0 := Blk.new W 47 #[.int .i64 0, .int .i64 0, .int .i64 0]
  go_enter Try.func17, Try.ntmps17
  go_wp2_with fail
  go_loop [1] (fun y => ∃ k : Nat, a ≤ k ∧ k ≤ b ∧ y = .int .i64 k ∧ Hid (bxP l k = bxP l a)) (fun y => b - (RowKit.intOf y).toNat)
  case atStart => exact ⟨a, Nat.le_refl _, hab, rfl, Lib.hid rfl⟩
  case round =>
    obtain ⟨k, hk1, hk2, rfl, HB⟩ := hrel
    by_cases c : k < b
    · obtain ⟨g, o, x, rfl, hx, hr⟩ := HC.out k (by rw [HN.out]; omega)
      have y0 : W.cell? ⟨g, o + k * 9, none⟩ = some (.int .i64 x.kind) := hr 0 _ rfl
      have lt := World.block_lt_of_cell? W _ y0
      simp only at lt
      have t1 : decide ((k : Int) < (b : Int)) = true := decide_eq_true (by omega)
      obtain ⟨hkl, hxe⟩ := List.getElem?_eq_some_iff.1 hx
      by_cases q : x.kind = 1
      · have HK : Hid (min (bxP l a) b = k) := Lib.hid (by
          rw [← HB.out, bxP_box hkl (by rw [hxe]; exact q)]; omega)
        rw [q] at y0
        clear hr hx hxe hkl
        go_wp2_with fail
        go_loopw [8] (fun y wr => ∃ j : Nat, k ≤ j ∧ j ≤ b ∧ y = .int .i64 j ∧ Hid (Blk wr (W.heap.size + 1) 47 (meC (meSub (preM l j) (preM l k)))) ∧ Hid (Keeps (W.alloc (.cells #[.int .i64 0, .int .i64 0, .int .i64 0] 47)) wr)) (fun y _ => b - (RowKit.intOf y).toNat)
        case atStart => exact ⟨k, Nat.le_refl _, hk2, rfl, Lib.hid (by rw [sub_self]; exact blk_two _ _ _ _), Lib.hid ((Keeps.refl _).alloc _)⟩
        case round =>
          obtain ⟨j, hj1, hj2, rfl, HBk, HKp⟩ := hrel
          by_cases cj : j < b
          · obtain ⟨g2, o2, x, eA, hx, hr⟩ := HC.out j (by rw [HN.out]; omega)
            cases eA
            have hxw := HX.out x (List.mem_of_getElem? hx)
            obtain ⟨hjl, hxe⟩ := List.getElem?_eq_some_iff.1 hx
            have HNx : Hid (meAdd (meSub (preM l j) (preM l k)) x = meSub (preM l (j + 1)) (preM l k)) := Lib.hid (by rw [sub_add, preM_next hjl, hxe])
            have hB := sub_B HX.out (j := j) (k := k) (by omega) (by omega)
            have hlt := range_lt hr (by rw [itC_len]; decide)
            have hW1 : (W.alloc (.cells #[.int .i64 0, .int .i64 0, .int .i64 0] 47)).heap.size = W.heap.size + 1 := by simp
            have hKW := ((Keeps.refl W).alloc (.cells #[.int .i64 0, .int .i64 0, .int .i64 0] 47)).trans HKp.out
            have WI := Lib.hid (fun w1 (q : Keeps wr w1) => with_any (meSub (preM l j) (preM l k)) x g (o + j * 9) w1 (range_same hr ((hKW.trans q).block g hlt)) hB hxw)
            rw [HNx.out] at WI
            have HS := Lib.hid (fun w1 (q : Keeps wr w1) => (HBk.out.keep q).set 0 (.int .i64 (meSub (preM l (j + 1)) (preM l k)).w) rfl |>.set 1 (.int .i64 (meSub (preM l (j + 1)) (preM l k)).g) rfl |>.set 2 (.int .i64 (meSub (preM l (j + 1)) (preM l k)).s) rfl)
            have HT := Lib.hid (fun w1 (q : Keeps wr w1) => (((HKp.out.trans q).set (Nat.le_of_eq hW1) 0 (.int .i64 (meSub (preM l (j + 1)) (preM l k)).w)).set (Nat.le_of_eq hW1) 1 (.int .i64 (meSub (preM l (j + 1)) (preM l k)).g)).set (Nat.le_of_eq hW1) 2 (.int .i64 (meSub (preM l (j + 1)) (preM l k)).s))
            have HB2 := Lib.hid (fun w1 (q : Keeps wr w1) => HBk.out.keep q)
            unfold meV meC at *
            obtain ⟨m2, hm2⟩ : ∃ m2, meSub (preM l (j + 1)) (preM l k) = m2 := ⟨_, rfl⟩
            have HM2 := Lib.hid hm2
            rw [hm2] at WI HS HT
            clear hm2
            generalize meSub (preM l j) (preM l k) = m at *
            obtain ⟨mw, mg, ms⟩ := m
            obtain ⟨nw, ng, ns⟩ := m2
            simp only at WI HS HT HB2 HBk
            have b0 := HBk.out.cell 0 (v := .int .i64 mw) rfl
            have b1 := HBk.out.cell 1 (v := .int .i64 mg) rfl
            have b2 := HBk.out.cell 2 (v := .int .i64 ms) rfl
            have lt2 := HBk.out.lt
            have i0 : (0 : Int) ≤ (j : Int) := by omega
            have i1 : (j : Int) < (n : Int) := by omega
            have t1 : decide ((j : Int) < (b : Int)) = true := decide_eq_true (by omega)
            clear hr hx hxe hjl hB hxw hKW HNx
            go_wp2_with fail
            go_region_law (go_simp; go_at_call 19; (with_reducible refine (WI.out _ (Keeps.refl _).drew).mono ?_); rintro e w1 ⟨rfl, k1⟩; have q1 := (Keeps.refl wr).drew.trans k1; have z0 := (HB2.out w1 q1).cell 0 (v := .int .i64 mw) rfl; have z1 := (HB2.out w1 q1).cell 1 (v := .int .i64 mg) rfl; have z2 := (HB2.out w1 q1).cell 2 (v := .int .i64 ms) rfl; have f0 := (HB2.out w1 q1).free 0; have f1 := (HB2.out w1 q1).free 1; have f2 := (HB2.out w1 q1).free 2)
            all_goals
              go_wp2_with fail
              go_roundw
              case rel => exact ⟨j + 1, by omega, by omega, by go_num, Lib.hid (by rw [HM2.out]; exact HS.out w1 q1), Lib.hid (HT.out w1 q1)⟩
              case measure => simp only [RowKit.intOf]; omega
          · have e : j = b := by omega
            have HR : Hid (btw l a b = meSub (preM l j) (preM l k)) := Lib.hid (by unfold btw; rw [HK.out, e])
            have t1 : decide ((j : Int) < (b : Int)) = false := decide_eq_false (by omega)
            have KW := Lib.hid (((Keeps.refl W).alloc (.cells #[.int .i64 0, .int .i64 0, .int .i64 0] 47)).trans HKp.out)
            have BR := B0.keep HKp.out
            unfold meV meC at *
            generalize meSub (preM l j) (preM l k) = m at *
            obtain ⟨mw, mg, ms⟩ := m
            simp only at HBk
            have b0 := HBk.out.cell 0 (v := .int .i64 mw) rfl
            have b1 := HBk.out.cell 1 (v := .int .i64 mg) rfl
            have b2 := HBk.out.cell 2 (v := .int .i64 ms) rfl
            have f0 := BR.free 0
            have f1 := BR.free 1
            have f2 := BR.free 2
            have r0 := BR.cell 0 (v := .int .i64 0) rfl
            have r1 := BR.cell 1 (v := .int .i64 0) rfl
            have r2 := BR.cell 2 (v := .int .i64 0) rfl
            have lt2 := BR.lt
            clear e
            go_wp2_with fail
            exact ret_blk rfl rfl rfl (((BR.set 0 _ rfl).set 1 _ rfl).set 2 _ rfl) Try.underlying47 (by kernel_rfl) ⟨by rw [HR.out]; rfl, ((KW.out.set (Nat.le_refl _) 0 _).set (Nat.le_refl _) 1 _).set (Nat.le_refl _) 2 _⟩
      · have HK : Hid (bxP l (k + 1) = bxP l a) := Lib.hid (by
          rw [← HB.out, bxP_next hkl (by rw [hxe]; exact q)])
        have tq : (x.kind == 1) = false := beqF q
        generalize x.kind = xk at *
        clear hr hx hxe hkl
        go_wp2_with fail
        go_round
        case rel => exact ⟨k + 1, by omega, by omega, by go_num, HK⟩
        case measure => simp only [RowKit.intOf]; omega
    · have HK : Hid (min (bxP l a) b = k) := Lib.hid (by
        have := bxP_ge l k
        rw [HB.out] at this; omega)
      have t1 : decide ((k : Int) < (b : Int)) = false := decide_eq_false (by omega)
      go_wp2_with fail
      go_loopw [8] (fun y wr => ∃ j : Nat, k ≤ j ∧ j ≤ b ∧ y = .int .i64 j ∧ Hid (Blk wr (W.heap.size + 1) 47 (meC (meSub (preM l j) (preM l k)))) ∧ Hid (Keeps (W.alloc (.cells #[.int .i64 0, .int .i64 0, .int .i64 0] 47)) wr)) (fun y _ => b - (RowKit.intOf y).toNat)
      case atStart => exact ⟨k, Nat.le_refl _, hk2, rfl, Lib.hid (by rw [sub_self]; exact blk_two _ _ _ _), Lib.hid ((Keeps.refl _).alloc _)⟩
      case round =>
        obtain ⟨j, hj1, hj2, rfl, HBk, HKp⟩ := hrel
        by_cases cj : j < b
        · obtain ⟨g, o, x, eA, hx, hr⟩ := HC.out j (by rw [HN.out]; omega)
          cases eA
          have hxw := HX.out x (List.mem_of_getElem? hx)
          obtain ⟨hjl, hxe⟩ := List.getElem?_eq_some_iff.1 hx
          have HNx : Hid (meAdd (meSub (preM l j) (preM l k)) x = meSub (preM l (j + 1)) (preM l k)) := Lib.hid (by rw [sub_add, preM_next hjl, hxe])
          have hB := sub_B HX.out (j := j) (k := k) (by omega) (by omega)
          have hlt := range_lt hr (by rw [itC_len]; decide)
          have hW1 : (W.alloc (.cells #[.int .i64 0, .int .i64 0, .int .i64 0] 47)).heap.size = W.heap.size + 1 := by simp
          have hKW := ((Keeps.refl W).alloc (.cells #[.int .i64 0, .int .i64 0, .int .i64 0] 47)).trans HKp.out
          have WI := Lib.hid (fun w1 (q : Keeps wr w1) => with_any (meSub (preM l j) (preM l k)) x g (o + j * 9) w1 (range_same hr ((hKW.trans q).block g hlt)) hB hxw)
          rw [HNx.out] at WI
          have HS := Lib.hid (fun w1 (q : Keeps wr w1) => (HBk.out.keep q).set 0 (.int .i64 (meSub (preM l (j + 1)) (preM l k)).w) rfl |>.set 1 (.int .i64 (meSub (preM l (j + 1)) (preM l k)).g) rfl |>.set 2 (.int .i64 (meSub (preM l (j + 1)) (preM l k)).s) rfl)
          have HT := Lib.hid (fun w1 (q : Keeps wr w1) => (((HKp.out.trans q).set (Nat.le_of_eq hW1) 0 (.int .i64 (meSub (preM l (j + 1)) (preM l k)).w)).set (Nat.le_of_eq hW1) 1 (.int .i64 (meSub (preM l (j + 1)) (preM l k)).g)).set (Nat.le_of_eq hW1) 2 (.int .i64 (meSub (preM l (j + 1)) (preM l k)).s))
          have HB2 := Lib.hid (fun w1 (q : Keeps wr w1) => HBk.out.keep q)
          unfold meV meC at *
          obtain ⟨m2, hm2⟩ : ∃ m2, meSub (preM l (j + 1)) (preM l k) = m2 := ⟨_, rfl⟩
          have HM2 := Lib.hid hm2
          rw [hm2] at WI HS HT
          clear hm2
          generalize meSub (preM l j) (preM l k) = m at *
          obtain ⟨mw, mg, ms⟩ := m
          obtain ⟨nw, ng, ns⟩ := m2
          simp only at WI HS HT HB2 HBk
          have b0 := HBk.out.cell 0 (v := .int .i64 mw) rfl
          have b1 := HBk.out.cell 1 (v := .int .i64 mg) rfl
          have b2 := HBk.out.cell 2 (v := .int .i64 ms) rfl
          have lt2 := HBk.out.lt
          have i0 : (0 : Int) ≤ (j : Int) := by omega
          have i1 : (j : Int) < (n : Int) := by omega
          have t1 : decide ((j : Int) < (b : Int)) = true := decide_eq_true (by omega)
          clear hr hx hxe hjl hB hxw hKW HNx
          go_wp2_with fail
          go_region_law (go_simp; go_at_call 19; (with_reducible refine (WI.out _ (Keeps.refl _).drew).mono ?_); rintro e w1 ⟨rfl, k1⟩; have q1 := (Keeps.refl wr).drew.trans k1; have z0 := (HB2.out w1 q1).cell 0 (v := .int .i64 mw) rfl; have z1 := (HB2.out w1 q1).cell 1 (v := .int .i64 mg) rfl; have z2 := (HB2.out w1 q1).cell 2 (v := .int .i64 ms) rfl; have f0 := (HB2.out w1 q1).free 0; have f1 := (HB2.out w1 q1).free 1; have f2 := (HB2.out w1 q1).free 2)
          all_goals
            go_wp2_with fail
            go_roundw
            case rel => exact ⟨j + 1, by omega, by omega, by go_num, Lib.hid (by rw [HM2.out]; exact HS.out w1 q1), Lib.hid (HT.out w1 q1)⟩
            case measure => simp only [RowKit.intOf]; omega
        · have e : j = b := by omega
          have HR : Hid (btw l a b = meSub (preM l j) (preM l k)) := Lib.hid (by unfold btw; rw [HK.out, e])
          have t1 : decide ((j : Int) < (b : Int)) = false := decide_eq_false (by omega)
          have KW := Lib.hid (((Keeps.refl W).alloc (.cells #[.int .i64 0, .int .i64 0, .int .i64 0] 47)).trans HKp.out)
          have BR := B0.keep HKp.out
          unfold meV meC at *
          generalize meSub (preM l j) (preM l k) = m at *
          obtain ⟨mw, mg, ms⟩ := m
          simp only at HBk
          have b0 := HBk.out.cell 0 (v := .int .i64 mw) rfl
          have b1 := HBk.out.cell 1 (v := .int .i64 mg) rfl
          have b2 := HBk.out.cell 2 (v := .int .i64 ms) rfl
          have f0 := BR.free 0
          have f1 := BR.free 1
          have f2 := BR.free 2
          have r0 := BR.cell 0 (v := .int .i64 0) rfl
          have r1 := BR.cell 1 (v := .int .i64 0) rfl
          have r2 := BR.cell 2 (v := .int .i64 0) rfl
          have lt2 := BR.lt
          clear e
          go_wp2_with fail
          exact ret_blk rfl rfl rfl (((BR.set 0 _ rfl).set 1 _ rfl).set 2 _ rfl) Try.underlying47 (by kernel_rfl) ⟨by rw [HR.out]; rfl, ((KW.out.set (Nat.le_refl _) 0 _).set (Nat.le_refl _) 1 _).set (Nat.le_refl _) 2 _⟩
end Go.Proofs.Ytjkkinccehfmoaa

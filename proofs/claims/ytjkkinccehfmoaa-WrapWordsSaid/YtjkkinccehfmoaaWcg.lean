/-
  Contract of the package wrap: placesOf.
-/
import Derived.Test.YtjkkinccehfmoaaWcf
import Derived.Laws.MakeOwn
namespace Go.Proofs.Ytjkkinccehfmoaa
open Go.RowKit Go.Lib Go.Maps

theorem infoPl : (Try.prog.info? 51).map (fun i => (i.zero, i.size, i.bytes)) = some (some (.agg #[.int .i64 0, .int .i64 0, .int .i64 0, .int .i64 0, .int .i64 0, .int .i64 0]), 6, 48) := by kernel_rfl
/-- The measures ahead of the places up to i are laid. -/
def PlA (l : List It) (cs : Array Value) (i : Nat) : Prop := ∀ k, k ≤ i → cs[k * 6]? = some (.int .i64 (preM l k).w) ∧ cs[k * 6 + 1]? = some (.int .i64 (preM l k).g) ∧ cs[k * 6 + 2]? = some (.int .i64 (preM l k).s) ∧ cs[k * 6 + 3]? = some (.int .i64 (lnP l k))
/-- What is known of what stands behind the places from i on is laid. -/
def PlB (l : List It) (cs : Array Value) (i : Nat) : Prop := ∀ k, i ≤ k → k ≤ l.length → cs[k * 6 + 4]? = some (.int .i64 (spP l k)) ∧ cs[k * 6 + 5]? = some (.int .i64 (bxP l k : Nat))
theorem get_set {cs : Array Value} {p q : Nat} {v : Value} (h : p < cs.size) : (cs.setIfInBounds p v)[q]? = if p = q then some v else cs[q]? := by
  rw [Array.getElem?_setIfInBounds]
  by_cases e : p = q
  · subst e; rw [if_pos rfl, if_pos rfl, if_pos h]
  · rw [if_neg e, if_neg e]
theorem get_other {cs : Array Value} {p q : Nat} {v : Value} (h : p ≠ q) : (cs.setIfInBounds p v)[q]? = cs[q]? := by rw [Array.getElem?_setIfInBounds, if_neg h]
theorem made_zero (N p : Nat) (h : p < N) : (madeCells #[.int .i64 0, .int .i64 0, .int .i64 0, .int .i64 0, .int .i64 0, .int .i64 0] N)[p]? = some (.int .i64 0) := by
  unfold madeCells
  rw [Array.getElem?_map]
  have hr : (Array.range N)[p]? = some p := by simp [h]
  rw [hr]
  simp only [Option.map_some, Option.some.injEq]
  have hm : p % 6 < 6 := Nat.mod_lt _ (by decide)
  show (#[Value.int .i64 0, .int .i64 0, .int .i64 0, .int .i64 0, .int .i64 0, .int .i64 0])[p % 6]! = _
  have : p % 6 = 0 ∨ p % 6 = 1 ∨ p % 6 = 2 ∨ p % 6 = 3 ∨ p % 6 = 4 ∨ p % 6 = 5 := by omega
  rcases this with e | e | e | e | e | e <;> rw [e] <;> rfl
theorem PlA.next {l : List It} {cs : Array Value} {i : Nat} (h : PlA l cs i) (hs : cs.size = (l.length + 1) * 6) (hi : i < l.length) {m : Me} {n : Int} (hm : m = preM l (i + 1)) (hn : n = lnP l (i + 1)) :
    PlA l ((((cs.setIfInBounds ((i + 1) * 6) (.int .i64 m.w)).setIfInBounds ((i + 1) * 6 + 1) (.int .i64 m.g)).setIfInBounds ((i + 1) * 6 + 2) (.int .i64 m.s)).setIfInBounds ((i + 1) * 6 + 3) (.int .i64 n)) (i + 1) := by
  subst hm hn
  intro k hk
  by_cases e : k = i + 1
  · subst e
    refine ⟨?_, ?_, ?_, ?_⟩
    · rw [get_other (by omega), get_other (by omega), get_other (by omega), get_set (by omega), if_pos rfl]
    · rw [get_other (by omega), get_other (by omega), get_set (by rw [Array.size_setIfInBounds]; omega), if_pos rfl]
    · rw [get_other (by omega), get_set (by rw [Array.size_setIfInBounds, Array.size_setIfInBounds]; omega), if_pos rfl]
    · rw [get_set (by rw [Array.size_setIfInBounds, Array.size_setIfInBounds, Array.size_setIfInBounds]; omega), if_pos rfl]
  · obtain ⟨h1, h2, h3, h4⟩ := h k (by omega)
    refine ⟨?_, ?_, ?_, ?_⟩
    · rw [get_other (by omega), get_other (by omega), get_other (by omega), get_other (by omega)]; exact h1
    · rw [get_other (by omega), get_other (by omega), get_other (by omega), get_other (by omega)]; exact h2
    · rw [get_other (by omega), get_other (by omega), get_other (by omega), get_other (by omega)]; exact h3
    · rw [get_other (by omega), get_other (by omega), get_other (by omega), get_other (by omega)]; exact h4
set_option maxRecDepth 100000 in
set_option maxHeartbeats 8000000 in
theorem placesOf_any (l : List It) (lv : Value) (W : World) (hA : IsAt W l lv) (hl : l.length ≤ 1000) (hx : ∀ x ∈ l, itW x) :
    Calls Try.prog 14 #[lv] W fun e w' => ∃ cs : Array Value, e = .returned (.slice (some ⟨W.heap.size, 0, none⟩) (l.length + 1) (l.length + 1)) ∧ Blk w' W.heap.size 51 cs ∧ cs.size = (l.length + 1) * 6 ∧ PlA l cs l.length ∧ PlB l cs 0 ∧ Keeps W w' := by
  obtain ⟨A, cap, rfl, c1, c2, h3⟩ := hA
  unfold maxLen at c2
  have HC : Hid (∀ i, i < l.length → ∃ (g o : Nat) (x : It), A = some ⟨g, o, none⟩ ∧ l[i]? = some x ∧ W.rangeAt g (o + i * 9) (itC x)) := Lib.hid fun i hi => by
    obtain ⟨g, o, e, hc⟩ := h3 (by omega)
    exact ⟨g, o, l[i], e, List.getElem?_eq_getElem hi, hc i hi⟩
  clear h3
  have HX := Lib.hid hx
  obtain ⟨n, hn⟩ : ∃ n, l.length = n := ⟨_, rfl⟩
  have HN := Lib.hid hn
  rw [hn] at c1 hl ⊢
  clear hn hx
  obtain ⟨i0, hi0, hz0, hz1, hz2⟩ := info_parts infoPl
  have MK : ∀ w : World, (Instr.makeSlice 37 (.int .i64 ((n : Int) + 1)) (.int .i64 ((n : Int) + 1))).run Try.prog w = .ok (.slice (some ⟨w.heap.size, 0, none⟩) (n + 1) (n + 1)) (w.alloc (.cells (madeCells #[.int .i64 0, .int .i64 0, .int .i64 0, .int .i64 0, .int .i64 0, .int .i64 0] ((n + 1) * 6)) 51)) := fun w => by
    have := run_make (P := Try.prog) (w := w) 37 51 i0 _ Try.underlying37 hi0 hz0 .i64 .i64 ((n : Int) + 1) ((n : Int) + 1) (by omega) (by omega) (by rw [hz2]; omega) (by omega)
    rw [this, hz1, show ((n : Int) + 1).toNat = n + 1 by omega]
    rfl
  have B0 := Lib.hid (Blk.new W 51 (madeCells #[.int .i64 0, .int .i64 0, .int .i64 0, .int .i64 0, .int .i64 0, .int .i64 0] ((n + 1) * 6)))
  have K0 := Lib.hid ((Keeps.refl W).alloc (.cells (madeCells #[.int .i64 0, .int .i64 0, .int .i64 0, .int .i64 0, .int .i64 0, .int .i64 0] ((n + 1) * 6)) 51))
  have Z0 := Lib.hid (fun p (h : p < (n + 1) * 6) => made_zero ((n + 1) * 6) p h)
  have Y0 := Lib.hid (size_madeCells #[.int .i64 0, .int .i64 0, .int .i64 0, .int .i64 0, .int .i64 0, .int .i64 0] ((n + 1) * 6))
  generalize hcs : madeCells #[.int .i64 0, .int .i64 0, .int .i64 0, .int .i64 0, .int .i64 0, .int .i64 0] ((n + 1) * 6) = cs0 at *
  clear hcs hi0 hz0 hz1 hz2
  go_enter Try.func14, Try.ntmps14
  go_wp2_with fail
  go_loopw [12] (fun y wr => ∃ i : Nat, i ≤ n ∧ y = .int .i64 i ∧ Hid (∃ cs : Array Value, Blk wr W.heap.size 51 cs ∧ cs.size = (n + 1) * 6 ∧ PlA l cs i ∧ cs[n * 6 + 4]? = some (.int .i64 0) ∧ Keeps W wr)) (fun y _ => n - (RowKit.intOf y).toNat)
  case atStart => exact ⟨0, Nat.zero_le _, rfl, Lib.hid ⟨cs0, B0.out, Y0.out, fun k hk => by
    have : k = 0 := by omega
    subst this
    exact ⟨Z0.out _ (by omega), Z0.out _ (by omega), Z0.out _ (by omega), Z0.out _ (by omega)⟩, Z0.out _ (by omega), K0.out⟩⟩
  case round =>
    obtain ⟨i, hi, rfl, HQ⟩ := hrel
    obtain ⟨cs, hB, hsz, hPA, hz, hK⟩ := HQ.out
    by_cases c : i < n
    · have t1 : decide ((i : Int) < (n : Int)) = true := decide_eq_true (by omega)
      obtain ⟨g, o, x, eA, hx, hr⟩ := HC.out i (by rw [HN.out]; omega)
      cases eA
      have hxw := HX.out x (List.mem_of_getElem? hx)
      obtain ⟨hil, hxe⟩ := List.getElem?_eq_some_iff.1 hx
      have hlt := range_lt hr (by rw [itC_len]; decide)
      have hmb := pre_B HX.out (j := i) (by omega)
      have hnb := pre_B HX.out (j := i + 1) (by omega)
      have hlb := lnP_bd HX.out i
      have hxb := lnI_bd hxw
      have WI := Lib.hid (fun w1 (q : Keeps wr w1) => with_any (preM l i) x g (o + i * 9) w1 (range_same hr ((hK.trans q).block g hlt)) hmb hxw)
      have LN := Lib.hid (fun w1 (q : Keeps W w1) => lean_any x g (o + i * 9) w1 (range_same hr (q.block g hlt)) hxw)
      have HM : meAdd (preM l i) x = preM l (i + 1) := by rw [preM_next hil, hxe]
      have HL : lnP l i + lnI x = lnP l (i + 1) := by rw [lnP_next hil, hxe]
      have NX := Lib.hid (fun (m : Me) (v : Int) (e1 : m = preM l (i + 1)) (e2 : v = lnP l (i + 1)) => PlA.next hPA (by rw [HN.out]; exact hsz) hil e1 e2)
      rw [HM] at WI
      have HM2 := Lib.hid HM
      obtain ⟨a1, a2, a3, a4⟩ := hPA i (Nat.le_refl _)
      unfold meV at WI
      have hwl : IntKind.i64.wrap (lnP l i + lnI x) = lnP l (i + 1) := by rw [IntWalk.i64_in _ (by omega), HL]
      generalize hm2 : preM l (i + 1) = m2 at *
      generalize hm1 : preM l i = m1 at *
      generalize hl1 : lnP l i = l1 at *
      generalize hl2 : lnP l (i + 1) = l2 at *
      generalize lnI x = lx at *
      obtain ⟨mw, mg, ms⟩ := m1
      obtain ⟨nw, ng, ns⟩ := m2
      clear hm2 hm1 hl1 hl2 HM2 hlb hxb HL
      simp only at WI a1 a2 a3
      have y0 := hB.cell _ a1
      have y1 := hB.cell _ a2
      have y2 := hB.cell _ a3
      have hBk := Lib.hid (fun w1 (q : Keeps wr w1) => hB.keep q)
      have HKK := Lib.hid (fun w1 (q : Keeps wr w1) => hK.trans q)
      obtain ⟨v0, hv0⟩ : ∃ v, cs[(i + 1) * 6]? = some v := ⟨_, Array.getElem?_eq_getElem (by omega)⟩
      obtain ⟨v1, hv1⟩ : ∃ v, cs[(i + 1) * 6 + 1]? = some v := ⟨_, Array.getElem?_eq_getElem (by omega)⟩
      obtain ⟨v2, hv2⟩ : ∃ v, cs[(i + 1) * 6 + 2]? = some v := ⟨_, Array.getElem?_eq_getElem (by omega)⟩
      have i0 : (0 : Int) ≤ (i : Int) := by omega
      have i1 : (i : Int) < (n : Int) := by omega
      have i2 : (i : Int) < (n : Int) + 1 := by omega
      obtain ⟨k, hk⟩ : ∃ k, k = i + 1 := ⟨_, rfl⟩
      rw [← hk] at hv0 hv1 hv2 NX
      have HKI := Lib.hid hk
      have hw : IntKind.i64.wrap ((i : Int) + 1) = (k : Int) := by rw [IntWalk.i64_in _ (by omega)]; omega
      have i3 : (0 : Int) ≤ (k : Int) := by omega
      have i4 : (k : Int) < (n : Int) + 1 := by omega
      clear hk
      clear hr hx hxe hil hmb hnb hxw HM HQ hPA
      go_wp2_with fail
      go_region_law (go_simp; go_at_call 19; (with_reducible refine (WI.out _ (Keeps.refl _).drew).mono ?_); rintro e w1 ⟨rfl, k1⟩; have q1 := (Keeps.refl wr).drew.trans k1; have z0 := (hBk.out w1 q1).cell _ hv0; have z1 := (hBk.out w1 q1).cell _ hv1; have z2 := (hBk.out w1 q1).cell _ hv2; have f0 := (hBk.out w1 q1).free (k * 6); have f1 := (hBk.out w1 q1).free (k * 6 + 1); have f2 := (hBk.out w1 q1).free (k * 6 + 2))
      all_goals
        have BS := ((hBk.out w1 q1).set (k * 6) (.int .i64 nw) rfl).set (k * 6 + 1) (.int .i64 ng) rfl |>.set (k * 6 + 2) (.int .i64 ns) rfl
        have KS := Lib.hid ((((HKK.out w1 q1).set (Nat.le_refl _) (k * 6) (.int .i64 nw)).set (Nat.le_refl _) (k * 6 + 1) (.int .i64 ng)).set (Nat.le_refl _) (k * 6 + 2) (.int .i64 ns))
        generalize hw3 : ((w1.setCell ⟨W.heap.size, k * 6, none⟩ (.int .i64 nw)).setCell ⟨W.heap.size, k * 6 + 1, none⟩ (.int .i64 ng)).setCell ⟨W.heap.size, k * 6 + 2, none⟩ (.int .i64 ns) = w3 at *
        clear hw3 z0 z1 z2 f0 f1 f2 y0 y1 y2 q1 k1
        have C3 := Lib.hid (NX.out ⟨nw, ng, ns⟩ l2 rfl rfl)
        have D3 : Hid (((((cs.setIfInBounds (k * 6) (.int .i64 nw)).setIfInBounds (k * 6 + 1) (.int .i64 ng)).setIfInBounds (k * 6 + 2) (.int .i64 ns)).setIfInBounds (k * 6 + 3) (.int .i64 l2))[n * 6 + 4]? = some (.int .i64 0)) := Lib.hid (by
          have := HKI.out
          rw [get_other (by omega), get_other (by omega), get_other (by omega), get_other (by omega)]; exact hz)
        have E3 : Hid (((((cs.setIfInBounds (k * 6) (.int .i64 nw)).setIfInBounds (k * 6 + 1) (.int .i64 ng)).setIfInBounds (k * 6 + 2) (.int .i64 ns)).setIfInBounds (k * 6 + 3) (.int .i64 l2)).size = (n + 1) * 6) := Lib.hid (by simp [hsz])
        have a5 : (((cs.setIfInBounds (k * 6) (.int .i64 nw)).setIfInBounds (k * 6 + 1) (.int .i64 ng)).setIfInBounds (k * 6 + 2) (.int .i64 ns))[i * 6 + 3]? = some (.int .i64 l1) := by
          have := HKI.out
          rw [get_other (by omega), get_other (by omega), get_other (by omega)]; exact a4
        have y3 := BS.cell _ a5
        obtain ⟨v3, hv3⟩ : ∃ v, (((cs.setIfInBounds (k * 6) (.int .i64 nw)).setIfInBounds (k * 6 + 1) (.int .i64 ng)).setIfInBounds (k * 6 + 2) (.int .i64 ns))[k * 6 + 3]? = some v := ⟨_, Array.getElem?_eq_getElem (by simp; omega)⟩
        have BB := Lib.hid (fun w4 (q : Keeps w3 w4) => BS.keep q)
        have A5 := Lib.hid a5
        clear BS a5
        go_wp2_with fail
        go_region_law (go_simp; go_at_call 20; (with_reducible refine (LN.out _ KS.out.drew).mono ?_); rintro e w4 ⟨rfl, k4⟩; have q4 := (Keeps.refl w3).drew.trans k4; have z3 := (BB.out w4 q4).cell _ hv3; have y4 := (BB.out w4 q4).cell _ A5.out; have f3 := (BB.out w4 q4).free (k * 6 + 3))
        all_goals
          have B5 := Lib.hid ((BB.out w4 q4).set (k * 6 + 3) (.int .i64 l2) rfl)
          have K5 := Lib.hid ((KS.out.trans q4).set (Nat.le_refl _) (k * 6 + 3) (.int .i64 l2))
          go_wp2_with fail
          go_roundw
          case rel => exact ⟨k, by have := HKI.out; omega, rfl, Lib.hid ⟨_, B5.out, E3.out, C3.out, D3.out, K5.out⟩⟩
          case measure => simp only [RowKit.intOf]; have := HKI.out; omega
    · have e : i = n := by omega
      subst e
      have t1 : decide ((i : Int) < (i : Int)) = false := decide_eq_false (by omega)
      have f5 := hB.free (i * 6 + 5)
      obtain ⟨v5, hv5⟩ : ∃ v, cs[i * 6 + 5]? = some v := ⟨_, Array.getElem?_eq_getElem (by omega)⟩
      have y5 := hB.cell _ hv5
      have i0 : (0 : Int) ≤ (i : Int) := by omega
      have i2 : (i : Int) < (i : Int) + 1 := by omega
      have hw : IntKind.i64.wrap ((i : Int) - 1) = (i : Int) - 1 := IntWalk.i64_in _ (by omega)
      have Q1 : Hid (∃ cs1 : Array Value, Blk (wr.setCell ⟨W.heap.size, i * 6 + 5, none⟩ (.int .i64 i)) W.heap.size 51 cs1 ∧ cs1.size = (i + 1) * 6 ∧ PlA l cs1 i ∧ PlB l cs1 i ∧ Keeps W (wr.setCell ⟨W.heap.size, i * 6 + 5, none⟩ (.int .i64 i))) := Lib.hid ⟨_, hB.set _ _ rfl, by simp [hsz], fun p hp => by
          obtain ⟨q1, q2, q3, q4⟩ := hPA p hp
          refine ⟨?_, ?_, ?_, ?_⟩ <;> (rw [get_other (by omega)]; assumption), fun p hp hp2 => by
          have e : p = i := by rw [HN.out] at hp2; omega
          subst e
          have e1 := spP_end l
          have e2 := bxP_end l
          rw [HN.out] at e1 e2
          rw [e1, e2]
          exact ⟨by rw [get_other (by omega)]; exact hz, by rw [get_set (by omega), if_pos rfl]⟩, hK.set (Nat.le_refl _) _ _⟩
      clear HQ hB hPA hz hK hv5 hsz B0 K0 Z0 Y0 MK
      go_wp2_with fail
      go_loopw [5] (fun y wr => ∃ (k : Nat) (z : Int), k ≤ i ∧ y = .int .i64 z ∧ Hid (z = (k : Int) - 1) ∧ Hid (∃ cs : Array Value, Blk wr W.heap.size 51 cs ∧ cs.size = (i + 1) * 6 ∧ PlA l cs i ∧ PlB l cs k ∧ Keeps W wr)) (fun y _ => (RowKit.intOf y + 1).toNat)
      case atStart => exact ⟨i, (i : Int) - 1, Nat.le_refl _, rfl, Lib.hid rfl, Q1⟩
      case round =>
        obtain ⟨k, z, hk, rfl, HZK, HQ⟩ := hrel
        obtain ⟨cs, hB, hsz, hPA, hPB, hK⟩ := HQ.out
        have hzk := HZK.out
        cases k with
        | zero =>
          have e : z = -1 := by omega
          subst e
          have FIN := Lib.hid (⟨cs, hB, hsz, hPA, hPB, hK⟩ : ∃ cs : Array Value, Blk wr W.heap.size 51 cs ∧ cs.size = (i + 1) * 6 ∧ PlA l cs i ∧ PlB l cs 0 ∧ Keeps W wr)
          clear hB hPA hPB hK hsz HQ hzk
          go_wp2_with fail
          go_ret
          obtain ⟨cs2, f2⟩ := FIN.out
          exact ⟨cs2, rfl, f2⟩
        | succ j =>
          have e : z = (j : Int) := by omega
          subst e
          clear hzk HZK HQ
          obtain ⟨g, o, x, eA, hx, hr⟩ := HC.out j (by rw [HN.out]; omega)
          cases eA
          have hxw := HX.out x (List.mem_of_getElem? hx)
          obtain ⟨hil, hxe⟩ := List.getElem?_eq_some_iff.1 hx
          have hlt := range_lt hr (by rw [itC_len]; decide)
          have LN := Lib.hid (fun w1 (q : Keeps W w1) => lean_any x g (o + j * 9) w1 (range_same hr (q.block g hlt)) hxw)
          have yk : wr.cell? ⟨g, o + j * 9, none⟩ = some (.int .i64 x.kind) := (range_same hr (hK.block g hlt)) 0 _ rfl
          have hxb := lnI_bd hxw
          have hsb := spP_bd HX.out (j + 1)
          rw [HN.out] at hsb
          have HZ : Hid (spP l j = max 0 (spP l (j + 1) - lnI x)) := Lib.hid (by rw [spP_next hil, hxe])
          obtain ⟨b4, b5⟩ := hPB (j + 1) (Nat.le_refl _) (by rw [HN.out]; omega)
          have hbn := bxP_le (l := l) (k := j + 1) (by omega)
          have HB1 : Hid (¬ x.kind = 1 → bxP l j = bxP l (j + 1)) := Lib.hid (fun q => bxP_next hil (by rw [hxe]; exact q))
          have HB2 : Hid (x.kind = 1 → bxP l j = j) := Lib.hid (fun q => bxP_box hil (by rw [hxe]; exact q))
          have hwd : wrap64 (spP l (j + 1) - lnI x) = spP l (j + 1) - lnI x := by rw [← IntWalk.i64_left]; exact IntWalk.i64_in _ (by omega)
          generalize spP l (j + 1) = sp at *
          generalize lnI x = lx at *
          generalize bxP l (j + 1) = b1 at *
          obtain ⟨d, hd⟩ : ∃ d, sp - lx = d := ⟨_, rfl⟩
          rw [hd] at hwd HZ
          obtain ⟨z, hz⟩ : ∃ z, max 0 d = z := ⟨_, rfl⟩
          have HZZ : Hid (max 0 (wrap64 (sp - lx)) = z) := Lib.hid (by rw [hd, hwd, hz])
          rw [hz] at HZ
          clear hz hwd hd
          have w0 := hB.cell _ b4
          have w1 := hB.cell _ b5
          obtain ⟨k, hkk⟩ : ∃ k, k = j + 1 := ⟨_, rfl⟩
          rw [← hkk] at w0 w1 b4
          have HKI := Lib.hid hkk
          have HJ : Hid (j + 1 ≤ i) := Lib.hid hk
          have hw2 : IntKind.i64.wrap ((j : Int) + 1) = (k : Int) := by rw [IntWalk.i64_in _ (by omega)]; omega
          have i3 : (0 : Int) ≤ (k : Int) := by omega
          have i4 : (k : Int) < (i : Int) + 1 := by omega
          have j0 : (0 : Int) ≤ (j : Int) := by omega
          have j1 : (j : Int) < (i : Int) + 1 := by omega
          have j2 : (j : Int) < (i : Int) := by omega
          have f5 := hB.free (j * 6 + 5)
          obtain ⟨v5, hv5⟩ : ∃ v, cs[j * 6 + 5]? = some v := ⟨_, Array.getElem?_eq_getElem (by omega)⟩
          have y5 := hB.cell _ hv5
          generalize x.kind = xk at *
          clear hkk hr hx hxe hil hxw b5 hv5 hxb hsb
          by_cases hq : xk = 1
          · subst hq
            have HBJ := Lib.hid (HB2.out rfl)
            have BS := (hB.set (j * 6 + 5) (.int .i64 b1) rfl).set (j * 6 + 5) (.int .i64 j) rfl
            have KS := Lib.hid ((hK.set (Nat.le_refl _) (j * 6 + 5) (.int .i64 b1)).set (Nat.le_refl _) (j * 6 + 5) (.int .i64 j))
            clear HB1 HB2
            go_wp2_with fail
            generalize hw3 : (wr.setCell ⟨W.heap.size, j * 6 + 5, none⟩ (.int .i64 b1)).setCell ⟨W.heap.size, j * 6 + 5, none⟩ (.int .i64 j) = w3 at *
            clear hw3 w0 w1 y5 f5 yk
            have BB := Lib.hid (fun w4 (q : Keeps w3 w4) => BS.keep q)
            have E7 : Hid ((((cs.setIfInBounds (j * 6 + 5) (.int .i64 b1)).setIfInBounds (j * 6 + 5) (.int .i64 j)).setIfInBounds (j * 6 + 4) (.int .i64 z)).size = (i + 1) * 6) := Lib.hid (by simp [hsz])
            have A7 : Hid (PlA l (((cs.setIfInBounds (j * 6 + 5) (.int .i64 b1)).setIfInBounds (j * 6 + 5) (.int .i64 j)).setIfInBounds (j * 6 + 4) (.int .i64 z)) i) := Lib.hid (fun p hp => by
              obtain ⟨q1, q2, q3, q4⟩ := hPA p hp
              refine ⟨?_, ?_, ?_, ?_⟩ <;> (repeat rw [get_other (by omega)]) <;> assumption)
            have C7 : Hid (PlB l (((cs.setIfInBounds (j * 6 + 5) (.int .i64 b1)).setIfInBounds (j * 6 + 5) (.int .i64 j)).setIfInBounds (j * 6 + 4) (.int .i64 z)) j) := Lib.hid (fun p hp hp2 => by
              have hjs := HJ.out
              by_cases e : p = j
              · subst e
                rw [HZ.out, HBJ.out]
                refine ⟨?_, ?_⟩
                · rw [get_set (by simp [hsz]; omega), if_pos rfl]
                · rw [get_other (by omega), get_set (by simp [hsz]; omega), if_pos rfl]
              · obtain ⟨q1, q2⟩ := hPB p (by omega) hp2
                refine ⟨?_, ?_⟩ <;> (repeat rw [get_other (by omega)]) <;> assumption)
            have a6 : ((cs.setIfInBounds (j * 6 + 5) (.int .i64 b1)).setIfInBounds (j * 6 + 5) (.int .i64 j))[k * 6 + 4]? = some (.int .i64 sp) := by
              have := HKI.out
              repeat rw [get_other (by omega)]
              exact b4
            have y6 := BS.cell _ a6
            have A6 := Lib.hid a6
            obtain ⟨v3, hv3⟩ : ∃ v, ((cs.setIfInBounds (j * 6 + 5) (.int .i64 b1)).setIfInBounds (j * 6 + 5) (.int .i64 j))[j * 6 + 4]? = some v := ⟨_, Array.getElem?_eq_getElem (by simp; omega)⟩
            clear BS a6
            go_region_law (go_simp; go_at_call 20; (with_reducible refine (LN.out _ KS.out.drew).mono ?_); rintro e w4 ⟨rfl, k4⟩; have q4 := (Keeps.refl w3).drew.trans k4; have z3 := (BB.out w4 q4).cell _ hv3; have y7 := (BB.out w4 q4).cell _ A6.out; have f3 := (BB.out w4 q4).free (j * 6 + 4))
            all_goals
              have B7 := Lib.hid ((BB.out w4 q4).set (j * 6 + 4) (.int .i64 z) rfl)
              have K7 := Lib.hid ((KS.out.trans q4).set (Nat.le_refl _) (j * 6 + 4) (.int .i64 z))
              go_wp2_with fail
              go_roundw
              case rel => exact ⟨j, (j : Int) - 1, by omega, rfl, Lib.hid rfl, Lib.hid ⟨_, by rw [HZZ.out]; exact B7.out, E7.out, A7.out, C7.out, by rw [HZZ.out]; exact K7.out⟩⟩
              case measure => simp only [RowKit.intOf]; omega
          · have HBJ := Lib.hid (HB1.out hq)
            have tq : (xk == 1) = false := beqF hq
            have BS := hB.set (j * 6 + 5) (.int .i64 b1) rfl
            have KS := Lib.hid (hK.set (Nat.le_refl _) (j * 6 + 5) (.int .i64 b1))
            clear HB1 HB2
            go_wp2_with fail
            generalize hw3 : wr.setCell ⟨W.heap.size, j * 6 + 5, none⟩ (.int .i64 b1) = w3 at *
            clear hw3 w0 w1 y5 f5 yk
            have BB := Lib.hid (fun w4 (q : Keeps w3 w4) => BS.keep q)
            have E7 : Hid (((cs.setIfInBounds (j * 6 + 5) (.int .i64 b1)).setIfInBounds (j * 6 + 4) (.int .i64 z)).size = (i + 1) * 6) := Lib.hid (by simp [hsz])
            have A7 : Hid (PlA l ((cs.setIfInBounds (j * 6 + 5) (.int .i64 b1)).setIfInBounds (j * 6 + 4) (.int .i64 z)) i) := Lib.hid (fun p hp => by
              obtain ⟨q1, q2, q3, q4⟩ := hPA p hp
              refine ⟨?_, ?_, ?_, ?_⟩ <;> (repeat rw [get_other (by omega)]) <;> assumption)
            have C7 : Hid (PlB l ((cs.setIfInBounds (j * 6 + 5) (.int .i64 b1)).setIfInBounds (j * 6 + 4) (.int .i64 z)) j) := Lib.hid (fun p hp hp2 => by
              have hjs := HJ.out
              by_cases e : p = j
              · subst e
                rw [HZ.out, HBJ.out]
                refine ⟨?_, ?_⟩
                · rw [get_set (by simp [hsz]; omega), if_pos rfl]
                · rw [get_other (by omega), get_set (by simp [hsz]; omega), if_pos rfl]
              · obtain ⟨q1, q2⟩ := hPB p (by omega) hp2
                refine ⟨?_, ?_⟩ <;> (repeat rw [get_other (by omega)]) <;> assumption)
            have a6 : (cs.setIfInBounds (j * 6 + 5) (.int .i64 b1))[k * 6 + 4]? = some (.int .i64 sp) := by
              have := HKI.out
              repeat rw [get_other (by omega)]
              exact b4
            have y6 := BS.cell _ a6
            have A6 := Lib.hid a6
            obtain ⟨v3, hv3⟩ : ∃ v, (cs.setIfInBounds (j * 6 + 5) (.int .i64 b1))[j * 6 + 4]? = some v := ⟨_, Array.getElem?_eq_getElem (by simp; omega)⟩
            clear BS a6
            go_region_law (go_simp; go_at_call 20; (with_reducible refine (LN.out _ KS.out.drew).mono ?_); rintro e w4 ⟨rfl, k4⟩; have q4 := (Keeps.refl w3).drew.trans k4; have z3 := (BB.out w4 q4).cell _ hv3; have y7 := (BB.out w4 q4).cell _ A6.out; have f3 := (BB.out w4 q4).free (j * 6 + 4))
            all_goals
              have B7 := Lib.hid ((BB.out w4 q4).set (j * 6 + 4) (.int .i64 z) rfl)
              have K7 := Lib.hid ((KS.out.trans q4).set (Nat.le_refl _) (j * 6 + 4) (.int .i64 z))
              go_wp2_with fail
              go_roundw
              case rel => exact ⟨j, (j : Int) - 1, by omega, rfl, Lib.hid rfl, Lib.hid ⟨_, by rw [HZZ.out]; exact B7.out, E7.out, A7.out, C7.out, by rw [HZZ.out]; exact K7.out⟩⟩
              case measure => simp only [RowKit.intOf]; omega
end Go.Proofs.Ytjkkinccehfmoaa

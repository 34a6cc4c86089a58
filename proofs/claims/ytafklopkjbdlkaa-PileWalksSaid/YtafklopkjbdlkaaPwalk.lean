/-
  PileWalks returns true, whatever the numbers.
-/
import Derived.Test.YtafklopkjbdlkaaPnil
namespace Go.Proofs.Ytafklopkjbdlkaa
open Go.RowKit Go.Lib Go.Shelf

/-- A list's cell, of a row that the call owns. -/
theorem own_cell {W : World} {n₀ n : Nat} {e : TypeId} {ao : Option Addr} {cap : Nat} {zs : List Int} (h : W.ownsRow n₀ e 1 (.slice ao n cap) n (zs.map (Value.int .i64))) (hn : 0 < n) :
    n ≤ cap ∧ ∃ g, ao = some ⟨g, 0, none⟩ ∧ ∀ k, k < n → W.cell? ⟨g, k, none⟩ = some (.int .i64 (zs.getD k 0)) := by
  rcases h.2 with ⟨_, h0⟩ | ⟨g, c, cur, hv, _, _, hc, _⟩
  · omega
  · cases hv
    refine ⟨hc, g, rfl, fun k hk => ?_⟩
    have hl : zs.length = n := by have := h.1; simpa using this
    rw [h.cellAt k (by omega), List.getElem?_map, List.getElem?_eq_getElem (by omega)]
    simp [List.getD, List.getElem?_eq_getElem (show k < zs.length by omega)]
theorem rev_get (xs : List Int) (n k j : Nat) (hn : xs.length = n) (h : n = k + 1 + j) : (rev xs n).getD j 0 = xs.getD k 0 := by
  have hl : j < (rev xs n).length := by rw [rev, upto_length]; omega
  rw [List.getD, List.getElem?_eq_getElem hl]
  simp only [rev, upto, List.getElem_map, List.getElem_range, Option.getD_some]
  rw [show xs.length - 1 - j = k by omega, List.getD]
theorem take_get (xs : List Int) (n k : Nat) (h : k < n) : (xs.take n).getD k 0 = xs.getD k 0 := by
  rw [List.getD, List.getElem?_take, if_pos h, List.getD]
theorem own_keep {W W' : World} {n₀ n : Nat} {e : TypeId} {v : Value} {vs : List Value} (h : W.ownsRow n₀ e 1 v n vs) (b : Below W.heap.size W W') : W'.ownsRow n₀ e 1 v n vs := by
  refine ⟨h.1, ?_⟩
  rcases h.2 with hn | ⟨g, cap, cur, rfl, hb, hgg, rest⟩
  · exact .inl hn
  · exact .inr ⟨g, cap, cur, rfl, hb, (b.block g (Array.getElem?_eq_some_iff.1 hgg).1).trans hgg, rest⟩
theorem own_heap {W W' : World} {n₀ n : Nat} {e : TypeId} {v : Value} {vs : List Value} (h : W.ownsRow n₀ e 1 v n vs) (b : W'.heap = W.heap) : W'.ownsRow n₀ e 1 v n vs := by
  unfold World.ownsRow at *
  rw [b]
  exact h

set_option maxRecDepth 100000 in
set_option maxHeartbeats 4000000 in
theorem walks_any (ao : Option Addr) (n cap : Nat) (zs : List Int) (m : Nat) (hm : m ≤ 255) (w : World) (hz : zs.length = n)
    (hl : ∀ k, k < n → ∃ b off, ao = some ⟨b, off, none⟩ ∧ b < w.heap.size ∧ w.cell? ⟨b, off + k, none⟩ = some (.int .i64 (zs.getD k 0))) :
    Calls Try.prog 4 #[.slice ao n cap, .int .u8 (m : Int)] w fun e w' => e = .returned (.bool true) ∧ Below w.heap.size w w' := by
  have AW := Lib.hid (fun W => awake_any W)
  have HL := Lib.hid hl
  clear hl
  by_cases c1 : 200 < n
  · have AWW := Lib.hid (AW.out w)
    go_enter Try.func4, Try.ntmps4
    go_wp2_with fail
    refine AWW.out.mono ?_
    rintro e w1 ⟨rfl, h1⟩
    have H1 := Lib.hid h1
    clear h1
    go_wp2_with fail
    go_ret
    exact ⟨rfl, H1.out⟩
  · have hn : n ≤ 200 := by omega
    have h0 := Pil.new w 25 3 (Nat.le_refl w.heap.size)
    have H0 := Lib.hid h0
    have B0 := Lib.hid ((Below.refl w.heap.size w).alloc (Nat.le_refl _) (.cells #[.slice none 0 0] 25))
    clear h0
    have HZ := Lib.hid hz
    clear hz
    go_enter Try.func4, Try.ntmps4
    go_wp2_with fail
    go_loopw [6] (fun i wr => ∃ (k : Nat) (v : Value), k ≤ n ∧ i = .int .i64 (k : Int) ∧ PI w.heap.size wr w.heap.size v (zs.take k) ∧ Below w.heap.size w wr) (fun i _ => n - (RowKit.intOf i).toNat)
    case atStart => exact ⟨0, _, Nat.zero_le _, rfl, H0.out, B0.out⟩
    case round =>
      obtain ⟨k, v, hk, rfl, hp, hb⟩ := hrel
      have HP := Lib.hid hp
      have HB := Lib.hid hb
      clear hp hb
      by_cases c2 : k < n
      · obtain ⟨b, off, rfl, hb, hc0⟩ := HL.out k c2
        have d0 := (HB.out.cell (p := ⟨b, off + k, none⟩) hb).trans hc0
        have HT : Hid (zs.take (k + 1) = zs.take k ++ [zs.getD k 0]) := by
          show _ = _
          rw [List.take_add_one, List.getElem?_eq_getElem (by have := HZ.out; omega)]
          simp [List.getD, List.getElem?_eq_getElem (show k < zs.length by have := HZ.out; omega)]
        generalize zs.getD k 0 = x at *
        have PU := Lib.hid (pushI_any HP.out HB.out.size (by rw [List.length_take]; omega) x)
        clear hc0
        go_wp2_with fail
        refine PU.out.mono ?_
        rintro e w1 ⟨rfl, v1, h1, m1⟩
        have B1 := Lib.hid (HB.out.trans (m1.bel HP.out HB.out.size))
        have H1 := Lib.hid h1
        clear h1 m1
        go_wp2_with fail
        go_roundw
        case rel => exact ⟨k + 1, v1, by omega, by go_num, by rw [HT.out]; exact H1.out, B1.out⟩
        case measure => simp [RowKit.intOf]; omega
      · obtain rfl : k = n := by omega
        have hp := HP.out
        rw [List.take_of_length_le (by have := HZ.out; omega)] at hp
        have HP' := Lib.hid hp
        have lie : ∀ W, Below wr.heap.size wr W → Lie W.heap.size W (some ⟨w.heap.size, 0, none⟩) zs := fun W hW => Lie.of (hp.keep hW) (Nat.le_refl _)
        have up' := up_any (some ⟨w.heap.size, 0, none⟩) zs (by have := HZ.out; omega) (1 + m) (by omega) (by omega) wr (lie _ (Below.refl _ _))
        rw [HZ.out, show ((1 + m : Nat) : Int) = 1 + (m : Int) by omega] at up'
        obtain ⟨la, hla⟩ : ∃ la, min k (1 + m) = la := ⟨_, rfl⟩
        rw [hla] at up'
        have UP := Lib.hid up'
        have LIE := Lib.hid lie
        have DN := Lib.hid (fun W hW => down_any (some ⟨w.heap.size, 0, none⟩) zs (by have := HZ.out; omega) W (lie W hW))
        have LI := Lib.hid (fun W hW => list_any (some ⟨w.heap.size, 0, none⟩) zs (by have := HZ.out; omega) W (lie W hW))
        rw [HZ.out] at DN LI
        have HA := Lib.hid hla
        have hmn : (if 1 + (m : Int) < (k : Int) then 1 + (m : Int) else (k : Int)) = (la : Int) := by split <;> omega
        clear lie up' hp HP hla
        go_wp2_with fail
        refine UP.out.mono ?_
        rintro e w1 ⟨aa, ca, rfl, oa, b1⟩
        have B1 := Lib.hid b1
        have OA := Lib.hid oa
        clear b1 oa
        go_wp2_with fail
        refine (DN.out _ B1.out).mono ?_
        rintro e w2 ⟨ab, cb, rfl, ob, b2⟩
        have B2 := Lib.hid (B1.out.trans (b2.mono B1.out.size))
        have OB := Lib.hid (And.intro ob b2)
        clear b2 ob
        go_wp2_with fail
        refine (LI.out _ B2.out).mono ?_
        rintro e w3 ⟨ac, cc, rfl, oc, b3⟩
        have B3 := Lib.hid (B2.out.trans (b3.mono B2.out.size))
        have OC := Lib.hid (And.intro oc b3)
        clear b3 oc
        go_wp2_with fail
        refine (AW.out _).mono ?_
        rintro e w4 ⟨rfl, b4⟩
        have B4 := Lib.hid (B3.out.trans (b4.mono B3.out.size))
        have BB := Lib.hid b4
        clear b4
        go_wp2_with fail
        have OA4 := Lib.hid (own_keep (own_keep (own_keep OA.out OB.out.2) OC.out.2) BB.out)
        have OB4 := Lib.hid (own_keep (own_keep OB.out.1 OC.out.2) BB.out)
        have OC4 := Lib.hid (own_keep OC.out.1 BB.out)
        clear OA OB OC BB hmn
        go_loopw [11] (fun i wx => ∃ j : Nat, j ≤ k ∧ i = .int .i64 (j : Int) ∧ wx.heap = w4.heap ∧ Below wr.heap.size wr wx) (fun i _ => k - (RowKit.intOf i).toNat)
        case atStart => exact ⟨0, Nat.zero_le _, rfl, rfl, B4.out⟩
        case round =>
          obtain ⟨j, hj, rfl, hh, hb⟩ := hrel
          have HBX := Lib.hid (HB.out.trans (hb.mono HB.out.size))
          have HH := Lib.hid hh
          have HBW := Lib.hid hb
          clear hb hh
          by_cases c3 : j < k
          · obtain ⟨b, off, rfl, hbl, hc0⟩ := HL.out j c3
            have d0 := (HBX.out.cell (p := ⟨b, off + j, none⟩) hbl).trans hc0
            obtain ⟨r, hr⟩ : ∃ r, k = j + 1 + r := ⟨k - j - 1, by omega⟩
            obtain ⟨lb, gb, rfl, kb⟩ := own_cell (own_heap OB4.out HH.out) (by omega)
            obtain ⟨lc, gc, rfl, kc⟩ := own_cell (own_heap OC4.out HH.out) (by omega)
            have e1 := kb r (by omega)
            rw [rev_get zs k j r HZ.out hr] at e1
            have e2 := kc j c3
            have hr2 : (k : Int) - 1 - (j : Int) = (r : Int) := by omega
            have hr3 : (r : Int) < (k : Int) := by omega
            have hw1 : IntKind.i64.wrap ((k : Int) - 1) = (k : Int) - 1 := IntWalk.i64_in _ ⟨by omega, by omega⟩
            have hw2 : IntKind.i64.wrap (r : Int) = (r : Int) := IntWalk.i64_in _ ⟨by omega, by omega⟩
            have HR := Lib.hid hr
            clear hc0 kb kc hr
            by_cases c4 : j < la
            · obtain ⟨lA, ga, rfl, ka⟩ := own_cell (own_heap OA4.out HH.out) (by omega)
              have e0 := ka j c4
              rw [take_get zs (1 + m) j (by have := HA.out; omega)] at e0
              clear ka
              generalize zs.getD j 0 = x at *
              go_wp2_with fail
              go_quiet (fail)
              go_wp2_with fail
              go_roundw
              case rel => exact ⟨j + 1, by omega, by go_num, HH.out, HBW.out.trans ⟨rfl, rfl, rfl, Nat.le_refl _, fun _ _ => rfl⟩⟩
              case measure => simp [RowKit.intOf]; omega
            · generalize zs.getD j 0 = x at *
              go_wp2_with fail
              go_quiet (fail)
              go_wp2_with fail
              go_roundw
              case rel => exact ⟨j + 1, by omega, by go_num, HH.out, HBW.out.trans ⟨rfl, rfl, rfl, Nat.le_refl _, fun _ _ => rfl⟩⟩
              case measure => simp [RowKit.intOf]; omega
          · go_wp2_with fail
            go_ret
            exact ⟨rfl, HBX.out⟩
end Go.Proofs.Ytafklopkjbdlkaa

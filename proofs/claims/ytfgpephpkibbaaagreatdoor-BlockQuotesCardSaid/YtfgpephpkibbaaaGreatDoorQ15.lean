/-
  Texts of the proof, one behind the other: Cub.
-/
import Derived.Test.YtfgpephpkibbaaaGreatDoorQ10
import Derived.Test.YtfgpephpkibbaaaGreatDoorQ11
import Derived.LoopTactic
import Derived.BigQuiet
import Derived.Deep.QuietTactic
import Derived.Outline
/-
  The contract of Skip, at any place that may be, in a line of at most 100,000 bytes.
-/
namespace Go.Proofs.YtfgpephpkibbaaaGreatDoor
open Go.RowKit Go.Lib

/-- A place within the line s. -/
def Plc (s : ByteArray) (k c f : Nat) : Prop := k ≤ s.size ∧ c ≤ 1000000 ∧ okP f (s.data.toList.drop k)
theorem tab_of {s : ByteArray} {k f : Nat} (h : okP f (s.data.toList.drop k)) (hf : f ≠ 0) : ∃ h : k < s.size, (((s[k].toNat : Nat) : Int) == 9) = true := by
  obtain ⟨t, e⟩ := h.2 hf
  have hk : k < s.size := by
    rw [← bytes_len]
    refine Decidable.byContradiction fun h => ?_
    rw [List.drop_eq_nil_of_le (by omega)] at e
    cases e
  refine ⟨hk, ?_⟩
  rw [List.drop_eq_getElem_cons (by simpa using hk)] at e
  have e1 : s[k] = 9 := (List.cons.inj e).1
  rw [e1]; rfl
theorem right_any (s : ByteArray) (k c f : Nat) (h : Plc s k c f) (w : World) :
    Calls Tryz.prog 73 #[.agg #[.string s, .int .i64 k, .int .i64 c, .int .i64 f]] w fun e w' => e = .returned (.bool true) ∧ Keeps w w' :=
  right_go s k f c h.1 (by omega) (by have := h.2.1; omega) h.2.2.1 (tab_of h.2.2) w

theorem skip_out {s : ByteArray} {k c f n k' c' f' m : Nat} (h : (k + (skipL n c f (s.data.toList.drop k)).1, (skipL n c f (s.data.toList.drop k)).2) = (k' + (skipL m c' f' (s.data.toList.drop k')).1, (skipL m c' f' (s.data.toList.drop k')).2)) (e : skipL m c' f' (s.data.toList.drop k') = (0, c', f')) :
    Ending.returned (.agg #[.string s, .int .i64 k', .int .i64 c', .int .i64 f']) = Ending.returned (.agg #[.string s, .int .i64 (k + (skipL n c f (s.data.toList.drop k)).1 : Nat), .int .i64 (skipL n c f (s.data.toList.drop k)).2.1, .int .i64 (skipL n c f (s.data.toList.drop k)).2.2]) := by
  rw [e] at h
  obtain ⟨h1, h2⟩ := Prod.mk.inj h
  rw [h1, h2]; rfl
theorem skip_bound {s : ByteArray} {k c f n k' c' f' m : Nat} (h : (k + (skipL n c f (s.data.toList.drop k)).1, (skipL n c f (s.data.toList.drop k)).2) = (k' + (skipL m c' f' (s.data.toList.drop k')).1, (skipL m c' f' (s.data.toList.drop k')).2)) (hc : c ≤ 1000000) (hf : f < 4) (hs : s.size ≤ 100000) : c' ≤ 1400000 := by
  have h1 := (Prod.mk.inj h).2
  have h2 := skip_ge (n := m) (c := c') (f := f') (l := s.data.toList.drop k')
  have h3 := skip_le (n := n) (c := c) (l := s.data.toList.drop k) hf
  rw [← h1] at h2
  rw [List.length_drop, bytes_len] at h3
  omega
theorem skip_far {s : ByteArray} {x : Nat × Nat × Nat} {k' c' f' v : Nat} {m : Int} {hk : k' < s.data.toList.length} (h : x = (k' + (skipL m.toNat c' f' (s.data.toList.drop k')).1, (skipL m.toNat c' f' (s.data.toList.drop k')).2)) (hd : s.data.toList.drop k' = s.data.toList[k'] :: s.data.toList.drop (k' + 1))
    (hv : wideB c' f' s.data.toList[k'] = v) (h0 : 0 < v) (hm : (v : Int) ≤ m) : x = (k' + 1 + (skipL (m - v).toNat (c' + v) 0 (s.data.toList.drop (k' + 1))).1, (skipL (m - v).toNat (c' + v) 0 (s.data.toList.drop (k' + 1))).2) := by
  rw [h, hd, skip_step (by omega) (by omega), hv, if_neg (by omega), show (m - v).toNat = m.toNat - v by omega]
  refine Prod.ext ?_ rfl
  show k' + (_ + 1) = k' + 1 + _
  omega
theorem skip_near {s : ByteArray} {x : Nat × Nat × Nat} {k' c' f' v j : Nat} {hk : k' < s.data.toList.length} (h : x = (k' + (skipL (j : Int).toNat c' f' (s.data.toList.drop k')).1, (skipL (j : Int).toNat c' f' (s.data.toList.drop k')).2)) (hd : s.data.toList.drop k' = s.data.toList[k'] :: s.data.toList.drop (k' + 1))
    (hv : wideB c' f' s.data.toList[k'] = v) (h0 : 0 < j) (hm : j < v) : x = (k' + (skipL (0 : Int).toNat (c' + j) (v - j) (s.data.toList.drop k')).1, (skipL (0 : Int).toNat (c' + j) (v - j) (s.data.toList.drop k')).2) := by
  rw [h, show (0 : Int).toNat = 0 from rfl, skip_zero, hd, Int.toNat_natCast, skip_step (by omega) (by omega), hv, if_pos hm]
theorem okP_in {s : ByteArray} {k' c' f' v j : Nat} {hk : k' < s.data.toList.length} (h : okP f' (s.data.toList.drop k')) (hd : s.data.toList.drop k' = s.data.toList[k'] :: s.data.toList.drop (k' + 1))
    (hv : wideB c' f' s.data.toList[k'] = v) (h0 : 0 < j) (hm : j < v) : okP (v - j) (s.data.toList.drop k') := by
  rw [hd] at h ⊢
  have h4 := wide_le h.1 c' s.data.toList[k']
  exact ⟨by omega, fun _ => ⟨_, by rw [wide_tab (c := c') h (by omega)]⟩⟩
set_option maxHeartbeats 2000000 in
theorem skip_any (s : ByteArray) (k c f : Nat) (n : Int) (hn : n ≤ 9223372036854775807) (h : Plc s k c f) (hs : s.size ≤ 100000) (w : World) :
    Calls Tryz.prog 64 #[.agg #[.string s, .int .i64 k, .int .i64 c, .int .i64 f], .int .i64 n] w fun e w' =>
      e = .returned (.agg #[.string s, .int .i64 (k + (skipL n.toNat c f (s.data.toList.drop k)).1 : Nat), .int .i64 (skipL n.toNat c f (s.data.toList.drop k)).2.1, .int .i64 (skipL n.toNat c f (s.data.toList.drop k)).2.2]) ∧ Keeps w w' := by
  have RT := Lib.hid (fun W => right_any s k c f h W)
  have CO := Lib.hid (fun b c h W => columns_any b c h W)
  obtain ⟨hk, hc, hf⟩ := h
  have OK := Lib.hid hf
  have hf4 := hf.1
  clear hf
  go_enter Tryz.func64, Tryz.ntmps64
  go_wp2_with fail
  refine (RT.out _).mono ?_
  rintro e w1 ⟨rfl, k1⟩
  have B1 := Lib.hid (((Blk.new w _ _).alloc _).keep k1)
  have B2 := Lib.hid ((Blk.new _ _ _).keep k1)
  have K1 := Lib.hid ((((Keeps.refl w).alloc _).alloc _).trans k1)
  clear k1
  generalize hB : w.heap.size = B at *
  have HB := Lib.hid hB
  have HC : Hid ((w.alloc (.cells #[.string s, .int .i64 k, .int .i64 c, .int .i64 f] 49)).heap.size = B + 1) := Lib.hid (by rw [← hB]; simp)
  rw [HC.out] at B2
  clear hB HC
  go_wp2_with fail
  go_loopw [1] (fun v wr => ∃ (k' c' f' : Nat) (m : Int), v = .int .i64 m ∧ Hid (Blk wr B 49 #[.string s, .int .i64 k', .int .i64 c', .int .i64 f']) ∧
    Hid (Blk wr (B + 1) 49 #[.string ⟨#[]⟩, .int .i64 0, .int .i64 0, .int .i64 0]) ∧ Hid (Keeps w wr) ∧ k' ≤ s.size ∧ Hid (okP f' (s.data.toList.drop k')) ∧ f' < 4 ∧ m ≤ 9223372036854775807 ∧
    Hid ((k + (skipL n.toNat c f (s.data.toList.drop k)).1, (skipL n.toNat c f (s.data.toList.drop k)).2) = (k' + (skipL m.toNat c' f' (s.data.toList.drop k')).1, (skipL m.toNat c' f' (s.data.toList.drop k')).2))) (fun v _ => (RowKit.intOf v).toNat)
  case atStart => exact ⟨k, c, f, n, rfl, B1, B2, K1, hk, OK, hf4, hn, Lib.hid rfl⟩
  case round =>
    clear B1 B2 K1 hk OK hn RT
    obtain ⟨k', c', f', m, rfl, BB, BR, KR, hk', OK, hf', hm, HS⟩ := hrel
    have hc' := skip_bound HS.out (by omega) hf4 hs
    have x0 : wr.cell? ⟨B, 0, none⟩ = some (.string s) := BB.out.cell 0 rfl
    have x1 : wr.cell? ⟨B, 1, none⟩ = some (.int .i64 k') := BB.out.cell 1 rfl
    have x2 : wr.cell? ⟨B, 2, none⟩ = some (.int .i64 c') := BB.out.cell 2 rfl
    have x3 : wr.cell? ⟨B, 3, none⟩ = some (.int .i64 f') := BB.out.cell 3 rfl
    have g1 := BB.out.free 1
    have g2 := BB.out.free 2
    have g3 := BB.out.free 3
    by_cases h0 : 0 < m
    · by_cases hk : k' < s.size
      · have HD := Lib.hid (drop_cons s.data.toList k' (by rw [bytes_len]; exact hk))
        by_cases hf0 : f' = 0
        · subst hf0
          have CB := Lib.hid (CO.out s[k'] c' (by omega))
          have hw4 := wide_le (f := 0) (by omega) c' s[k']
          have HV : Hid (wideB c' 0 s.data.toList[k'] = wideB c' 0 s[k']) := Lib.hid rfl
          generalize wideB c' 0 s[k'] = v at *
          by_cases hv : v = 0
          · subst hv
            have HE : Hid (skipL m.toNat c' 0 (s.data.toList.drop k') = (0, c', 0)) := Lib.hid (by rw [HD.out, skip_cons, if_pos (.inr HV.out)])
            have y0 : wr.cell? ⟨B + 1, 0, none⟩ = some (.string ⟨#[]⟩) := BR.out.cell 0 rfl
            have y1 : wr.cell? ⟨B + 1, 1, none⟩ = some (.int .i64 0) := BR.out.cell 1 rfl
            have y2 : wr.cell? ⟨B + 1, 2, none⟩ = some (.int .i64 0) := BR.out.cell 2 rfl
            have y3 : wr.cell? ⟨B + 1, 3, none⟩ = some (.int .i64 0) := BR.out.cell 3 rfl
            have e0 := BR.out.free 0
            have e1 := BR.out.free 1
            have e2 := BR.out.free 2
            have e3 := BR.out.free 3
            go_wp2_with fail
            go_quiet ((go_at_call 90; exact quiet_in (CB.out _) ⟨_, rfl⟩))
            go_wp2_with fail
            refine ret_blk rfl rfl rfl (((((BR.out.drewN nq).set 0 _ rfl).set 1 _ rfl).set 2 _ rfl).set 3 _ rfl) Tryz.underlying49 (by kernel_rfl) ⟨?_, (((((KR.out.drewN nq).set (by have := HB.out; omega) 0 _).set (by have := HB.out; omega) 1 _).set (by have := HB.out; omega) 2 _).set (by have := HB.out; omega) 3 _)⟩
            exact skip_out HS.out HE.out
          · have hv1 : 0 < v := by omega
            clear hv
            by_cases hmv : (v : Int) ≤ m
            · have hmn : (if (v : Int) < m then (v : Int) else m) = v := by split <;> omega
              have hm0 : 0 ≤ m - (v : Int) := by omega
              go_wp2_with fail
              go_quiet ((go_at_call 90; exact quiet_in (CB.out _) ⟨_, rfl⟩))
              go_wp2_with fail
              go_roundw
              case rel => exact ⟨k' + 1, c' + v, 0, m - v, rfl, Lib.hid ((((BB.out.drewN nq).set 2 _ rfl).set 3 _ rfl).set 1 _ (by simp)), Lib.hid ((((BR.out.drewN nq).other (by omega) _ _).other (by omega) _ _).other (by omega) _ _), Lib.hid ((((KR.out.drewN nq).set (by have := HB.out; omega) _ _).set (by have := HB.out; omega) _ _).set (by have := HB.out; omega) _ _), by omega, Lib.hid (okP_nil _), by omega, by omega, Lib.hid (skip_far HS.out HD.out HV.out (by omega) (by omega))⟩
              case measure => simp [RowKit.intOf]; omega
            · obtain ⟨j, rfl⟩ : ∃ j : Nat, m = (j : Int) := ⟨m.toNat, by omega⟩
              have hmn : (if (v : Int) < (j : Int) then (v : Int) else (j : Int)) = j := by split <;> omega
              go_wp2_with fail
              go_quiet ((go_at_call 90; exact quiet_in (CB.out _) ⟨_, rfl⟩))
              go_wp2_with fail
              go_roundw
              case rel => exact ⟨k', c' + j, v - j, 0, rfl, Lib.hid (((BB.out.drewN nq).set 2 _ rfl).set 3 _ (by simp; omega)), Lib.hid (((BR.out.drewN nq).other (by omega) _ _).other (by omega) _ _), Lib.hid (((KR.out.drewN nq).set (by have := HB.out; omega) _ _).set (by have := HB.out; omega) _ _), by omega, Lib.hid (okP_in OK.out HD.out HV.out (by omega) (by omega)), by omega, by omega, Lib.hid (skip_near HS.out HD.out HV.out (by omega) (by omega))⟩
              case measure => simp [RowKit.intOf]; omega
        · have hv1 : 0 < f' := by omega
          have HV : Hid (wideB c' f' s.data.toList[k'] = f') := Lib.hid (wide_left hf0 _ _)
          clear hf0
          by_cases hmv : (f' : Int) ≤ m
          · have hmn : (if (f' : Int) < m then (f' : Int) else m) = f' := by split <;> omega
            have hm0 : 0 ≤ m - (f' : Int) := by omega
            go_wp2_with fail
            go_roundw
            case rel => exact ⟨k' + 1, c' + f', 0, m - f', rfl, Lib.hid (((BB.out.set 2 _ rfl).set 3 _ rfl).set 1 _ (by simp)), Lib.hid (((BR.out.other (by omega) _ _).other (by omega) _ _).other (by omega) _ _), Lib.hid (((KR.out.set (by have := HB.out; omega) _ _).set (by have := HB.out; omega) _ _).set (by have := HB.out; omega) _ _), by omega, Lib.hid (okP_nil _), by omega, by omega, Lib.hid (skip_far HS.out HD.out HV.out (by omega) (by omega))⟩
            case measure => simp [RowKit.intOf]; omega
          · obtain ⟨j, rfl⟩ : ∃ j : Nat, m = (j : Int) := ⟨m.toNat, by omega⟩
            have hmn : (if (f' : Int) < (j : Int) then (f' : Int) else (j : Int)) = j := by split <;> omega
            go_wp2_with fail
            go_roundw
            case rel => exact ⟨k', c' + j, f' - j, 0, rfl, Lib.hid ((BB.out.set 2 _ rfl).set 3 _ (by simp; omega)), Lib.hid ((BR.out.other (by omega) _ _).other (by omega) _ _), Lib.hid ((KR.out.set (by have := HB.out; omega) _ _).set (by have := HB.out; omega) _ _), by omega, Lib.hid (okP_in OK.out HD.out HV.out (by omega) (by omega)), by omega, by omega, Lib.hid (skip_near HS.out HD.out HV.out (by omega) (by omega))⟩
            case measure => simp [RowKit.intOf]; omega
      · have HE : Hid (skipL m.toNat c' f' (s.data.toList.drop k') = (0, c', f')) := Lib.hid (by rw [List.drop_eq_nil_of_le (by rw [bytes_len]; omega), skip_nil])
        have y0 : wr.cell? ⟨B + 1, 0, none⟩ = some (.string ⟨#[]⟩) := BR.out.cell 0 rfl
        have y1 : wr.cell? ⟨B + 1, 1, none⟩ = some (.int .i64 0) := BR.out.cell 1 rfl
        have y2 : wr.cell? ⟨B + 1, 2, none⟩ = some (.int .i64 0) := BR.out.cell 2 rfl
        have y3 : wr.cell? ⟨B + 1, 3, none⟩ = some (.int .i64 0) := BR.out.cell 3 rfl
        have e0 := BR.out.free 0
        have e1 := BR.out.free 1
        have e2 := BR.out.free 2
        have e3 := BR.out.free 3
        go_wp2_with fail
        refine ret_blk rfl rfl rfl ((((BR.out.set 0 _ rfl).set 1 _ rfl).set 2 _ rfl).set 3 _ rfl) Tryz.underlying49 (by kernel_rfl) ⟨?_, ((((KR.out.set (by have := HB.out; omega) 0 _).set (by have := HB.out; omega) 1 _).set (by have := HB.out; omega) 2 _).set (by have := HB.out; omega) 3 _)⟩
        exact skip_out HS.out HE.out
    · have HE : Hid (skipL m.toNat c' f' (s.data.toList.drop k') = (0, c', f')) := Lib.hid (by rw [show m.toNat = 0 by omega, skip_zero])
      have y0 : wr.cell? ⟨B + 1, 0, none⟩ = some (.string ⟨#[]⟩) := BR.out.cell 0 rfl
      have y1 : wr.cell? ⟨B + 1, 1, none⟩ = some (.int .i64 0) := BR.out.cell 1 rfl
      have y2 : wr.cell? ⟨B + 1, 2, none⟩ = some (.int .i64 0) := BR.out.cell 2 rfl
      have y3 : wr.cell? ⟨B + 1, 3, none⟩ = some (.int .i64 0) := BR.out.cell 3 rfl
      have e0 := BR.out.free 0
      have e1 := BR.out.free 1
      have e2 := BR.out.free 2
      have e3 := BR.out.free 3
      go_wp2_with fail
      refine ret_blk rfl rfl rfl ((((BR.out.set 0 _ rfl).set 1 _ rfl).set 2 _ rfl).set 3 _ rfl) Tryz.underlying49 (by kernel_rfl) ⟨?_, ((((KR.out.set (by have := HB.out; omega) 0 _).set (by have := HB.out; omega) 1 _).set (by have := HB.out; omega) 2 _).set (by have := HB.out; omega) 3 _)⟩
      exact skip_out HS.out HE.out
end Go.Proofs.YtfgpephpkibbaaaGreatDoor


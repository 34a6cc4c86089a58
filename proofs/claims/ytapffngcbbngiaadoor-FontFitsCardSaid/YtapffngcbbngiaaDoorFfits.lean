/-
  FontFits returns true of any font, size, width and codes.
-/
import Derived.Test.YtapffngcbbngiaaDoorFaw
namespace Go.Proofs.YtapffngcbbngiaaDoor
open Go.RowKit Go.Lib

/-- A contract that leaves the world alone, wherever a quiet region calls it. -/
theorem quiet_in {P : Program} {f : FuncId} {args : Array Value} {W : World} {v : Value} {R : World → Prop} (h : Calls P f args W fun e w' => e = .returned v ∧ W = w') (hw : R W) :
    Calls P f args W fun e w' => e = .returned v ∧ R w' := h.mono fun _ _ ⟨he, hm⟩ => ⟨he, hm ▸ hw⟩
theorem cutGo_spec (f size width : Int) : ∀ (u : Int) (l : List UInt8), (cutGo f size width u l = 0 ∨ u + runL f size (l.take (cutGo f size width u l)) ≤ width) ∧ (cutGo f size width u l < l.length → width < u + runL f size (l.take (cutGo f size width u l + 1)))
  | u, [] => ⟨.inl rfl, fun h => by simp [cutGo] at h⟩
  | u, b :: l => by
    by_cases h : width < u + advL f size b.toNat
    · have e : cutGo f size width u (b :: l) = 0 := by unfold cutGo; rw [if_pos h]
      rw [e]
      exact ⟨.inl rfl, fun _ => by simp [runL]; exact h⟩
    · have e : cutGo f size width u (b :: l) = cutGo f size width (u + advL f size b.toNat) l + 1 := by
        conv => lhs; unfold cutGo
        rw [if_neg h]; omega
      obtain ⟨h1, h2⟩ := cutGo_spec f size width (u + advL f size b.toNat) l
      rw [e, List.take_succ_cons, List.take_succ_cons]
      simp only [runL, List.length_cons]
      refine ⟨.inr ?_, fun h3 => by have := h2 (by omega); omega⟩
      rcases h1 with h1 | h1
      · rw [h1, List.take_zero]; simp only [runL]; omega
      · omega
/-- What is cut off has room, and one more hasn't. -/
theorem cut_spec {f size width : Int} (hs : 0 ≤ size) (l : List UInt8) : cutL f size width l ≤ l.length ∧ (l ≠ [] → 0 < cutL f size width l) ∧ (cutL f size width l ≤ 1 ∨ runL f size (l.take (cutL f size width l)) ≤ width) ∧
    (cutL f size width l < l.length → width < runL f size (l.take (cutL f size width l + 1))) := by
  obtain ⟨h1, h2⟩ := cutGo_spec f size width 0 l
  have h3 := cutGo_le f size width 0 l
  unfold cutL
  by_cases hl : l = []
  · subst hl; simp
  · have hp := List.length_pos_iff.2 hl
    rw [if_neg hl]
    by_cases h0 : cutGo f size width 0 l = 0
    · rw [h0] at h2
      have e : max 1 (cutGo f size width 0 l) = 1 := by omega
      rw [e]
      refine ⟨by omega, fun _ => by omega, .inl (by omega), fun _ => ?_⟩
      have a := h2 (by omega)
      have b := run_take_le (f := f) hs l 1 2 (by omega)
      have e1 : runL f size (l.take (0 + 1)) = runL f size (l.take 1) := rfl
      have e2 : runL f size (l.take (1 + 1)) = runL f size (l.take 2) := rfl
      omega
    · have e : max 1 (cutGo f size width 0 l) = cutGo f size width 0 l := by omega
      rw [e]
      refine ⟨h3, fun _ => by omega, .inr (by rcases h1 with h1 | h1 <;> omega), fun h => by have := h2 h; omega⟩

set_option maxHeartbeats 800000 in
theorem ffits_out (f size width : Int) (s : ByteArray) (w : World) (hs : s.size ≤ maxLen) (h : 500 < s.size ∨ size < 1000 ∨ 72000 < size) (hF : Fnt w) :
    Calls Tryd.prog 5 #[.agg #[.int .i64 f, .int .i64 size, .int .i64 width, .string s]] w fun e w' => e = .returned (.bool true) ∧ Keeps w w' := by
  have AW := Lib.hid (fun W h => awake5_any W h)
  have HF := Lib.hid hF
  unfold maxLen at hs
  clear hF
  by_cases h1 : 500 < s.size
  · clear h
    go_enter Tryd.func5, Tryd.ntmps5
    go_wp2_with fail
    refine (AW.out _ (HF.out.keep ((Keeps.refl w).alloc _))).mono ?_
    rintro e w1 ⟨rfl, rfl⟩
    go_wp2_with fail
    go_ret
    exact ⟨rfl, (Keeps.refl w).alloc _⟩
  · by_cases h2 : size < 1000
    · clear h
      go_enter Tryd.func5, Tryd.ntmps5
      go_wp2_with fail
      refine (AW.out _ (HF.out.keep ((Keeps.refl w).alloc _))).mono ?_
      rintro e w1 ⟨rfl, rfl⟩
      go_wp2_with fail
      go_ret
      exact ⟨rfl, (Keeps.refl w).alloc _⟩
    · have h3 : 72000 < size := by omega
      clear h
      go_enter Tryd.func5, Tryd.ntmps5
      go_wp2_with fail
      refine (AW.out _ (HF.out.keep ((Keeps.refl w).alloc _))).mono ?_
      rintro e w1 ⟨rfl, rfl⟩
      go_wp2_with fail
      go_ret
      exact ⟨rfl, (Keeps.refl w).alloc _⟩
set_option maxHeartbeats 2000000 in
theorem ffits_in (f size width : Int) (s : ByteArray) (w : World) (hs : s.size ≤ 500) (h1 : 1000 ≤ size) (h2 : size ≤ 72000) (hF : Fnt w) :
    Calls Tryd.prog 5 #[.agg #[.int .i64 f, .int .i64 size, .int .i64 width, .string s]] w fun e w' => e = .returned (.bool true) ∧ Keeps w w' := by
  have AW := Lib.hid (fun W h => awake5_any W h)
  have HF := Lib.hid hF
  have WD := Lib.hid (fun c hc W h => width_any f c hc W h)
  have CU := Lib.hid (fun W h => cut_any f size width s W (by omega) (by omega) (by omega) h)
  have RN := Lib.hid (fun t W (ht : t.size ≤ 500) h => run_any f size t W (by omega) (by omega) (by omega) h)
  have WR := Lib.hid (fun c hc => width_range f c hc)
  obtain ⟨k0, k1, k2, k3⟩ := cut_spec (f := f) (size := size) (width := width) (by omega) s.data.toList
  rw [bytes_len] at k0 k3
  have K1 : 0 < s.size → 0 < cutL f size width s.data.toList := fun h => k1 (fun e => by have := bytes_len s; rw [e] at this; simp at this; omega)
  clear k1 hF
  have K2 := Lib.hid k2
  have K3 := Lib.hid k3
  clear k2 k3
  generalize cutL f size width s.data.toList = k at *
  have RA := Lib.hid (fun W h => RN.out (s.extract 0 k) W (by rw [ByteArray.size_extract]; omega) h)
  have RB := Lib.hid (fun W h => RN.out (s.extract 0 (k + 1)) W (by rw [ByteArray.size_extract]; omega) h)
  rw [show (s.extract 0 k).data.toList = s.data.toList.take k by rw [ext_take]] at RA
  rw [show (s.extract 0 (k + 1)).data.toList = s.data.toList.take (k + 1) by rw [ext_take]] at RB
  generalize runL f size (s.data.toList.take k) = za at *
  generalize runL f size (s.data.toList.take (k + 1)) = zb at *
  clear RN
  by_cases hk : k < 1
  · have h0 : ¬ 0 < s.size := fun h => by have := K1 h; omega
    obtain rfl : s = ⟨#[]⟩ := bytes_eq (List.eq_nil_of_length_eq_zero (by rw [bytes_len]; omega))
    obtain rfl : k = 0 := by omega
    clear hk h0 K1 k0
    go_enter Tryd.func5, Tryd.ntmps5
    go_wp2_with fail
    refine (CU.out _ (HF.out.keep ((Keeps.refl w).alloc _))).mono ?_
    rintro e w1 ⟨rfl, rfl⟩
    go_wp2_with fail
    go_loopw [4] (fun i wr => i = .int .i64 0 ∧ wr = (w.alloc (.cells #[.int .i64 f, .int .i64 size, .int .i64 width, .string ⟨#[]⟩] 32))) (fun _ _ => 0)
    case atStart => exact ⟨rfl, rfl⟩
    case round =>
      obtain ⟨rfl, rfl⟩ := hrel
      go_wp2_with fail
      go_quiet ((first | (go_at_call 8; exact quiet_in (AW.out _ (HF.out.keep (((Keeps.refl w).alloc _).drewN _))) ⟨_, rfl⟩) | (go_at_call 19; exact quiet_in (RA.out _ (HF.out.keep (((Keeps.refl w).alloc _).drewN _))) ⟨_, rfl⟩) | (go_at_call 19; exact quiet_in (RB.out _ (HF.out.keep (((Keeps.refl w).alloc _).drewN _))) ⟨_, rfl⟩)))
      go_wp2_with fail
      go_ret
      exact ⟨rfl, ((Keeps.refl w).alloc _).drewN _⟩
  · go_enter Tryd.func5, Tryd.ntmps5
    go_wp2_with fail
    refine (CU.out _ (HF.out.keep ((Keeps.refl w).alloc _))).mono ?_
    rintro e w1 ⟨rfl, rfl⟩
    go_wp2_with fail
    go_loopw [4] (fun i wr => ∃ j m : Nat, j ≤ s.size ∧ i = .int .i64 j ∧ wr = (w.alloc (.cells #[.int .i64 f, .int .i64 size, .int .i64 width, .string s] 32)).drewN m) (fun i _ => s.size - (RowKit.intOf i).toNat)
    case atStart => exact ⟨0, 0, Nat.zero_le _, rfl, rfl⟩
    case round =>
      obtain ⟨j, m, hj, rfl, rfl⟩ := hrel
      by_cases c : j < s.size
      · have hb := s[j].toNat_lt
        have HW := Lib.hid (fun W h => WD.out s[j].toNat hb W h)
        obtain ⟨d0, d1⟩ := WR.out s[j].toNat hb
        generalize widthL f s[j].toNat = d at *
        go_wp2_with fail
        go_quiet ((go_at_call 9; exact quiet_in (HW.out _ (HF.out.keep (((Keeps.refl w).alloc _).drewN _))) ⟨_, rfl⟩))
        go_wp2_with fail
        go_roundw
        case rel => exact ⟨j + 1, _, by omega, by go_num, rfl⟩
        case measure => simp [RowKit.intOf]; omega
      · have u1 : IntKind.i64.wrap ((k : Int) + 1) = (k : Int) + 1 := IntWalk.i64_in _ ⟨by omega, by omega⟩
        have u2 : (0 : Int) ≤ (k : Int) + 1 := by omega
        have u3 : ((k : Int) + 1).toNat = k + 1 := by omega
        have U1 := Lib.hid u1
        have U2 := Lib.hid u2
        have U3 := Lib.hid u3
        clear u1 u2 u3
        by_cases c1 : k ≤ 1
        · have t1 : decide ((k : Int) ≤ 1) = true := decide_eq_true (by omega)
          by_cases c2 : k = s.size
          · have t2 : ((k : Int) == (s.size : Int)) = true := beq_iff_eq.2 (by omega)
            have t3 : (k == s.size) = true := beq_iff_eq.2 c2
            clear c2 c1
            go_wp2_with fail
            go_quiet ((first | (go_at_call 8; exact quiet_in (AW.out _ (HF.out.keep (((Keeps.refl w).alloc _).drewN _))) ⟨_, rfl⟩)))
            go_wp2_with fail
            go_ret
            exact ⟨rfl, (((Keeps.refl w).alloc _).drewN _).drewN _⟩
          · have t2 : ((k : Int) == (s.size : Int)) = false := beq_eq_false_iff_ne.2 (by omega)
            have t3 : (k == s.size) = false := beq_eq_false_iff_ne.2 c2
            have q1 : width < zb := K3.out (by omega)
            have q2 : k + 1 ≤ s.size := by omega
            have u1 := U1.out
            have u2 := U2.out
            have u3 := U3.out
            clear c2 c1
            go_wp2_with fail
            go_quiet ((first | (go_at_call 8; exact quiet_in (AW.out _ (HF.out.keep (((Keeps.refl w).alloc _).drewN _))) ⟨_, rfl⟩) | (go_at_call 19; (with_reducible refine quiet_in (RB.out _ ?_) ?_); exact HF.out.keep (((Keeps.refl w).alloc _).drewN _); exact ⟨_, rfl⟩)))
            go_wp2_with fail
            go_ret
            exact ⟨rfl, (((Keeps.refl w).alloc _).drewN _).drewN _⟩
        · have t1 : decide ((k : Int) ≤ 1) = false := decide_eq_false (by omega)
          have q0 : za ≤ width := by rcases K2.out with h | h <;> omega
          by_cases c2 : k = s.size
          · have t2 : ((k : Int) == (s.size : Int)) = true := beq_iff_eq.2 (by omega)
            have t3 : (k == s.size) = true := beq_iff_eq.2 c2
            clear c2 c1
            go_wp2_with fail
            go_quiet ((first | (go_at_call 8; exact quiet_in (AW.out _ (HF.out.keep (((Keeps.refl w).alloc _).drewN _))) ⟨_, rfl⟩) | (go_at_call 19; (with_reducible refine quiet_in (RA.out _ ?_) ?_); exact HF.out.keep (((Keeps.refl w).alloc _).drewN _); exact ⟨_, rfl⟩)))
            go_wp2_with fail
            go_ret
            exact ⟨rfl, (((Keeps.refl w).alloc _).drewN _).drewN _⟩
          · have t2 : ((k : Int) == (s.size : Int)) = false := beq_eq_false_iff_ne.2 (by omega)
            have t3 : (k == s.size) = false := beq_eq_false_iff_ne.2 c2
            have q1 : width < zb := K3.out (by omega)
            have q2 : k + 1 ≤ s.size := by omega
            have u1 := U1.out
            have u2 := U2.out
            have u3 := U3.out
            clear c2 c1
            go_wp2_with fail
            go_quiet ((first | (go_at_call 8; exact quiet_in (AW.out _ (HF.out.keep (((Keeps.refl w).alloc _).drewN _))) ⟨_, rfl⟩) | (go_at_call 19; (with_reducible refine quiet_in (RA.out _ ?_) ?_); exact HF.out.keep (((Keeps.refl w).alloc _).drewN _); exact ⟨_, rfl⟩) | (go_at_call 19; (with_reducible refine quiet_in (RB.out _ ?_) ?_); exact HF.out.keep (((Keeps.refl w).alloc _).drewN _); exact ⟨_, rfl⟩)))
            go_wp2_with fail
            go_ret
            exact ⟨rfl, (((Keeps.refl w).alloc _).drewN _).drewN _⟩
theorem ffits_any (f size width : Int) (s : ByteArray) (w : World) (hs : s.size ≤ maxLen) (hF : Fnt w) :
    Calls Tryd.prog 5 #[.agg #[.int .i64 f, .int .i64 size, .int .i64 width, .string s]] w fun e w' => e = .returned (.bool true) ∧ Keeps w w' := by
  by_cases h : s.size ≤ 500 ∧ 1000 ≤ size ∧ size ≤ 72000
  · exact ffits_in f size width s w h.1 h.2.1 h.2.2 hF
  · exact ffits_out f size width s w hs (by omega) hF
end Go.Proofs.YtapffngcbbngiaaDoor

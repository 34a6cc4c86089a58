/-
  Texts of the proof, one behind the other: Mkb, Mkc.
-/
import Derived.Test.YtfgpephpkibbaaaGreatDoorQ10
import Derived.Test.YtfgpephpkibbaaaGreatDoorQ11
import Derived.LoopTactic
/-
  Contracts of Rule, number, signOf, List, of the package.
-/
namespace Go.Proofs.YtfgpephpkibbaaaGreatDoor
open Go.RowKit Go.Lib

theorem head_get (s : ByteArray) (h : 0 < s.size) : s.data.toList.headD 0 = s[0] := by
  have := drop_cons s.data.toList 0 (by rw [bytes_len]; exact h)
  rw [List.drop_zero] at this
  rw [this]; rfl
theorem takeB_get (s : ByteArray) (k : Nat) (h : k < s.size) : s.data.toList.take (k + 1) = s.data.toList.take k ++ [s[k]] := by
  rw [List.take_succ_eq_append_getElem (by rw [bytes_len]; exact h)]; rfl
theorem mem_get (s : ByteArray) (k : Nat) (h : k < s.size) : s[k] ∈ s.data.toList := by
  rw [← byte_get s k h]; exact List.getElem_mem _
/-- Where Rule's loop stands. -/
def RuleAt (s : ByteArray) (k m : Nat) : Prop := (s.data.toList.take k).all (okRule (s.data.toList.headD 0)) = true ∧ ruleN (s.data.toList.take k) = m ∧ m ≤ k
theorem ruleAt_next {s : ByteArray} {k m : Nat} (h : RuleAt s k m) (hk : k < s.size) (ho : okRule (s.data.toList.headD 0) s[k] = true) : RuleAt s (k + 1) (m + if isB s[k] then 0 else 1) := by
  obtain ⟨h1, h2, h3⟩ := h
  refine ⟨?_, ?_, by split <;> omega⟩
  · rw [takeB_get s k hk, List.all_append, h1, Bool.true_and, List.all_cons, ho]; rfl
  · rw [takeB_get s k hk, ruleN_snoc, h2]
theorem ruleAt_end {s : ByteArray} {k m : Nat} (h : RuleAt s k m) (hk : s.size ≤ k) : ruleL s.data.toList = decide (3 ≤ m) := by
  obtain ⟨h1, h2, _⟩ := h
  rw [List.take_of_length_le (by rw [bytes_len]; exact hk)] at h1 h2
  unfold ruleL
  rw [h1, h2]; rfl
theorem sg_notB {b : UInt8} (h : b.toNat = 42 ∨ b.toNat = 95 ∨ b.toNat = 45) : isB b = false ∧ sgB b = true := by
  unfold isB sgB
  rcases h with h | h | h <;> rw [h] <;> exact ⟨rfl, rfl⟩
theorem nsg {b : UInt8} (h : ¬ (b.toNat = 42 ∨ b.toNat = 95 ∨ b.toNat = 45)) : sgB b = false := by
  unfold sgB
  rw [decide_eq_false (fun e => h (.inl e)), decide_eq_false (fun e => h (.inr (.inl e))), decide_eq_false (fun e => h (.inr (.inr e)))]
  rfl
set_option maxRecDepth 100000 in
set_option maxHeartbeats 1000000 in
theorem rule_any (s : ByteArray) (w : World) (hs : s.size ≤ maxLen) :
    Calls Tryz.prog 85 #[.string s] w fun e w' => e = .returned (.bool (ruleL s.data.toList)) ∧ w = w' := by
  unfold maxLen at hs
  go_enter Tryz.func85, Tryz.ntmps85
  go_wp2
  go_loop [3, 8] (fun n i => ∃ k m : Nat, k ≤ s.size ∧ m ≤ k ∧ Hid (RuleAt s k m) ∧ n = .int .i64 m ∧ i = .int .i64 k) (fun _ i => s.size - (RowKit.intOf i).toNat)
  case atStart => exact ⟨0, 0, Nat.zero_le _, Nat.le_refl _, Lib.hid ⟨rfl, rfl, Nat.le_refl _⟩, rfl, rfl⟩
  case round =>
    obtain ⟨k, m, hk, hm, HR, rfl, rfl⟩ := hrel
    by_cases h : k < s.size
    · have h0 : 0 < s.size := by omega
      have HH := Lib.hid (head_get s h0)
      by_cases c : s[k].toNat = 42 ∨ s[k].toNat = 95 ∨ s[k].toNat = 45
      · by_cases e : s[k] = s[0]
        · have t0 : (s[k].toNat != s[0].toNat) = false := by rw [e]; simp
          have t00 : ((s[k].toNat : Int) != (s[0].toNat : Int)) = false := by rw [e]; simp
          have HN : Hid (RuleAt s (k + 1) (m + 1)) := Lib.hid (by
            have := ruleAt_next HR.out h (by unfold okRule; rw [HH.out, (sg_notB c).1, (sg_notB c).2, decide_eq_true e]; rfl)
            rw [(sg_notB c).1] at this
            exact this)
          rcases c with c | c | c
          · have t1 : ((s[k].toNat : Int) == 42) = true := by rw [c]; rfl
            clear c e
            go_wp2_with fail
            go_round
            case rel => exact ⟨k + 1, m + 1, h, by omega, HN, by go_num, by go_num⟩
            case measure => simp [RowKit.intOf]; omega
          · have t1 : ((s[k].toNat : Int) == 42) = false := by rw [c]; rfl
            have t2 : ((s[k].toNat : Int) == 95) = true := by rw [c]; rfl
            clear c e
            go_wp2_with fail
            go_round
            case rel => exact ⟨k + 1, m + 1, h, by omega, HN, by go_num, by go_num⟩
            case measure => simp [RowKit.intOf]; omega
          · have t1 : ((s[k].toNat : Int) == 42) = false := by rw [c]; rfl
            have t2 : ((s[k].toNat : Int) == 95) = false := by rw [c]; rfl
            have t3 : ((s[k].toNat : Int) == 45) = true := by rw [c]; rfl
            clear c e
            go_wp2_with fail
            go_round
            case rel => exact ⟨k + 1, m + 1, h, by omega, HN, by go_num, by go_num⟩
            case measure => simp [RowKit.intOf]; omega
        · have hne : s[k].toNat ≠ s[0].toNat := fun x => e (UInt8.toNat_inj.1 x)
          have t0 : (s[k].toNat != s[0].toNat) = true := bne_iff_ne.2 hne
          have t00 : ((s[k].toNat : Int) != (s[0].toNat : Int)) = true := bne_iff_ne.2 (by omega)
          have HN : Hid (ruleL s.data.toList = false) := Lib.hid (rule_no (mem_get s k h) (by unfold okRule; rw [HH.out, (sg_notB c).1, decide_eq_false e]; simp))
          rcases c with c | c | c
          · have t1 : ((s[k].toNat : Int) == 42) = true := by rw [c]; rfl
            clear c e hne
            go_wp2_with fail
            go_ret
            exact ⟨ret_bool HN.out.symm, rfl⟩
          · have t1 : ((s[k].toNat : Int) == 42) = false := by rw [c]; rfl
            have t2 : ((s[k].toNat : Int) == 95) = true := by rw [c]; rfl
            clear c e hne
            go_wp2_with fail
            go_ret
            exact ⟨ret_bool HN.out.symm, rfl⟩
          · have t1 : ((s[k].toNat : Int) == 42) = false := by rw [c]; rfl
            have t2 : ((s[k].toNat : Int) == 95) = false := by rw [c]; rfl
            have t3 : ((s[k].toNat : Int) == 45) = true := by rw [c]; rfl
            clear c e hne
            go_wp2_with fail
            go_ret
            exact ⟨ret_bool HN.out.symm, rfl⟩
      · have t1 : ((s[k].toNat : Int) == 42) = false := beq_eq_false_iff_ne.2 (by omega)
        have t2 : ((s[k].toNat : Int) == 95) = false := beq_eq_false_iff_ne.2 (by omega)
        have t3 : ((s[k].toNat : Int) == 45) = false := beq_eq_false_iff_ne.2 (by omega)
        by_cases b : s[k].toNat = 32 ∨ s[k].toNat = 9
        · have hB : isB s[k] = true := by unfold isB; rcases b with b | b <;> rw [b] <;> rfl
          have HN : Hid (RuleAt s (k + 1) m) := Lib.hid (by
            have := ruleAt_next HR.out h (by unfold okRule; rw [hB]; rfl)
            rw [hB] at this
            exact this)
          clear hB
          rcases b with b | b
          · have t4 : ((s[k].toNat : Int) == 32) = true := by rw [b]; rfl
            clear b c
            go_wp2_with fail
            go_round
            case rel => exact ⟨k + 1, m, h, by omega, HN, by go_num, by go_num⟩
            case measure => simp [RowKit.intOf]; omega
          · have t4 : ((s[k].toNat : Int) == 32) = false := by rw [b]; rfl
            have t5 : ((s[k].toNat : Int) == 9) = true := by rw [b]; rfl
            clear b c
            go_wp2_with fail
            go_round
            case rel => exact ⟨k + 1, m, h, by omega, HN, by go_num, by go_num⟩
            case measure => simp [RowKit.intOf]; omega
        · have t4 : ((s[k].toNat : Int) == 32) = false := beq_eq_false_iff_ne.2 (by omega)
          have t5 : ((s[k].toNat : Int) == 9) = false := beq_eq_false_iff_ne.2 (by omega)
          have HN : Hid (ruleL s.data.toList = false) := Lib.hid (rule_no (mem_get s k h) (by
            unfold okRule isB
            rw [nsg c, decide_eq_false (fun x => b (.inl x)), decide_eq_false (fun x => b (.inr x))]
            rfl))
          clear b c
          go_wp2_with fail
          go_ret
          exact ⟨ret_bool HN.out.symm, rfl⟩
    · have HN := Lib.hid (ruleAt_end HR.out (by omega))
      go_wp2_with fail
      go_ret
      exact ⟨ret_bool (by rw [HN.out]; by_cases q : 3 ≤ m <;> simp [q] <;> omega), rfl⟩

set_option maxHeartbeats 1000000 in
set_option maxRecDepth 100000 in
theorem number_any (s : ByteArray) (w : World) (hs : s.size ≤ maxLen) :
    Calls Tryz.prog 144 #[.string s] w fun e w' => e = .returned (.tuple #[.int .i64 (decV 9 0 s.data.toList : Nat), .int .i64 (decC 9 s.data.toList : Nat)]) ∧ w = w' := by
  unfold maxLen at hs
  have hl := Lib.hid (bytes_len s)
  have DG := Lib.hid (fun b W => mdigit_any b W)
  go_enter Tryz.func144, Tryz.ntmps144
  go_wp2
  go_loop [4, 5] (fun x i => ∃ k v : Nat, k ≤ s.size ∧ k ≤ 9 ∧ Hid (decV 9 0 s.data.toList = decV (9 - k) v (s.data.toList.drop k)) ∧ Hid (decC 9 s.data.toList = k + decC (9 - k) (s.data.toList.drop k)) ∧ Hid (v < 10 ^ k) ∧ x = .int .i64 v ∧ i = .int .i64 k) (fun _ i => s.size - (RowKit.intOf i).toNat)
  case atStart => exact ⟨0, 0, Nat.zero_le _, by omega, Lib.hid rfl, Lib.hid (by rw [Nat.zero_add]; rfl), Lib.hid (by decide), rfl, rfl⟩
  case round =>
    obtain ⟨k, v, hk, hk9, HV, HC, HB, rfl, rfl⟩ := hrel
    obtain ⟨q, hq⟩ : ∃ q : Nat, q = min s.size 9 := ⟨_, rfl⟩
    have m1 : (if (s.size : Int) < 9 then (s.size : Int) else 9) = q := by split <;> omega
    have m2 : (if 9 < (s.size : Int) then 9 else (s.size : Int)) = q := by split <;> omega
    by_cases h : k < q
    · have h1 : k < s.size := by omega
      have h9 : k < 9 := by omega
      have hv : v < 100000000 := Nat.lt_of_lt_of_le HB.out (show 10 ^ k ≤ 10 ^ 8 from Nat.pow_le_pow_right (by omega) (by omega))
      have D1 := Lib.hid (DG.out s[k])
      clear hq
      cases e : dgB s[k] with
      | true =>
        rw [e] at D1
        have HX := Lib.hid (dec_more HV.out HC.out h9 (by rw [hl.out]; exact h1) e)
        have hb : 48 ≤ s[k].toNat ∧ s[k].toNat ≤ 57 := by
          unfold dgB at e
          rw [Bool.and_eq_true, decide_eq_true_eq, decide_eq_true_eq] at e
          exact e
        have HG : Hid (s.data.toList[k]'(by rw [hl.out]; exact h1) = s[k]) := Lib.hid rfl
        rw [HG.out] at HX
        have HP : Hid (v * 10 + (s[k].toNat - 48) < 10 ^ (k + 1)) := Lib.hid (by have := HB.out; rw [Nat.pow_succ]; omega)
        obtain ⟨hb0, hb1⟩ := hb
        clear e HG
        have hv0 : 0 ≤ (v : Int) := by omega
        have hv1 : (v : Int) ≤ 99999999 := by omega
        have HE : Hid ((v : Int) * 10 + ((s[k].toNat : Int) - 48) = ((v * 10 + (s[k].toNat - 48) : Nat) : Int)) := Lib.hid (by omega)
        obtain ⟨X, hX⟩ : ∃ X : Int, (s[k].toNat : Int) = X := ⟨_, rfl⟩
        have hx0 : 48 ≤ X := by omega
        have hx1 : X ≤ 57 := by omega
        rw [hX] at HE
        clear hv hb0 hb1
        generalize (v : Int) = V at *
        go_wp2_with fail
        (first | rw [hX] | skip)
        rw [hX] at D1
        refine (D1.out _).mono ?_
        rintro e w1 ⟨rfl, rfl⟩
        go_wp2_with fail
        go_round
        case rel => exact ⟨k + 1, v * 10 + (s[k].toNat - 48), by omega, by omega, Lib.hid HX.out.1, Lib.hid HX.out.2, HP, congrArg (Value.int .i64) HE.out, by go_num⟩
        case measure => simp [RowKit.intOf]; omega
      | false =>
        rw [e] at D1
        have HX := Lib.hid (dec_stop HV.out HC.out (by rw [hl.out]; exact h1) e)
        clear e
        go_wp2_with fail
        refine (D1.out _).mono ?_
        rintro e w1 ⟨rfl, rfl⟩
        go_wp2_with fail
        go_ret2
        exact ⟨by rw [HX.out.1, HX.out.2]; rfl, rfl⟩
    · have HX := Lib.hid (dec_end HV.out HC.out (by rw [hl.out]; omega))
      clear hq
      go_wp2_with fail
      go_ret2
      exact ⟨by rw [HX.out.1, HX.out.2]; rfl, rfl⟩
end Go.Proofs.YtfgpephpkibbaaaGreatDoor

/-
  Contracts of signOf, List, of the package.
-/
namespace Go.Proofs.YtfgpephpkibbaaaGreatDoor
open Go.RowKit Go.Lib

/-- A mark, as a value. -/
def sgnV (x : Bool × Nat × Nat × Nat) : Array Value := #[.bool x.1, .int .i64 (x.2.1 : Nat), .int .u8 (x.2.2.1 : Nat), .int .i64 (x.2.2.2 : Nat)]
theorem sgn_end {s : ByteArray} (h : decC 9 s.data.toList = s.size) : sgnL s.data.toList = (false, 0, 0, 0) := by
  unfold sgnL
  rw [List.drop_eq_nil_of_le (by rw [bytes_len]; omega)]
theorem sgn_at (s : ByteArray) (n : Nat) (e : decC 9 s.data.toList = n) (h : n < s.size) : sgnL s.data.toList = if n = 0 then (if s[n].toNat = 45 ∨ s[n].toNat = 43 ∨ s[n].toNat = 42 then (false, 0, s[n].toNat, 1) else (false, 0, 0, 0))
    else if s[n].toNat = 46 ∨ s[n].toNat = 41 then (true, decV 9 0 s.data.toList, s[n].toNat, n + 1) else (false, 0, 0, 0) := by
  unfold sgnL
  rw [e, drop_cons _ n (by rw [bytes_len]; exact h)]
  rfl
theorem sign_out {x y : Bool × Nat × Nat × Nat} {cs : Array Value} (h : x = y) (e : sgnV y = cs) : Ending.returned (.agg cs) = .returned (.agg (sgnV x)) := by rw [h, e]
set_option maxHeartbeats 2000000 in
set_option maxRecDepth 100000 in
theorem signOf_any (s : ByteArray) (w : World) (hs : s.size ≤ maxLen) :
    Calls Tryz.prog 120 #[.string s] w fun e w' => e = .returned (.agg (sgnV (sgnL s.data.toList))) ∧ Keeps w w' := by
  have NB := Lib.hid (fun W => number_any s W hs)
  unfold maxLen at hs
  have hn := (decC_le 9 s.data.toList).2
  have hn9 := (decC_le 9 s.data.toList).1
  rw [bytes_len] at hn
  have B1 := Lib.hid (Blk.new w 97 #[.bool false, .int .i64 0, .int .u8 0, .int .i64 0])
  have K1 := Lib.hid ((Keeps.refl w).alloc (.cells #[.bool false, .int .i64 0, .int .u8 0, .int .i64 0] 97))
  have HA := Lib.hid (fun n a b => sgn_at s n a b)
  have HZ := Lib.hid (@sgn_end s)
  generalize sgnL s.data.toList = x at *
  generalize decV 9 0 s.data.toList = v at *
  generalize decC 9 s.data.toList = n at *
  go_enter Tryz.func120, Tryz.ntmps120
  go_wp2_with fail
  refine (NB.out _).mono ?_
  rintro e w1 ⟨rfl, rfl⟩
  have HB : Hid (w.heap.size ≤ w.heap.size) := Lib.hid (Nat.le_refl _)
  generalize w.alloc (.cells #[.bool false, .int .i64 0, .int .u8 0, .int .i64 0] 97) = w1 at *
  obtain ⟨B, hB⟩ : ∃ B, w.heap.size = B := ⟨_, rfl⟩
  rw [hB] at B1 HB ⊢
  have HB : Hid (w.heap.size ≤ B) := Lib.hid (by omega)
  clear hB
  have y0 : w1.cell? ⟨B, 0, none⟩ = some (.bool false) := B1.out.cell 0 rfl
  have y1 : w1.cell? ⟨B, 1, none⟩ = some (.int .i64 0) := B1.out.cell 1 rfl
  have y2 : w1.cell? ⟨B, 2, none⟩ = some (.int .u8 0) := B1.out.cell 2 rfl
  have y3 : w1.cell? ⟨B, 3, none⟩ = some (.int .i64 0) := B1.out.cell 3 rfl
  have e0 := B1.out.free 0
  have e1 := B1.out.free 1
  have e2 := B1.out.free 2
  have e3 := B1.out.free 3
  have FIN := Lib.hid (fun (v0 v1 v2 v3 : Value) => And.intro ((((B1.out.set 0 v0 rfl).set 1 v1 rfl).set 2 v2 rfl).set 3 v3 rfl) ((((K1.out.set HB.out 0 v0).set HB.out 1 v1).set HB.out 2 v2).set HB.out 3 v3))
  clear NB
  by_cases h : n = s.size
  · have hb : (n == s.size) = true := beq_iff_eq.2 h
    have HE := Lib.hid (HZ.out h)
    clear h HZ HA
    go_wp2_with fail
    refine ret_blk rfl rfl rfl (FIN.out _ _ _ _).1 Tryz.underlying97 (by kernel_rfl) ⟨sign_out HE.out rfl, (FIN.out _ _ _ _).2⟩
  · have hb : (n == s.size) = false := beq_eq_false_iff_ne.2 h
    have hlt : n < s.size := by omega
    have HE := Lib.hid (HA.out n rfl hlt)
    clear h HZ HA
    by_cases m : s[n].toNat = 45 ∨ s[n].toNat = 43 ∨ s[n].toNat = 42
    · have HM : Hid (¬ (s[n].toNat = 46 ∨ s[n].toNat = 41)) := Lib.hid (by omega)
      by_cases z : n = 0
      · have HX : Hid (x = (false, 0, s[n].toNat, 1)) := Lib.hid (by have := HE.out; rw [if_pos z, if_pos m] at this; exact this)
        clear HE HM
        subst z
        rcases m with m | m | m
        · have t1 : ((s[0].toNat : Int) == 45) = true := by rw [m]; rfl
          clear m
          go_wp2_with fail
          refine ret_blk rfl rfl rfl (FIN.out _ _ _ _).1 Tryz.underlying97 (by kernel_rfl) ⟨sign_out HX.out rfl, (FIN.out _ _ _ _).2⟩
        · have t1 : ((s[0].toNat : Int) == 45) = false := by rw [m]; rfl
          have t2 : ((s[0].toNat : Int) == 43) = true := by rw [m]; rfl
          clear m
          go_wp2_with fail
          refine ret_blk rfl rfl rfl (FIN.out _ _ _ _).1 Tryz.underlying97 (by kernel_rfl) ⟨sign_out HX.out rfl, (FIN.out _ _ _ _).2⟩
        · have t1 : ((s[0].toNat : Int) == 45) = false := by rw [m]; rfl
          have t2 : ((s[0].toNat : Int) == 43) = false := by rw [m]; rfl
          have t3 : ((s[0].toNat : Int) == 42) = true := by rw [m]; rfl
          clear m
          go_wp2_with fail
          refine ret_blk rfl rfl rfl (FIN.out _ _ _ _).1 Tryz.underlying97 (by kernel_rfl) ⟨sign_out HX.out rfl, (FIN.out _ _ _ _).2⟩
      · have HX : Hid (x = (false, 0, 0, 0)) := Lib.hid (by have := HE.out; rw [if_neg z, if_neg HM.out] at this; exact this)
        have z1 : 0 < n := by omega
        clear HE HM z
        rcases m with m | m | m
        · have t1 : ((s[n].toNat : Int) == 45) = true := by rw [m]; rfl
          clear m
          go_wp2_with fail
          refine ret_blk rfl rfl rfl (FIN.out _ _ _ _).1 Tryz.underlying97 (by kernel_rfl) ⟨sign_out HX.out rfl, (FIN.out _ _ _ _).2⟩
        · have t1 : ((s[n].toNat : Int) == 45) = false := by rw [m]; rfl
          have t2 : ((s[n].toNat : Int) == 43) = true := by rw [m]; rfl
          clear m
          go_wp2_with fail
          refine ret_blk rfl rfl rfl (FIN.out _ _ _ _).1 Tryz.underlying97 (by kernel_rfl) ⟨sign_out HX.out rfl, (FIN.out _ _ _ _).2⟩
        · have t1 : ((s[n].toNat : Int) == 45) = false := by rw [m]; rfl
          have t2 : ((s[n].toNat : Int) == 43) = false := by rw [m]; rfl
          have t3 : ((s[n].toNat : Int) == 42) = true := by rw [m]; rfl
          clear m
          go_wp2_with fail
          refine ret_blk rfl rfl rfl (FIN.out _ _ _ _).1 Tryz.underlying97 (by kernel_rfl) ⟨sign_out HX.out rfl, (FIN.out _ _ _ _).2⟩
    · have t1 : ((s[n].toNat : Int) == 45) = false := beq_eq_false_iff_ne.2 (by omega)
      have t2 : ((s[n].toNat : Int) == 43) = false := beq_eq_false_iff_ne.2 (by omega)
      have t3 : ((s[n].toNat : Int) == 42) = false := beq_eq_false_iff_ne.2 (by omega)
      have HM := Lib.hid m
      clear m
      by_cases q : s[n].toNat = 46 ∨ s[n].toNat = 41
      · by_cases z : n = 0
        · have HX : Hid (x = (false, 0, 0, 0)) := Lib.hid (by have := HE.out; rw [if_pos z, if_neg HM.out] at this; exact this)
          clear HE HM
          subst z
          rcases q with q | q
          · have t4 : ((s[0].toNat : Int) == 46) = true := by rw [q]; rfl
            clear q
            go_wp2_with fail
            refine ret_blk rfl rfl rfl (FIN.out _ _ _ _).1 Tryz.underlying97 (by kernel_rfl) ⟨sign_out HX.out rfl, (FIN.out _ _ _ _).2⟩
          · have t4 : ((s[0].toNat : Int) == 46) = false := by rw [q]; rfl
            have t5 : ((s[0].toNat : Int) == 41) = true := by rw [q]; rfl
            clear q
            go_wp2_with fail
            refine ret_blk rfl rfl rfl (FIN.out _ _ _ _).1 Tryz.underlying97 (by kernel_rfl) ⟨sign_out HX.out rfl, (FIN.out _ _ _ _).2⟩
        · have HX : Hid (x = (true, v, s[n].toNat, n + 1)) := Lib.hid (by have := HE.out; rw [if_neg z, if_pos q] at this; exact this)
          have z1 : 0 < n := by omega
          clear HE HM z
          rcases q with q | q
          · have t4 : ((s[n].toNat : Int) == 46) = true := by rw [q]; rfl
            clear q
            go_wp2_with fail
            refine ret_blk rfl rfl rfl (FIN.out _ _ _ _).1 Tryz.underlying97 (by kernel_rfl) ⟨sign_out HX.out rfl, (FIN.out _ _ _ _).2⟩
          · have t4 : ((s[n].toNat : Int) == 46) = false := by rw [q]; rfl
            have t5 : ((s[n].toNat : Int) == 41) = true := by rw [q]; rfl
            clear q
            go_wp2_with fail
            refine ret_blk rfl rfl rfl (FIN.out _ _ _ _).1 Tryz.underlying97 (by kernel_rfl) ⟨sign_out HX.out rfl, (FIN.out _ _ _ _).2⟩
      · have t4 : ((s[n].toNat : Int) == 46) = false := beq_eq_false_iff_ne.2 (by omega)
        have t5 : ((s[n].toNat : Int) == 41) = false := beq_eq_false_iff_ne.2 (by omega)
        have HX : Hid (x = (false, 0, 0, 0)) := Lib.hid (by have := HE.out; rw [if_neg HM.out, if_neg q] at this; simpa using this)
        clear HE HM q
        go_wp2_with fail
        refine ret_blk rfl rfl rfl (FIN.out _ _ _ _).1 Tryz.underlying97 (by kernel_rfl) ⟨sign_out HX.out rfl, (FIN.out _ _ _ _).2⟩
theorem lst_none {l : List UInt8} (h : (sgnL l).2.2.2 = 0 ∨ apartL (l.drop (sgnL l).2.2.2) = false) : lstB l = false ∧ lstL l = (false, 0, 0, 0) := by
  have e : lstB l = false := by
    unfold lstB
    rcases h with h | h
    · rw [decide_eq_false (by omega)]; rfl
    · rw [h, Bool.and_false]
  refine ⟨e, ?_⟩
  unfold lstL
  rw [e]; rfl
theorem lst_some {l : List UInt8} (h : (sgnL l).2.2.2 ≠ 0) (k : apartL (l.drop (sgnL l).2.2.2) = true) : lstB l = true ∧ lstL l = sgnL l := by
  have e : lstB l = true := by
    unfold lstB
    rw [decide_eq_true h, k]; rfl
  refine ⟨e, ?_⟩
  unfold lstL
  rw [e]; rfl
set_option maxHeartbeats 2000000 in
set_option maxRecDepth 100000 in
theorem mlist_any (s : ByteArray) (w : World) (hs : s.size ≤ maxLen) :
    Calls Tryz.prog 86 #[.string s] w fun e w' => e = .returned (.tuple #[.agg (sgnV (lstL s.data.toList)), .bool (lstB s.data.toList)]) ∧ Keeps w w' := by
  have SG := Lib.hid (fun W => signOf_any s W hs)
  unfold maxLen at hs
  have hn := sgn_le s.data.toList
  rw [bytes_len] at hn
  have B0 := Lib.hid (Blk.new w 97 #[.bool false, .int .i64 0, .int .u8 0, .int .i64 0])
  have K0 := Lib.hid ((Keeps.refl w).alloc (.cells #[.bool false, .int .i64 0, .int .u8 0, .int .i64 0] 97))
  have AP := Lib.hid (fun W => apart_any (s.extract (sgnL s.data.toList).2.2.2 s.size) W)
  rw [Lib.extract_to_end] at AP
  have HN := Lib.hid (@lst_none s.data.toList)
  have HS := Lib.hid (@lst_some s.data.toList)
  have HW : Hid ((sgnV (sgnL s.data.toList)) = #[.bool (sgnL s.data.toList).1, .int .i64 ((sgnL s.data.toList).2.1 : Nat), .int .u8 ((sgnL s.data.toList).2.2.1 : Nat), .int .i64 ((sgnL s.data.toList).2.2.2 : Nat)]) := Lib.hid rfl
  generalize lstL s.data.toList = y at *
  generalize lstB s.data.toList = z at *
  generalize apartL (s.data.toList.drop (sgnL s.data.toList).2.2.2) = p at *
  generalize sgnL s.data.toList = x at *
  obtain ⟨x0, x1, x2, n⟩ := x
  dsimp only at *
  rw [HW.out] at SG
  go_enter Tryz.func86, Tryz.ntmps86
  go_wp2_with fail
  refine (SG.out _).mono ?_
  rintro e w1 ⟨rfl, k1⟩
  have B1 := Lib.hid ((B0.out.keep k1).alloc (.cells #[.bool x0, .int .i64 (x1 : Nat), .int .u8 (x2 : Nat), .int .i64 (n : Nat)] 97))
  have K1 := Lib.hid ((K0.out.trans k1).alloc (.cells #[.bool x0, .int .i64 (x1 : Nat), .int .u8 (x2 : Nat), .int .i64 (n : Nat)] 97))
  have C1 := Lib.hid (Blk.new w1 97 #[.bool x0, .int .i64 (x1 : Nat), .int .u8 (x2 : Nat), .int .i64 (n : Nat)])
  clear k1 B0 K0 SG
  obtain ⟨B, hB⟩ : ∃ B, w.heap.size = B := ⟨_, rfl⟩
  rw [hB] at B1 ⊢
  have HB : Hid (w.heap.size ≤ B) := Lib.hid (by omega)
  clear hB
  have y0 : (w1.alloc (.cells #[.bool x0, .int .i64 (x1 : Nat), .int .u8 (x2 : Nat), .int .i64 (n : Nat)] 97)).cell? ⟨B, 0, none⟩ = some (.bool false) := B1.out.cell 0 rfl
  have y1 : (w1.alloc (.cells #[.bool x0, .int .i64 (x1 : Nat), .int .u8 (x2 : Nat), .int .i64 (n : Nat)] 97)).cell? ⟨B, 1, none⟩ = some (.int .i64 0) := B1.out.cell 1 rfl
  have y2 : (w1.alloc (.cells #[.bool x0, .int .i64 (x1 : Nat), .int .u8 (x2 : Nat), .int .i64 (n : Nat)] 97)).cell? ⟨B, 2, none⟩ = some (.int .u8 0) := B1.out.cell 2 rfl
  have y3 : (w1.alloc (.cells #[.bool x0, .int .i64 (x1 : Nat), .int .u8 (x2 : Nat), .int .i64 (n : Nat)] 97)).cell? ⟨B, 3, none⟩ = some (.int .i64 0) := B1.out.cell 3 rfl
  have e0 := B1.out.free 0
  have e1 := B1.out.free 1
  have e2 := B1.out.free 2
  have e3 := B1.out.free 3
  have FIN := Lib.hid (fun (v0 v1 v2 v3 : Value) => And.intro ((((B1.out.set 0 v0 rfl).set 1 v1 rfl).set 2 v2 rfl).set 3 v3 rfl) ((((K1.out.set HB.out 0 v0).set HB.out 1 v1).set HB.out 2 v2).set HB.out 3 v3))
  clear B1 K1 C1
  by_cases h : n = 0
  · have HE := Lib.hid (HN.out (.inl h))
    have t1 : ((n : Int) == 0) = true := by rw [h]; rfl
    clear h HN HS
    go_wp2_with fail
    refine ret_blk2 rfl rfl rfl rfl (FIN.out _ _ _ _).1 Tryz.underlying97 (by kernel_rfl) ⟨?_, (FIN.out _ _ _ _).2⟩
    rw [HE.out.1, HE.out.2]; rfl
  · have t1 : ((n : Int) == 0) = false := beq_eq_false_iff_ne.2 (by omega)
    cases p with
    | false =>
      have HE := Lib.hid (HN.out (.inr rfl))
      clear h HN HS
      go_wp2_with fail
      refine (AP.out _).mono ?_
      rintro e w3 ⟨rfl, rfl⟩
      go_wp2_with fail
      refine ret_blk2 rfl rfl rfl rfl (FIN.out _ _ _ _).1 Tryz.underlying97 (by kernel_rfl) ⟨?_, (FIN.out _ _ _ _).2⟩
      rw [HE.out.1, HE.out.2]; rfl
    | true =>
      have HE := Lib.hid (HS.out h rfl)
      clear h HN HS
      go_wp2_with fail
      refine (AP.out _).mono ?_
      rintro e w3 ⟨rfl, rfl⟩
      go_wp2_with fail
      refine ret_blk2 rfl rfl rfl rfl (FIN.out _ _ _ _).1 Tryz.underlying97 (by kernel_rfl) ⟨?_, (FIN.out _ _ _ _).2⟩
      rw [HE.out.1, HE.out.2]; rfl
end Go.Proofs.YtfgpephpkibbaaaGreatDoor


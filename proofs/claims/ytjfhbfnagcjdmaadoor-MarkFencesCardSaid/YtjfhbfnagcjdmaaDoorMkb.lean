/-
  Contracts of Rule, number, signOf, List, of the package.
-/
import Derived.Test.YtjfhbfnagcjdmaaDoorMka
import Derived.Test.YtjfhbfnagcjdmaaDoorBlk
import Derived.LoopTactic
namespace Go.Proofs.YtjfhbfnagcjdmaaDoor
open Go.RowKit Go.Lib

theorem head_get (s : ByteArray) (h : 0 < s.size) : s.data.toList.headD 0 = s[0] := by
  have := drop_cons s.data.toList 0 (by rw [bytes_len]; exact h)
  rw [List.drop_zero] at this
  rw [this]; rfl
theorem takeB_get (s : ByteArray) (k : Nat) (h : k < s.size) : s.data.toList.take (k + 1) = s.data.toList.take k ++ [s[k]] := by
  rw [List.take_succ_eq_append_getElem (by rw [bytes_len]; exact h)]; rfl
theorem mem_get (s : ByteArray) (k : Nat) (h : k < s.size) : s[k] ∈ s.data.toList := by
  rw [← byte_get s k h]; exact List.getElem_mem _
/-- Where Rule's loop stands. -/
def RuleAt (s : ByteArray) (k m : Nat) : Prop := (s.data.toList.take k).all (okRule (s.data.toList.headD 0)) = true ∧ ruleN (s.data.toList.take k) = m ∧ m ≤ k
theorem ruleAt_next {s : ByteArray} {k m : Nat} (h : RuleAt s k m) (hk : k < s.size) (ho : okRule (s.data.toList.headD 0) s[k] = true) : RuleAt s (k + 1) (m + if isB s[k] then 0 else 1) := by
  obtain ⟨h1, h2, h3⟩ := h
  refine ⟨?_, ?_, by split <;> omega⟩
  · rw [takeB_get s k hk, List.all_append, h1, Bool.true_and, List.all_cons, ho]; rfl
  · rw [takeB_get s k hk, ruleN_snoc, h2]
theorem ruleAt_end {s : ByteArray} {k m : Nat} (h : RuleAt s k m) (hk : s.size ≤ k) : ruleL s.data.toList = decide (3 ≤ m) := by
  obtain ⟨h1, h2, _⟩ := h
  rw [List.take_of_length_le (by rw [bytes_len]; exact hk)] at h1 h2
  unfold ruleL
  rw [h1, h2]; rfl
theorem sg_notB {b : UInt8} (h : b.toNat = 42 ∨ b.toNat = 95 ∨ b.toNat = 45) : isB b = false ∧ sgB b = true := by
  unfold isB sgB
  rcases h with h | h | h <;> rw [h] <;> exact ⟨rfl, rfl⟩
theorem nsg {b : UInt8} (h : ¬ (b.toNat = 42 ∨ b.toNat = 95 ∨ b.toNat = 45)) : sgB b = false := by
  unfold sgB
  rw [decide_eq_false (fun e => h (.inl e)), decide_eq_false (fun e => h (.inr (.inl e))), decide_eq_false (fun e => h (.inr (.inr e)))]
  rfl
set_option maxRecDepth 100000 in
set_option maxHeartbeats 1000000 in
theorem rule_any (s : ByteArray) (w : World) (hs : s.size ≤ maxLen) :
    Calls Tryd.prog 14 #[.string s] w fun e w' => e = .returned (.bool (ruleL s.data.toList)) ∧ w = w' := by
  unfold maxLen at hs
  go_enter Tryd.func14, Tryd.ntmps14
  go_wp2
  go_loop [3, 8] (fun n i => ∃ k m : Nat, k ≤ s.size ∧ m ≤ k ∧ Hid (RuleAt s k m) ∧ n = .int .i64 m ∧ i = .int .i64 k) (fun _ i => s.size - (RowKit.intOf i).toNat)
  case atStart => exact ⟨0, 0, Nat.zero_le _, Nat.le_refl _, Lib.hid ⟨rfl, rfl, Nat.le_refl _⟩, rfl, rfl⟩
  case round =>
    obtain ⟨k, m, hk, hm, HR, rfl, rfl⟩ := hrel
    by_cases h : k < s.size
    · have h0 : 0 < s.size := by omega
      have HH := Lib.hid (head_get s h0)
      by_cases c : s[k].toNat = 42 ∨ s[k].toNat = 95 ∨ s[k].toNat = 45
      · by_cases e : s[k] = s[0]
        · have t0 : (s[k].toNat != s[0].toNat) = false := by rw [e]; simp
          have t00 : ((s[k].toNat : Int) != (s[0].toNat : Int)) = false := by rw [e]; simp
          have HN : Hid (RuleAt s (k + 1) (m + 1)) := Lib.hid (by
            have := ruleAt_next HR.out h (by unfold okRule; rw [HH.out, (sg_notB c).1, (sg_notB c).2, decide_eq_true e]; rfl)
            rw [(sg_notB c).1] at this
            exact this)
          rcases c with c | c | c
          · have t1 : ((s[k].toNat : Int) == 42) = true := by rw [c]; rfl
            clear c e
            go_wp2_with fail
            go_round
            case rel => exact ⟨k + 1, m + 1, h, by omega, HN, by go_num, by go_num⟩
            case measure => simp [RowKit.intOf]; omega
          · have t1 : ((s[k].toNat : Int) == 42) = false := by rw [c]; rfl
            have t2 : ((s[k].toNat : Int) == 95) = true := by rw [c]; rfl
            clear c e
            go_wp2_with fail
            go_round
            case rel => exact ⟨k + 1, m + 1, h, by omega, HN, by go_num, by go_num⟩
            case measure => simp [RowKit.intOf]; omega
          · have t1 : ((s[k].toNat : Int) == 42) = false := by rw [c]; rfl
            have t2 : ((s[k].toNat : Int) == 95) = false := by rw [c]; rfl
            have t3 : ((s[k].toNat : Int) == 45) = true := by rw [c]; rfl
            clear c e
            go_wp2_with fail
            go_round
            case rel => exact ⟨k + 1, m + 1, h, by omega, HN, by go_num, by go_num⟩
            case measure => simp [RowKit.intOf]; omega
        · have hne : s[k].toNat ≠ s[0].toNat := fun x => e (UInt8.toNat_inj.1 x)
          have t0 : (s[k].toNat != s[0].toNat) = true := bne_iff_ne.2 hne
          have t00 : ((s[k].toNat : Int) != (s[0].toNat : Int)) = true := bne_iff_ne.2 (by omega)
          have HN : Hid (ruleL s.data.toList = false) := Lib.hid (rule_no (mem_get s k h) (by unfold okRule; rw [HH.out, (sg_notB c).1, decide_eq_false e]; simp))
          rcases c with c | c | c
          · have t1 : ((s[k].toNat : Int) == 42) = true := by rw [c]; rfl
            clear c e hne
            go_wp2_with fail
            go_ret
            exact ⟨ret_bool HN.out.symm, rfl⟩
          · have t1 : ((s[k].toNat : Int) == 42) = false := by rw [c]; rfl
            have t2 : ((s[k].toNat : Int) == 95) = true := by rw [c]; rfl
            clear c e hne
            go_wp2_with fail
            go_ret
            exact ⟨ret_bool HN.out.symm, rfl⟩
          · have t1 : ((s[k].toNat : Int) == 42) = false := by rw [c]; rfl
            have t2 : ((s[k].toNat : Int) == 95) = false := by rw [c]; rfl
            have t3 : ((s[k].toNat : Int) == 45) = true := by rw [c]; rfl
            clear c e hne
            go_wp2_with fail
            go_ret
            exact ⟨ret_bool HN.out.symm, rfl⟩
      · have t1 : ((s[k].toNat : Int) == 42) = false := beq_eq_false_iff_ne.2 (by omega)
        have t2 : ((s[k].toNat : Int) == 95) = false := beq_eq_false_iff_ne.2 (by omega)
        have t3 : ((s[k].toNat : Int) == 45) = false := beq_eq_false_iff_ne.2 (by omega)
        by_cases b : s[k].toNat = 32 ∨ s[k].toNat = 9
        · have hB : isB s[k] = true := by unfold isB; rcases b with b | b <;> rw [b] <;> rfl
          have HN : Hid (RuleAt s (k + 1) m) := Lib.hid (by
            have := ruleAt_next HR.out h (by unfold okRule; rw [hB]; rfl)
            rw [hB] at this
            exact this)
          clear hB
          rcases b with b | b
          · have t4 : ((s[k].toNat : Int) == 32) = true := by rw [b]; rfl
            clear b c
            go_wp2_with fail
            go_round
            case rel => exact ⟨k + 1, m, h, by omega, HN, by go_num, by go_num⟩
            case measure => simp [RowKit.intOf]; omega
          · have t4 : ((s[k].toNat : Int) == 32) = false := by rw [b]; rfl
            have t5 : ((s[k].toNat : Int) == 9) = true := by rw [b]; rfl
            clear b c
            go_wp2_with fail
            go_round
            case rel => exact ⟨k + 1, m, h, by omega, HN, by go_num, by go_num⟩
            case measure => simp [RowKit.intOf]; omega
        · have t4 : ((s[k].toNat : Int) == 32) = false := beq_eq_false_iff_ne.2 (by omega)
          have t5 : ((s[k].toNat : Int) == 9) = false := beq_eq_false_iff_ne.2 (by omega)
          have HN : Hid (ruleL s.data.toList = false) := Lib.hid (rule_no (mem_get s k h) (by
            unfold okRule isB
            rw [nsg c, decide_eq_false (fun x => b (.inl x)), decide_eq_false (fun x => b (.inr x))]
            rfl))
          clear b c
          go_wp2_with fail
          go_ret
          exact ⟨ret_bool HN.out.symm, rfl⟩
    · have HN := Lib.hid (ruleAt_end HR.out (by omega))
      go_wp2_with fail
      go_ret
      exact ⟨ret_bool (by rw [HN.out]; by_cases q : 3 ≤ m <;> simp [q] <;> omega), rfl⟩

set_option maxHeartbeats 1000000 in
set_option maxRecDepth 100000 in
theorem number_any (s : ByteArray) (w : World) (hs : s.size ≤ maxLen) :
    Calls Tryd.prog 44 #[.string s] w fun e w' => e = .returned (.tuple #[.int .i64 (decV 9 0 s.data.toList : Nat), .int .i64 (decC 9 s.data.toList : Nat)]) ∧ w = w' := by
  unfold maxLen at hs
  have hl := Lib.hid (bytes_len s)
  have DG := Lib.hid (fun b W => mdigit_any b W)
  go_enter Tryd.func44, Tryd.ntmps44
  go_wp2
  go_loop [4, 5] (fun x i => ∃ k v : Nat, k ≤ s.size ∧ k ≤ 9 ∧ Hid (decV 9 0 s.data.toList = decV (9 - k) v (s.data.toList.drop k)) ∧ Hid (decC 9 s.data.toList = k + decC (9 - k) (s.data.toList.drop k)) ∧ Hid (v < 10 ^ k) ∧ x = .int .i64 v ∧ i = .int .i64 k) (fun _ i => s.size - (RowKit.intOf i).toNat)
  case atStart => exact ⟨0, 0, Nat.zero_le _, by omega, Lib.hid rfl, Lib.hid (by rw [Nat.zero_add]; rfl), Lib.hid (by decide), rfl, rfl⟩
  case round =>
    obtain ⟨k, v, hk, hk9, HV, HC, HB, rfl, rfl⟩ := hrel
    obtain ⟨q, hq⟩ : ∃ q : Nat, q = min s.size 9 := ⟨_, rfl⟩
    have m1 : (if (s.size : Int) < 9 then (s.size : Int) else 9) = q := by split <;> omega
    have m2 : (if 9 < (s.size : Int) then 9 else (s.size : Int)) = q := by split <;> omega
    by_cases h : k < q
    · have h1 : k < s.size := by omega
      have h9 : k < 9 := by omega
      have hv : v < 100000000 := Nat.lt_of_lt_of_le HB.out (show 10 ^ k ≤ 10 ^ 8 from Nat.pow_le_pow_right (by omega) (by omega))
      have D1 := Lib.hid (DG.out s[k])
      clear hq
      cases e : dgB s[k] with
      | true =>
        rw [e] at D1
        have HX := Lib.hid (dec_more HV.out HC.out h9 (by rw [hl.out]; exact h1) e)
        have hb : 48 ≤ s[k].toNat ∧ s[k].toNat ≤ 57 := by
          unfold dgB at e
          rw [Bool.and_eq_true, decide_eq_true_eq, decide_eq_true_eq] at e
          exact e
        have HG : Hid (s.data.toList[k]'(by rw [hl.out]; exact h1) = s[k]) := Lib.hid rfl
        rw [HG.out] at HX
        have HP : Hid (v * 10 + (s[k].toNat - 48) < 10 ^ (k + 1)) := Lib.hid (by have := HB.out; rw [Nat.pow_succ]; omega)
        obtain ⟨hb0, hb1⟩ := hb
        clear e HG
        have hv0 : 0 ≤ (v : Int) := by omega
        have hv1 : (v : Int) ≤ 99999999 := by omega
        have HE : Hid ((v : Int) * 10 + ((s[k].toNat : Int) - 48) = ((v * 10 + (s[k].toNat - 48) : Nat) : Int)) := Lib.hid (by omega)
        obtain ⟨X, hX⟩ : ∃ X : Int, (s[k].toNat : Int) = X := ⟨_, rfl⟩
        have hx0 : 48 ≤ X := by omega
        have hx1 : X ≤ 57 := by omega
        rw [hX] at HE
        clear hv hb0 hb1
        generalize (v : Int) = V at *
        go_wp2_with fail
        (first | rw [hX] | skip)
        rw [hX] at D1
        refine (D1.out _).mono ?_
        rintro e w1 ⟨rfl, rfl⟩
        go_wp2_with fail
        go_round
        case rel => exact ⟨k + 1, v * 10 + (s[k].toNat - 48), by omega, by omega, Lib.hid HX.out.1, Lib.hid HX.out.2, HP, congrArg (Value.int .i64) HE.out, by go_num⟩
        case measure => simp [RowKit.intOf]; omega
      | false =>
        rw [e] at D1
        have HX := Lib.hid (dec_stop HV.out HC.out (by rw [hl.out]; exact h1) e)
        clear e
        go_wp2_with fail
        refine (D1.out _).mono ?_
        rintro e w1 ⟨rfl, rfl⟩
        go_wp2_with fail
        go_ret2
        exact ⟨by rw [HX.out.1, HX.out.2]; rfl, rfl⟩
    · have HX := Lib.hid (dec_end HV.out HC.out (by rw [hl.out]; omega))
      clear hq
      go_wp2_with fail
      go_ret2
      exact ⟨by rw [HX.out.1, HX.out.2]; rfl, rfl⟩
end Go.Proofs.YtjfhbfnagcjdmaaDoor

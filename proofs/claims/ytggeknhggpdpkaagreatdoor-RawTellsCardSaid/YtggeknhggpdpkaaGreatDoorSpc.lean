/-
  Contract of Spaces, of the package target, for texts of at most 100,000 bytes.
-/
import Derived.Test.YtggeknhggpdpkaaGreatDoorTrg
import Derived.Test.YtggeknhggpdpkaaGreatDoorBas
import Derived.LoopTactic
namespace Go.Proofs.YtggeknhggpdpkaaGreatDoor
open Go.RowKit Go.Lib

theorem drop_at (s : ByteArray) (p : Nat) (h : p < s.size) : s.data.toList.drop p = s[p] :: s.data.toList.drop (p + 1) := drop_cons s.data.toList p (by rw [bytes_len]; exact h)
theorem beqT {x y : Int} (h : x = y) : (x == y) = true := beq_iff_eq.2 h
theorem beqF {x y : Int} (h : ¬ x = y) : (x == y) = false := beq_eq_false_iff_ne.2 h
set_option maxRecDepth 100000 in
set_option maxHeartbeats 1000000 in
theorem spaces_any (s : ByteArray) (one : Bool) (w : World) (hs : s.size ≤ 100000) :
    Calls Tryz.prog 56 #[.string s, .bool one] w fun e w' => e = .returned (.int .i64 (spcN one false s.data.toList : Nat)) ∧ w = w' := by
  have hl := Lib.hid (bytes_len s)
  go_enter Tryz.func56, Tryz.ntmps56
  go_wp2_with fail
  go_loop [5, 9] (fun v i => ∃ (k : Nat) (e : Bool), k ≤ s.size ∧ v = .bool e ∧ i = .int .i64 k ∧ Hid (spcN one false s.data.toList = k + spcN one e (s.data.toList.drop k))) (fun _ i => s.size - (RowKit.intOf i).toNat)
  case atStart => exact ⟨0, false, Nat.zero_le _, rfl, rfl, Lib.hid (by rw [List.drop_zero, Nat.zero_add])⟩
  case round =>
    obtain ⟨k, e, hk, rfl, rfl, HC⟩ := hrel
    by_cases h : k < s.size
    · have hb := s[k].toNat_lt
      have HE : Hid (spcN one false s.data.toList = k + if s[k].toNat = 32 ∨ s[k].toNat = 9 then spcN one e (s.data.toList.drop (k + 1)) + 1 else if s[k].toNat = 10 then (if (one && e) = true then 0 else spcN one true (s.data.toList.drop (k + 1)) + 1) else 0) := Lib.hid (by rw [HC.out, drop_at s k h]; rfl)
      clear HC
      by_cases c1 : s[k].toNat = 32
      · have q1 := beqT (show (s[k].toNat : Int) = 32 by omega)
        have HN : Hid (spcN one false s.data.toList = (k + 1) + spcN one e (s.data.toList.drop (k + 1))) := Lib.hid (by rw [HE.out, if_pos (.inl c1)]; omega)
        clear HE c1
        go_wp2_with fail
        go_round
        case rel => exact ⟨k + 1, e, h, rfl, by go_num, HN⟩
        case measure => simp [RowKit.intOf]; omega
      · have q1 := beqF (show ¬ (s[k].toNat : Int) = 32 by omega)
        by_cases c2 : s[k].toNat = 9
        · have q2 := beqT (show (s[k].toNat : Int) = 9 by omega)
          have HN : Hid (spcN one false s.data.toList = (k + 1) + spcN one e (s.data.toList.drop (k + 1))) := Lib.hid (by rw [HE.out, if_pos (.inr c2)]; omega)
          clear HE c1 c2
          go_wp2_with fail
          go_round
          case rel => exact ⟨k + 1, e, h, rfl, by go_num, HN⟩
          case measure => simp [RowKit.intOf]; omega
        · have q2 := beqF (show ¬ (s[k].toNat : Int) = 9 by omega)
          by_cases c3 : s[k].toNat = 10
          · have q3 := beqT (show (s[k].toNat : Int) = 10 by omega)
            have HF := Lib.hid (HE.out.trans (by rw [if_neg (by omega), if_pos c3]))
            clear HE c1 c2 c3
            cases one with
            | true =>
              cases e with
              | true =>
                have HN : Hid (spcN true false s.data.toList = k) := Lib.hid HF.out
                clear HF
                go_wp2_with fail
                go_ret
                exact ⟨ret_int (by rw [HN.out]), rfl⟩
              | false =>
                have HN : Hid (spcN true false s.data.toList = (k + 1) + spcN true true (s.data.toList.drop (k + 1))) := Lib.hid (by rw [HF.out, if_neg (by decide)]; omega)
                clear HF
                go_wp2_with fail
                go_round
                case rel => exact ⟨k + 1, true, h, rfl, by go_num, HN⟩
                case measure => simp [RowKit.intOf]; omega
            | false =>
              have HN : Hid (spcN false false s.data.toList = (k + 1) + spcN false true (s.data.toList.drop (k + 1))) := Lib.hid (by rw [HF.out, if_neg (by simp)]; omega)
              clear HF
              go_wp2_with fail
              go_round
              case rel => exact ⟨k + 1, true, h, rfl, by go_num, HN⟩
              case measure => simp [RowKit.intOf]; omega
          · have q3 := beqF (show ¬ (s[k].toNat : Int) = 10 by omega)
            have HN : Hid (spcN one false s.data.toList = k) := Lib.hid (by rw [HE.out, if_neg (by omega), if_neg c3]; rfl)
            clear HE c1 c2 c3
            go_wp2_with fail
            go_ret
            exact ⟨ret_int (by rw [HN.out]), rfl⟩
    · have hk2 : k = s.size := by omega
      have HN : Hid (spcN one false s.data.toList = s.size) := Lib.hid (by
        rw [HC.out, List.drop_eq_nil_of_le (by rw [bytes_len]; omega)]
        show k + 0 = s.size
        omega)
      clear HC
      go_wp2_with fail
      go_ret
      exact ⟨ret_int (by rw [HN.out]), rfl⟩
end Go.Proofs.YtggeknhggpdpkaaGreatDoor

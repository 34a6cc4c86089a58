/-
  NamedOwn returns true of any texts.
-/
import Derived.Test.YtmljngahlkhihaaDoorNaw
namespace Go.Proofs.YtmljngahlkhihaaDoor
open Go.RowKit Go.Lib

set_option maxHeartbeats 400000 in
theorem nown_long (s b : ByteArray) (w : World) (hs : s.size ≤ maxLen) (hb : b.size ≤ maxLen) (h : 200 < s.size ∨ 200 < b.size) (hO : Lis w) :
    Calls Tryd.prog 6 #[.string s, .string b] w fun e w' => e = .returned (.bool true) ∧ Keeps w w' := by
  have AW := Lib.hid (awake6_any w hO)
  unfold maxLen at hs hb
  clear hO
  by_cases h1 : 200 < s.size
  · clear h
    go_enter Tryd.func6, Tryd.ntmps6
    go_wp2_with fail
    refine AW.out.mono ?_
    rintro e w2 ⟨rfl, k2⟩
    go_wp2_with fail
    go_ret
    exact ⟨rfl, k2⟩
  · have h2 : 200 < b.size := by omega
    clear h
    go_enter Tryd.func6, Tryd.ntmps6
    go_wp2_with fail
    refine AW.out.mono ?_
    rintro e w2 ⟨rfl, k2⟩
    go_wp2_with fail
    go_ret
    exact ⟨rfl, k2⟩
theorem refT_own {t : List UInt8} (h : namedL t ≠ 0) : refT t = namedL t := by
  obtain ⟨h1, h2, h3, _⟩ := named_facts h
  have hp : ∀ p, hasPrefix t (35 :: p) = false := fun p => by
    rw [Bool.eq_false_iff]
    intro k
    obtain ⟨z, e⟩ := (pre_iff _ _).1 k
    have := aln_ne (h3 35 (by rw [e]; simp))
    exact this.2.1 rfl
  unfold refT
  rw [if_neg, if_neg (by rw [hp]; exact Bool.false_ne_true)]
  rw [hp, hp]
  simp
theorem aln_int {b : UInt8} (h : alnB b = true) : (97 ≤ (b.toNat : Int) ∧ (b.toNat : Int) ≤ 122) ∨ (65 ≤ (b.toNat : Int) ∧ (b.toNat : Int) ≤ 90) ∨ (48 ≤ (b.toNat : Int) ∧ (b.toNat : Int) ≤ 57) := by
  unfold alnB at h
  simp only [Bool.or_eq_true, Bool.and_eq_true, decide_eq_true_eq] at h
  omega
set_option maxHeartbeats 2000000 in
theorem nown_no (s b : ByteArray) (w : World) (hs : s.size ≤ 200) (hb : b.size ≤ 200) (hn : namedL s.data.toList = 0) (hO : Lis w) :
    Calls Tryd.prog 6 #[.string s, .string b] w fun e w' => e = .returned (.bool true) ∧ Keeps w w' := by
  have AW := Lib.hid (awake6_any w hO)
  have NM := Lib.hid (name_any s w hO)
  have RF := Lib.hid (fun t h => ref_any t w h hO)
  have NX : Hid (Calls Tryd.prog 8 #[.string s] w fun e w' => e = .returned (.tuple #[.int .i32 0, .bool false]) ∧ w = w') := by
    have := NM.out
    rw [hn] at this
    exact Lib.hid this
  have RX := Lib.hid (RF.out ((⟨#[38]⟩ ++ s) ++ ⟨#[59]⟩ ++ b) (by unfold maxLen; simp only [ByteArray.size_append]; show 1 + _ + 1 + _ ≤ _; omega))
  generalize refB ((⟨#[38]⟩ ++ s) ++ ⟨#[59]⟩ ++ b).data.toList = rb at *
  have RG := refL_facts ((⟨#[38]⟩ ++ s) ++ ⟨#[59]⟩ ++ b).data.toList
  have RG2 : (refL ((⟨#[38]⟩ ++ s) ++ ⟨#[59]⟩ ++ b).data.toList).2 ≤ 10 := by
    rcases RG with e | e
    · rw [e]; omega
    · exact e.2.1
  generalize (refL ((⟨#[38]⟩ ++ s) ++ ⟨#[59]⟩ ++ b).data.toList).2 = rn at *
  clear hO NM RF RG
  go_enter Tryd.func6, Tryd.ntmps6
  go_wp2_with fail
  refine NX.out.mono ?_
  rintro e w1 ⟨rfl, rfl⟩
  go_wp2_with fail
  go_loop [7] (fun i => i = .int .i64 0) (fun _ => 0)
  case atStart => exact rfl
  case round =>
    subst hrel
    by_cases c : 0 < s.size
    all_goals
      go_wp2_with fail
      refine RX.out.mono ?_
      rintro e w1 ⟨rfl, rfl⟩
      go_wp2_with fail
      refine AW.out.mono ?_
      rintro e w1 ⟨rfl, k1⟩
      go_wp2_with fail
      go_ret
      exact ⟨rfl, k1⟩
set_option maxHeartbeats 2000000 in
theorem nown_yes (s b : ByteArray) (w : World) (hs : s.size ≤ 200) (hb : b.size ≤ 200) (hn : namedL s.data.toList ≠ 0) (hO : Lis w) :
    Calls Tryd.prog 6 #[.string s, .string b] w fun e w' => e = .returned (.bool true) ∧ Keeps w w' := by
  have AW := Lib.hid (awake6_any w hO)
  have NM := Lib.hid (name_any s w hO)
  have RF := Lib.hid (fun t h => ref_any t w h hO)
  obtain ⟨f1, f2, f3, f4, f5⟩ := named_facts hn
  have HR := Lib.hid (refL_yes (t := s.data.toList) (by rw [refT_own hn]; exact hn) b.data.toList)
  rw [refT_own hn] at HR
  have HD : Hid (((⟨#[38]⟩ ++ s) ++ ⟨#[59]⟩ ++ b : ByteArray).data.toList = 38 :: (s.data.toList ++ 59 :: b.data.toList)) := Lib.hid (by simp)
  have RX := Lib.hid (RF.out ((⟨#[38]⟩ ++ s) ++ ⟨#[59]⟩ ++ b) (by unfold maxLen; simp only [ByteArray.size_append]; show 1 + _ + 1 + _ ≤ _; omega))
  have HB : Hid (refB (38 :: (s.data.toList ++ 59 :: b.data.toList)) = encodeRune (namedL s.data.toList : Nat)) := Lib.hid (by unfold refB; rw [HR.out]; rfl)
  rw [HD.out, HR.out, HB.out, bytes_len] at RX
  have AL : Hid (∀ (k : Nat) (h : k < s.size), alnB s[k] = true) := Lib.hid fun k h => f3 _ (List.getElem_mem (l := s.data.toList) (by rw [bytes_len]; exact h))
  rw [show (!decide (namedL s.data.toList = 0)) = true by rw [decide_eq_false hn]; rfl] at NM
  have OK : okR (namedL s.data.toList : Nat) := by unfold okR; omega
  have ON := Lib.hid (fun W => one_rune W (namedL s.data.toList : Nat) OK)
  clear hn hO RF HR HD HB f1 f2 f3 f4 f5 OK
  generalize namedL s.data.toList = z at *
  dsimp only at RX
  generalize encodeRune (z : Nat) = E at *
  go_enter Tryd.func6, Tryd.ntmps6
  go_wp2_with fail
  refine NM.out.mono ?_
  rintro e w1 ⟨rfl, rfl⟩
  go_wp2_with fail
  go_loop [7] (fun i => ∃ k : Nat, k ≤ s.size ∧ i = .int .i64 k) (fun i => s.size - (RowKit.intOf i).toNat)
  case atStart => exact ⟨0, Nat.zero_le _, rfl⟩
  case round =>
    obtain ⟨k, hk, rfl⟩ := hrel
    by_cases c : k < s.size
    · have h1 := aln_int (AL.out k c)
      rcases h1 with ⟨a, b⟩ | ⟨a, b⟩ | ⟨a, b⟩
      all_goals
        go_wp2_with fail
        go_round
        case rel => exact ⟨k + 1, by omega, by go_num⟩
        case measure => simp [RowKit.intOf]; omega
    · go_wp2_with fail
      refine RX.out.mono ?_
      rintro e w1 ⟨rfl, rfl⟩
      go_wp2_with fail
      refine AW.out.mono ?_
      rintro e w1 ⟨rfl, k1⟩
      have kc := ON.out w1
      go_wp2_with fail
      go_ret
      exact ⟨rfl, k1.alloc _⟩
theorem nown_any (s b : ByteArray) (w : World) (hs : s.size ≤ maxLen) (hb : b.size ≤ maxLen) (hO : Lis w) :
    Calls Tryd.prog 6 #[.string s, .string b] w fun e w' => e = .returned (.bool true) ∧ Keeps w w' := by
  by_cases h : s.size ≤ 200 ∧ b.size ≤ 200
  · by_cases hn : namedL s.data.toList = 0
    · exact nown_no s b w h.1 h.2 hn hO
    · exact nown_yes s b w h.1 h.2 hn hO
  · exact nown_long s b w hs hb (by omega) hO
end Go.Proofs.YtmljngahlkhihaaDoor

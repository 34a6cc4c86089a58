/-
  MarkHeadings returns true of any text and number.
-/
import Derived.Test.YtjfhbfnagcjdmaaDoorMhe
namespace Go.Proofs.YtjfhbfnagcjdmaaDoor
open Go.RowKit Go.Lib

set_option maxHeartbeats 4000000 in
set_option maxRecDepth 100000 in
theorem mheadings_not (s : ByteArray) (x : Int) (w : World) (hs : s.size ≤ maxLen) (hE : Env8 w)
    (h : 200 < s.size ∨ s = ⟨#[]⟩ ∨ ∃ h : 0 < s.size, (s[s.size - 1]'(by omega)).toNat = 35 ∨ trimL s.data.toList ≠ s.data.toList) :
    Calls Tryd.prog 3 #[.string s, .int .u8 x] w fun e w' => e = .returned (.bool true) ∧ Keeps w w' := by
  have AW := Lib.hid (awake8_any w hE)
  unfold maxLen at hs
  clear hE
  by_cases h200 : 200 < s.size
  · clear h
    go_enter Tryd.func3, Tryd.ntmps3
    go_wp2_with fail
    refine AW.out.mono ?_
    rintro e w2 ⟨rfl, k2⟩
    go_wp2_with fail
    go_ret
    exact ⟨rfl, k2⟩
  · by_cases h0 : 0 < s.size
    · have hi := tl_empty h0
      have hn := tl_ne h0
      have q1 : ((s.size : Int) - 1).toNat = s.size - 1 := by omega
      have q2 : 0 ≤ (s.size : Int) - 1 := by omega
      have q3 : (s.size : Int) - 1 < s.size := by omega
      have q4 : s.size - 1 < s.size := by omega
      by_cases h1 : (s[s.size - 1]'(by omega)).toNat = 35
      · have t1 : (((s[s.size - 1]'(by omega)).toNat : Int) == 35) = true := by rw [h1]; rfl
        clear h h1
        go_enter Tryd.func3, Tryd.ntmps3
        go_wp2_with fail
        refine AW.out.mono ?_
        rintro e w2 ⟨rfl, k2⟩
        go_wp2_with fail
        go_ret
        exact ⟨rfl, k2⟩
      · have t1 : (((s[s.size - 1]'(by omega)).toNat : Int) == 35) = false := beq_eq_false_iff_ne.2 (by omega)
        have hne : trimL s.data.toList ≠ s.data.toList := by
          rcases h with h | h | ⟨_, h | h⟩
          · exact absurd h h200
          · rw [h] at h0; exact absurd h0 (by decide)
          · exact absurd h h1
          · exact h
        have TR := Lib.hid (fun W => trimmed_any s W (by omega))
        have hz : ¬ (⟨(trimL s.data.toList).toArray⟩ : ByteArray).toList = s.toList := by
          rw [Lib.toList_data, Lib.toList_data, mk_list]; exact hne
        generalize (⟨(trimL s.data.toList).toArray⟩ : ByteArray) = z at *
        have t2 : (z.toList == s.toList) = false := beq_eq_false_iff_ne.2 hz
        have t3 : (z.toList != s.toList) = true := bne_iff_ne.2 hz
        clear h h1 hne hz
        go_enter Tryd.func3, Tryd.ntmps3
        go_wp2_with fail
        refine (TR.out _).mono ?_
        rintro e w1 ⟨rfl, rfl⟩
        go_wp2_with fail
        refine AW.out.mono ?_
        rintro e w2 ⟨rfl, k2⟩
        go_wp2_with fail
        go_ret
        exact ⟨rfl, k2⟩
    · have he := empty_of h0
      subst he
      clear h h0 h200
      go_enter Tryd.func3, Tryd.ntmps3
      go_wp2_with fail
      refine AW.out.mono ?_
      rintro e w2 ⟨rfl, k2⟩
      go_wp2_with fail
      go_ret
      exact ⟨rfl, k2⟩
set_option maxHeartbeats 8000000 in
set_option maxRecDepth 100000 in
theorem mheadings_in (s : ByteArray) (x : Int) (hx0 : 0 ≤ x) (hx1 : x ≤ 255) (w : World) (hs : s.size ≤ 200) (h0 : 0 < s.size) (hl : ¬ (s[s.size - 1]'(by omega)).toNat = 35) (ht : trimL s.data.toList = s.data.toList) (hE : Env8 w) :
    Calls Tryd.prog 3 #[.string s, .int .u8 x] w fun e w' => e = .returned (.bool true) ∧ Keeps w w' := by
  have AW := Lib.hid (fun W h => awake8_any W h)
  have HE := Lib.hid hE
  clear hE
  have FI : Hid (Fine s.data.toList) := Lib.hid (by
    have hc := trim_core s.data.toList
    rw [ht] at hc
    rcases hc with e | ⟨h1, t, z, e, wz⟩
    · have := bytes_len s; rw [e] at this; simp at this; omega
    · refine ⟨h1, t, z, e, wz, fun hz => hl ?_⟩
      have e2 := last_split s h0
      rw [e] at e2
      have e3 := (List.append_inj_right' e2 rfl)
      have e4 : z = s[s.size - 1]'(by omega) := (List.cons.inj e3).1
      rw [← e4, hz]; rfl)
  have TR := Lib.hid (fun W => trimmed_any s W hs)
  rw [ht, bytes_mk] at TR
  have HD := Lib.hid (fun t W h => heading_any t W h)
  have hi := tl_empty h0
  have hn := tl_ne h0
  have q1 : ((s.size : Int) - 1).toNat = s.size - 1 := by omega
  have q2 : 0 ≤ (s.size : Int) - 1 := by omega
  have q3 : (s.size : Int) - 1 < s.size := by omega
  have q4 : s.size - 1 < s.size := by omega
  have t1 : (((s[s.size - 1]'(by omega)).toNat : Int) == 35) = false := beq_eq_false_iff_ne.2 (by omega)
  have HH := Lib.hid (head_get s h0)
  obtain ⟨K, hK⟩ : ∃ K : Nat, 1 + x % 8 = (K : Int) := ⟨(1 + x % 8).toNat, by omega⟩
  have hK1 : 1 ≤ K := by omega
  have hK8 : K ≤ 8 := by omega
  clear ht hl
  go_enter Tryd.func3, Tryd.ntmps3
  go_wp2_with fail
  refine (TR.out _).mono ?_
  rintro e w1 ⟨rfl, rfl⟩
  go_wp2_with fail
  clear hK hi hn t1
  go_loop [6, 7] (fun a v => ∃ (i : Nat) (H : ByteArray), i ≤ K ∧ v = .int .i64 i ∧ a = .string H ∧ H.size = i ∧ Hid (H.data.toList = List.replicate i 35)) (fun _ v => K - (RowKit.intOf v).toNat)
  case atStart => exact ⟨0, ⟨#[]⟩, Nat.zero_le _, rfl, rfl, rfl, Lib.hid rfl⟩
  case round =>
    obtain ⟨i, H, hi, rfl, rfl, hH, HR⟩ := hrel
    by_cases c : i < K
    · go_wp2_with fail
      go_round
      case rel => exact ⟨i + 1, H ++ ⟨#[35]⟩, by omega, by go_num, rfl, by rw [size_snoc8]; omega, Lib.hid (by rw [byte_snoc, HR.out, rep_snoc])⟩
      case measure => simp [RowKit.intOf]; omega
    · have hik : i = K := by omega
      have e0 : H.data.toList = List.replicate K 35 := by rw [HR.out, hik]
      have e1 : (H ++ ⟨#[32]⟩ ++ s).data.toList = List.replicate K 35 ++ 32 :: s.data.toList := by rw [bytes_app, byte_snoc, e0]; simp
      have e2 : (H ++ ⟨#[32, 32]⟩ ++ s ++ ⟨#[32, 35, 35, 35, 32, 32]⟩).data.toList = List.replicate K 35 ++ 32 :: 32 :: (s.data.toList ++ [32, 35, 35, 35, 32, 32]) := by rw [bytes_app, bytes_app, bytes_app, e0]; simp
      have e3 : (H ++ s).data.toList = List.replicate K 35 ++ s.data.toList := by rw [bytes_app, e0]
      have z2 : (H ++ ⟨#[32, 32]⟩).size = H.size + 2 := by rw [ByteArray.size_append]; rfl
      have z6 : (H ++ ⟨#[32, 32]⟩ ++ s ++ ⟨#[32, 35, 35, 35, 32, 32]⟩).size = H.size + 2 + s.size + 6 := by rw [ByteArray.size_append, ByteArray.size_append, z2]; rfl
      have A1 := Lib.hid (fun W => HD.out (H ++ ⟨#[32]⟩ ++ s) W (by rw [ByteArray.size_append, size_snoc8]; omega))
      have A2 := Lib.hid (fun W => HD.out (H ++ ⟨#[32, 32]⟩ ++ s ++ ⟨#[32, 35, 35, 35, 32, 32]⟩) W (by rw [z6]; omega))
      have A3 := Lib.hid (fun W => HD.out (H ++ s) W (by rw [ByteArray.size_append]; omega))
      rw [e1] at A1
      rw [e2] at A2
      rw [e3] at A3
      have w1 : H.size + 1 ≤ 9223372036854775807 := by omega
      have w2 : H.size + 2 ≤ 9223372036854775807 := by omega
      have w3 : H.size + s.size ≤ 9223372036854775807 := by omega
      clear e0 e1 e2 e3 z2 z6 HD HR hik
      by_cases g : 6 < K
      · rw [hd_big g] at A1 A2 A3
        simp only [Int.cast_ofNat_Int] at A1 A2 A3
        generalize (⟨(headL (List.replicate K 35 ++ 32 :: s.data.toList)).toArray⟩ : ByteArray) = Z1 at *
        generalize (⟨(headL (List.replicate K 35 ++ 32 :: 32 :: (s.data.toList ++ [32, 35, 35, 35, 32, 32]))).toArray⟩ : ByteArray) = Z2 at *
        generalize (⟨(headL (List.replicate K 35 ++ s.data.toList)).toArray⟩ : ByteArray) = Z3 at *
        go_wp2_with fail
        (with_reducible refine (A1.out _).mono ?_)
        rintro e w1 ⟨rfl, k1⟩
        go_wp2_with fail
        (with_reducible refine (A2.out _).mono ?_)
        rintro e w2 ⟨rfl, k2⟩
        go_wp2_with fail
        (with_reducible refine (A3.out _).mono ?_)
        rintro e w3 ⟨rfl, k3⟩
        have K3 := Lib.hid ((k1.trans k2).trans k3)
        clear k1 k2 k3
        go_wp2_with fail
        (with_reducible refine (AW.out _ (Env8.keep HE.out K3.out)).mono ?_)
        rintro e w4 ⟨rfl, k4⟩
        go_wp2_with fail
        go_ret
        exact ⟨rfl, K3.out.trans k4⟩
      · obtain ⟨a1, a2⟩ := hd_of (r := s.data.toList) hK1 (by omega : K ≤ 6) 32 (by decide) (by decide)
        obtain ⟨b1, b2⟩ := hd_of (r := 32 :: (s.data.toList ++ [32, 35, 35, 35, 32, 32])) hK1 (by omega : K ≤ 6) 32 (by decide) (by decide)
        rw [text_a FI.out] at a2
        rw [text_b FI.out] at b2
        rw [a1, a2, bytes_mk] at A1
        rw [b1, b2, bytes_mk] at A2
        clear a1 a2 b1 b2
        by_cases f : s[0] = 35
        · have f1 : ((s[0].toNat : Int) == 35) = true := by rw [f]; rfl
          clear f
          generalize (⟨(headL (List.replicate K 35 ++ s.data.toList)).toArray⟩ : ByteArray) = Z3 at *
          generalize headN (List.replicate K 35 ++ s.data.toList) = m at *
          by_cases hm : m = 0
          · subst hm
            simp only [Int.cast_ofNat_Int] at A3
            go_wp2_with fail
            (with_reducible refine (A1.out _).mono ?_)
            rintro e w1 ⟨rfl, k1⟩
            go_wp2_with fail
            (with_reducible refine (A2.out _).mono ?_)
            rintro e w2 ⟨rfl, k2⟩
            go_wp2_with fail
            (with_reducible refine (A3.out _).mono ?_)
            rintro e w3 ⟨rfl, k3⟩
            have K3 := Lib.hid ((k1.trans k2).trans k3)
            clear k1 k2 k3
            go_wp2_with fail
            (with_reducible refine (AW.out _ (Env8.keep HE.out K3.out)).mono ?_)
            rintro e w4 ⟨rfl, k4⟩
            go_wp2_with fail
            go_ret
            exact ⟨rfl, K3.out.trans k4⟩
          · have hm0 : ((m : Int) == 0) = false := beq_eq_false_iff_ne.2 (by omega)
            clear hm
            go_wp2_with fail
            (with_reducible refine (A1.out _).mono ?_)
            rintro e w1 ⟨rfl, k1⟩
            go_wp2_with fail
            (with_reducible refine (A2.out _).mono ?_)
            rintro e w2 ⟨rfl, k2⟩
            go_wp2_with fail
            (with_reducible refine (A3.out _).mono ?_)
            rintro e w3 ⟨rfl, k3⟩
            have K3 := Lib.hid ((k1.trans k2).trans k3)
            clear k1 k2 k3
            go_wp2_with fail
            (with_reducible refine (AW.out _ (Env8.keep HE.out K3.out)).mono ?_)
            rintro e w4 ⟨rfl, k4⟩
            go_wp2_with fail
            go_ret
            exact ⟨rfl, K3.out.trans k4⟩
        · rw [hd_c FI.out (by rw [HH.out]; exact f)] at A3
          simp only [Int.cast_ofNat_Int] at A3
          clear f
          generalize (⟨(headL (List.replicate K 35 ++ s.data.toList)).toArray⟩ : ByteArray) = Z3 at *
          go_wp2_with fail
          (with_reducible refine (A1.out _).mono ?_)
          rintro e w1 ⟨rfl, k1⟩
          go_wp2_with fail
          (with_reducible refine (A2.out _).mono ?_)
          rintro e w2 ⟨rfl, k2⟩
          go_wp2_with fail
          (with_reducible refine (A3.out _).mono ?_)
          rintro e w3 ⟨rfl, k3⟩
          have K3 := Lib.hid ((k1.trans k2).trans k3)
          clear k1 k2 k3
          go_wp2_with fail
          (with_reducible refine (AW.out _ (Env8.keep HE.out K3.out)).mono ?_)
          rintro e w4 ⟨rfl, k4⟩
          go_wp2_with fail
          go_ret
          exact ⟨rfl, K3.out.trans k4⟩
theorem mheadings_any (s : ByteArray) (x : Int) (hx : 0 ≤ x ∧ x ≤ 255) (w : World) (hs : s.size ≤ maxLen) (hE : Env8 w) :
    Calls Tryd.prog 3 #[.string s, .int .u8 x] w fun e w' => e = .returned (.bool true) ∧ Keeps w w' := by
  by_cases h : 200 < s.size ∨ s = ⟨#[]⟩ ∨ ∃ h : 0 < s.size, (s[s.size - 1]'(by omega)).toNat = 35 ∨ trimL s.data.toList ≠ s.data.toList
  · exact mheadings_not s x w hs hE h
  · have h200 : s.size ≤ 200 := Decidable.byContradiction fun k => h (.inl (by omega))
    have h0 : 0 < s.size := Decidable.byContradiction fun k => h (.inr (.inl (empty_of k)))
    exact mheadings_in s x hx.1 hx.2 w h200 h0 (fun k => h (.inr (.inr ⟨h0, .inl k⟩))) (Decidable.byContradiction fun k => h (.inr (.inr ⟨h0, .inr k⟩))) hE
end Go.Proofs.YtjfhbfnagcjdmaaDoor

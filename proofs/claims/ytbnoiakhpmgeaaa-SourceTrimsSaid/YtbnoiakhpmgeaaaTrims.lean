/-
  SourceTrims returns true of any text.
-/
import Derived.Test.YtbnoiakhpmgeaaaSaw
namespace Go.Proofs.Ytbnoiakhpmgeaaa
open Go.RowKit Go.Lib

theorem blank_is (s : ByteArray) (w : World) {b : Bool} (h : blankL s.data.toList = b) :
    Calls Try.prog 14 #[.string s] w fun e w' => e = .returned (.bool b) ∧ Keeps w w' :=
  (blank_any s w).mono fun _ _ ⟨he, hk⟩ => ⟨by rw [he, h], hk⟩
set_option maxHeartbeats 400000 in
theorem trims_long (s : ByteArray) (w : World) (hs : s.size ≤ maxLen) (h : 3000 < s.size) :
    Calls Try.prog 6 #[.string s] w fun e w' => e = .returned (.bool true) ∧ Keeps w w' := by
  have AW := Lib.hid (awake_any w)
  unfold maxLen at hs
  go_enter Try.func6, Try.ntmps6
  go_wp2_with fail
  refine AW.out.mono ?_
  rintro e w2 ⟨rfl, k2⟩
  go_wp2_with fail
  go_ret
  exact ⟨rfl, k2⟩

set_option maxHeartbeats 1000000 in
theorem trims_short (s : ByteArray) (w : World) (h : s.size ≤ 3000) :
    Calls Try.prog 6 #[.string s] w fun e w' => e = .returned (.bool true) ∧ Keeps w w' := by
  have AW := Lib.hid (fun W => awake_any W)
  have T1 := Lib.hid (fun W => trim_any s W (by omega))
  have hlen : (trimL s.data.toList).length ≤ 3000 := by have := trim_len s.data.toList; rw [bytes_len] at this; omega
  have T2 := Lib.hid (fun W => trim_any ⟨(trimL s.data.toList).toArray⟩ W (by simp [ByteArray.size]; omega))
  have T3 := Lib.hid (fun W => trim_any (⟨#[9, 32, 10]⟩ ++ s ++ ⟨#[32, 10]⟩) W (by rw [ByteArray.size_append, ByteArray.size_append]; have e1 : (⟨#[9, 32, 10]⟩ : ByteArray).size = 3 := rfl; have e2 : (⟨#[32, 10]⟩ : ByteArray).size = 2 := rfl; omega))
  rw [show (⟨(trimL s.data.toList).toArray⟩ : ByteArray).data.toList = trimL s.data.toList from rfl, trim_trim] at T2
  rw [show ((⟨#[9, 32, 10]⟩ ++ s ++ ⟨#[32, 10]⟩) : ByteArray).data.toList = [9, 32, 10] ++ s.data.toList ++ [32, 10] by simp, trim_more _ _ _ (by decide) (by decide)] at T3
  have BS := Lib.hid (fun W => blank_any s W)
  by_cases hne : trimL s.data.toList = []
  · rw [hne] at T1 T2 T3
    generalize blankL s.data.toList = bk at *
    clear hne hlen
    go_enter Try.func6, Try.ntmps6
    go_wp2_with fail
    refine (T1.out _).mono ?_
    rintro e w1 ⟨rfl, k1⟩
    go_wp2_with fail
    refine (AW.out _).mono ?_
    rintro e w2 ⟨rfl, k2⟩
    have K2 := Lib.hid (k1.trans k2)
    clear k1 k2
    go_wp2_with fail
    refine (T2.out _).mono ?_
    rintro e w3 ⟨rfl, k3⟩
    have K3 := Lib.hid (K2.out.trans k3)
    clear k3
    go_wp2_with fail
    refine (T3.out _).mono ?_
    rintro e w4 ⟨rfl, k4⟩
    have K4 := Lib.hid (K3.out.trans k4)
    clear k4
    go_wp2_with fail
    refine (BS.out _).mono ?_
    rintro e w5 ⟨rfl, k5⟩
    have K5 := Lib.hid (K4.out.trans k5)
    clear k5
    cases bk
    · go_wp2_with fail
      go_ret
      exact ⟨rfl, K5.out⟩
    · go_wp2_with fail
      go_ret
      exact ⟨rfl, K5.out⟩
  · have hbk : blankL s.data.toList = false := by
      cases e : blankL s.data.toList with
      | false => rfl
      | true => exact absurd (trim_blank _ e) hne
    rw [hbk] at BS
    have hf := trim_first hne
    have hla := trim_last hne
    have hpos : 0 < (trimL s.data.toList).length := List.length_pos_iff.2 hne
    generalize trimL s.data.toList = tr at *
    obtain ⟨t, HT⟩ : ∃ t : ByteArray, Hid (t = ⟨tr.toArray⟩) := ⟨_, rfl⟩
    have ht : t.data.toList = tr := by rw [HT.out]
    have hts : t.size = tr.length := by rw [← ht, bytes_len]
    rw [← HT.out] at T1 T2 T3
    have f1 : blankL (t.extract 0 1).data.toList = false := by rw [Lib.extract_data, List.drop_zero, Nat.sub_zero, ht, hf]
    have f2 : blankL (t.extract (t.size - 1) t.size).data.toList = false := by rw [Lib.extract_to_end, ht, hts, hla]
    have F1 := Lib.hid (fun W => blank_is (t.extract 0 1) W f1)
    have F2 := Lib.hid (fun W => blank_is (t.extract (t.size - 1) t.size) W f2)
    have ht0 : 0 < t.size := by omega
    have ht1 : t.size ≤ 3000 := by omega
    have n1 := tl_empty ht0
    have n2 := tl_ne ht0
    clear f1 f2 hf hla hpos hne hbk ht hts hlen HT
    go_enter Try.func6, Try.ntmps6
    go_wp2_with fail
    refine (T1.out _).mono ?_
    rintro e w1 ⟨rfl, k1⟩
    go_wp2_with fail
    refine (F1.out _).mono ?_
    rintro e w2 ⟨rfl, k2⟩
    have K2 := Lib.hid (k1.trans k2)
    clear k1 k2
    go_wp2_with fail
    refine (F2.out _).mono ?_
    rintro e w3 ⟨rfl, k3⟩
    have K3 := Lib.hid (K2.out.trans k3)
    clear k3
    go_wp2_with fail
    refine (AW.out _).mono ?_
    rintro e w4 ⟨rfl, k4⟩
    have K4 := Lib.hid (K3.out.trans k4)
    clear k4
    go_wp2_with fail
    refine (T2.out _).mono ?_
    rintro e w5 ⟨rfl, k5⟩
    have K5 := Lib.hid (K4.out.trans k5)
    clear k5
    go_wp2_with fail
    refine (T3.out _).mono ?_
    rintro e w6 ⟨rfl, k6⟩
    have K6 := Lib.hid (K5.out.trans k6)
    clear k6
    go_wp2_with fail
    refine (BS.out _).mono ?_
    rintro e w7 ⟨rfl, k7⟩
    have K7 := Lib.hid (K6.out.trans k7)
    clear k7
    go_wp2_with fail
    go_ret
    exact ⟨rfl, K7.out⟩
theorem trims_any (s : ByteArray) (w : World) (hs : s.size ≤ maxLen) :
    Calls Try.prog 6 #[.string s] w fun e w' => e = .returned (.bool true) ∧ Keeps w w' := by
  by_cases h : s.size ≤ 3000
  · exact trims_short s w h
  · exact trims_long s w hs (by omega)
end Go.Proofs.Ytbnoiakhpmgeaaa

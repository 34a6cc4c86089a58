/-
  Contracts of attr, Tag, Html, of the document's answer of layer 11, for texts of at most 100,000 bytes.
-/
import Derived.Test.YtggeknhggpdpkaaGreatDoorRxa
import Derived.Test.YtggeknhggpdpkaaGreatDoorRwx
namespace Go.Proofs.YtggeknhggpdpkaaGreatDoor
open Go.RowKit Go.Lib

set_option maxRecDepth 100000 in
set_option maxHeartbeats 1000000 in
theorem dattr_any (s : ByteArray) (i : Nat) (w : World) (hs : s.size ≤ 100000) (hi : i ≤ s.size) :
    Calls Tryz.prog 34 #[.string s, .int .i64 (i : Nat)] w fun e w' => e = .returned (.int .i64 (dtrN (s.data.toList.drop i) : Nat)) ∧ w = w' := by
  have hl := bytes_len s
  have S1 := Lib.hid (fun W => dspaces_any s i W hs hi)
  have ha := cntP_le rSpc (s.data.toList.drop i)
  rw [List.length_drop, hl] at ha
  have hA : atrA (s.data.toList.drop i) = cntP rSpc (s.data.toList.drop i) := rfl
  have hM : atrM (s.data.toList.drop i) = attN ((s.data.toList.drop i).drop (atrA (s.data.toList.drop i))) := rfl
  rw [hA, List.drop_drop] at hM
  unfold dtrN
  rw [hM, hA]
  clear hM hA
  generalize cntP rSpc (s.data.toList.drop i) = a at *
  have N1 := Lib.hid (fun W => dattrName_any s (i + a) W hs (by omega))
  have hn := attN_le (s.data.toList.drop (i + a))
  rw [List.length_drop, hl] at hn
  by_cases c0 : a = 0
  · subst c0
    rw [if_pos rfl]
    generalize attN (s.data.toList.drop (i + 0)) = m at *
    rw [Nat.add_zero] at N1
    go_enter Tryz.func34, Tryz.ntmps34
    go_wp2_with fail
    refine (S1.out _).mono ?_
    rintro e w1 ⟨rfl, rfl⟩
    go_wp2_with fail
    refine (N1.out _).mono ?_
    rintro e w1 ⟨rfl, rfl⟩
    go_wp2_with fail
    go_ret
    exact ⟨rfl, rfl⟩
  · rw [if_neg c0]
    generalize attN (s.data.toList.drop (i + a)) = m at *
    obtain ⟨k, hk⟩ : ∃ k, i + a = k := ⟨_, rfl⟩
    have hk1 : (i : Int) + (a : Int) = (k : Int) := by omega
    have q1 := beqF (show ¬ (k : Int) = (i : Int) by omega)
    rw [hk] at N1 hn
    by_cases c1 : m = 0
    · subst c1
      rw [if_pos rfl]
      clear c0
      go_enter Tryz.func34, Tryz.ntmps34
      go_wp2_with fail
      refine (S1.out _).mono ?_
      rintro e w1 ⟨rfl, rfl⟩
      go_wp2_with fail
      refine (N1.out _).mono ?_
      rintro e w1 ⟨rfl, rfl⟩
      go_wp2_with fail
      go_ret
      exact ⟨rfl, rfl⟩
    · have q2 := beqF (show ¬ (m : Int) = 0 by omega)
      rw [if_neg c1]
      obtain ⟨p, hp⟩ : ∃ p, k + m = p := ⟨_, rfl⟩
      have hp1 : (k : Int) + (m : Int) = (p : Int) := by omega
      have hq : (s.data.toList.drop i).drop (a + m) = s.data.toList.drop p := by rw [List.drop_drop]; congr 1; omega
      rw [hq]
      have S2 := Lib.hid (fun W => dspaces_any s p W hs (by omega))
      have hb := cntP_le rSpc (s.data.toList.drop p)
      rw [List.length_drop, hl] at hb
      have gA : asgA (s.data.toList.drop p) = cntP rSpc (s.data.toList.drop p) := rfl
      have gQ : asgQ (s.data.toList.drop p) = frP (fun b => decide (b.toNat = 61)) ((s.data.toList.drop p).drop (asgA (s.data.toList.drop p))) := rfl
      have gC : asgC (s.data.toList.drop p) = asgA (s.data.toList.drop p) + 1 + cntP rSpc ((s.data.toList.drop p).drop (asgA (s.data.toList.drop p) + 1)) := rfl
      have gV : asgV (s.data.toList.drop p) = valN ((s.data.toList.drop p).drop (asgC (s.data.toList.drop p))) := rfl
      rw [gQ, gV, gC, gA]
      generalize cntP rSpc (s.data.toList.drop p) = b at *
      rw [List.drop_drop, List.drop_drop, List.drop_drop]
      obtain ⟨j, hj⟩ : ∃ j, p + b = j := ⟨_, rfl⟩
      have hj1 : (p : Int) + (b : Int) = (j : Int) := by omega
      rw [hj, show p + (b + 1) = j + 1 by omega]
      by_cases c2 : j < s.size
      · have hb2 := s[j].toNat_lt
        rw [fr_at _ s j c2]
        by_cases c3 : s[j].toNat = 61
        · have q3 := beqT (show (s[j].toNat : Int) = 61 by omega)
          rw [if_pos (decide_eq_true c3)]
          have S3 := Lib.hid (fun W => dspaces_any s (j + 1) W hs (by omega))
          have hd := cntP_le rSpc (s.data.toList.drop (j + 1))
          rw [List.length_drop, hl] at hd
          generalize cntP rSpc (s.data.toList.drop (j + 1)) = d at *
          obtain ⟨u, hu⟩ : ∃ u, j + 1 + d = u := ⟨_, rfl⟩
          have hu1 : (j : Int) + 1 + (d : Int) = (u : Int) := by omega
          rw [show p + (b + 1 + d) = u by omega]
          have V1 := Lib.hid (fun W => dvalue_any s u W hs (by omega))
          have hv := valN_le (s.data.toList.drop u)
          rw [List.length_drop, hl] at hv
          generalize valN (s.data.toList.drop u) = v at *
          by_cases c4 : v = 0
          · subst c4
            rw [if_pos rfl]
            clear c0 c1 c3 gA gQ gC gV hq hk hp hj hu
            go_enter Tryz.func34, Tryz.ntmps34
            go_wp2_with fail
            refine (S1.out _).mono ?_
            rintro e w1 ⟨rfl, rfl⟩
            go_wp2_with fail
            refine (N1.out _).mono ?_
            rintro e w1 ⟨rfl, rfl⟩
            go_wp2_with fail
            refine (S2.out _).mono ?_
            rintro e w1 ⟨rfl, rfl⟩
            go_wp2_with fail
            refine (S3.out _).mono ?_
            rintro e w1 ⟨rfl, rfl⟩
            go_wp2_with fail
            refine (V1.out _).mono ?_
            rintro e w1 ⟨rfl, rfl⟩
            go_wp2_with fail
            go_ret
            exact ⟨rfl, rfl⟩
          · have q4 := beqF (show ¬ (v : Int) = 0 by omega)
            rw [if_neg c4]
            obtain ⟨r, hr⟩ : ∃ r, a + m + (b + 1 + d + v) = r := ⟨_, rfl⟩
            have hr1 : (u : Int) + (v : Int) - (i : Int) = (r : Int) := by omega
            rw [hr]
            clear c0 c1 c3 c4 gA gQ gC gV hq hk hp hj hu hr
            go_enter Tryz.func34, Tryz.ntmps34
            go_wp2_with fail
            refine (S1.out _).mono ?_
            rintro e w1 ⟨rfl, rfl⟩
            go_wp2_with fail
            refine (N1.out _).mono ?_
            rintro e w1 ⟨rfl, rfl⟩
            go_wp2_with fail
            refine (S2.out _).mono ?_
            rintro e w1 ⟨rfl, rfl⟩
            go_wp2_with fail
            refine (S3.out _).mono ?_
            rintro e w1 ⟨rfl, rfl⟩
            go_wp2_with fail
            refine (V1.out _).mono ?_
            rintro e w1 ⟨rfl, rfl⟩
            go_wp2_with fail
            go_ret
            exact ⟨rfl, rfl⟩
        · have q3 := beqF (show ¬ (s[j].toNat : Int) = 61 by omega)
          rw [if_neg (by rw [decide_eq_true_eq]; exact c3)]
          obtain ⟨r, hr⟩ : ∃ r, a + m = r := ⟨_, rfl⟩
          have hr1 : (p : Int) - (i : Int) = (r : Int) := by omega
          rw [hr]
          clear c0 c1 c3 gA gQ gC gV hq hk hp hj hr
          go_enter Tryz.func34, Tryz.ntmps34
          go_wp2_with fail
          refine (S1.out _).mono ?_
          rintro e w1 ⟨rfl, rfl⟩
          go_wp2_with fail
          refine (N1.out _).mono ?_
          rintro e w1 ⟨rfl, rfl⟩
          go_wp2_with fail
          refine (S2.out _).mono ?_
          rintro e w1 ⟨rfl, rfl⟩
          go_wp2_with fail
          go_ret
          exact ⟨rfl, rfl⟩
      · rw [show s.data.toList.drop j = [] from List.drop_eq_nil_of_le (by rw [hl]; omega), if_neg (by show ¬ false = true; decide)]
        obtain ⟨r, hr⟩ : ∃ r, a + m = r := ⟨_, rfl⟩
        have hr1 : (p : Int) - (i : Int) = (r : Int) := by omega
        rw [hr]
        clear c0 c1 gA gQ gC gV hq hk hp hj hr
        go_enter Tryz.func34, Tryz.ntmps34
        go_wp2_with fail
        refine (S1.out _).mono ?_
        rintro e w1 ⟨rfl, rfl⟩
        go_wp2_with fail
        refine (N1.out _).mono ?_
        rintro e w1 ⟨rfl, rfl⟩
        go_wp2_with fail
        refine (S2.out _).mono ?_
        rintro e w1 ⟨rfl, rfl⟩
        go_wp2_with fail
        go_ret
        exact ⟨rfl, rfl⟩
end Go.Proofs.YtggeknhggpdpkaaGreatDoor

/-
  Contracts of spacedTitle, Inline, of the package, for texts of at most 100,000 bytes.
-/
import Derived.Test.YtdpjfdandeikmaaDoorTrc
namespace Go.Proofs.YtdpjfdandeikmaaDoor
open Go.RowKit Go.Lib

theorem tit_out2 {a b : List UInt8} {n m : Int} (h : a = b ∧ n = m) : Ending.returned (.tuple #[.string ⟨a.toArray⟩, .int .i64 n]) = .returned (.tuple #[.string ⟨b.toArray⟩, .int .i64 m]) := by rw [h.1, h.2]
set_option maxRecDepth 100000 in
set_option maxHeartbeats 400000 in
theorem spacedTitle_any (s : ByteArray) (w : World) (hs : s.size ≤ 100000) (hO : Lis w) :
    Calls Tryd.prog 17 #[.string s] w fun e w' => e = .returned (.tuple #[.string ⟨(sptT s.data.toList).toArray⟩, .int .i64 (sptN s.data.toList : Nat)]) ∧ Keeps w w' := by
  have S1 := Lib.hid (fun W => spaces_any s false W hs)
  have hk := spc_le false s.data.toList false
  rw [bytes_len] at hk
  unfold sptT sptN
  generalize spcN false false s.data.toList = k at *
  cases k with
  | zero =>
    clear hO
    go_enter Tryd.func17, Tryd.ntmps17
    go_wp2_with fail
    refine (S1.out _).mono ?_
    rintro e w1 ⟨rfl, rfl⟩
    go_wp2_with fail
    go_ret2
    exact ⟨rfl, Keeps.refl _⟩
  | succ k =>
    have T1 := Lib.hid (title_any (s.extract (k + 1) s.size) w (by rw [ByteArray.size_extract]; omega) hO)
    rw [Lib.extract_to_end] at T1
    have hm := (tit_le (s.data.toList.drop (k + 1))).1
    rw [List.length_drop, bytes_len] at hm
    rw [if_neg (by omega), if_neg (by omega)]
    generalize titN (s.data.toList.drop (k + 1)) = m at *
    have S2 := Lib.hid (fun W => spaces_any (s.extract (k + 1 + m) s.size) false W (by rw [ByteArray.size_extract]; omega))
    have hn := spc_le false (s.data.toList.drop (k + 1 + m)) false
    rw [List.length_drop, bytes_len] at hn
    rw [Lib.extract_to_end] at S2
    generalize spcN false false (s.data.toList.drop (k + 1 + m)) = n at *
    have t0 : (((k + 1 : Nat) : Int) == 0) = false := beqF (by omega)
    clear hO
    go_enter Tryd.func17, Tryd.ntmps17
    go_wp2_with fail
    refine (S1.out _).mono ?_
    rintro e w1 ⟨rfl, rfl⟩
    go_wp2_with fail
    refine T1.out.mono ?_
    rintro e w1 ⟨rfl, k1⟩
    go_wp2_with fail
    refine (S2.out _).mono ?_
    rintro e w2 ⟨rfl, rfl⟩
    go_wp2_with fail
    go_ret2
    exact ⟨tit_out2 ⟨rfl, by omega⟩, k1⟩

/-- What Inline tells. -/
def InlV (L : List UInt8) : Value := .tuple #[.string ⟨(inlD L).toArray⟩, .string ⟨(inlT L).toArray⟩, .int .i64 (inlN L : Nat)]
theorem inl_no {L : List UInt8} (h : inlB L = false) : InlV L = .tuple #[.string ⟨#[]⟩, .string ⟨#[]⟩, .int .i64 0] := by
  unfold InlV inlD inlT inlN
  rw [h]
  rfl
theorem inl_yes {L : List UInt8} (h : inlB L = true) : InlV L = .tuple #[.string ⟨(dstT (L.drop (inlA L))).toArray⟩, .string ⟨(sptT (L.drop (inlM L))).toArray⟩, .int .i64 (inlE L + 1 : Nat)] := by
  unfold InlV inlD inlT inlN
  rw [h]
  rfl
set_option maxRecDepth 100000 in
set_option maxHeartbeats 1000000 in
theorem inline_any (s : ByteArray) (w : World) (hs : s.size ≤ 100000) (hO : Lis w) :
    Calls Tryd.prog 9 #[.string s] w fun e w' => e = .returned (InlV s.data.toList) ∧ Keeps w w' := by
  have NO := Lib.hid (@inl_no s.data.toList)
  have YES := Lib.hid (@inl_yes s.data.toList)
  have HB : Hid (inlB s.data.toList = (hasPrefix s.data.toList [40] && dstB (s.data.toList.drop (inlA s.data.toList)) && hasPrefix (s.data.toList.drop (inlE s.data.toList)) [41])) := Lib.hid rfl
  have P1 := Lib.hid (fun W => Tryd.strings_HasPrefix s ⟨#[40]⟩ W)
  rw [show (⟨#[40]⟩ : ByteArray).data.toList = [40] from rfl] at P1
  cases h1 : hasPrefix s.data.toList [40] with
  | false =>
    have HN := Lib.hid (NO.out (HB.out.trans (by rw [h1]; rfl)))
    rw [HN.out]
    rw [h1] at P1
    clear h1 hO HB HN NO YES
    go_enter Tryd.func9, Tryd.ntmps9
    go_wp2_with fail
    refine (P1.out _).mono ?_
    rintro e w1 ⟨rfl, rfl⟩
    go_wp2_with fail
    go_ret3
    exact ⟨rfl, Keeps.refl _⟩
  | true =>
    have hz : 1 ≤ s.size := pre_size h1
    have hA : inlA s.data.toList = 1 + spcN false false (s.data.toList.drop 1) := rfl
    have ha := spc_le false (s.data.toList.drop 1) false
    rw [List.length_drop, bytes_len] at ha
    have S1 := Lib.hid (fun W => spaces_any (s.extract 1 s.size) false W (by rw [ByteArray.size_extract]; omega))
    rw [Lib.extract_to_end] at S1
    have hM : inlM s.data.toList = inlA s.data.toList + dstN (s.data.toList.drop (inlA s.data.toList)) := rfl
    have hE : inlE s.data.toList = inlM s.data.toList + sptN (s.data.toList.drop (inlM s.data.toList)) := rfl
    generalize spcN false false (s.data.toList.drop 1) = a at *
    rw [hA] at hM HB YES
    have D1 := Lib.hid (dest_any (s.extract (1 + a) s.size) w (by rw [ByteArray.size_extract]; omega) hO)
    rw [Lib.extract_to_end] at D1
    have hd := dst_le (s.data.toList.drop (1 + a))
    rw [List.length_drop, bytes_len] at hd
    generalize dstN (s.data.toList.drop (1 + a)) = d at *
    rw [hM] at hE YES
    rw [h1] at P1
    rw [h1, Bool.true_and] at HB
    cases h2 : dstB (s.data.toList.drop (1 + a)) with
    | false =>
      have HN := Lib.hid (NO.out (HB.out.trans (by rw [h2]; rfl)))
      rw [HN.out]
      rw [h2] at D1
      clear h1 h2 hO HB HN NO YES hA hM hE
      generalize dstT (s.data.toList.drop (1 + a)) = dt at *
      go_enter Tryd.func9, Tryd.ntmps9
      go_wp2_with fail
      refine (P1.out _).mono ?_
      rintro e w1 ⟨rfl, rfl⟩
      go_wp2_with fail
      refine (S1.out _).mono ?_
      rintro e w1 ⟨rfl, rfl⟩
      go_wp2_with fail
      refine D1.out.mono ?_
      rintro e w1 ⟨rfl, k1⟩
      go_wp2_with fail
      go_ret3
      exact ⟨rfl, k1⟩
    | true =>
      rw [h2, Bool.true_and] at HB
      rw [h2] at D1
      have T1 := Lib.hid (fun W hW => spacedTitle_any (s.extract (1 + a + d) s.size) W (by rw [ByteArray.size_extract]; omega) hW)
      rw [Lib.extract_to_end] at T1
      have hm := spt_le (s.data.toList.drop (1 + a + d))
      rw [List.length_drop, bytes_len] at hm
      generalize sptN (s.data.toList.drop (1 + a + d)) = m at *
      rw [hE] at HB YES
      have P2 := Lib.hid (fun W => Tryd.strings_HasPrefix (s.extract (1 + a + d + m) s.size) ⟨#[41]⟩ W)
      rw [show (⟨#[41]⟩ : ByteArray).data.toList = [41] from rfl, Lib.extract_to_end] at P2
      have HO := Lib.hid hO
      generalize dstT (s.data.toList.drop (1 + a)) = dt at *
      generalize sptT (s.data.toList.drop (1 + a + d)) = tt at *
      cases h3 : hasPrefix (s.data.toList.drop (1 + a + d + m)) [41] with
      | false =>
        have HN := Lib.hid (NO.out (HB.out.trans h3))
        rw [HN.out]
        rw [h3] at P2
        clear h1 h2 h3 hO HB HN NO YES hA hM hE
        go_enter Tryd.func9, Tryd.ntmps9
        go_wp2_with fail
        refine (P1.out _).mono ?_
        rintro e w1 ⟨rfl, rfl⟩
        go_wp2_with fail
        refine (S1.out _).mono ?_
        rintro e w1 ⟨rfl, rfl⟩
        go_wp2_with fail
        refine D1.out.mono ?_
        rintro e w1 ⟨rfl, k1⟩
        have K1 := Lib.hid k1
        clear k1
        go_wp2_with fail
        refine (T1.out _ (HO.out.keep K1.out)).mono ?_
        rintro e w2 ⟨rfl, k2⟩
        have K2 := Lib.hid (K1.out.trans k2)
        clear k2
        go_wp2_with fail
        refine (P2.out _).mono ?_
        rintro e w3 ⟨rfl, rfl⟩
        go_wp2_with fail
        go_ret3
        exact ⟨rfl, K2.out⟩
      | true =>
        have HN := Lib.hid (YES.out (HB.out.trans h3))
        rw [HN.out]
        rw [h3] at P2
        clear h1 h2 h3 hO HB HN NO YES hA hM hE
        go_enter Tryd.func9, Tryd.ntmps9
        go_wp2_with fail
        refine (P1.out _).mono ?_
        rintro e w1 ⟨rfl, rfl⟩
        go_wp2_with fail
        refine (S1.out _).mono ?_
        rintro e w1 ⟨rfl, rfl⟩
        go_wp2_with fail
        refine D1.out.mono ?_
        rintro e w1 ⟨rfl, k1⟩
        have K1 := Lib.hid k1
        clear k1
        go_wp2_with fail
        refine (T1.out _ (HO.out.keep K1.out)).mono ?_
        rintro e w2 ⟨rfl, k2⟩
        have K2 := Lib.hid (K1.out.trans k2)
        clear k2
        go_wp2_with fail
        refine (P2.out _).mono ?_
        rintro e w3 ⟨rfl, rfl⟩
        go_wp2_with fail
        go_ret3
        exact ⟨rfl, K2.out⟩
end Go.Proofs.YtdpjfdandeikmaaDoor

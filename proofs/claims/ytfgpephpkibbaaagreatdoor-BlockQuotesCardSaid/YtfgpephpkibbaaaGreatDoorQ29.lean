/-
  Texts of the proof, one behind the other: Mkd.
-/
import Derived.Test.YtfgpephpkibbaaaGreatDoorQ13
import Derived.Test.YtfgpephpkibbaaaGreatDoorQ26
import Derived.Test.YtfgpephpkibbaaaGreatDoorQ23
/-
  Contracts of headingText, Heading, fences, Fence, of the package, for texts of at most 100,000 bytes.
-/
namespace Go.Proofs.YtfgpephpkibbaaaGreatDoor
open Go.RowKit Go.Lib

theorem lastB_mk (s : ByteArray) : lastB s.data.toList = if h : 0 < s.size then isB (s[s.size - 1]'(by omega)) else true := by
  unfold lastB
  split
  · next b e =>
    have hp : 0 < s.size := by
      rw [← bytes_len]
      cases hl : s.data.toList with
      | nil => rw [hl] at e; cases e
      | cons a t => simp
    rw [dif_pos hp]
    rw [List.getLast?_eq_getElem?, bytes_len, List.getElem?_eq_getElem (by rw [bytes_len]; omega)] at e
    have e2 : s[s.size - 1]'(by omega) = b := Option.some.inj e
    rw [e2]
  · next e =>
    rw [List.getLast?_eq_none_iff] at e
    have hz : s.size = 0 := by rw [← bytes_len, e]; rfl
    rw [dif_neg (by omega)]
theorem mk_size (l : List UInt8) : (⟨l.toArray⟩ : ByteArray).size = l.length := by show l.toArray.size = _; simp
set_option maxRecDepth 100000 in
set_option maxHeartbeats 800000 in
theorem headText_any (s : ByteArray) (w : World) (hs : s.size ≤ 100000) :
    Calls Tryz.prog 111 #[.string s] w fun e w' => e = .returned (.string ⟨(headTextL s.data.toList).toArray⟩) ∧ Keeps w w' := by
  have T1 := Lib.hid (fun W => trim_any s W hs)
  have l1 := trim_len s.data.toList
  rw [bytes_len] at l1
  have l2 := trimRight_len (trimL s.data.toList) 35
  have T2 := Lib.hid (fun W => Tryz.strings_TrimRight_one ⟨(trimL s.data.toList).toArray⟩ 35 (by decide) W (by rw [mk_size]; omega))
  have T3 := Lib.hid (fun W => trim_any ⟨(trimRightB (trimL s.data.toList) 35).toArray⟩ W (by rw [mk_size]; omega))
  have HH : Hid (headTextL s.data.toList = if lastB (trimRightB (trimL s.data.toList) 35) then trimL (trimRightB (trimL s.data.toList) 35) else trimL s.data.toList) := Lib.hid rfl
  have LB := Lib.hid (lastB_mk ⟨(trimRightB (trimL s.data.toList) 35).toArray⟩)
  have hz : (⟨(trimRightB (trimL s.data.toList) 35).toArray⟩ : ByteArray).size ≤ 100000 := by rw [mk_size]; omega
  rw [show (⟨(trimL s.data.toList).toArray⟩ : ByteArray).data.toList = trimL s.data.toList by simp] at T2
  rw [show (⟨(trimRightB (trimL s.data.toList) 35).toArray⟩ : ByteArray).data.toList = trimRightB (trimL s.data.toList) 35 by simp] at T3 LB
  generalize headTextL s.data.toList = y at *
  generalize trimL (trimRightB (trimL s.data.toList) 35) = z at *
  generalize lastB (trimRightB (trimL s.data.toList) 35) = lb at *
  generalize (⟨(trimRightB (trimL s.data.toList) 35).toArray⟩ : ByteArray) = o at *
  generalize trimL s.data.toList = t at *
  clear l1 l2
  by_cases h : 0 < o.size
  · have hi := tl_empty h
    have hn := tl_ne h
    have hlb : Hid (lb = isB (o[o.size - 1]'(by omega))) := Lib.hid (by rw [LB.out, dif_pos h])
    have IB := Lib.hid (fun W => mblank_any (o[o.size - 1]'(by omega)) W)
    rw [← hlb.out] at IB
    have q1 : ((o.size : Int) - 1).toNat = o.size - 1 := by omega
    have q2 : 0 ≤ (o.size : Int) - 1 := by omega
    have q3 : (o.size : Int) - 1 < o.size := by omega
    have q4 : o.size - 1 < o.size := by omega
    clear LB hlb
    cases lb with
    | true =>
      go_enter Tryz.func111, Tryz.ntmps111
      go_wp2_with fail
      refine (T1.out _).mono ?_
      rintro e w1 ⟨rfl, k1⟩
      go_wp2_with fail
      refine (T2.out _).mono ?_
      rintro e w2 ⟨rfl, rfl⟩
      go_wp2_with fail
      refine (IB.out _).mono ?_
      rintro e w3 ⟨rfl, rfl⟩
      go_wp2_with fail
      refine (T3.out _).mono ?_
      rintro e w4 ⟨rfl, k4⟩
      go_wp2_with fail
      go_ret
      exact ⟨ret_str (by rw [HH.out]; rfl), k1.trans k4⟩
    | false =>
      go_enter Tryz.func111, Tryz.ntmps111
      go_wp2_with fail
      refine (T1.out _).mono ?_
      rintro e w1 ⟨rfl, k1⟩
      go_wp2_with fail
      refine (T2.out _).mono ?_
      rintro e w2 ⟨rfl, rfl⟩
      go_wp2_with fail
      refine (IB.out _).mono ?_
      rintro e w3 ⟨rfl, rfl⟩
      go_wp2_with fail
      go_ret
      exact ⟨ret_str (by rw [HH.out]; rfl), k1⟩
  · have hlb : Hid (lb = true) := Lib.hid (by rw [LB.out, dif_neg h])
    have hz : o = ⟨#[]⟩ := bytes_eq (by rw [List.eq_nil_of_length_eq_zero (show o.data.toList.length = 0 by rw [bytes_len]; omega)])
    subst hz
    clear h LB
    go_enter Tryz.func111, Tryz.ntmps111
    go_wp2_with fail
    refine (T1.out _).mono ?_
    rintro e w1 ⟨rfl, k1⟩
    go_wp2_with fail
    refine (T2.out _).mono ?_
    rintro e w2 ⟨rfl, rfl⟩
    go_wp2_with fail
    refine (T3.out _).mono ?_
    rintro e w4 ⟨rfl, k4⟩
    go_wp2_with fail
    go_ret
    exact ⟨ret_str (by rw [HH.out, hlb.out]; rfl), k1.trans k4⟩
theorem head_none2 {l : List UInt8} (h : cntL 35 l < 1 ∨ 6 < cntL 35 l ∨ apartL (l.drop (cntL 35 l)) = false) : headN l = 0 ∧ headL l = [] := by
  have e : headN l = 0 := by unfold headN; rw [if_pos h]
  exact ⟨e, by unfold headL; rw [if_pos e]⟩
theorem head_some2 {l : List UInt8} (h1 : 1 ≤ cntL 35 l) (h2 : cntL 35 l ≤ 6) (h3 : apartL (l.drop (cntL 35 l)) = true) : headN l = cntL 35 l ∧ headL l = headTextL (l.drop (cntL 35 l)) := by
  have e : headN l = cntL 35 l := by unfold headN; rw [if_neg (fun h => by
    rcases h with h | h | h
    · omega
    · omega
    · rw [h3] at h; cases h)]
  exact ⟨e, by unfold headL; rw [if_neg (by omega)]⟩
set_option maxRecDepth 100000 in
set_option maxHeartbeats 800000 in
theorem heading_any (s : ByteArray) (w : World) (hs : s.size ≤ 100000) :
    Calls Tryz.prog 80 #[.string s] w fun e w' => e = .returned (.tuple #[.int .i64 (headN s.data.toList : Nat), .string ⟨(headL s.data.toList).toArray⟩]) ∧ Keeps w w' := by
  have CT := Lib.hid (fun W => count_any s 35 W (by unfold maxLen; omega))
  have HN := Lib.hid (@head_none2 s.data.toList)
  have HS := Lib.hid (@head_some2 s.data.toList)
  have hn := cnt_le 35 s.data.toList
  rw [bytes_len] at hn
  have AP := Lib.hid (fun W => apart_any (s.extract (cntL 35 s.data.toList) s.size) W)
  have HT := Lib.hid (fun W => headText_any (s.extract (cntL 35 s.data.toList) s.size) W (by rw [ByteArray.size_extract]; omega))
  rw [Lib.extract_to_end] at AP HT
  rw [show ((35 : UInt8).toNat : Int) = 35 from rfl] at CT
  generalize headTextL (s.data.toList.drop (cntL 35 s.data.toList)) = t at *
  generalize apartL (s.data.toList.drop (cntL 35 s.data.toList)) = p at *
  generalize cntL 35 s.data.toList = n at *
  generalize headN s.data.toList = y at *
  generalize headL s.data.toList = z at *
  by_cases h1 : n < 1
  · have HE := Lib.hid (HN.out (.inl h1))
    clear HN HS
    go_enter Tryz.func80, Tryz.ntmps80
    go_wp2_with fail
    refine (CT.out _).mono ?_
    rintro e w1 ⟨rfl, rfl⟩
    go_wp2_with fail
    go_ret2
    exact ⟨by rw [HE.out.1, HE.out.2]; rfl, Keeps.refl _⟩
  · by_cases h2 : 6 < n
    · have HE := Lib.hid (HN.out (.inr (.inl h2)))
      clear HN HS
      go_enter Tryz.func80, Tryz.ntmps80
      go_wp2_with fail
      refine (CT.out _).mono ?_
      rintro e w1 ⟨rfl, rfl⟩
      go_wp2_with fail
      go_ret2
      exact ⟨by rw [HE.out.1, HE.out.2]; rfl, Keeps.refl _⟩
    · cases p with
      | false =>
        have HE := Lib.hid (HN.out (.inr (.inr rfl)))
        clear HN HS
        go_enter Tryz.func80, Tryz.ntmps80
        go_wp2_with fail
        refine (CT.out _).mono ?_
        rintro e w1 ⟨rfl, rfl⟩
        go_wp2_with fail
        refine (AP.out _).mono ?_
        rintro e w2 ⟨rfl, rfl⟩
        go_wp2_with fail
        go_ret2
        exact ⟨by rw [HE.out.1, HE.out.2]; rfl, Keeps.refl _⟩
      | true =>
        have HE := Lib.hid (HS.out (by omega) (by omega) rfl)
        clear HN HS
        go_enter Tryz.func80, Tryz.ntmps80
        go_wp2_with fail
        refine (CT.out _).mono ?_
        rintro e w1 ⟨rfl, rfl⟩
        go_wp2_with fail
        refine (AP.out _).mono ?_
        rintro e w2 ⟨rfl, rfl⟩
        go_wp2_with fail
        refine (HT.out _).mono ?_
        rintro e w3 ⟨rfl, k3⟩
        go_wp2_with fail
        go_ret2
        exact ⟨by rw [HE.out.1, HE.out.2]; rfl, k3⟩

/-! Fences. -/
/-- Is it a fence's sign, with l behind? -/
def fcB (x : Int) (l : List UInt8) : Bool := if x = 96 then decide (indexByte l 96 < 0) else decide (x = 126)
set_option maxRecDepth 100000 in
theorem fences_go (x : Int) (s : ByteArray) (w : World) (h0 : 0 ≤ x) (h1 : x < 256) :
    Calls Tryz.prog 112 #[.int .u8 x, .string s] w fun e w' => e = .returned (.bool (fcB x s.data.toList)) ∧ w = w' := by
  unfold fcB
  have IX := Lib.hid (fun W => Tryz.strings_IndexByte s 96 W)
  rw [show ((96 : Int).toNat.toUInt8) = 96 from rfl] at IX
  generalize indexByte s.data.toList 96 = i at *
  by_cases c : x = 96
  · rw [if_pos c]
    subst c
    go_enter Tryz.func112, Tryz.ntmps112
    go_wp2_with fail
    refine (IX.out _).mono ?_
    rintro e w1 ⟨rfl, rfl⟩
    go_wp2_with fail
    go_ret
    exact ⟨rfl, rfl⟩
  · rw [if_neg c]
    have t1 : (x == 96) = false := beq_eq_false_iff_ne.2 c
    by_cases d : x = 126
    · rw [decide_eq_true d]
      subst d
      go_enter Tryz.func112, Tryz.ntmps112
      go_wp2_with fail
      go_ret
      exact ⟨rfl, rfl⟩
    · rw [decide_eq_false d]
      have t2 : (x == 126) = false := beq_eq_false_iff_ne.2 d
      clear c d
      go_enter Tryz.func112, Tryz.ntmps112
      go_wp2_with fail
      go_ret
      exact ⟨rfl, rfl⟩
/-- A fence: its sign, how many, its text; (0, 0, nothing): it is none. -/
def fenB (l : List UInt8) : Bool := decide (3 ≤ cntL (l.headD 0) l) && fcB (l.headD 0).toNat (l.drop (cntL (l.headD 0) l))
def fenC (l : List UInt8) : Nat := if fenB l then (l.headD 0).toNat else 0
def fenN (l : List UInt8) : Nat := if fenB l then cntL (l.headD 0) l else 0
def fenT (l : List UInt8) : List UInt8 := if fenB l then plainL (trimL (l.drop (cntL (l.headD 0) l))) else []
theorem fen_no {l : List UInt8} (h : fenB l = false) : fenC l = 0 ∧ fenN l = 0 ∧ fenT l = [] := by unfold fenC fenN fenT; rw [h]; exact ⟨rfl, rfl, rfl⟩
theorem fen_yes {l : List UInt8} (h : fenB l = true) : fenC l = (l.headD 0).toNat ∧ fenN l = cntL (l.headD 0) l ∧ fenT l = plainL (trimL (l.drop (cntL (l.headD 0) l))) := by unfold fenC fenN fenT; rw [h]; exact ⟨rfl, rfl, rfl⟩
theorem fen_out {a b n m : Nat} {t u : List UInt8} (h : a = b ∧ n = m ∧ t = u) : Ending.returned (.tuple #[.int .u8 (b : Nat), .int .i64 (m : Nat), .string ⟨u.toArray⟩]) = .returned (.tuple #[.int .u8 (a : Nat), .int .i64 (n : Nat), .string ⟨t.toArray⟩]) := by rw [h.1, h.2.1, h.2.2]
set_option maxRecDepth 100000 in
set_option maxHeartbeats 1600000 in
theorem fence_any (s : ByteArray) (w : World) (hs : s.size ≤ 100000) (hO : Lis w) :
    Calls Tryz.prog 81 #[.string s] w fun e w' => e = .returned (.tuple #[.int .u8 (fenC s.data.toList : Nat), .int .i64 (fenN s.data.toList : Nat), .string ⟨(fenT s.data.toList).toArray⟩]) ∧ Keeps w w' := by
  have hn := cnt_le (s.data.toList.headD 0) s.data.toList
  rw [bytes_len] at hn
  by_cases h3 : s.size < 3
  · have HE : Hid (fenC s.data.toList = 0 ∧ fenN s.data.toList = 0 ∧ fenT s.data.toList = []) := Lib.hid (fen_no (by unfold fenB; rw [decide_eq_false (by omega)]; rfl))
    clear hn hO
    go_enter Tryz.func81, Tryz.ntmps81
    go_wp2_with fail
    go_ret3
    exact ⟨fen_out HE.out, Keeps.refl _⟩
  · have h0 : 0 < s.size := by omega
    have hh := head_get s h0
    have CT := Lib.hid (fun W => count_any s s[0] W (by unfold maxLen; omega))
    have FC := Lib.hid (fun W => fences_go (s[0].toNat : Nat) (s.extract (cntL s[0] s.data.toList) s.size) W (by omega) (by have := s[0].toNat_lt; omega))
    rw [hh] at hn
    have TR := Lib.hid (fun W => trim_any (s.extract (cntL s[0] s.data.toList) s.size) W (by rw [ByteArray.size_extract]; omega))
    rw [Lib.extract_to_end] at FC TR
    have lt := trim_len (s.data.toList.drop (cntL s[0] s.data.toList))
    rw [List.length_drop, bytes_len] at lt
    have PL := Lib.hid (fun W h => plain_any ⟨(trimL (s.data.toList.drop (cntL s[0] s.data.toList))).toArray⟩ W (by rw [mk_size]; omega) h)
    rw [show (⟨(trimL (s.data.toList.drop (cntL s[0] s.data.toList))).toArray⟩ : ByteArray).data.toList = trimL (s.data.toList.drop (cntL s[0] s.data.toList)) by simp] at PL
    have HO := Lib.hid hO
    have HB : Hid (fenB s.data.toList = (decide (3 ≤ cntL s[0] s.data.toList) && fcB (s[0].toNat : Nat) (s.data.toList.drop (cntL s[0] s.data.toList)))) := Lib.hid (by unfold fenB; rw [hh])
    have HN := Lib.hid (@fen_no s.data.toList)
    have HY := Lib.hid (@fen_yes s.data.toList)
    rw [hh] at HY
    generalize fenC s.data.toList = y1 at *
    generalize fenN s.data.toList = y2 at *
    generalize fenT s.data.toList = y3 at *
    generalize fenB s.data.toList = y0 at *
    generalize plainL (trimL (s.data.toList.drop (cntL s[0] s.data.toList))) = pl at *
    generalize trimL (s.data.toList.drop (cntL s[0] s.data.toList)) = tr at *
    generalize fcB (s[0].toNat : Nat) (s.data.toList.drop (cntL s[0] s.data.toList)) = fc at *
    generalize cntL s[0] s.data.toList = n at *
    clear hO hh lt
    by_cases c : n < 3
    · have HE := Lib.hid (HN.out (by rw [HB.out, decide_eq_false (by omega)]; rfl))
      clear HN HY HB
      go_enter Tryz.func81, Tryz.ntmps81
      go_wp2_with fail
      refine (CT.out _).mono ?_
      rintro e w1 ⟨rfl, rfl⟩
      go_wp2_with fail
      go_ret3
      exact ⟨fen_out HE.out, Keeps.refl _⟩
    · cases fc with
      | false =>
        have HE := Lib.hid (HN.out (by rw [HB.out, Bool.and_false]))
        clear HN HY HB
        go_enter Tryz.func81, Tryz.ntmps81
        go_wp2_with fail
        refine (CT.out _).mono ?_
        rintro e w1 ⟨rfl, rfl⟩
        go_wp2_with fail
        refine (FC.out _).mono ?_
        rintro e w2 ⟨rfl, rfl⟩
        go_wp2_with fail
        go_ret3
        exact ⟨fen_out HE.out, Keeps.refl _⟩
      | true =>
        have HE := Lib.hid (HY.out (by rw [HB.out, decide_eq_true (by omega)]; rfl))
        clear HN HY HB
        go_enter Tryz.func81, Tryz.ntmps81
        go_wp2_with fail
        refine (CT.out _).mono ?_
        rintro e w1 ⟨rfl, rfl⟩
        go_wp2_with fail
        refine (FC.out _).mono ?_
        rintro e w2 ⟨rfl, rfl⟩
        go_wp2_with fail
        refine (TR.out _).mono ?_
        rintro e w3 ⟨rfl, k3⟩
        go_wp2_with fail
        refine (PL.out _ (Lis.keep HO.out k3)).mono ?_
        rintro e w4 ⟨rfl, k4⟩
        go_wp2_with fail
        go_ret3
        exact ⟨fen_out HE.out, k3.trans k4⟩
end Go.Proofs.YtfgpephpkibbaaaGreatDoor


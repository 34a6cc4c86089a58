/-
  Texts of the proof, one behind the other: Mkd, Lbd.
-/
import Derived.Test.YtdelaanaohjnkaaGreatDoorM11
import Derived.Test.YtdelaanaohjnkaaGreatDoorM22
import Derived.Test.YtdelaanaohjnkaaGreatDoorM19
import Derived.Test.YtdelaanaohjnkaaGreatDoorM24
import Derived.Test.YtdelaanaohjnkaaGreatDoorM9
/-
  Contracts of headingText, Heading, fences, Fence, of the package, for texts of at most 100,000 bytes.
-/
namespace Go.Proofs.YtdelaanaohjnkaaGreatDoor
open Go.RowKit Go.Lib

theorem lastB_mk (s : ByteArray) : lastB s.data.toList = if h : 0 < s.size then isB (s[s.size - 1]'(by omega)) else true := by
  unfold lastB
  split
  · next b e =>
    have hp : 0 < s.size := by
      rw [← bytes_len]
      cases hl : s.data.toList with
      | nil => rw [hl] at e; cases e
      | cons a t => simp
    rw [dif_pos hp]
    rw [List.getLast?_eq_getElem?, bytes_len, List.getElem?_eq_getElem (by rw [bytes_len]; omega)] at e
    have e2 : s[s.size - 1]'(by omega) = b := Option.some.inj e
    rw [e2]
  · next e =>
    rw [List.getLast?_eq_none_iff] at e
    have hz : s.size = 0 := by rw [← bytes_len, e]; rfl
    rw [dif_neg (by omega)]
theorem mk_size (l : List UInt8) : (⟨l.toArray⟩ : ByteArray).size = l.length := by show l.toArray.size = _; simp
set_option maxRecDepth 100000 in
set_option maxHeartbeats 800000 in
theorem headText_any (s : ByteArray) (w : World) (hs : s.size ≤ 100000) :
    Calls Tryz.prog 117 #[.string s] w fun e w' => e = .returned (.string ⟨(headTextL s.data.toList).toArray⟩) ∧ Keeps w w' := by
  have T1 := Lib.hid (fun W => trim_any s W hs)
  have l1 := trim_len s.data.toList
  rw [bytes_len] at l1
  have l2 := trimRight_len (trimL s.data.toList) 35
  have T2 := Lib.hid (fun W => Tryz.strings_TrimRight_one ⟨(trimL s.data.toList).toArray⟩ 35 (by decide) W (by rw [mk_size]; omega))
  have T3 := Lib.hid (fun W => trim_any ⟨(trimRightB (trimL s.data.toList) 35).toArray⟩ W (by rw [mk_size]; omega))
  have HH : Hid (headTextL s.data.toList = if lastB (trimRightB (trimL s.data.toList) 35) then trimL (trimRightB (trimL s.data.toList) 35) else trimL s.data.toList) := Lib.hid rfl
  have LB := Lib.hid (lastB_mk ⟨(trimRightB (trimL s.data.toList) 35).toArray⟩)
  have hz : (⟨(trimRightB (trimL s.data.toList) 35).toArray⟩ : ByteArray).size ≤ 100000 := by rw [mk_size]; omega
  rw [show (⟨(trimL s.data.toList).toArray⟩ : ByteArray).data.toList = trimL s.data.toList by simp] at T2
  rw [show (⟨(trimRightB (trimL s.data.toList) 35).toArray⟩ : ByteArray).data.toList = trimRightB (trimL s.data.toList) 35 by simp] at T3 LB
  generalize headTextL s.data.toList = y at *
  generalize trimL (trimRightB (trimL s.data.toList) 35) = z at *
  generalize lastB (trimRightB (trimL s.data.toList) 35) = lb at *
  generalize (⟨(trimRightB (trimL s.data.toList) 35).toArray⟩ : ByteArray) = o at *
  generalize trimL s.data.toList = t at *
  clear l1 l2
  by_cases h : 0 < o.size
  · have hi := tl_empty h
    have hn := tl_ne h
    have hlb : Hid (lb = isB (o[o.size - 1]'(by omega))) := Lib.hid (by rw [LB.out, dif_pos h])
    have IB := Lib.hid (fun W => mblank_any (o[o.size - 1]'(by omega)) W)
    rw [← hlb.out] at IB
    have q1 : ((o.size : Int) - 1).toNat = o.size - 1 := by omega
    have q2 : 0 ≤ (o.size : Int) - 1 := by omega
    have q3 : (o.size : Int) - 1 < o.size := by omega
    have q4 : o.size - 1 < o.size := by omega
    clear LB hlb
    cases lb with
    | true =>
      go_enter Tryz.func117, Tryz.ntmps117
      go_wp2_with fail
      refine (T1.out _).mono ?_
      rintro e w1 ⟨rfl, k1⟩
      go_wp2_with fail
      refine (T2.out _).mono ?_
      rintro e w2 ⟨rfl, rfl⟩
      go_wp2_with fail
      refine (IB.out _).mono ?_
      rintro e w3 ⟨rfl, rfl⟩
      go_wp2_with fail
      refine (T3.out _).mono ?_
      rintro e w4 ⟨rfl, k4⟩
      go_wp2_with fail
      go_ret
      exact ⟨ret_str (by rw [HH.out]; rfl), k1.trans k4⟩
    | false =>
      go_enter Tryz.func117, Tryz.ntmps117
      go_wp2_with fail
      refine (T1.out _).mono ?_
      rintro e w1 ⟨rfl, k1⟩
      go_wp2_with fail
      refine (T2.out _).mono ?_
      rintro e w2 ⟨rfl, rfl⟩
      go_wp2_with fail
      refine (IB.out _).mono ?_
      rintro e w3 ⟨rfl, rfl⟩
      go_wp2_with fail
      go_ret
      exact ⟨ret_str (by rw [HH.out]; rfl), k1⟩
  · have hlb : Hid (lb = true) := Lib.hid (by rw [LB.out, dif_neg h])
    have hz : o = ⟨#[]⟩ := bytes_eq (by rw [List.eq_nil_of_length_eq_zero (show o.data.toList.length = 0 by rw [bytes_len]; omega)])
    subst hz
    clear h LB
    go_enter Tryz.func117, Tryz.ntmps117
    go_wp2_with fail
    refine (T1.out _).mono ?_
    rintro e w1 ⟨rfl, k1⟩
    go_wp2_with fail
    refine (T2.out _).mono ?_
    rintro e w2 ⟨rfl, rfl⟩
    go_wp2_with fail
    refine (T3.out _).mono ?_
    rintro e w4 ⟨rfl, k4⟩
    go_wp2_with fail
    go_ret
    exact ⟨ret_str (by rw [HH.out, hlb.out]; rfl), k1.trans k4⟩
theorem head_none2 {l : List UInt8} (h : cntL 35 l < 1 ∨ 6 < cntL 35 l ∨ apartL (l.drop (cntL 35 l)) = false) : headN l = 0 ∧ headL l = [] := by
  have e : headN l = 0 := by unfold headN; rw [if_pos h]
  exact ⟨e, by unfold headL; rw [if_pos e]⟩
theorem head_some2 {l : List UInt8} (h1 : 1 ≤ cntL 35 l) (h2 : cntL 35 l ≤ 6) (h3 : apartL (l.drop (cntL 35 l)) = true) : headN l = cntL 35 l ∧ headL l = headTextL (l.drop (cntL 35 l)) := by
  have e : headN l = cntL 35 l := by unfold headN; rw [if_neg (fun h => by
    rcases h with h | h | h
    · omega
    · omega
    · rw [h3] at h; cases h)]
  exact ⟨e, by unfold headL; rw [if_neg (by omega)]⟩
set_option maxRecDepth 100000 in
set_option maxHeartbeats 800000 in
theorem heading_any (s : ByteArray) (w : World) (hs : s.size ≤ 100000) :
    Calls Tryz.prog 86 #[.string s] w fun e w' => e = .returned (.tuple #[.int .i64 (headN s.data.toList : Nat), .string ⟨(headL s.data.toList).toArray⟩]) ∧ Keeps w w' := by
  have CT := Lib.hid (fun W => count_any s 35 W (by unfold maxLen; omega))
  have HN := Lib.hid (@head_none2 s.data.toList)
  have HS := Lib.hid (@head_some2 s.data.toList)
  have hn := cnt_le 35 s.data.toList
  rw [bytes_len] at hn
  have AP := Lib.hid (fun W => apart_any (s.extract (cntL 35 s.data.toList) s.size) W)
  have HT := Lib.hid (fun W => headText_any (s.extract (cntL 35 s.data.toList) s.size) W (by rw [ByteArray.size_extract]; omega))
  rw [Lib.extract_to_end] at AP HT
  rw [show ((35 : UInt8).toNat : Int) = 35 from rfl] at CT
  generalize headTextL (s.data.toList.drop (cntL 35 s.data.toList)) = t at *
  generalize apartL (s.data.toList.drop (cntL 35 s.data.toList)) = p at *
  generalize cntL 35 s.data.toList = n at *
  generalize headN s.data.toList = y at *
  generalize headL s.data.toList = z at *
  by_cases h1 : n < 1
  · have HE := Lib.hid (HN.out (.inl h1))
    clear HN HS
    go_enter Tryz.func86, Tryz.ntmps86
    go_wp2_with fail
    refine (CT.out _).mono ?_
    rintro e w1 ⟨rfl, rfl⟩
    go_wp2_with fail
    go_ret2
    exact ⟨by rw [HE.out.1, HE.out.2]; rfl, Keeps.refl _⟩
  · by_cases h2 : 6 < n
    · have HE := Lib.hid (HN.out (.inr (.inl h2)))
      clear HN HS
      go_enter Tryz.func86, Tryz.ntmps86
      go_wp2_with fail
      refine (CT.out _).mono ?_
      rintro e w1 ⟨rfl, rfl⟩
      go_wp2_with fail
      go_ret2
      exact ⟨by rw [HE.out.1, HE.out.2]; rfl, Keeps.refl _⟩
    · cases p with
      | false =>
        have HE := Lib.hid (HN.out (.inr (.inr rfl)))
        clear HN HS
        go_enter Tryz.func86, Tryz.ntmps86
        go_wp2_with fail
        refine (CT.out _).mono ?_
        rintro e w1 ⟨rfl, rfl⟩
        go_wp2_with fail
        refine (AP.out _).mono ?_
        rintro e w2 ⟨rfl, rfl⟩
        go_wp2_with fail
        go_ret2
        exact ⟨by rw [HE.out.1, HE.out.2]; rfl, Keeps.refl _⟩
      | true =>
        have HE := Lib.hid (HS.out (by omega) (by omega) rfl)
        clear HN HS
        go_enter Tryz.func86, Tryz.ntmps86
        go_wp2_with fail
        refine (CT.out _).mono ?_
        rintro e w1 ⟨rfl, rfl⟩
        go_wp2_with fail
        refine (AP.out _).mono ?_
        rintro e w2 ⟨rfl, rfl⟩
        go_wp2_with fail
        refine (HT.out _).mono ?_
        rintro e w3 ⟨rfl, k3⟩
        go_wp2_with fail
        go_ret2
        exact ⟨by rw [HE.out.1, HE.out.2]; rfl, k3⟩

/-! Fences. -/
/-- Is it a fence's sign, with l behind? -/
def fcB (x : Int) (l : List UInt8) : Bool := if x = 96 then decide (indexByte l 96 < 0) else decide (x = 126)
set_option maxRecDepth 100000 in
theorem fences_go (x : Int) (s : ByteArray) (w : World) (h0 : 0 ≤ x) (h1 : x < 256) :
    Calls Tryz.prog 118 #[.int .u8 x, .string s] w fun e w' => e = .returned (.bool (fcB x s.data.toList)) ∧ w = w' := by
  unfold fcB
  have IX := Lib.hid (fun W => Tryz.strings_IndexByte s 96 W)
  rw [show ((96 : Int).toNat.toUInt8) = 96 from rfl] at IX
  generalize indexByte s.data.toList 96 = i at *
  by_cases c : x = 96
  · rw [if_pos c]
    subst c
    go_enter Tryz.func118, Tryz.ntmps118
    go_wp2_with fail
    refine (IX.out _).mono ?_
    rintro e w1 ⟨rfl, rfl⟩
    go_wp2_with fail
    go_ret
    exact ⟨rfl, rfl⟩
  · rw [if_neg c]
    have t1 : (x == 96) = false := beq_eq_false_iff_ne.2 c
    by_cases d : x = 126
    · rw [decide_eq_true d]
      subst d
      go_enter Tryz.func118, Tryz.ntmps118
      go_wp2_with fail
      go_ret
      exact ⟨rfl, rfl⟩
    · rw [decide_eq_false d]
      have t2 : (x == 126) = false := beq_eq_false_iff_ne.2 d
      clear c d
      go_enter Tryz.func118, Tryz.ntmps118
      go_wp2_with fail
      go_ret
      exact ⟨rfl, rfl⟩
/-- A fence: its sign, how many, its text; (0, 0, nothing): it is none. -/
def fenB (l : List UInt8) : Bool := decide (3 ≤ cntL (l.headD 0) l) && fcB (l.headD 0).toNat (l.drop (cntL (l.headD 0) l))
def fenC (l : List UInt8) : Nat := if fenB l then (l.headD 0).toNat else 0
def fenN (l : List UInt8) : Nat := if fenB l then cntL (l.headD 0) l else 0
def fenT (l : List UInt8) : List UInt8 := if fenB l then plainL (trimL (l.drop (cntL (l.headD 0) l))) else []
theorem fen_no {l : List UInt8} (h : fenB l = false) : fenC l = 0 ∧ fenN l = 0 ∧ fenT l = [] := by unfold fenC fenN fenT; rw [h]; exact ⟨rfl, rfl, rfl⟩
theorem fen_yes {l : List UInt8} (h : fenB l = true) : fenC l = (l.headD 0).toNat ∧ fenN l = cntL (l.headD 0) l ∧ fenT l = plainL (trimL (l.drop (cntL (l.headD 0) l))) := by unfold fenC fenN fenT; rw [h]; exact ⟨rfl, rfl, rfl⟩
theorem fen_out {a b n m : Nat} {t u : List UInt8} (h : a = b ∧ n = m ∧ t = u) : Ending.returned (.tuple #[.int .u8 (b : Nat), .int .i64 (m : Nat), .string ⟨u.toArray⟩]) = .returned (.tuple #[.int .u8 (a : Nat), .int .i64 (n : Nat), .string ⟨t.toArray⟩]) := by rw [h.1, h.2.1, h.2.2]
set_option maxRecDepth 100000 in
set_option maxHeartbeats 1600000 in
theorem fence_any (s : ByteArray) (w : World) (hs : s.size ≤ 100000) (hO : Lis w) :
    Calls Tryz.prog 87 #[.string s] w fun e w' => e = .returned (.tuple #[.int .u8 (fenC s.data.toList : Nat), .int .i64 (fenN s.data.toList : Nat), .string ⟨(fenT s.data.toList).toArray⟩]) ∧ Keeps w w' := by
  have hn := cnt_le (s.data.toList.headD 0) s.data.toList
  rw [bytes_len] at hn
  by_cases h3 : s.size < 3
  · have HE : Hid (fenC s.data.toList = 0 ∧ fenN s.data.toList = 0 ∧ fenT s.data.toList = []) := Lib.hid (fen_no (by unfold fenB; rw [decide_eq_false (by omega)]; rfl))
    clear hn hO
    go_enter Tryz.func87, Tryz.ntmps87
    go_wp2_with fail
    go_ret3
    exact ⟨fen_out HE.out, Keeps.refl _⟩
  · have h0 : 0 < s.size := by omega
    have hh := head_get s h0
    have CT := Lib.hid (fun W => count_any s s[0] W (by unfold maxLen; omega))
    have FC := Lib.hid (fun W => fences_go (s[0].toNat : Nat) (s.extract (cntL s[0] s.data.toList) s.size) W (by omega) (by have := s[0].toNat_lt; omega))
    rw [hh] at hn
    have TR := Lib.hid (fun W => trim_any (s.extract (cntL s[0] s.data.toList) s.size) W (by rw [ByteArray.size_extract]; omega))
    rw [Lib.extract_to_end] at FC TR
    have lt := trim_len (s.data.toList.drop (cntL s[0] s.data.toList))
    rw [List.length_drop, bytes_len] at lt
    have PL := Lib.hid (fun W h => plain_any ⟨(trimL (s.data.toList.drop (cntL s[0] s.data.toList))).toArray⟩ W (by rw [mk_size]; omega) h)
    rw [show (⟨(trimL (s.data.toList.drop (cntL s[0] s.data.toList))).toArray⟩ : ByteArray).data.toList = trimL (s.data.toList.drop (cntL s[0] s.data.toList)) by simp] at PL
    have HO := Lib.hid hO
    have HB : Hid (fenB s.data.toList = (decide (3 ≤ cntL s[0] s.data.toList) && fcB (s[0].toNat : Nat) (s.data.toList.drop (cntL s[0] s.data.toList)))) := Lib.hid (by unfold fenB; rw [hh])
    have HN := Lib.hid (@fen_no s.data.toList)
    have HY := Lib.hid (@fen_yes s.data.toList)
    rw [hh] at HY
    generalize fenC s.data.toList = y1 at *
    generalize fenN s.data.toList = y2 at *
    generalize fenT s.data.toList = y3 at *
    generalize fenB s.data.toList = y0 at *
    generalize plainL (trimL (s.data.toList.drop (cntL s[0] s.data.toList))) = pl at *
    generalize trimL (s.data.toList.drop (cntL s[0] s.data.toList)) = tr at *
    generalize fcB (s[0].toNat : Nat) (s.data.toList.drop (cntL s[0] s.data.toList)) = fc at *
    generalize cntL s[0] s.data.toList = n at *
    clear hO hh lt
    by_cases c : n < 3
    · have HE := Lib.hid (HN.out (by rw [HB.out, decide_eq_false (by omega)]; rfl))
      clear HN HY HB
      go_enter Tryz.func87, Tryz.ntmps87
      go_wp2_with fail
      refine (CT.out _).mono ?_
      rintro e w1 ⟨rfl, rfl⟩
      go_wp2_with fail
      go_ret3
      exact ⟨fen_out HE.out, Keeps.refl _⟩
    · cases fc with
      | false =>
        have HE := Lib.hid (HN.out (by rw [HB.out, Bool.and_false]))
        clear HN HY HB
        go_enter Tryz.func87, Tryz.ntmps87
        go_wp2_with fail
        refine (CT.out _).mono ?_
        rintro e w1 ⟨rfl, rfl⟩
        go_wp2_with fail
        refine (FC.out _).mono ?_
        rintro e w2 ⟨rfl, rfl⟩
        go_wp2_with fail
        go_ret3
        exact ⟨fen_out HE.out, Keeps.refl _⟩
      | true =>
        have HE := Lib.hid (HY.out (by rw [HB.out, decide_eq_true (by omega)]; rfl))
        clear HN HY HB
        go_enter Tryz.func87, Tryz.ntmps87
        go_wp2_with fail
        refine (CT.out _).mono ?_
        rintro e w1 ⟨rfl, rfl⟩
        go_wp2_with fail
        refine (FC.out _).mono ?_
        rintro e w2 ⟨rfl, rfl⟩
        go_wp2_with fail
        refine (TR.out _).mono ?_
        rintro e w3 ⟨rfl, k3⟩
        go_wp2_with fail
        refine (PL.out _ (Lis.keep HO.out k3)).mono ?_
        rintro e w4 ⟨rfl, k4⟩
        go_wp2_with fail
        go_ret3
        exact ⟨fen_out HE.out, k3.trans k4⟩
end Go.Proofs.YtdelaanaohjnkaaGreatDoor

/-
  Contract of Define, of the package label, for texts of at most 100,000 bytes.
-/
namespace Go.Proofs.YtdelaanaohjnkaaGreatDoor
open Go.RowKit Go.Lib

/-- A block of three cells of the call's own, written anew. -/
theorem ref_fin {w w' : World} {B : Nat} {t : TypeId} {a b c : Value} (hb : Blk w' B t #[a, b, c]) (k : Keeps w w') (hB : w.heap.size ≤ B) (v0 v1 v2 : Value) :
    Blk (((w'.setCell ⟨B, 0, none⟩ v0).setCell ⟨B, 1, none⟩ v1).setCell ⟨B, 2, none⟩ v2) B t #[v0, v1, v2] ∧ Keeps w (((w'.setCell ⟨B, 0, none⟩ v0).setCell ⟨B, 1, none⟩ v1).setCell ⟨B, 2, none⟩ v2) :=
  ⟨((hb.set 0 v0 rfl).set 1 v1 rfl).set 2 v2 rfl, ((k.set hB 0 v0).set hB 1 v1).set hB 2 v2⟩
/-- A definition, as a value. -/
def refV (r : Rf) : Value := .agg #[.string ⟨r.1.toArray⟩, .string ⟨r.2.1.toArray⟩, .string ⟨r.2.2.toArray⟩]
/-- What Define tells. -/
def DfnV (l : List UInt8) : Value := .tuple #[refV (dfL l, dfD l, dfT l), .int .i64 (dfN l : Nat)]
theorem dfn_no {l : List UInt8} (h : dfB l = false) : DfnV l = .tuple #[.agg #[.string ⟨#[]⟩, .string ⟨#[]⟩, .string ⟨#[]⟩], .int .i64 0] := by
  unfold DfnV dfL dfD dfT dfN
  rw [h]
  rfl
theorem dfn_yes {l : List UInt8} (h : dfB l = true) : DfnV l = .tuple #[.agg #[.string ⟨(nrmL (lblT l)).toArray⟩, .string ⟨(dstT (l.drop (dfA l))).toArray⟩, .string ⟨(edT (dfE l)).toArray⟩], .int .i64 (dfA l + dfM l + edN (dfE l) : Nat)] := by
  unfold DfnV dfL dfD dfT dfN
  rw [h]
  rfl
theorem ret_ref {a : Value} {n m : Int} (k : n = m) : Ending.returned (.tuple #[a, .int .i64 n]) = .returned (.tuple #[a, .int .i64 m]) := by rw [k]
set_option maxRecDepth 100000 in
set_option maxHeartbeats 2000000 in
theorem define_any (s : ByteArray) (w : World) (hs : s.size ≤ 100000) (hO : Lis w) :
    Calls Tryz.prog 132 #[.string s] w fun e w' => e = .returned (DfnV s.data.toList) ∧ Keeps w w' := by
  have NO := Lib.hid (@dfn_no s.data.toList)
  have YES := Lib.hid (@dfn_yes s.data.toList)
  have HB : Hid (dfB s.data.toList = (dfC s.data.toList && !decide (dfM s.data.toList = 0) && edB (dfE s.data.toList))) := Lib.hid rfl
  have HC : Hid (dfC s.data.toList = (!decide (lblN s.data.toList = 0) && hasPrefix (s.data.toList.drop (lblN s.data.toList)) [58])) := Lib.hid rfl
  have CL := Lib.hid (@dfC_lt s.data.toList)
  have hA : dfA s.data.toList = lblN s.data.toList + 1 + spcN true false (s.data.toList.drop (lblN s.data.toList + 1)) := rfl
  have hM : dfM s.data.toList = dstN (s.data.toList.drop (dfA s.data.toList)) := rfl
  have hE : dfE s.data.toList = s.data.toList.drop (dfA s.data.toList + dfM s.data.toList) := rfl
  have LB := Lib.hid (fun W => label_any s W hs)
  unfold LblV at LB
  obtain ⟨hz, hn⟩ := lbl_le s.data.toList
  rw [bytes_len] at hz hn
  obtain ⟨T, hT⟩ : ∃ T : ByteArray, (⟨(lblT s.data.toList).toArray⟩ : ByteArray) = T := ⟨_, rfl⟩
  have Tl : T.data.toList = lblT s.data.toList := by rw [← hT]
  have Tz : T.size ≤ 100000 := by rw [← bytes_len, Tl]; omega
  have NR := Lib.hid (fun W => normal_any T W Tz)
  rw [Tl] at NR
  rw [hT] at LB
  have HO := Lib.hid hO
  have B0 := Lib.hid (Blk.new w 45 #[.string ⟨#[]⟩, .string ⟨#[]⟩, .string ⟨#[]⟩])
  have K0 := Lib.hid ((Keeps.refl w).alloc (.cells #[.string ⟨#[]⟩, .string ⟨#[]⟩, .string ⟨#[]⟩] 45))
  generalize lblN s.data.toList = n at *
  have HP := Lib.hid (fun W => (Tryz.strings_HasPrefix (s.extract n s.size) ⟨#[58]⟩ W).mono (fun _ _ h => And.intro h.1 h.2.symm))
  rw [show (⟨#[58]⟩ : ByteArray).data.toList = [58] from rfl, Lib.extract_to_end] at HP
  clear hO hT Tl Tz hz
  by_cases n0 : n = 0
  · have HN := Lib.hid (NO.out (by rw [HB.out, HC.out, n0]; rfl))
    have t0 := beqT (show (n : Int) = 0 by omega)
    rw [HN.out]
    clear HN n0 hA hM hE HB HC NO YES CL NR HP HO
    go_enter Tryz.func132, Tryz.ntmps132
    go_wp2_with fail
    refine (LB.out _).mono ?_
    rintro e w1 ⟨rfl, k1⟩
    have B1 := Lib.hid (B0.out.keep k1)
    have K1 := Lib.hid (K0.out.trans k1)
    clear k1 B0 K0
    obtain ⟨B, hB⟩ : ∃ B, w.heap.size = B := ⟨_, rfl⟩
    rw [hB] at B1 ⊢
    have HL : Hid (w.heap.size ≤ B) := Lib.hid (by omega)
    clear hB
    have y0 := B1.out.cell 0 (v := .string ⟨#[]⟩) rfl
    have y1 := B1.out.cell 1 (v := .string ⟨#[]⟩) rfl
    have y2 := B1.out.cell 2 (v := .string ⟨#[]⟩) rfl
    have e0 := B1.out.free 0
    have e1 := B1.out.free 1
    have e2 := B1.out.free 2
    have FIN := Lib.hid (ref_fin B1.out K1.out HL.out)
    go_wp2_with fail
    exact ret_blk2 rfl rfl rfl rfl (FIN.out _ _ _).1 Tryz.underlying45 (by kernel_rfl) ⟨rfl, (FIN.out _ _ _).2⟩
  · have t0 := beqF (show ¬ (n : Int) = 0 by omega)
    cases hp : hasPrefix (s.data.toList.drop n) [58] with
    | false =>
      have HN := Lib.hid (NO.out (by rw [HB.out, HC.out, hp]; simp))
      rw [HN.out]
      rw [hp] at HP
      clear HN hp n0 hA hM hE HB HC NO YES CL NR HO
      go_enter Tryz.func132, Tryz.ntmps132
      go_wp2_with fail
      refine (LB.out _).mono ?_
      rintro e w1 ⟨rfl, k1⟩
      have B1 := Lib.hid (B0.out.keep k1)
      have K1 := Lib.hid (K0.out.trans k1)
      clear k1 B0 K0
      obtain ⟨B, hB⟩ : ∃ B, w.heap.size = B := ⟨_, rfl⟩
      rw [hB] at B1 ⊢
      have HL : Hid (w.heap.size ≤ B) := Lib.hid (by omega)
      clear hB
      go_wp2_with fail
      refine (HP.out _).mono ?_
      rintro e w9 ⟨rfl, rfl⟩
      have y0 := B1.out.cell 0 (v := .string ⟨#[]⟩) rfl
      have y1 := B1.out.cell 1 (v := .string ⟨#[]⟩) rfl
      have y2 := B1.out.cell 2 (v := .string ⟨#[]⟩) rfl
      have e0 := B1.out.free 0
      have e1 := B1.out.free 1
      have e2 := B1.out.free 2
      have FIN := Lib.hid (ref_fin B1.out K1.out HL.out)
      go_wp2_with fail
      exact ret_blk2 rfl rfl rfl rfl (FIN.out _ _ _).1 Tryz.underlying45 (by kernel_rfl) ⟨rfl, (FIN.out _ _ _).2⟩
    | true =>
      have hc : dfC s.data.toList = true := by rw [HC.out, hp, decide_eq_false n0]; rfl
      have hn2 := (CL.out hc).2
      rw [bytes_len] at hn2
      rw [hp] at HP
      have ha := spc_le true (s.data.toList.drop (n + 1)) false
      rw [List.length_drop, bytes_len] at ha
      have SP := Lib.hid (fun W => spaces_any (s.extract (n + 1) s.size) true W (by rw [ByteArray.size_extract]; omega))
      rw [Lib.extract_to_end] at SP
      generalize spcN true false (s.data.toList.drop (n + 1)) = a at *
      rw [hA] at hM hE YES
      have DS := Lib.hid (fun W h => dest_any (s.extract (n + 1 + a) s.size) W (by rw [ByteArray.size_extract]; omega) h)
      rw [Lib.extract_to_end] at DS
      have hm := dst_le (s.data.toList.drop (n + 1 + a))
      rw [List.length_drop, bytes_len] at hm
      generalize dstN (s.data.toList.drop (n + 1 + a)) = m at *
      generalize dstT (s.data.toList.drop (n + 1 + a)) = dt at *
      generalize dstB (s.data.toList.drop (n + 1 + a)) = db at *
      rw [hM] at hE HB YES
      have ED := Lib.hid (fun W h => ending_any (s.extract (n + 1 + a + m) s.size) W (by rw [ByteArray.size_extract]; omega) h)
      rw [Lib.extract_to_end] at ED
      unfold EdgV at ED
      have hd := ed_le (s.data.toList.drop (n + 1 + a + m))
      rw [List.length_drop, bytes_len] at hd
      rw [hE] at HB YES
      generalize edN (s.data.toList.drop (n + 1 + a + m)) = k at *
      generalize edT (s.data.toList.drop (n + 1 + a + m)) = et at *
      rw [hc] at HB
      clear hp hc hA hM hE HC CL
      by_cases m0 : m = 0
      · have HN := Lib.hid (NO.out (by rw [HB.out, m0]; rfl))
        have t1 := beqT (show (m : Int) = 0 by omega)
        rw [HN.out]
        clear HN n0 m0 HB NO YES NR ED
        go_enter Tryz.func132, Tryz.ntmps132
        go_wp2_with fail
        refine (LB.out _).mono ?_
        rintro e w1 ⟨rfl, k1⟩
        have B1 := Lib.hid (B0.out.keep k1)
        have K1 := Lib.hid (K0.out.trans k1)
        clear k1 B0 K0
        obtain ⟨B, hB⟩ : ∃ B, w.heap.size = B := ⟨_, rfl⟩
        rw [hB] at B1 ⊢
        have HL : Hid (w.heap.size ≤ B) := Lib.hid (by omega)
        clear hB
        go_wp2_with fail
        refine (HP.out _).mono ?_
        rintro e w9 ⟨rfl, rfl⟩
        go_wp2_with fail
        refine (SP.out _).mono ?_
        rintro e w9 ⟨rfl, rfl⟩
        go_wp2_with fail
        refine (DS.out _ (HO.out.keep K1.out)).mono ?_
        rintro e w2 ⟨rfl, k2⟩
        have B2 := Lib.hid (B1.out.keep k2)
        have K2 := Lib.hid (K1.out.trans k2)
        clear k2 B1 K1
        have y0 := B2.out.cell 0 (v := .string ⟨#[]⟩) rfl
        have y1 := B2.out.cell 1 (v := .string ⟨#[]⟩) rfl
        have y2 := B2.out.cell 2 (v := .string ⟨#[]⟩) rfl
        have e0 := B2.out.free 0
        have e1 := B2.out.free 1
        have e2 := B2.out.free 2
        have FIN := Lib.hid (ref_fin B2.out K2.out HL.out)
        go_wp2_with fail
        exact ret_blk2 rfl rfl rfl rfl (FIN.out _ _ _).1 Tryz.underlying45 (by kernel_rfl) ⟨rfl, (FIN.out _ _ _).2⟩
      · have t1 := beqF (show ¬ (m : Int) = 0 by omega)
        cases hb : edB (s.data.toList.drop (n + 1 + a + m)) with
        | false =>
          have HN := Lib.hid (NO.out (by rw [HB.out, hb]; simp))
          rw [HN.out]
          rw [hb] at ED
          clear HN hb n0 m0 HB NO YES NR
          go_enter Tryz.func132, Tryz.ntmps132
          go_wp2_with fail
          refine (LB.out _).mono ?_
          rintro e w1 ⟨rfl, k1⟩
          have B1 := Lib.hid (B0.out.keep k1)
          have K1 := Lib.hid (K0.out.trans k1)
          clear k1 B0 K0
          obtain ⟨B, hB⟩ : ∃ B, w.heap.size = B := ⟨_, rfl⟩
          rw [hB] at B1 ⊢
          have HL : Hid (w.heap.size ≤ B) := Lib.hid (by omega)
          clear hB
          go_wp2_with fail
          refine (HP.out _).mono ?_
          rintro e w9 ⟨rfl, rfl⟩
          go_wp2_with fail
          refine (SP.out _).mono ?_
          rintro e w9 ⟨rfl, rfl⟩
          go_wp2_with fail
          refine (DS.out _ (HO.out.keep K1.out)).mono ?_
          rintro e w2 ⟨rfl, k2⟩
          have B2 := Lib.hid (B1.out.keep k2)
          have K2 := Lib.hid (K1.out.trans k2)
          clear k2 B1 K1
          go_wp2_with fail
          refine (ED.out _ (HO.out.keep K2.out)).mono ?_
          rintro e w3 ⟨rfl, k3⟩
          have B3 := Lib.hid (B2.out.keep k3)
          have K3 := Lib.hid (K2.out.trans k3)
          clear k3 B2 K2
          have y0 := B3.out.cell 0 (v := .string ⟨#[]⟩) rfl
          have y1 := B3.out.cell 1 (v := .string ⟨#[]⟩) rfl
          have y2 := B3.out.cell 2 (v := .string ⟨#[]⟩) rfl
          have e0 := B3.out.free 0
          have e1 := B3.out.free 1
          have e2 := B3.out.free 2
          have FIN := Lib.hid (ref_fin B3.out K3.out HL.out)
          go_wp2_with fail
          exact ret_blk2 rfl rfl rfl rfl (FIN.out _ _ _).1 Tryz.underlying45 (by kernel_rfl) ⟨rfl, (FIN.out _ _ _).2⟩
        | true =>
          have HN := Lib.hid (YES.out (by rw [HB.out, hb, decide_eq_false m0]; rfl))
          rw [HN.out]
          rw [hb] at ED
          clear HN hb n0 m0 HB NO YES
          go_enter Tryz.func132, Tryz.ntmps132
          go_wp2_with fail
          refine (LB.out _).mono ?_
          rintro e w1 ⟨rfl, k1⟩
          have B1 := Lib.hid (B0.out.keep k1)
          have K1 := Lib.hid (K0.out.trans k1)
          clear k1 B0 K0
          obtain ⟨B, hB⟩ : ∃ B, w.heap.size = B := ⟨_, rfl⟩
          rw [hB] at B1 ⊢
          have HL : Hid (w.heap.size ≤ B) := Lib.hid (by omega)
          clear hB
          go_wp2_with fail
          refine (HP.out _).mono ?_
          rintro e w9 ⟨rfl, rfl⟩
          go_wp2_with fail
          refine (SP.out _).mono ?_
          rintro e w9 ⟨rfl, rfl⟩
          go_wp2_with fail
          refine (DS.out _ (HO.out.keep K1.out)).mono ?_
          rintro e w2 ⟨rfl, k2⟩
          have B2 := Lib.hid (B1.out.keep k2)
          have K2 := Lib.hid (K1.out.trans k2)
          clear k2 B1 K1
          go_wp2_with fail
          refine (ED.out _ (HO.out.keep K2.out)).mono ?_
          rintro e w3 ⟨rfl, k3⟩
          have B3 := Lib.hid (B2.out.keep k3)
          have K3 := Lib.hid (K2.out.trans k3)
          clear k3 B2 K2
          go_wp2_with fail
          refine (NR.out _).mono ?_
          rintro e w4 ⟨rfl, k4⟩
          have B4 := Lib.hid (B3.out.keep k4)
          have K4 := Lib.hid (K3.out.trans k4)
          clear k4 B3 K3
          have y0 := B4.out.cell 0 (v := .string ⟨#[]⟩) rfl
          have y1 := B4.out.cell 1 (v := .string ⟨#[]⟩) rfl
          have y2 := B4.out.cell 2 (v := .string ⟨#[]⟩) rfl
          have e0 := B4.out.free 0
          have e1 := B4.out.free 1
          have e2 := B4.out.free 2
          have FIN := Lib.hid (ref_fin B4.out K4.out HL.out)
          go_wp2_with fail
          exact ret_blk2 rfl rfl rfl rfl (FIN.out _ _ _).1 Tryz.underlying45 (by kernel_rfl) ⟨ret_ref (by omega), (FIN.out _ _ _).2⟩
end Go.Proofs.YtdelaanaohjnkaaGreatDoor


/-
  Contracts of strings.Cut at an LF, and of lineEnd, titled, ending, of the package label, for texts of at most 100,000 bytes.
-/
import Derived.Test.YtonajkcdkihchaaDoorLba
namespace Go.Proofs.YtonajkcdkihchaaDoor
open Go.RowKit Go.Lib

theorem lne_none : ∀ {l : List UInt8}, indexByte l 10 = -1 → lneL l = l
  | [], _ => rfl
  | b :: l, h => by
    unfold indexByte at h
    by_cases hb : b = 10
    · subst hb; simp at h
    · have hb1 : (b == 10) = false := by simpa using hb
      have hb2 : ¬ b.toNat = 10 := fun e => hb (UInt8.toNat_inj.1 e)
      rw [hb1] at h
      by_cases hl : indexByte l 10 = -1
      · have := lne_none hl
        unfold lneL at this ⊢
        rw [List.takeWhile_cons, if_pos (by simpa using hb2), this]
      · have := indexByte_ge l 10
        simp [hl] at h
        omega
theorem lne_some : ∀ {l : List UInt8}, 0 ≤ indexByte l 10 → lneL l = l.take (indexByte l 10).toNat ∧ (indexByte l 10).toNat < l.length
  | [], h => by simp [indexByte] at h
  | b :: l, h => by
    unfold indexByte at h ⊢
    by_cases hb : b = 10
    · subst hb
      simp [lneL]
    · have hb1 : (b == 10) = false := by simpa using hb
      have hb2 : ¬ b.toNat = 10 := fun e => hb (UInt8.toNat_inj.1 e)
      rw [hb1] at h ⊢
      by_cases hl : indexByte l 10 = -1
      · simp [hl] at h
      · have hg := indexByte_ge l 10
        obtain ⟨h1, h2⟩ := lne_some (l := l) (by omega)
        have e : (if false = true then (0 : Int) else if (indexByte l 10 == -1) = true then -1 else indexByte l 10 + 1) = indexByte l 10 + 1 := by simp [hl]
        rw [e, show (indexByte l 10 + 1).toNat = (indexByte l 10).toNat + 1 by omega]
        unfold lneL at h1 ⊢
        rw [List.takeWhile_cons, if_pos (by simpa using hb2), h1]
        exact ⟨by rw [List.take_succ_cons], by rw [List.length_cons]; omega⟩
/-- Cut at an LF: what is ahead of it, and whether there is one. -/
def CutLf (l : List UInt8) (w : World) (e : Ending) (w' : World) : Prop := ∃ b : ByteArray, e = .returned (.tuple #[.string ⟨(lneL l).toArray⟩, .string b, .bool (decide ((lneL l).length < l.length))]) ∧ Keeps w w'
set_option maxRecDepth 100000 in
set_option maxHeartbeats 800000 in
theorem litelf_any (s : ByteArray) (hs : s.size ≤ 1000000000) (w : World) :
    Calls Tryd.prog 48 #[.string s, .string ⟨#[10]⟩] w (CutLf s.data.toList w) := by
  have IX := Lib.hid (fun W => Tryd.stringslite_Index_one s 10 W)
  unfold CutLf
  by_cases hx : 0 ≤ indexByte s.data.toList 10
  · obtain ⟨h1, h2⟩ := lne_some hx
    rw [bytes_len] at h2
    have HD : Hid (decide ((lneL s.data.toList).length < s.data.toList.length) = true) := Lib.hid (by rw [h1, List.length_take, bytes_len, decide_eq_true_eq]; omega)
    have HH : Hid ((⟨(lneL s.data.toList).toArray⟩ : ByteArray) = s.extract 0 (indexByte s.data.toList 10).toNat) := Lib.hid (by rw [h1, ext_take])
    obtain ⟨i, hi⟩ : ∃ i : Nat, indexByte s.data.toList 10 = (i : Int) := ⟨_, (Int.toNat_of_nonneg hx).symm⟩
    rw [HD.out, HH.out]
    rw [hi] at IX h2 ⊢
    rw [Int.toNat_natCast] at h2 ⊢
    clear hi hx h1 HH HD
    have q1 : IntKind.i64.wrap ((i : Int) + 1) = (i : Int) + 1 := IntWalk.i64_in _ ⟨by omega, by omega⟩
    have q2 : (0 : Int) ≤ (i : Int) + 1 := by omega
    have q3 : (i : Int) + 1 ≤ (s.size : Int) := by omega
    have q4 : ((i : Int) + 1).toNat = i + 1 := by omega
    go_enter Tryd.func48, Tryd.ntmps48
    go_wp2_with fail
    refine (IX.out _).mono ?_
    rintro e w1 ⟨rfl, hw⟩
    subst hw
    go_wp2_with fail
    go_quiet (fail)
    go_wp2_with fail
    refine bodyPost_ret (results_tmp3 rfl _ _ _) rfl ?_
    exact ⟨_, rfl, (Keeps.refl _).drewN _⟩
  · have hx1 : indexByte s.data.toList 10 = -1 := by have := indexByte_ge s.data.toList 10; omega
    have HD : Hid (decide ((lneL s.data.toList).length < s.data.toList.length) = false) := Lib.hid (by rw [lne_none hx1, decide_eq_false_iff_not]; omega)
    have HH : Hid ((⟨(lneL s.data.toList).toArray⟩ : ByteArray) = s) := Lib.hid (by rw [lne_none hx1, bytes_mk])
    rw [HD.out, HH.out]
    rw [hx1] at IX
    clear hx hx1 HH HD
    go_enter Tryd.func48, Tryd.ntmps48
    go_wp2_with fail
    refine (IX.out _).mono ?_
    rintro e w1 ⟨rfl, hw⟩
    subst hw
    go_wp2_with fail
    go_ret3
    exact ⟨_, rfl, Keeps.refl _⟩
set_option maxRecDepth 100000 in
theorem cutlf_any (s : ByteArray) (hs : s.size ≤ 1000000000) (w : World) :
    Calls Tryd.prog 41 #[.string s, .string ⟨#[10]⟩] w (CutLf s.data.toList w) := by
  have CT := Lib.hid (fun W => litelf_any s hs W)
  unfold CutLf at *
  generalize (⟨(lneL s.data.toList).toArray⟩ : ByteArray) = z at *
  generalize decide ((lneL s.data.toList).length < s.data.toList.length) = t at *
  go_enter Tryd.func41, Tryd.ntmps41
  go_wp2_with fail
  refine (CT.out _).mono ?_
  rintro e w1 ⟨b, rfl, k1⟩
  go_wp2_with fail
  go_ret3
  exact ⟨_, rfl, k1⟩

/-- What lineEnd tells. -/
def LneV (l : List UInt8) : Value := .tuple #[.int .i64 (lneN l : Nat), .bool (blankL (lneL l))]
theorem lne_lf {l : List UInt8} (h : decide ((lneL l).length < l.length) = true) : lneN l = (lneL l).length + 1 := by unfold lneN; rw [if_pos (of_decide_eq_true h)]
theorem lne_end {l : List UInt8} (h : decide ((lneL l).length < l.length) = false) : lneN l = (lneL l).length := by unfold lneN; rw [if_neg (of_decide_eq_false h)]
theorem ret_ib {a b : Int} {c : Bool} (h : a = b) : Ending.returned (.tuple #[.int .i64 a, .bool c]) = .returned (.tuple #[.int .i64 b, .bool c]) := by rw [h]
set_option maxRecDepth 100000 in
set_option maxHeartbeats 400000 in
theorem lineEnd_any (s : ByteArray) (w : World) (hs : s.size ≤ 100000) :
    Calls Tryd.prog 31 #[.string s] w fun e w' => e = .returned (LneV s.data.toList) ∧ Keeps w w' := by
  have CT := Lib.hid (fun W => cutlf_any s (by omega) W)
  have hn := lne_len s.data.toList
  rw [bytes_len] at hn
  unfold LneV
  obtain ⟨t, ht⟩ : ∃ t : ByteArray, (⟨(lneL s.data.toList).toArray⟩ : ByteArray) = t := ⟨_, rfl⟩
  have tl : t.data.toList = lneL s.data.toList := by rw [← ht]
  have tz : t.size = (lneL s.data.toList).length := by rw [← bytes_len, tl]
  have BL := Lib.hid (fun W => blank_any t W)
  rw [tl] at BL
  rw [← tz] at hn
  unfold CutLf at CT
  rw [ht] at CT
  cases hd : decide ((lneL s.data.toList).length < s.data.toList.length) with
  | true =>
    have HN := Lib.hid (lne_lf hd)
    rw [hd] at CT
    rw [HN.out, ← tz]
    generalize blankL (lneL s.data.toList) = bb at *
    clear HN ht tl tz hd
    go_enter Tryd.func31, Tryd.ntmps31
    go_wp2_with fail
    refine (CT.out _).mono ?_
    rintro e w1 ⟨b, rfl, k1⟩
    have K1 := Lib.hid k1
    clear k1
    go_wp2_with fail
    refine (BL.out _).mono ?_
    rintro e w2 ⟨rfl, k2⟩
    go_wp2_with fail
    go_ret2
    exact ⟨ret_ib (by omega), K1.out.trans k2⟩
  | false =>
    have HN := Lib.hid (lne_end hd)
    rw [hd] at CT
    rw [HN.out, ← tz]
    generalize blankL (lneL s.data.toList) = bb at *
    clear HN ht tl tz hd
    go_enter Tryd.func31, Tryd.ntmps31
    go_wp2_with fail
    refine (CT.out _).mono ?_
    rintro e w1 ⟨b, rfl, k1⟩
    have K1 := Lib.hid k1
    clear k1
    go_wp2_with fail
    refine (BL.out _).mono ?_
    rintro e w2 ⟨rfl, k2⟩
    go_wp2_with fail
    go_ret2
    exact ⟨ret_ib (by omega), K1.out.trans k2⟩

/-- What titled tells. -/
def TtlV (l : List UInt8) : Value := .tuple #[.string ⟨(ttT l).toArray⟩, .int .i64 (ttN l : Nat), .bool (ttK l)]
theorem ttl_no {l : List UInt8} (h : ttB l = false) : TtlV l = .tuple #[.string ⟨#[]⟩, .int .i64 0, .bool false] := by
  unfold TtlV ttT ttN ttK
  rw [h]
  rfl
theorem ttl_yes {l : List UInt8} (h : ttB l = true) : TtlV l = .tuple #[.string ⟨(titT (l.drop (ttA l))).toArray⟩, .int .i64 (ttA l + ttM l + lneN (ttE l) : Nat), .bool (blankL (lneL (ttE l)))] := by
  unfold TtlV ttT ttN ttK
  rw [h]
  rfl
theorem ret_sib {a : ByteArray} {n m : Int} {c : Bool} (k : n = m) : Ending.returned (.tuple #[.string a, .int .i64 n, .bool c]) = .returned (.tuple #[.string a, .int .i64 m, .bool c]) := by rw [k]
set_option maxRecDepth 100000 in
set_option maxHeartbeats 800000 in
theorem titled_any (s : ByteArray) (w : World) (hs : s.size ≤ 100000) (hO : Lis w) :
    Calls Tryd.prog 30 #[.string s] w fun e w' => e = .returned (TtlV s.data.toList) ∧ Keeps w w' := by
  have NO := Lib.hid (@ttl_no s.data.toList)
  have YES := Lib.hid (@ttl_yes s.data.toList)
  have HB : Hid (ttB s.data.toList = (!decide (ttA s.data.toList = 0) && !decide (ttM s.data.toList = 0))) := Lib.hid rfl
  have hM : ttM s.data.toList = titN (s.data.toList.drop (ttA s.data.toList)) := rfl
  have hE : ttE s.data.toList = s.data.toList.drop (ttA s.data.toList + ttM s.data.toList) := rfl
  have hA : ttA s.data.toList = spcN true false s.data.toList := rfl
  have ha := spc_le true s.data.toList false
  rw [bytes_len] at ha
  have S1 := Lib.hid (fun W => spaces_any s true W hs)
  generalize spcN true false s.data.toList = a at *
  rw [hA] at hM hE HB YES
  have T1 := Lib.hid (title_any (s.extract a s.size) w (by rw [ByteArray.size_extract]; omega) hO)
  rw [Lib.extract_to_end] at T1
  have hm := (tit_le (s.data.toList.drop a)).1
  rw [List.length_drop, bytes_len] at hm
  generalize titN (s.data.toList.drop a) = m at *
  rw [hM] at hE HB YES
  have L1 := Lib.hid (fun W => lineEnd_any (s.extract (a + m) s.size) W (by rw [ByteArray.size_extract]; omega))
  rw [Lib.extract_to_end] at L1
  have hn := lne_le (s.data.toList.drop (a + m))
  rw [List.length_drop, bytes_len] at hn
  unfold LneV at L1
  rw [hE] at YES
  generalize lneN (s.data.toList.drop (a + m)) = n at *
  generalize blankL (lneL (s.data.toList.drop (a + m))) = bb at *
  generalize titT (s.data.toList.drop a) = tt at *
  clear hO hM hE hA
  by_cases a0 : a = 0
  · have HN := Lib.hid (NO.out (HB.out.trans (by simp [a0])))
    have t0 : ((a : Int) == 0) = true := beqT (by omega)
    rw [HN.out]
    clear HB HN NO YES a0
    go_enter Tryd.func30, Tryd.ntmps30
    go_wp2_with fail
    refine (S1.out _).mono ?_
    rintro e w1 ⟨rfl, rfl⟩
    go_wp2_with fail
    refine T1.out.mono ?_
    rintro e w1 ⟨rfl, k1⟩
    go_wp2_with fail
    go_ret3
    exact ⟨rfl, k1⟩
  · have t0 : ((a : Int) == 0) = false := beqF (by omega)
    by_cases m0 : m = 0
    · have HN := Lib.hid (NO.out (HB.out.trans (by simp [m0])))
      have t1 : ((m : Int) == 0) = true := beqT (by omega)
      rw [HN.out]
      clear HB HN NO YES a0 m0
      go_enter Tryd.func30, Tryd.ntmps30
      go_wp2_with fail
      refine (S1.out _).mono ?_
      rintro e w1 ⟨rfl, rfl⟩
      go_wp2_with fail
      refine T1.out.mono ?_
      rintro e w1 ⟨rfl, k1⟩
      go_wp2_with fail
      go_ret3
      exact ⟨rfl, k1⟩
    · have t1 : ((m : Int) == 0) = false := beqF (by omega)
      have HN := Lib.hid (YES.out (HB.out.trans (by simp [a0, m0])))
      rw [HN.out]
      clear HB HN NO YES a0 m0
      go_enter Tryd.func30, Tryd.ntmps30
      go_wp2_with fail
      refine (S1.out _).mono ?_
      rintro e w1 ⟨rfl, rfl⟩
      go_wp2_with fail
      refine T1.out.mono ?_
      rintro e w1 ⟨rfl, k1⟩
      have K1 := Lib.hid k1
      clear k1
      go_wp2_with fail
      refine (L1.out _).mono ?_
      rintro e w2 ⟨rfl, k2⟩
      go_wp2_with fail
      go_ret3
      exact ⟨ret_sib (by omega), K1.out.trans k2⟩

/-- What ending tells. -/
def EdgV (l : List UInt8) : Value := .tuple #[.string ⟨(edT l).toArray⟩, .int .i64 (edN l : Nat), .bool (edB l)]
theorem edg_yes {l : List UInt8} (h : ttK l = true) : EdgV l = .tuple #[.string ⟨(ttT l).toArray⟩, .int .i64 (ttN l : Nat), .bool true] := by
  unfold EdgV edT edN edB
  rw [h]
  rfl
theorem edg_no {l : List UInt8} (h : ttK l = false) : EdgV l = .tuple #[.string ⟨#[]⟩, .int .i64 (lneN l : Nat), .bool (blankL (lneL l))] := by
  unfold EdgV edT edN edB
  rw [h]
  rfl
set_option maxRecDepth 100000 in
set_option maxHeartbeats 400000 in
theorem ending_any (s : ByteArray) (w : World) (hs : s.size ≤ 100000) (hO : Lis w) :
    Calls Tryd.prog 20 #[.string s] w fun e w' => e = .returned (EdgV s.data.toList) ∧ Keeps w w' := by
  have T1 := Lib.hid (titled_any s w hs hO)
  have L1 := Lib.hid (fun W => lineEnd_any s W hs)
  unfold LneV at L1
  unfold TtlV at T1
  clear hO
  cases h : ttK s.data.toList with
  | true =>
    rw [edg_yes h]
    rw [h] at T1
    clear h L1
    generalize ttN s.data.toList = n at *
    generalize ttT s.data.toList = tt at *
    go_enter Tryd.func20, Tryd.ntmps20
    go_wp2_with fail
    refine T1.out.mono ?_
    rintro e w1 ⟨rfl, k1⟩
    go_wp2_with fail
    go_ret3
    exact ⟨rfl, k1⟩
  | false =>
    rw [edg_no h]
    rw [h] at T1
    clear h
    generalize ttN s.data.toList = n at *
    generalize ttT s.data.toList = tt at *
    generalize lneN s.data.toList = m at *
    generalize blankL (lneL s.data.toList) = bb at *
    go_enter Tryd.func20, Tryd.ntmps20
    go_wp2_with fail
    refine T1.out.mono ?_
    rintro e w1 ⟨rfl, k1⟩
    have K1 := Lib.hid k1
    clear k1
    go_wp2_with fail
    refine (L1.out _).mono ?_
    rintro e w2 ⟨rfl, k2⟩
    go_wp2_with fail
    go_ret3
    exact ⟨rfl, K1.out.trans k2⟩
end Go.Proofs.YtonajkcdkihchaaDoor

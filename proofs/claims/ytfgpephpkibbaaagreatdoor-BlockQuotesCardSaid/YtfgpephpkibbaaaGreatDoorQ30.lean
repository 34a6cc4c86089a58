/-
  Texts of the proof, one behind the other: Lba, Lbb, Lbc.
-/
import Derived.Test.YtfgpephpkibbaaaGreatDoorQ4
import Derived.Test.YtfgpephpkibbaaaGreatDoorQ26
import Derived.Test.YtfgpephpkibbaaaGreatDoorQ27
import Derived.Test.YtfgpephpkibbaaaGreatDoorQ8
/-
  Contracts of enclosed and Label, of the package label, for texts of at most 100,000 bytes.
-/
namespace Go.Proofs.YtfgpephpkibbaaaGreatDoor
open Go.RowKit Go.Lib

/-- Where the loop through a label stands. -/
def LabAt (l : List UInt8) (pos : Nat) (h : Bool) : Prop := labS 0 false l = labS pos h (l.drop pos)
theorem labAt_far {l : List UInt8} {pos : Nat} {h : Bool} (t : LabAt l pos h) (hp : 999 < pos) : labS 0 false l = 0 := by rw [t, labS_far _ _ _ hp]
theorem labAt_end {l : List UInt8} {pos : Nat} {h : Bool} (t : LabAt l pos h) (hp : l.length ≤ pos) : labS 0 false l = 0 := by rw [t, List.drop_eq_nil_of_le hp]; rfl
theorem step_byte {l : List UInt8} {pos n : Nat} {r : Int} (h : Step l pos r n) (hr : r < 128) : n = 1 ∧ ∃ b : UInt8, (b.toNat : Int) = r ∧ l.drop pos = b :: l.drop (pos + 1) := by
  rcases h.kind with ⟨rfl, _, b, e, hb⟩ | ⟨h1, _⟩
  · refine ⟨rfl, b, hb, ?_⟩
    have := h.rest
    rw [e] at this
    exact this
  · omega
/-- A hidden sign. -/
theorem labAt_hid {l : List UInt8} {pos n : Nat} {r : Int} (t : LabAt l pos true) (h : Step l pos r n) (hp : ¬ 999 < pos) : LabAt l (pos + n) false := by
  unfold LabAt at *
  rw [t]
  rcases h.kind with ⟨rfl, _, b, e, _⟩ | ⟨_, hb⟩
  · rw [h.rest, e, List.singleton_append, labS_hid b _ hp]
  · have hlen : ((l.drop pos).take n).length = n := by rw [List.length_take, List.length_drop]; have := h.room; omega
    have hne : (l.drop pos).take n ≠ [] := fun e => by rw [e] at hlen; have := h.one; simp at hlen; omega
    rw [h.rest, labS_big _ _ _ _ hne hp hb, hlen]
theorem labAt_back {l : List UInt8} {pos n : Nat} {r : Int} (t : LabAt l pos false) (h : Step l pos r n) (hp : ¬ 999 < pos) (hr : r = 92) : LabAt l (pos + n) true := by
  obtain ⟨rfl, b, hb, e⟩ := step_byte h (by omega)
  unfold LabAt at *
  rw [t, e, labS_back b _ hp (by omega)]
theorem labAt_open {l : List UInt8} {pos n : Nat} {r : Int} (t : LabAt l pos false) (h : Step l pos r n) (hp : ¬ 999 < pos) (hr : r = 91) : labS 0 false l = 0 := by
  obtain ⟨rfl, b, hb, e⟩ := step_byte h (by omega)
  unfold LabAt at *
  rw [t, e, labS_open b _ hp (by omega)]
theorem labAt_shut {l : List UInt8} {pos n : Nat} {r : Int} (t : LabAt l pos false) (h : Step l pos r n) (hp : ¬ 999 < pos) (hr : r = 93) : labS 0 false l = pos + 1 := by
  obtain ⟨rfl, b, hb, e⟩ := step_byte h (by omega)
  unfold LabAt at *
  rw [t, e, labS_shut b _ hp (by omega)]
theorem labAt_go {l : List UInt8} {pos n : Nat} {r : Int} (t : LabAt l pos false) (h : Step l pos r n) (hp : ¬ 999 < pos) (h1 : r ≠ 92) (h2 : r ≠ 91) (h3 : r ≠ 93) : LabAt l (pos + n) false := by
  unfold LabAt at *
  rw [t]
  rcases h.kind with ⟨rfl, _, b, e, hb⟩ | ⟨_, hb⟩
  · rw [h.rest, e, List.singleton_append, labS_go b _ hp (by omega) (by omega) (by omega)]
  · have hlen : ((l.drop pos).take n).length = n := by rw [List.length_take, List.length_drop]; have := h.room; omega
    have hne : (l.drop pos).take n ≠ [] := fun e => by rw [e] at hlen; have := h.one; simp at hlen; omega
    rw [h.rest, labS_big _ _ _ _ hne hp hb, hlen]
theorem lblI_yes {l : List UInt8} (h : hasPrefix l [91] = true) : lblI l = (l.drop 1).take (labS 0 false (l.drop 1) - 1) := by unfold lblI; rw [if_pos h]
theorem lblI_no {l : List UInt8} (h : hasPrefix l [91] = false) : lblI l = [] := by unfold lblI; rw [if_neg (by rw [h]; decide)]
theorem lblI_none {l : List UInt8} (h : hasPrefix l [91] = true) (h0 : labS 0 false (l.drop 1) = 0) : lblI l = [] := by rw [lblI_yes h, h0]; rfl

set_option maxRecDepth 100000 in
set_option maxHeartbeats 1000000 in
theorem lenclosed_any (s : ByteArray) (w : World) (hs : s.size ≤ 100000) :
    Calls Tryz.prog 174 #[.string s] w fun e w' => e = .returned (.string ⟨(lblI s.data.toList).toArray⟩) ∧ Keeps w w' := by
  have CP := Lib.hid (fun W => (Tryz.strings_CutPrefix s ⟨#[91]⟩ W).mono (fun _ _ h => And.intro h.1 h.2.symm))
  rw [show (⟨#[91]⟩ : ByteArray).data.toList = [91] from rfl] at CP
  unfold trimPrefix at CP
  cases hp : hasPrefix s.data.toList [91] with
  | false =>
    rw [hp] at CP
    rw [lblI_no hp]
    clear hp
    generalize (⟨(if false = true then s.data.toList.drop ([91] : List UInt8).length else s.data.toList).toArray⟩ : ByteArray) = t at CP
    go_enter Tryz.func174, Tryz.ntmps174
    go_wp2_with fail
    refine (CP.out _).mono ?_
    rintro e w1 ⟨rfl, rfl⟩
    go_wp2_with fail
    go_ret
    exact ⟨rfl, Keeps.refl _⟩
  | true =>
    rw [hp, if_pos rfl] at CP
    obtain ⟨t, ht⟩ : ∃ t : ByteArray, (⟨(s.data.toList.drop ([91] : List UInt8).length).toArray⟩ : ByteArray) = t := ⟨_, rfl⟩
    have tl : t.data.toList = s.data.toList.drop 1 := by rw [← ht]; rfl
    have YES := Lib.hid (lblI_yes hp)
    rw [ht] at CP
    rw [← tl] at YES
    have tz : t.size ≤ 100000 := by rw [← bytes_len, tl, List.length_drop, bytes_len]; omega
    have hl := Lib.hid (bytes_len t)
    rw [YES.out]
    clear ht tl hp YES
    go_enter Tryz.func174, Tryz.ntmps174
    go_wp2_with fail
    refine (CP.out _).mono ?_
    rintro e w1 ⟨rfl, rfl⟩
    go_wp2_with fail
    go_loopw [5] (fun x wr => ∃ (pos : Nat) (h : Bool), pos ≤ t.size ∧ x = .bool h ∧ Hid (LabAt t.data.toList pos h) ∧ Hid (wr.heap[w.heap.size]? = some (.stringIter t pos)) ∧ Hid (Keeps w wr)) (fun _ wr => t.size - wr.iterPos w.heap.size)
    case atStart => exact ⟨0, false, Nat.zero_le _, rfl, Lib.hid rfl, Lib.hid (World.iter_heap w t 0), Lib.hid ((Keeps.refl w).iter t 0)⟩
    case round =>
      obtain ⟨pos, h, hp, rfl, HT, HI, HK⟩ := hrel
      by_cases c : pos < t.size
      · obtain ⟨r, n, hst, hnx⟩ := next_at (P := Tryz.prog) HI.out c
        have h0 := hst.low
        have h1 := hst.high
        have hroom : pos + n ≤ t.size := by have := hst.room; have := hl.out; omega
        have HI2 := Lib.hid (iterAt_heap wr w.heap.size t pos (pos + n) HI.out)
        have HK2 := Lib.hid (HK.out.iterAt (Nat.le_refl _) t (pos + n))
        have HS := Lib.hid hst
        have hn1 := hst.one
        have P1 := Lib.hid (pos_at HI.out)
        clear hst
        by_cases c9 : 999 < pos
        · have HN := Lib.hid (labAt_far HT.out c9)
          go_wp2_with fail
          go_ret
          exact ⟨ret_str (by rw [HN.out]; rfl), HK2.out⟩
        · cases h with
          | true =>
            have HT2 := Lib.hid (labAt_hid HT.out HS.out c9)
            go_wp2_with fail
            go_roundw
            case rel => exact ⟨pos + n, false, hroom, rfl, HT2, HI2, HK2⟩
            case measure => rw [P1.out, pos_at HI2.out]; omega
          | false =>
            by_cases r1 : r = 92
            · have HT2 := Lib.hid (labAt_back HT.out HS.out c9 r1)
              subst r1
              go_wp2_with fail
              go_roundw
              case rel => exact ⟨pos + n, true, hroom, rfl, HT2, HI2, HK2⟩
              case measure => rw [P1.out, pos_at HI2.out]; omega
            · have t1 := beqF r1
              by_cases r2 : r = 91
              · have HN := Lib.hid (labAt_open HT.out HS.out c9 r2)
                subst r2
                go_wp2_with fail
                go_ret
                exact ⟨ret_str (by rw [HN.out]; rfl), HK2.out⟩
              · have t2 := beqF r2
                by_cases r3 : r = 93
                · have HN := Lib.hid (labAt_shut HT.out HS.out c9 r3)
                  subst r3
                  go_wp2_with fail
                  go_ret
                  exact ⟨ret_bytes (by rw [HN.out, Nat.add_sub_cancel, ext_take]), HK2.out⟩
                · have t3 := beqF r3
                  have HT2 := Lib.hid (labAt_go HT.out HS.out c9 r1 r2 r3)
                  clear r1 r2 r3
                  go_wp2_with fail
                  go_roundw
                  case rel => exact ⟨pos + n, false, hroom, rfl, HT2, HI2, HK2⟩
                  case measure => rw [P1.out, pos_at HI2.out]; omega
      · have hit := HI.out
        have hnx : ∀ ty, (Instr.next (.pointer (some ⟨w.heap.size, 0, none⟩)) true ty).run Tryz.prog wr = _ := fun ty => run_next_end_at wr w.heap.size t pos ty hit c
        have HN := Lib.hid (labAt_end HT.out (by have := hl.out; omega))
        clear hit
        go_wp2_with fail
        go_ret
        exact ⟨ret_str (by rw [HN.out]; rfl), HK.out⟩

/-- What Label tells. -/
def LblV (l : List UInt8) : Value := .tuple #[.string ⟨(lblT l).toArray⟩, .int .i64 (lblN l : Nat)]
theorem lbl_no {l : List UInt8} (h : trimL (lblI l) = []) : LblV l = .tuple #[.string ⟨#[]⟩, .int .i64 0] := by
  unfold LblV lblT lblN
  rw [if_pos h, if_pos h]
  rfl
theorem lbl_yes {l : List UInt8} (h : ¬ trimL (lblI l) = []) : LblV l = .tuple #[.string ⟨(lblI l).toArray⟩, .int .i64 ((lblI l).length + 2 : Nat)] := by
  unfold LblV lblT lblN
  rw [if_neg h, if_neg h]
theorem tit_out3 {a b : ByteArray} {n m : Int} (h : a = b) (k : n = m) : Ending.returned (.tuple #[.string a, .int .i64 n]) = .returned (.tuple #[.string b, .int .i64 m]) := by rw [h, k]
set_option maxRecDepth 100000 in
set_option maxHeartbeats 400000 in
theorem label_any (s : ByteArray) (w : World) (hs : s.size ≤ 100000) :
    Calls Tryz.prog 151 #[.string s] w fun e w' => e = .returned (LblV s.data.toList) ∧ Keeps w w' := by
  have EN := Lib.hid (fun W => lenclosed_any s W hs)
  have hi := lblI_le s.data.toList
  rw [bytes_len] at hi
  obtain ⟨t, ht⟩ : ∃ t : ByteArray, (⟨(lblI s.data.toList).toArray⟩ : ByteArray) = t := ⟨_, rfl⟩
  have tl : t.data.toList = lblI s.data.toList := by rw [← ht]
  have tz : t.size = (lblI s.data.toList).length := by rw [← bytes_len, tl]
  have tb : t.size ≤ 100000 := by
    rcases hi with e | e
    · rw [tz, e]; simp
    · omega
  have TR := Lib.hid (fun W => trim_any t W tb)
  have CL := Lib.hid (fun W => clone_any t W tb)
  rw [ht] at EN
  rw [tl] at TR
  by_cases h : trimL (lblI s.data.toList) = []
  · rw [lbl_no h]
    rw [h] at TR
    clear h hi ht tl tz
    go_enter Tryz.func151, Tryz.ntmps151
    go_wp2_with fail
    refine (EN.out _).mono ?_
    rintro e w1 ⟨rfl, k1⟩
    have K1 := Lib.hid k1
    clear k1
    go_wp2_with fail
    refine (TR.out _).mono ?_
    rintro e w2 ⟨rfl, k2⟩
    have K2 := Lib.hid (K1.out.trans k2)
    clear k2
    go_wp2_with fail
    go_ret2
    exact ⟨rfl, K2.out⟩
  · rw [lbl_yes h, ht, ← tz]
    obtain ⟨u, hu⟩ : ∃ u : ByteArray, (⟨(trimL (lblI s.data.toList)).toArray⟩ : ByteArray) = u := ⟨_, rfl⟩
    have uz : 0 < u.size := by
      rw [← bytes_len, ← hu]
      exact List.length_pos_iff.2 h
    rw [hu] at TR
    have u0 := tl_ne uz
    have u1 := tl_empty uz
    clear h hi ht tl tz hu uz
    go_enter Tryz.func151, Tryz.ntmps151
    go_wp2_with fail
    refine (EN.out _).mono ?_
    rintro e w1 ⟨rfl, k1⟩
    have K1 := Lib.hid k1
    clear k1
    go_wp2_with fail
    refine (TR.out _).mono ?_
    rintro e w2 ⟨rfl, k2⟩
    have K2 := Lib.hid (K1.out.trans k2)
    clear k2
    go_wp2_with fail
    refine (CL.out _).mono ?_
    rintro e w3 ⟨rfl, k3⟩
    have K3 := Lib.hid (K2.out.trans k3)
    clear k3
    go_wp2_with fail
    go_ret2
    exact ⟨tit_out3 rfl (by omega), K3.out⟩
end Go.Proofs.YtfgpephpkibbaaaGreatDoor

/-
  Contracts of strings.Cut at an LF, and of lineEnd, titled, ending, of the package label, for texts of at most 100,000 bytes.
-/
namespace Go.Proofs.YtfgpephpkibbaaaGreatDoor
open Go.RowKit Go.Lib

theorem lne_none : ∀ {l : List UInt8}, indexByte l 10 = -1 → lneL l = l
  | [], _ => rfl
  | b :: l, h => by
    unfold indexByte at h
    by_cases hb : b = 10
    · subst hb; simp at h
    · have hb1 : (b == 10) = false := by simpa using hb
      have hb2 : ¬ b.toNat = 10 := fun e => hb (UInt8.toNat_inj.1 e)
      rw [hb1] at h
      by_cases hl : indexByte l 10 = -1
      · have := lne_none hl
        unfold lneL at this ⊢
        rw [List.takeWhile_cons, if_pos (by simpa using hb2), this]
      · have := indexByte_ge l 10
        simp [hl] at h
        omega
theorem lne_some : ∀ {l : List UInt8}, 0 ≤ indexByte l 10 → lneL l = l.take (indexByte l 10).toNat ∧ (indexByte l 10).toNat < l.length
  | [], h => by simp [indexByte] at h
  | b :: l, h => by
    unfold indexByte at h ⊢
    by_cases hb : b = 10
    · subst hb
      simp [lneL]
    · have hb1 : (b == 10) = false := by simpa using hb
      have hb2 : ¬ b.toNat = 10 := fun e => hb (UInt8.toNat_inj.1 e)
      rw [hb1] at h ⊢
      by_cases hl : indexByte l 10 = -1
      · simp [hl] at h
      · have hg := indexByte_ge l 10
        obtain ⟨h1, h2⟩ := lne_some (l := l) (by omega)
        have e : (if false = true then (0 : Int) else if (indexByte l 10 == -1) = true then -1 else indexByte l 10 + 1) = indexByte l 10 + 1 := by simp [hl]
        rw [e, show (indexByte l 10 + 1).toNat = (indexByte l 10).toNat + 1 by omega]
        unfold lneL at h1 ⊢
        rw [List.takeWhile_cons, if_pos (by simpa using hb2), h1]
        exact ⟨by rw [List.take_succ_cons], by rw [List.length_cons]; omega⟩
/-- Cut at an LF: what is ahead of it, and whether there is one. -/
def CutLf (l : List UInt8) (w : World) (e : Ending) (w' : World) : Prop := ∃ b : ByteArray, e = .returned (.tuple #[.string ⟨(lneL l).toArray⟩, .string b, .bool (decide ((lneL l).length < l.length))]) ∧ Keeps w w'
set_option maxRecDepth 100000 in
set_option maxHeartbeats 800000 in
theorem litelf_any (s : ByteArray) (hs : s.size ≤ 1000000000) (w : World) :
    Calls Tryz.prog 147 #[.string s, .string ⟨#[10]⟩] w (CutLf s.data.toList w) := by
  have IX := Lib.hid (fun W => Tryz.stringslite_Index_one s 10 W)
  unfold CutLf
  by_cases hx : 0 ≤ indexByte s.data.toList 10
  · obtain ⟨h1, h2⟩ := lne_some hx
    rw [bytes_len] at h2
    have HD : Hid (decide ((lneL s.data.toList).length < s.data.toList.length) = true) := Lib.hid (by rw [h1, List.length_take, bytes_len, decide_eq_true_eq]; omega)
    have HH : Hid ((⟨(lneL s.data.toList).toArray⟩ : ByteArray) = s.extract 0 (indexByte s.data.toList 10).toNat) := Lib.hid (by rw [h1, ext_take])
    obtain ⟨i, hi⟩ : ∃ i : Nat, indexByte s.data.toList 10 = (i : Int) := ⟨_, (Int.toNat_of_nonneg hx).symm⟩
    rw [HD.out, HH.out]
    rw [hi] at IX h2 ⊢
    rw [Int.toNat_natCast] at h2 ⊢
    clear hi hx h1 HH HD
    have q1 : IntKind.i64.wrap ((i : Int) + 1) = (i : Int) + 1 := IntWalk.i64_in _ ⟨by omega, by omega⟩
    have q2 : (0 : Int) ≤ (i : Int) + 1 := by omega
    have q3 : (i : Int) + 1 ≤ (s.size : Int) := by omega
    have q4 : ((i : Int) + 1).toNat = i + 1 := by omega
    go_enter Tryz.func147, Tryz.ntmps147
    go_wp2_with fail
    refine (IX.out _).mono ?_
    rintro e w1 ⟨rfl, hw⟩
    subst hw
    go_wp2_with fail
    go_quiet (fail)
    go_wp2_with fail
    refine bodyPost_ret (results_tmp3 rfl _ _ _) rfl ?_
    exact ⟨_, rfl, (Keeps.refl _).drewN _⟩
  · have hx1 : indexByte s.data.toList 10 = -1 := by have := indexByte_ge s.data.toList 10; omega
    have HD : Hid (decide ((lneL s.data.toList).length < s.data.toList.length) = false) := Lib.hid (by rw [lne_none hx1, decide_eq_false_iff_not]; omega)
    have HH : Hid ((⟨(lneL s.data.toList).toArray⟩ : ByteArray) = s) := Lib.hid (by rw [lne_none hx1, bytes_mk])
    rw [HD.out, HH.out]
    rw [hx1] at IX
    clear hx hx1 HH HD
    go_enter Tryz.func147, Tryz.ntmps147
    go_wp2_with fail
    refine (IX.out _).mono ?_
    rintro e w1 ⟨rfl, hw⟩
    subst hw
    go_wp2_with fail
    go_ret3
    exact ⟨_, rfl, Keeps.refl _⟩
set_option maxRecDepth 100000 in
theorem cutlf_any (s : ByteArray) (hs : s.size ≤ 1000000000) (w : World) :
    Calls Tryz.prog 122 #[.string s, .string ⟨#[10]⟩] w (CutLf s.data.toList w) := by
  have CT := Lib.hid (fun W => litelf_any s hs W)
  unfold CutLf at *
  generalize (⟨(lneL s.data.toList).toArray⟩ : ByteArray) = z at *
  generalize decide ((lneL s.data.toList).length < s.data.toList.length) = t at *
  go_enter Tryz.func122, Tryz.ntmps122
  go_wp2_with fail
  refine (CT.out _).mono ?_
  rintro e w1 ⟨b, rfl, k1⟩
  go_wp2_with fail
  go_ret3
  exact ⟨_, rfl, k1⟩

/-- What lineEnd tells. -/
def LneV (l : List UInt8) : Value := .tuple #[.int .i64 (lneN l : Nat), .bool (blankL (lneL l))]
theorem lne_lf {l : List UInt8} (h : decide ((lneL l).length < l.length) = true) : lneN l = (lneL l).length + 1 := by unfold lneN; rw [if_pos (of_decide_eq_true h)]
theorem lne_end {l : List UInt8} (h : decide ((lneL l).length < l.length) = false) : lneN l = (lneL l).length := by unfold lneN; rw [if_neg (of_decide_eq_false h)]
theorem ret_ib {a b : Int} {c : Bool} (h : a = b) : Ending.returned (.tuple #[.int .i64 a, .bool c]) = .returned (.tuple #[.int .i64 b, .bool c]) := by rw [h]
set_option maxRecDepth 100000 in
set_option maxHeartbeats 400000 in
theorem lineEnd_any (s : ByteArray) (w : World) (hs : s.size ≤ 100000) :
    Calls Tryz.prog 178 #[.string s] w fun e w' => e = .returned (LneV s.data.toList) ∧ Keeps w w' := by
  have CT := Lib.hid (fun W => cutlf_any s (by omega) W)
  have hn := lne_len s.data.toList
  rw [bytes_len] at hn
  unfold LneV
  obtain ⟨t, ht⟩ : ∃ t : ByteArray, (⟨(lneL s.data.toList).toArray⟩ : ByteArray) = t := ⟨_, rfl⟩
  have tl : t.data.toList = lneL s.data.toList := by rw [← ht]
  have tz : t.size = (lneL s.data.toList).length := by rw [← bytes_len, tl]
  have BL := Lib.hid (fun W => blank_any t W)
  rw [tl] at BL
  rw [← tz] at hn
  unfold CutLf at CT
  rw [ht] at CT
  cases hd : decide ((lneL s.data.toList).length < s.data.toList.length) with
  | true =>
    have HN := Lib.hid (lne_lf hd)
    rw [hd] at CT
    rw [HN.out, ← tz]
    generalize blankL (lneL s.data.toList) = bb at *
    clear HN ht tl tz hd
    go_enter Tryz.func178, Tryz.ntmps178
    go_wp2_with fail
    refine (CT.out _).mono ?_
    rintro e w1 ⟨b, rfl, k1⟩
    have K1 := Lib.hid k1
    clear k1
    go_wp2_with fail
    refine (BL.out _).mono ?_
    rintro e w2 ⟨rfl, k2⟩
    go_wp2_with fail
    go_ret2
    exact ⟨ret_ib (by omega), K1.out.trans k2⟩
  | false =>
    have HN := Lib.hid (lne_end hd)
    rw [hd] at CT
    rw [HN.out, ← tz]
    generalize blankL (lneL s.data.toList) = bb at *
    clear HN ht tl tz hd
    go_enter Tryz.func178, Tryz.ntmps178
    go_wp2_with fail
    refine (CT.out _).mono ?_
    rintro e w1 ⟨b, rfl, k1⟩
    have K1 := Lib.hid k1
    clear k1
    go_wp2_with fail
    refine (BL.out _).mono ?_
    rintro e w2 ⟨rfl, k2⟩
    go_wp2_with fail
    go_ret2
    exact ⟨ret_ib (by omega), K1.out.trans k2⟩

/-- What titled tells. -/
def TtlV (l : List UInt8) : Value := .tuple #[.string ⟨(ttT l).toArray⟩, .int .i64 (ttN l : Nat), .bool (ttK l)]
theorem ttl_no {l : List UInt8} (h : ttB l = false) : TtlV l = .tuple #[.string ⟨#[]⟩, .int .i64 0, .bool false] := by
  unfold TtlV ttT ttN ttK
  rw [h]
  rfl
theorem ttl_yes {l : List UInt8} (h : ttB l = true) : TtlV l = .tuple #[.string ⟨(titT (l.drop (ttA l))).toArray⟩, .int .i64 (ttA l + ttM l + lneN (ttE l) : Nat), .bool (blankL (lneL (ttE l)))] := by
  unfold TtlV ttT ttN ttK
  rw [h]
  rfl
theorem ret_sib {a : ByteArray} {n m : Int} {c : Bool} (k : n = m) : Ending.returned (.tuple #[.string a, .int .i64 n, .bool c]) = .returned (.tuple #[.string a, .int .i64 m, .bool c]) := by rw [k]
set_option maxRecDepth 100000 in
set_option maxHeartbeats 800000 in
theorem titled_any (s : ByteArray) (w : World) (hs : s.size ≤ 100000) (hO : Lis w) :
    Calls Tryz.prog 177 #[.string s] w fun e w' => e = .returned (TtlV s.data.toList) ∧ Keeps w w' := by
  have NO := Lib.hid (@ttl_no s.data.toList)
  have YES := Lib.hid (@ttl_yes s.data.toList)
  have HB : Hid (ttB s.data.toList = (!decide (ttA s.data.toList = 0) && !decide (ttM s.data.toList = 0))) := Lib.hid rfl
  have hM : ttM s.data.toList = titN (s.data.toList.drop (ttA s.data.toList)) := rfl
  have hE : ttE s.data.toList = s.data.toList.drop (ttA s.data.toList + ttM s.data.toList) := rfl
  have hA : ttA s.data.toList = spcN true false s.data.toList := rfl
  have ha := spc_le true s.data.toList false
  rw [bytes_len] at ha
  have S1 := Lib.hid (fun W => spaces_any s true W hs)
  generalize spcN true false s.data.toList = a at *
  rw [hA] at hM hE HB YES
  have T1 := Lib.hid (title_any (s.extract a s.size) w (by rw [ByteArray.size_extract]; omega) hO)
  rw [Lib.extract_to_end] at T1
  have hm := (tit_le (s.data.toList.drop a)).1
  rw [List.length_drop, bytes_len] at hm
  generalize titN (s.data.toList.drop a) = m at *
  rw [hM] at hE HB YES
  have L1 := Lib.hid (fun W => lineEnd_any (s.extract (a + m) s.size) W (by rw [ByteArray.size_extract]; omega))
  rw [Lib.extract_to_end] at L1
  have hn := lne_le (s.data.toList.drop (a + m))
  rw [List.length_drop, bytes_len] at hn
  unfold LneV at L1
  rw [hE] at YES
  generalize lneN (s.data.toList.drop (a + m)) = n at *
  generalize blankL (lneL (s.data.toList.drop (a + m))) = bb at *
  generalize titT (s.data.toList.drop a) = tt at *
  clear hO hM hE hA
  by_cases a0 : a = 0
  · have HN := Lib.hid (NO.out (HB.out.trans (by simp [a0])))
    have t0 : ((a : Int) == 0) = true := beqT (by omega)
    rw [HN.out]
    clear HB HN NO YES a0
    go_enter Tryz.func177, Tryz.ntmps177
    go_wp2_with fail
    refine (S1.out _).mono ?_
    rintro e w1 ⟨rfl, rfl⟩
    go_wp2_with fail
    refine T1.out.mono ?_
    rintro e w1 ⟨rfl, k1⟩
    go_wp2_with fail
    go_ret3
    exact ⟨rfl, k1⟩
  · have t0 : ((a : Int) == 0) = false := beqF (by omega)
    by_cases m0 : m = 0
    · have HN := Lib.hid (NO.out (HB.out.trans (by simp [m0])))
      have t1 : ((m : Int) == 0) = true := beqT (by omega)
      rw [HN.out]
      clear HB HN NO YES a0 m0
      go_enter Tryz.func177, Tryz.ntmps177
      go_wp2_with fail
      refine (S1.out _).mono ?_
      rintro e w1 ⟨rfl, rfl⟩
      go_wp2_with fail
      refine T1.out.mono ?_
      rintro e w1 ⟨rfl, k1⟩
      go_wp2_with fail
      go_ret3
      exact ⟨rfl, k1⟩
    · have t1 : ((m : Int) == 0) = false := beqF (by omega)
      have HN := Lib.hid (YES.out (HB.out.trans (by simp [a0, m0])))
      rw [HN.out]
      clear HB HN NO YES a0 m0
      go_enter Tryz.func177, Tryz.ntmps177
      go_wp2_with fail
      refine (S1.out _).mono ?_
      rintro e w1 ⟨rfl, rfl⟩
      go_wp2_with fail
      refine T1.out.mono ?_
      rintro e w1 ⟨rfl, k1⟩
      have K1 := Lib.hid k1
      clear k1
      go_wp2_with fail
      refine (L1.out _).mono ?_
      rintro e w2 ⟨rfl, k2⟩
      go_wp2_with fail
      go_ret3
      exact ⟨ret_sib (by omega), K1.out.trans k2⟩

/-- What ending tells. -/
def EdgV (l : List UInt8) : Value := .tuple #[.string ⟨(edT l).toArray⟩, .int .i64 (edN l : Nat), .bool (edB l)]
theorem edg_yes {l : List UInt8} (h : ttK l = true) : EdgV l = .tuple #[.string ⟨(ttT l).toArray⟩, .int .i64 (ttN l : Nat), .bool true] := by
  unfold EdgV edT edN edB
  rw [h]
  rfl
theorem edg_no {l : List UInt8} (h : ttK l = false) : EdgV l = .tuple #[.string ⟨#[]⟩, .int .i64 (lneN l : Nat), .bool (blankL (lneL l))] := by
  unfold EdgV edT edN edB
  rw [h]
  rfl
set_option maxRecDepth 100000 in
set_option maxHeartbeats 400000 in
theorem ending_any (s : ByteArray) (w : World) (hs : s.size ≤ 100000) (hO : Lis w) :
    Calls Tryz.prog 154 #[.string s] w fun e w' => e = .returned (EdgV s.data.toList) ∧ Keeps w w' := by
  have T1 := Lib.hid (titled_any s w hs hO)
  have L1 := Lib.hid (fun W => lineEnd_any s W hs)
  unfold LneV at L1
  unfold TtlV at T1
  clear hO
  cases h : ttK s.data.toList with
  | true =>
    rw [edg_yes h]
    rw [h] at T1
    clear h L1
    generalize ttN s.data.toList = n at *
    generalize ttT s.data.toList = tt at *
    go_enter Tryz.func154, Tryz.ntmps154
    go_wp2_with fail
    refine T1.out.mono ?_
    rintro e w1 ⟨rfl, k1⟩
    go_wp2_with fail
    go_ret3
    exact ⟨rfl, k1⟩
  | false =>
    rw [edg_no h]
    rw [h] at T1
    clear h
    generalize ttN s.data.toList = n at *
    generalize ttT s.data.toList = tt at *
    generalize lneN s.data.toList = m at *
    generalize blankL (lneL s.data.toList) = bb at *
    go_enter Tryz.func154, Tryz.ntmps154
    go_wp2_with fail
    refine T1.out.mono ?_
    rintro e w1 ⟨rfl, k1⟩
    have K1 := Lib.hid k1
    clear k1
    go_wp2_with fail
    refine (L1.out _).mono ?_
    rintro e w2 ⟨rfl, k2⟩
    go_wp2_with fail
    go_ret3
    exact ⟨rfl, K1.out.trans k2⟩
end Go.Proofs.YtfgpephpkibbaaaGreatDoor

/-
  Contracts of small and Normal, of the package label: Normal for texts of at most 100,000 bytes.
-/
namespace Go.Proofs.YtfgpephpkibbaaaGreatDoor
open Go.RowKit Go.Lib

/-- A builder stays under whatever leaves all that was there as it was. -/
theorem bld_keep {B b : Nat} {l : List UInt8} {w w' : World} (h : Bld B b l w) (k : Keeps w w') : Bld B b l w' := by
  obtain ⟨hB, v, hb, ho, hne⟩ := h
  refine ⟨hB, v, (k.block b (iter_lt hb)).trans hb, ho.kept (row := none) ⟨k.os, k.tape, k.output, k.size, fun i hi _ => k.block i hi⟩ ?_, hne⟩
  cases v.ownBlock with
  | none => exact .inl rfl
  | some x => exact .inr (by simp)
set_option maxRecDepth 100000 in
theorem small_any (r : Int) (h0 : 0 ≤ r) (h1 : r ≤ 1114111) (w : World) :
    Calls Tryz.prog 180 #[.int .i32 r] w fun e w' => e = .returned (.int .i32 (smR r)) ∧ w = w' := by
  rcases (show r < 65 ∨ (65 ≤ r ∧ r ≤ 90) ∨ (90 < r ∧ r < 192) ∨ r = 215 ∨ (192 ≤ r ∧ r ≤ 222 ∧ ¬ r = 215) ∨ 222 < r by omega) with c | c | c | c | c | c
  · have HV : smR r = r := by unfold smR; rw [if_neg (by omega)]
    rw [HV]
    have q0 : decide ((65 : Int) ≤ r) = false := decide_eq_false (by omega)
    have q1 : decide (r ≤ 90) = true := decide_eq_true (by omega)
    have q2 : decide ((192 : Int) ≤ r) = false := decide_eq_false (by omega)
    have q3 : decide (r ≤ 222) = true := decide_eq_true (by omega)
    clear HV c
    go_enter Tryz.func180, Tryz.ntmps180
    go_wp2_with fail
    go_ret
    exact ⟨rfl, rfl⟩
  · have HV : smR r = r + 32 := by unfold smR; rw [if_pos (by omega)]
    rw [HV]
    have q0 : decide ((65 : Int) ≤ r) = true := decide_eq_true (by omega)
    have q1 : decide (r ≤ 90) = true := decide_eq_true (by omega)
    have q2 : decide ((192 : Int) ≤ r) = false := decide_eq_false (by omega)
    have q3 : decide (r ≤ 222) = true := decide_eq_true (by omega)
    clear HV c
    go_enter Tryz.func180, Tryz.ntmps180
    go_wp2_with fail
    go_ret
    exact ⟨rfl, rfl⟩
  · have HV : smR r = r := by unfold smR; rw [if_neg (by omega)]
    rw [HV]
    have q0 : decide ((65 : Int) ≤ r) = true := decide_eq_true (by omega)
    have q1 : decide (r ≤ 90) = false := decide_eq_false (by omega)
    have q2 : decide ((192 : Int) ≤ r) = false := decide_eq_false (by omega)
    have q3 : decide (r ≤ 222) = true := decide_eq_true (by omega)
    clear HV c
    go_enter Tryz.func180, Tryz.ntmps180
    go_wp2_with fail
    go_ret
    exact ⟨rfl, rfl⟩
  · have HV : smR r = r := by unfold smR; rw [if_neg (by omega)]
    rw [HV]
    have q0 : decide ((65 : Int) ≤ r) = true := decide_eq_true (by omega)
    have q1 : decide (r ≤ 90) = false := decide_eq_false (by omega)
    have q2 : decide ((192 : Int) ≤ r) = true := decide_eq_true (by omega)
    have q3 : decide (r ≤ 222) = true := decide_eq_true (by omega)
    have q4 := beqT (show r = 215 by omega)
    clear HV c
    go_enter Tryz.func180, Tryz.ntmps180
    go_wp2_with fail
    go_ret
    exact ⟨rfl, rfl⟩
  · have HV : smR r = r + 32 := by unfold smR; rw [if_pos (by omega)]
    rw [HV]
    have q0 : decide ((65 : Int) ≤ r) = true := decide_eq_true (by omega)
    have q1 : decide (r ≤ 90) = false := decide_eq_false (by omega)
    have q2 : decide ((192 : Int) ≤ r) = true := decide_eq_true (by omega)
    have q3 : decide (r ≤ 222) = true := decide_eq_true (by omega)
    have q4 := beqF (show ¬ r = 215 by omega)
    clear HV c
    go_enter Tryz.func180, Tryz.ntmps180
    go_wp2_with fail
    go_ret
    exact ⟨rfl, rfl⟩
  · have HV : smR r = r := by unfold smR; rw [if_neg (by omega)]
    rw [HV]
    have q0 : decide ((65 : Int) ≤ r) = true := decide_eq_true (by omega)
    have q1 : decide (r ≤ 90) = false := decide_eq_false (by omega)
    have q2 : decide ((192 : Int) ≤ r) = true := decide_eq_true (by omega)
    have q3 : decide (r ≤ 222) = false := decide_eq_false (by omega)
    clear HV c
    go_enter Tryz.func180, Tryz.ntmps180
    go_wp2_with fail
    go_ret
    exact ⟨rfl, rfl⟩
theorem step_top {l : List UInt8} {pos n : Nat} {r : Int} (h : Step l pos r n) : r ≤ 1114111 := by
  have ho := decode_ok (l.drop pos)
  rw [h.dec] at ho
  unfold okR at ho
  dsimp only at ho
  have := h.low
  omega
theorem sm_range {r : Int} (h0 : 0 ≤ r) (h1 : r ≤ 1114111) : 0 ≤ smR r ∧ smR r ≤ 1114143 := by
  unfold smR
  split <;> omega
theorem nstep_ne {l : List UInt8} {pos n : Nat} {r : Int} (h : Step l pos r n) : l.drop pos ≠ [] := fun e => by
  have h1 := h.one
  have h2 := h.room
  have := congrArg List.length e
  rw [List.length_drop] at this
  simp at this
  omega
theorem nrm_ws {l acc : List UInt8} {pos n : Nat} {r : Int} {g : Bool} (h : Step l pos r n) (hr : wsR r = true) (ha : acc ++ nrmF g (l.drop pos) = nrmF false l) : acc ++ nrmF true (l.drop (pos + n)) = nrmF false l := by
  have h0 := h.low
  rw [nrmF_step g _ (nstep_ne h), h.dec] at ha
  dsimp only at ha
  rw [show ((r.toNat : Nat) : Int) = r by omega, if_pos hr, List.drop_drop] at ha
  exact ha
theorem nrm_no {l acc : List UInt8} {pos n : Nat} {r : Int} {g : Bool} (h : Step l pos r n) (hr : wsR r = false) (ha : acc ++ nrmF g (l.drop pos) = nrmF false l) : (acc ++ gapL g) ++ encodeRune (smR r) ++ nrmF false (l.drop (pos + n)) = nrmF false l := by
  have h0 := h.low
  rw [nrmF_step g _ (nstep_ne h), h.dec] at ha
  dsimp only at ha
  rw [show ((r.toNat : Nat) : Int) = r by omega, if_neg (by rw [hr]; decide), List.drop_drop] at ha
  rw [← ha]
  simp
theorem wsR_no {r : Int} (h1 : ¬ r = 32) (h2 : ¬ r = 9) (h3 : ¬ r = 10) : wsR r = false := by
  unfold wsR
  rw [decide_eq_false h1, decide_eq_false h2, decide_eq_false h3]; rfl

set_option maxRecDepth 100000 in
set_option maxHeartbeats 2000000 in
theorem normal_any (s : ByteArray) (w : World) (hs : s.size ≤ 100000) :
    Calls Tryz.prog 155 #[.string s] w fun e w' => e = .returned (.string ⟨(nrmL s.data.toList).toArray⟩) ∧ Keeps w w' := by
  have GR := Lib.hid (Tryz.Builder_Grow_fresh w.heap.size w.heap.size s.size (w.alloc (.cells #[.pointer none, .slice none 0 0] 131)) (Nat.le_refl _) (by show (w.heap.push _)[w.heap.size]? = _; simp) (by simp) (by omega))
  have b0 := Lib.hid ((Below.refl w.heap.size w).alloc (Nat.le_refl _) (.cells #[.pointer none, .slice none 0 0] 131))
  have WR := Lib.hid (fun l r a b W h c d => writeRune_any w.heap.size w.heap.size l r a b W h c d)
  have WB := Lib.hid (fun l W h c d => writeByte_any w.heap.size w.heap.size l 32 32 rfl W h c d)
  have ST := Lib.hid (fun l W h c => Tryz.Builder_String_any_k w.heap.size w.heap.size l W h c)
  have SM := Lib.hid (fun r a b W => small_any r a b W)
  have TR := Lib.hid (fun W => trim_any s W hs)
  obtain ⟨t, ht⟩ : ∃ t : ByteArray, (⟨(trimL s.data.toList).toArray⟩ : ByteArray) = t := ⟨_, rfl⟩
  have tl : t.data.toList = trimL s.data.toList := by rw [← ht]
  have tz : t.size ≤ 100000 := by
    have := trim_len s.data.toList
    rw [← bytes_len, tl]
    rw [bytes_len] at this
    omega
  have HE : Hid (nrmL s.data.toList = nrmF false t.data.toList) := Lib.hid (by rw [tl]; rfl)
  have hl := Lib.hid (bytes_len t)
  rw [ht] at TR
  rw [HE.out]
  clear HE ht tl
  go_enter Tryz.func155, Tryz.ntmps155
  go_wp2_with fail
  refine GR.out.mono ?_
  rintro e w1 ⟨rfl, hb1, hbw1⟩
  have B1 : Hid (Bld w.heap.size w.heap.size [] w1) := Lib.hid (BuilderAtF.of hb1)
  have K1 := Lib.hid (b0.out.trans hbw1)
  have hlt : w.heap.size < w1.heap.size := iter_lt hb1.2.choose_spec.1
  clear hb1 hbw1
  go_wp2_with fail
  refine (TR.out _).mono ?_
  rintro e w2 ⟨rfl, k2⟩
  have B2 : Hid (Bld w.heap.size w.heap.size [] w2) := Lib.hid (bld_keep B1.out k2)
  have K2 : Hid (Below w.heap.size w w2) := Lib.hid (K1.out.trans (Below.mono k2 (by omega)))
  have hlt2 : w.heap.size < w2.heap.size := Nat.lt_of_lt_of_le hlt k2.size
  clear k2 hlt
  go_wp2_with fail
  go_loopw [4] (fun x wr => ∃ (pos : Nat) (acc : List UInt8) (g : Bool), pos ≤ t.size ∧ x = .bool g ∧ Hid (Bld w.heap.size w.heap.size acc wr) ∧ Hid (wr.heap[w2.heap.size]? = some (.stringIter t pos)) ∧ Hid (Below w.heap.size w wr) ∧ Hid (acc ++ nrmF g (t.data.toList.drop pos) = nrmF false t.data.toList) ∧ acc.length ≤ 5 * pos ∧ w2.heap.size < wr.heap.size) (fun _ wr => t.size - wr.iterPos w2.heap.size)
  case atStart => exact ⟨0, [], false, Nat.zero_le _, rfl, Lib.hid (BuilderAtF.alloc B2.out _), Lib.hid (World.iter_heap w2 t 0), Lib.hid (K2.out.alloc (by omega) _), Lib.hid rfl, by simp, by show w2.heap.size < (w2.alloc _).heap.size; simp⟩
  case round =>
    obtain ⟨pos, acc, g, hp, rfl, HB, HI, HK, HA, hal, hsz⟩ := hrel
    by_cases c : pos < t.size
    · obtain ⟨r, n, hst, hnx⟩ := next_at (P := Tryz.prog) HI.out c
      have h0 := hst.low
      have h1 := step_top hst
      have hn1 := hst.one
      have hroom : pos + n ≤ t.size := by have := hst.room; have := hl.out; omega
      have hit2 := iterAt_heap wr w2.heap.size t pos (pos + n) HI.out
      have HI2 := Lib.hid hit2
      have HB2 := Lib.hid (BuilderAtF.iterAt HB.out HI.out (pos + n))
      have HK2 := Lib.hid (below_iterAt HK.out (k := w2.heap.size) (by omega) t (pos + n))
      have hsz2 : w2.heap.size < (wr.iterAt w2.heap.size t (pos + n)).heap.size := by rw [iterAt_size]; exact hsz
      have HS := Lib.hid hst
      have P1 := Lib.hid (pos_at HI.out)
      clear hst hit2
      by_cases r1 : r = 32
      · have HN := Lib.hid (nrm_ws HS.out (by subst r1; rfl) HA.out)
        subst r1
        clear HS
        go_wp2_with fail
        go_roundw
        case rel => exact ⟨pos + n, acc, true, hroom, rfl, HB2, HI2, HK2, HN, by omega, hsz2⟩
        case measure => rw [P1.out, pos_at HI2.out]; omega
      · have t1 := beqF r1
        by_cases r2 : r = 9
        · have HN := Lib.hid (nrm_ws HS.out (by subst r2; rfl) HA.out)
          subst r2
          clear HS
          go_wp2_with fail
          go_roundw
          case rel => exact ⟨pos + n, acc, true, hroom, rfl, HB2, HI2, HK2, HN, by omega, hsz2⟩
          case measure => rw [P1.out, pos_at HI2.out]; omega
        · have t2 := beqF r2
          by_cases r3 : r = 10
          · have HN := Lib.hid (nrm_ws HS.out (by subst r3; rfl) HA.out)
            subst r3
            clear HS
            go_wp2_with fail
            go_roundw
            case rel => exact ⟨pos + n, acc, true, hroom, rfl, HB2, HI2, HK2, HN, by omega, hsz2⟩
            case measure => rw [P1.out, pos_at HI2.out]; omega
          · have t3 := beqF r3
            have HN := Lib.hid (nrm_no HS.out (wsR_no r1 r2 r3) HA.out)
            have S1 := Lib.hid (fun W => SM.out r h0 h1 W)
            have hq := sm_range h0 h1
            obtain ⟨q, hqe⟩ : ∃ q, smR r = q := ⟨_, rfl⟩
            rw [hqe] at S1 hq HN
            have hel := Lib.hid (enc_len q)
            clear hqe r1 r2 r3 HS
            cases g with
            | true =>
              go_wp2_with fail
              refine (WB.out acc _ HB2.out (by omega) (by omega)).mono ?_
              rintro e W1 ⟨rfl, h1', b1, k1⟩
              have HI3 := Lib.hid (k1.iter HI2.out (by omega))
              have hsz3 := iter_lt HI3.out
              have HB3 := Lib.hid h1'
              have HK3 := Lib.hid (HK2.out.trans b1)
              clear h1' b1 k1
              go_wp2_with fail
              refine (S1.out _).mono ?_
              rintro e W1' ⟨rfl, rfl⟩
              go_wp2_with fail
              refine (WR.out (acc ++ [32]) q (by omega) (by omega) _ HB3.out (by rw [List.length_append, List.length_singleton]; omega) (by omega)).mono ?_
              rintro e W2 ⟨rfl, h1', b1, k1⟩
              have HI4 := Lib.hid (k1.iter HI3.out (by omega))
              have hsz4 := iter_lt HI4.out
              have HB4 := Lib.hid h1'
              have HK4 := Lib.hid (HK3.out.trans b1)
              clear h1' b1 k1
              go_wp2_with fail
              go_roundw
              case rel => exact ⟨pos + n, acc ++ [32] ++ encodeRune q, false, hroom, rfl, HB4, HI4, HK4, HN, by have := hel.out; rw [List.length_append, List.length_append, List.length_singleton]; omega, hsz4⟩
              case measure => rw [P1.out, pos_at HI4.out]; omega
            | false =>
              have HN2 : Hid (acc ++ encodeRune q ++ nrmF false (t.data.toList.drop (pos + n)) = nrmF false t.data.toList) := Lib.hid (by have e := HN.out; rw [show gapL false = [] from rfl, List.append_nil] at e; exact e)
              clear HN
              go_wp2_with fail
              refine (S1.out _).mono ?_
              rintro e W1' ⟨rfl, rfl⟩
              go_wp2_with fail
              refine (WR.out acc q (by omega) (by omega) _ HB2.out (by omega) (by omega)).mono ?_
              rintro e W2 ⟨rfl, h1', b1, k1⟩
              have HI4 := Lib.hid (k1.iter HI2.out (by omega))
              have hsz4 := iter_lt HI4.out
              have HB4 := Lib.hid h1'
              have HK4 := Lib.hid (HK2.out.trans b1)
              clear h1' b1 k1
              go_wp2_with fail
              go_roundw
              case rel => exact ⟨pos + n, acc ++ encodeRune q, false, hroom, rfl, HB4, HI4, HK4, HN2, by have := hel.out; rw [List.length_append]; omega, hsz4⟩
              case measure => rw [P1.out, pos_at HI4.out]; omega
    · have hit := HI.out
      have hnx : ∀ ty, (Instr.next (.pointer (some ⟨w2.heap.size, 0, none⟩)) true ty).run Tryz.prog wr = _ := fun ty => run_next_end_at wr w2.heap.size t pos ty hit c
      clear hit
      have HA2 : Hid (acc = nrmF false t.data.toList) := by
        have e := HA.out
        rw [List.drop_eq_nil_of_le (by have := hl.out; omega), nrmF_nil, List.append_nil] at e
        exact Lib.hid e
      go_wp2_with fail
      refine (ST.out acc _ (.inr HB.out) (by omega)).mono ?_
      rintro e W1 ⟨rfl, _, b1, _⟩
      have HK3 := Lib.hid (HK.out.trans b1)
      clear b1
      go_wp2_with fail
      go_ret
      exact ⟨ret_str HA2.out, HK3.out⟩
end Go.Proofs.YtfgpephpkibbaaaGreatDoor


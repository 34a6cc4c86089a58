/-
  Contracts of enclosed and Label, of the package label, for texts of at most 100,000 bytes.
-/
import Derived.Test.YtonajkcdkihchaaDoorLbt
import Derived.Test.YtonajkcdkihchaaDoorSrcm
import Derived.Test.YtonajkcdkihchaaDoorTrc
namespace Go.Proofs.YtonajkcdkihchaaDoor
open Go.RowKit Go.Lib

/-- Where the loop through a label stands. -/
def LabAt (l : List UInt8) (pos : Nat) (h : Bool) : Prop := labS 0 false l = labS pos h (l.drop pos)
theorem labAt_far {l : List UInt8} {pos : Nat} {h : Bool} (t : LabAt l pos h) (hp : 999 < pos) : labS 0 false l = 0 := by rw [t, labS_far _ _ _ hp]
theorem labAt_end {l : List UInt8} {pos : Nat} {h : Bool} (t : LabAt l pos h) (hp : l.length ≤ pos) : labS 0 false l = 0 := by rw [t, List.drop_eq_nil_of_le hp]; rfl
theorem step_byte {l : List UInt8} {pos n : Nat} {r : Int} (h : Step l pos r n) (hr : r < 128) : n = 1 ∧ ∃ b : UInt8, (b.toNat : Int) = r ∧ l.drop pos = b :: l.drop (pos + 1) := by
  rcases h.kind with ⟨rfl, _, b, e, hb⟩ | ⟨h1, _⟩
  · refine ⟨rfl, b, hb, ?_⟩
    have := h.rest
    rw [e] at this
    exact this
  · omega
/-- A hidden sign. -/
theorem labAt_hid {l : List UInt8} {pos n : Nat} {r : Int} (t : LabAt l pos true) (h : Step l pos r n) (hp : ¬ 999 < pos) : LabAt l (pos + n) false := by
  unfold LabAt at *
  rw [t]
  rcases h.kind with ⟨rfl, _, b, e, _⟩ | ⟨_, hb⟩
  · rw [h.rest, e, List.singleton_append, labS_hid b _ hp]
  · have hlen : ((l.drop pos).take n).length = n := by rw [List.length_take, List.length_drop]; have := h.room; omega
    have hne : (l.drop pos).take n ≠ [] := fun e => by rw [e] at hlen; have := h.one; simp at hlen; omega
    rw [h.rest, labS_big _ _ _ _ hne hp hb, hlen]
theorem labAt_back {l : List UInt8} {pos n : Nat} {r : Int} (t : LabAt l pos false) (h : Step l pos r n) (hp : ¬ 999 < pos) (hr : r = 92) : LabAt l (pos + n) true := by
  obtain ⟨rfl, b, hb, e⟩ := step_byte h (by omega)
  unfold LabAt at *
  rw [t, e, labS_back b _ hp (by omega)]
theorem labAt_open {l : List UInt8} {pos n : Nat} {r : Int} (t : LabAt l pos false) (h : Step l pos r n) (hp : ¬ 999 < pos) (hr : r = 91) : labS 0 false l = 0 := by
  obtain ⟨rfl, b, hb, e⟩ := step_byte h (by omega)
  unfold LabAt at *
  rw [t, e, labS_open b _ hp (by omega)]
theorem labAt_shut {l : List UInt8} {pos n : Nat} {r : Int} (t : LabAt l pos false) (h : Step l pos r n) (hp : ¬ 999 < pos) (hr : r = 93) : labS 0 false l = pos + 1 := by
  obtain ⟨rfl, b, hb, e⟩ := step_byte h (by omega)
  unfold LabAt at *
  rw [t, e, labS_shut b _ hp (by omega)]
theorem labAt_go {l : List UInt8} {pos n : Nat} {r : Int} (t : LabAt l pos false) (h : Step l pos r n) (hp : ¬ 999 < pos) (h1 : r ≠ 92) (h2 : r ≠ 91) (h3 : r ≠ 93) : LabAt l (pos + n) false := by
  unfold LabAt at *
  rw [t]
  rcases h.kind with ⟨rfl, _, b, e, hb⟩ | ⟨_, hb⟩
  · rw [h.rest, e, List.singleton_append, labS_go b _ hp (by omega) (by omega) (by omega)]
  · have hlen : ((l.drop pos).take n).length = n := by rw [List.length_take, List.length_drop]; have := h.room; omega
    have hne : (l.drop pos).take n ≠ [] := fun e => by rw [e] at hlen; have := h.one; simp at hlen; omega
    rw [h.rest, labS_big _ _ _ _ hne hp hb, hlen]
theorem lblI_yes {l : List UInt8} (h : hasPrefix l [91] = true) : lblI l = (l.drop 1).take (labS 0 false (l.drop 1) - 1) := by unfold lblI; rw [if_pos h]
theorem lblI_no {l : List UInt8} (h : hasPrefix l [91] = false) : lblI l = [] := by unfold lblI; rw [if_neg (by rw [h]; decide)]
theorem lblI_none {l : List UInt8} (h : hasPrefix l [91] = true) (h0 : labS 0 false (l.drop 1) = 0) : lblI l = [] := by rw [lblI_yes h, h0]; rfl

set_option maxRecDepth 100000 in
set_option maxHeartbeats 1000000 in
theorem lenclosed_any (s : ByteArray) (w : World) (hs : s.size ≤ 100000) :
    Calls Tryd.prog 22 #[.string s] w fun e w' => e = .returned (.string ⟨(lblI s.data.toList).toArray⟩) ∧ Keeps w w' := by
  have CP := Lib.hid (fun W => (Tryd.strings_CutPrefix s ⟨#[91]⟩ W).mono (fun _ _ h => And.intro h.1 h.2.symm))
  rw [show (⟨#[91]⟩ : ByteArray).data.toList = [91] from rfl] at CP
  unfold trimPrefix at CP
  cases hp : hasPrefix s.data.toList [91] with
  | false =>
    rw [hp] at CP
    rw [lblI_no hp]
    clear hp
    generalize (⟨(if false = true then s.data.toList.drop ([91] : List UInt8).length else s.data.toList).toArray⟩ : ByteArray) = t at CP
    go_enter Tryd.func22, Tryd.ntmps22
    go_wp2_with fail
    refine (CP.out _).mono ?_
    rintro e w1 ⟨rfl, rfl⟩
    go_wp2_with fail
    go_ret
    exact ⟨rfl, Keeps.refl _⟩
  | true =>
    rw [hp, if_pos rfl] at CP
    obtain ⟨t, ht⟩ : ∃ t : ByteArray, (⟨(s.data.toList.drop ([91] : List UInt8).length).toArray⟩ : ByteArray) = t := ⟨_, rfl⟩
    have tl : t.data.toList = s.data.toList.drop 1 := by rw [← ht]; rfl
    have YES := Lib.hid (lblI_yes hp)
    rw [ht] at CP
    rw [← tl] at YES
    have tz : t.size ≤ 100000 := by rw [← bytes_len, tl, List.length_drop, bytes_len]; omega
    have hl := Lib.hid (bytes_len t)
    rw [YES.out]
    clear ht tl hp YES
    go_enter Tryd.func22, Tryd.ntmps22
    go_wp2_with fail
    refine (CP.out _).mono ?_
    rintro e w1 ⟨rfl, rfl⟩
    go_wp2_with fail
    go_loopw [5] (fun x wr => ∃ (pos : Nat) (h : Bool), pos ≤ t.size ∧ x = .bool h ∧ Hid (LabAt t.data.toList pos h) ∧ Hid (wr.heap[w.heap.size]? = some (.stringIter t pos)) ∧ Hid (Keeps w wr)) (fun _ wr => t.size - wr.iterPos w.heap.size)
    case atStart => exact ⟨0, false, Nat.zero_le _, rfl, Lib.hid rfl, Lib.hid (World.iter_heap w t 0), Lib.hid ((Keeps.refl w).iter t 0)⟩
    case round =>
      obtain ⟨pos, h, hp, rfl, HT, HI, HK⟩ := hrel
      by_cases c : pos < t.size
      · obtain ⟨r, n, hst, hnx⟩ := next_at (P := Tryd.prog) HI.out c
        have h0 := hst.low
        have h1 := hst.high
        have hroom : pos + n ≤ t.size := by have := hst.room; have := hl.out; omega
        have HI2 := Lib.hid (iterAt_heap wr w.heap.size t pos (pos + n) HI.out)
        have HK2 := Lib.hid (HK.out.iterAt (Nat.le_refl _) t (pos + n))
        have HS := Lib.hid hst
        have hn1 := hst.one
        have P1 := Lib.hid (pos_at HI.out)
        clear hst
        by_cases c9 : 999 < pos
        · have HN := Lib.hid (labAt_far HT.out c9)
          go_wp2_with fail
          go_ret
          exact ⟨ret_str (by rw [HN.out]; rfl), HK2.out⟩
        · cases h with
          | true =>
            have HT2 := Lib.hid (labAt_hid HT.out HS.out c9)
            go_wp2_with fail
            go_roundw
            case rel => exact ⟨pos + n, false, hroom, rfl, HT2, HI2, HK2⟩
            case measure => rw [P1.out, pos_at HI2.out]; omega
          | false =>
            by_cases r1 : r = 92
            · have HT2 := Lib.hid (labAt_back HT.out HS.out c9 r1)
              subst r1
              go_wp2_with fail
              go_roundw
              case rel => exact ⟨pos + n, true, hroom, rfl, HT2, HI2, HK2⟩
              case measure => rw [P1.out, pos_at HI2.out]; omega
            · have t1 := beqF r1
              by_cases r2 : r = 91
              · have HN := Lib.hid (labAt_open HT.out HS.out c9 r2)
                subst r2
                go_wp2_with fail
                go_ret
                exact ⟨ret_str (by rw [HN.out]; rfl), HK2.out⟩
              · have t2 := beqF r2
                by_cases r3 : r = 93
                · have HN := Lib.hid (labAt_shut HT.out HS.out c9 r3)
                  subst r3
                  go_wp2_with fail
                  go_ret
                  exact ⟨ret_bytes (by rw [HN.out, Nat.add_sub_cancel, ext_take]), HK2.out⟩
                · have t3 := beqF r3
                  have HT2 := Lib.hid (labAt_go HT.out HS.out c9 r1 r2 r3)
                  clear r1 r2 r3
                  go_wp2_with fail
                  go_roundw
                  case rel => exact ⟨pos + n, false, hroom, rfl, HT2, HI2, HK2⟩
                  case measure => rw [P1.out, pos_at HI2.out]; omega
      · have hit := HI.out
        have hnx : ∀ ty, (Instr.next (.pointer (some ⟨w.heap.size, 0, none⟩)) true ty).run Tryd.prog wr = _ := fun ty => run_next_end_at wr w.heap.size t pos ty hit c
        have HN := Lib.hid (labAt_end HT.out (by have := hl.out; omega))
        clear hit
        go_wp2_with fail
        go_ret
        exact ⟨ret_str (by rw [HN.out]; rfl), HK.out⟩

/-- What Label tells. -/
def LblV (l : List UInt8) : Value := .tuple #[.string ⟨(lblT l).toArray⟩, .int .i64 (lblN l : Nat)]
theorem lbl_no {l : List UInt8} (h : trimL (lblI l) = []) : LblV l = .tuple #[.string ⟨#[]⟩, .int .i64 0] := by
  unfold LblV lblT lblN
  rw [if_pos h, if_pos h]
  rfl
theorem lbl_yes {l : List UInt8} (h : ¬ trimL (lblI l) = []) : LblV l = .tuple #[.string ⟨(lblI l).toArray⟩, .int .i64 ((lblI l).length + 2 : Nat)] := by
  unfold LblV lblT lblN
  rw [if_neg h, if_neg h]
theorem tit_out3 {a b : ByteArray} {n m : Int} (h : a = b) (k : n = m) : Ending.returned (.tuple #[.string a, .int .i64 n]) = .returned (.tuple #[.string b, .int .i64 m]) := by rw [h, k]
set_option maxRecDepth 100000 in
set_option maxHeartbeats 400000 in
theorem label_any (s : ByteArray) (w : World) (hs : s.size ≤ 100000) :
    Calls Tryd.prog 10 #[.string s] w fun e w' => e = .returned (LblV s.data.toList) ∧ Keeps w w' := by
  have EN := Lib.hid (fun W => lenclosed_any s W hs)
  have hi := lblI_le s.data.toList
  rw [bytes_len] at hi
  obtain ⟨t, ht⟩ : ∃ t : ByteArray, (⟨(lblI s.data.toList).toArray⟩ : ByteArray) = t := ⟨_, rfl⟩
  have tl : t.data.toList = lblI s.data.toList := by rw [← ht]
  have tz : t.size = (lblI s.data.toList).length := by rw [← bytes_len, tl]
  have tb : t.size ≤ 100000 := by
    rcases hi with e | e
    · rw [tz, e]; simp
    · omega
  have TR := Lib.hid (fun W => trim_any t W tb)
  have CL := Lib.hid (fun W => clone_any t W tb)
  rw [ht] at EN
  rw [tl] at TR
  by_cases h : trimL (lblI s.data.toList) = []
  · rw [lbl_no h]
    rw [h] at TR
    clear h hi ht tl tz
    go_enter Tryd.func10, Tryd.ntmps10
    go_wp2_with fail
    refine (EN.out _).mono ?_
    rintro e w1 ⟨rfl, k1⟩
    have K1 := Lib.hid k1
    clear k1
    go_wp2_with fail
    refine (TR.out _).mono ?_
    rintro e w2 ⟨rfl, k2⟩
    have K2 := Lib.hid (K1.out.trans k2)
    clear k2
    go_wp2_with fail
    go_ret2
    exact ⟨rfl, K2.out⟩
  · rw [lbl_yes h, ht, ← tz]
    obtain ⟨u, hu⟩ : ∃ u : ByteArray, (⟨(trimL (lblI s.data.toList)).toArray⟩ : ByteArray) = u := ⟨_, rfl⟩
    have uz : 0 < u.size := by
      rw [← bytes_len, ← hu]
      exact List.length_pos_iff.2 h
    rw [hu] at TR
    have u0 := tl_ne uz
    have u1 := tl_empty uz
    clear h hi ht tl tz hu uz
    go_enter Tryd.func10, Tryd.ntmps10
    go_wp2_with fail
    refine (EN.out _).mono ?_
    rintro e w1 ⟨rfl, k1⟩
    have K1 := Lib.hid k1
    clear k1
    go_wp2_with fail
    refine (TR.out _).mono ?_
    rintro e w2 ⟨rfl, k2⟩
    have K2 := Lib.hid (K1.out.trans k2)
    clear k2
    go_wp2_with fail
    refine (CL.out _).mono ?_
    rintro e w3 ⟨rfl, k3⟩
    have K3 := Lib.hid (K2.out.trans k3)
    clear k3
    go_wp2_with fail
    go_ret2
    exact ⟨tit_out3 rfl (by omega), K3.out⟩
end Go.Proofs.YtonajkcdkihchaaDoor

/-
  Contracts of host, address, of the package raw, for texts of at most 100,000 bytes.
-/
import Derived.Test.YtggeknhggpdpkaaGreatDoorRwf
namespace Go.Proofs.YtggeknhggpdpkaaGreatDoor
open Go.RowKit Go.Lib Go.Shelf

theorem hst_split (p : List UInt8) : hstB p = (!p.isEmpty && decide (p.length ≤ 63) && !hasPrefix p [45] && !hasSuffix p [45] && decide (cntP rNam p = p.length)) := rfl
set_option maxRecDepth 100000 in
set_option maxHeartbeats 1000000 in
theorem host_any (s : ByteArray) (w : World) (hs : s.size ≤ 100000) :
    Calls Tryz.prog 46 #[.string s] w fun e w' => e = .returned (.bool (hstB s.data.toList)) ∧ Keeps w w' := by
  by_cases h0 : s.size = 0
  · obtain rfl := bytes_none h0
    go_enter Tryz.func46, Tryz.ntmps46
    go_wp2_with fail
    go_ret
    exact ⟨rfl, Keeps.refl _⟩
  · have hp : 0 < s.size := by omega
    have u0 := tl_ne hp
    have u1 := tl_empty hp
    have HP := Lib.hid (fun W => (Tryz.strings_HasPrefix s ⟨#[45]⟩ W).mono (fun _ _ h => And.intro h.1 h.2.symm))
    have HS := Lib.hid (fun W => suffix_any s ⟨#[45]⟩ W hs)
    rw [show (⟨#[45]⟩ : ByteArray).data.toList = [45] from rfl] at HP HS
    have ST := Lib.hid (fun W => stretch_rNam s W hs)
    have e0 : s.data.toList.isEmpty = false := by
      cases e : s.data.toList with
      | nil =>
        have := bytes_len s
        rw [e] at this
        simp at this
        omega
      | cons a b => rfl
    rw [hst_split, e0, bytes_len]
    generalize cntP rNam s.data.toList = n at *
    by_cases c1 : s.size ≤ 63
    · have q1 : decide ((63 : Int) < (s.size : Int)) = false := decide_eq_false (by omega)
      rw [decide_eq_true c1]
      cases c2 : hasPrefix s.data.toList [45] with
      | true =>
        rw [c2] at HP
        generalize hasSuffix s.data.toList [45] = q at *
        clear h0 c1 c2 e0
        go_enter Tryz.func46, Tryz.ntmps46
        go_wp2_with fail
        refine (HP.out _).mono ?_
        rintro e w1 ⟨rfl, rfl⟩
        go_wp2_with fail
        go_ret
        exact ⟨ret_bool (by simp), Keeps.refl _⟩
      | false =>
        rw [c2] at HP
        cases c3 : hasSuffix s.data.toList [45] with
        | true =>
          rw [c3] at HS
          clear h0 c1 c2 c3 e0
          go_enter Tryz.func46, Tryz.ntmps46
          go_wp2_with fail
          refine (HP.out _).mono ?_
          rintro e w1 ⟨rfl, rfl⟩
          go_wp2_with fail
          refine (HS.out _).mono ?_
          rintro e w1 ⟨rfl, k1⟩
          go_wp2_with fail
          go_ret
          exact ⟨ret_bool (by simp), k1⟩
        | false =>
          rw [c3] at HS
          by_cases c4 : n = s.size
          · have q4 := beqT (show (n : Int) = (s.size : Int) by omega)
            rw [decide_eq_true c4]
            clear h0 c1 c2 c3 c4 e0
            go_enter Tryz.func46, Tryz.ntmps46
            go_wp2_with fail
            refine (HP.out _).mono ?_
            rintro e w1 ⟨rfl, rfl⟩
            go_wp2_with fail
            refine (HS.out _).mono ?_
            rintro e w1 ⟨rfl, k1⟩
            go_wp2_with fail
            refine (ST.out _).mono ?_
            rintro e w2 ⟨rfl, rfl⟩
            go_wp2_with fail
            go_ret
            exact ⟨rfl, k1⟩
          · have q4 := beqF (show ¬ (n : Int) = (s.size : Int) by omega)
            rw [decide_eq_false c4]
            clear h0 c1 c2 c3 c4 e0
            go_enter Tryz.func46, Tryz.ntmps46
            go_wp2_with fail
            refine (HP.out _).mono ?_
            rintro e w1 ⟨rfl, rfl⟩
            go_wp2_with fail
            refine (HS.out _).mono ?_
            rintro e w1 ⟨rfl, k1⟩
            go_wp2_with fail
            refine (ST.out _).mono ?_
            rintro e w2 ⟨rfl, rfl⟩
            go_wp2_with fail
            go_ret
            exact ⟨rfl, k1⟩
    · have q1 : decide ((63 : Int) < (s.size : Int)) = true := decide_eq_true (by omega)
      rw [decide_eq_false c1]
      clear h0 c1 e0
      go_enter Tryz.func46, Tryz.ntmps46
      go_wp2_with fail
      go_ret
      exact ⟨ret_bool (by simp), Keeps.refl _⟩

/-! ### Cut at an @ -/
theorem at_none : ∀ {l : List UInt8}, indexByte l 64 = -1 → cntP notAt l = l.length
  | [], _ => rfl
  | b :: l, h => by
    unfold indexByte at h
    by_cases hb : b = 64
    · subst hb; simp at h
    · have hb1 : (b == 64) = false := by simpa using hb
      have hb2 : notAt b = true := decide_eq_true (fun e => hb (UInt8.toNat_inj.1 e))
      rw [hb1] at h
      by_cases hl : indexByte l 64 = -1
      · rw [cntP_yes _ hb2, at_none hl, List.length_cons]
      · have := indexByte_ge l 64
        simp [hl] at h
        omega
theorem at_some : ∀ {l : List UInt8} {i : Nat}, indexByte l 64 = i → cntP notAt l = i ∧ i < l.length
  | [], i, h => by simp [indexByte] at h
  | b :: l, i, h => by
    unfold indexByte at h
    by_cases hb : b = 64
    · subst hb
      simp at h
      have : i = 0 := by omega
      subst this
      exact ⟨cntP_no _ (by decide), by simp⟩
    · have hb1 : (b == 64) = false := by simpa using hb
      have hb2 : notAt b = true := decide_eq_true (fun e => hb (UInt8.toNat_inj.1 e))
      rw [hb1] at h
      by_cases hl : indexByte l 64 = -1
      · simp [hl] at h
      · have hg := indexByte_ge l 64
        have e : (if false = true then (0 : Int) else if (indexByte l 64 == -1) = true then -1 else indexByte l 64 + 1) = indexByte l 64 + 1 := by simp [hl]
        rw [e] at h
        obtain ⟨j, rfl⟩ : ∃ j, i = j + 1 := ⟨i - 1, by omega⟩
        obtain ⟨h1, h2⟩ := at_some (l := l) (i := j) (by omega)
        exact ⟨by rw [cntP_yes _ hb2, h1], by rw [List.length_cons]; omega⟩
theorem cut_at (l : List UInt8) : cut l [64] = if cntP notAt l < l.length then (adrU l, adrR l, true) else (l, [], false) := by
  unfold cut
  rw [index_one]
  by_cases hl : indexByte l 64 = -1
  · rw [at_none hl, if_neg (by omega), if_neg (by omega)]
  · have hg := indexByte_ge l 64
    obtain ⟨i, hi⟩ : ∃ i : Nat, indexByte l 64 = i := ⟨_, (Int.toNat_of_nonneg (by omega)).symm⟩
    obtain ⟨h1, h2⟩ := at_some hi
    unfold adrU adrR
    rw [h1, if_pos h2, hi]
    simp
theorem cutAt_any (s : ByteArray) (w : World) (hs : s.size ≤ 100000) (h : Mxl w) :
    Calls Tryz.prog 43 #[.string s, .string ⟨#[64]⟩] w fun e w' => e = .returned (.tuple #[.string ⟨(cut s.data.toList [64]).1.toArray⟩, .string ⟨(cut s.data.toList [64]).2.1.toArray⟩, .bool (cut s.data.toList [64]).2.2]) ∧ ∃ n, w' = w.drewN n := by
  obtain ⟨m, hm⟩ := h
  exact Tryz.strings_Cut s ⟨#[64]⟩ m w (by omega) hm
end Go.Proofs.YtggeknhggpdpkaaGreatDoor

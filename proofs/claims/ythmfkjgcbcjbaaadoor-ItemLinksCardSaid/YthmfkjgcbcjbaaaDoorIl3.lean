/-
  Walk of the law ItemLinks.
-/
import Derived.Test.YthmfkjgcbcjbaaaDoorIl2
namespace Go.Proofs.YthmfkjgcbcjbaaaDoor
open Go.RowKit Go.Lib Go.Maps

theorem want_step {w : Int} {x : It} {l : List It} {r : Int} (h : wantL w (x :: l) = some r) : (x.codes = [120] ∧ x.link = w ∧ wantL (w + 1) l = some r) ∨ (x.codes ≠ [120] ∧ x.link = 0 ∧ wantL w l = some r) := by
  rw [wantL] at h
  split at h
  · rename_i h1
    split at h
    · rename_i h2; exact .inl ⟨h1, h2, h⟩
    · cases h
  · rename_i h1
    split at h
    · rename_i h2; exact .inr ⟨h1, h2, h⟩
    · cases h
theorem lkQs_len (nx : Int) : ∀ k : Nat, (lkQs nx k).length = 4 * k
  | 0 => rfl
  | k + 1 => by rw [lkQs, List.length_append, lkQs_len nx k]; simp [lkQ]; omega
set_option maxRecDepth 100000 in
set_option maxHeartbeats 8000000 in
theorem links_any (n lk : Nat) (hn : n < 256) (hlk : lk < 256) (w : World) (hE : EnvI w) :
    Calls Tryd.prog 6 #[.int .u8 n, .int .u8 lk] w fun e w' => e = .returned (.bool true) ∧ Keeps w w' := by
  obtain ⟨m, hm⟩ : ∃ m : Nat, ((n : Int) % 30) = (m : Int) := ⟨n % 30, by omega⟩
  have hm30 : m < 30 := by omega
  have HE := Lib.hid (fun W (k : Keeps w W) => hE.keep k)
  have HM := Lib.hid (fun W v gs (h : LkAt w W v gs) hl => h.more hl)
  have MK := Lib.hid (fun W v gs (h : LkAt w W v gs) (hg : gs.length = m) => make_any (lkL gs.length) v 0 10000 (1 + (lk : Int)) W h.at_ (HE.out W h.keep) (by decide) (by decide) (by rw [lk_wL]; omega) (by omega) (by rw [lk_wL]; omega))
  have AW := Lib.hid (fun W (k : Keeps w W) => awake17_any W (HE.out W k))
  have A0 : Hid (LkAt w w (.slice none 0 0) []) := Lib.hid ⟨World.ownsRow_nil _ _ _ _, (fun g hg => by cases hg), Keeps.refl w⟩
  clear hE HE
  go_enter Tryd.func6, Tryd.ntmps6
  go_wp2_with fail
  clear hm
  go_loopw [5, 7] (fun x y wr => ∃ (j : Nat) (gs : List Nat), j ≤ m ∧ y = .int .i64 j ∧ gs.length = j ∧ Hid (LkAt w wr x gs)) (fun _ y _ => m - (RowKit.intOf y).toNat)
  case atStart => exact ⟨0, [], Nat.zero_le _, rfl, rfl, A0⟩
  case round =>
    rename_i v
    obtain ⟨j, gs, hj, rfl, hgs, HA⟩ := hrel
    by_cases c : j < m
    · obtain ⟨A8, c8, w8, ra, h8⟩ := HM.out _ _ _ HA.out (by omega)
      obtain ⟨A, cap, rfl, _, _⟩ := row_form HA.out.row
      have H8 := Lib.hid h8
      clear h8
      go_wp2_with (at_builtin; refine wpList_append_run rfl (.tmp 20) (.tmp 25) _ _ rfl _ _ (by rfl) (by rfl) _ _ ra ?_)
      go_roundw
      case rel => exact ⟨j + 1, gs ++ [wr.heap.size], by omega, by go_num, by rw [List.length_append, hgs]; rfl, by have h := H8.out; rw [hgs] at h; exact Lib.hid h⟩
      case measure => simp only [RowKit.intOf]; omega
    · have e : j = m := by omega
      subst e
      have MK2 := Lib.hid (MK.out _ _ _ HA.out hgs)
      have KW := Lib.hid HA.out.keep
      obtain ⟨A, cap, rfl, _, _⟩ := row_form HA.out.row
      rw [hgs, lk_make] at MK2
      have hlen : (dropG (lkQs (1 + (lk : Int)) j)).length ≤ 120 := by have := drop_len (lkQs (1 + (lk : Int)) j); rw [lkQs_len] at this; omega
      have HW := Lib.hid (want_drop (1 + (lk : Int)) j)
      generalize dropG (lkQs (1 + (lk : Int)) j) = its at *
      clear HM MK HA A0
      unfold MakeP at MK2
      simp only at MK2
      go_wp2_with fail
      refine MK2.out.mono ?_
      rintro e w1 ⟨v1, rfl, I1, k1⟩
      have K1 := Lib.hid (KW.out.trans k1)
      obtain ⟨A1, c1, rfl, h1, h2, h3⟩ := I1.form
      have HI := Lib.hid I1
      have HF := Lib.hid h3
      clear I1 h3 k1 MK2 KW
      obtain ⟨nl, hnl⟩ : ∃ nl, its.length = nl := ⟨_, rfl⟩
      have HNL := Lib.hid hnl
      rw [hnl] at h1 hlen ⊢
      clear hnl
      unfold maxLen at h2
      go_wp2_with fail
      go_loopw [10, 11] (fun x y wr => ∃ (i : Nat) (q : Int), i ≤ nl ∧ x = .int .i64 q ∧ y = .int .i64 i ∧ 0 ≤ q ∧ q + (nl - i) ≤ 1000 ∧ Hid (wr = w1) ∧ Hid (wantL q (its.drop i) = some (1 + (lk : Int) + j))) (fun _ y _ => nl - (RowKit.intOf y).toNat)
      case atStart => exact ⟨0, _, Nat.zero_le _, rfl, rfl, by omega, by omega, (by first | exact Lib.hid rfl | exact Lib.hid trivial), HW⟩
      case round =>
        obtain ⟨i, q, hi, rfl, rfl, hq0, hq1, HWR, HQ⟩ := hrel
        have hwr := HWR.out
        subst hwr
        by_cases ci : i < nl
        · have hi' : i < its.length := by rw [HNL.out]; exact ci
          obtain ⟨g, rfl⟩ := HF.out (by rw [HNL.out]; omega)
          have I1 := HI.out
          rw [HNL.out] at I1
          have c5 := ItsAt.cell (its := its) (by rw [HNL.out]; exact I1) hi' 5 (by decide)
          have c8 := ItsAt.cell (its := its) (by rw [HNL.out]; exact I1) hi' 8 (by decide)
          have HQ2 := HQ.out
          rw [List.drop_eq_getElem_cons hi'] at HQ2
          generalize its[i] = x at *
          have HS := want_step HQ2
          clear HQ2 I1
          replace c5 : wr.cell? ⟨g, i * 9 + 5, none⟩ = some (.string ⟨x.codes.toArray⟩) := c5
          replace c8 : wr.cell? ⟨g, i * 9 + 8, none⟩ = some (.int .i64 x.link) := c8
          rcases HS with ⟨e1, e2, e3⟩ | ⟨e1, e2, e3⟩
          · rw [e1] at c5
            rw [e2] at c8
            have HN := Lib.hid e3
            clear e1 e2 e3 HQ
            go_wp2_with fail
            go_roundw
            case rel => exact ⟨i + 1, q + 1, by omega, by go_num, by go_num, by omega, by omega, (by first | exact Lib.hid rfl | exact Lib.hid trivial), HN⟩
            case measure => simp only [RowKit.intOf]; omega
          · rw [e2] at c8
            obtain ⟨cb, hcb⟩ : ∃ cb : ByteArray, (⟨x.codes.toArray⟩ : ByteArray) = cb := ⟨_, rfl⟩
            have te : (cb.toList == [120]) = false := by rw [beq_eq_false_iff_ne, Lib.toList_data, ← hcb]; exact e1
            rw [hcb] at c5
            have HN := Lib.hid e3
            clear e1 e2 e3 HQ hcb
            go_wp2_with fail
            go_roundw
            case rel => exact ⟨i + 1, q, by omega, rfl, by go_num, by omega, by omega, (by first | exact Lib.hid rfl | exact Lib.hid trivial), HN⟩
            case measure => simp only [RowKit.intOf]; omega
        · have e : i = nl := by omega
          subst e
          have HQ2 := HQ.out
          rw [List.drop_of_length_le (Nat.le_of_eq HNL.out), wantL] at HQ2
          have hq : q = 1 + (lk : Int) + j := by injection HQ2
          have AW2 := Lib.hid (AW.out _ K1.out)
          clear HQ2 HQ
          subst hq
          go_wp2_with fail
          refine AW2.out.mono ?_
          rintro e w2 ⟨rfl, k2⟩
          have K2 := K1.out.trans k2
          go_wp2_with fail
          go_ret
          exact ⟨rfl, K2⟩
end Go.Proofs.YthmfkjgcbcjbaaaDoor

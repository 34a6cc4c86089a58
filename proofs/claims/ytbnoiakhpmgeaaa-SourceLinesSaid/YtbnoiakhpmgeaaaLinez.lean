/-
  SourceLines returns true of any text.
-/
import Derived.Test.YtbnoiakhpmgeaaaSaw
namespace Go.Proofs.Ytbnoiakhpmgeaaa
open Go.RowKit Go.Lib

set_option maxHeartbeats 400000 in
theorem linez_long (s : ByteArray) (w : World) (hs : s.size ≤ maxLen) (h : 3000 < s.size) :
    Calls Try.prog 5 #[.string s] w fun e w' => e = .returned (.bool true) ∧ Keeps w w' := by
  have AW := Lib.hid (awake_any w)
  unfold maxLen at hs
  go_enter Try.func5, Try.ntmps5
  go_wp2_with fail
  refine AW.out.mono ?_
  rintro e w2 ⟨rfl, k2⟩
  go_wp2_with fail
  go_ret
  exact ⟨rfl, k2⟩

/-- What is joined of the first k lines. -/
def joined (xs : List ByteArray) (k : Nat) : List UInt8 := joinLF ((xs.take k).map fun x => x.data.toList)
theorem joined_next (xs : List ByteArray) (k : Nat) (h : k < xs.length) : joined xs (k + 1) = joined xs k ++ (xs.getD k ⟨#[]⟩).data.toList ++ [10] := by
  unfold joined joinLF
  rw [List.take_succ_eq_append_getElem h, List.map_append, List.flatMap_append]
  simp [List.getD, List.getElem?_eq_getElem h]
theorem joined_len (xs : List ByteArray) (k : Nat) : (joined xs k).length ≤ (joinLF (xs.map fun x => x.data.toList)).length := by
  unfold joined joinLF
  conv => rhs; rw [← List.take_append_drop k xs]
  rw [List.map_append, List.flatMap_append, List.length_append]
  exact Nat.le_add_right _ _
theorem linesB_data (s : ByteArray) : (linesB s).map (fun x => x.data.toList) = linesL s.data.toList := by
  unfold linesB
  rw [List.map_map]
  conv => rhs; rw [← List.map_id (linesL s.data.toList)]
  apply List.map_congr_left
  intro x _
  rfl
theorem joined_size (s : ByteArray) (k : Nat) : (joined (linesB s) k).length ≤ s.size + 1 := by
  have h1 := joined_len (linesB s) k
  rw [linesB_data] at h1
  have hl := bytes_len s
  rcases joinLF_lines s.data.toList with e | e
  · rw [e] at h1; omega
  · rw [e, List.length_append, List.length_singleton] at h1; omega
theorem joined_all (s : ByteArray) : joined (linesB s) (linesB s).length = s.data.toList ∨ joined (linesB s) (linesB s).length = s.data.toList ++ [10] := by
  unfold joined
  rw [List.take_length, linesB_data]
  exact joinLF_lines _
theorem line_none (s : ByteArray) (k : Nat) (h : k < (linesB s).length) : ∀ j (hj : j < ((linesB s).getD k ⟨#[]⟩).size), ((linesB s).getD k ⟨#[]⟩)[j].toNat ≠ 10 := by
  intro j hj e
  have hm : (linesB s)[k].data.toList ∈ linesL s.data.toList := by
    rw [← linesB_data]
    exact List.mem_map.2 ⟨_, List.getElem_mem h, rfl⟩
  have hx : (linesB s).getD k ⟨#[]⟩ = (linesB s)[k] := by simp [List.getD, List.getElem?_eq_getElem h]
  have hb := linesL_none s.data.toList _ hm
  rw [← hx] at hb
  have hmem : ((linesB s).getD k ⟨#[]⟩)[j] ∈ ((linesB s).getD k ⟨#[]⟩).data.toList :=
    List.getElem_mem (l := ((linesB s).getD k ⟨#[]⟩).data.toList) (n := j) (by rw [bytes_len]; exact hj)
  exact hb _ hmem (UInt8.toNat_inj.1 e)
theorem line_size (s : ByteArray) (k : Nat) (h : k < (linesB s).length) : ((linesB s).getD k ⟨#[]⟩).size ≤ s.size := by
  have h1 := joined_size s (k + 1)
  rw [joined_next _ _ h, List.length_append, List.length_append, List.length_singleton, bytes_len] at h1
  omega

set_option maxHeartbeats 2000000 in
theorem linez_short (s : ByteArray) (w : World) (h : s.size ≤ 3000) :
    Calls Try.prog 5 #[.string s] w fun e w' => e = .returned (.bool true) ∧ Keeps w w' := by
  have AW := Lib.hid (fun W => awake_any W)
  have L1 := Lib.hid (fun W => lines_any s W (by omega))
  have hln := linesB_len s
  have JN := Lib.hid (joined_next (linesB s))
  have JS := Lib.hid (joined_size s)
  have JA := Lib.hid (joined_all s)
  have NL := Lib.hid (line_none s)
  have LS := Lib.hid (line_size s)
  generalize linesB s = xs at *
  obtain ⟨n, hn⟩ : ∃ n, xs.length = n := ⟨_, rfl⟩
  go_enter Try.func5, Try.ntmps5
  go_wp2_with fail
  refine (L1.out _).mono ?_
  rintro e w1 ⟨v, rfl, h1, k1⟩
  unfold Texts at h1
  rw [hn] at h1 hln
  obtain ⟨ao, cap, rfl, hc1, hc2⟩ := own_form h1
  unfold maxLen at hc2
  have K1 := Lib.hid k1
  have H1 := Lib.hid h1
  have HN := Lib.hid hn
  clear h1 k1 hn
  go_wp2_with fail
  go_loop [3, 5] (fun t i => ∃ (k : Nat) (acc : ByteArray), k ≤ n ∧ Hid (acc.data.toList = joined xs k) ∧ t = .string acc ∧ i = .int .i64 k) (fun _ i => n - (RowKit.intOf i).toNat)
  case atStart => exact ⟨0, ⟨#[]⟩, Nat.zero_le _, Lib.hid rfl, rfl, rfl⟩
  case round =>
    obtain ⟨k, acc, hk, HJ, rfl, rfl⟩ := hrel
    have hacc : acc.size ≤ s.size + 1 := by rw [← bytes_len, HJ.out]; exact JS.out k
    by_cases c : k < n
    · obtain ⟨_, _, g, rfl, hcell⟩ := own_cell H1.out (by omega)
      have c1 := hcell k c
      have hN := NL.out k (by rw [HN.out]; exact c)
      have hS := LS.out k (by rw [HN.out]; exact c)
      have HJ2 : Hid (joined xs (k + 1) = (acc ++ xs.getD k ⟨#[]⟩ ++ ⟨#[10]⟩).data.toList) := by
        have : joined xs (k + 1) = (acc ++ xs.getD k ⟨#[]⟩ ++ ⟨#[10]⟩).data.toList := by
          rw [JN.out k (by rw [HN.out]; exact c), ← HJ.out]; simp
        exact Lib.hid this
      have HN2 := Lib.hid hN
      clear hcell hN
      generalize xs.getD k ⟨#[]⟩ = x at *
      go_wp2_with fail
      go_loop [6] (fun j => ∃ q : Nat, q ≤ x.size ∧ j = .int .i64 q) (fun j => x.size - (RowKit.intOf j).toNat)
      case atStart => exact ⟨0, Nat.zero_le _, rfl⟩
      case round =>
        obtain ⟨q, hq, rfl⟩ := hrel
        by_cases cq : q < x.size
        · have hne := HN2.out q cq
          have tb : ((x[q].toNat : Int) == 10) = false := beq_eq_false_iff_ne.2 (by omega)
          clear hne
          go_wp2_with fail
          go_round
          case rel => exact ⟨q + 1, cq, by go_num⟩
          case measure => simp [RowKit.intOf]; omega
        · go_wp2_with fail
          go_round
          case rel => exact ⟨k + 1, acc ++ x ++ ⟨#[10]⟩, c, Lib.hid HJ2.out.symm, rfl, by go_num⟩
          case measure => simp [RowKit.intOf]; omega
    · obtain rfl : k = n := by omega
      go_wp2_with fail
      refine (AW.out _).mono ?_
      rintro e w2 ⟨rfl, k2⟩
      have K2 := Lib.hid (K1.out.trans k2)
      clear k2
      have hA := JA.out
      rw [HN.out, ← HJ.out] at hA
      rcases hA with e1 | e1
      · obtain rfl : acc = s := bytes_eq e1
        clear e1
        go_wp2_with fail
        go_ret
        exact ⟨rfl, K2.out⟩
      · obtain rfl : acc = s ++ ⟨#[10]⟩ := bytes_eq (by rw [e1]; simp)
        have n1 : ¬ (s ++ ⟨#[10]⟩ : ByteArray).toList = s.toList := fun e => by
          have := congrArg List.length e
          rw [Lib.toList_data, Lib.toList_data, bytes_len, bytes_len, ByteArray.size_append] at this
          have e3 : (⟨#[10]⟩ : ByteArray).size = 1 := rfl
          omega
        have n2 : ((s ++ ⟨#[10]⟩ : ByteArray).toList == s.toList) = false := beq_eq_false_iff_ne.2 n1
        have n3 : ¬ 9223372036854775807 < s.size + 1 := by omega
        clear e1 hacc
        go_wp2_with fail
        go_ret
        exact ⟨rfl, K2.out⟩
theorem linez_any (s : ByteArray) (w : World) (hs : s.size ≤ maxLen) :
    Calls Try.prog 5 #[.string s] w fun e w' => e = .returned (.bool true) ∧ Keeps w w' := by
  by_cases h : s.size ≤ 3000
  · exact linez_short s w h
  · exact linez_long s w hs (by omega)
end Go.Proofs.Ytbnoiakhpmgeaaa

/-
  Contracts of Before and After, of the package run and of the document's answer.
-/
import Derived.Test.YtjfbemoageeobaaRnt
import Derived.Test.YtjfbemoageeobaaWlk
namespace Go.Proofs.Ytjfbemoageeobaa
open Go.RowKit Go.Lib

set_option maxHeartbeats 2000000 in
set_option maxRecDepth 100000 in
theorem before_lo (s : ByteArray) (k : Nat) (w : World) (hs : s.size ≤ 100000) (hk : k ≤ s.size) (h4 : k < 4) :
    Calls Try.prog 9 #[.string s, .int .i64 (k : Nat)] w fun e w' => e = .returned (.int .i32 (befL s.data.toList (k : Nat))) ∧ Keeps w w' := by
  have hl := Lib.hid (bytes_len s)
  obtain ⟨T, hT⟩ : ∃ T, s.extract 0 k = T := ⟨_, rfl⟩
  have HTL : Hid (T.data.toList = (s.data.toList.drop 0).take (k - 0)) := Lib.hid (by rw [← hT, Lib.extract_data])
  have HE : Hid (befL s.data.toList (k : Nat) = lastR T.data.toList 0) := Lib.hid (by
    unfold befL
    rw [if_neg (by rw [hl.out]; omega), Int.toNat_natCast, HTL.out]
    rw [List.drop_zero, Nat.sub_zero])
  have hT1 : T.size ≤ 100000 := by rw [← bytes_len, HTL.out]; simp only [List.length_drop, List.length_take]; have := hl.out; omega
  have hTl := Lib.hid (bytes_len T)
  clear HTL
  go_enter Try.func9, Try.ntmps9
  go_wp2_with fail
  go_loopw [5] (fun o wr => ∃ (pos : Nat) (d : Int), pos ≤ T.size ∧ o = .int .i32 d ∧ Hid (wr.heap[w.heap.size]? = some (.stringIter T pos)) ∧ Hid (Keeps w wr) ∧ Hid (lastR (T.data.toList.drop pos) d = lastR T.data.toList 0)) (fun _ wr => T.size - wr.iterPos w.heap.size)
  case atStart => exact ⟨0, 0, Nat.zero_le _, rfl, Lib.hid (World.iter_heap w T 0), Lib.hid ((Keeps.refl w).iter T 0), Lib.hid rfl⟩
  case round =>
    obtain ⟨pos, d, hp, rfl, HI, HK, HA⟩ := hrel
    by_cases c : pos < T.size
    · obtain ⟨r, n, hst, hnx⟩ := next_at (P := Try.prog) HI.out c
      have h0 := hst.low
      have h1 := hst.high
      have hn1 := hst.one
      have hroom : pos + n ≤ T.size := by have := hst.room; have := hTl.out; omega
      have HI2 := Lib.hid (iterAt_heap wr w.heap.size T pos (pos + n) HI.out)
      have HK2 := Lib.hid (HK.out.iterAt (Nat.le_refl _) T (pos + n))
      have HN : Hid (lastR (T.data.toList.drop (pos + n)) r = lastR T.data.toList 0) := Lib.hid (by rw [← HA.out, lastR_next (by rw [hTl.out]; exact c) hst.dec h0 d])
      have P1 := Lib.hid (pos_at HI.out)
      clear hst
      go_wp2_with fail
      go_roundw
      case rel => exact ⟨pos + n, r, hroom, rfl, HI2, HK2, HN⟩
      case measure => rw [P1.out, pos_at HI2.out]; omega
    · have hit := HI.out
      have hnx : ∀ ty, (Instr.next (.pointer (some ⟨w.heap.size, 0, none⟩)) true ty).run Try.prog wr = _ := fun ty => run_next_end_at wr w.heap.size T pos ty hit c
      clear hit
      have HD : Hid (d = befL s.data.toList (k : Nat)) := Lib.hid (by
        rw [HE.out, ← HA.out, List.drop_eq_nil_of_le (by have := hTl.out; omega), lastR_nil])
      go_wp2_with fail
      go_ret
      exact ⟨by rw [← HD.out]; rfl, HK.out⟩

set_option maxHeartbeats 2000000 in
set_option maxRecDepth 100000 in
theorem before_hi (s : ByteArray) (k : Nat) (w : World) (hs : s.size ≤ 100000) (hk : k ≤ s.size) (h4 : 4 ≤ k) :
    Calls Try.prog 9 #[.string s, .int .i64 (k : Nat)] w fun e w' => e = .returned (.int .i32 (befL s.data.toList (k : Nat))) ∧ Keeps w w' := by
  have hl := Lib.hid (bytes_len s)
  obtain ⟨m, hm⟩ : ∃ m : Nat, m = ((k : Int) - 4).toNat := ⟨_, rfl⟩
  obtain ⟨T, hT⟩ : ∃ T, s.extract ((k : Int) - 4).toNat k = T := ⟨_, rfl⟩
  have HTL : Hid (T.data.toList = (s.data.toList.drop m).take (k - m)) := Lib.hid (by rw [← hT, Lib.extract_data, ← hm])
  have HE : Hid (befL s.data.toList (k : Nat) = lastR T.data.toList 0) := Lib.hid (by
    unfold befL
    rw [if_neg (by rw [hl.out]; omega), Int.toNat_natCast, HTL.out]
    rw [lastR_four _ _ (Nat.le_refl _), List.length_take, hl.out, Nat.min_eq_left hk, show m = k - 4 by omega, List.drop_take])
  have hT1 : T.size ≤ 100000 := by rw [← bytes_len, HTL.out]; simp only [List.length_drop, List.length_take]; have := hl.out; omega
  have hTl := Lib.hid (bytes_len T)
  clear HTL hm
  go_enter Try.func9, Try.ntmps9
  go_wp2_with fail
  go_loopw [5] (fun o wr => ∃ (pos : Nat) (d : Int), pos ≤ T.size ∧ o = .int .i32 d ∧ Hid (wr.heap[w.heap.size]? = some (.stringIter T pos)) ∧ Hid (Keeps w wr) ∧ Hid (lastR (T.data.toList.drop pos) d = lastR T.data.toList 0)) (fun _ wr => T.size - wr.iterPos w.heap.size)
  case atStart => exact ⟨0, 0, Nat.zero_le _, rfl, Lib.hid (World.iter_heap w T 0), Lib.hid ((Keeps.refl w).iter T 0), Lib.hid rfl⟩
  case round =>
    obtain ⟨pos, d, hp, rfl, HI, HK, HA⟩ := hrel
    by_cases c : pos < T.size
    · obtain ⟨r, n, hst, hnx⟩ := next_at (P := Try.prog) HI.out c
      have h0 := hst.low
      have h1 := hst.high
      have hn1 := hst.one
      have hroom : pos + n ≤ T.size := by have := hst.room; have := hTl.out; omega
      have HI2 := Lib.hid (iterAt_heap wr w.heap.size T pos (pos + n) HI.out)
      have HK2 := Lib.hid (HK.out.iterAt (Nat.le_refl _) T (pos + n))
      have HN : Hid (lastR (T.data.toList.drop (pos + n)) r = lastR T.data.toList 0) := Lib.hid (by rw [← HA.out, lastR_next (by rw [hTl.out]; exact c) hst.dec h0 d])
      have P1 := Lib.hid (pos_at HI.out)
      clear hst
      go_wp2_with fail
      go_roundw
      case rel => exact ⟨pos + n, r, hroom, rfl, HI2, HK2, HN⟩
      case measure => rw [P1.out, pos_at HI2.out]; omega
    · have hit := HI.out
      have hnx : ∀ ty, (Instr.next (.pointer (some ⟨w.heap.size, 0, none⟩)) true ty).run Try.prog wr = _ := fun ty => run_next_end_at wr w.heap.size T pos ty hit c
      clear hit
      have HD : Hid (d = befL s.data.toList (k : Nat)) := Lib.hid (by
        rw [HE.out, ← HA.out, List.drop_eq_nil_of_le (by have := hTl.out; omega), lastR_nil])
      go_wp2_with fail
      go_ret
      exact ⟨by rw [← HD.out]; rfl, HK.out⟩
set_option maxRecDepth 100000 in
theorem before_out (s : ByteArray) (k : Int) (w : World) (hs : s.size ≤ 100000) (hk : k < 0 ∨ (s.size : Int) < k) :
    Calls Try.prog 9 #[.string s, .int .i64 k] w fun e w' => e = .returned (.int .i32 (befL s.data.toList k)) ∧ Keeps w w' := by
  have e1 : befL s.data.toList k = 0 := by unfold befL; rw [if_pos (by rw [bytes_len]; exact hk)]
  rw [e1]
  clear e1
  rcases hk with hk | hk
  all_goals
    go_enter Try.func9, Try.ntmps9
    go_wp2_with fail
    go_ret
    exact ⟨rfl, Keeps.refl _⟩
theorem before_any (s : ByteArray) (k : Int) (w : World) (hs : s.size ≤ 100000) :
    Calls Try.prog 9 #[.string s, .int .i64 k] w fun e w' => e = .returned (.int .i32 (befL s.data.toList k)) ∧ Keeps w w' := by
  by_cases hk : k < 0 ∨ (s.size : Int) < k
  · exact before_out s k w hs hk
  · obtain ⟨m, rfl⟩ : ∃ m : Nat, k = (m : Int) := ⟨k.toNat, by omega⟩
    by_cases h4 : m < 4
    · exact before_lo s m w hs (by omega) h4
    · exact before_hi s m w hs (by omega) (by omega)

set_option maxHeartbeats 2000000 in
set_option maxRecDepth 100000 in
theorem rbefore_in (s : ByteArray) (k : Nat) (w : World) (hs : s.size ≤ 100000) (hk : k ≤ s.size) :
    Calls Try.prog 10 #[.string s, .int .i64 (k : Nat)] w fun e w' => e = .returned (.int .i32 (befL s.data.toList (k : Nat))) ∧ Keeps w w' := by
  have hl := Lib.hid (bytes_len s)
  obtain ⟨T, hT⟩ : ∃ T, s.extract 0 k = T := ⟨_, rfl⟩
  have HTL : Hid (T.data.toList = (s.data.toList.drop 0).take (k - 0)) := Lib.hid (by rw [← hT, Lib.extract_data])
  have HE : Hid (befL s.data.toList (k : Nat) = lastR T.data.toList 0) := Lib.hid (by
    unfold befL
    rw [if_neg (by rw [hl.out]; omega), Int.toNat_natCast, HTL.out]
    rw [List.drop_zero, Nat.sub_zero])
  have hT1 : T.size ≤ 100000 := by rw [← bytes_len, HTL.out]; simp only [List.length_drop, List.length_take]; have := hl.out; omega
  have hTl := Lib.hid (bytes_len T)
  clear HTL
  go_enter Try.func10, Try.ntmps10
  go_wp2_with fail
  go_loopw [5] (fun o wr => ∃ (pos : Nat) (d : Int), pos ≤ T.size ∧ o = .int .i32 d ∧ Hid (wr.heap[w.heap.size]? = some (.stringIter T pos)) ∧ Hid (Keeps w wr) ∧ Hid (lastR (T.data.toList.drop pos) d = lastR T.data.toList 0)) (fun _ wr => T.size - wr.iterPos w.heap.size)
  case atStart => exact ⟨0, 0, Nat.zero_le _, rfl, Lib.hid (World.iter_heap w T 0), Lib.hid ((Keeps.refl w).iter T 0), Lib.hid rfl⟩
  case round =>
    obtain ⟨pos, d, hp, rfl, HI, HK, HA⟩ := hrel
    by_cases c : pos < T.size
    · obtain ⟨r, n, hst, hnx⟩ := next_at (P := Try.prog) HI.out c
      have h0 := hst.low
      have h1 := hst.high
      have hn1 := hst.one
      have hroom : pos + n ≤ T.size := by have := hst.room; have := hTl.out; omega
      have HI2 := Lib.hid (iterAt_heap wr w.heap.size T pos (pos + n) HI.out)
      have HK2 := Lib.hid (HK.out.iterAt (Nat.le_refl _) T (pos + n))
      have HN : Hid (lastR (T.data.toList.drop (pos + n)) r = lastR T.data.toList 0) := Lib.hid (by rw [← HA.out, lastR_next (by rw [hTl.out]; exact c) hst.dec h0 d])
      have P1 := Lib.hid (pos_at HI.out)
      clear hst
      go_wp2_with fail
      go_roundw
      case rel => exact ⟨pos + n, r, hroom, rfl, HI2, HK2, HN⟩
      case measure => rw [P1.out, pos_at HI2.out]; omega
    · have hit := HI.out
      have hnx : ∀ ty, (Instr.next (.pointer (some ⟨w.heap.size, 0, none⟩)) true ty).run Try.prog wr = _ := fun ty => run_next_end_at wr w.heap.size T pos ty hit c
      clear hit
      have HD : Hid (d = befL s.data.toList (k : Nat)) := Lib.hid (by
        rw [HE.out, ← HA.out, List.drop_eq_nil_of_le (by have := hTl.out; omega), lastR_nil])
      go_wp2_with fail
      go_ret
      exact ⟨by rw [← HD.out]; rfl, HK.out⟩
set_option maxRecDepth 100000 in
theorem rbefore_out (s : ByteArray) (k : Int) (w : World) (hs : s.size ≤ 100000) (hk : k < 0 ∨ (s.size : Int) < k) :
    Calls Try.prog 10 #[.string s, .int .i64 k] w fun e w' => e = .returned (.int .i32 (befL s.data.toList k)) ∧ Keeps w w' := by
  have e1 : befL s.data.toList k = 0 := by unfold befL; rw [if_pos (by rw [bytes_len]; exact hk)]
  rw [e1]
  clear e1
  rcases hk with hk | hk
  all_goals
    go_enter Try.func10, Try.ntmps10
    go_wp2_with fail
    go_ret
    exact ⟨rfl, Keeps.refl _⟩
theorem rbefore_any (s : ByteArray) (k : Int) (w : World) (hs : s.size ≤ 100000) :
    Calls Try.prog 10 #[.string s, .int .i64 k] w fun e w' => e = .returned (.int .i32 (befL s.data.toList k)) ∧ Keeps w w' := by
  by_cases hk : k < 0 ∨ (s.size : Int) < k
  · exact rbefore_out s k w hs hk
  · obtain ⟨m, rfl⟩ : ∃ m : Nat, k = (m : Int) := ⟨k.toNat, by omega⟩
    exact rbefore_in s m w hs (by omega)

set_option maxHeartbeats 2000000 in
set_option maxRecDepth 100000 in
theorem after_in (s : ByteArray) (k : Nat) (w : World) (hs : s.size ≤ 100000) (hk : k ≤ s.size) :
    Calls Try.prog 11 #[.string s, .int .i64 (k : Nat)] w fun e w' => e = .returned (.int .i32 (aftL s.data.toList (k : Nat))) ∧ Keeps w w' := by
  have hl := Lib.hid (bytes_len s)
  obtain ⟨T, hT⟩ : ∃ T, s.extract k s.size = T := ⟨_, rfl⟩
  have HTL : Hid (T.data.toList = s.data.toList.drop k) := Lib.hid (by rw [← hT, Lib.extract_to_end])
  have HE : Hid (aftL s.data.toList (k : Nat) = if T.data.toList = [] then 0 else ((decodeL T.data.toList).1 : Int)) := Lib.hid (by
    unfold aftL
    rw [if_neg (by rw [hl.out]; omega), Int.toNat_natCast, HTL.out])
  have hT1 : T.size ≤ 100000 := by rw [← bytes_len, HTL.out]; simp only [List.length_drop]; have := hl.out; omega
  have hTl := Lib.hid (bytes_len T)
  clear HTL
  go_enter Try.func11, Try.ntmps11
  go_wp2_with fail
  go_loopw [] (fun wr => Hid (wr = w.iter T 0)) (fun wr => 0)
  case atStart => exact Lib.hid rfl
  case round =>
    have HI : Hid (wr.heap[w.heap.size]? = some (.stringIter T 0)) := Lib.hid (by rw [hrel.out]; exact World.iter_heap w T 0)
    have HK : Hid (Keeps w wr) := Lib.hid (by rw [hrel.out]; exact (Keeps.refl w).iter T 0)
    by_cases c : 0 < T.size
    · obtain ⟨r, n, hst, hnx⟩ := next_at (P := Try.prog) HI.out c
      have h0 := hst.low
      have h1 := hst.high
      have HR : Hid (aftL s.data.toList (k : Nat) = r) := Lib.hid (by
        have hd := hst.dec
        rw [List.drop_zero] at hd
        rw [HE.out, if_neg (fun e => by have := hTl.out; rw [e] at this; simp at this; omega), hd]
        dsimp only
        omega)
      have HK2 := Lib.hid (HK.out.iterAt (Nat.le_refl _) T n)
      clear hst
      go_wp2_with fail
      go_ret
      exact ⟨by rw [HR.out]; rfl, HK2.out⟩
    · have hit := HI.out
      have hnx : ∀ ty, (Instr.next (.pointer (some ⟨w.heap.size, 0, none⟩)) true ty).run Try.prog wr = _ := fun ty => run_next_end_at wr w.heap.size T 0 ty hit c
      clear hit
      have HR : Hid (aftL s.data.toList (k : Nat) = 0) := Lib.hid (by
        rw [HE.out, if_pos (List.eq_nil_of_length_eq_zero (by rw [hTl.out]; omega))])
      go_wp2_with fail
      go_ret
      exact ⟨by rw [HR.out]; rfl, HK.out⟩
set_option maxRecDepth 100000 in
theorem after_out (s : ByteArray) (k : Int) (w : World) (hs : s.size ≤ 100000) (hk : k < 0 ∨ (s.size : Int) < k) :
    Calls Try.prog 11 #[.string s, .int .i64 k] w fun e w' => e = .returned (.int .i32 (aftL s.data.toList k)) ∧ Keeps w w' := by
  have e1 : aftL s.data.toList k = 0 := by unfold aftL; rw [if_pos (by rw [bytes_len]; exact hk)]
  rw [e1]
  clear e1
  rcases hk with hk | hk
  all_goals
    go_enter Try.func11, Try.ntmps11
    go_wp2_with fail
    go_ret
    exact ⟨rfl, Keeps.refl _⟩
theorem after_any (s : ByteArray) (k : Int) (w : World) (hs : s.size ≤ 100000) :
    Calls Try.prog 11 #[.string s, .int .i64 k] w fun e w' => e = .returned (.int .i32 (aftL s.data.toList k)) ∧ Keeps w w' := by
  by_cases hk : k < 0 ∨ (s.size : Int) < k
  · exact after_out s k w hs hk
  · obtain ⟨m, rfl⟩ : ∃ m : Nat, k = (m : Int) := ⟨k.toNat, by omega⟩
    exact after_in s m w hs (by omega)

set_option maxHeartbeats 2000000 in
set_option maxRecDepth 100000 in
theorem rafter_in (s : ByteArray) (k : Nat) (w : World) (hs : s.size ≤ 100000) (hk : k ≤ s.size) :
    Calls Try.prog 12 #[.string s, .int .i64 (k : Nat)] w fun e w' => e = .returned (.int .i32 (aftL s.data.toList (k : Nat))) ∧ Keeps w w' := by
  have hl := Lib.hid (bytes_len s)
  obtain ⟨T, hT⟩ : ∃ T, s.extract k s.size = T := ⟨_, rfl⟩
  have HTL : Hid (T.data.toList = s.data.toList.drop k) := Lib.hid (by rw [← hT, Lib.extract_to_end])
  have HE : Hid (aftL s.data.toList (k : Nat) = if T.data.toList = [] then 0 else ((decodeL T.data.toList).1 : Int)) := Lib.hid (by
    unfold aftL
    rw [if_neg (by rw [hl.out]; omega), Int.toNat_natCast, HTL.out])
  have hT1 : T.size ≤ 100000 := by rw [← bytes_len, HTL.out]; simp only [List.length_drop]; have := hl.out; omega
  have hTl := Lib.hid (bytes_len T)
  clear HTL
  go_enter Try.func12, Try.ntmps12
  go_wp2_with fail
  go_loopw [] (fun wr => Hid (wr = w.iter T 0)) (fun wr => 0)
  case atStart => exact Lib.hid rfl
  case round =>
    have HI : Hid (wr.heap[w.heap.size]? = some (.stringIter T 0)) := Lib.hid (by rw [hrel.out]; exact World.iter_heap w T 0)
    have HK : Hid (Keeps w wr) := Lib.hid (by rw [hrel.out]; exact (Keeps.refl w).iter T 0)
    by_cases c : 0 < T.size
    · obtain ⟨r, n, hst, hnx⟩ := next_at (P := Try.prog) HI.out c
      have h0 := hst.low
      have h1 := hst.high
      have HR : Hid (aftL s.data.toList (k : Nat) = r) := Lib.hid (by
        have hd := hst.dec
        rw [List.drop_zero] at hd
        rw [HE.out, if_neg (fun e => by have := hTl.out; rw [e] at this; simp at this; omega), hd]
        dsimp only
        omega)
      have HK2 := Lib.hid (HK.out.iterAt (Nat.le_refl _) T n)
      clear hst
      go_wp2_with fail
      go_ret
      exact ⟨by rw [HR.out]; rfl, HK2.out⟩
    · have hit := HI.out
      have hnx : ∀ ty, (Instr.next (.pointer (some ⟨w.heap.size, 0, none⟩)) true ty).run Try.prog wr = _ := fun ty => run_next_end_at wr w.heap.size T 0 ty hit c
      clear hit
      have HR : Hid (aftL s.data.toList (k : Nat) = 0) := Lib.hid (by
        rw [HE.out, if_pos (List.eq_nil_of_length_eq_zero (by rw [hTl.out]; omega))])
      go_wp2_with fail
      go_ret
      exact ⟨by rw [HR.out]; rfl, HK.out⟩
set_option maxRecDepth 100000 in
theorem rafter_out (s : ByteArray) (k : Int) (w : World) (hs : s.size ≤ 100000) (hk : k < 0 ∨ (s.size : Int) < k) :
    Calls Try.prog 12 #[.string s, .int .i64 k] w fun e w' => e = .returned (.int .i32 (aftL s.data.toList k)) ∧ Keeps w w' := by
  have e1 : aftL s.data.toList k = 0 := by unfold aftL; rw [if_pos (by rw [bytes_len]; exact hk)]
  rw [e1]
  clear e1
  rcases hk with hk | hk
  all_goals
    go_enter Try.func12, Try.ntmps12
    go_wp2_with fail
    go_ret
    exact ⟨rfl, Keeps.refl _⟩
theorem rafter_any (s : ByteArray) (k : Int) (w : World) (hs : s.size ≤ 100000) :
    Calls Try.prog 12 #[.string s, .int .i64 k] w fun e w' => e = .returned (.int .i32 (aftL s.data.toList k)) ∧ Keeps w w' := by
  by_cases hk : k < 0 ∨ (s.size : Int) < k
  · exact rafter_out s k w hs hk
  · obtain ⟨m, rfl⟩ : ∃ m : Nat, k = (m : Int) := ⟨k.toNat, by omega⟩
    exact rafter_in s m w hs (by omega)
end Go.Proofs.Ytjfbemoageeobaa

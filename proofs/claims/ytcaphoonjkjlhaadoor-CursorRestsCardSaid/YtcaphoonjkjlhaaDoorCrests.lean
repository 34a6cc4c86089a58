/-
  CursorRests returns true of any text and number.
-/
import Derived.Test.YtcaphoonjkjlhaaDoorCparts
namespace Go.Proofs.YtcaphoonjkjlhaaDoor
open Go.RowKit Go.Lib

set_option maxHeartbeats 400000 in
theorem crests_long (s : ByteArray) (n : Nat) (w : World) (hs : s.size ≤ maxLen) (h : 500 < s.size) :
    Calls Tryd.prog 4 #[.string s, .int .u8 n] w fun e w' => e = .returned (.bool true) ∧ Keeps w w' := by
  have AW := Lib.hid (awake7_any w)
  unfold maxLen at hs
  go_enter Tryd.func4, Tryd.ntmps4
  go_wp2_with fail
  refine AW.out.mono ?_
  rintro e w2 ⟨rfl, k2⟩
  go_wp2_with fail
  go_ret
  exact ⟨rfl, k2⟩
/-- A place n columns on, what comes there, and what comes behind blanks. -/
theorem one_go (s : ByteArray) (n : Nat) (hs : s.size ≤ 500) : ∃ x y z i : Nat,
    skipL n 0 0 (s.data.toList.drop 0) = (x, y, z) ∧ Plc s x y z ∧ indL y z (s.data.toList.drop x) = i ∧ nextL (restL z (s.data.toList.drop x)) = nextL (s.data.toList.drop x) ∧ (restL z (s.data.toList.drop x)).length ≤ 600 ∧
    (0 < i ↔ nextL (restL z (s.data.toList.drop x)) ≠ restL z (s.data.toList.drop x)) := by
  have p1 := plc_skip n (plc_new s) (by omega)
  simp only [Nat.zero_add] at p1
  refine ⟨_, _, _, _, rfl, p1, rfl, rest_next p1.2.2, ?_, ind_pos p1.2.2⟩
  generalize (skipL n 0 0 (s.data.toList.drop 0)).1 = x at *
  generalize (skipL n 0 0 (s.data.toList.drop 0)).2.1 = y at *
  generalize (skipL n 0 0 (s.data.toList.drop 0)).2.2 = z at *
  have hz := p1.2.2.1
  unfold restL
  split
  · rw [List.length_append, List.length_replicate, List.length_tail, List.length_drop, bytes_len]; omega
  · rw [List.length_drop, bytes_len]; omega
theorem rest_zero (s : ByteArray) : (⟨(restL 0 (s.data.toList.drop 0)).toArray⟩ : ByteArray) = s := by
  unfold restL
  rw [if_neg (by simp), List.drop_zero]
/-- Where the blanks end. -/
theorem stop_at {l : List UInt8} {j : Nat} (hj : j ≤ l.length) (h : nextL (l.drop j) = nextL l) (hs : nextL (l.drop j) = l.drop j) : nextL l = l.drop j ∧ (0 < j ↔ nextL l ≠ l) ∧ ((nextL l).isEmpty = decide (j = l.length)) := by
  rw [hs] at h
  refine ⟨h.symm, ⟨fun h0 e => ?_, fun e => ?_⟩, ?_⟩
  · rw [← h] at e
    have := congrArg List.length e
    rw [List.length_drop] at this
    omega
  · refine Decidable.byContradiction fun k => e ?_
    rw [← h, show j = 0 by omega, List.drop_zero]
  · rw [← h]
    by_cases k : j = l.length
    · subst k; simp
    · rw [decide_eq_false k, List.isEmpty_eq_false_iff]
      intro e
      have := congrArg List.length e
      rw [List.length_drop] at this
      simp at this
      omega
theorem rests_keep {w W W' : World} {C : Nat} {s : ByteArray} {x y z : Int} (q : Keeps W W') (h : W.cell? ⟨C, 0, none⟩ = some (.string s) ∧ W.cell? ⟨C, 1, none⟩ = some (.int .i64 x) ∧ W.cell? ⟨C, 2, none⟩ = some (.int .i64 y) ∧ W.cell? ⟨C, 3, none⟩ = some (.int .i64 z) ∧ C < W.heap.size ∧ Keeps w W) :
    W'.cell? ⟨C, 0, none⟩ = some (.string s) ∧ W'.cell? ⟨C, 1, none⟩ = some (.int .i64 x) ∧ W'.cell? ⟨C, 2, none⟩ = some (.int .i64 y) ∧ W'.cell? ⟨C, 3, none⟩ = some (.int .i64 z) ∧ C < W'.heap.size ∧ Keeps w W' := by
  obtain ⟨a0, a1, a2, a3, hC, k⟩ := h
  exact ⟨(q.cell hC).trans a0, (q.cell hC).trans a1, (q.cell hC).trans a2, (q.cell hC).trans a3, Nat.lt_of_lt_of_le hC q.size, k.trans q⟩
theorem rests_end {w W : World} {C : Nat} {s : ByteArray} {x y z : Int} (h : W.cell? ⟨C, 0, none⟩ = some (.string s) ∧ W.cell? ⟨C, 1, none⟩ = some (.int .i64 x) ∧ W.cell? ⟨C, 2, none⟩ = some (.int .i64 y) ∧ W.cell? ⟨C, 3, none⟩ = some (.int .i64 z) ∧ C < W.heap.size ∧ Keeps w W) : Keeps w W := h.2.2.2.2.2
set_option maxHeartbeats 4000000 in
theorem crests_short (s : ByteArray) (n : Nat) (hn : n < 256) (w : World) (hs : s.size ≤ 500) :
    Calls Tryd.prog 4 #[.string s, .int .u8 n] w fun e w' => e = .returned (.bool true) ∧ Keeps w w' := by
  have AW := Lib.hid (fun W => awake7_any W)
  have NW := Lib.hid (fun W => new_any s W)
  obtain ⟨x, y, z, i, e1, p1, e2, e3, e4, e5⟩ := one_go s n hs
  have SA := Lib.hid (fun W => skip_any s 0 0 0 n (by omega) (plc_new s) (by omega) W)
  rw [Int.toNat_natCast, e1, Nat.zero_add] at SA
  have RN := Lib.hid (fun W => rest_any s 0 0 0 (plc_new s) (by omega) W)
  rw [rest_zero] at RN
  have RC := Lib.hid (fun W => rest_any s x y z p1 (by omega) W)
  have IC := Lib.hid (fun W => indent_any s x y z p1 (by omega) W)
  rw [e2] at IC
  have NC := Lib.hid (fun W => next_any s x y z p1 W)
  have BC := Lib.hid (fun W => blank_any s x y z p1 W)
  rw [← e3] at NC BC
  have E5 := Lib.hid e5
  clear e1 p1 e2 e3 e5
  simp only [Int.cast_ofNat_Int] at SA RN RC IC NC BC
  have hT : ∃ T : ByteArray, T.data.toList = restL z (s.data.toList.drop x) := ⟨⟨(restL z (s.data.toList.drop x)).toArray⟩, by simp⟩
  obtain ⟨T, hT⟩ := hT
  rw [← hT] at e4 E5 RC NC BC
  rw [bytes_mk] at RC
  rw [bytes_len] at e4
  have hlT := Lib.hid (bytes_len T)
  clear hT
  go_enter Tryd.func4, Tryd.ntmps4
  go_wp2_with fail
  (with_reducible refine (NW.out _).mono ?_)
  rintro e w1 ⟨rfl, q1⟩
  go_wp2_with fail
  (with_reducible refine (SA.out _).mono ?_)
  rintro e w2 ⟨rfl, q2⟩
  have K2 := Lib.hid (q1.trans q2)
  clear q1 q2
  go_wp2_with fail
  (with_reducible refine (RC.out _).mono ?_)
  rintro e w3 ⟨rfl, q3⟩
  have C3 := Lib.hid ((Blk.new w2 _ _).keep q3)
  have K3 := Lib.hid ((K2.out.alloc _).trans q3)
  clear q3 K2
  generalize w2.heap.size = C at *
  have S3 := Lib.hid (p := w3.cell? ⟨C, 0, none⟩ = some (.string s) ∧ w3.cell? ⟨C, 1, none⟩ = some (.int .i64 x) ∧ w3.cell? ⟨C, 2, none⟩ = some (.int .i64 y) ∧ w3.cell? ⟨C, 3, none⟩ = some (.int .i64 z) ∧ C < w3.heap.size ∧ Keeps w w3) ⟨C3.out.cell 0 rfl, C3.out.cell 1 rfl, C3.out.cell 2 rfl, C3.out.cell 3 rfl, C3.out.lt, K3.out⟩
  clear C3 K3 SA RC
  have hs1 : Hid (s.size ≤ 500) := Lib.hid hs
  clear hs hn
  go_wp2_with fail
  go_loop [7] (fun v => ∃ j : Nat, v = .int .i64 j ∧ j ≤ T.size ∧ Hid (nextL (T.data.toList.drop j) = nextL T.data.toList)) (fun v => T.size - (RowKit.intOf v).toNat)
  case atStart => exact ⟨0, rfl, Nat.zero_le _, Lib.hid rfl⟩
  case round =>
    obtain ⟨j, rfl, hj, HN⟩ := hrel
    by_cases c : j < T.size
    · have hb := T[j].toNat_lt
      have HD := Lib.hid (drop_cons T.data.toList j (by have := hlT.out; omega))
      have HG : Hid (T.data.toList[j]'(by have := hlT.out; omega) = T[j]) := Lib.hid rfl
      by_cases b1 : T[j] = 32 ∨ T[j] = 9
      · have HM : Hid (nextL (T.data.toList.drop (j + 1)) = nextL T.data.toList) := Lib.hid (by
          have := HN.out
          rw [HD.out, HG.out, next_cons, if_pos (by rcases b1 with e | e <;> rw [e] <;> rfl)] at this
          exact this)
        rcases b1 with e | e
        · have t1 : ((T[j].toNat : Int) == 32) = true := by rw [e]; rfl
          clear e
          go_wp2_with fail
          go_round
          case rel => exact ⟨j + 1, by go_num, by omega, HM⟩
          case measure => simp [RowKit.intOf]; omega
        · have t1 : ((T[j].toNat : Int) == 32) = false := by rw [e]; rfl
          have t2 : ((T[j].toNat : Int) == 9) = true := by rw [e]; rfl
          clear e
          go_wp2_with fail
          go_round
          case rel => exact ⟨j + 1, by go_num, by omega, HM⟩
          case measure => simp [RowKit.intOf]; omega
      · have t1 : ((T[j].toNat : Int) == 32) = false := by
          have : ¬ T[j] = 32 := fun h => b1 (.inl h)
          rw [← UInt8.toNat_inj] at this
          simp at this ⊢; omega
        have t2 : ((T[j].toNat : Int) == 9) = false := by
          have : ¬ T[j] = 9 := fun h => b1 (.inr h)
          rw [← UInt8.toNat_inj] at this
          simp at this ⊢; omega
        have HX : Hid (nextL (T.data.toList.drop j) = T.data.toList.drop j) := Lib.hid (by
          rw [HD.out, HG.out, next_cons, if_neg]
          intro h
          have : T[j] = 32 ∨ T[j] = 9 := by simpa using h
          exact b1 this)
        clear b1
        have hq := stop_at (l := T.data.toList) (j := j) (by have := hlT.out; omega) HN.out HX.out
        rw [hlT.out] at hq
        rw [hq.2.2] at BC
        have hT : (⟨(nextL T.data.toList).toArray⟩ : ByteArray) = T.extract j T.size := by rw [hq.1, ext_drop]
        rw [hT] at NC
        have hij : 0 < i ↔ 0 < j := E5.out.trans hq.2.1.symm
        clear hq hT HX HN E5
        have hbb : ((j : Int) == (T.size : Int)) = decide (j = T.size) := by rw [Bool.eq_iff_iff]; simp; omega
        generalize decide (j = T.size) = bb at *
        by_cases hi : 0 < j
        · have hi2 := hij.2 hi
          clear hij
          go_wp2_with fail
          go_region_held3 (fun w' => w'.cell? ⟨C, 0, none⟩ = some (.string s) ∧ w'.cell? ⟨C, 1, none⟩ = some (.int .i64 x) ∧ w'.cell? ⟨C, 2, none⟩ = some (.int .i64 y) ∧ w'.cell? ⟨C, 3, none⟩ = some (.int .i64 z) ∧ C < w'.heap.size ∧ Keeps w w')
            (first | assumption | (exact rests_keep ((Keeps.refl _).drewN 1) S3.out) | (refine rests_keep kk ?_; assumption) | (refine rests_keep kk (rests_keep ((Keeps.refl _).drewN 1) ?_); assumption))
            (first
              | (go_at_call 6; (with_reducible refine (AW.out _).mono ?_); rintro e w6 ⟨rfl, kk⟩)
              | (go_at_call 7; (with_reducible refine (NW.out _).mono ?_); rintro e w6 ⟨rfl, kk⟩)
              | (go_at_call 12; (with_reducible refine (RN.out _).mono ?_); rintro e w6 ⟨rfl, kk⟩)
              | (go_at_call 11; (with_reducible refine (NC.out _).mono ?_); rintro e w6 ⟨rfl, kk⟩)
              | (go_at_call 13; (with_reducible refine (BC.out _).mono ?_); rintro e w6 ⟨rfl, kk⟩)
              | (go_at_call 9; (with_reducible refine (IC.out _).mono ?_); rintro e w6 ⟨rfl, kk⟩))
          all_goals
            go_wp2_with fail
            go_ret
            exact ⟨rfl, rests_end (C := C) (s := s) (x := x) (y := y) (z := z) (by assumption)⟩
        · obtain rfl : j = 0 := by omega
          obtain rfl : i = 0 := by have : ¬ 0 < i := fun h => hi (hij.1 h); omega
          have hbb : ((0 : Int) == (T.size : Int)) = bb := hbb
          clear hij hi
          go_wp2_with fail
          go_region_held3 (fun w' => w'.cell? ⟨C, 0, none⟩ = some (.string s) ∧ w'.cell? ⟨C, 1, none⟩ = some (.int .i64 x) ∧ w'.cell? ⟨C, 2, none⟩ = some (.int .i64 y) ∧ w'.cell? ⟨C, 3, none⟩ = some (.int .i64 z) ∧ C < w'.heap.size ∧ Keeps w w')
            (first | assumption | (exact rests_keep ((Keeps.refl _).drewN 1) S3.out) | (refine rests_keep kk ?_; assumption) | (refine rests_keep kk (rests_keep ((Keeps.refl _).drewN 1) ?_); assumption))
            (first
              | (go_at_call 6; (with_reducible refine (AW.out _).mono ?_); rintro e w6 ⟨rfl, kk⟩)
              | (go_at_call 7; (with_reducible refine (NW.out _).mono ?_); rintro e w6 ⟨rfl, kk⟩)
              | (go_at_call 12; (with_reducible refine (RN.out _).mono ?_); rintro e w6 ⟨rfl, kk⟩)
              | (go_at_call 11; (with_reducible refine (NC.out _).mono ?_); rintro e w6 ⟨rfl, kk⟩)
              | (go_at_call 13; (with_reducible refine (BC.out _).mono ?_); rintro e w6 ⟨rfl, kk⟩)
              | (go_at_call 9; (with_reducible refine (IC.out _).mono ?_); rintro e w6 ⟨rfl, kk⟩))
          all_goals
            go_wp2_with fail
            go_ret
            exact ⟨rfl, rests_end (C := C) (s := s) (x := x) (y := y) (z := z) (by assumption)⟩
    · have HX : Hid (nextL (T.data.toList.drop j) = T.data.toList.drop j) := Lib.hid (by rw [List.drop_eq_nil_of_le (by have := hlT.out; omega)]; rfl)
      have hq := stop_at (l := T.data.toList) (j := j) (by have := hlT.out; omega) HN.out HX.out
      rw [hlT.out] at hq
      rw [hq.2.2] at BC
      have hT : (⟨(nextL T.data.toList).toArray⟩ : ByteArray) = T.extract j T.size := by rw [hq.1, ext_drop]
      rw [hT] at NC
      have hij : 0 < i ↔ 0 < j := E5.out.trans hq.2.1.symm
      clear hq hT HX HN E5
      have hbb : ((j : Int) == (T.size : Int)) = decide (j = T.size) := by rw [Bool.eq_iff_iff]; simp; omega
      generalize decide (j = T.size) = bb at *
      by_cases hi : 0 < j
      · have hi2 := hij.2 hi
        clear hij
        go_wp2_with fail
        go_region_held3 (fun w' => w'.cell? ⟨C, 0, none⟩ = some (.string s) ∧ w'.cell? ⟨C, 1, none⟩ = some (.int .i64 x) ∧ w'.cell? ⟨C, 2, none⟩ = some (.int .i64 y) ∧ w'.cell? ⟨C, 3, none⟩ = some (.int .i64 z) ∧ C < w'.heap.size ∧ Keeps w w')
          (first | assumption | (exact rests_keep ((Keeps.refl _).drewN 1) S3.out) | (refine rests_keep kk ?_; assumption) | (refine rests_keep kk (rests_keep ((Keeps.refl _).drewN 1) ?_); assumption))
          (first
            | (go_at_call 6; (with_reducible refine (AW.out _).mono ?_); rintro e w6 ⟨rfl, kk⟩)
            | (go_at_call 7; (with_reducible refine (NW.out _).mono ?_); rintro e w6 ⟨rfl, kk⟩)
            | (go_at_call 12; (with_reducible refine (RN.out _).mono ?_); rintro e w6 ⟨rfl, kk⟩)
            | (go_at_call 11; (with_reducible refine (NC.out _).mono ?_); rintro e w6 ⟨rfl, kk⟩)
            | (go_at_call 13; (with_reducible refine (BC.out _).mono ?_); rintro e w6 ⟨rfl, kk⟩)
            | (go_at_call 9; (with_reducible refine (IC.out _).mono ?_); rintro e w6 ⟨rfl, kk⟩))
        all_goals
          go_wp2_with fail
          go_ret
          exact ⟨rfl, rests_end (C := C) (s := s) (x := x) (y := y) (z := z) (by assumption)⟩
      · obtain rfl : j = 0 := by omega
        obtain rfl : i = 0 := by have : ¬ 0 < i := fun h => hi (hij.1 h); omega
        have hbb : ((0 : Int) == (T.size : Int)) = bb := hbb
        clear hij hi
        go_wp2_with fail
        go_region_held3 (fun w' => w'.cell? ⟨C, 0, none⟩ = some (.string s) ∧ w'.cell? ⟨C, 1, none⟩ = some (.int .i64 x) ∧ w'.cell? ⟨C, 2, none⟩ = some (.int .i64 y) ∧ w'.cell? ⟨C, 3, none⟩ = some (.int .i64 z) ∧ C < w'.heap.size ∧ Keeps w w')
          (first | assumption | (exact rests_keep ((Keeps.refl _).drewN 1) S3.out) | (refine rests_keep kk ?_; assumption) | (refine rests_keep kk (rests_keep ((Keeps.refl _).drewN 1) ?_); assumption))
          (first
            | (go_at_call 6; (with_reducible refine (AW.out _).mono ?_); rintro e w6 ⟨rfl, kk⟩)
            | (go_at_call 7; (with_reducible refine (NW.out _).mono ?_); rintro e w6 ⟨rfl, kk⟩)
            | (go_at_call 12; (with_reducible refine (RN.out _).mono ?_); rintro e w6 ⟨rfl, kk⟩)
            | (go_at_call 11; (with_reducible refine (NC.out _).mono ?_); rintro e w6 ⟨rfl, kk⟩)
            | (go_at_call 13; (with_reducible refine (BC.out _).mono ?_); rintro e w6 ⟨rfl, kk⟩)
            | (go_at_call 9; (with_reducible refine (IC.out _).mono ?_); rintro e w6 ⟨rfl, kk⟩))
        all_goals
          go_wp2_with fail
          go_ret
          exact ⟨rfl, rests_end (C := C) (s := s) (x := x) (y := y) (z := z) (by assumption)⟩
theorem crests_any (s : ByteArray) (n : Nat) (hn : n < 256) (w : World) (hs : s.size ≤ maxLen) :
    Calls Tryd.prog 4 #[.string s, .int .u8 n] w fun e w' => e = .returned (.bool true) ∧ Keeps w w' := by
  by_cases h : s.size ≤ 500
  · exact crests_short s n hn w h
  · exact crests_long s n w hs (by omega)
end Go.Proofs.YtcaphoonjkjlhaaDoor

/-
  The contract of package fix's Parse, for every text.
-/
import Derived.Test.YtfpfjaedoafnpaaDoorFixe
namespace Go.Proofs.YtfpfjaedoafnpaaDoor
open Go.RowKit Go.Shelf Go.Lib

theorem three (R : List UInt8) (h : ∀ b ∈ R, isD b = true) : ∀ b ∈ (R ++ [48, 48, 48]).take 3, isD b = true := fun b hb => by
  have := List.mem_of_mem_take hb
  rw [List.mem_append] at this
  rcases this with h1 | h1
  · exact h b h1
  · simp only [List.mem_cons, List.not_mem_nil, or_false, or_self] at h1
    subst h1; rfl
theorem decs_all (l : List UInt8) : ∀ b ∈ decs l, isD b = true := fun b hb => by
  unfold decs at hb
  split at hb
  · exact digs_all _ _ b hb
  · cases hb
theorem decs_len (l : List UInt8) : (decs l).length ≤ 3 ∧ (decs l).length ≤ l.length - 1 := by
  unfold decs
  split
  · have := digs_length (l.drop 1) 3
    rw [List.length_drop] at this
    exact this
  · simp

theorem parse_none (s : ByteArray) (w : World) (hs : s.size ≤ maxLen) (h : wholeOf s.data.toList = []) :
    Calls Tryd.prog 8 #[.string s] w fun e w' => e = .returned (.tuple #[.int .i64 0, .int .i64 0]) ∧ w = w' := by
  have P := Lib.hid (fun W => Tryd.strings_HasPrefix s ⟨#[45]⟩ W)
  have hlen : s.data.toList.length = s.size := by simp
  cases hp : Lib.hasPrefix s.data.toList [45] with
  | false =>
    have D := Lib.hid (fun W => digits_any s 15 W hs)
    unfold wholeOf sgn at h
    rw [hp] at P h
    simp only [Bool.false_eq_true, if_false, List.drop_zero] at h
    rw [h] at D
    clear hp h hlen
    unfold maxLen at hs
    go_enter Tryd.func8, Tryd.ntmps8
    go_wp2_with fail
    refine (P.out _).mono ?_
    rintro e w' ⟨rfl, rfl⟩
    go_wp2_with fail
    refine (D.out _).mono ?_
    rintro e w' ⟨rfl, rfl⟩
    go_wp2_with fail
    go_ret2
    exact ⟨rfl, rfl⟩
  | true =>
    have hz := prefix_size hp
    have D := Lib.hid (fun W => digits_any (s.extract 1 s.size) 15 W (by rw [ByteArray.size_extract]; omega))
    unfold wholeOf sgn at h
    rw [hp] at P h
    simp only [if_true] at h
    rw [Lib.extract_to_end, h] at D
    clear hp h hlen
    unfold maxLen at hs
    go_enter Tryd.func8, Tryd.ntmps8
    go_wp2_with fail
    refine (P.out _).mono ?_
    rintro e w' ⟨rfl, rfl⟩
    go_wp2_with fail
    refine (D.out _).mono ?_
    rintro e w' ⟨rfl, rfl⟩
    go_wp2_with fail
    go_ret2
    exact ⟨rfl, rfl⟩

set_option maxHeartbeats 800000 in
theorem parse_pos (s : ByteArray) (w : World) (hs : s.size ≤ maxLen) (hp : Lib.hasPrefix s.data.toList [45] = false) (h : wholeOf s.data.toList ≠ []) :
    Calls Tryd.prog 8 #[.string s] w fun e w' => e = .returned (.tuple #[.int .i64 (parseN s.data.toList), .int .i64 (parseK s.data.toList)]) ∧ w = w' := by
  have P := Lib.hid (fun W => Tryd.strings_HasPrefix s ⟨#[45]⟩ W)
  have hlen : s.data.toList.length = s.size := by simp
  have hsg : sgn s.data.toList = 0 := by unfold sgn; rw [hp]; rfl
  have hW : wholeOf s.data.toList = digs (s.data.toList.drop 0) 15 := by unfold wholeOf; rw [hsg]
  have hN : parseN s.data.toList = (numOf s.data.toList : Int) := by unfold parseN; rw [if_neg h, hp]; rfl
  have hK : parseK s.data.toList = (wholeOf s.data.toList).length + (if restOf s.data.toList = [] then 0 else 1 + (restOf s.data.toList).length) := by unfold parseK; rw [if_neg h, hsg, Nat.zero_add]
  have hR : restOf s.data.toList = decs (s.data.toList.drop ((wholeOf s.data.toList).length)) := by unfold restOf; rw [hsg, Nat.zero_add]
  have hz : 0 ≤ s.size := by omega
  have D := Lib.hid (fun W => digits_any s 15 W (by exact hs))
  rw [← show wholeOf s.data.toList = digs s.data.toList 15 from hW] at D
  have wl := digs_length (s.data.toList.drop 0) 15
  have wa := digs_all (s.data.toList.drop 0) 15
  rw [← hW] at wl wa
  rw [List.length_drop, hlen] at wl
  have wp : 0 < (wholeOf s.data.toList).length := List.length_pos_iff.2 h
  have DE := Lib.hid (fun W => decimals_any (s.extract ((wholeOf s.data.toList).length) s.size) W (by rw [ByteArray.size_extract]; omega))
  rw [Lib.extract_to_end, ← hR] at DE
  have rl := decs_len (s.data.toList.drop ((wholeOf s.data.toList).length))
  have ra := decs_all (s.data.toList.drop ((wholeOf s.data.toList).length))
  rw [← hR] at rl ra
  rw [List.length_drop, hlen] at rl
  have ne : ({ data := (wholeOf s.data.toList).toArray } : ByteArray) ≠ ⟨#[]⟩ := fun k => h (by simpa using congrArg (fun b : ByteArray => b.data.toList) k)
  have hv : numOf s.data.toList = val (wholeOf s.data.toList ++ (restOf s.data.toList ++ [48, 48, 48]).take 3) := rfl
  have hvl := val_lt (wholeOf s.data.toList ++ (restOf s.data.toList ++ [48, 48, 48]).take 3) (fun b hb => by
    rw [List.mem_append] at hb
    rcases hb with hb | hb
    · exact wa b hb
    · exact three _ ra b hb)
  have hl3 : ((restOf s.data.toList ++ [48, 48, 48]).take 3).length = 3 := by rw [List.length_take, List.length_append]; simp
  rw [List.length_append, hl3, ← hv] at hvl
  have hvb : numOf s.data.toList < 1000000000000000000 := by
    have : 10 ^ ((wholeOf s.data.toList).length + 3) ≤ 10 ^ 18 := Nat.pow_le_pow_right (by omega) (by omega)
    omega
  have three' := three _ ra
  rw [hp] at P
  clear hp hsg hW hR hvl
  have HN := Lib.hid hN
  clear hN
  have HK := Lib.hid hK
  clear hK
  have HV := Lib.hid hv
  clear hv
  generalize parseN s.data.toList = pn at *
  generalize parseK s.data.toList = pk at *
  generalize numOf s.data.toList = nv at *
  generalize wholeOf s.data.toList = W at *
  generalize restOf s.data.toList = R at *
  have VA := Lib.hid (fun w => value_any ({ data := W.toArray } ++ (({ data := R.toArray } : ByteArray) ++ { data := #[48, 48, 48] }).extract 0 3) w (by
      rw [ByteArray.size_append, ByteArray.size_extract, ByteArray.size_append]; simp [ByteArray.size]; omega) (fun b hb => by
      rw [bytes_app, List.mem_append, Lib.extract_data, bytes_app] at hb
      rcases hb with hb | hb
      · exact wa b hb
      · exact three' b hb))
  have eV : ({ data := W.toArray } ++ (({ data := R.toArray } : ByteArray) ++ { data := #[48, 48, 48] }).extract 0 3).data.toList = W ++ (R ++ [48, 48, 48]).take 3 := by
    rw [bytes_app, Lib.extract_data, bytes_app]; rfl
  rw [eV, ← HV.out] at VA
  clear eV HV three' wa ra hlen
  have tW : (W.isEmpty) = false := by simpa using h
  have tW2 : (!W.isEmpty) = true := by simpa using h
  clear h ne
  unfold maxLen at hs
  by_cases hr : R = []
  · rw [if_pos hr] at HK
    subst hr
    go_enter Tryd.func8, Tryd.ntmps8
    go_wp2_with fail
    refine (P.out _).mono ?_
    rintro e w' ⟨rfl, rfl⟩
    go_wp2_with fail
    refine (D.out _).mono ?_
    rintro e w' ⟨rfl, rfl⟩
    go_wp2_with fail
    refine (DE.out _).mono ?_
    rintro e w' ⟨rfl, rfl⟩
    go_wp2_with fail
    refine (VA.out _).mono ?_
    rintro e w' ⟨rfl, rfl⟩
    go_wp2_with fail
    go_ret2
    exact ⟨ret_two HN.out.symm (by rw [HK.out]; omega), rfl⟩
  · rw [if_neg hr] at HK
    have tR : (R.isEmpty) = false := by simpa using hr
    have tR2 : (!R.isEmpty) = true := by simpa using hr
    clear hr
    go_enter Tryd.func8, Tryd.ntmps8
    go_wp2_with fail
    refine (P.out _).mono ?_
    rintro e w' ⟨rfl, rfl⟩
    go_wp2_with fail
    refine (D.out _).mono ?_
    rintro e w' ⟨rfl, rfl⟩
    go_wp2_with fail
    refine (DE.out _).mono ?_
    rintro e w' ⟨rfl, rfl⟩
    go_wp2_with fail
    refine (VA.out _).mono ?_
    rintro e w' ⟨rfl, rfl⟩
    go_wp2_with fail
    go_ret2
    exact ⟨ret_two HN.out.symm (by rw [HK.out]; omega), rfl⟩

set_option maxHeartbeats 800000 in
theorem parse_neg (s : ByteArray) (w : World) (hs : s.size ≤ maxLen) (hp : Lib.hasPrefix s.data.toList [45] = true) (h : wholeOf s.data.toList ≠ []) :
    Calls Tryd.prog 8 #[.string s] w fun e w' => e = .returned (.tuple #[.int .i64 (parseN s.data.toList), .int .i64 (parseK s.data.toList)]) ∧ w = w' := by
  have P := Lib.hid (fun W => Tryd.strings_HasPrefix s ⟨#[45]⟩ W)
  have hlen : s.data.toList.length = s.size := by simp
  have hsg : sgn s.data.toList = 1 := by unfold sgn; rw [hp]; rfl
  have hW : wholeOf s.data.toList = digs (s.data.toList.drop 1) 15 := by unfold wholeOf; rw [hsg]
  have hN : parseN s.data.toList = -(numOf s.data.toList : Int) := by unfold parseN; rw [if_neg h, hp]; rfl
  have hK : parseK s.data.toList = 1 + (wholeOf s.data.toList).length + (if restOf s.data.toList = [] then 0 else 1 + (restOf s.data.toList).length) := by unfold parseK; rw [if_neg h, hsg]
  have hR : restOf s.data.toList = decs (s.data.toList.drop (1 + (wholeOf s.data.toList).length)) := by unfold restOf; rw [hsg]
  have hz : 1 ≤ s.size := by exact prefix_size hp
  have D := Lib.hid (fun W => digits_any (s.extract 1 s.size) 15 W (by rw [ByteArray.size_extract]; omega))
  rw [Lib.extract_to_end, ← hW] at D
  have wl := digs_length (s.data.toList.drop 1) 15
  have wa := digs_all (s.data.toList.drop 1) 15
  rw [← hW] at wl wa
  rw [List.length_drop, hlen] at wl
  have wp : 0 < (wholeOf s.data.toList).length := List.length_pos_iff.2 h
  have DE := Lib.hid (fun W => decimals_any (s.extract (1 + (wholeOf s.data.toList).length) s.size) W (by rw [ByteArray.size_extract]; omega))
  rw [Lib.extract_to_end, ← hR] at DE
  have rl := decs_len (s.data.toList.drop (1 + (wholeOf s.data.toList).length))
  have ra := decs_all (s.data.toList.drop (1 + (wholeOf s.data.toList).length))
  rw [← hR] at rl ra
  rw [List.length_drop, hlen] at rl
  have ne : ({ data := (wholeOf s.data.toList).toArray } : ByteArray) ≠ ⟨#[]⟩ := fun k => h (by simpa using congrArg (fun b : ByteArray => b.data.toList) k)
  have hv : numOf s.data.toList = val (wholeOf s.data.toList ++ (restOf s.data.toList ++ [48, 48, 48]).take 3) := rfl
  have hvl := val_lt (wholeOf s.data.toList ++ (restOf s.data.toList ++ [48, 48, 48]).take 3) (fun b hb => by
    rw [List.mem_append] at hb
    rcases hb with hb | hb
    · exact wa b hb
    · exact three _ ra b hb)
  have hl3 : ((restOf s.data.toList ++ [48, 48, 48]).take 3).length = 3 := by rw [List.length_take, List.length_append]; simp
  rw [List.length_append, hl3, ← hv] at hvl
  have hvb : numOf s.data.toList < 1000000000000000000 := by
    have : 10 ^ ((wholeOf s.data.toList).length + 3) ≤ 10 ^ 18 := Nat.pow_le_pow_right (by omega) (by omega)
    omega
  have three' := three _ ra
  rw [hp] at P
  clear hp hsg hW hR hvl
  have HN := Lib.hid hN
  clear hN
  have HK := Lib.hid hK
  clear hK
  have HV := Lib.hid hv
  clear hv
  generalize parseN s.data.toList = pn at *
  generalize parseK s.data.toList = pk at *
  generalize numOf s.data.toList = nv at *
  generalize wholeOf s.data.toList = W at *
  generalize restOf s.data.toList = R at *
  have VA := Lib.hid (fun w => value_any ({ data := W.toArray } ++ (({ data := R.toArray } : ByteArray) ++ { data := #[48, 48, 48] }).extract 0 3) w (by
      rw [ByteArray.size_append, ByteArray.size_extract, ByteArray.size_append]; simp [ByteArray.size]; omega) (fun b hb => by
      rw [bytes_app, List.mem_append, Lib.extract_data, bytes_app] at hb
      rcases hb with hb | hb
      · exact wa b hb
      · exact three' b hb))
  have eV : ({ data := W.toArray } ++ (({ data := R.toArray } : ByteArray) ++ { data := #[48, 48, 48] }).extract 0 3).data.toList = W ++ (R ++ [48, 48, 48]).take 3 := by
    rw [bytes_app, Lib.extract_data, bytes_app]; rfl
  rw [eV, ← HV.out] at VA
  clear eV HV three' wa ra hlen
  have tW : (W.isEmpty) = false := by simpa using h
  have tW2 : (!W.isEmpty) = true := by simpa using h
  clear h ne
  unfold maxLen at hs
  by_cases hr : R = []
  · rw [if_pos hr] at HK
    subst hr
    go_enter Tryd.func8, Tryd.ntmps8
    go_wp2_with fail
    refine (P.out _).mono ?_
    rintro e w' ⟨rfl, rfl⟩
    go_wp2_with fail
    refine (D.out _).mono ?_
    rintro e w' ⟨rfl, rfl⟩
    go_wp2_with fail
    refine (DE.out _).mono ?_
    rintro e w' ⟨rfl, rfl⟩
    go_wp2_with fail
    refine (VA.out _).mono ?_
    rintro e w' ⟨rfl, rfl⟩
    go_wp2_with fail
    go_ret2
    exact ⟨ret_two HN.out.symm (by rw [HK.out]; omega), rfl⟩
  · rw [if_neg hr] at HK
    have tR : (R.isEmpty) = false := by simpa using hr
    have tR2 : (!R.isEmpty) = true := by simpa using hr
    clear hr
    go_enter Tryd.func8, Tryd.ntmps8
    go_wp2_with fail
    refine (P.out _).mono ?_
    rintro e w' ⟨rfl, rfl⟩
    go_wp2_with fail
    refine (D.out _).mono ?_
    rintro e w' ⟨rfl, rfl⟩
    go_wp2_with fail
    refine (DE.out _).mono ?_
    rintro e w' ⟨rfl, rfl⟩
    go_wp2_with fail
    refine (VA.out _).mono ?_
    rintro e w' ⟨rfl, rfl⟩
    go_wp2_with fail
    go_ret2
    exact ⟨ret_two HN.out.symm (by rw [HK.out]; omega), rfl⟩

theorem parse_any (s : ByteArray) (w : World) (hs : s.size ≤ maxLen) :
    Calls Tryd.prog 8 #[.string s] w fun e w' => e = .returned (.tuple #[.int .i64 (parseN s.data.toList), .int .i64 (parseK s.data.toList)]) ∧ w = w' := by
  by_cases h : wholeOf s.data.toList = []
  · refine (parse_none s w hs h).mono fun e w' ⟨he, hw⟩ => ⟨he.trans (ret_two ?_ ?_), hw⟩
    · unfold parseN; rw [if_pos h]
    · unfold parseK; rw [if_pos h]; rfl
  · cases hp : Lib.hasPrefix s.data.toList [45] with
    | false => exact parse_pos s w hs hp h
    | true => exact parse_neg s w hs hp h
end Go.Proofs.YtfpfjaedoafnpaaDoor

/-
  Contracts of package fix's functions over texts: digits, decimals, value, Whole, Print, Parse.
-/
import Derived.Test.YtfpfjaedoafnpaaDoorFixa
import Derived.Test.YtfpfjaedoafnpaaDoorTxt
import Derived.LoopTactic
namespace Go.Proofs.YtfpfjaedoafnpaaDoor
open Go.RowKit Go.Shelf Go.Lib

/-- The table that strconv reads. -/
def Tab (w : World) : Prop := Lib.TabIs Tryd.prog w "internal/strconv.uint64pow10" .u64 Lib.pow10Tab
theorem Tab.keep {w w' : World} (h : Tab w) (k : Keeps w w') : Tab w' := Keeps.tab k h

theorem whole_any (n : Int) (w : World) (h1 : -9223372036854775808 ≤ n) (h2 : n ≤ 9223372036854775807) (ht : Tab w) :
    Calls Tryd.prog 10 #[.int .i64 n] w fun e w' => e = .returned (.string ⟨(Lib.itoa n).toArray⟩) ∧ Keeps w w' := by
  have C := Lib.hid (Tryd.strconv_Itoa n h1 h2 w ht)
  go_enter Tryd.func10, Tryd.ntmps10
  go_wp2_with fail
  refine C.out.mono ?_
  rintro e w' ⟨rfl, hg⟩
  have hk := Keeps.of_grow hg
  clear hg
  go_wp2_with fail
  go_ret
  exact ⟨rfl, hk⟩

theorem at_data (s : ByteArray) (k : Nat) (h : k < s.size) : s.data.toList[k]'(by simpa using h) = s[k] := rfl
set_option maxHeartbeats 400000 in
theorem digits_any (s : ByteArray) (lim : Nat) (w : World) (hs : s.size ≤ maxLen) :
    Calls Tryd.prog 19 #[.string s, .int .i64 lim] w fun e w' => e = .returned (.string ⟨(digs s.data.toList lim).toArray⟩) ∧ w = w' := by
  unfold maxLen at hs
  have hlen : s.data.toList.length = s.size := by simp
  have HL := Lib.hid hlen
  clear hlen
  go_enter Tryd.func19, Tryd.ntmps19
  go_wp2
  go_loop [5] (fun n => ∃ k : Nat, k ≤ s.size ∧ k ≤ lim ∧ Hid (∀ (j : Nat) (h : j < s.data.toList.length), j < k → isD s.data.toList[j] = true) ∧ n = .int .i64 k) (fun n => s.size - (RowKit.intOf n).toNat)
  case atStart => exact ⟨0, Nat.zero_le _, Nat.zero_le _, fun _ _ h => absurd h (Nat.not_lt_zero _), rfl⟩
  case round =>
    obtain ⟨k, hk, hkl, HD, rfl⟩ := hrel
    have stop : (k = lim ∨ ∀ (h : k < s.data.toList.length), isD s.data.toList[k] = false) → s.extract 0 k = ⟨(digs s.data.toList lim).toArray⟩ := fun h => by rw [ext_take, digs_stop _ _ _ hkl HD.out h]
    have ST := Lib.hid stop
    clear stop
    by_cases c1 : k < s.size
    · by_cases c2 : k < lim
      · by_cases c3 : 48 ≤ s[k].toNat
        · by_cases c4 : s[k].toNat ≤ 57
          · have next : ∀ (j : Nat) (h : j < s.data.toList.length), j < k + 1 → isD s.data.toList[j] = true := fun j h hj => by
              rcases Nat.lt_or_ge j k with h' | h'
              · exact HD.out j h h'
              · obtain rfl : j = k := by omega
                exact isD_yes c3 c4
            have NX := Lib.hid next
            clear next
            go_wp2
            go_round
            case rel => exact ⟨k + 1, by omega, by omega, NX.out, by go_num⟩
            case measure => simp [RowKit.intOf]; omega
          · have ST2 := Lib.hid (ST.out (.inr fun h => isD_hi c4))
            go_wp2
            go_ret
            exact ⟨ret_bytes ST2.out, rfl⟩
        · have ST2 := Lib.hid (ST.out (.inr fun h => isD_lo c3))
          go_wp2
          go_ret
          exact ⟨ret_bytes ST2.out, rfl⟩
      · have ST2 := Lib.hid (ST.out (.inl (by omega)))
        go_wp2
        go_ret
        exact ⟨ret_bytes ST2.out, rfl⟩
    · have ST2 := Lib.hid (ST.out (.inr fun h => absurd (HL.out ▸ h) c1))
      go_wp2
      go_ret
      exact ⟨ret_bytes ST2.out, rfl⟩

set_option maxHeartbeats 400000 in
theorem value_any (s : ByteArray) (w : World) (hs : s.size ≤ 18) (hd : ∀ b ∈ s.data.toList, isD b = true) :
    Calls Tryd.prog 21 #[.string s] w fun e w' => e = .returned (.int .i64 (val s.data.toList)) ∧ w = w' := by
  have hlen : s.data.toList.length = s.size := by simp
  have hdk : ∀ (k : Nat) (h : k < s.size), isD s[k] = true := fun k h => hd _ (List.getElem_mem (by rw [hlen]; exact h))
  have hsn : ∀ (k : Nat) (h : k < s.size), val (s.data.toList.take (k + 1)) = val (s.data.toList.take k) * 10 + (s[k].toNat - 48) := fun k h => by
    rw [List.take_succ_eq_append_getElem (by rw [hlen]; exact h), val_snoc]; rfl
  have hlt : ∀ k : Nat, k < s.size → val (s.data.toList.take k) < 100000000000000000 := fun k hk => by
    have h1 := val_lt (s.data.toList.take k) (fun b hb => hd b (List.mem_of_mem_take hb))
    have h2 : (s.data.toList.take k).length ≤ 17 := by rw [List.length_take]; omega
    have h3 : 10 ^ (s.data.toList.take k).length ≤ 10 ^ 17 := Nat.pow_le_pow_right (by omega) h2
    omega
  have hall : s.data.toList.take s.size = s.data.toList := List.take_of_length_le (by omega)
  have HA := Lib.hid hall
  have HK := Lib.hid hdk
  have HS := Lib.hid hsn
  have HT := Lib.hid hlt
  clear hlen hd hdk hsn hlt hall
  go_enter Tryd.func21, Tryd.ntmps21
  go_wp2
  go_loop [3, 4] (fun n i => ∃ (k : Nat) (v : Int), k ≤ s.size ∧ Hid (v = (val (s.data.toList.take k) : Int)) ∧ i = .int .i64 k ∧ n = .int .i64 v) (fun _ i => s.size - (RowKit.intOf i).toNat)
  case atStart => exact ⟨0, 0, Nat.zero_le _, rfl, rfl, rfl⟩
  case round =>
    obtain ⟨k, v, hk, HV, rfl, rfl⟩ := hrel
    by_cases c1 : k < s.size
    · have hb := isD_of (HK.out k c1)
      obtain ⟨b1, b2⟩ := hb
      have v0 : 0 ≤ v := by have := HV.out; omega
      have v1 : v ≤ 100000000000000000 := by have := HV.out; have := HT.out k c1; omega
      have NV : Hid (v * 10 + ((s[k].toNat : Int) - 48) = (val (s.data.toList.take (k + 1)) : Int)) := by
        show _ = _
        rw [HS.out k c1, HV.out]; omega
      go_wp2
      go_round
      case rel => exact ⟨k + 1, _, by omega, NV, by go_num, rfl⟩
      case measure => simp [RowKit.intOf]; omega
    · go_wp2
      go_ret
      exact ⟨ret_int (by rw [HV.out, show k = s.size by omega, HA.out]), rfl⟩

theorem prefix_size {s : ByteArray} {b : UInt8} (h : Lib.hasPrefix s.data.toList [b] = true) : 1 ≤ s.size := by
  have h2 : ([b] : List UInt8) <+: s.data.toList := List.isPrefixOf_iff_prefix.1 h
  have h3 := h2.length_le
  have h4 : s.data.toList.length = s.size := by simp
  rw [h4] at h3
  exact h3

theorem decimals_any (s : ByteArray) (w : World) (hs : s.size ≤ maxLen) :
    Calls Tryd.prog 20 #[.string s] w fun e w' => e = .returned (.string ⟨(decs s.data.toList).toArray⟩) ∧ w = w' := by
  have P := Lib.hid (fun W => Tryd.strings_HasPrefix s ⟨#[46]⟩ W)
  cases h : Lib.hasPrefix s.data.toList [46] with
  | false =>
    have E := Lib.hid (show (⟨#[]⟩ : ByteArray) = ⟨(decs s.data.toList).toArray⟩ by unfold decs; rw [h]; rfl)
    rw [h] at P
    clear h
    go_enter Tryd.func20, Tryd.ntmps20
    go_wp2_with fail
    refine (P.out _).mono ?_
    rintro e w' ⟨rfl, rfl⟩
    go_wp2_with fail
    go_ret
    exact ⟨ret_bytes E.out, rfl⟩
  | true =>
    have hz := prefix_size h
    have E := Lib.hid (show decs s.data.toList = digs (s.data.toList.drop 1) 3 by unfold decs; rw [h]; rfl)
    have D := Lib.hid (fun W => digits_any (s.extract 1 s.size) 3 W (by rw [ByteArray.size_extract]; omega))
    rw [Lib.extract_to_end, ← E.out] at D
    rw [h] at P
    clear h
    unfold maxLen at hs
    go_enter Tryd.func20, Tryd.ntmps20
    go_wp2_with fail
    refine (P.out _).mono ?_
    rintro e w' ⟨rfl, rfl⟩
    go_wp2_with fail
    refine (D.out _).mono ?_
    rintro e w' ⟨rfl, rfl⟩
    go_wp2_with fail
    go_ret
    exact ⟨rfl, rfl⟩

theorem trim_len (l : List UInt8) (c : UInt8) : (Lib.trimRightB l c).length ≤ l.length := by
  unfold Lib.trimRightB
  rw [List.length_reverse]
  have := (List.dropWhile_suffix (p := (· == c)) (l := l.reverse)).length_le
  simpa using this

theorem print_neg (n : Int) (w : World) (h1 : -9223372036854775808 ≤ n) (h : n < 0) (ht : Tab w) :
    Calls Tryd.prog 12 #[.int .i64 n] w fun e w' => e = .returned (.string ⟨(printT n).toArray⟩) ∧ Keeps w w' := by
  have SA := Lib.hid (fun W => size_any n W (by omega) (by omega))
  have hP : printT n = [45] ++ printD n.natAbs := by unfold printT; rw [if_pos h]
  generalize hu : n.natAbs = u at *
  have hub : u ≤ 9223372036854775808 := by omega
  have WA := Lib.hid (fun W t => whole_any ((u / 1000 : Nat) : Int) W (by omega) (by omega) t)
  have WB := Lib.hid (fun W t => whole_any ((1000 + u % 1000 : Nat) : Int) W (by omega) (by omega) t)
  rw [Lib.itoa_nonneg] at WA WB
  have la := dd_len 19 (u / 1000) (by omega)
  have lb := dd_len 19 (1000 + u % 1000) (by omega)
  have lb1 := dd_pos (1000 + u % 1000)
  unfold printD at hP
  generalize Lib.decDigits (u / 1000) = A at *
  generalize Lib.decDigits (1000 + u % 1000) = B at *
  by_cases hz : u % 1000 = 0
  · rw [if_pos hz] at hP
    have HP := Lib.hid hP
    have tz : ((u : Int) % 1000 == 0) = true := beq_iff_eq.2 (by omega)
    clear hu hP hz
    go_enter Tryd.func12, Tryd.ntmps12
    go_wp2_with fail
    refine (SA.out _).mono ?_
    rintro e w' ⟨rfl, rfl⟩
    go_wp2_with fail
    refine (WA.out _ ht).mono ?_
    rintro e w1 ⟨rfl, k1⟩
    go_wp2_with fail
    go_ret
    exact ⟨ret_bytes (by rw [HP.out]; apply bytes_eq; simp), k1⟩
  · rw [if_neg hz] at hP
    have HP := Lib.hid hP
    have tz : ((u : Int) % 1000 == 0) = false := beq_eq_false_iff_ne.2 (by omega)
    have lt := trim_len (B.drop 1) 48
    rw [List.length_drop] at lt
    have eB : (({ data := B.toArray } : ByteArray).extract 1 B.length).data.toList = B.drop 1 := by
      rw [Lib.extract_data]
      exact List.take_of_length_le (by rw [List.length_drop]; exact Nat.le_refl _)
    have TR := Lib.hid (fun W => Tryd.strings_TrimRight_one (({ data := B.toArray } : ByteArray).extract 1 B.length) 48 (by decide) W (by rw [ByteArray.size_extract]; omega))
    rw [eB] at TR
    clear hu hP hz eB
    generalize Lib.trimRightB (List.drop 1 B) 48 = T at *
    go_enter Tryd.func12, Tryd.ntmps12
    go_wp2_with fail
    refine (SA.out _).mono ?_
    rintro e w' ⟨rfl, rfl⟩
    go_wp2_with fail
    refine (WA.out _ ht).mono ?_
    rintro e w1 ⟨rfl, k1⟩
    have t1 := ht.keep k1
    go_wp2_with fail
    refine (WB.out _ t1).mono ?_
    rintro e w2 ⟨rfl, k2⟩
    go_wp2_with fail
    refine (TR.out _).mono ?_
    rintro e w3 ⟨rfl, rfl⟩
    go_wp2_with fail
    go_ret
    exact ⟨ret_bytes (by rw [HP.out]; apply bytes_eq; simp), k1.trans k2⟩

theorem print_pos (n : Int) (w : World) (h1 : n ≤ 9223372036854775807) (h : ¬ n < 0) (ht : Tab w) :
    Calls Tryd.prog 12 #[.int .i64 n] w fun e w' => e = .returned (.string ⟨(printT n).toArray⟩) ∧ Keeps w w' := by
  have SA := Lib.hid (fun W => size_any n W (by omega) (by omega))
  have hP : printT n = [] ++ printD n.natAbs := by unfold printT; rw [if_neg h]
  generalize hu : n.natAbs = u at *
  have hub : u ≤ 9223372036854775808 := by omega
  have WA := Lib.hid (fun W t => whole_any ((u / 1000 : Nat) : Int) W (by omega) (by omega) t)
  have WB := Lib.hid (fun W t => whole_any ((1000 + u % 1000 : Nat) : Int) W (by omega) (by omega) t)
  rw [Lib.itoa_nonneg] at WA WB
  have la := dd_len 19 (u / 1000) (by omega)
  have lb := dd_len 19 (1000 + u % 1000) (by omega)
  have lb1 := dd_pos (1000 + u % 1000)
  unfold printD at hP
  generalize Lib.decDigits (u / 1000) = A at *
  generalize Lib.decDigits (1000 + u % 1000) = B at *
  by_cases hz : u % 1000 = 0
  · rw [if_pos hz] at hP
    have HP := Lib.hid hP
    have tz : ((u : Int) % 1000 == 0) = true := beq_iff_eq.2 (by omega)
    clear hu hP hz
    go_enter Tryd.func12, Tryd.ntmps12
    go_wp2_with fail
    refine (SA.out _).mono ?_
    rintro e w' ⟨rfl, rfl⟩
    go_wp2_with fail
    refine (WA.out _ ht).mono ?_
    rintro e w1 ⟨rfl, k1⟩
    go_wp2_with fail
    go_ret
    exact ⟨ret_bytes (by rw [HP.out]; apply bytes_eq; simp), k1⟩
  · rw [if_neg hz] at hP
    have HP := Lib.hid hP
    have tz : ((u : Int) % 1000 == 0) = false := beq_eq_false_iff_ne.2 (by omega)
    have lt := trim_len (B.drop 1) 48
    rw [List.length_drop] at lt
    have eB : (({ data := B.toArray } : ByteArray).extract 1 B.length).data.toList = B.drop 1 := by
      rw [Lib.extract_data]
      exact List.take_of_length_le (by rw [List.length_drop]; exact Nat.le_refl _)
    have TR := Lib.hid (fun W => Tryd.strings_TrimRight_one (({ data := B.toArray } : ByteArray).extract 1 B.length) 48 (by decide) W (by rw [ByteArray.size_extract]; omega))
    rw [eB] at TR
    clear hu hP hz eB
    generalize Lib.trimRightB (List.drop 1 B) 48 = T at *
    go_enter Tryd.func12, Tryd.ntmps12
    go_wp2_with fail
    refine (SA.out _).mono ?_
    rintro e w' ⟨rfl, rfl⟩
    go_wp2_with fail
    refine (WA.out _ ht).mono ?_
    rintro e w1 ⟨rfl, k1⟩
    have t1 := ht.keep k1
    go_wp2_with fail
    refine (WB.out _ t1).mono ?_
    rintro e w2 ⟨rfl, k2⟩
    go_wp2_with fail
    refine (TR.out _).mono ?_
    rintro e w3 ⟨rfl, rfl⟩
    go_wp2_with fail
    go_ret
    exact ⟨ret_bytes (by rw [HP.out]; apply bytes_eq; simp), k1.trans k2⟩

theorem print_any (n : Int) (w : World) (h1 : -9223372036854775808 ≤ n) (h2 : n ≤ 9223372036854775807) (ht : Tab w) :
    Calls Tryd.prog 12 #[.int .i64 n] w fun e w' => e = .returned (.string ⟨(printT n).toArray⟩) ∧ Keeps w w' := by
  by_cases h : n < 0
  · exact print_neg n w h1 h ht
  · exact print_pos n w h2 h ht
end Go.Proofs.YtfpfjaedoafnpaaDoor

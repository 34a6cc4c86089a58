/-
  Texts of the proof, one behind the other: IqS, IqT.
-/
import Derived.Test.YtolpmdicilbpfaaGreatDoorM39
import Derived.BigQuiet
import Derived.Test.YtolpmdicilbpfaaGreatDoorM41
/-
  The laws' word.
-/
namespace Go.Proofs.YtolpmdicilbpfaaGreatDoor
open Go.RowKit Go.Lib Go.Maps

def wdB (l : List UInt8) : Bool := l.all ldB && (!decide (l = []) && decide (l.length ≤ 100))
theorem wd_all {l : List UInt8} (h : wdB l = true) : (∀ x ∈ l, ldB x = true) ∧ l ≠ [] ∧ l.length ≤ 100 := by
  unfold wdB at h
  simp only [Bool.and_eq_true, List.all_eq_true, Bool.not_eq_true', decide_eq_false_iff_not, decide_eq_true_eq] at h
  exact ⟨h.1, h.2.1, h.2.2⟩
theorem wd_next {l : List UInt8} {k : Nat} (h : (l.take k).all ldB = true) (hk : k < l.length) (hb : ldB l[k] = true) : (l.take (k + 1)).all ldB = true := by
  rw [List.take_succ_eq_append_getElem hk, List.all_append, h]
  simp [hb]
theorem wd_no {l : List UInt8} {k : Nat} (hk : k < l.length) (hb : ldB l[k] = false) : wdB l = false := by
  have : l.all ldB = false := by
    rw [← Bool.not_eq_true, List.all_eq_true]
    intro h
    rw [h _ (List.getElem_mem hk)] at hb
    cases hb
  unfold wdB
  rw [this]; rfl
set_option maxRecDepth 100000 in
set_option maxHeartbeats 4000000 in
theorem word14_any (s : ByteArray) (w : World) (hs : s.size ≤ maxLen) :
    Calls Tryz.prog 17 #[.string s] w fun e w' => e = .returned (.bool (wdB s.data.toList)) ∧ w = w' := by
  have hl := Lib.hid (bytes_len s)
  unfold maxLen at hs
  go_enter Tryz.func17, Tryz.ntmps17
  go_wp2_with fail
  go_loop [3] (fun i => ∃ k : Nat, k ≤ s.size ∧ i = .int .i64 k ∧ Hid ((s.data.toList.take k).all ldB = true)) (fun i => s.size - (RowKit.intOf i).toNat)
  case atStart => exact ⟨0, Nat.zero_le _, rfl, Lib.hid rfl⟩
  case round =>
    obtain ⟨k, hk, rfl, HC⟩ := hrel
    by_cases c : k < s.size
    · by_cases c1 : 97 ≤ s[k].toNat
      · have c3 : 48 ≤ s[k].toNat := by omega
        by_cases c2 : s[k].toNat ≤ 122
        · have e122 : decide ((s[k].toNat : Int) ≤ 122) = true := decide_eq_true (by omega)
          have HN : Hid ((s.data.toList.take (k + 1)).all ldB = true) := Lib.hid (wd_next HC.out (by rw [hl.out]; exact c) (by
            show ldB s[k] = true
            unfold ldB; simp only [Bool.or_eq_true, Bool.and_eq_true, decide_eq_true_eq]; omega))
          clear HC
          go_wp2_with fail
          go_round
          case rel => exact ⟨k + 1, by omega, by go_num, HN⟩
          case measure => simp [RowKit.intOf]; omega
        · have c4 : ¬ s[k].toNat ≤ 57 := by omega
          have e122 : decide ((s[k].toNat : Int) ≤ 122) = false := decide_eq_false (by omega)
          have e57 : decide ((s[k].toNat : Int) ≤ 57) = false := decide_eq_false (by omega)
          have HN : Hid (wdB s.data.toList = false) := Lib.hid (wd_no (k := k) (by rw [hl.out]; exact c) (by
            show ldB s[k] = false
            unfold ldB; simp only [Bool.or_eq_false_iff, Bool.and_eq_false_iff, decide_eq_false_iff_not]; omega))
          clear HC
          go_wp2_with fail
          go_ret
          exact ⟨ret_bool HN.out.symm, rfl⟩
      · have c2 : s[k].toNat ≤ 122 := by omega
        by_cases c3 : 48 ≤ s[k].toNat
        · by_cases c4 : s[k].toNat ≤ 57
          · have e122 : decide ((s[k].toNat : Int) ≤ 122) = true := decide_eq_true (by omega)
            have e57 : decide ((s[k].toNat : Int) ≤ 57) = true := decide_eq_true (by omega)
            have HN : Hid ((s.data.toList.take (k + 1)).all ldB = true) := Lib.hid (wd_next HC.out (by rw [hl.out]; exact c) (by
              show ldB s[k] = true
              unfold ldB; simp only [Bool.or_eq_true, Bool.and_eq_true, decide_eq_true_eq]; omega))
            clear HC
            go_wp2_with fail
            go_round
            case rel => exact ⟨k + 1, by omega, by go_num, HN⟩
            case measure => simp [RowKit.intOf]; omega
          · have e122 : decide ((s[k].toNat : Int) ≤ 122) = true := decide_eq_true (by omega)
            have e57 : decide ((s[k].toNat : Int) ≤ 57) = false := decide_eq_false (by omega)
            have HN : Hid (wdB s.data.toList = false) := Lib.hid (wd_no (k := k) (by rw [hl.out]; exact c) (by
              show ldB s[k] = false
              unfold ldB; simp only [Bool.or_eq_false_iff, Bool.and_eq_false_iff, decide_eq_false_iff_not]; omega))
            clear HC
            go_wp2_with fail
            go_ret
            exact ⟨ret_bool HN.out.symm, rfl⟩
        · have e122 : decide ((s[k].toNat : Int) ≤ 122) = true := decide_eq_true (by omega)
          have HN : Hid (wdB s.data.toList = false) := Lib.hid (wd_no (k := k) (by rw [hl.out]; exact c) (by
            show ldB s[k] = false
            unfold ldB; simp only [Bool.or_eq_false_iff, Bool.and_eq_false_iff, decide_eq_false_iff_not]; omega))
          clear HC
          go_wp2_with fail
          go_ret
          exact ⟨ret_bool HN.out.symm, rfl⟩
    · have HA : Hid (s.data.toList.all ldB = true) := Lib.hid (by
        have := HC.out
        rw [List.take_of_length_le (by rw [hl.out]; omega)] at this
        exact this)
      clear HC
      by_cases c0 : s.size = 0
      · have e0 : s = ⟨#[]⟩ := by
          apply ByteArray.ext
          apply Array.ext'
          exact List.eq_nil_of_length_eq_zero (by rw [hl.out, c0])
        subst e0
        go_wp2_with fail
        go_ret
        exact ⟨rfl, rfl⟩
      · have t0 : ¬ s.toList = [] := tl_ne (by omega)
        have HN : Hid ((!s.toList.isEmpty && decide ((s.size : Int) ≤ 100)) = wdB s.data.toList) := Lib.hid (by
          unfold wdB
          have e0 : decide (s.data.toList = []) = false := decide_eq_false (fun e => c0 (by rw [← hl.out, e]; rfl))
          rw [HA.out, hl.out, tl_empty (by omega), e0]
          show decide ((s.size : Int) ≤ 100) = decide (s.size ≤ 100)
          exact decide_eq_decide.2 (by omega))
        clear HA
        go_wp2_with fail
        go_ret
        exact ⟨ret_bool HN.out, rfl⟩
end Go.Proofs.YtolpmdicilbpfaaGreatDoor

/-
  InlineNests is true of any word, number and sign.
-/
namespace Go.Proofs.YtolpmdicilbpfaaGreatDoor
open Go.RowKit Go.Lib Go.Maps

theorem rep_more {c : UInt8} (j : Nat) : List.replicate j c ++ [c] = List.replicate (j + 1) c := by
  rw [List.replicate_succ']
theorem mul_of {b : ByteArray} {j : Nat} {c : UInt8} (h : b.data.toList = List.replicate j c) : b.size = j := by
  rw [← bytes_len, h, List.length_replicate]
theorem bytes_same (s : ByteArray) : (⟨s.data.toList.toArray⟩ : ByteArray) = s := by cases s; rfl
theorem Keeps.cell2 {W W' : World} {b i : Nat} {v : Value} (k : Keeps W W') (h : W.cell? ⟨b, i, none⟩ = some v) : W'.cell? ⟨b, i, none⟩ = some v := by
  rw [k.cell (World.block_lt_of_cell? W _ h)]
  exact h
set_option maxRecDepth 100000 in
set_option maxHeartbeats 8000000 in
theorem nests_not (s : ByteArray) (n : Nat) (b : Bool) (w : World) (hs : s.size ≤ maxLen) (hO : Lis w) (hM : Mxl w) (hw : wdB s.data.toList = false) :
    Calls Tryz.prog 6 #[.string s, .int .u8 (n : Nat), .bool b] w fun e w' => e = .returned (.bool true) ∧ Keeps w w' := by
  have WS := Lib.hid (word14_any s w hs)
  rw [hw] at WS
  have AW := Lib.hid (awake14_any w hO hM)
  clear hO hM hw
  go_enter Tryz.func6, Tryz.ntmps6
  go_wp2_with fail
  refine WS.out.mono ?_
  rintro e w1 ⟨rfl, rfl⟩
  go_wp2_with fail
  refine AW.out.mono ?_
  rintro e w1 ⟨rfl, k1⟩
  go_wp2_with fail
  go_ret
  exact ⟨rfl, k1⟩
set_option maxRecDepth 100000 in
set_option maxHeartbeats 8000000 in
theorem nests_word (s : ByteArray) (n : Nat) (hn : n < 256) (b : Bool) (w : World) (hs : s.size ≤ maxLen) (hO : Lis w) (hM : Mxl w) (hw : wdB s.data.toList = true) :
    Calls Tryz.prog 6 #[.string s, .int .u8 (n : Nat), .bool b] w fun e w' => e = .returned (.bool true) ∧ Keeps w w' := by
  have WS := Lib.hid (word14_any s w hs)
  rw [hw] at WS
  have AW := Lib.hid (fun W' (q : Keeps w W') => awake14_any W' (hO.keep q) (hM.keep q))
  have PA := Lib.hid (fun t (h : t.size ≤ 20000) => parse_none t w hO hM h)
  obtain ⟨h1, h2, h3⟩ := wd_all hw
  have H1 := Lib.hid h1
  have H2 := Lib.hid h2
  have hsz : s.size ≤ 100 := by rw [← bytes_len]; exact h3
  clear hO hM hw h1 h2 h3
  obtain ⟨k, hk⟩ : ∃ k, 1 + n % 3 = k := ⟨_, rfl⟩
  have hk3 : k = 1 ∨ k = 2 ∨ k = 3 := by omega
  obtain ⟨c, hc⟩ : ∃ c : UInt8, (if b then 95 else 42) = c := ⟨_, rfl⟩
  have HC := Lib.hid hc
  go_enter Tryz.func6, Tryz.ntmps6
  go_wp2_with fail
  refine WS.out.mono ?_
  rintro e w1 ⟨rfl, rfl⟩
  go_wp2_with fail
  rw [show (1 + (n : Int) % 3) = (k : Int) by omega]
  have hk1 : 1 ≤ k := by omega
  have hk2 : k ≤ 3 := by omega
  clear hk hn
  go_loop [8, 9] (fun x i => ∃ (j : Nat) (acc : ByteArray), j ≤ k ∧ i = .int .i64 j ∧ x = .string acc ∧ acc.size ≤ 3 ∧ Hid (acc.data.toList = List.replicate j c)) (fun _ i => k - (RowKit.intOf i).toNat)
  case atStart => exact ⟨0, ⟨#[]⟩, Nat.zero_le _, rfl, rfl, by decide, Lib.hid rfl⟩
  case round =>
    obtain ⟨j, acc, hj, rfl, rfl, hsz2, HA⟩ := hrel
    by_cases cj : j < k
    · have hjn : (j : Int) < (k : Int) := by omega
      cases b
      · have HA2 : Hid ((acc ++ (⟨#[42]⟩ : ByteArray)).data.toList = List.replicate (j + 1) c) := Lib.hid (by rw [bytes_app, HA.out, show c = 42 from HC.out.symm]; exact rep_more j)
        have hs2 : (acc ++ (⟨#[42]⟩ : ByteArray)).size ≤ 3 := by rw [mul_of HA2.out]; omega
        go_wp2_with fail
        go_round
        case rel => exact ⟨j + 1, acc ++ ⟨#[42]⟩, by omega, by go_num, rfl, hs2, HA2⟩
        case measure => simp [RowKit.intOf]; omega
      · have HA2 : Hid ((acc ++ (⟨#[95]⟩ : ByteArray)).data.toList = List.replicate (j + 1) c) := Lib.hid (by rw [bytes_app, HA.out, show c = 95 from HC.out.symm]; exact rep_more j)
        have hs2 : (acc ++ (⟨#[95]⟩ : ByteArray)).size ≤ 3 := by rw [mul_of HA2.out]; omega
        go_wp2_with fail
        go_round
        case rel => exact ⟨j + 1, acc ++ ⟨#[95]⟩, by omega, by go_num, rfl, hs2, HA2⟩
        case measure => simp [RowKit.intOf]; omega
    · have hjn : j = k := by omega
      subst hjn
      obtain ⟨X, hX⟩ : ∃ X, acc ++ s ++ acc = X := ⟨_, rfl⟩
      have HX : X.data.toList = List.replicate j c ++ (s.data.toList ++ List.replicate j c) := by rw [← hX, bytes_app, bytes_app, HA.out, List.append_assoc]
      have hXs : X.size ≤ 20000 := by
        rw [← bytes_len, HX, List.length_append, List.length_append, List.length_replicate, bytes_len]; omega
      have PX := Lib.hid (PA.out X hXs)
      have hc2 : c = 42 ∨ c = 95 := by
        rw [← HC.out]
        cases b
        · exact .inl rfl
        · exact .inr rfl
      rw [HX, nest_parse hk3 hc2 H1.out H2.out] at PX
      clear PA HX HA H1 H2 WS HC hc2 hXs hc
      go_upto_region 11 with fail
      go_cut [10] (fun x wx => ∃ w1, w1 = wx ∧ Hid (SpsAt w1 (fun b => b < w1.heap.size) (nestL j s.data.toList) x) ∧ Keeps w w1)
      case first =>
        go_wp2_with (first | (go_at_call 13; (with_reducible refine PX.out.mono ?_); rintro e w1 ⟨v, rfl, hv, k1⟩))
        go_meet
        case rel => exact ⟨_, rfl, Lib.hid hv, k1⟩
      case rest =>
      obtain ⟨w1, rfl, HV, k1⟩ := hcut
      have hv := HV.out
      clear HV PX hX
      rcases hk3 with rfl | rfl | rfl
      · replace hv : SpsAt w1 (fun b => b < w1.heap.size) [.mk 5 [] [] [] [txtS s.data.toList]] _ := hv
        obtain ⟨g, cap, kv, rfl, a, hk⟩ := hv.only
        obtain ⟨g2, cap2, kv2, rfl, b2, _⟩ := hk.only
        have a0 := a.c0
        have a1 := a.c1
        have a2 := a.c2
        have a3 := a.c3
        have a4 := a.c4
        simp only [Nat.reduceAdd] at a0 a1 a2 a3 a4
        clear hv hk a
        have KA : Keeps w1 (w1.alloc (.cells #[.int .i64 5, .string ⟨#[]⟩, .string ⟨#[]⟩, .string ⟨#[]⟩, .slice (some ⟨g2, 0, none⟩) 1 cap2] 31)) := (Keeps.refl w1).alloc _
        have AX := Lib.hid (AW.out _ (k1.trans KA))
        go_wp2_with fail
        refine AX.out.mono ?_
        rintro e w3 ⟨rfl, k3⟩
        have K3 := Lib.hid ((k1.trans KA).trans k3)
        have BX := (Blk.new w1 31 #[.int .i64 5, .string ⟨#[]⟩, .string ⟨#[]⟩, .string ⟨#[]⟩, .slice (some ⟨g2, 0, none⟩) 1 cap2]).keep k3
        have b0 := BX.cell 0 (v := .int .i64 5) rfl
        have b4 := BX.cell 4 (v := (.slice (some ⟨g2, 0, none⟩) 1 cap2)) rfl
        have d0 := (k3.cell2 (KA.cell2 b2.c0))
        have d1 := (k3.cell2 (KA.cell2 b2.c1))
        rw [bytes_same] at d1
        simp only [Nat.reduceAdd] at d0 d1
        clear BX AX KA k3 a0 a1 a2 a3 a4
        go_wp2_with fail
        go_ret
        exact ⟨rfl, K3.out⟩
      · replace hv : SpsAt w1 (fun b => b < w1.heap.size) [.mk 6 [] [] [] [txtS s.data.toList]] _ := hv
        obtain ⟨g, cap, kv, rfl, a, hk⟩ := hv.only
        obtain ⟨g2, cap2, kv2, rfl, b2, _⟩ := hk.only
        have a0 := a.c0
        have a1 := a.c1
        have a2 := a.c2
        have a3 := a.c3
        have a4 := a.c4
        simp only [Nat.reduceAdd] at a0 a1 a2 a3 a4
        clear hv hk a
        have KA : Keeps w1 (w1.alloc (.cells #[.int .i64 6, .string ⟨#[]⟩, .string ⟨#[]⟩, .string ⟨#[]⟩, .slice (some ⟨g2, 0, none⟩) 1 cap2] 31)) := (Keeps.refl w1).alloc _
        have AX := Lib.hid (AW.out _ (k1.trans KA))
        go_wp2_with fail
        refine AX.out.mono ?_
        rintro e w3 ⟨rfl, k3⟩
        have K3 := Lib.hid ((k1.trans KA).trans k3)
        have BX := (Blk.new w1 31 #[.int .i64 6, .string ⟨#[]⟩, .string ⟨#[]⟩, .string ⟨#[]⟩, .slice (some ⟨g2, 0, none⟩) 1 cap2]).keep k3
        have b0 := BX.cell 0 (v := .int .i64 6) rfl
        have b4 := BX.cell 4 (v := (.slice (some ⟨g2, 0, none⟩) 1 cap2)) rfl
        have d0 := (k3.cell2 (KA.cell2 b2.c0))
        have d1 := (k3.cell2 (KA.cell2 b2.c1))
        rw [bytes_same] at d1
        simp only [Nat.reduceAdd] at d0 d1
        clear BX AX KA k3 a0 a1 a2 a3 a4
        go_wp2_with fail
        go_ret
        exact ⟨rfl, K3.out⟩
      · replace hv : SpsAt w1 (fun b => b < w1.heap.size) [.mk 5 [] [] [] [.mk 6 [] [] [] [txtS s.data.toList]]] _ := hv
        obtain ⟨g, cap, kv, rfl, a, hk⟩ := hv.only
        obtain ⟨g2, cap2, kv2, rfl, b2, hk2⟩ := hk.only
        obtain ⟨g3, cap3, kv3, rfl, b3, _⟩ := hk2.only
        have a0 := a.c0
        have a1 := a.c1
        have a2 := a.c2
        have a3 := a.c3
        have a4 := a.c4
        have c0 := b2.c0
        have c1 := b2.c1
        have c2 := b2.c2
        have c3 := b2.c3
        have c4 := b2.c4
        simp only [Nat.reduceAdd] at a0 a1 a2 a3 a4 c0 c1 c2 c3 c4
        have hg2 : g2 < w1.heap.size := World.block_lt_of_cell? w1 _ c0
        clear hv hk hk2 a b2
        have KA : Keeps w1 (w1.alloc (.cells #[.int .i64 6, .string ⟨#[]⟩, .string ⟨#[]⟩, .string ⟨#[]⟩, .slice (some ⟨g3, 0, none⟩) 1 cap3] 31)) := (Keeps.refl w1).alloc _
        have AX := Lib.hid (AW.out _ (k1.trans KA))
        go_wp2_with fail
        refine AX.out.mono ?_
        rintro e w3 ⟨rfl, k3⟩
        have K3 := Lib.hid ((k1.trans KA).trans k3)
        have BX := (Blk.new w1 31 #[.int .i64 6, .string ⟨#[]⟩, .string ⟨#[]⟩, .string ⟨#[]⟩, .slice (some ⟨g3, 0, none⟩) 1 cap3]).keep k3
        have b0 := BX.cell 0 (v := .int .i64 6) rfl
        have b4 := BX.cell 4 (v := (.slice (some ⟨g3, 0, none⟩) 1 cap3)) rfl
        have d0 := (k3.cell2 (KA.cell2 b3.c0))
        have d1 := (k3.cell2 (KA.cell2 b3.c1))
        rw [bytes_same] at d1
        simp only [Nat.reduceAdd] at d0 d1
        clear BX AX KA k3 a0 a1 a2 a3 a4 c0 c1 c2 c3 c4
        go_wp2_with fail
        go_ret
        exact ⟨rfl, K3.out⟩
/-- InlineNests is true of any input. -/
theorem inests_any (s : ByteArray) (n : Nat) (hn : n < 256) (b : Bool) (w : World) (hs : s.size ≤ maxLen) (hO : Lis w) (hM : Mxl w) :
    Calls Tryz.prog 6 #[.string s, .int .u8 (n : Nat), .bool b] w fun e w' => e = .returned (.bool true) ∧ Keeps w w' := by
  cases hw : wdB s.data.toList with
  | true => exact nests_word s n hn b w hs hO hM hw
  | false => exact nests_not s n b w hs hO hM hw
end Go.Proofs.YtolpmdicilbpfaaGreatDoor


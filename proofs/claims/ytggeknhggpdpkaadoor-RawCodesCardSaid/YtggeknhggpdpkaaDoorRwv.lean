/-
  RawCodes, walked. (Written by wip/tools/rcodgen.py.)
-/
import Derived.Test.YtggeknhggpdpkaaDoorRwj
import Derived.Test.YtggeknhggpdpkaaDoorRws
namespace Go.Proofs.YtggeknhggpdpkaaDoor
open Go.RowKit Go.Lib

theorem pre_not {s : ByteArray} (h : 0 < s.size) (c : s[0].toNat ≠ 32) : hasPrefix s.data.toList [32] = false := by
  rw [pre_fr 32 32 rfl, fr_first _ s h]
  exact decide_eq_false c
theorem suf_not {s : ByteArray} {L : Nat} (h : L < s.size) (hL : L + 1 = s.size) (c : s[L].toNat ≠ 32) : hasSuffix s.data.toList [32] = false := by
  cases e : hasSuffix s.data.toList [32] with
  | false => rfl
  | true =>
    obtain ⟨t, ht⟩ := List.isSuffixOf_iff_suffix.1 e
    have hl := bytes_len s
    rw [← ht, List.length_append] at hl
    have : ([32] : List UInt8).length = 1 := rfl
    have e1 : s.data.toList[L]? = some 32 := by
      rw [← ht, List.getElem?_append_right (by omega), show L - t.length = 0 by omega]
      rfl
    have e2 : s.data.toList[L]? = some s[L] := by
      rw [List.getElem?_eq_getElem (by rw [bytes_len]; exact h)]
      rfl
    rw [e1] at e2
    exact absurd (by rw [← Option.some.inj e2]; rfl) c
theorem any_not {s : ByteArray} {k : Nat} (h : k < s.size) (c : s[k].toNat ≠ 32) : s.data.toList.any (fun b => decide (b ≠ 32)) = true := by
  refine List.any_eq_true.2 ⟨s[k], List.getElem_mem (by rw [bytes_len]; exact h), ?_⟩
  exact decide_eq_true (fun e => c (by rw [e]; rfl))
theorem all_not {l : List UInt8} (h : l.any (fun b => decide (b ≠ 32)) = true) : l.all (fun b => decide (b.toNat = 32)) = false := by
  obtain ⟨b, hb, h1⟩ := List.any_eq_true.1 h
  refine List.all_eq_false.2 ⟨b, hb, ?_⟩
  intro e
  exact of_decide_eq_true h1 (UInt8.toNat_inj.1 (of_decide_eq_true e))
theorem fence_next {A : ByteArray} {i : Nat} (h : A.data.toList = List.replicate i 96) : (A ++ ⟨#[96]⟩).data.toList = List.replicate (i + 1) 96 := by
  rw [bytes_app, h, List.replicate_succ']
theorem fence_size {A : ByteArray} {i : Nat} (h : A.data.toList = List.replicate i 96) : A.size = i := by rw [← bytes_len, h, List.length_replicate]

set_option maxRecDepth 100000 in
set_option maxHeartbeats 1000000 in
theorem rcodes_idle (s : ByteArray) (x : Int) (w : World) (_hx : 0 ≤ x ∧ x ≤ 255) (hs : s.size ≤ maxLen) (hm : Mxl w) (h : 200 < s.size ∨ s.size = 0 ∨ ∃ (p : 0 < s.size) (q : s.size - 1 < s.size), s[0].toNat = 32 ∧ s[s.size - 1].toNat = 32) :
    Calls Tryd.prog 4 #[.string s, .int .u8 x] w fun e w' => e = .returned (.bool true) ∧ Keeps w w' := by
  have AW := Lib.hid (awake11_any w hm)
  unfold maxLen at hs
  clear hm
  by_cases c : 200 < s.size
  · have q : decide ((200 : Int) < (s.size : Int)) = true := decide_eq_true (by omega)
    clear h c
    go_enter Tryd.func4, Tryd.ntmps4
    go_wp2_with fail
    refine AW.out.mono ?_
    rintro e w1 ⟨rfl, k1⟩
    go_wp2_with fail
    go_ret
    exact ⟨rfl, k1⟩
  · have q : decide ((200 : Int) < (s.size : Int)) = false := decide_eq_false (by omega)
    by_cases c2 : s.size = 0
    · obtain rfl := bytes_none c2
      clear h c c2
      go_enter Tryd.func4, Tryd.ntmps4
      go_wp2_with fail
      refine AW.out.mono ?_
      rintro e w1 ⟨rfl, k1⟩
      go_wp2_with fail
      go_ret
      exact ⟨rfl, k1⟩
    · obtain ⟨p, q2, h1, h2⟩ : ∃ (p : 0 < s.size) (q : s.size - 1 < s.size), s[0].toNat = 32 ∧ s[s.size - 1].toNat = 32 := by
        rcases h with h | h | h
        · exact absurd h c
        · exact absurd h c2
        · exact h
      have u0 := tl_ne p
      have u1 := tl_empty p
      obtain ⟨L, hL⟩ : ∃ L, s.size - 1 = L := ⟨_, rfl⟩
      have hL1 : (s.size : Int) - 1 = (L : Int) := by omega
      have hL2 : L < s.size := by omega
      have hl2 : s[L].toNat = 32 := by subst hL; exact h2
      have p0 := beqT (show (s[0].toNat : Int) = 32 by omega)
      have pL := beqT (show (s[L].toNat : Int) = 32 by omega)
      clear h c c2 h1 h2 hL q2 hl2
      go_enter Tryd.func4, Tryd.ntmps4
      go_wp2_with fail
      refine AW.out.mono ?_
      rintro e w1 ⟨rfl, k1⟩
      go_wp2_with fail
      go_ret
      exact ⟨rfl, k1⟩
set_option maxRecDepth 100000 in
set_option maxHeartbeats 4000000 in
theorem rcodes_0 (s : ByteArray) (x : Int) (w : World) (hx : 0 ≤ x ∧ x ≤ 255) (hs : s.size ≤ 200) (p : 0 < s.size) (L : Nat) (hL : L + 1 = s.size) (_hL2 : L < s.size) (hm : Mxl w) (h1 : s[0].toNat ≠ 32) :
    Calls Tryd.prog 4 #[.string s, .int .u8 x] w fun e w' => e = .returned (.bool true) ∧ Keeps w w' := by
  have AW0 := Lib.hid (awake11_any w hm)
  have HM := Lib.hid hm
  have CO := Lib.hid (fun a W (h : a.size ≤ 100000) h2 => rcode_any a W h h2)
  have AW := Lib.hid (fun W hW => awake11_any W hW)
  have q : decide ((200 : Int) < (s.size : Int)) = false := decide_eq_false (by omega)
  have u0 := tl_ne p
  have u1 := tl_empty p
  have hL1 : (s.size : Int) - 1 = (L : Int) := by omega
  have p0 := beqF (show ¬ (s[0].toNat : Int) = 32 by omega)
  have HA := Lib.hid (any_not p h1)
  have HB : Hid (hasPrefix s.data.toList [32] = false ∨ hasSuffix s.data.toList [32] = false) := Lib.hid (.inl (pre_not p h1))
  clear h1
  obtain ⟨K, hK⟩ : ∃ K : Nat, x % 9 = (K : Int) := ⟨(x % 9).toNat, by omega⟩
  have hK2 : K < 9 := by omega
  have hl := Lib.hid (bytes_len s)
  have NE : Hid (s.data.toList ≠ []) := Lib.hid (fun e => by
    have := bytes_len s
    rw [e] at this
    simp at this
    omega)
  clear hL hm
  go_enter Tryd.func4, Tryd.ntmps4
  go_wp2_with fail
  clear u0 u1 hL1 p0
  go_loop [5] (fun v => ∃ k : Nat, k ≤ s.size ∧ v = .int .i64 k ∧ Hid (∀ b ∈ s.data.toList.take k, rTik b = false ∧ b.toNat ≠ 10)) (fun v => s.size - (RowKit.intOf v).toNat)
  case atStart => exact ⟨0, Nat.zero_le _, rfl, Lib.hid (fun b hb => by simp at hb)⟩
  case round =>
    obtain ⟨k, hk, rfl, HC⟩ := hrel
    by_cases h : k < s.size
    · have hb := s[k].toNat_lt
      by_cases d1 : s[k].toNat = 96
      · have q2 := beqT (show (s[k].toNat : Int) = 96 by omega)
        clear HC hK d1
        go_wp2_with fail
        refine AW0.out.mono ?_
        rintro e w1 ⟨rfl, k1⟩
        go_wp2_with fail
        go_ret
        exact ⟨rfl, k1⟩
      · have q2 := beqF (show ¬ (s[k].toNat : Int) = 96 by omega)
        by_cases d2 : s[k].toNat = 10
        · have q3 := beqT (show (s[k].toNat : Int) = 10 by omega)
          clear HC hK d1 d2
          go_wp2_with fail
          refine AW0.out.mono ?_
          rintro e w1 ⟨rfl, k1⟩
          go_wp2_with fail
          go_ret
          exact ⟨rfl, k1⟩
        · have q3 := beqF (show ¬ (s[k].toNat : Int) = 10 by omega)
          have HN : Hid (∀ b ∈ s.data.toList.take (k + 1), rTik b = false ∧ b.toNat ≠ 10) := Lib.hid (fun b hb => by
            rw [take_next s k h] at hb
            rcases List.mem_append.1 hb with hb | hb
            · exact HC.out b hb
            · rw [List.mem_singleton.1 hb]
              exact ⟨decide_eq_false d1, d2⟩)
          clear HC hK d1 d2
          go_wp2_with fail
          go_round
          case rel => exact ⟨k + 1, h, by go_num, HN⟩
          case measure => simp [RowKit.intOf]; omega
    · have HL : Hid (∀ b ∈ s.data.toList, rTik b = false ∧ b.toNat ≠ 10) := Lib.hid (fun b hb => HC.out b (by rw [List.take_of_length_le (by rw [hl.out]; omega)]; exact hb))
      clear HC
      go_wp2_with fail
      go_loop [6, 7] (fun a v => ∃ (i : Nat) (A : ByteArray), i ≤ K + 1 ∧ v = .int .i64 i ∧ a = .string A ∧ A.size ≤ i ∧ Hid (A.data.toList = List.replicate i 96)) (fun _ v => K + 1 - (RowKit.intOf v).toNat)
      case atStart => exact ⟨0, ⟨#[]⟩, Nat.zero_le _, rfl, rfl, Nat.le_refl _, Lib.hid rfl⟩
      case round =>
        obtain ⟨i, A, hi, rfl, rfl, hA, HR⟩ := hrel
        by_cases c : i ≤ K
        · have q4 : decide ((i : Int) ≤ (K : Int)) = true := decide_eq_true (by omega)
          have HN := Lib.hid (fence_next HR.out)
          have HS : Hid ((A ++ (⟨#[96]⟩ : ByteArray)).size ≤ i + 1) := Lib.hid (by rw [fence_size HN.out]; omega)
          clear HR
          go_wp2_with fail
          go_round
          case rel => exact ⟨i + 1, _, by omega, by go_num, rfl, HS.out, HN⟩
          case measure => simp [RowKit.intOf]; omega
        · have q4 : decide ((i : Int) ≤ (K : Int)) = false := decide_eq_false (by omega)
          have i0 : i ≠ 0 := by omega
          have i9 : i ≤ 9 := by omega
          have ez : A.size = i := fence_size HR.out
          have S := HL.out
          have n1 := bytes_len s
          -- the three texts
          obtain ⟨A1, hA1⟩ : ∃ Z, A ++ s = Z := ⟨_, rfl⟩
          have z1 : A1.size ≤ 300 := by rw [← hA1, ByteArray.size_append]; omega
          obtain ⟨A2, hA2⟩ : ∃ Z, A1 ++ A = Z := ⟨_, rfl⟩
          have z2 : A2.size ≤ 310 := by rw [← hA2, ← hA1, ByteArray.size_append, ByteArray.size_append]; omega
          obtain ⟨A3, hA3⟩ : ∃ Z, A2 ++ ⟨#[120]⟩ = Z := ⟨_, rfl⟩
          have z3 : A3.size ≤ 320 := by rw [← hA3, ByteArray.size_append, show (⟨#[120]⟩ : ByteArray).size = 1 from rfl]; omega
          obtain ⟨A4, hA4⟩ : ∃ Z, A2 ++ ⟨#[96]⟩ = Z := ⟨_, rfl⟩
          have z4 : A4.size ≤ 320 := by rw [← hA4, ByteArray.size_append, show (⟨#[96]⟩ : ByteArray).size = 1 from rfl]; omega
          obtain ⟨B1, hB1⟩ : ∃ Z, A ++ ⟨#[32]⟩ = Z := ⟨_, rfl⟩
          have y1 : B1.size ≤ 20 := by rw [← hB1, ByteArray.size_append, show (⟨#[32]⟩ : ByteArray).size = 1 from rfl]; omega
          obtain ⟨B2, hB2⟩ : ∃ Z, B1 ++ s = Z := ⟨_, rfl⟩
          have y2 : B2.size ≤ 300 := by rw [← hB2, ByteArray.size_append]; omega
          obtain ⟨B3, hB3⟩ : ∃ Z, B2 ++ ⟨#[32]⟩ = Z := ⟨_, rfl⟩
          have y3 : B3.size ≤ 310 := by rw [← hB3, ByteArray.size_append, show (⟨#[32]⟩ : ByteArray).size = 1 from rfl]; omega
          obtain ⟨B4, hB4⟩ : ∃ Z, B3 ++ A = Z := ⟨_, rfl⟩
          have y4 : B4.size ≤ 330 := by rw [← hB4, ByteArray.size_append]; omega
          have l3 : A3.data.toList = List.replicate i 96 ++ (s.data.toList ++ (List.replicate i 96 ++ [120])) := by
            rw [← hA3, ← hA2, ← hA1, bytes_app, bytes_app, bytes_app, HR.out]; simp
          have l4 : A4.data.toList = List.replicate i 96 ++ (s.data.toList ++ (List.replicate i 96 ++ [96])) := by
            rw [← hA4, ← hA2, ← hA1, bytes_app, bytes_app, bytes_app, HR.out]; simp
          have m4 : B4.data.toList = List.replicate i 96 ++ ((32 :: (s.data.toList ++ [32])) ++ (List.replicate i 96 ++ [])) := by
            rw [← hB4, ← hB3, ← hB2, ← hB1, bytes_app, bytes_app, bytes_app, bytes_app, HR.out]; simp
          have f3 := cod_found i0 (fun b hb => (S b hb).1) NE.out (r := [120]) (fun b r e => by injection e with e1 _; rw [← e1]; decide)
          have f4 := cod_none i0 (fun b hb => (S b hb).1) NE.out
          have g4 := cod_found i0 (s := 32 :: (s.data.toList ++ [32])) (r := []) (fun b hb => by
            rcases List.mem_cons.1 hb with e | hb
            · rw [e]; decide
            · rcases List.mem_append.1 hb with hb | hb
              · exact (S b hb).1
              · rw [List.mem_singleton.1 hb]; decide) (by simp) (fun b r e => by cases e)
          rw [← l3, ctT_own (fun b hb => (S b hb).2) HB.out] at f3
          rw [← l4] at f4
          rw [← m4, ctT_blanks (fun b hb => (S b hb).2) HA.out] at g4
          obtain ⟨N, hN⟩ : ∃ N : Nat, i + s.size + i = N := ⟨_, rfl⟩
          have v3 : CodV A3.data.toList = .tuple #[.string s, .int .i64 (N : Nat)] := by
            unfold CodV
            rw [f3.1, f3.2, n1, hN, bytes_mk]
          have v4 : CodV A4.data.toList = .tuple #[.string ⟨#[]⟩, .int .i64 0] := by
            unfold CodV
            rw [f4.1, f4.2]
            rfl
          have w4 : CodV B4.data.toList = .tuple #[.string s, .int .i64 (N + 2 : Nat)] := by
            unfold CodV
            rw [g4.1, g4.2, bytes_mk]
            have : (32 :: (s.data.toList ++ [32])).length = s.size + 2 := by rw [List.length_cons, List.length_append, n1]; rfl
            rw [this, show i + (s.size + 2) + i = N + 2 by omega]
          have C1 := Lib.hid (fun W h => CO.out A3 W (by omega) h)
          have C2 := Lib.hid (fun W h => CO.out A4 W (by omega) h)
          have C3 := Lib.hid (fun W h => CO.out B4 W (by omega) h)
          rw [v3] at C1
          rw [v4] at C2
          rw [w4] at C3
          have r1 := beqT (show (N : Int) = 2 * (A.size : Int) + (s.size : Int) by omega)
          have r2 : N ≤ 300 := by omega
          have HF : Hid (s.data.toList.all (fun b => decide (b.toNat = 32)) = false) := Lib.hid (all_not HA.out)
          clear v3 v4 w4 f3 f4 g4 l3 l4 m4 S n1 ez hN HR HL CO HA HB NE i0
          go_wp2_with fail
          refine (C1.out _ HM.out).mono ?_
          rintro e w1 ⟨rfl, k1⟩
          have K1 := Lib.hid k1
          have M1 := Lib.hid (Mxl.keep HM.out k1)
          clear k1
          go_wp2_with fail
          refine (C2.out _ M1.out).mono ?_
          rintro e w2 ⟨rfl, k2⟩
          have K2 := Lib.hid (K1.out.trans k2)
          have M2 := Lib.hid (Mxl.keep M1.out k2)
          clear k2
          go_wp2_with fail
          refine (C3.out _ M2.out).mono ?_
          rintro e w3 ⟨rfl, k3⟩
          have K3 := Lib.hid (K2.out.trans k3)
          have M3 := Lib.hid (Mxl.keep M2.out k3)
          clear k3 C1 C2 C3
          go_wp2_with fail
          go_loop [14, 15] (fun a v => ∃ (j : Nat) (B : Bool), j ≤ s.size ∧ v = .int .i64 j ∧ a = .bool B ∧ Hid (B = (s.data.toList.take j).all (fun b => decide (b.toNat = 32)))) (fun _ v => s.size - (RowKit.intOf v).toNat)
          case atStart => exact ⟨0, true, Nat.zero_le _, rfl, rfl, Lib.hid (by simp)⟩
          case round =>
            obtain ⟨j, B, hj, rfl, rfl, HJ⟩ := hrel
            by_cases g : j < s.size
            · have hb := s[j].toNat_lt
              have HN : Hid ((s.data.toList.take (j + 1)).all (fun b => decide (b.toNat = 32)) = (B && decide (s[j].toNat = 32))) := Lib.hid (by
                rw [take_next s j g, List.all_append, ← HJ.out]
                simp)
              clear HJ
              cases B with
              | true =>
                by_cases d : s[j].toNat = 32
                · have q5 := beqT (show (s[j].toNat : Int) = 32 by omega)
                  have HO : Hid (true = (s.data.toList.take (j + 1)).all (fun b => decide (b.toNat = 32))) := Lib.hid (by rw [HN.out, decide_eq_true d]; rfl)
                  clear HN d
                  go_wp2_with fail
                  go_round
                  case rel => exact ⟨j + 1, true, g, by go_num, rfl, HO⟩
                  case measure => simp [RowKit.intOf]; omega
                · have q5 := beqF (show ¬ (s[j].toNat : Int) = 32 by omega)
                  have HO : Hid (false = (s.data.toList.take (j + 1)).all (fun b => decide (b.toNat = 32))) := Lib.hid (by rw [HN.out, decide_eq_false d]; rfl)
                  clear HN d
                  go_wp2_with fail
                  go_round
                  case rel => exact ⟨j + 1, false, g, by go_num, rfl, HO⟩
                  case measure => simp [RowKit.intOf]; omega
              | false =>
                have HO : Hid (false = (s.data.toList.take (j + 1)).all (fun b => decide (b.toNat = 32))) := Lib.hid (by rw [HN.out]; rfl)
                clear HN
                go_wp2_with fail
                go_round
                case rel => exact ⟨j + 1, false, g, by go_num, rfl, HO⟩
                case measure => simp [RowKit.intOf]; omega
            · have hB : B = false := by
                have := HJ.out
                rw [List.take_of_length_le (by rw [hl.out]; omega), HF.out] at this
                exact this
              subst hB
              clear HJ
              go_wp2_with fail
              refine (AW.out _ M3.out).mono ?_
              rintro e w4 ⟨rfl, k4⟩
              go_wp2_with fail
              go_ret
              exact ⟨ret_bool (by simp), K3.out.trans k4⟩
set_option maxRecDepth 100000 in
set_option maxHeartbeats 4000000 in
theorem rcodes_1 (s : ByteArray) (x : Int) (w : World) (hx : 0 ≤ x ∧ x ≤ 255) (hs : s.size ≤ 200) (p : 0 < s.size) (L : Nat) (hL : L + 1 = s.size) (hL2 : L < s.size) (hm : Mxl w) (h1 : s[0].toNat = 32) (h2 : s[L].toNat ≠ 32) :
    Calls Tryd.prog 4 #[.string s, .int .u8 x] w fun e w' => e = .returned (.bool true) ∧ Keeps w w' := by
  have AW0 := Lib.hid (awake11_any w hm)
  have HM := Lib.hid hm
  have CO := Lib.hid (fun a W (h : a.size ≤ 100000) h2 => rcode_any a W h h2)
  have AW := Lib.hid (fun W hW => awake11_any W hW)
  have q : decide ((200 : Int) < (s.size : Int)) = false := decide_eq_false (by omega)
  have u0 := tl_ne p
  have u1 := tl_empty p
  have hL1 : (s.size : Int) - 1 = (L : Int) := by omega
  have p0 := beqT (show (s[0].toNat : Int) = 32 by omega)
  have pL := beqF (show ¬ (s[L].toNat : Int) = 32 by omega)
  have HA := Lib.hid (any_not hL2 h2)
  have HB : Hid (hasPrefix s.data.toList [32] = false ∨ hasSuffix s.data.toList [32] = false) := Lib.hid (.inr (suf_not hL2 hL h2))
  clear h1 h2
  obtain ⟨K, hK⟩ : ∃ K : Nat, x % 9 = (K : Int) := ⟨(x % 9).toNat, by omega⟩
  have hK2 : K < 9 := by omega
  have hl := Lib.hid (bytes_len s)
  have NE : Hid (s.data.toList ≠ []) := Lib.hid (fun e => by
    have := bytes_len s
    rw [e] at this
    simp at this
    omega)
  clear hL hm
  go_enter Tryd.func4, Tryd.ntmps4
  go_wp2_with fail
  clear u0 u1 hL1 p0 pL
  go_loop [5] (fun v => ∃ k : Nat, k ≤ s.size ∧ v = .int .i64 k ∧ Hid (∀ b ∈ s.data.toList.take k, rTik b = false ∧ b.toNat ≠ 10)) (fun v => s.size - (RowKit.intOf v).toNat)
  case atStart => exact ⟨0, Nat.zero_le _, rfl, Lib.hid (fun b hb => by simp at hb)⟩
  case round =>
    obtain ⟨k, hk, rfl, HC⟩ := hrel
    by_cases h : k < s.size
    · have hb := s[k].toNat_lt
      by_cases d1 : s[k].toNat = 96
      · have q2 := beqT (show (s[k].toNat : Int) = 96 by omega)
        clear HC hK d1
        go_wp2_with fail
        refine AW0.out.mono ?_
        rintro e w1 ⟨rfl, k1⟩
        go_wp2_with fail
        go_ret
        exact ⟨rfl, k1⟩
      · have q2 := beqF (show ¬ (s[k].toNat : Int) = 96 by omega)
        by_cases d2 : s[k].toNat = 10
        · have q3 := beqT (show (s[k].toNat : Int) = 10 by omega)
          clear HC hK d1 d2
          go_wp2_with fail
          refine AW0.out.mono ?_
          rintro e w1 ⟨rfl, k1⟩
          go_wp2_with fail
          go_ret
          exact ⟨rfl, k1⟩
        · have q3 := beqF (show ¬ (s[k].toNat : Int) = 10 by omega)
          have HN : Hid (∀ b ∈ s.data.toList.take (k + 1), rTik b = false ∧ b.toNat ≠ 10) := Lib.hid (fun b hb => by
            rw [take_next s k h] at hb
            rcases List.mem_append.1 hb with hb | hb
            · exact HC.out b hb
            · rw [List.mem_singleton.1 hb]
              exact ⟨decide_eq_false d1, d2⟩)
          clear HC hK d1 d2
          go_wp2_with fail
          go_round
          case rel => exact ⟨k + 1, h, by go_num, HN⟩
          case measure => simp [RowKit.intOf]; omega
    · have HL : Hid (∀ b ∈ s.data.toList, rTik b = false ∧ b.toNat ≠ 10) := Lib.hid (fun b hb => HC.out b (by rw [List.take_of_length_le (by rw [hl.out]; omega)]; exact hb))
      clear HC
      go_wp2_with fail
      go_loop [6, 7] (fun a v => ∃ (i : Nat) (A : ByteArray), i ≤ K + 1 ∧ v = .int .i64 i ∧ a = .string A ∧ A.size ≤ i ∧ Hid (A.data.toList = List.replicate i 96)) (fun _ v => K + 1 - (RowKit.intOf v).toNat)
      case atStart => exact ⟨0, ⟨#[]⟩, Nat.zero_le _, rfl, rfl, Nat.le_refl _, Lib.hid rfl⟩
      case round =>
        obtain ⟨i, A, hi, rfl, rfl, hA, HR⟩ := hrel
        by_cases c : i ≤ K
        · have q4 : decide ((i : Int) ≤ (K : Int)) = true := decide_eq_true (by omega)
          have HN := Lib.hid (fence_next HR.out)
          have HS : Hid ((A ++ (⟨#[96]⟩ : ByteArray)).size ≤ i + 1) := Lib.hid (by rw [fence_size HN.out]; omega)
          clear HR
          go_wp2_with fail
          go_round
          case rel => exact ⟨i + 1, _, by omega, by go_num, rfl, HS.out, HN⟩
          case measure => simp [RowKit.intOf]; omega
        · have q4 : decide ((i : Int) ≤ (K : Int)) = false := decide_eq_false (by omega)
          have i0 : i ≠ 0 := by omega
          have i9 : i ≤ 9 := by omega
          have ez : A.size = i := fence_size HR.out
          have S := HL.out
          have n1 := bytes_len s
          -- the three texts
          obtain ⟨A1, hA1⟩ : ∃ Z, A ++ s = Z := ⟨_, rfl⟩
          have z1 : A1.size ≤ 300 := by rw [← hA1, ByteArray.size_append]; omega
          obtain ⟨A2, hA2⟩ : ∃ Z, A1 ++ A = Z := ⟨_, rfl⟩
          have z2 : A2.size ≤ 310 := by rw [← hA2, ← hA1, ByteArray.size_append, ByteArray.size_append]; omega
          obtain ⟨A3, hA3⟩ : ∃ Z, A2 ++ ⟨#[120]⟩ = Z := ⟨_, rfl⟩
          have z3 : A3.size ≤ 320 := by rw [← hA3, ByteArray.size_append, show (⟨#[120]⟩ : ByteArray).size = 1 from rfl]; omega
          obtain ⟨A4, hA4⟩ : ∃ Z, A2 ++ ⟨#[96]⟩ = Z := ⟨_, rfl⟩
          have z4 : A4.size ≤ 320 := by rw [← hA4, ByteArray.size_append, show (⟨#[96]⟩ : ByteArray).size = 1 from rfl]; omega
          obtain ⟨B1, hB1⟩ : ∃ Z, A ++ ⟨#[32]⟩ = Z := ⟨_, rfl⟩
          have y1 : B1.size ≤ 20 := by rw [← hB1, ByteArray.size_append, show (⟨#[32]⟩ : ByteArray).size = 1 from rfl]; omega
          obtain ⟨B2, hB2⟩ : ∃ Z, B1 ++ s = Z := ⟨_, rfl⟩
          have y2 : B2.size ≤ 300 := by rw [← hB2, ByteArray.size_append]; omega
          obtain ⟨B3, hB3⟩ : ∃ Z, B2 ++ ⟨#[32]⟩ = Z := ⟨_, rfl⟩
          have y3 : B3.size ≤ 310 := by rw [← hB3, ByteArray.size_append, show (⟨#[32]⟩ : ByteArray).size = 1 from rfl]; omega
          obtain ⟨B4, hB4⟩ : ∃ Z, B3 ++ A = Z := ⟨_, rfl⟩
          have y4 : B4.size ≤ 330 := by rw [← hB4, ByteArray.size_append]; omega
          have l3 : A3.data.toList = List.replicate i 96 ++ (s.data.toList ++ (List.replicate i 96 ++ [120])) := by
            rw [← hA3, ← hA2, ← hA1, bytes_app, bytes_app, bytes_app, HR.out]; simp
          have l4 : A4.data.toList = List.replicate i 96 ++ (s.data.toList ++ (List.replicate i 96 ++ [96])) := by
            rw [← hA4, ← hA2, ← hA1, bytes_app, bytes_app, bytes_app, HR.out]; simp
          have m4 : B4.data.toList = List.replicate i 96 ++ ((32 :: (s.data.toList ++ [32])) ++ (List.replicate i 96 ++ [])) := by
            rw [← hB4, ← hB3, ← hB2, ← hB1, bytes_app, bytes_app, bytes_app, bytes_app, HR.out]; simp
          have f3 := cod_found i0 (fun b hb => (S b hb).1) NE.out (r := [120]) (fun b r e => by injection e with e1 _; rw [← e1]; decide)
          have f4 := cod_none i0 (fun b hb => (S b hb).1) NE.out
          have g4 := cod_found i0 (s := 32 :: (s.data.toList ++ [32])) (r := []) (fun b hb => by
            rcases List.mem_cons.1 hb with e | hb
            · rw [e]; decide
            · rcases List.mem_append.1 hb with hb | hb
              · exact (S b hb).1
              · rw [List.mem_singleton.1 hb]; decide) (by simp) (fun b r e => by cases e)
          rw [← l3, ctT_own (fun b hb => (S b hb).2) HB.out] at f3
          rw [← l4] at f4
          rw [← m4, ctT_blanks (fun b hb => (S b hb).2) HA.out] at g4
          obtain ⟨N, hN⟩ : ∃ N : Nat, i + s.size + i = N := ⟨_, rfl⟩
          have v3 : CodV A3.data.toList = .tuple #[.string s, .int .i64 (N : Nat)] := by
            unfold CodV
            rw [f3.1, f3.2, n1, hN, bytes_mk]
          have v4 : CodV A4.data.toList = .tuple #[.string ⟨#[]⟩, .int .i64 0] := by
            unfold CodV
            rw [f4.1, f4.2]
            rfl
          have w4 : CodV B4.data.toList = .tuple #[.string s, .int .i64 (N + 2 : Nat)] := by
            unfold CodV
            rw [g4.1, g4.2, bytes_mk]
            have : (32 :: (s.data.toList ++ [32])).length = s.size + 2 := by rw [List.length_cons, List.length_append, n1]; rfl
            rw [this, show i + (s.size + 2) + i = N + 2 by omega]
          have C1 := Lib.hid (fun W h => CO.out A3 W (by omega) h)
          have C2 := Lib.hid (fun W h => CO.out A4 W (by omega) h)
          have C3 := Lib.hid (fun W h => CO.out B4 W (by omega) h)
          rw [v3] at C1
          rw [v4] at C2
          rw [w4] at C3
          have r1 := beqT (show (N : Int) = 2 * (A.size : Int) + (s.size : Int) by omega)
          have r2 : N ≤ 300 := by omega
          have HF : Hid (s.data.toList.all (fun b => decide (b.toNat = 32)) = false) := Lib.hid (all_not HA.out)
          clear v3 v4 w4 f3 f4 g4 l3 l4 m4 S n1 ez hN HR HL CO HA HB NE i0
          go_wp2_with fail
          refine (C1.out _ HM.out).mono ?_
          rintro e w1 ⟨rfl, k1⟩
          have K1 := Lib.hid k1
          have M1 := Lib.hid (Mxl.keep HM.out k1)
          clear k1
          go_wp2_with fail
          refine (C2.out _ M1.out).mono ?_
          rintro e w2 ⟨rfl, k2⟩
          have K2 := Lib.hid (K1.out.trans k2)
          have M2 := Lib.hid (Mxl.keep M1.out k2)
          clear k2
          go_wp2_with fail
          refine (C3.out _ M2.out).mono ?_
          rintro e w3 ⟨rfl, k3⟩
          have K3 := Lib.hid (K2.out.trans k3)
          have M3 := Lib.hid (Mxl.keep M2.out k3)
          clear k3 C1 C2 C3
          go_wp2_with fail
          go_loop [14, 15] (fun a v => ∃ (j : Nat) (B : Bool), j ≤ s.size ∧ v = .int .i64 j ∧ a = .bool B ∧ Hid (B = (s.data.toList.take j).all (fun b => decide (b.toNat = 32)))) (fun _ v => s.size - (RowKit.intOf v).toNat)
          case atStart => exact ⟨0, true, Nat.zero_le _, rfl, rfl, Lib.hid (by simp)⟩
          case round =>
            obtain ⟨j, B, hj, rfl, rfl, HJ⟩ := hrel
            by_cases g : j < s.size
            · have hb := s[j].toNat_lt
              have HN : Hid ((s.data.toList.take (j + 1)).all (fun b => decide (b.toNat = 32)) = (B && decide (s[j].toNat = 32))) := Lib.hid (by
                rw [take_next s j g, List.all_append, ← HJ.out]
                simp)
              clear HJ
              cases B with
              | true =>
                by_cases d : s[j].toNat = 32
                · have q5 := beqT (show (s[j].toNat : Int) = 32 by omega)
                  have HO : Hid (true = (s.data.toList.take (j + 1)).all (fun b => decide (b.toNat = 32))) := Lib.hid (by rw [HN.out, decide_eq_true d]; rfl)
                  clear HN d
                  go_wp2_with fail
                  go_round
                  case rel => exact ⟨j + 1, true, g, by go_num, rfl, HO⟩
                  case measure => simp [RowKit.intOf]; omega
                · have q5 := beqF (show ¬ (s[j].toNat : Int) = 32 by omega)
                  have HO : Hid (false = (s.data.toList.take (j + 1)).all (fun b => decide (b.toNat = 32))) := Lib.hid (by rw [HN.out, decide_eq_false d]; rfl)
                  clear HN d
                  go_wp2_with fail
                  go_round
                  case rel => exact ⟨j + 1, false, g, by go_num, rfl, HO⟩
                  case measure => simp [RowKit.intOf]; omega
              | false =>
                have HO : Hid (false = (s.data.toList.take (j + 1)).all (fun b => decide (b.toNat = 32))) := Lib.hid (by rw [HN.out]; rfl)
                clear HN
                go_wp2_with fail
                go_round
                case rel => exact ⟨j + 1, false, g, by go_num, rfl, HO⟩
                case measure => simp [RowKit.intOf]; omega
            · have hB : B = false := by
                have := HJ.out
                rw [List.take_of_length_le (by rw [hl.out]; omega), HF.out] at this
                exact this
              subst hB
              clear HJ
              go_wp2_with fail
              refine (AW.out _ M3.out).mono ?_
              rintro e w4 ⟨rfl, k4⟩
              go_wp2_with fail
              go_ret
              exact ⟨ret_bool (by simp), K3.out.trans k4⟩

theorem rcodes_any (s : ByteArray) (x : Int) (w : World) (hx : 0 ≤ x ∧ x ≤ 255) (hs : s.size ≤ maxLen) (hm : Mxl w) :
    Calls Tryd.prog 4 #[.string s, .int .u8 x] w fun e w' => e = .returned (.bool true) ∧ Keeps w w' := by
  by_cases c : 200 < s.size
  · exact rcodes_idle s x w hx hs hm (.inl c)
  · by_cases c2 : s.size = 0
    · exact rcodes_idle s x w hx hs hm (.inr (.inl c2))
    · have p : 0 < s.size := by omega
      have q : s.size - 1 < s.size := by omega
      by_cases h1 : s[0].toNat = 32
      · by_cases h2 : s[s.size - 1].toNat = 32
        · exact rcodes_idle s x w hx hs hm (.inr (.inr ⟨p, q, h1, h2⟩))
        · exact rcodes_1 s x w hx (by omega) p (s.size - 1) (by omega) q hm h1 h2
      · exact rcodes_0 s x w hx (by omega) p (s.size - 1) (by omega) q hm h1
end Go.Proofs.YtggeknhggpdpkaaDoor

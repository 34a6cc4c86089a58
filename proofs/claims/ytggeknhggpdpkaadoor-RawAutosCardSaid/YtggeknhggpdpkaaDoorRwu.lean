/-
  RawAutos, walked.
-/
import Derived.Test.YtggeknhggpdpkaaDoorRwj
import Derived.Test.YtggeknhggpdpkaaDoorRws
namespace Go.Proofs.YtggeknhggpdpkaaDoor
open Go.RowKit Go.Lib

theorem abc_text : ∀ u : Fin 10, ((⟨#[97, 98, 99, 100, 101, 102, 103, 104, 105, 106]⟩ : ByteArray).extract u.val (u.val + 1)).data.toList = [UInt8.ofNat (97 + u.val)] := by decide
theorem abc_next {T : ByteArray} {i u : Nat} (h : T.data.toList = abcL i) (hu : i % 10 = u) : (T ++ (⟨#[97, 98, 99, 100, 101, 102, 103, 104, 105, 106]⟩ : ByteArray).extract u (u + 1)).data.toList = abcL (i + 1) := by
  have hb : u < 10 := by omega
  rw [bytes_app, h, abc_text ⟨u, hb⟩, abc_succ, hu]
theorem abc_size {T : ByteArray} {i : Nat} (h : T.data.toList = abcL i) : T.size = i := by rw [← bytes_len, h, abc_len]

set_option maxRecDepth 100000 in
set_option maxHeartbeats 4000000 in
theorem rautos_any (x : Int) (s : ByteArray) (w : World) (hx : 0 ≤ x ∧ x ≤ 255) (hs : s.size ≤ maxLen) (hm : Mxl w) :
    Calls Tryd.prog 5 #[.int .u8 x, .string s] w fun e w' => e = .returned (.bool true) ∧ Keeps w w' := by
  have AW0 := Lib.hid (awake11_any w hm)
  unfold maxLen at hs
  by_cases c0 : 200 < s.size
  · have q : decide ((200 : Int) < (s.size : Int)) = true := decide_eq_true (by omega)
    clear c0 hm
    go_enter Tryd.func5, Tryd.ntmps5
    go_wp2_with fail
    refine AW0.out.mono ?_
    rintro e w1 ⟨rfl, k1⟩
    go_wp2_with fail
    go_ret
    exact ⟨rfl, k1⟩
  · have q : decide ((200 : Int) < (s.size : Int)) = false := decide_eq_false (by omega)
    have hs2 : s.size ≤ 200 := by omega
    have HM := Lib.hid hm
    have AU := Lib.hid (fun a W (h : a.size ≤ 99000) h2 => auto_any a W h h2)
    have AW := Lib.hid (fun W hW => awake11_any W hW)
    obtain ⟨K, hK⟩ : ∃ K : Nat, x % 40 = (K : Int) := ⟨(x % 40).toNat, by omega⟩
    have hK2 : K < 40 := by omega
    have hl := Lib.hid (bytes_len s)
    clear c0 hs hm
    go_enter Tryd.func5, Tryd.ntmps5
    go_wp2_with fail
    go_loop [5] (fun v => ∃ k : Nat, k ≤ s.size ∧ v = .int .i64 k ∧ Hid (∀ b ∈ s.data.toList.take k, rLnk b = true)) (fun v => s.size - (RowKit.intOf v).toNat)
    case atStart => exact ⟨0, Nat.zero_le _, rfl, Lib.hid (fun b hb => by simp at hb)⟩
    case round =>
      obtain ⟨k, hk, rfl, HC⟩ := hrel
      by_cases h : k < s.size
      · have hb := s[k].toNat_lt
        by_cases d1 : s[k].toNat ≤ 32
        · have q2 : decide ((s[k].toNat : Int) ≤ 32) = true := decide_eq_true (by omega)
          clear HC hK
          go_wp2_with fail
          refine AW0.out.mono ?_
          rintro e w1 ⟨rfl, k1⟩
          go_wp2_with fail
          go_ret
          exact ⟨rfl, k1⟩
        · have q2 : decide ((s[k].toNat : Int) ≤ 32) = false := decide_eq_false (by omega)
          by_cases d2 : s[k].toNat = 60
          · have q3 := beqT (show (s[k].toNat : Int) = 60 by omega)
            clear HC hK d2
            go_wp2_with fail
            refine AW0.out.mono ?_
            rintro e w1 ⟨rfl, k1⟩
            go_wp2_with fail
            go_ret
            exact ⟨rfl, k1⟩
          · have q3 := beqF (show ¬ (s[k].toNat : Int) = 60 by omega)
            by_cases d3 : s[k].toNat = 62
            · have q4 := beqT (show (s[k].toNat : Int) = 62 by omega)
              clear HC hK d2 d3
              go_wp2_with fail
              refine AW0.out.mono ?_
              rintro e w1 ⟨rfl, k1⟩
              go_wp2_with fail
              go_ret
              exact ⟨rfl, k1⟩
            · have q4 := beqF (show ¬ (s[k].toNat : Int) = 62 by omega)
              by_cases d4 : s[k].toNat = 127
              · have q5 := beqT (show (s[k].toNat : Int) = 127 by omega)
                clear HC hK d2 d3 d4
                go_wp2_with fail
                refine AW0.out.mono ?_
                rintro e w1 ⟨rfl, k1⟩
                go_wp2_with fail
                go_ret
                exact ⟨rfl, k1⟩
              · have q5 := beqF (show ¬ (s[k].toNat : Int) = 127 by omega)
                have HN : Hid (∀ b ∈ s.data.toList.take (k + 1), rLnk b = true) := Lib.hid (fun b hb => by
                  rw [take_next s k h] at hb
                  rcases List.mem_append.1 hb with hb | hb
                  · exact HC.out b hb
                  · rw [List.mem_singleton.1 hb]
                    exact decide_eq_true ⟨by omega, d2, d3, d4⟩)
                clear HC hK d2 d3 d4
                go_wp2_with fail
                go_round
                case rel => exact ⟨k + 1, h, by go_num, HN⟩
                case measure => simp [RowKit.intOf]; omega
      · have HL : Hid (∀ b ∈ s.data.toList, rLnk b = true) := Lib.hid (fun b hb => HC.out b (by rw [List.take_of_length_le (by rw [hl.out]; omega)]; exact hb))
        clear HC
        go_wp2_with fail
        clear hK
        go_loop [7, 8] (fun a v => ∃ (i : Nat) (T : ByteArray), i ≤ K ∧ v = .int .i64 i ∧ a = .string T ∧ T.size ≤ i ∧ Hid (T.data.toList = abcL i)) (fun _ v => K - (RowKit.intOf v).toNat)
        case atStart => exact ⟨0, ⟨#[]⟩, Nat.zero_le _, rfl, rfl, Nat.le_refl _, Lib.hid rfl⟩
        case round =>
          obtain ⟨i, T, hi, rfl, rfl, hT, HR⟩ := hrel
          by_cases c : i < K
          · obtain ⟨u, hu⟩ : ∃ u : Nat, (i : Int) % 10 = (u : Int) := ⟨i % 10, by omega⟩
            have hu2 : (i : Int).tmod 10 = (u : Int) := by rw [Int.tmod_eq_emod_of_nonneg (by omega)]; exact hu
            have hu3 : i % 10 = u := by omega
            have hu4 : u < 10 := by omega
            have HN := Lib.hid (abc_next HR.out hu3)
            have HS : Hid ((T ++ (⟨#[97, 98, 99, 100, 101, 102, 103, 104, 105, 106]⟩ : ByteArray).extract u (u + 1)).size ≤ i + 1) := Lib.hid (by rw [abc_size HN.out]; omega)
            clear HR hu3
            go_wp2_with fail
            go_round
            case rel => exact ⟨i + 1, _, by omega, by go_num, rfl, HS.out, HN⟩
            case measure => simp [RowKit.intOf]; omega
          · obtain rfl : i = K := by omega
            have u1 : (T ++ ⟨#[58]⟩).size ≤ 50 := by rw [ByteArray.size_append, show (⟨#[58]⟩ : ByteArray).size = 1 from rfl]; omega
            obtain ⟨U, hU⟩ : ∃ U, T ++ ⟨#[58]⟩ ++ s = U := ⟨_, rfl⟩
            have u2 : U.size ≤ 300 := by rw [← hU, ByteArray.size_append]; omega
            obtain ⟨V, hV⟩ : ∃ V, (⟨#[60]⟩ : ByteArray) ++ U = V := ⟨_, rfl⟩
            have u3 : V.size ≤ 400 := by rw [← hV, ByteArray.size_append, show (⟨#[60]⟩ : ByteArray).size = 1 from rfl]; omega
            obtain ⟨Z, hZ⟩ : ∃ Z, V ++ ⟨#[62, 120]⟩ = Z := ⟨_, rfl⟩
            have u4 : Z.size ≤ 500 := by rw [← hZ, ByteArray.size_append, show (⟨#[62, 120]⟩ : ByteArray).size = 2 from rfl]; omega
            have A1 := Lib.hid (fun W h => AU.out Z W (by omega) h)
            have lU : U.data.toList = abcL i ++ 58 :: s.data.toList := by rw [← hU, bytes_app, bytes_app, HR.out]; simp
            have lZ : Z.data.toList = 60 :: (U.data.toList ++ 62 :: [120]) := by rw [← hZ, bytes_app, ← hV, bytes_app]; simp
            have eE : encT Z.data.toList = U.data.toList := by
              rw [lZ]
              refine enc_link _ (fun b hb => ?_)
              rw [lU] at hb
              rcases List.mem_append.1 hb with hb | hb
              · exact (abc_mem hb).1
              · rcases List.mem_cons.1 hb with e | hb
                · rw [e]; decide
                · exact HL.out b hb
            have eS : schB U.data.toList = (decide (2 ≤ i) && decide (i ≤ 32)) := by rw [lU]; exact sch_link _ _
            have eA : adrB U.data.toList = false := by rw [lU]; exact adr_link _ _
            by_cases c1 : 2 ≤ i
            · have q6 : decide ((2 : Int) ≤ (i : Int)) = true := decide_eq_true (by omega)
              by_cases c2 : i ≤ 32
              · have q7 : decide ((i : Int) ≤ 32) = true := decide_eq_true (by omega)
                rw [autV_sch (by rw [eE, eS, decide_eq_true c1, decide_eq_true c2]; rfl), eE, bytes_mk, bytes_len] at A1
                clear lU lZ eE eS eA HR HL c1 c2 AU hl
                go_wp2_with fail
                refine (A1.out _ HM.out).mono ?_
                rintro e w1 ⟨rfl, k1⟩
                have K1 := Lib.hid k1
                have M1 := Lib.hid (Mxl.keep HM.out k1)
                clear k1
                go_wp2_with fail
                refine (AW.out _ M1.out).mono ?_
                rintro e w2 ⟨rfl, k2⟩
                go_wp2_with fail
                go_ret
                exact ⟨ret_bool (by simp), K1.out.trans k2⟩
              · have q7 : decide ((i : Int) ≤ 32) = false := decide_eq_false (by omega)
                rw [autV_no (by rw [eE, eS, decide_eq_false c2, Bool.and_false]) (by rw [eE]; exact eA)] at A1
                clear lU lZ eE eS eA HR HL c1 c2 AU hl
                go_wp2_with fail
                refine (A1.out _ HM.out).mono ?_
                rintro e w1 ⟨rfl, k1⟩
                have K1 := Lib.hid k1
                have M1 := Lib.hid (Mxl.keep HM.out k1)
                clear k1
                go_wp2_with fail
                refine (AW.out _ M1.out).mono ?_
                rintro e w2 ⟨rfl, k2⟩
                go_wp2_with fail
                go_ret
                exact ⟨ret_bool (by simp), K1.out.trans k2⟩
            · have q6 : decide ((2 : Int) ≤ (i : Int)) = false := decide_eq_false (by omega)
              rw [autV_no (by rw [eE, eS, decide_eq_false c1, Bool.false_and]) (by rw [eE]; exact eA)] at A1
              clear lU lZ eE eS eA HR HL c1 AU hl
              go_wp2_with fail
              refine (A1.out _ HM.out).mono ?_
              rintro e w1 ⟨rfl, k1⟩
              have K1 := Lib.hid k1
              have M1 := Lib.hid (Mxl.keep HM.out k1)
              clear k1
              go_wp2_with fail
              refine (AW.out _ M1.out).mono ?_
              rintro e w2 ⟨rfl, k2⟩
              go_wp2_with fail
              go_ret
              exact ⟨ret_bool (by simp), K1.out.trans k2⟩
end Go.Proofs.YtggeknhggpdpkaaDoor

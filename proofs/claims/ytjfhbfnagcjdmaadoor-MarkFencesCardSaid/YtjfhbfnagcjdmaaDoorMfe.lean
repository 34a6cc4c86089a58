/-
  MarkFences returns true of any numbers and sign.
-/
import Derived.Test.YtjfhbfnagcjdmaaDoorMun
namespace Go.Proofs.YtjfhbfnagcjdmaaDoor
open Go.RowKit Go.Lib

theorem cnt_rep_all (c : UInt8) (i : Nat) : cntL c (List.replicate i c) = i := by
  have := cnt_rep c [] i
  rwa [List.append_nil] at this
theorem head_rep (c : UInt8) (i : Nat) (h : 1 ≤ i) : (List.replicate i c).headD 0 = c := by
  obtain ⟨k, rfl⟩ : ∃ k, i = k + 1 := ⟨i - 1, by omega⟩
  rfl
theorem fen_rep_no (c : UInt8) (i : Nat) (h : i < 3) : fenB (List.replicate i c) = false := by
  unfold fenB
  have : cntL ((List.replicate i c).headD 0) (List.replicate i c) < 3 := by
    have := cnt_le ((List.replicate i c).headD 0) (List.replicate i c)
    rw [List.length_replicate] at this
    omega
  rw [decide_eq_false (by omega)]; rfl
theorem fen_rep_yes (c : UInt8) (i : Nat) (h : 3 ≤ i) (hc : c = 96 ∨ c = 126) : fenB (List.replicate i c) = true := by
  unfold fenB
  rw [head_rep c i (by omega), cnt_rep_all, decide_eq_true h, List.drop_eq_nil_of_le (by rw [List.length_replicate]; omega)]
  rcases hc with rfl | rfl <;> rfl
theorem str_rep (c : UInt8) (i j : Nat) (h : 3 ≤ i) : stretchL c (max (i : Int) 3) (List.replicate j c) = decide (i ≤ j) := by
  have := stretch_rep c (max (i : Int) 3) j [] rfl
  rw [List.append_nil] at this
  rw [this, show blankL [] = true from rfl, Bool.and_true]
  by_cases g : i ≤ j
  · rw [decide_eq_true (by omega), decide_eq_true g]
  · rw [decide_eq_false (by omega), decide_eq_false g]
theorem str_rep3 (c : UInt8) (i : Nat) (h : i < 3) : stretchL c (max 3 3) (List.replicate i c) = false := by
  have := stretch_rep c (max 3 3) i [] rfl
  rw [List.append_nil] at this
  rw [this, decide_eq_false (by omega)]
  rfl
theorem str_other (c d : UInt8) (m : Int) (j : Nat) (h : c ≠ d) : stretchL d (max m 3) (List.replicate j c) = false := by
  have h0 : cntL d (List.replicate j c) = 0 := by have := cnt_rep_ne h [] rfl j; rwa [List.append_nil] at this
  exact stretch_none h0 (by omega)
set_option maxHeartbeats 4000000 in
set_option maxRecDepth 100000 in
theorem mfences_go (x y : Int) (hx0 : 0 ≤ x) (hx1 : x ≤ 255) (hy0 : 0 ≤ y) (hy1 : y ≤ 255) (p : Bool) (c d : UInt8) (hp : (p = false ∧ c = 96 ∧ d = 126) ∨ (p = true ∧ c = 126 ∧ d = 96)) (w : World) (hE : Env8 w) :
    Calls Tryd.prog 4 #[.int .u8 x, .int .u8 y, .bool p] w fun e w' => e = .returned (.bool true) ∧ Keeps w w' := by
  have AW := Lib.hid (fun W h => awake8_any W h)
  have FN := Lib.hid (fun s W h k => fence_any s W h k)
  have FE := Lib.hid (fun s c m W h => fenceEnd_any s c m W h)
  have HE := Lib.hid hE
  clear hE
  have HCD : Hid (c ≠ d) := Lib.hid (by rcases hp with ⟨_, rfl, rfl⟩ | ⟨_, rfl, rfl⟩ <;> decide)
  have HCC : Hid (c = 96 ∨ c = 126) := Lib.hid (by
    rcases hp with ⟨_, h, _⟩ | ⟨_, h, _⟩
    · exact .inl h
    · exact .inr h)
  have kb := Lib.hid (fun W => one_byte W 27 9 5 c (c.toNat : Nat) rfl Tryd.underlying27 Tryd.underlying5 Tryd.underlying9)
  obtain ⟨R, hR⟩ : ∃ R : Nat → ByteArray → Prop, ∀ i A, R i A = (A.data.toList = List.replicate i c) := ⟨fun i A => A.data.toList = List.replicate i c, fun _ _ => rfl⟩
  have R0 : Hid (R 0 ⟨#[]⟩) := Lib.hid (by rw [hR]; rfl)
  have R1 : Hid (∀ i A, R i A → R (i + 1) (A ++ ⟨#[c]⟩)) := Lib.hid (fun i A h => by
    rw [hR] at h ⊢
    rw [byte_snoc, h, rep_snoc])
  have F3 : Hid (∀ i A, R i A → A.size = i → i ≤ 12 → 3 ≤ i → ∃ T, ∀ W, Lis W → Calls Tryd.prog 11 #[.string A] W fun e w' => e = .returned (.tuple #[.int .u8 (c.toNat : Nat), .int .i64 (i : Nat), .string T]) ∧ Keeps W w') := Lib.hid (fun i A h hA h12 h3 => by
    rw [hR] at h
    obtain ⟨h1, h2, _⟩ := fen_yes (fen_rep_yes c i h3 HCC.out)
    rw [head_rep c i (by omega)] at h1
    rw [head_rep c i (by omega), cnt_rep_all] at h2
    refine ⟨⟨(fenT (List.replicate i c)).toArray⟩, fun W hW => ?_⟩
    have := FN.out A W (by omega) hW
    rw [h, h1, h2] at this
    exact this)
  have F0 : Hid (∀ i A, R i A → A.size = i → i ≤ 12 → i < 3 → ∃ (n : Nat) (T : ByteArray), n < 256 ∧ ∀ W, Lis W → Calls Tryd.prog 11 #[.string A] W fun e w' => e = .returned (.tuple #[.int .u8 (n : Nat), .int .i64 0, .string T]) ∧ Keeps W w') := Lib.hid (fun i A h hA h12 h3 => by
    rw [hR] at h
    obtain ⟨h1, h2, _⟩ := fen_no (fen_rep_no c i h3)
    refine ⟨0, ⟨(fenT (List.replicate i c)).toArray⟩, by omega, fun W hW => ?_⟩
    have := FN.out A W (by omega) hW
    rw [h, h1, h2] at this
    exact this)
  have EC : Hid (∀ i j B, R j B → B.size = j → j ≤ 12 → 3 ≤ i → ∀ W, Calls Tryd.prog 12 #[.string B, .int .u8 (c.toNat : Nat), .int .i64 (i : Nat)] W fun e w' => e = .returned (.bool (decide (i ≤ j))) ∧ Keeps W w') := Lib.hid (fun i j B h hB h12 h3 W => by
    rw [hR] at h
    have := FE.out B c (i : Nat) W (by unfold maxLen; omega)
    rw [h, str_rep c i j h3] at this
    exact this)
  have ED : Hid (∀ m j B, R j B → B.size = j → j ≤ 12 → ∀ W, Calls Tryd.prog 12 #[.string B, .int .u8 (d.toNat : Nat), .int .i64 m] W fun e w' => e = .returned (.bool false) ∧ Keeps W w') := Lib.hid (fun m j B h hB h12 W => by
    rw [hR] at h
    have := FE.out B d m W (by unfold maxLen; omega)
    rw [h, str_other c d m j HCD.out] at this
    exact this)
  have E3 : Hid (∀ i A, R i A → A.size = i → i ≤ 12 → i < 3 → ∀ W, Calls Tryd.prog 12 #[.string A, .int .u8 (c.toNat : Nat), .int .i64 3] W fun e w' => e = .returned (.bool false) ∧ Keeps W w') := Lib.hid (fun i A h hA h12 h3 W => by
    rw [hR] at h
    have := FE.out A c 3 W (by unfold maxLen; omega)
    rw [h, str_rep3 c i h3] at this
    exact this)
  have e96 : (((96 : UInt8).toNat : Nat) : Int) = 96 := rfl
  have e126 : (((126 : UInt8).toNat : Nat) : Int) = 126 := rfl
  clear FE FN HCC HCD hR
  rcases hp with ⟨rfl, rfl, rfl⟩ | ⟨rfl, rfl, rfl⟩
  all_goals
    simp only [e96, e126] at kb F3 EC ED E3
    clear e96 e126
    go_enter Tryd.func4, Tryd.ntmps4
    go_wp2_with fail
    go_loopw [9, 11] (fun a v wr => ∃ (i : Nat) (A : ByteArray), i ≤ 12 ∧ (i : Int) ≤ x % 12 ∧ v = .int .i64 i ∧ a = .string A ∧ A.size = i ∧ Hid (R i A) ∧ Hid (Keeps w wr)) (fun _ v _ => 30 - (RowKit.intOf v).toNat)
    case atStart => exact ⟨0, ⟨#[]⟩, by omega, by omega, rfl, rfl, rfl, R0, Lib.hid (Keeps.refl w)⟩
    case round =>
      obtain ⟨i, A, hi, hix, rfl, rfl, hA, HA, HK⟩ := hrel
      by_cases q : (i : Int) < x % 12
      · have kc := kb.out wr
        have HK2 := Lib.hid (fun v => HK.out.alloc (.cells #[v] 5))
        have HN := Lib.hid (R1.out i A HA.out)
        go_wp2_with fail
        go_roundw
        case rel => exact ⟨i + 1, _, by omega, by omega, by go_num, rfl, by rw [size_snoc8]; omega, HN, Lib.hid (HK2.out _)⟩
        case measure => simp [RowKit.intOf]; omega
      · go_wp2_with fail
        go_loopw [10, 12] (fun a v wr => ∃ (j : Nat) (B : ByteArray), j ≤ 12 ∧ (j : Int) ≤ y % 12 ∧ v = .int .i64 j ∧ a = .string B ∧ B.size = j ∧ Hid (R j B) ∧ Hid (Keeps w wr)) (fun _ v _ => 30 - (RowKit.intOf v).toNat)
        case atStart => exact ⟨0, ⟨#[]⟩, by omega, by omega, rfl, rfl, rfl, R0, HK⟩
        case round =>
          clear HK
          obtain ⟨j, B, hj, hjy, rfl, rfl, hB, HB, HK⟩ := hrel
          by_cases q2 : (j : Int) < y % 12
          · have kc := kb.out wr
            have HK2 := Lib.hid (fun v => HK.out.alloc (.cells #[v] 5))
            have HN := Lib.hid (R1.out j B HB.out)
            go_wp2_with fail
            go_roundw
            case rel => exact ⟨j + 1, _, by omega, by omega, by go_num, rfl, by rw [size_snoc8]; omega, HN, Lib.hid (HK2.out _)⟩
            case measure => simp [RowKit.intOf]; omega
          · by_cases q3 : i < 3
            · obtain ⟨n, T, hn, hF⟩ := F0.out i A HA.out hA hi q3
              have FW := Lib.hid hF
              have EW := Lib.hid (E3.out i A HA.out hA hi q3)
              have q4 : x % 12 < 3 := by omega
              clear hF F0 F3 EC ED E3 kb
              go_wp2_with fail
              (with_reducible refine (FW.out _ (Lis.keep HE.out.lis HK.out)).mono ?_)
              rintro e w1 ⟨rfl, k1⟩
              have K1 := Lib.hid (HK.out.trans k1)
              clear k1
              go_wp2_with fail
              (with_reducible refine (AW.out _ (Env8.keep HE.out K1.out)).mono ?_)
              rintro e w2 ⟨rfl, k2⟩
              have K2 := Lib.hid (K1.out.trans k2)
              clear k2
              go_wp2_with fail
              (with_reducible refine (EW.out _).mono ?_)
              rintro e w3 ⟨rfl, k3⟩
              go_wp2_with fail
              go_ret
              exact ⟨rfl, K2.out.trans k3⟩
            · obtain ⟨T, hF⟩ := F3.out i A HA.out hA hi (by omega)
              have FW := Lib.hid hF
              have CW := Lib.hid (EC.out i j B HB.out hB hj (by omega))
              have DW := Lib.hid (ED.out (i : Nat) j B HB.out hB hj)
              have q4 : ¬ x % 12 < 3 := by omega
              have q5 : ((i : Int) == x % 12) = true := beq_iff_eq.2 (by omega)
              clear hF F0 F3 EC ED E3 kb
              by_cases g : i ≤ j
              · rw [decide_eq_true g] at CW
                have g2 : x % 12 ≤ y % 12 := by omega
                go_wp2_with fail
                (with_reducible refine (FW.out _ (Lis.keep HE.out.lis HK.out)).mono ?_)
                rintro e w1 ⟨rfl, k1⟩
                have K1 := Lib.hid (HK.out.trans k1)
                clear k1
                go_wp2_with fail
                (with_reducible refine (AW.out _ (Env8.keep HE.out K1.out)).mono ?_)
                rintro e w2 ⟨rfl, k2⟩
                have K2 := Lib.hid (K1.out.trans k2)
                clear k2
                go_wp2_with fail
                (with_reducible refine (CW.out _).mono ?_)
                rintro e w3 ⟨rfl, k3⟩
                have K3 := Lib.hid (K2.out.trans k3)
                clear k3
                go_wp2_with fail
                (with_reducible refine (DW.out _).mono ?_)
                rintro e w4 ⟨rfl, k4⟩
                go_wp2_with fail
                go_ret
                exact ⟨rfl, K3.out.trans k4⟩
              · rw [decide_eq_false g] at CW
                have g2 : ¬ x % 12 ≤ y % 12 := by omega
                go_wp2_with fail
                (with_reducible refine (FW.out _ (Lis.keep HE.out.lis HK.out)).mono ?_)
                rintro e w1 ⟨rfl, k1⟩
                have K1 := Lib.hid (HK.out.trans k1)
                clear k1
                go_wp2_with fail
                (with_reducible refine (AW.out _ (Env8.keep HE.out K1.out)).mono ?_)
                rintro e w2 ⟨rfl, k2⟩
                have K2 := Lib.hid (K1.out.trans k2)
                clear k2
                go_wp2_with fail
                (with_reducible refine (CW.out _).mono ?_)
                rintro e w3 ⟨rfl, k3⟩
                have K3 := Lib.hid (K2.out.trans k3)
                clear k3
                go_wp2_with fail
                (with_reducible refine (DW.out _).mono ?_)
                rintro e w4 ⟨rfl, k4⟩
                go_wp2_with fail
                go_ret
                exact ⟨ret_bool (show (!decide (x % 12 ≤ y % 12)) = true by simpa using g2), K3.out.trans k4⟩
theorem mfences_any (x y : Int) (hx : 0 ≤ x ∧ x ≤ 255) (hy : 0 ≤ y ∧ y ≤ 255) (p : Bool) (w : World) (hE : Env8 w) :
    Calls Tryd.prog 4 #[.int .u8 x, .int .u8 y, .bool p] w fun e w' => e = .returned (.bool true) ∧ Keeps w w' := by
  cases p with
  | false => exact mfences_go x y hx.1 hx.2 hy.1 hy.2 false 96 126 (.inl ⟨rfl, rfl, rfl⟩) w hE
  | true => exact mfences_go x y hx.1 hx.2 hy.1 hy.2 true 126 96 (.inr ⟨rfl, rfl, rfl⟩) w hE
end Go.Proofs.YtjfhbfnagcjdmaaDoor

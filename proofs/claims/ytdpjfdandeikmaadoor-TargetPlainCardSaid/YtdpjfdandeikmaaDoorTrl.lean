/-
  TargetPlain returns true of any text and any number.
-/
import Derived.Test.YtdpjfdandeikmaaDoorTre
namespace Go.Proofs.YtdpjfdandeikmaaDoor
open Go.RowKit Go.Lib

theorem par_bytes {s x y : ByteArray} {k : Nat} (hx : x.data.toList = List.replicate k 40) (hy : y.data.toList = List.replicate k 41) : (s ++ x ++ y : ByteArray).data.toList = parL s.data.toList k := by rw [bytes_app, bytes_app, hx, hy]; rfl
theorem rep_size {x : ByteArray} {k : Nat} {b : UInt8} (hx : x.data.toList = List.replicate k b) : x.size = k := by rw [← bytes_len, hx, List.length_replicate]
theorem pdest_any (s x y : ByteArray) (k : Nat) (W : World) (h : s.size ≤ 200) (hk : k ≤ 32) (hx : x.data.toList = List.replicate k 40) (hy : y.data.toList = List.replicate k 41) (hn : ∀ b ∈ s.data.toList, ldB b = true) (hO : Lis W) :
    Calls Tryd.prog 7 #[.string (s ++ x ++ y ++ ⟨#[32, 121]⟩)] W fun e w' => e = .returned (.tuple #[.string (s ++ x ++ y), .int .i64 ((s ++ x ++ y).size : Nat), .bool true]) ∧ Keeps W w' := by
  have E : (s ++ x ++ y ++ ⟨#[32, 121]⟩ : ByteArray).data.toList = parL s.data.toList k ++ 32 :: [121] := by rw [bytes_app, par_bytes hx hy]
  have sx := rep_size hx
  have sy := rep_size hy
  have := dest_any (s ++ x ++ y ++ ⟨#[32, 121]⟩) W (by simp only [ByteArray.size_append]; show s.size + x.size + y.size + 2 ≤ _; omega) hO
  obtain ⟨a, b, c⟩ := dst_par s.data.toList k [121] hn hk
  rw [E, a, b, c, ← par_bytes hx hy, bytes_mk, bytes_len] at this
  exact this
theorem pmany_any (s x y : ByteArray) (k : Nat) (W : World) (h : s.size ≤ 200) (hk : 32 < k) (hk2 : k < 40) (hx : x.data.toList = List.replicate k 40) (hy : y.data.toList = List.replicate k 41) (hn : ∀ b ∈ s.data.toList, ldB b = true) (hO : Lis W) :
    Calls Tryd.prog 7 #[.string (s ++ x ++ y ++ ⟨#[32, 121]⟩)] W fun e w' => (∃ (v : ByteArray) (n : Nat), e = .returned (.tuple #[.string v, .int .i64 n, .bool false])) ∧ Keeps W w' := by
  have E : (s ++ x ++ y ++ ⟨#[32, 121]⟩ : ByteArray).data.toList = parL s.data.toList k ++ 32 :: [121] := by rw [bytes_app, par_bytes hx hy]
  have sx := rep_size hx
  have sy := rep_size hy
  have := dest_any (s ++ x ++ y ++ ⟨#[32, 121]⟩) W (by simp only [ByteArray.size_append]; show s.size + x.size + y.size + 2 ≤ _; omega) hO
  rw [E, dst_tooMany s.data.toList k [121] hn hk] at this
  exact this.mono fun e w' h => ⟨⟨_, _, h.1⟩, h.2⟩
theorem pshut_any (s : ByteArray) (W : World) (h : s.size ≤ 200) (hn : ∀ b ∈ s.data.toList, ldB b = true) (hO : Lis W) :
    Calls Tryd.prog 7 #[.string (s ++ ⟨#[41]⟩)] W fun e w' => e = .returned (.tuple #[.string s, .int .i64 (s.size : Nat), .bool true]) ∧ Keeps W w' := by
  have E : (s ++ ⟨#[41]⟩ : ByteArray).data.toList = s.data.toList ++ [41] := by rw [bytes_app]
  have := dest_any (s ++ ⟨#[41]⟩) W (by simp only [ByteArray.size_append]; show s.size + 1 ≤ _; omega) hO
  obtain ⟨a, b, c⟩ := dst_shut s.data.toList hn
  rw [E, a, b, c, bytes_mk, bytes_len] at this
  exact this
theorem ld_next {l : List UInt8} {k : Nat} (h : ∀ b ∈ l.take k, ldB b = true) (hk : k < l.length) (hb : ldB l[k] = true) : ∀ b ∈ l.take (k + 1), ldB b = true := by
  rw [List.take_succ_eq_append_getElem hk]
  intro b hb2
  rcases List.mem_append.1 hb2 with h1 | h1
  · exact h b h1
  · rw [List.mem_singleton.1 h1]; exact hb
theorem rep_next {x : ByteArray} {k : Nat} {b : UInt8} (hx : x.data.toList = List.replicate k b) : (x ++ ⟨#[b]⟩ : ByteArray).data.toList = List.replicate (k + 1) b := by rw [bytes_app, hx, List.replicate_succ']
theorem ld_cases (b : UInt8) : (ldB b = true ∧ (97 ≤ b.toNat ∧ b.toNat ≤ 122)) ∨ (ldB b = true ∧ (48 ≤ b.toNat ∧ b.toNat ≤ 57)) ∨ b.toNat < 48 ∨ (57 < b.toNat ∧ b.toNat < 97) ∨ 122 < b.toNat := by
  unfold ldB
  simp only [Bool.or_eq_true, Bool.and_eq_true, decide_eq_true_eq]
  omega
set_option maxRecDepth 100000 in
set_option maxHeartbeats 2000000 in
theorem tplain_short (s : ByteArray) (d : Nat) (w : World) (h : s.size ≤ 200) (hd : d < 256) (hO : Lis w) :
    Calls Tryd.prog 4 #[.string s, .int .u8 (d : Nat)] w fun e w' => e = .returned (.bool true) ∧ Keeps w w' := by
  have AW := Lib.hid (fun W h => awake9_any W h)
  have D1 := Lib.hid (fun x y k W hk hx hy hn hO => pdest_any s x y k W h hk hx hy hn hO)
  have D2 := Lib.hid (fun x y k W hk hk2 hx hy hn hO => pmany_any s x y k W h hk hk2 hx hy hn hO)
  have D3 := Lib.hid (fun W hn hO => pshut_any s W h hn hO)
  have HO := Lib.hid hO
  have hl := Lib.hid (bytes_len s)
  clear hO
  go_enter Tryd.func4, Tryd.ntmps4
  go_wp2_with fail
  go_loop [5, 6] (fun i _ => ∃ k : Nat, k ≤ s.size ∧ i = .int .i64 k ∧ Hid (∀ b ∈ s.data.toList.take k, ldB b = true)) (fun i _ => s.size - (RowKit.intOf i).toNat)
  case atStart => exact ⟨0, Nat.zero_le _, rfl, Lib.hid (by rw [List.take_zero]; intro b hb; cases hb)⟩
  case round =>
    obtain ⟨k, hk, rfl, HC⟩ := hrel
    by_cases c : k < s.size
    · have hb := s[k].toNat_lt
      have NX : Hid (ldB s[k] = true → ∀ b ∈ s.data.toList.take (k + 1), ldB b = true) := Lib.hid (fun g => ld_next HC.out (by rw [hl.out]; exact c) g)
      rcases ld_cases s[k] with ⟨g, a1, a2⟩ | ⟨g, a1, a2⟩ | a | ⟨a1, a2⟩ | a
      · have HN := Lib.hid (NX.out g)
        have q1 := decide_eq_true (show 97 ≤ (s[k].toNat : Int) by omega)
        have q2 := decide_eq_true (show (s[k].toNat : Int) ≤ 122 by omega)
        clear HC NX D1 D2 D3 g
        go_wp2_with fail
        go_round
        case rel => exact ⟨k + 1, by omega, by go_num, HN⟩
        case measure => simp [RowKit.intOf]; omega
      · have HN := Lib.hid (NX.out g)
        have q1 := decide_eq_false (show ¬ (97 ≤ (s[k].toNat : Int)) by omega)
        have q2 := decide_eq_true (show 48 ≤ (s[k].toNat : Int) by omega)
        have q3 := decide_eq_true (show (s[k].toNat : Int) ≤ 57 by omega)
        clear HC NX D1 D2 D3 g
        go_wp2_with fail
        go_round
        case rel => exact ⟨k + 1, by omega, by go_num, HN⟩
        case measure => simp [RowKit.intOf]; omega
      · have q1 := decide_eq_false (show ¬ (97 ≤ (s[k].toNat : Int)) by omega)
        have q2 := decide_eq_false (show ¬ (48 ≤ (s[k].toNat : Int)) by omega)
        clear HC NX D1 D2 D3
        go_wp2_with fail
        refine (AW.out _ HO.out).mono ?_
        rintro e w1 ⟨rfl, k1⟩
        go_wp2_with fail
        go_ret
        exact ⟨rfl, k1⟩
      · have q1 := decide_eq_false (show ¬ (97 ≤ (s[k].toNat : Int)) by omega)
        have q2 := decide_eq_true (show 48 ≤ (s[k].toNat : Int) by omega)
        have q3 := decide_eq_false (show ¬ ((s[k].toNat : Int) ≤ 57) by omega)
        clear HC NX D1 D2 D3
        go_wp2_with fail
        refine (AW.out _ HO.out).mono ?_
        rintro e w1 ⟨rfl, k1⟩
        go_wp2_with fail
        go_ret
        exact ⟨rfl, k1⟩
      · have q1 := decide_eq_true (show 97 ≤ (s[k].toNat : Int) by omega)
        have q2 := decide_eq_false (show ¬ ((s[k].toNat : Int) ≤ 122) by omega)
        have q3 := decide_eq_true (show 48 ≤ (s[k].toNat : Int) by omega)
        have q4 := decide_eq_false (show ¬ ((s[k].toNat : Int) ≤ 57) by omega)
        clear HC NX D1 D2 D3
        go_wp2_with fail
        refine (AW.out _ HO.out).mono ?_
        rintro e w1 ⟨rfl, k1⟩
        go_wp2_with fail
        go_ret
        exact ⟨rfl, k1⟩
    · have HN : Hid (∀ b ∈ s.data.toList, ldB b = true) := Lib.hid (by
        have := HC.out
        rw [List.take_of_length_le (by rw [hl.out]; omega)] at this
        exact this)
      have E3 := Lib.hid (fun W => D3.out W HN.out)
      obtain ⟨q, hq⟩ : ∃ q, d % 40 = q := ⟨_, rfl⟩
      have hq40 : q < 40 := by omega
      have hqi : (d : Int) % 40 = (q : Int) := by omega
      clear HC D3
      go_wp2_with fail
      go_loop [8, 9, 10] (fun a b i => ∃ (j : Nat) (x y : ByteArray), j ≤ q ∧ a = .string x ∧ b = .string y ∧ i = .int .i64 j ∧ x.size = j ∧ y.size = j ∧ Hid (x.data.toList = List.replicate j 40) ∧ Hid (y.data.toList = List.replicate j 41)) (fun _ _ i => q - (RowKit.intOf i).toNat)
      case atStart => exact ⟨0, ⟨#[]⟩, ⟨#[]⟩, Nat.zero_le _, rfl, rfl, rfl, rfl, rfl, Lib.hid rfl, Lib.hid rfl⟩
      case round =>
        obtain ⟨j, x, y, hj, rfl, rfl, rfl, sx, sy, HX, HY⟩ := hrel
        by_cases cj : j < q
        · have X2 := Lib.hid (rep_next HX.out)
          have Y2 := Lib.hid (rep_next HY.out)
          clear D1 D2 E3 HX HY
          go_wp2_with fail
          go_round
          case rel => exact ⟨j + 1, _, _, cj, rfl, rfl, by go_num, by rw [ByteArray.size_append, sx]; rfl, by rw [ByteArray.size_append, sy]; rfl, X2, Y2⟩
          case measure => simp [RowKit.intOf]; omega
        · obtain rfl : j = q := by omega
          by_cases c32 : 32 < j
          · have E2 := Lib.hid (fun W => D2.out x y j W c32 hq40 HX.out HY.out HN.out)
            clear D1 D2 HX HY HN
            go_wp2_with fail
            refine (E2.out _ HO.out).mono ?_
            rintro e w1 ⟨⟨v, n, rfl⟩, k1⟩
            have K1 := Lib.hid k1
            clear k1
            go_wp2_with fail
            refine (E3.out _ (HO.out.keep K1.out)).mono ?_
            rintro e w2 ⟨rfl, k2⟩
            have K2 := Lib.hid (K1.out.trans k2)
            clear k2
            go_wp2_with fail
            refine (AW.out _ (HO.out.keep K2.out)).mono ?_
            rintro e w3 ⟨rfl, k3⟩
            have K3 := Lib.hid (K2.out.trans k3)
            clear k3
            go_wp2_with fail
            go_ret
            exact ⟨rfl, K3.out⟩
          · have E1 := Lib.hid (fun W => D1.out x y j W (by omega) HX.out HY.out HN.out)
            clear D1 D2 HX HY HN
            go_wp2_with fail
            refine (E1.out _ HO.out).mono ?_
            rintro e w1 ⟨rfl, k1⟩
            have K1 := Lib.hid k1
            clear k1
            go_wp2_with fail
            refine (E3.out _ (HO.out.keep K1.out)).mono ?_
            rintro e w2 ⟨rfl, k2⟩
            have K2 := Lib.hid (K1.out.trans k2)
            clear k2
            go_wp2_with fail
            refine (AW.out _ (HO.out.keep K2.out)).mono ?_
            rintro e w3 ⟨rfl, k3⟩
            have K3 := Lib.hid (K2.out.trans k3)
            clear k3
            go_wp2_with fail
            go_ret
            exact ⟨rfl, K3.out⟩
set_option maxRecDepth 100000 in
set_option maxHeartbeats 400000 in
theorem tplain_long (s : ByteArray) (d : Nat) (w : World) (hs : s.size ≤ maxLen) (h : 200 < s.size) (hO : Lis w) :
    Calls Tryd.prog 4 #[.string s, .int .u8 (d : Nat)] w fun e w' => e = .returned (.bool true) ∧ Keeps w w' := by
  have AW := Lib.hid (awake9_any w hO)
  unfold maxLen at hs
  clear hO
  go_enter Tryd.func4, Tryd.ntmps4
  go_wp2_with fail
  refine AW.out.mono ?_
  rintro e w2 ⟨rfl, k2⟩
  go_wp2_with fail
  go_ret
  exact ⟨rfl, k2⟩
theorem tplain_any (s : ByteArray) (d : Nat) (hd : d < 256) (w : World) (hs : s.size ≤ maxLen) (hO : Lis w) :
    Calls Tryd.prog 4 #[.string s, .int .u8 (d : Nat)] w fun e w' => e = .returned (.bool true) ∧ Keeps w w' := by
  by_cases h : 200 < s.size
  · exact tplain_long s d w hs h hO
  · exact tplain_short s d w (by omega) hd hO
end Go.Proofs.YtdpjfdandeikmaaDoor

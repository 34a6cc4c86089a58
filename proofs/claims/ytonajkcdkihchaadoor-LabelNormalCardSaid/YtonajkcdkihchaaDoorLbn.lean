/-
  LabelNormal returns true of any text.
-/
import Derived.Test.YtonajkcdkihchaaDoorLbw
import Derived.Test.YtonajkcdkihchaaDoorMpa
namespace Go.Proofs.YtonajkcdkihchaaDoor
open Go.RowKit Go.Lib

theorem asc_next {l : List UInt8} {k : Nat} (h : ∀ b ∈ l.take k, b.toNat < 128) (hk : k < l.length) (hb : l[k].toNat < 128) : ∀ b ∈ l.take (k + 1), b.toNat < 128 := by
  rw [List.take_succ_eq_append_getElem hk]
  intro b hb2
  rcases List.mem_append.1 hb2 with h1 | h1
  · exact h b h1
  · rw [List.mem_singleton.1 h1]; exact hb
set_option maxRecDepth 100000 in
set_option maxHeartbeats 2000000 in
theorem lnormal_short (s : ByteArray) (w : World) (h : s.size ≤ 500) (hO : Lis w) :
    Calls Tryd.prog 3 #[.string s] w fun e w' => e = .returned (.bool true) ∧ Keeps w w' := by
  have AW := Lib.hid (fun W h => awake10_any W h)
  have NM := Lib.hid (fun a W h => normal_any a W h)
  have HO := Lib.hid hO
  have hl := Lib.hid (bytes_len s)
  clear hO
  go_enter Tryd.func3, Tryd.ntmps3
  go_wp2_with fail
  go_loop [3] (fun i => ∃ k : Nat, k ≤ s.size ∧ i = .int .i64 k ∧ Hid (∀ b ∈ s.data.toList.take k, b.toNat < 128)) (fun i => s.size - (RowKit.intOf i).toNat)
  case atStart => exact ⟨0, Nat.zero_le _, rfl, Lib.hid (by rw [List.take_zero]; intro b hb; cases hb)⟩
  case round =>
    obtain ⟨k, hk, rfl, HC⟩ := hrel
    by_cases c : k < s.size
    · have hb := s[k].toNat_lt
      by_cases c1 : s[k].toNat < 128
      · have HN : Hid (∀ b ∈ s.data.toList.take (k + 1), b.toNat < 128) := Lib.hid (asc_next HC.out (by rw [hl.out]; exact c) c1)
        clear HC
        go_wp2_with fail
        go_round
        case rel => exact ⟨k + 1, by omega, by go_num, HN⟩
        case measure => simp [RowKit.intOf]; omega
      · clear HC
        go_wp2_with fail
        refine (AW.out _ HO.out).mono ?_
        rintro e w1 ⟨rfl, k1⟩
        go_wp2_with fail
        go_ret
        exact ⟨rfl, k1⟩
    · have HA : Hid (∀ b ∈ s.data.toList, b.toNat < 128) := Lib.hid (by
        have := HC.out
        rw [List.take_of_length_le (by rw [hl.out]; omega)] at this
        exact this)
      obtain ⟨a, ha⟩ : ∃ a : ByteArray, (⟨(nrmL s.data.toList).toArray⟩ : ByteArray) = a := ⟨_, rfl⟩
      have al : a.data.toList = nrmL s.data.toList := by rw [← ha]
      have az : a.size ≤ 500 := by
        have := nrm_size HA.out
        rw [← al, bytes_len, bytes_len] at this
        omega
      have N1 := Lib.hid (fun W => NM.out s W (by omega))
      rw [ha] at N1
      have N2 := Lib.hid (fun W => NM.out a W (by omega))
      rw [al, nrm_nrm HA.out, ha] at N2
      obtain ⟨u, hu⟩ : ∃ u : ByteArray, (⟨(s.data.toList.map upB).toArray⟩ : ByteArray) = u := ⟨_, rfl⟩
      have ul : u.data.toList = s.data.toList.map upB := by rw [← hu]
      have uz : u.size ≤ 500 := by rw [← bytes_len, ul, List.length_map, bytes_len]; omega
      have N3 := Lib.hid (fun W => NM.out u W (by omega))
      rw [ul, nrm_up HA.out, ha] at N3
      have N4 := Lib.hid (fun W => NM.out (⟨#[32, 32]⟩ ++ s ++ ⟨#[9]⟩) W (by simp only [ByteArray.size_append]; show 2 + s.size + 1 ≤ _; omega))
      rw [bytes_app, bytes_app, nrm_about (by decide) (by decide), ha] at N4
      have MB := Lib.hid (fun B W C (h : MapAt upB s B s.size W) => map_back (P := Tryd.prog) h C 24 9 5 Tryd.underlying24 Tryd.underlying5 Tryd.underlying9)
      rw [hu] at MB
      clear HC HA ha al hu ul NM
      go_wp2_with fail
      refine (N1.out _).mono ?_
      rintro e w1 ⟨rfl, k1⟩
      have kc := run_bytes_of_string (P := Tryd.prog) w1 9 24 5 s Tryd.underlying9 Tryd.underlying24 Tryd.underlying5
      have L0 := Lib.hid (show MapAt upB s w1.heap.size 0 (w1.alloc (.cells (bytesRow s (grownCap w1 s.size 0 5)) 5 ((bytesRow s (grownCap w1 s.size 0 5)).size, (bytesRow s (grownCap w1 s.size 0 5)).size + 1))).drew from map_start upB s w1 (grownCap w1 s.size 0 5) 5)
      have K0 := Lib.hid (show Keeps w (w1.alloc (.cells (bytesRow s (grownCap w1 s.size 0 5)) 5 ((bytesRow s (grownCap w1 s.size 0 5)).size, (bytesRow s (grownCap w1 s.size 0 5)).size + 1))).drew from (k1.alloc _).drew)
      have hsz := k1.size
      generalize grownCap w1 s.size 0 5 = C at *
      clear k1
      go_wp2_with fail
      generalize (w1.alloc (.cells (bytesRow s C) 5 ((bytesRow s C).size, (bytesRow s C).size + 1))).drew = w0 at *
      obtain ⟨B, hB⟩ : ∃ B, w1.heap.size = B := ⟨_, rfl⟩
      have HB : Hid (w.heap.size ≤ B) := Lib.hid (by omega)
      rw [hB] at L0
      rw [hB]
      clear hB kc hsz
      go_loopw [6] (fun v wr => ∃ j : Nat, j ≤ s.size ∧ v = .int .i64 j ∧ Hid (MapAt upB s B j wr) ∧ Hid (Keeps w wr)) (fun v _ => s.size - (RowKit.intOf v).toNat)
      case atStart => exact ⟨0, Nat.zero_le _, rfl, L0, K0⟩
      case round =>
        obtain ⟨j, hj, rfl, HM, HK⟩ := hrel
        by_cases d : j < s.size
        · have c0 := HM.out.here d
          have f0 := HM.out.2 j d
          have hb := s[j].toNat_lt
          have hv := Lib.hid (upB_toNat s[j])
          have HP := Lib.hid (fun (v : Int) (e : ((upB s[j]).toNat : Int) = v) => HM.out.put d e)
          have HK2 := Lib.hid (fun v => HK.out.set HB.out j v)
          have HS := Lib.hid (fun v => World.cell?_setCell_same' wr ⟨B, j, none⟩ v (by rw [c0]; rfl))
          rcases (show (97 ≤ s[j].toNat ∧ s[j].toNat ≤ 122) ∨ s[j].toNat = 32 ∨ (¬ (97 ≤ s[j].toNat ∧ s[j].toNat ≤ 122) ∧ ¬ s[j].toNat = 32) by omega) with g | g | g
          · have HN := Lib.hid (HP.out ((s[j].toNat : Int) - 32) (by rw [hv.out, if_pos g]; omega))
            have c1 := HS.out (.int .u8 ((s[j].toNat : Int) - 32))
            have t1 : decide ((97 : Int) ≤ (s[j].toNat : Int)) = true := decide_eq_true (by omega)
            have t2 : decide ((s[j].toNat : Int) ≤ 122) = true := decide_eq_true (by omega)
            have t3 := beqF (show ¬ (s[j].toNat : Int) - 32 = 32 by omega)
            have hw : IntKind.u8.wrap ((s[j].toNat : Int) - 32) = (s[j].toNat : Int) - 32 := IntWalk.u8_in _ ⟨by omega, by omega⟩
            clear HP HS
            go_wp2_with fail
            go_roundw
            case rel => exact ⟨j + 1, d, by go_num, HN, Lib.hid (HK2.out _)⟩
            case measure => simp [RowKit.intOf]; omega
          · have HN := Lib.hid (HP.out 10 (by rw [hv.out, if_neg (by omega), if_pos g]; rfl))
            have t1 : decide ((97 : Int) ≤ (s[j].toNat : Int)) = false := decide_eq_false (by omega)
            have t3 := beqT (show (s[j].toNat : Int) = 32 by omega)
            clear HP HS g
            go_wp2_with fail
            go_roundw
            case rel => exact ⟨j + 1, d, by go_num, HN, Lib.hid (HK2.out _)⟩
            case measure => simp [RowKit.intOf]; omega
          · have HN := Lib.hid (HM.out.next d (UInt8.toNat_inj.1 (by rw [hv.out, if_neg g.1, if_neg g.2])))
            have t3 := beqF (show ¬ (s[j].toNat : Int) = 32 by omega)
            obtain ⟨g1, g2⟩ := g
            clear HP HS g2
            by_cases q : 97 ≤ s[j].toNat
            · have t1 : decide ((97 : Int) ≤ (s[j].toNat : Int)) = true := decide_eq_true (by omega)
              have t2 : decide ((s[j].toNat : Int) ≤ 122) = false := decide_eq_false (by omega)
              clear g1 q
              go_wp2_with fail
              go_roundw
              case rel => exact ⟨j + 1, d, by go_num, HN, HK⟩
              case measure => simp [RowKit.intOf]; omega
            · have t1 : decide ((97 : Int) ≤ (s[j].toNat : Int)) = false := decide_eq_false (by omega)
              clear g1 q
              go_wp2_with fail
              go_roundw
              case rel => exact ⟨j + 1, d, by go_num, HN, HK⟩
              case measure => simp [RowKit.intOf]; omega
        · have HM2 : Hid (MapAt upB s B s.size wr) := Lib.hid (by
            have := HM.out
            rw [show j = s.size by omega] at this
            exact this)
          clear HM
          go_wp2_with fail
          refine (AW.out _ (HO.out.keep HK.out)).mono ?_
          rintro e w2 ⟨rfl, k2⟩
          have HK2 := Lib.hid (HK.out.trans k2)
          have HM3 := Lib.hid (HM2.out.keep k2)
          clear k2
          go_wp2_with fail
          refine (N2.out _).mono ?_
          rintro e w3 ⟨rfl, k3⟩
          have HK3 := Lib.hid (HK2.out.trans k3)
          have kb := MB.out B w3 C (HM3.out.keep k3)
          clear k3
          go_wp2_with fail
          refine (N3.out _).mono ?_
          rintro e w4 ⟨rfl, k4⟩
          have HK4 := Lib.hid (HK3.out.trans k4)
          clear k4 kb
          go_wp2_with fail
          refine (N4.out _).mono ?_
          rintro e w5 ⟨rfl, k5⟩
          have HK5 := Lib.hid (HK4.out.trans k5)
          clear k5
          go_wp2_with fail
          go_ret
          exact ⟨rfl, HK5.out⟩
set_option maxRecDepth 100000 in
set_option maxHeartbeats 400000 in
theorem lnormal_long (s : ByteArray) (w : World) (hs : s.size ≤ maxLen) (h : 500 < s.size) (hO : Lis w) :
    Calls Tryd.prog 3 #[.string s] w fun e w' => e = .returned (.bool true) ∧ Keeps w w' := by
  have AW := Lib.hid (awake10_any w hO)
  unfold maxLen at hs
  clear hO
  go_enter Tryd.func3, Tryd.ntmps3
  go_wp2_with fail
  refine AW.out.mono ?_
  rintro e w2 ⟨rfl, k2⟩
  go_wp2_with fail
  go_ret
  exact ⟨rfl, k2⟩
theorem lnormal_any (s : ByteArray) (w : World) (hs : s.size ≤ maxLen) (hO : Lis w) :
    Calls Tryd.prog 3 #[.string s] w fun e w' => e = .returned (.bool true) ∧ Keeps w w' := by
  by_cases h : 500 < s.size
  · exact lnormal_long s w hs h hO
  · exact lnormal_short s w (by omega) hO
end Go.Proofs.YtonajkcdkihchaaDoor

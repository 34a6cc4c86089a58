/-
  TargetBack returns true of any two texts, in either kind of signs.
-/
import Derived.Test.YtdpjfdandeikmaaDoorTre
namespace Go.Proofs.YtdpjfdandeikmaaDoor
open Go.RowKit Go.Lib

theorem lit_bytes (a : Array UInt8) : (⟨a⟩ : ByteArray).data.toList = a.toList := rfl
theorem ang_bytes {x : ByteArray} {d : List UInt8} (hx : x.data.toList = hideL d) : (⟨#[60]⟩ ++ x ++ ⟨#[62]⟩ : ByteArray).data.toList = angL d := by rw [bytes_app, bytes_app, hx]; rfl
theorem wrap_bytes (f e : UInt8) {x : ByteArray} {d : List UInt8} (hx : x.data.toList = hideL d) : (⟨#[f]⟩ ++ x ++ ⟨#[e]⟩ : ByteArray).data.toList = wrapL f e d := by rw [bytes_app, bytes_app, hx]; rfl
theorem hid_size {x : ByteArray} {d : List UInt8} (hx : x.data.toList = hideL d) : (hideL d).length = x.size := by rw [← hx, bytes_len]
/-- The destination in < and >, as it is. -/
theorem tdest_any (s x : ByteArray) (W : World) (hs : x.size ≤ 400) (hx : x.data.toList = hideL s.data.toList) (hn : ∀ b ∈ s.data.toList, b.toNat ≠ 10) (hO : Lis W) :
    Calls Tryd.prog 7 #[.string (⟨#[60]⟩ ++ x ++ ⟨#[62]⟩ ++ ⟨#[114, 101, 115, 116]⟩)] W fun e w' => e = .returned (.tuple #[.string s, .int .i64 ((x.size : Int) + 2), .bool true]) ∧ Keeps W w' := by
  have E : (⟨#[60]⟩ ++ x ++ ⟨#[62]⟩ ++ ⟨#[114, 101, 115, 116]⟩ : ByteArray).data.toList = angL s.data.toList ++ [114, 101, 115, 116] := by rw [bytes_app, ang_bytes hx]
  have := dest_any (⟨#[60]⟩ ++ x ++ ⟨#[62]⟩ ++ ⟨#[114, 101, 115, 116]⟩) W (by simp only [ByteArray.size_append]; show 1 + x.size + 1 + 4 ≤ _; omega) hO
  obtain ⟨a, b, c⟩ := dst_ang s.data.toList [114, 101, 115, 116] hn
  rw [E, a, b, c, bytes_mk, ang_len, hid_size hx] at this
  exact this
/-- The title, as it is. -/
theorem ttitle_any (f e : UInt8) (hfe : (f = 34 ∧ e = 34) ∨ (f = 40 ∧ e = 41)) (s x : ByteArray) (W : World) (hs : x.size ≤ 400) (hx : x.data.toList = hideL s.data.toList) (hn : ∀ b ∈ s.data.toList, b.toNat ≠ 10) (hO : Lis W) :
    Calls Tryd.prog 8 #[.string (⟨#[f]⟩ ++ x ++ ⟨#[e]⟩ ++ ⟨#[114, 101, 115, 116]⟩)] W fun e w' => e = .returned (.tuple #[.string s, .int .i64 ((x.size : Int) + 2)]) ∧ Keeps W w' := by
  have E : (⟨#[f]⟩ ++ x ++ ⟨#[e]⟩ ++ ⟨#[114, 101, 115, 116]⟩ : ByteArray).data.toList = wrapL f e s.data.toList ++ [114, 101, 115, 116] := by rw [bytes_app, wrap_bytes f e hx]
  have := title_any (⟨#[f]⟩ ++ x ++ ⟨#[e]⟩ ++ ⟨#[114, 101, 115, 116]⟩) W (by simp only [ByteArray.size_append]; show 1 + x.size + 1 + 4 ≤ _; omega) hO
  obtain ⟨a, b⟩ := tit_wrap f e hfe s.data.toList [114, 101, 115, 116] hn
  rw [E, a, b, bytes_mk, wrap_len, hid_size hx] at this
  exact this
/-- Both, in a link. -/
theorem tlink_any (f e : UInt8) (hfe : (f = 34 ∧ e = 34) ∨ (f = 40 ∧ e = 41)) (s t x y : ByteArray) (W : World) (hs : x.size ≤ 400) (ht : y.size ≤ 400) (hx : x.data.toList = hideL s.data.toList) (hy : y.data.toList = hideL t.data.toList) (hn : ∀ b ∈ s.data.toList, b.toNat ≠ 10) (hm : ∀ b ∈ t.data.toList, b.toNat ≠ 10) (hO : Lis W) :
    Calls Tryd.prog 9 #[.string (⟨#[40]⟩ ++ (⟨#[60]⟩ ++ x ++ ⟨#[62]⟩) ++ ⟨#[32]⟩ ++ (⟨#[f]⟩ ++ y ++ ⟨#[e]⟩) ++ ⟨#[41, 114, 101, 115, 116]⟩)] W fun e w' => e = .returned (.tuple #[.string s, .string t, .int .i64 ((x.size : Int) + y.size + 7)]) ∧ Keeps W w' := by
  have E : (⟨#[40]⟩ ++ (⟨#[60]⟩ ++ x ++ ⟨#[62]⟩) ++ ⟨#[32]⟩ ++ (⟨#[f]⟩ ++ y ++ ⟨#[e]⟩) ++ ⟨#[41, 114, 101, 115, 116]⟩ : ByteArray).data.toList = 40 :: (angL s.data.toList ++ 32 :: (wrapL f e t.data.toList ++ 41 :: [114, 101, 115, 116])) := by
    rw [bytes_app, bytes_app, bytes_app, bytes_app, ang_bytes hx, wrap_bytes f e hy]
    simp
  have := inline_any (⟨#[40]⟩ ++ (⟨#[60]⟩ ++ x ++ ⟨#[62]⟩) ++ ⟨#[32]⟩ ++ (⟨#[f]⟩ ++ y ++ ⟨#[e]⟩) ++ ⟨#[41, 114, 101, 115, 116]⟩) W (by simp only [ByteArray.size_append]; show 1 + (1 + x.size + 1) + 1 + (1 + y.size + 1) + 5 ≤ _; omega) hO
  obtain ⟨a, b, c⟩ := inl_both f e hfe s.data.toList t.data.toList [114, 101, 115, 116] hn hm
  unfold InlV at this
  rw [E, a, b, c, bytes_mk, bytes_mk, ang_len, wrap_len, hid_size hx, hid_size hy, show ((x.size + 2 + (y.size + 2) + 3 : Nat) : Int) = (x.size : Int) + y.size + 7 by omega] at this
  exact this
/-- The destination alone, in a link. -/
theorem talone_any (s x : ByteArray) (W : World) (hs : x.size ≤ 400) (hx : x.data.toList = hideL s.data.toList) (hn : ∀ b ∈ s.data.toList, b.toNat ≠ 10) (hO : Lis W) :
    Calls Tryd.prog 9 #[.string (⟨#[40, 32, 32]⟩ ++ (⟨#[60]⟩ ++ x ++ ⟨#[62]⟩) ++ ⟨#[41, 114, 101, 115, 116]⟩)] W fun e w' => e = .returned (.tuple #[.string s, .string ⟨#[]⟩, .int .i64 ((x.size : Int) + 6)]) ∧ Keeps W w' := by
  have E : (⟨#[40, 32, 32]⟩ ++ (⟨#[60]⟩ ++ x ++ ⟨#[62]⟩) ++ ⟨#[41, 114, 101, 115, 116]⟩ : ByteArray).data.toList = 40 :: 32 :: 32 :: (angL s.data.toList ++ 41 :: [114, 101, 115, 116]) := by
    rw [bytes_app, bytes_app, ang_bytes hx]
    simp
  have := inline_any (⟨#[40, 32, 32]⟩ ++ (⟨#[60]⟩ ++ x ++ ⟨#[62]⟩) ++ ⟨#[41, 114, 101, 115, 116]⟩) W (by simp only [ByteArray.size_append]; show 3 + (1 + x.size + 1) + 5 ≤ _; omega) hO
  obtain ⟨a, b, c⟩ := inl_alone s.data.toList [114, 101, 115, 116] hn
  unfold InlV at this
  rw [E, a, b, c, bytes_mk, ang_len, hid_size hx, show ((x.size + 2 + 4 : Nat) : Int) = (x.size : Int) + 6 by omega] at this
  exact this
theorem nl_next {l : List UInt8} {k : Nat} (h : ∀ b ∈ l.take k, b.toNat ≠ 10) (hk : k < l.length) (hb : l[k].toNat ≠ 10) : ∀ b ∈ l.take (k + 1), b.toNat ≠ 10 := by
  rw [List.take_succ_eq_append_getElem hk]
  intro b hb2
  rcases List.mem_append.1 hb2 with h1 | h1
  · exact h b h1
  · rw [List.mem_singleton.1 h1]; exact hb
set_option maxRecDepth 100000 in
set_option maxHeartbeats 2000000 in
theorem tback_short (s t : ByteArray) (r : Bool) (w : World) (h : s.size ≤ 200) (h2 : t.size ≤ 200) (hO : Lis w) :
    Calls Tryd.prog 3 #[.string s, .string t, .bool r] w fun e w' => e = .returned (.bool true) ∧ Keeps w w' := by
  have AW := Lib.hid (fun W h => awake9_any W h)
  obtain ⟨x, hx⟩ : ∃ x : ByteArray, (⟨(hideL s.data.toList).toArray⟩ : ByteArray) = x := ⟨_, rfl⟩
  obtain ⟨y, hy⟩ : ∃ y : ByteArray, (⟨(hideL t.data.toList).toArray⟩ : ByteArray) = y := ⟨_, rfl⟩
  have H1 := Lib.hid (fun W => hidden_any s W (by omega))
  have H2 := Lib.hid (fun W => hidden_any t W (by omega))
  rw [hx] at H1
  rw [hy] at H2
  have X : x.data.toList = hideL s.data.toList := by rw [← hx]
  have Y : y.data.toList = hideL t.data.toList := by rw [← hy]
  have zx : x.size ≤ 400 := by
    have := hide_len s.data.toList
    rw [hid_size X, bytes_len] at this
    omega
  have zy : y.size ≤ 400 := by
    have := hide_len t.data.toList
    rw [hid_size Y, bytes_len] at this
    omega
  have D1 := Lib.hid (fun W hn hO => tdest_any s x W zx X hn hO)
  have D2 := Lib.hid (fun f e hfe W hn hO => ttitle_any f e hfe t y W zy Y hn hO)
  have D3 := Lib.hid (fun f e hfe W hn hm hO => tlink_any f e hfe s t x y W zx zy X Y hn hm hO)
  have D4 := Lib.hid (fun W hn hO => talone_any s x W zx X hn hO)
  have HO := Lib.hid hO
  have hz : (s ++ t).size = s.size + t.size := ByteArray.size_append
  have hl := Lib.hid (bytes_len (s ++ t))
  clear hO hx hy X Y
  go_enter Tryd.func3, Tryd.ntmps3
  go_wp2_with fail
  go_loop [7] (fun i => ∃ k : Nat, k ≤ (s ++ t).size ∧ i = .int .i64 k ∧ Hid (∀ b ∈ (s ++ t).data.toList.take k, b.toNat ≠ 10)) (fun i => (s ++ t).size - (RowKit.intOf i).toNat)
  case atStart => exact ⟨0, Nat.zero_le _, rfl, Lib.hid (by rw [List.take_zero]; intro b hb; cases hb)⟩
  case round =>
    obtain ⟨k, hk, rfl, HC⟩ := hrel
    by_cases c : k < (s ++ t).size
    · have hb := (s ++ t)[k].toNat_lt
      by_cases c1 : (s ++ t)[k].toNat = 10
      · have q1 := beqT (show ((s ++ t)[k].toNat : Int) = 10 by omega)
        clear HC c1 H1 H2 D1 D2 D3 D4
        go_wp2_with fail
        refine (AW.out _ HO.out).mono ?_
        rintro e w1 ⟨rfl, k1⟩
        go_wp2_with fail
        go_ret
        exact ⟨rfl, k1⟩
      · have q1 := beqF (show ¬ ((s ++ t)[k].toNat : Int) = 10 by omega)
        have HN : Hid (∀ b ∈ (s ++ t).data.toList.take (k + 1), b.toNat ≠ 10) := Lib.hid (nl_next HC.out (by rw [hl.out]; exact c) c1)
        clear HC c1 H1 H2 D1 D2 D3 D4
        go_wp2_with fail
        go_round
        case rel => exact ⟨k + 1, by omega, by go_num, HN⟩
        case measure => simp [RowKit.intOf]; omega
    · have HN : Hid (∀ b ∈ (s ++ t).data.toList, b.toNat ≠ 10) := Lib.hid (by
        have := HC.out
        rw [List.take_of_length_le (by rw [hl.out]; omega)] at this
        exact this)
      have HA : Hid (∀ b ∈ s.data.toList, b.toNat ≠ 10) := Lib.hid (fun b hb => HN.out b (by rw [bytes_app]; exact List.mem_append_left _ hb))
      have HB : Hid (∀ b ∈ t.data.toList, b.toNat ≠ 10) := Lib.hid (fun b hb => HN.out b (by rw [bytes_app]; exact List.mem_append_right _ hb))
      have E1 := Lib.hid (fun W => D1.out W HA.out)
      have E4 := Lib.hid (fun W => D4.out W HA.out)
      clear HC HN
      cases r with
      | true =>
        have E2 := Lib.hid (fun W => D2.out 40 41 (.inr ⟨rfl, rfl⟩) W HB.out)
        have E3 := Lib.hid (fun W => D3.out 40 41 (.inr ⟨rfl, rfl⟩) W HA.out HB.out)
        clear D1 D2 D3 D4 HA HB
        go_wp2_with fail
        refine (H1.out _).mono ?_
        rintro e w1 ⟨rfl, rfl⟩
        go_wp2_with fail
        refine (H2.out _).mono ?_
        rintro e w1 ⟨rfl, rfl⟩
        go_wp2_with fail
        refine (H2.out _).mono ?_
        rintro e w1 ⟨rfl, rfl⟩
        go_wp2_with fail
        refine (E1.out _ HO.out).mono ?_
        rintro e w1 ⟨rfl, k1⟩
        have K1 := Lib.hid k1
        clear k1
        go_wp2_with fail
        refine (E2.out _ (HO.out.keep K1.out)).mono ?_
        rintro e w2 ⟨rfl, k2⟩
        have K2 := Lib.hid (K1.out.trans k2)
        clear k2
        go_wp2_with fail
        refine (E3.out _ (HO.out.keep K2.out)).mono ?_
        rintro e w3 ⟨rfl, k3⟩
        have K3 := Lib.hid (K2.out.trans k3)
        clear k3
        go_wp2_with fail
        refine (E4.out _ (HO.out.keep K3.out)).mono ?_
        rintro e w4 ⟨rfl, k4⟩
        have K4 := Lib.hid (K3.out.trans k4)
        clear k4
        go_wp2_with fail
        refine (AW.out _ (HO.out.keep K4.out)).mono ?_
        rintro e w5 ⟨rfl, k5⟩
        have K5 := Lib.hid (K4.out.trans k5)
        clear k5
        go_wp2_with fail
        go_ret
        exact ⟨ret_bool (beqT (by omega)), K5.out⟩
      | false =>
        have E2 := Lib.hid (fun W => D2.out 34 34 (.inl ⟨rfl, rfl⟩) W HB.out)
        have E3 := Lib.hid (fun W => D3.out 34 34 (.inl ⟨rfl, rfl⟩) W HA.out HB.out)
        clear D1 D2 D3 D4 HA HB
        go_wp2_with fail
        refine (H1.out _).mono ?_
        rintro e w1 ⟨rfl, rfl⟩
        go_wp2_with fail
        refine (H2.out _).mono ?_
        rintro e w1 ⟨rfl, rfl⟩
        go_wp2_with fail
        refine (E1.out _ HO.out).mono ?_
        rintro e w1 ⟨rfl, k1⟩
        have K1 := Lib.hid k1
        clear k1
        go_wp2_with fail
        refine (E2.out _ (HO.out.keep K1.out)).mono ?_
        rintro e w2 ⟨rfl, k2⟩
        have K2 := Lib.hid (K1.out.trans k2)
        clear k2
        go_wp2_with fail
        refine (E3.out _ (HO.out.keep K2.out)).mono ?_
        rintro e w3 ⟨rfl, k3⟩
        have K3 := Lib.hid (K2.out.trans k3)
        clear k3
        go_wp2_with fail
        refine (E4.out _ (HO.out.keep K3.out)).mono ?_
        rintro e w4 ⟨rfl, k4⟩
        have K4 := Lib.hid (K3.out.trans k4)
        clear k4
        go_wp2_with fail
        refine (AW.out _ (HO.out.keep K4.out)).mono ?_
        rintro e w5 ⟨rfl, k5⟩
        have K5 := Lib.hid (K4.out.trans k5)
        clear k5
        go_wp2_with fail
        go_ret
        exact ⟨ret_bool (beqT (by omega)), K5.out⟩
set_option maxRecDepth 100000 in
set_option maxHeartbeats 400000 in
theorem tback_long (s t : ByteArray) (r : Bool) (w : World) (hs : s.size ≤ maxLen) (ht : t.size ≤ maxLen) (h : 200 < s.size ∨ 200 < t.size) (hO : Lis w) :
    Calls Tryd.prog 3 #[.string s, .string t, .bool r] w fun e w' => e = .returned (.bool true) ∧ Keeps w w' := by
  have AW := Lib.hid (awake9_any w hO)
  unfold maxLen at hs ht
  clear hO
  by_cases c : 200 < s.size
  · clear h
    go_enter Tryd.func3, Tryd.ntmps3
    go_wp2_with fail
    refine AW.out.mono ?_
    rintro e w2 ⟨rfl, k2⟩
    go_wp2_with fail
    go_ret
    exact ⟨rfl, k2⟩
  · have c2 : 200 < t.size := h.resolve_left c
    clear h
    go_enter Tryd.func3, Tryd.ntmps3
    go_wp2_with fail
    refine AW.out.mono ?_
    rintro e w2 ⟨rfl, k2⟩
    go_wp2_with fail
    go_ret
    exact ⟨rfl, k2⟩
theorem tback_any (s t : ByteArray) (r : Bool) (w : World) (hs : s.size ≤ maxLen) (ht : t.size ≤ maxLen) (hO : Lis w) :
    Calls Tryd.prog 3 #[.string s, .string t, .bool r] w fun e w' => e = .returned (.bool true) ∧ Keeps w w' := by
  by_cases h : 200 < s.size ∨ 200 < t.size
  · exact tback_long s t r w hs ht h hO
  · exact tback_short s t r w (by omega) (by omega) hO
end Go.Proofs.YtdpjfdandeikmaaDoor

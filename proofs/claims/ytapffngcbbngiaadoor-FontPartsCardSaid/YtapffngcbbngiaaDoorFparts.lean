/-
  FontParts returns true of any font and any two texts of codes.
-/
import Derived.Test.YtapffngcbbngiaaDoorFaw
namespace Go.Proofs.YtapffngcbbngiaaDoor
open Go.RowKit Go.Lib

set_option maxHeartbeats 800000 in
theorem fparts_long (f : Int) (a b : ByteArray) (w : World) (ha : a.size ≤ maxLen) (hb : b.size ≤ maxLen) (h : 500 < a.size ∨ 500 < b.size) (hF : Fnt w) :
    Calls Tryd.prog 4 #[.int .i64 f, .string a, .string b] w fun e w' => e = .returned (.bool true) ∧ Keeps w w' := by
  have AW := Lib.hid (awake5_any w hF)
  unfold maxLen at ha hb
  clear hF
  by_cases h1 : 500 < a.size
  · clear h
    go_enter Tryd.func4, Tryd.ntmps4
    go_wp2_with fail
    refine AW.out.mono ?_
    rintro e w1 ⟨rfl, rfl⟩
    go_wp2_with fail
    go_ret
    exact ⟨rfl, Keeps.refl _⟩
  · have h2 : 500 < b.size := by omega
    clear h
    go_enter Tryd.func4, Tryd.ntmps4
    go_wp2_with fail
    refine AW.out.mono ?_
    rintro e w1 ⟨rfl, rfl⟩
    go_wp2_with fail
    go_ret
    exact ⟨rfl, Keeps.refl _⟩
set_option maxHeartbeats 800000 in
theorem fparts_short (f : Int) (a b : ByteArray) (w : World) (ha : a.size ≤ 500) (hb : b.size ≤ 500) (hF : Fnt w) :
    Calls Tryd.prog 4 #[.int .i64 f, .string a, .string b] w fun e w' => e = .returned (.bool true) ∧ Keeps w w' := by
  have AW := Lib.hid (awake5_any w hF)
  have AD := Lib.hid (fun c hc => adv_any f 4000 c hc w (by omega) (by omega) hF)
  have hab : (a ++ b).size ≤ 1000 := by rw [ByteArray.size_append]; omega
  have R1 := Lib.hid (run_any f 4000 (a ++ b) w (by omega) (by omega) (by omega) hF)
  have R2 := Lib.hid (run_any f 4000 a w (by omega) (by omega) (by omega) hF)
  have R3 := Lib.hid (run_any f 4000 b w (by omega) (by omega) (by omega) hF)
  have u1 := run_le (f := f) (size := 4000) (by omega) (by omega) a.data.toList
  have u2 := run_le (f := f) (size := 4000) (by omega) (by omega) b.data.toList
  have v1 := run_nonneg (f := f) (size := 4000) (by omega) a.data.toList
  have v2 := run_nonneg (f := f) (size := 4000) (by omega) b.data.toList
  rw [bytes_len] at u1 u2
  rw [bytes_app, run_app] at R1
  generalize runL f 4000 a.data.toList = x at *
  generalize runL f 4000 b.data.toList = y at *
  clear hF
  go_enter Tryd.func4, Tryd.ntmps4
  go_wp2_with fail
  go_loop [8] (fun i => ∃ k : Nat, k ≤ a.size ∧ i = .int .i64 k) (fun i => a.size - (RowKit.intOf i).toNat)
  case atStart => exact ⟨0, Nat.zero_le _, rfl⟩
  case round =>
    obtain ⟨k, hp, rfl⟩ := hrel
    by_cases c : k < a.size
    · have hb := a[k].toNat_lt
      have HT := Lib.hid (AD.out a[k].toNat hb)
      have a0 := adv_pos (f := f) (size := 4000) hb (by omega)
      generalize advL f 4000 a[k].toNat = d at *
      go_wp2_with fail
      refine HT.out.mono ?_
      rintro e W0 ⟨rfl, rfl⟩
      go_wp2_with fail
      go_round
      case rel => exact ⟨k + 1, by omega, by go_num⟩
      case measure => simp [RowKit.intOf]; omega
    · go_wp2_with fail
      refine AW.out.mono ?_
      rintro e w1 ⟨rfl, rfl⟩
      go_wp2_with fail
      refine R1.out.mono ?_
      rintro e w1 ⟨rfl, rfl⟩
      go_wp2_with fail
      refine R2.out.mono ?_
      rintro e w1 ⟨rfl, rfl⟩
      go_wp2_with fail
      refine R3.out.mono ?_
      rintro e w1 ⟨rfl, rfl⟩
      go_wp2_with fail
      go_ret
      exact ⟨rfl, Keeps.refl _⟩
theorem fparts_any (f : Int) (a b : ByteArray) (w : World) (ha : a.size ≤ maxLen) (hb : b.size ≤ maxLen) (hF : Fnt w) :
    Calls Tryd.prog 4 #[.int .i64 f, .string a, .string b] w fun e w' => e = .returned (.bool true) ∧ Keeps w w' := by
  by_cases h : a.size ≤ 500 ∧ b.size ≤ 500
  · exact fparts_short f a b w h.1 h.2 hF
  · exact fparts_long f a b w ha hb (by omega) hF
end Go.Proofs.YtapffngcbbngiaaDoor

/-
  NamedTells returns true of any text and byte.
-/
import Derived.Test.YtmljngahlkhihaaDoorNaw
import Derived.Test.YtmljngahlkhihaaDoorNmk
namespace Go.Proofs.YtmljngahlkhihaaDoor
open Go.RowKit Go.Lib

set_option maxHeartbeats 400000 in
theorem ntells_long (s : ByteArray) (b : UInt8) (w : World) (hs : s.size ≤ maxLen) (h : 1000 < s.size) (hO : Lis w) :
    Calls Tryd.prog 3 #[.string s, .int .u8 (b.toNat : Nat)] w fun e w' => e = .returned (.bool true) ∧ Keeps w w' := by
  have AW := Lib.hid (awake6_any w hO)
  unfold maxLen at hs
  clear hO
  go_enter Tryd.func3, Tryd.ntmps3
  go_wp2_with fail
  refine AW.out.mono ?_
  rintro e w2 ⟨rfl, k2⟩
  go_wp2_with fail
  go_ret
  exact ⟨rfl, k2⟩
set_option maxHeartbeats 2000000 in
theorem ntells_short (s : ByteArray) (b : UInt8) (w : World) (h : s.size ≤ 1000) (hO : Lis w) :
    Calls Tryd.prog 3 #[.string s, .int .u8 (b.toNat : Nat)] w fun e w' => e = .returned (.bool true) ∧ Keeps w w' := by
  have AW := Lib.hid (fun W h => awake6_any W h)
  have A1 := Lib.hid (name_any s w hO)
  have B1 := Lib.hid (rname_any s w)
  have A2 := Lib.hid (fun W a => ref_any s W (by unfold maxLen; omega) a)
  have B2 := Lib.hid (fun W => rref_any s W (by omega))
  have A3 := Lib.hid (fun W a => plain_any s W (by omega) a)
  have B3 := Lib.hid (fun W => rplain_any s W (by omega))
  have A4 := Lib.hid (fun W => sign_any b W)
  have B4 := Lib.hid (fun W => rsign_any b W)
  have HO := Lib.hid hO
  have hb := b.toNat_lt
  clear hO
  generalize namedL s.data.toList = z1 at *
  generalize (!decide (z1 = 0)) = z0 at *
  have hz := (show (refL s.data.toList).2 ≤ 10 by
    rcases refL_facts s.data.toList with e | e
    · rw [e]; exact Nat.zero_le _
    · exact e.2.1)
  generalize (refL s.data.toList).2 = z2 at *
  generalize refB s.data.toList = z3 at *
  generalize plainL s.data.toList = z4 at *
  generalize signB b = z5 at *
  go_enter Tryd.func3, Tryd.ntmps3
  go_wp2_with fail
  refine A1.out.mono ?_
  rintro e w1 ⟨rfl, rfl⟩
  go_wp2_with fail
  refine B1.out.mono ?_
  rintro e w1 ⟨rfl, k1⟩
  have K1 := Lib.hid k1
  clear k1
  go_wp2_with fail
  refine (A2.out _ (HO.out.keep K1.out)).mono ?_
  rintro e w2 ⟨rfl, rfl⟩
  go_wp2_with fail
  refine (B2.out _).mono ?_
  rintro e w2 ⟨rfl, k2⟩
  have K2 := Lib.hid (K1.out.trans k2)
  clear k2
  go_wp2_with fail
  refine (AW.out _ (HO.out.keep K2.out)).mono ?_
  rintro e w3 ⟨rfl, k3⟩
  have K3 := Lib.hid (K2.out.trans k3)
  clear k3
  go_wp2_with fail
  refine (A3.out _ (HO.out.keep K3.out)).mono ?_
  rintro e w4 ⟨rfl, k4⟩
  have K4 := Lib.hid (K3.out.trans k4)
  clear k4
  go_wp2_with fail
  refine (B3.out _).mono ?_
  rintro e w5 ⟨rfl, k5⟩
  have K5 := Lib.hid (K4.out.trans k5)
  clear k5
  go_wp2_with fail
  refine (A4.out _).mono ?_
  rintro e w6 ⟨rfl, rfl⟩
  go_wp2_with fail
  refine (B4.out _).mono ?_
  rintro e w6 ⟨rfl, rfl⟩
  go_wp2_with fail
  go_ret
  exact ⟨ret_bool (by simp), K5.out⟩
theorem ntells_any (s : ByteArray) (c : Nat) (hc : c < 256) (w : World) (hs : s.size ≤ maxLen) (hO : Lis w) :
    Calls Tryd.prog 3 #[.string s, .int .u8 c] w fun e w' => e = .returned (.bool true) ∧ Keeps w w' := by
  obtain ⟨b, rfl⟩ : ∃ b : UInt8, b.toNat = c := ⟨UInt8.ofNat c, by rw [UInt8.toNat_ofNat']; exact Nat.mod_eq_of_lt hc⟩
  by_cases h : s.size ≤ 1000
  · exact ntells_short s b w h hO
  · exact ntells_long s b w hs (by omega) hO
end Go.Proofs.YtmljngahlkhihaaDoor

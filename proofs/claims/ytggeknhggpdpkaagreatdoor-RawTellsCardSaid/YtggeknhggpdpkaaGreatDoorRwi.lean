/-
  Contract of Auto, of the package raw, for texts of at most 100,000 bytes.
-/
import Derived.Test.YtggeknhggpdpkaaGreatDoorRwh
namespace Go.Proofs.YtggeknhggpdpkaaGreatDoor
open Go.RowKit Go.Lib

/-- What Auto tells. -/
def AutV (l : List UInt8) : Value := .tuple #[.string ⟨(autA l).toArray⟩, .string ⟨(autB l).toArray⟩, .int .i64 (autN l : Nat)]
theorem autV_sch {l : List UInt8} (h : schB (encT l) = true) : AutV l = .tuple #[.string ⟨(encT l).toArray⟩, .string ⟨(encT l).toArray⟩, .int .i64 ((encT l).length + 2 : Nat)] := by
  unfold AutV autA autB autN
  rw [if_pos h, if_pos h, if_pos h]
theorem autV_adr {l : List UInt8} (h : schB (encT l) = false) (k : adrB (encT l) = true) : AutV l = .tuple #[.string ⟨(mailto ++ encT l).toArray⟩, .string ⟨(encT l).toArray⟩, .int .i64 ((encT l).length + 2 : Nat)] := by
  unfold AutV autA autB autN
  rw [h, k]
  rfl
theorem autV_no {l : List UInt8} (h : schB (encT l) = false) (k : adrB (encT l) = false) : AutV l = .tuple #[.string ⟨#[]⟩, .string ⟨#[]⟩, .int .i64 0] := by
  unfold AutV autA autB autN
  rw [h, k]
  rfl
theorem ret_ssn {a b : ByteArray} {c d : ByteArray} {n m : Int} (h : a = b) (i : c = d) (k : n = m) : Ending.returned (.tuple #[.string a, .string c, .int .i64 n]) = .returned (.tuple #[.string b, .string d, .int .i64 m]) := by rw [h, i, k]
theorem mailto_app (t : ByteArray) : (⟨(mailto ++ t.data.toList).toArray⟩ : ByteArray) = (⟨#[109, 97, 105, 108, 116, 111, 58]⟩ : ByteArray) ++ t := bytes_eq (by rw [bytes_app]; rfl)

set_option maxRecDepth 100000 in
set_option maxHeartbeats 1000000 in
theorem auto_any (s : ByteArray) (w : World) (hs : s.size ≤ 99000) (hm : Mxl w) :
    Calls Tryz.prog 5 #[.string s] w fun e w' => e = .returned (AutV s.data.toList) ∧ Keeps w w' := by
  have EN := Lib.hid (fun W => renclosed_any s W (by omega))
  have hz := encT_le s.data.toList
  rw [bytes_len] at hz
  obtain ⟨t, ht⟩ : ∃ t : ByteArray, (⟨(encT s.data.toList).toArray⟩ : ByteArray) = t := ⟨_, rfl⟩
  have tl : t.data.toList = encT s.data.toList := by rw [← ht]
  have tz : t.size ≤ 99000 := by
    rw [← bytes_len, tl]
    rcases hz with e | e
    · rw [e]; simp
    · omega
  rw [ht] at EN
  have SC := Lib.hid (fun W => schemed_any t W (by omega))
  have AD := Lib.hid (address_any t w (by omega) hm)
  have CL := Lib.hid (fun W => clone_any t W (by omega))
  have V1 := Lib.hid (@autV_sch s.data.toList)
  have V2 := Lib.hid (@autV_adr s.data.toList)
  have V3 := Lib.hid (@autV_no s.data.toList)
  rw [← tl] at V1 V2 V3
  rw [bytes_len] at V1 V2
  rw [mailto_app] at V2
  rw [bytes_mk] at V1 V2
  clear ht tl hz hm
  cases h1 : schB t.data.toList with
  | true =>
    rw [V1.out h1]
    rw [h1] at SC
    clear h1 V1 V2 V3 AD
    go_enter Tryz.func5, Tryz.ntmps5
    go_wp2_with fail
    refine (EN.out _).mono ?_
    rintro e w1 ⟨rfl, rfl⟩
    go_wp2_with fail
    refine (SC.out _).mono ?_
    rintro e w1 ⟨rfl, rfl⟩
    go_wp2_with fail
    refine (CL.out _).mono ?_
    rintro e w1 ⟨rfl, k1⟩
    have K1 := Lib.hid k1
    clear k1
    go_wp2_with fail
    refine (CL.out _).mono ?_
    rintro e w2 ⟨rfl, k2⟩
    go_wp2_with fail
    go_ret3
    exact ⟨ret_ssn rfl rfl (by omega), K1.out.trans k2⟩
  | false =>
    rw [h1] at SC
    cases h2 : adrB t.data.toList with
    | true =>
      rw [V2.out h1 h2]
      rw [h2] at AD
      clear h1 h2 V1 V2 V3
      go_enter Tryz.func5, Tryz.ntmps5
      go_wp2_with fail
      refine (EN.out _).mono ?_
      rintro e w1 ⟨rfl, rfl⟩
      go_wp2_with fail
      refine (SC.out _).mono ?_
      rintro e w1 ⟨rfl, rfl⟩
      go_wp2_with fail
      refine AD.out.mono ?_
      rintro e w1 ⟨rfl, k1⟩
      have K1 := Lib.hid k1
      clear k1
      go_wp2_with fail
      refine (CL.out _).mono ?_
      rintro e w2 ⟨rfl, k2⟩
      go_wp2_with fail
      go_ret3
      exact ⟨ret_ssn rfl rfl (by omega), K1.out.trans k2⟩
    | false =>
      rw [V3.out h1 h2]
      rw [h2] at AD
      clear h1 h2 V1 V2 V3
      go_enter Tryz.func5, Tryz.ntmps5
      go_wp2_with fail
      refine (EN.out _).mono ?_
      rintro e w1 ⟨rfl, rfl⟩
      go_wp2_with fail
      refine (SC.out _).mono ?_
      rintro e w1 ⟨rfl, rfl⟩
      go_wp2_with fail
      refine AD.out.mono ?_
      rintro e w1 ⟨rfl, k1⟩
      go_wp2_with fail
      go_ret3
      exact ⟨rfl, k1⟩
end Go.Proofs.YtggeknhggpdpkaaGreatDoor

/-
  Texts of the proof, one behind the other: Isd.
-/
import Derived.Test.YtklmgbkkjmfhcaaGreatDoorM42
import Derived.Test.YtklmgbkkjmfhcaaGreatDoorM41
import Derived.Test.YtklmgbkkjmfhcaaGreatDoorM8
/-
  InlineShapes is true of any text, by any definitions.
-/
namespace Go.Proofs.YtklmgbkkjmfhcaaGreatDoor
open Go.RowKit Go.Lib Go.Maps

def rfs (xs : List (ByteArray × ByteArray × ByteArray)) : List Rf := xs.map fun x => (x.1.data.toList, x.2.1.data.toList, x.2.2.data.toList)
theorem refV_args {w : World} {A : Option Addr} {n cap : Nat} {xs : List (ByteArray × ByteArray × ByteArray)} (hl : xs.length = n) (h1 : n ≤ cap) (h2 : cap ≤ maxLen) (h : 0 < n → ∃ b off, A = some ⟨b, off, none⟩ ∧ ∀ k (hk : k < xs.length), txAt w b (off + k * 3) xs[k]) : RefV w (.slice A n cap) (rfs xs) := by
  have hn : (rfs xs).length = n := by unfold rfs; rw [List.length_map, hl]
  refine ⟨A, cap, by rw [hn], by rw [hn]; exact h1, h2, fun q => ?_⟩
  obtain ⟨b, off, e, hc⟩ := h (by omega)
  refine ⟨b, off, e, fun k hk => ?_⟩
  have hk' : k < xs.length := by omega
  have c := hc k hk'
  have er : refC (rfs xs)[k] = [.string xs[k].1, .string xs[k].2.1, .string xs[k].2.2] := by
    have ex : (rfs xs)[k] = (xs[k].1.data.toList, xs[k].2.1.data.toList, xs[k].2.2.data.toList) := by simp [rfs]
    rw [ex]
    unfold refC
    simp only [bytes_same]
  intro j v hj
  rw [er] at hj
  match j, hj with
  | 0, hj => simp at hj; subst hj; exact c.1
  | 1, hj => simp at hj; subst hj; exact c.2.1
  | 2, hj => simp at hj; subst hj; exact c.2.2
set_option maxRecDepth 100000 in
set_option maxHeartbeats 4000000 in
theorem ishapes_any (s : ByteArray) (A : Option Addr) (n cap : Nat) (xs : List (ByteArray × ByteArray × ByteArray)) (w : World) (hs : s.size ≤ maxLen) (hl : xs.length = n) (hx : ∀ x ∈ xs, x.1.size ≤ maxLen ∧ x.2.1.size ≤ maxLen ∧ x.2.2.size ≤ maxLen) (h1 : n ≤ cap) (h2 : cap ≤ maxLen)
    (hc : 0 < n → ∃ b off, A = some ⟨b, off, none⟩ ∧ ∀ k (hk : k < xs.length), txAt w b (off + k * 3) xs[k]) (hO : Lis w) (hM : Mxl w) :
    Calls Tryz.prog 3 #[.string s, .slice A n cap] w fun e w' => e = .returned (.bool true) ∧ Keeps w w' := by
  have AW := Lib.hid (fun W (k : Keeps w W) => awake14_any W (hO.keep k) (hM.keep k))
  have RV := Lib.hid (refV_args hl h1 h2 hc)
  have hrl : (rfs xs).length = n := by unfold rfs; rw [List.length_map, hl]
  have hrs : ∀ r ∈ rfs xs, r.1.length ≤ maxLen := fun r hr => by
    obtain ⟨x, hx1, rfl⟩ := List.mem_map.1 hr
    have := (hx x hx1).1
    show x.1.data.toList.length ≤ _
    rw [bytes_len]; exact this
  have HR := Lib.hid (show (rfs xs).length = n ∧ ∀ r ∈ rfs xs, r.1.length ≤ maxLen from ⟨hrl, hrs⟩)
  have HO := Lib.hid hO
  have HM := Lib.hid hM
  have hlb := Lib.hid (bytes_len s)
  unfold maxLen at hs h2
  clear hO hM hx hrl hrs hl hc
  go_enter Tryz.func3, Tryz.ntmps3
  by_cases c0 : 1500 < s.size
  · have t0 : (1500 : Int) < (s.size : Int) := by omega
    go_wp2_with fail
    refine (AW.out _ (Keeps.refl _)).mono ?_
    rintro e w1 ⟨rfl, k1⟩
    go_wp2_with fail
    go_ret
    exact ⟨rfl, k1⟩
  have t0 : ¬ (1500 : Int) < (s.size : Int) := by omega
  by_cases c1 : 50 < n
  · have t1 : (50 : Int) < (n : Int) := by omega
    go_wp2_with fail
    refine (AW.out _ (Keeps.refl _)).mono ?_
    rintro e w1 ⟨rfl, k1⟩
    go_wp2_with fail
    go_ret
    exact ⟨rfl, k1⟩
  have t1 : ¬ (50 : Int) < (n : Int) := by omega
  have PA := Lib.hid (fun W (k : Keeps w W) => parseI_any s (rfs xs) (.slice A n cap) W (RV.out.keep k) (HO.out.keep k) (HM.out.keep k) (by omega) ⟨by have := HR.out.1; omega, HR.out.2⟩)
  have SH := Lib.hid (fun W l v (h : SpsAt W (fun b => b < W.heap.size) l v) => shaped_any (SizeOf.sizeOf l) l W v _ false (Nat.le_refl _) h (fun b hb => hb))
  go_wp2_with fail
  go_loopw [5] (fun i wr => ∃ k : Nat, k ≤ s.size ∧ i = .int .i64 k ∧ Hid (Keeps w wr) ∧ Hid (∀ c ∈ s.data.toList.take k, c ≠ 60)) (fun i _ => s.size - (RowKit.intOf i).toNat)
  case atStart => exact ⟨0, Nat.zero_le _, rfl, Lib.hid (Keeps.refl _), Lib.hid (fun c hc => by cases hc)⟩
  case round =>
    obtain ⟨k, hk, rfl, HK, HN⟩ := hrel
    by_cases hks : k < s.size
    · have hkk : (k : Int) < (s.size : Int) := by omega
      by_cases h60 : s[k].toNat = 60
      · have u1 : ((s[k].toNat : Int) == 60) = true := beqT (by omega)
        go_wp2_with fail
        refine (AW.out _ HK.out).mono ?_
        rintro e w1 ⟨rfl, k1⟩
        have K1 := Lib.hid (HK.out.trans k1)
        clear k1
        go_wp2_with fail
        go_ret
        exact ⟨rfl, K1.out⟩
      · have u1 : ((s[k].toNat : Int) == 60) = false := beqF (by omega)
        have HN2 : Hid (∀ c ∈ s.data.toList.take (k + 1), c ≠ 60) := Lib.hid (fun c hc => by
          have hkl : k < s.data.toList.length := by have := hlb.out; omega
          rw [List.take_succ_eq_append_getElem hkl] at hc
          rcases List.mem_append.1 hc with hc | hc
          · exact HN.out c hc
          · rw [List.mem_singleton.1 hc]
            exact fun e => h60 (by show s.data.toList[k].toNat = 60; rw [e]; rfl))
        clear h60
        go_wp2_with fail
        go_roundw
        case rel => exact ⟨k + 1, by omega, by go_num, HK, HN2⟩
        case measure => simp [RowKit.intOf]; omega
    · have hkk : ¬ (k : Int) < (s.size : Int) := by omega
      have HSP : Hid (shL false false (parseI s.data.toList (rfs xs)) = true) := Lib.hid (parse_shape fun c hc => HN.out c (by
        rw [List.take_of_length_le (by have := hlb.out; omega)]; exact hc))
      go_wp2_with fail
      refine (AW.out _ HK.out).mono ?_
      rintro e w1 ⟨rfl, k1⟩
      have K1 := Lib.hid (HK.out.trans k1)
      clear k1
      go_wp2_with fail
      refine (PA.out _ K1.out).mono ?_
      rintro e w2 ⟨v, rfl, sp, k2⟩
      have K2 := Lib.hid (K1.out.trans k2)
      have SH2 := Lib.hid (SH.out w2 _ v sp)
      rw [HSP.out] at SH2
      clear k2 sp SH
      go_wp2_with fail
      refine SH2.out.mono ?_
      rintro e w3 ⟨rfl, k3⟩
      have K3 := Lib.hid (K2.out.trans k3)
      clear k3
      go_wp2_with fail
      go_ret
      exact ⟨rfl, K3.out⟩
end Go.Proofs.YtklmgbkkjmfhcaaGreatDoor


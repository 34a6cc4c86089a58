/-
  Texts of the proof, one behind the other: Lbf.
-/
import Derived.Test.YtklmgbkkjmfhcaaGreatDoorM13
import Derived.Test.YtklmgbkkjmfhcaaGreatDoorM25
/-
  Contract of Find, of the package label, for lists of at most 100,000 definitions.
-/
namespace Go.Proofs.YtklmgbkkjmfhcaaGreatDoor
open Go.RowKit Go.Lib

/-- What Find tells. -/
def FndV (n : List UInt8) (rs : List Rf) : Value := match fndL n rs with
  | some r => .tuple #[refV r, .bool true]
  | none => .tuple #[refV ([], [], []), .bool false]
theorem fnd_yes {n : List UInt8} {r : Rf} {rs : List Rf} (h : r.1 = n) : FndV n (r :: rs) = .tuple #[refV r, .bool true] := by
  unfold FndV fndL
  rw [if_pos h]
theorem fnd_no {n : List UInt8} {r : Rf} {rs : List Rf} (h : ¬ r.1 = n) : FndV n (r :: rs) = FndV n rs := by
  unfold FndV
  rw [fndL, if_neg h]
set_option maxRecDepth 100000 in
set_option maxHeartbeats 2000000 in
theorem find_any (n₀ : Nat) (v : Value) (rs : List Rf) (s : ByteArray) (w : World) (h : Refs n₀ w v rs) (hl : rs.length ≤ 100000) (hs : s.size ≤ 100000) :
    Calls Tryz.prog 101 #[v, .string s] w fun e w' => e = .returned (FndV (nrmL s.data.toList) rs) ∧ Keeps w w' := by
  have NR := Lib.hid (fun W => normal_any s W hs)
  obtain ⟨a, ca, rfl, ca1, ca2⟩ := refs_form h
  have HX := Lib.hid h
  obtain ⟨N, hN⟩ : ∃ N, nrmL s.data.toList = N := ⟨_, rfl⟩
  rw [hN] at NR ⊢
  obtain ⟨L, hL⟩ : ∃ L, rs.length = L := ⟨_, rfl⟩
  have HL := Lib.hid hL
  rw [hL] at ca1 hl HX ⊢
  unfold maxLen at ca2
  have B0 := Lib.hid (Blk.new w 29 #[.string ⟨#[]⟩, .string ⟨#[]⟩, .string ⟨#[]⟩])
  have K0 := Lib.hid ((Keeps.refl w).alloc (.cells #[.string ⟨#[]⟩, .string ⟨#[]⟩, .string ⟨#[]⟩] 29))
  clear h hN hL
  go_enter Tryz.func101, Tryz.ntmps101
  go_wp2_with fail
  refine (NR.out _).mono ?_
  rintro e w1 ⟨rfl, k1⟩
  have B1 := Lib.hid (B0.out.keep k1)
  have K1 := Lib.hid (K0.out.trans k1)
  clear k1 B0 K0
  obtain ⟨B, hB⟩ : ∃ B, w.heap.size = B := ⟨_, rfl⟩
  rw [hB] at B1 ⊢
  have HLE : Hid (w.heap.size ≤ B) := Lib.hid (by omega)
  clear hB
  go_wp2_with fail
  go_loopw [13] (fun i wr => ∃ k : Nat, k ≤ L ∧ i = .int .i64 k ∧ Hid (Blk wr B 29 #[.string ⟨#[]⟩, .string ⟨#[]⟩, .string ⟨#[]⟩]) ∧ Hid (Keeps w wr) ∧ Hid (FndV N (rs.drop k) = FndV N rs)) (fun i _ => L - (RowKit.intOf i).toNat)
  case atStart => exact ⟨0, Nat.zero_le _, rfl, B1, K1, Lib.hid rfl⟩
  case round =>
    obtain ⟨k, hk, rfl, HB, HK, HF⟩ := hrel
    by_cases c : k < L
    · have hkr : k < rs.length := by rw [HL.out]; exact c
      obtain ⟨g, rfl, cg⟩ := refs_cell (HX.out.keep HK.out) (by omega)
      obtain ⟨c0, c1, c2⟩ := cg k hkr
      have HR : Hid (rs.drop k = rs[k] :: rs.drop (k + 1)) := Lib.hid (List.drop_eq_getElem_cons hkr)
      clear cg
      generalize rs[k] = r at *
      obtain ⟨r1, r2, r3⟩ := r
      dsimp only at c0 c1 c2
      have B2 := Lib.hid (HB.out.alloc (.cells #[.string ⟨r1.toArray⟩, .string ⟨r2.toArray⟩, .string ⟨r3.toArray⟩] 29))
      have K2 := Lib.hid (HK.out.alloc (.cells #[.string ⟨r1.toArray⟩, .string ⟨r2.toArray⟩, .string ⟨r3.toArray⟩] 29))
      by_cases he : r1 = N
      · have t1 : (r1 == N) = true := beq_iff_eq.2 he
        have HE : Hid (FndV N rs = .tuple #[refV (r1, r2, r3), .bool true]) := Lib.hid (by rw [← HF.out, HR.out, fnd_yes he])
        have y0 := B2.out.cell 0 (v := .string ⟨#[]⟩) rfl
        have y1 := B2.out.cell 1 (v := .string ⟨#[]⟩) rfl
        have y2 := B2.out.cell 2 (v := .string ⟨#[]⟩) rfl
        have e0 := B2.out.free 0
        have e1 := B2.out.free 1
        have e2 := B2.out.free 2
        have FIN := Lib.hid (ref_fin B2.out K2.out HLE.out)
        clear he
        go_wp2_with fail
        exact ret_blk2 rfl rfl rfl rfl (FIN.out _ _ _).1 Tryz.underlying29 (by kernel_rfl) ⟨congrArg Ending.returned HE.out.symm, (FIN.out _ _ _).2⟩
      · have t1 : (r1 == N) = false := beq_eq_false_iff_ne.2 he
        have HE : Hid (FndV N (rs.drop (k + 1)) = FndV N rs) := Lib.hid (by rw [← HF.out, HR.out, fnd_no he])
        clear he
        go_wp2_with fail
        go_round
        case rel => exact ⟨k + 1, by omega, by go_num, B2, K2, HE⟩
        case measure => simp [RowKit.intOf]; omega
    · have HE : Hid (FndV N rs = .tuple #[refV ([], [], []), .bool false]) := Lib.hid (by rw [← HF.out, List.drop_eq_nil_of_le (by have := HL.out; omega)]; rfl)
      have y0 := HB.out.cell 0 (v := .string ⟨#[]⟩) rfl
      have y1 := HB.out.cell 1 (v := .string ⟨#[]⟩) rfl
      have y2 := HB.out.cell 2 (v := .string ⟨#[]⟩) rfl
      have e0 := HB.out.free 0
      have e1 := HB.out.free 1
      have e2 := HB.out.free 2
      have FIN := Lib.hid (ref_fin HB.out HK.out HLE.out)
      go_wp2_with fail
      exact ret_blk2 rfl rfl rfl rfl (FIN.out _ _ _).1 Tryz.underlying29 (by kernel_rfl) ⟨congrArg Ending.returned HE.out.symm, (FIN.out _ _ _).2⟩
end Go.Proofs.YtklmgbkkjmfhcaaGreatDoor


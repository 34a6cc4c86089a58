/-
  Contract of local, of the document's answer of layer 11.
-/
import Derived.Test.YtggeknhggpdpkaaGreatDoorRxa
import Derived.Test.YtggeknhggpdpkaaGreatDoorBlk
import Derived.Lib.SlBytesConst
import Derived.Lib.SmallJoins
namespace Go.Proofs.YtggeknhggpdpkaaGreatDoor
open Go.RowKit Go.Lib

/-- The signs ahead of an address' @, in the document's order. -/
def lclT : List Nat := [46, 33, 35, 36, 37, 38, 39, 42, 43, 47, 61, 63, 94, 95, 123, 124, 125, 126, 45]
theorem lcl_any (x : Int) : lclT.any (fun y => decide (x = (y : Int))) = decide (x = 46 ∨ x = 33 ∨ x = 35 ∨ x = 36 ∨ x = 37 ∨ x = 38 ∨ x = 39 ∨ x = 42 ∨ x = 43 ∨ x = 47 ∨ x = 61 ∨ x = 63 ∨ x = 94 ∨ x = 95 ∨ x = 123 ∨ x = 124 ∨ x = 125 ∨ x = 126 ∨ x = 45) := by
  rw [Bool.eq_iff_iff]
  simp [lclT]
theorem usr_lcl (b : UInt8) (x : Int) (hx : (b.toNat : Int) = x) : rUsr b = (iLet x || iDig x || (lclT.any (fun y => decide (x = (y : Int))) || decide (x = 96))) := by
  unfold rUsr
  rw [iLet_nat, iDig_nat, hx, lcl_any]
  congr 1
  rw [Bool.eq_iff_iff, Bool.or_eq_true, decide_eq_true_eq, decide_eq_true_eq, decide_eq_true_eq]
  omega
/-- The block that holds the signs. -/
def lclC : Array Value := #[.int .u8 46, .int .u8 33, .int .u8 35, .int .u8 36, .int .u8 37, .int .u8 38, .int .u8 39, .int .u8 42, .int .u8 43, .int .u8 47, .int .u8 61, .int .u8 63, .int .u8 94, .int .u8 95, .int .u8 123, .int .u8 124, .int .u8 125, .int .u8 126, .int .u8 45]
theorem lcl_cell : ∀ k : Fin 19, lclC[k.val]? = some (.int .u8 ((lclT.getD k.val 0 : Nat) : Int)) := by
  intro k
  match k with
  | ⟨0, _⟩ | ⟨1, _⟩ | ⟨2, _⟩ | ⟨3, _⟩ | ⟨4, _⟩ | ⟨5, _⟩ | ⟨6, _⟩ | ⟨7, _⟩ | ⟨8, _⟩ | ⟨9, _⟩ | ⟨10, _⟩ | ⟨11, _⟩ | ⟨12, _⟩ | ⟨13, _⟩ | ⟨14, _⟩ | ⟨15, _⟩ | ⟨16, _⟩ | ⟨17, _⟩ | ⟨18, _⟩ => rfl
  | ⟨n + 19, h⟩ => exact absurd h (by omega)
theorem lcl_range : ∀ k : Fin 19, lclT.getD k.val 0 < 256 := by decide
theorem any_hit {x : Int} {k : Nat} (hk : k < 19) (h : x = ((lclT.getD k 0 : Nat) : Int)) : lclT.any (fun y => decide (x = (y : Int))) = true := by
  refine List.any_eq_true.2 ⟨lclT.getD k 0, ?_, decide_eq_true h⟩
  have : k < lclT.length := hk
  rw [List.getD, List.getElem?_eq_getElem this]
  exact List.getElem_mem this
theorem any_next {x : Int} {k : Nat} (hk : k < 19) (h : (lclT.take k).any (fun y => decide (x = (y : Int))) = false) (hx : ¬ x = ((lclT.getD k 0 : Nat) : Int)) : (lclT.take (k + 1)).any (fun y => decide (x = (y : Int))) = false := by
  have : k < lclT.length := hk
  have e : lclT.getD k 0 = lclT[k] := by rw [List.getD, List.getElem?_eq_getElem this]; rfl
  rw [List.take_succ_eq_append_getElem this, List.any_append, h]
  rw [e] at hx
  simp [hx]
set_option maxRecDepth 100000 in
set_option maxHeartbeats 1000000 in
theorem local_any (b : UInt8) (w : World) :
    Calls Tryz.prog 48 #[.int .u8 (b.toNat : Nat)] w fun e w' => e = .returned (.bool (rUsr b)) ∧ Keeps w w' := by
  have hb := b.toNat_lt
  obtain ⟨x, hx⟩ : ∃ x : Int, (b.toNat : Int) = x := ⟨_, rfl⟩
  have x0 : 0 ≤ x := by omega
  have x1 : x < 256 := by omega
  have LT := Lib.hid (fun W => dletter_go x W x0 x1)
  have DG := Lib.hid (fun W => ddigit_go x W x0 x1)
  rw [usr_lcl b x hx, hx]
  clear hx hb
  cases c1 : iLet x with
  | true =>
    rw [c1] at LT
    go_enter Tryz.func48, Tryz.ntmps48
    go_wp2_with fail
    refine (LT.out _).mono ?_
    rintro e w1 ⟨rfl, rfl⟩
    go_wp2_with fail
    go_ret
    exact ⟨rfl, Keeps.refl _⟩
  | false =>
    rw [c1] at LT
    cases c2 : iDig x with
    | true =>
      rw [c2] at DG
      go_enter Tryz.func48, Tryz.ntmps48
      go_wp2_with fail
      refine (LT.out _).mono ?_
      rintro e w1 ⟨rfl, rfl⟩
      go_wp2_with fail
      refine (DG.out _).mono ?_
      rintro e w1 ⟨rfl, rfl⟩
      go_wp2_with fail
      go_ret
      exact ⟨rfl, Keeps.refl _⟩
    | false =>
      rw [c2] at DG
      go_enter Tryz.func48, Tryz.ntmps48
      go_wp2_with fail
      refine (LT.out _).mono ?_
      rintro e w1 ⟨rfl, rfl⟩
      go_wp2_with fail
      refine (DG.out _).mono ?_
      rintro e w1 ⟨rfl, rfl⟩
      have cs := Lib.run_convert_bytes_const w 46 5 lclC 19 19 Tryz.underlying46 Tryz.underlying5
      have HB : Hid (∀ k, k < 19 → (w.alloc (.cells lclC 5 (lclC.size, lclC.size + 1))).cell? ⟨w.heap.size, k, none⟩ = some (.int .u8 ((lclT.getD k 0 : Nat) : Int))) := Lib.hid (fun k hk => by
        rw [World.cell?_alloc_mark]
        exact lcl_cell ⟨k, hk⟩)
      have HK : Hid (Keeps w (w.alloc (.cells lclC 5 (lclC.size, lclC.size + 1)))) := Lib.hid ((Keeps.refl w).alloc _)
      unfold lclC at cs
      rw [show (#[Value.int .u8 46, .int .u8 33, .int .u8 35, .int .u8 36, .int .u8 37, .int .u8 38, .int .u8 39, .int .u8 42, .int .u8 43, .int .u8 47, .int .u8 61, .int .u8 63, .int .u8 94, .int .u8 95, .int .u8 123, .int .u8 124, .int .u8 125, .int .u8 126, .int .u8 45] : Array Value).size = lclC.size from rfl] at cs
      obtain ⟨W2, hW2⟩ : ∃ W2, w.alloc (.cells lclC 5 (lclC.size, lclC.size + 1)) = W2 := ⟨_, rfl⟩
      have hW3 : w.alloc (.cells #[Value.int .u8 46, .int .u8 33, .int .u8 35, .int .u8 36, .int .u8 37, .int .u8 38, .int .u8 39, .int .u8 42, .int .u8 43, .int .u8 47, .int .u8 61, .int .u8 63, .int .u8 94, .int .u8 95, .int .u8 123, .int .u8 124, .int .u8 125, .int .u8 126, .int .u8 45] 5 (lclC.size, lclC.size + 1)) = W2 := hW2
      rw [hW2] at HB HK
      rw [hW3] at cs
      clear hW2 hW3
      go_wp2_with fail
      go_loop [14] (fun v => ∃ k : Nat, k ≤ 19 ∧ v = .int .i64 k ∧ Hid ((lclT.take k).any (fun y => decide (x = (y : Int))) = false)) (fun v => 19 - (RowKit.intOf v).toNat)
      case atStart => exact ⟨0, Nat.zero_le _, rfl, Lib.hid rfl⟩
      case round =>
        obtain ⟨k, hk, rfl, HC⟩ := hrel
        by_cases h : k < 19
        · have hc := HB.out k h
          have hr := lcl_range ⟨k, h⟩
          dsimp only at hr
          obtain ⟨y, hy⟩ : ∃ y, lclT.getD k 0 = y := ⟨_, rfl⟩
          have AH := Lib.hid (@any_hit x k h)
          have AN := Lib.hid (any_next h HC.out)
          rw [hy] at hc hr AH AN
          by_cases c3 : x = (y : Int)
          · have q3 := beqT c3
            have HN : Hid ((lclT.any (fun y => decide (x = (y : Int))) || decide (x = 96)) = true) := Lib.hid (by rw [AH.out c3]; rfl)
            clear AH AN HC hy c3
            go_wp2_with fail
            go_ret
            exact ⟨ret_bool (by rw [HN.out]), HK.out⟩
          · have q3 := beqF c3
            have HN := Lib.hid (AN.out c3)
            clear AH AN HC hy c3
            go_wp2_with fail
            go_round
            case rel => exact ⟨k + 1, h, by go_num, HN⟩
            case measure => simp [RowKit.intOf]; omega
        · have HN : Hid (lclT.any (fun y => decide (x = (y : Int))) = false) := Lib.hid (by
            have := HC.out
            rwa [List.take_of_length_le (show lclT.length ≤ k by show 19 ≤ k; omega)] at this)
          clear HC
          by_cases c4 : x = 96
          · have q4 := beqT c4
            have HM : Hid ((lclT.any (fun y => decide (x = (y : Int))) || decide (x = 96)) = true) := Lib.hid (by rw [HN.out, decide_eq_true c4]; rfl)
            clear HN c4
            go_wp2_with fail
            go_ret
            exact ⟨ret_bool (by rw [HM.out]), HK.out⟩
          · have q4 := beqF c4
            have HM : Hid ((lclT.any (fun y => decide (x = (y : Int))) || decide (x = 96)) = false) := Lib.hid (by rw [HN.out, decide_eq_false c4]; rfl)
            clear HN c4
            go_wp2_with fail
            go_ret
            exact ⟨ret_bool (by rw [HM.out]), HK.out⟩
end Go.Proofs.YtggeknhggpdpkaaGreatDoor

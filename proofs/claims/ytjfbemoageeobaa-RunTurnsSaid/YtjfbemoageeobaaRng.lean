/-
  RunTurns is true of any two numbers and any two Bools.
-/
import Derived.Test.YtjfbemoageeobaaRnd
import Derived.Test.YtjfbemoageeobaaBlk
import Derived.Deep.RegionHeld3
namespace Go.Proofs.Ytjfbemoageeobaa
open Go.RowKit Go.Lib

theorem mod3 (x : Int) (h : 0 ≤ x) : x.tmod 3 = 0 ∨ x.tmod 3 = 1 ∨ x.tmod 3 = 2 := by
  rw [Int.tmod_eq_emod_of_nonneg h]; omega
theorem fits_self (p : Int) (h : p = 0 ∨ p = 1 ∨ p = 2) (a b : Bool) : fitsB p p a b = true := by
  rcases h with rfl | rfl | rfl <;> cases a <;> cases b <;> rfl
theorem fits_none (p q : Int) : fitsB p q false false = true := rfl
theorem fits_12 (a b : Bool) : fitsB 1 2 a b = (!a && !b) := by cases a <;> cases b <;> rfl
theorem turns_keep {w W W' : World} {B : Nat} {x y : Value} (q : Keeps W W') (h : W.cell? ⟨B, 0, none⟩ = some x ∧ W.cell? ⟨B, 1, none⟩ = some y ∧ B < W.heap.size ∧ Keeps w W) :
    W'.cell? ⟨B, 0, none⟩ = some x ∧ W'.cell? ⟨B, 1, none⟩ = some y ∧ B < W'.heap.size ∧ Keeps w W' :=
  ⟨(q.cell h.2.2.1).trans h.1, (q.cell h.2.2.1).trans h.2.1, Nat.lt_of_lt_of_le h.2.2.1 q.size, h.2.2.2.trans q⟩
theorem turns_end {w W : World} {B : Nat} {x y : Value} (h : W.cell? ⟨B, 0, none⟩ = some x ∧ W.cell? ⟨B, 1, none⟩ = some y ∧ B < W.heap.size ∧ Keeps w W) : Keeps w W := h.2.2.2
set_option maxHeartbeats 4000000 in
set_option maxRecDepth 100000 in
theorem rturns_ff (n m : Nat) (a b : Bool) (w : World) (ha : a = false) (hb : b = false) (hn : n < 256) (hm : m < 256) :
    Calls Try.prog 5 #[.int .u8 (n : Nat), .int .u8 (m : Nat), .agg #[.bool a, .bool b]] w fun e w' => e = .returned (.bool true) ∧ Keeps w w' := by
  have AW := Lib.hid (fun W => awake13_any W)
  obtain ⟨x, hx⟩ : ∃ x : Int, x = (n : Int) := ⟨_, rfl⟩
  obtain ⟨y, hy⟩ : ∃ y : Int, y = (m : Int) := ⟨_, rfl⟩
  have F1 := Lib.hid (fun W => fits_any x y _ _ a b rfl rfl (mod3 x (by omega)) (mod3 y (by omega)) W)
  have F2 := Lib.hid (fun W => fits_any y x _ _ b a rfl rfl (mod3 y (by omega)) (mod3 x (by omega)) W)
  have F3 := Lib.hid (fun W => fits_any x y _ _ false false rfl rfl (mod3 x (by omega)) (mod3 y (by omega)) W)
  have F4 := Lib.hid (fun W => fits_any x x _ _ a b rfl rfl (mod3 x (by omega)) (mod3 x (by omega)) W)
  have F5 := Lib.hid (fun W => fits_any (3 * x) (3 * y) 0 0 a b (by rw [Int.tmod_eq_emod_of_nonneg (by omega)]; omega) (by rw [Int.tmod_eq_emod_of_nonneg (by omega)]; omega) (by omega) (by omega) W)
  have F6 := Lib.hid (fun W => fits_any (3 * x + 1) (3 * y + 1) 1 1 a b (by rw [Int.tmod_eq_emod_of_nonneg (by omega)]; omega) (by rw [Int.tmod_eq_emod_of_nonneg (by omega)]; omega) (by omega) (by omega) W)
  have F7 := Lib.hid (fun W => fits_any (3 * x + 1) (3 * y + 2) 1 2 a b (by rw [Int.tmod_eq_emod_of_nonneg (by omega)]; omega) (by rw [Int.tmod_eq_emod_of_nonneg (by omega)]; omega) (by omega) (by omega) W)
  rw [fits_comm] at F2
  rw [fits_none] at F3
  rw [fits_self _ (mod3 x (by omega))] at F4
  rw [fits_self _ (by omega)] at F5 F6
  rw [fits_12] at F7
  generalize fitsB (x.tmod 3) (y.tmod 3) a b = z at *
  have hx0 : 0 ≤ x ∧ x < 256 := by omega
  have hy0 : 0 ≤ y ∧ y < 256 := by omega
  rw [← hx, ← hy]
  clear hx hy hn hm
  obtain ⟨x0, x1⟩ := hx0
  obtain ⟨y0, y1⟩ := hy0
  have g1 : IntKind.i64.wrap (3 * x) = 3 * x := IntWalk.i64_in _ (by omega)
  have g2 : IntKind.i64.wrap (3 * y) = 3 * y := IntWalk.i64_in _ (by omega)
  have g3 : IntKind.i64.wrap (3 * x + 1) = 3 * x + 1 := IntWalk.i64_in _ (by omega)
  have g4 : IntKind.i64.wrap (3 * y + 1) = 3 * y + 1 := IntWalk.i64_in _ (by omega)
  have g5 : IntKind.i64.wrap (3 * y + 2) = 3 * y + 2 := IntWalk.i64_in _ (by omega)
  have g6 : IntKind.i64.wrap x = x := IntWalk.i64_in _ (by omega)
  have g7 : IntKind.i64.wrap y = y := IntWalk.i64_in _ (by omega)
  have C0 := Lib.hid (Blk.new w 29 #[.bool a, .bool b])
  have S3 := Lib.hid (p := (w.alloc (.cells #[.bool a, .bool b] 29)).cell? ⟨w.heap.size, 0, none⟩ = some (.bool a) ∧ (w.alloc (.cells #[.bool a, .bool b] 29)).cell? ⟨w.heap.size, 1, none⟩ = some (.bool b) ∧ w.heap.size < (w.alloc (.cells #[.bool a, .bool b] 29)).heap.size ∧ Keeps w (w.alloc (.cells #[.bool a, .bool b] 29))) ⟨C0.out.cell 0 rfl, C0.out.cell 1 rfl, C0.out.lt, (Keeps.refl w).alloc _⟩
  subst ha hb
  clear C0
  clear x1 y1 x0 y0
  rw [show (!false && !false) = true from rfl] at F7
  go_enter Try.func5, Try.ntmps5
  go_wp2_with fail
  simp only [List.append] at *
  generalize w.alloc (.cells #[.bool false, .bool false] 29) = wb at *
  go_region_held3 (fun w' => w'.cell? ⟨w.heap.size, 0, none⟩ = some (.bool false) ∧ w'.cell? ⟨w.heap.size, 1, none⟩ = some (.bool false) ∧ w.heap.size < w'.heap.size ∧ Keeps w w')
    (first | assumption | (exact turns_keep ((Keeps.refl _).drewN 1) S3.out))
    (fail)
  have K0 := Lib.hid (turns_end S3.out)
  go_wp2_with fail
  refine (AW.out _).mono ?_
  rintro e w1 ⟨rfl, k1⟩
  have K1 := Lib.hid (K0.out.drew.trans k1)
  clear k1 S3
  go_wp2_with fail
  refine (F1.out _).mono ?_
  rintro e w2 ⟨rfl, rfl⟩
  go_wp2_with fail
  refine (F2.out _).mono ?_
  rintro e w2 ⟨rfl, rfl⟩
  go_wp2_with fail
  refine (F3.out _).mono ?_
  rintro e w2 ⟨rfl, rfl⟩
  go_wp2_with fail
  refine (F4.out _).mono ?_
  rintro e w2 ⟨rfl, rfl⟩
  go_wp2_with fail
  refine (F5.out _).mono ?_
  rintro e w2 ⟨rfl, rfl⟩
  go_wp2_with fail
  go_ret
  exact ⟨rfl, K1.out⟩
set_option maxHeartbeats 4000000 in
set_option maxRecDepth 100000 in
theorem rturns_ft (n m : Nat) (a b : Bool) (w : World) (ha : a = false) (hb : b = true) (hn : n < 256) (hm : m < 256) :
    Calls Try.prog 5 #[.int .u8 (n : Nat), .int .u8 (m : Nat), .agg #[.bool a, .bool b]] w fun e w' => e = .returned (.bool true) ∧ Keeps w w' := by
  have AW := Lib.hid (fun W => awake13_any W)
  obtain ⟨x, hx⟩ : ∃ x : Int, x = (n : Int) := ⟨_, rfl⟩
  obtain ⟨y, hy⟩ : ∃ y : Int, y = (m : Int) := ⟨_, rfl⟩
  have F1 := Lib.hid (fun W => fits_any x y _ _ a b rfl rfl (mod3 x (by omega)) (mod3 y (by omega)) W)
  have F2 := Lib.hid (fun W => fits_any y x _ _ b a rfl rfl (mod3 y (by omega)) (mod3 x (by omega)) W)
  have F3 := Lib.hid (fun W => fits_any x y _ _ false false rfl rfl (mod3 x (by omega)) (mod3 y (by omega)) W)
  have F4 := Lib.hid (fun W => fits_any x x _ _ a b rfl rfl (mod3 x (by omega)) (mod3 x (by omega)) W)
  have F5 := Lib.hid (fun W => fits_any (3 * x) (3 * y) 0 0 a b (by rw [Int.tmod_eq_emod_of_nonneg (by omega)]; omega) (by rw [Int.tmod_eq_emod_of_nonneg (by omega)]; omega) (by omega) (by omega) W)
  have F6 := Lib.hid (fun W => fits_any (3 * x + 1) (3 * y + 1) 1 1 a b (by rw [Int.tmod_eq_emod_of_nonneg (by omega)]; omega) (by rw [Int.tmod_eq_emod_of_nonneg (by omega)]; omega) (by omega) (by omega) W)
  have F7 := Lib.hid (fun W => fits_any (3 * x + 1) (3 * y + 2) 1 2 a b (by rw [Int.tmod_eq_emod_of_nonneg (by omega)]; omega) (by rw [Int.tmod_eq_emod_of_nonneg (by omega)]; omega) (by omega) (by omega) W)
  rw [fits_comm] at F2
  rw [fits_none] at F3
  rw [fits_self _ (mod3 x (by omega))] at F4
  rw [fits_self _ (by omega)] at F5 F6
  rw [fits_12] at F7
  generalize fitsB (x.tmod 3) (y.tmod 3) a b = z at *
  have hx0 : 0 ≤ x ∧ x < 256 := by omega
  have hy0 : 0 ≤ y ∧ y < 256 := by omega
  rw [← hx, ← hy]
  clear hx hy hn hm
  obtain ⟨x0, x1⟩ := hx0
  obtain ⟨y0, y1⟩ := hy0
  have g1 : IntKind.i64.wrap (3 * x) = 3 * x := IntWalk.i64_in _ (by omega)
  have g2 : IntKind.i64.wrap (3 * y) = 3 * y := IntWalk.i64_in _ (by omega)
  have g3 : IntKind.i64.wrap (3 * x + 1) = 3 * x + 1 := IntWalk.i64_in _ (by omega)
  have g4 : IntKind.i64.wrap (3 * y + 1) = 3 * y + 1 := IntWalk.i64_in _ (by omega)
  have g5 : IntKind.i64.wrap (3 * y + 2) = 3 * y + 2 := IntWalk.i64_in _ (by omega)
  have g6 : IntKind.i64.wrap x = x := IntWalk.i64_in _ (by omega)
  have g7 : IntKind.i64.wrap y = y := IntWalk.i64_in _ (by omega)
  have C0 := Lib.hid (Blk.new w 29 #[.bool a, .bool b])
  have S3 := Lib.hid (p := (w.alloc (.cells #[.bool a, .bool b] 29)).cell? ⟨w.heap.size, 0, none⟩ = some (.bool a) ∧ (w.alloc (.cells #[.bool a, .bool b] 29)).cell? ⟨w.heap.size, 1, none⟩ = some (.bool b) ∧ w.heap.size < (w.alloc (.cells #[.bool a, .bool b] 29)).heap.size ∧ Keeps w (w.alloc (.cells #[.bool a, .bool b] 29))) ⟨C0.out.cell 0 rfl, C0.out.cell 1 rfl, C0.out.lt, (Keeps.refl w).alloc _⟩
  subst ha hb
  clear C0
  clear x1 y1 x0 y0
  rw [show (!false && !true) = false from rfl] at F7
  go_enter Try.func5, Try.ntmps5
  go_wp2_with fail
  simp only [List.append] at *
  generalize w.alloc (.cells #[.bool false, .bool true] 29) = wb at *
  go_region_held3 (fun w' => w'.cell? ⟨w.heap.size, 0, none⟩ = some (.bool false) ∧ w'.cell? ⟨w.heap.size, 1, none⟩ = some (.bool true) ∧ w.heap.size < w'.heap.size ∧ Keeps w w')
    (first | assumption | (exact turns_keep ((Keeps.refl _).drewN 1) S3.out))
    (fail)
  have K0 := Lib.hid (turns_end S3.out)
  go_wp2_with fail
  refine (AW.out _).mono ?_
  rintro e w1 ⟨rfl, k1⟩
  have K1 := Lib.hid (K0.out.drew.trans k1)
  clear k1 S3
  go_wp2_with fail
  refine (F1.out _).mono ?_
  rintro e w2 ⟨rfl, rfl⟩
  go_wp2_with fail
  refine (F2.out _).mono ?_
  rintro e w2 ⟨rfl, rfl⟩
  go_wp2_with fail
  refine (F3.out _).mono ?_
  rintro e w2 ⟨rfl, rfl⟩
  go_wp2_with fail
  refine (F4.out _).mono ?_
  rintro e w2 ⟨rfl, rfl⟩
  go_wp2_with fail
  refine (F5.out _).mono ?_
  rintro e w2 ⟨rfl, rfl⟩
  go_wp2_with fail
  refine (F6.out _).mono ?_
  rintro e w2 ⟨rfl, rfl⟩
  go_wp2_with fail
  refine (F7.out _).mono ?_
  rintro e w2 ⟨rfl, rfl⟩
  go_wp2_with fail
  go_ret
  exact ⟨rfl, K1.out⟩
set_option maxHeartbeats 4000000 in
set_option maxRecDepth 100000 in
theorem rturns_tf (n m : Nat) (a b : Bool) (w : World) (ha : a = true) (hb : b = false) (hn : n < 256) (hm : m < 256) :
    Calls Try.prog 5 #[.int .u8 (n : Nat), .int .u8 (m : Nat), .agg #[.bool a, .bool b]] w fun e w' => e = .returned (.bool true) ∧ Keeps w w' := by
  have AW := Lib.hid (fun W => awake13_any W)
  obtain ⟨x, hx⟩ : ∃ x : Int, x = (n : Int) := ⟨_, rfl⟩
  obtain ⟨y, hy⟩ : ∃ y : Int, y = (m : Int) := ⟨_, rfl⟩
  have F1 := Lib.hid (fun W => fits_any x y _ _ a b rfl rfl (mod3 x (by omega)) (mod3 y (by omega)) W)
  have F2 := Lib.hid (fun W => fits_any y x _ _ b a rfl rfl (mod3 y (by omega)) (mod3 x (by omega)) W)
  have F3 := Lib.hid (fun W => fits_any x y _ _ false false rfl rfl (mod3 x (by omega)) (mod3 y (by omega)) W)
  have F4 := Lib.hid (fun W => fits_any x x _ _ a b rfl rfl (mod3 x (by omega)) (mod3 x (by omega)) W)
  have F5 := Lib.hid (fun W => fits_any (3 * x) (3 * y) 0 0 a b (by rw [Int.tmod_eq_emod_of_nonneg (by omega)]; omega) (by rw [Int.tmod_eq_emod_of_nonneg (by omega)]; omega) (by omega) (by omega) W)
  have F6 := Lib.hid (fun W => fits_any (3 * x + 1) (3 * y + 1) 1 1 a b (by rw [Int.tmod_eq_emod_of_nonneg (by omega)]; omega) (by rw [Int.tmod_eq_emod_of_nonneg (by omega)]; omega) (by omega) (by omega) W)
  have F7 := Lib.hid (fun W => fits_any (3 * x + 1) (3 * y + 2) 1 2 a b (by rw [Int.tmod_eq_emod_of_nonneg (by omega)]; omega) (by rw [Int.tmod_eq_emod_of_nonneg (by omega)]; omega) (by omega) (by omega) W)
  rw [fits_comm] at F2
  rw [fits_none] at F3
  rw [fits_self _ (mod3 x (by omega))] at F4
  rw [fits_self _ (by omega)] at F5 F6
  rw [fits_12] at F7
  generalize fitsB (x.tmod 3) (y.tmod 3) a b = z at *
  have hx0 : 0 ≤ x ∧ x < 256 := by omega
  have hy0 : 0 ≤ y ∧ y < 256 := by omega
  rw [← hx, ← hy]
  clear hx hy hn hm
  obtain ⟨x0, x1⟩ := hx0
  obtain ⟨y0, y1⟩ := hy0
  have g1 : IntKind.i64.wrap (3 * x) = 3 * x := IntWalk.i64_in _ (by omega)
  have g2 : IntKind.i64.wrap (3 * y) = 3 * y := IntWalk.i64_in _ (by omega)
  have g3 : IntKind.i64.wrap (3 * x + 1) = 3 * x + 1 := IntWalk.i64_in _ (by omega)
  have g4 : IntKind.i64.wrap (3 * y + 1) = 3 * y + 1 := IntWalk.i64_in _ (by omega)
  have g5 : IntKind.i64.wrap (3 * y + 2) = 3 * y + 2 := IntWalk.i64_in _ (by omega)
  have g6 : IntKind.i64.wrap x = x := IntWalk.i64_in _ (by omega)
  have g7 : IntKind.i64.wrap y = y := IntWalk.i64_in _ (by omega)
  have C0 := Lib.hid (Blk.new w 29 #[.bool a, .bool b])
  have S3 := Lib.hid (p := (w.alloc (.cells #[.bool a, .bool b] 29)).cell? ⟨w.heap.size, 0, none⟩ = some (.bool a) ∧ (w.alloc (.cells #[.bool a, .bool b] 29)).cell? ⟨w.heap.size, 1, none⟩ = some (.bool b) ∧ w.heap.size < (w.alloc (.cells #[.bool a, .bool b] 29)).heap.size ∧ Keeps w (w.alloc (.cells #[.bool a, .bool b] 29))) ⟨C0.out.cell 0 rfl, C0.out.cell 1 rfl, C0.out.lt, (Keeps.refl w).alloc _⟩
  subst ha hb
  clear C0
  clear x1 y1 x0 y0
  rw [show (!true && !false) = false from rfl] at F7
  go_enter Try.func5, Try.ntmps5
  go_wp2_with fail
  simp only [List.append] at *
  generalize w.alloc (.cells #[.bool true, .bool false] 29) = wb at *
  go_region_held3 (fun w' => w'.cell? ⟨w.heap.size, 0, none⟩ = some (.bool true) ∧ w'.cell? ⟨w.heap.size, 1, none⟩ = some (.bool false) ∧ w.heap.size < w'.heap.size ∧ Keeps w w')
    (first | assumption | (exact turns_keep ((Keeps.refl _).drewN 1) S3.out))
    (fail)
  have K0 := Lib.hid (turns_end S3.out)
  go_wp2_with fail
  refine (AW.out _).mono ?_
  rintro e w1 ⟨rfl, k1⟩
  have K1 := Lib.hid (K0.out.drew.trans k1)
  clear k1 S3
  go_wp2_with fail
  refine (F1.out _).mono ?_
  rintro e w2 ⟨rfl, rfl⟩
  go_wp2_with fail
  refine (F2.out _).mono ?_
  rintro e w2 ⟨rfl, rfl⟩
  go_wp2_with fail
  refine (F3.out _).mono ?_
  rintro e w2 ⟨rfl, rfl⟩
  go_wp2_with fail
  refine (F4.out _).mono ?_
  rintro e w2 ⟨rfl, rfl⟩
  go_wp2_with fail
  refine (F5.out _).mono ?_
  rintro e w2 ⟨rfl, rfl⟩
  go_wp2_with fail
  refine (F6.out _).mono ?_
  rintro e w2 ⟨rfl, rfl⟩
  go_wp2_with fail
  refine (F7.out _).mono ?_
  rintro e w2 ⟨rfl, rfl⟩
  go_wp2_with fail
  go_ret
  exact ⟨rfl, K1.out⟩
set_option maxHeartbeats 4000000 in
set_option maxRecDepth 100000 in
theorem rturns_tt (n m : Nat) (a b : Bool) (w : World) (ha : a = true) (hb : b = true) (hn : n < 256) (hm : m < 256) :
    Calls Try.prog 5 #[.int .u8 (n : Nat), .int .u8 (m : Nat), .agg #[.bool a, .bool b]] w fun e w' => e = .returned (.bool true) ∧ Keeps w w' := by
  have AW := Lib.hid (fun W => awake13_any W)
  obtain ⟨x, hx⟩ : ∃ x : Int, x = (n : Int) := ⟨_, rfl⟩
  obtain ⟨y, hy⟩ : ∃ y : Int, y = (m : Int) := ⟨_, rfl⟩
  have F1 := Lib.hid (fun W => fits_any x y _ _ a b rfl rfl (mod3 x (by omega)) (mod3 y (by omega)) W)
  have F2 := Lib.hid (fun W => fits_any y x _ _ b a rfl rfl (mod3 y (by omega)) (mod3 x (by omega)) W)
  have F3 := Lib.hid (fun W => fits_any x y _ _ false false rfl rfl (mod3 x (by omega)) (mod3 y (by omega)) W)
  have F4 := Lib.hid (fun W => fits_any x x _ _ a b rfl rfl (mod3 x (by omega)) (mod3 x (by omega)) W)
  have F5 := Lib.hid (fun W => fits_any (3 * x) (3 * y) 0 0 a b (by rw [Int.tmod_eq_emod_of_nonneg (by omega)]; omega) (by rw [Int.tmod_eq_emod_of_nonneg (by omega)]; omega) (by omega) (by omega) W)
  have F6 := Lib.hid (fun W => fits_any (3 * x + 1) (3 * y + 1) 1 1 a b (by rw [Int.tmod_eq_emod_of_nonneg (by omega)]; omega) (by rw [Int.tmod_eq_emod_of_nonneg (by omega)]; omega) (by omega) (by omega) W)
  have F7 := Lib.hid (fun W => fits_any (3 * x + 1) (3 * y + 2) 1 2 a b (by rw [Int.tmod_eq_emod_of_nonneg (by omega)]; omega) (by rw [Int.tmod_eq_emod_of_nonneg (by omega)]; omega) (by omega) (by omega) W)
  rw [fits_comm] at F2
  rw [fits_none] at F3
  rw [fits_self _ (mod3 x (by omega))] at F4
  rw [fits_self _ (by omega)] at F5 F6
  rw [fits_12] at F7
  generalize fitsB (x.tmod 3) (y.tmod 3) a b = z at *
  have hx0 : 0 ≤ x ∧ x < 256 := by omega
  have hy0 : 0 ≤ y ∧ y < 256 := by omega
  rw [← hx, ← hy]
  clear hx hy hn hm
  obtain ⟨x0, x1⟩ := hx0
  obtain ⟨y0, y1⟩ := hy0
  have g1 : IntKind.i64.wrap (3 * x) = 3 * x := IntWalk.i64_in _ (by omega)
  have g2 : IntKind.i64.wrap (3 * y) = 3 * y := IntWalk.i64_in _ (by omega)
  have g3 : IntKind.i64.wrap (3 * x + 1) = 3 * x + 1 := IntWalk.i64_in _ (by omega)
  have g4 : IntKind.i64.wrap (3 * y + 1) = 3 * y + 1 := IntWalk.i64_in _ (by omega)
  have g5 : IntKind.i64.wrap (3 * y + 2) = 3 * y + 2 := IntWalk.i64_in _ (by omega)
  have g6 : IntKind.i64.wrap x = x := IntWalk.i64_in _ (by omega)
  have g7 : IntKind.i64.wrap y = y := IntWalk.i64_in _ (by omega)
  have C0 := Lib.hid (Blk.new w 29 #[.bool a, .bool b])
  have S3 := Lib.hid (p := (w.alloc (.cells #[.bool a, .bool b] 29)).cell? ⟨w.heap.size, 0, none⟩ = some (.bool a) ∧ (w.alloc (.cells #[.bool a, .bool b] 29)).cell? ⟨w.heap.size, 1, none⟩ = some (.bool b) ∧ w.heap.size < (w.alloc (.cells #[.bool a, .bool b] 29)).heap.size ∧ Keeps w (w.alloc (.cells #[.bool a, .bool b] 29))) ⟨C0.out.cell 0 rfl, C0.out.cell 1 rfl, C0.out.lt, (Keeps.refl w).alloc _⟩
  subst ha hb
  clear C0
  clear x1 y1 x0 y0
  rw [show (!true && !true) = false from rfl] at F7
  go_enter Try.func5, Try.ntmps5
  go_wp2_with fail
  simp only [List.append] at *
  generalize w.alloc (.cells #[.bool true, .bool true] 29) = wb at *
  go_region_held3 (fun w' => w'.cell? ⟨w.heap.size, 0, none⟩ = some (.bool true) ∧ w'.cell? ⟨w.heap.size, 1, none⟩ = some (.bool true) ∧ w.heap.size < w'.heap.size ∧ Keeps w w')
    (first | assumption | (exact turns_keep ((Keeps.refl _).drewN 1) S3.out))
    (fail)
  have K0 := Lib.hid (turns_end S3.out)
  go_wp2_with fail
  refine (AW.out _).mono ?_
  rintro e w1 ⟨rfl, k1⟩
  have K1 := Lib.hid (K0.out.drew.trans k1)
  clear k1 S3
  go_wp2_with fail
  refine (F1.out _).mono ?_
  rintro e w2 ⟨rfl, rfl⟩
  go_wp2_with fail
  refine (F2.out _).mono ?_
  rintro e w2 ⟨rfl, rfl⟩
  go_wp2_with fail
  refine (F3.out _).mono ?_
  rintro e w2 ⟨rfl, rfl⟩
  go_wp2_with fail
  refine (F4.out _).mono ?_
  rintro e w2 ⟨rfl, rfl⟩
  go_wp2_with fail
  refine (F5.out _).mono ?_
  rintro e w2 ⟨rfl, rfl⟩
  go_wp2_with fail
  refine (F6.out _).mono ?_
  rintro e w2 ⟨rfl, rfl⟩
  go_wp2_with fail
  refine (F7.out _).mono ?_
  rintro e w2 ⟨rfl, rfl⟩
  go_wp2_with fail
  go_ret
  exact ⟨rfl, K1.out⟩
theorem rturns_any (n m : Nat) (a b : Bool) (w : World) (hn : n < 256) (hm : m < 256) :
    Calls Try.prog 5 #[.int .u8 (n : Nat), .int .u8 (m : Nat), .agg #[.bool a, .bool b]] w fun e w' => e = .returned (.bool true) ∧ Keeps w w' := by
  cases a <;> cases b
  · exact rturns_ff n m _ _ w rfl rfl hn hm
  · exact rturns_ft n m _ _ w rfl rfl hn hm
  · exact rturns_tf n m _ _ w rfl rfl hn hm
  · exact rturns_tt n m _ _ w rfl rfl hn hm
end Go.Proofs.Ytjfbemoageeobaa

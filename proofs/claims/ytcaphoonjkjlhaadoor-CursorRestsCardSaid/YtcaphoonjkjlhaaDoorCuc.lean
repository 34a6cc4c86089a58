/-
  Contracts of Indent, Next, Blank, Rest, Move.
-/
import Derived.Test.YtcaphoonjkjlhaaDoorCub
import Derived.Test.YtcaphoonjkjlhaaDoorShelf
import Derived.Shelf.Strings.SlTrimAscii
import Derived.Deep.RegionHeld3
namespace Go.Proofs.YtcaphoonjkjlhaaDoor
open Go.RowKit Go.Lib

theorem cur_col (v0 v1 v2 v3 : Value) (W : World) : (Instr.field 24 (.agg #[v0, v1, v2, v3]) 2).run Tryd.prog W = .ok v2 W := by
  kernel_rfl
theorem cur_line (v0 v1 v2 v3 : Value) (W : World) : (Instr.field 24 (.agg #[v0, v1, v2, v3]) 0).run Tryd.prog W = .ok v0 W := by
  kernel_rfl
set_option maxHeartbeats 800000 in
theorem indent_any (s : ByteArray) (k c f : Nat) (h : Plc s k c f) (hs : s.size ≤ 100000) (w : World) :
    Calls Tryd.prog 9 #[.agg #[.string s, .int .i64 k, .int .i64 c, .int .i64 f]] w fun e w' => e = .returned (.int .i64 (indL c f (s.data.toList.drop k))) ∧ Keeps w w' := by
  have SK := Lib.hid (fun W => skip_any s k c f 9223372036854775807 (by omega) h hs W)
  have HI : Hid ((skipL (9223372036854775807 : Int).toNat c f (s.data.toList.drop k)).2.1 = c + indL c f (s.data.toList.drop k)) := Lib.hid (by
    have := ind_le c f (s.data.toList.drop k) h.2.2.1
    rw [List.length_drop, bytes_len] at this
    rw [skip_col, Nat.min_eq_right (by omega)])
  have hi := (show indL c f (s.data.toList.drop k) ≤ 400000 by
    have := ind_le c f (s.data.toList.drop k) h.2.2.1
    rw [List.length_drop, bytes_len] at this
    omega)
  have hc := h.2.1
  rw [HI.out] at SK
  clear h HI
  generalize indL c f (s.data.toList.drop k) = z at *
  generalize k + (skipL (9223372036854775807 : Int).toNat c f (s.data.toList.drop k)).1 = z1 at *
  generalize (skipL (9223372036854775807 : Int).toNat c f (s.data.toList.drop k)).2.2 = z2 at *
  have FD := fun (a b d : Value) W => cur_col (.string s) a b d W
  have hw : IntKind.i64.wrap ((c : Int) + z - c) = z := by rw [IntWalk.i64_in _ ⟨by omega, by omega⟩]; omega
  go_enter Tryd.func9, Tryd.ntmps9
  go_wp2_with fail
  go_region_held3 (fun w' => w'.cell? ⟨w.heap.size, 0, none⟩ = some (.string s) ∧ w'.cell? ⟨w.heap.size, 1, none⟩ = some (.int .i64 k) ∧ w'.cell? ⟨w.heap.size, 2, none⟩ = some (.int .i64 c) ∧ w'.cell? ⟨w.heap.size, 3, none⟩ = some (.int .i64 f))
    (first | go_keep | (refine ⟨?_, ?_, ?_, ?_⟩ <;> (rw [k1.cell (by simp)]; simp)))
    (first | (go_at_call 8; refine (SK.out _).mono ?_; rintro e w1 ⟨rfl, k1⟩))
  clear hw
  go_wp2_with fail
  go_ret
  exact ⟨rfl, (((Keeps.refl w).alloc _).drew).trans k1⟩

theorem drop_bytes (s : ByteArray) (k : Nat) : (s.extract k s.size).data.toList = s.data.toList.drop k := by rw [ext_drop]
theorem trim_any (s : ByteArray) (w : World) :
    Calls Tryd.prog 17 #[.string s, .string ⟨#[32, 9]⟩] w fun e w' => e = .returned (.string ⟨(nextL s.data.toList).toArray⟩) ∧ Keeps w w' :=
  Any.strings_TrimLeft_laid Tryd.lays161 (by kernel_rfl) s ⟨#[32, 9]⟩ w (by decide) (fun j b h => by
    match j, h with
    | 0, h => cases h; decide
    | 1, h => cases h; decide)
set_option maxHeartbeats 400000 in
theorem next_any (s : ByteArray) (k c f : Nat) (h : Plc s k c f) (w : World) :
    Calls Tryd.prog 11 #[.agg #[.string s, .int .i64 k, .int .i64 c, .int .i64 f]] w fun e w' => e = .returned (.string ⟨(nextL (s.data.toList.drop k)).toArray⟩) ∧ Keeps w w' := by
  have RT := Lib.hid (fun W => right_any s k c f h W)
  have TR := Lib.hid (fun W => trim_any (s.extract k s.size) W)
  rw [drop_bytes] at TR
  have hk := h.1
  clear h
  generalize nextL (s.data.toList.drop k) = z at *
  go_enter Tryd.func11, Tryd.ntmps11
  go_wp2_with fail
  refine (RT.out _).mono ?_
  rintro e w1 ⟨rfl, k1⟩
  have B1 := Lib.hid ((Blk.new w _ _).keep k1)
  have K1 := Lib.hid (((Keeps.refl w).alloc _).trans k1)
  have x0 : w1.cell? ⟨w.heap.size, 0, none⟩ = some (.string s) := B1.out.cell 0 rfl
  have x1 : w1.cell? ⟨w.heap.size, 1, none⟩ = some (.int .i64 k) := B1.out.cell 1 rfl
  clear k1
  go_wp2_with fail
  refine (TR.out _).mono ?_
  rintro e w2 ⟨rfl, k2⟩
  have K2 := Lib.hid (K1.out.trans k2)
  clear k2
  go_wp2_with fail
  go_ret
  exact ⟨rfl, K2.out⟩
set_option maxHeartbeats 400000 in
theorem blank_any (s : ByteArray) (k c f : Nat) (h : Plc s k c f) (w : World) :
    Calls Tryd.prog 13 #[.agg #[.string s, .int .i64 k, .int .i64 c, .int .i64 f]] w fun e w' => e = .returned (.bool (nextL (s.data.toList.drop k)).isEmpty) ∧ Keeps w w' := by
  have NX := Lib.hid (fun W => next_any s k c f h W)
  generalize nextL (s.data.toList.drop k) = z at *
  clear h
  by_cases hz : z = []
  · subst hz
    go_enter Tryd.func13, Tryd.ntmps13
    go_wp2_with fail
    refine (NX.out _).mono ?_
    rintro e w1 ⟨rfl, k1⟩
    go_wp2_with fail
    go_ret
    exact ⟨rfl, ((Keeps.refl w).alloc _).trans k1⟩
  · have hi : z.isEmpty = false := by cases z with
      | nil => exact absurd rfl hz
      | cons a l => rfl
    have hp : 0 < (⟨z.toArray⟩ : ByteArray).size := by
      have := List.length_pos_iff.2 hz
      show 0 < z.toArray.size
      simpa using this
    rw [hi]
    clear hz hi
    generalize (⟨z.toArray⟩ : ByteArray) = Z at *
    have h1 := tl_empty hp
    have h2 := tl_ne hp
    go_enter Tryd.func13, Tryd.ntmps13
    go_wp2_with fail
    refine (NX.out _).mono ?_
    rintro e w1 ⟨rfl, k1⟩
    go_wp2_with fail
    go_ret
    exact ⟨rfl, ((Keeps.refl w).alloc _).trans k1⟩
theorem rep_blank : ∀ n, Lib.repeatL [32] n = List.replicate n 32
  | 0 => rfl
  | n + 1 => by rw [Lib.repeatL, rep_blank n]; rfl
theorem repeat_any (n : Nat) (h : n ≤ 1000) (w : World) :
    Calls Tryd.prog 18 #[.string ⟨#[32]⟩, .int .i64 n] w fun e w' => e = .returned (.string ⟨(List.replicate n 32).toArray⟩) ∧ Keeps w w' := by
  have := Tryd.strings_Repeat ⟨#[32]⟩ n w (by omega) (by show 1 * n ≤ _; omega)
  rw [show (⟨#[32]⟩ : ByteArray).data.toList = [32] from rfl, rep_blank] at this
  exact this
set_option maxHeartbeats 800000 in
theorem rest_any (s : ByteArray) (k c f : Nat) (h : Plc s k c f) (hs : s.size ≤ 100000) (w : World) :
    Calls Tryd.prog 12 #[.agg #[.string s, .int .i64 k, .int .i64 c, .int .i64 f]] w fun e w' => e = .returned (.string ⟨(restL f (s.data.toList.drop k)).toArray⟩) ∧ Keeps w w' := by
  have RT := Lib.hid (fun W => right_any s k c f h W)
  have hk := h.1
  have hf4 := h.2.2.1
  by_cases hf : f = 0
  · have HR : Hid ((⟨(restL f (s.data.toList.drop k)).toArray⟩ : ByteArray) = s.extract k s.size) := Lib.hid (by subst hf; rw [ext_drop]; rfl)
    rw [HR.out]
    subst hf
    clear h HR
    go_enter Tryd.func12, Tryd.ntmps12
    go_wp2_with fail
    refine (RT.out _).mono ?_
    rintro e w1 ⟨rfl, k1⟩
    have B1 := Lib.hid ((Blk.new w _ _).keep k1)
    have K1 := Lib.hid (((Keeps.refl w).alloc _).trans k1)
    have x0 : w1.cell? ⟨w.heap.size, 0, none⟩ = some (.string s) := B1.out.cell 0 rfl
    have x1 : w1.cell? ⟨w.heap.size, 1, none⟩ = some (.int .i64 k) := B1.out.cell 1 rfl
    have x3 : w1.cell? ⟨w.heap.size, 3, none⟩ = some (.int .i64 0) := B1.out.cell 3 rfl
    clear k1
    go_wp2_with fail
    go_ret
    exact ⟨rfl, K1.out⟩
  · have hk1 : k < s.size := (tab_of h.2.2 hf).1
    have HR : Hid ((⟨(restL f (s.data.toList.drop k)).toArray⟩ : ByteArray) = ⟨(List.replicate f 32).toArray⟩ ++ s.extract (k + 1) s.size) := Lib.hid (bytes_eq (by
      unfold restL
      rw [if_pos hf, bytes_app, drop_bytes, List.tail_drop]))
    rw [HR.out]
    have RP := Lib.hid (fun W => repeat_any f (by omega) W)
    have hf1 : 0 < f := by omega
    clear h hf HR
    have hz : (⟨(List.replicate f 32).toArray⟩ : ByteArray).size = f := by show (List.replicate f (32 : UInt8)).toArray.size = f; simp
    generalize (⟨(List.replicate f 32).toArray⟩ : ByteArray) = Z at *
    have hz1 : Z.size + (s.size - (k + 1)) ≤ 9223372036854775807 := by omega
    have hz2 : Z.size + (s.extract (k + 1) s.size).size ≤ 9223372036854775807 := by rw [ByteArray.size_extract]; omega
    have hz3 := fun W => run_string_add_sum (P := Tryd.prog) W Z (s.extract (k + 1) s.size) hz2
    have hz4 : ¬ (9223372036854775807 < Z.size + (s.size - (k + 1))) := by omega
    clear hz
    have q1 : (0 : Int) ≤ (k : Int) + 1 := by omega
    have q2 : (k : Int) + 1 ≤ (s.size : Int) := by omega
    have q3 : ((k : Int) + 1).toNat = k + 1 := by omega
    have q4 : IntKind.i64.wrap ((k : Int) + 1) = (k : Int) + 1 := IntWalk.i64_in _ ⟨by omega, by omega⟩
    go_enter Tryd.func12, Tryd.ntmps12
    go_wp2_with fail
    refine (RT.out _).mono ?_
    rintro e w1 ⟨rfl, k1⟩
    have B1 := Lib.hid ((Blk.new w _ _).keep k1)
    have K1 := Lib.hid (((Keeps.refl w).alloc _).trans k1)
    have x0 : w1.cell? ⟨w.heap.size, 0, none⟩ = some (.string s) := B1.out.cell 0 rfl
    have x1 : w1.cell? ⟨w.heap.size, 1, none⟩ = some (.int .i64 k) := B1.out.cell 1 rfl
    have x3 : w1.cell? ⟨w.heap.size, 3, none⟩ = some (.int .i64 f) := B1.out.cell 3 rfl
    have hb := B1.out.lt
    clear k1
    go_wp2_with fail
    go_region_held3 (fun w' => w'.cell? ⟨w.heap.size, 0, none⟩ = some (.string s) ∧ w'.cell? ⟨w.heap.size, 1, none⟩ = some (.int .i64 k) ∧ w'.cell? ⟨w.heap.size, 3, none⟩ = some (.int .i64 f))
      (first | go_keep | (refine ⟨?_, ?_, ?_⟩ <;> (rw [k2.cell hb]; assumption)))
      (first | (go_at_call 18; refine (RP.out _).mono ?_; rintro e w2 ⟨rfl, k2⟩))
    go_wp2_with fail
    go_ret
    exact ⟨rfl, K1.out.drew.trans k2⟩
end Go.Proofs.YtcaphoonjkjlhaaDoor

/-
  Texts of the proof, one behind the other: Cuc, Cud.
-/
import Derived.Test.YtfgpephpkibbaaaGreatDoorQ15
import Derived.Test.YtfgpephpkibbaaaGreatDoorQ1
import Derived.Shelf.Strings.SlTrimAscii
import Derived.Deep.RegionHeld3
/-
  Contracts of Indent, Next, Blank, Rest, Move.
-/
namespace Go.Proofs.YtfgpephpkibbaaaGreatDoor
open Go.RowKit Go.Lib

theorem cur_col (v0 v1 v2 v3 : Value) (W : World) : (Instr.field 49 (.agg #[v0, v1, v2, v3]) 2).run Tryz.prog W = .ok v2 W := by
  kernel_rfl
theorem cur_line (v0 v1 v2 v3 : Value) (W : World) : (Instr.field 49 (.agg #[v0, v1, v2, v3]) 0).run Tryz.prog W = .ok v0 W := by
  kernel_rfl
set_option maxHeartbeats 800000 in
theorem indent_any (s : ByteArray) (k c f : Nat) (h : Plc s k c f) (hs : s.size ≤ 100000) (w : World) :
    Calls Tryz.prog 50 #[.agg #[.string s, .int .i64 k, .int .i64 c, .int .i64 f]] w fun e w' => e = .returned (.int .i64 (indL c f (s.data.toList.drop k))) ∧ Keeps w w' := by
  have SK := Lib.hid (fun W => skip_any s k c f 9223372036854775807 (by omega) h hs W)
  have HI : Hid ((skipL (9223372036854775807 : Int).toNat c f (s.data.toList.drop k)).2.1 = c + indL c f (s.data.toList.drop k)) := Lib.hid (by
    have := ind_le c f (s.data.toList.drop k) h.2.2.1
    rw [List.length_drop, bytes_len] at this
    rw [skip_col, Nat.min_eq_right (by omega)])
  have hi := (show indL c f (s.data.toList.drop k) ≤ 400000 by
    have := ind_le c f (s.data.toList.drop k) h.2.2.1
    rw [List.length_drop, bytes_len] at this
    omega)
  have hc := h.2.1
  rw [HI.out] at SK
  clear h HI
  generalize indL c f (s.data.toList.drop k) = z at *
  generalize k + (skipL (9223372036854775807 : Int).toNat c f (s.data.toList.drop k)).1 = z1 at *
  generalize (skipL (9223372036854775807 : Int).toNat c f (s.data.toList.drop k)).2.2 = z2 at *
  have FD := fun (a b d : Value) W => cur_col (.string s) a b d W
  have hw : IntKind.i64.wrap ((c : Int) + z - c) = z := by rw [IntWalk.i64_in _ ⟨by omega, by omega⟩]; omega
  go_enter Tryz.func50, Tryz.ntmps50
  go_wp2_with fail
  go_region_held3 (fun w' => w'.cell? ⟨w.heap.size, 0, none⟩ = some (.string s) ∧ w'.cell? ⟨w.heap.size, 1, none⟩ = some (.int .i64 k) ∧ w'.cell? ⟨w.heap.size, 2, none⟩ = some (.int .i64 c) ∧ w'.cell? ⟨w.heap.size, 3, none⟩ = some (.int .i64 f))
    (first | go_keep | (refine ⟨?_, ?_, ?_, ?_⟩ <;> (rw [k1.cell (by simp)]; simp)))
    (first | (go_at_call 64; refine (SK.out _).mono ?_; rintro e w1 ⟨rfl, k1⟩))
  clear hw
  go_wp2_with fail
  go_ret
  exact ⟨rfl, (((Keeps.refl w).alloc _).drew).trans k1⟩

theorem drop_bytes (s : ByteArray) (k : Nat) : (s.extract k s.size).data.toList = s.data.toList.drop k := by rw [ext_drop]
theorem tabTrim_any (s : ByteArray) (w : World) :
    Calls Tryz.prog 74 #[.string s, .string ⟨#[32, 9]⟩] w fun e w' => e = .returned (.string ⟨(nextL s.data.toList).toArray⟩) ∧ Keeps w w' :=
  Any.strings_TrimLeft_laid Tryz.lays161 (by kernel_rfl) s ⟨#[32, 9]⟩ w (by decide) (fun j b h => by
    match j, h with
    | 0, h => cases h; decide
    | 1, h => cases h; decide)
set_option maxHeartbeats 400000 in
theorem next_any (s : ByteArray) (k c f : Nat) (h : Plc s k c f) (w : World) :
    Calls Tryz.prog 51 #[.agg #[.string s, .int .i64 k, .int .i64 c, .int .i64 f]] w fun e w' => e = .returned (.string ⟨(nextL (s.data.toList.drop k)).toArray⟩) ∧ Keeps w w' := by
  have RT := Lib.hid (fun W => right_any s k c f h W)
  have TR := Lib.hid (fun W => tabTrim_any (s.extract k s.size) W)
  rw [drop_bytes] at TR
  have hk := h.1
  clear h
  generalize nextL (s.data.toList.drop k) = z at *
  go_enter Tryz.func51, Tryz.ntmps51
  go_wp2_with fail
  refine (RT.out _).mono ?_
  rintro e w1 ⟨rfl, k1⟩
  have B1 := Lib.hid ((Blk.new w _ _).keep k1)
  have K1 := Lib.hid (((Keeps.refl w).alloc _).trans k1)
  have x0 : w1.cell? ⟨w.heap.size, 0, none⟩ = some (.string s) := B1.out.cell 0 rfl
  have x1 : w1.cell? ⟨w.heap.size, 1, none⟩ = some (.int .i64 k) := B1.out.cell 1 rfl
  clear k1
  go_wp2_with fail
  refine (TR.out _).mono ?_
  rintro e w2 ⟨rfl, k2⟩
  have K2 := Lib.hid (K1.out.trans k2)
  clear k2
  go_wp2_with fail
  go_ret
  exact ⟨rfl, K2.out⟩
theorem rep_blank : ∀ n, Lib.repeatL [32] n = List.replicate n 32
  | 0 => rfl
  | n + 1 => by rw [Lib.repeatL, rep_blank n]; rfl
theorem repeat_any (n : Nat) (h : n ≤ 1000) (w : World) :
    Calls Tryz.prog 121 #[.string ⟨#[32]⟩, .int .i64 n] w fun e w' => e = .returned (.string ⟨(List.replicate n 32).toArray⟩) ∧ Keeps w w' := by
  have := Tryz.strings_Repeat ⟨#[32]⟩ n w (by omega) (by show 1 * n ≤ _; omega)
  rw [show (⟨#[32]⟩ : ByteArray).data.toList = [32] from rfl, rep_blank] at this
  exact this
set_option maxHeartbeats 800000 in
theorem rest_any (s : ByteArray) (k c f : Nat) (h : Plc s k c f) (hs : s.size ≤ 100000) (w : World) :
    Calls Tryz.prog 91 #[.agg #[.string s, .int .i64 k, .int .i64 c, .int .i64 f]] w fun e w' => e = .returned (.string ⟨(restL f (s.data.toList.drop k)).toArray⟩) ∧ Keeps w w' := by
  have RT := Lib.hid (fun W => right_any s k c f h W)
  have hk := h.1
  have hf4 := h.2.2.1
  by_cases hf : f = 0
  · have HR : Hid ((⟨(restL f (s.data.toList.drop k)).toArray⟩ : ByteArray) = s.extract k s.size) := Lib.hid (by subst hf; rw [ext_drop]; rfl)
    rw [HR.out]
    subst hf
    clear h HR
    go_enter Tryz.func91, Tryz.ntmps91
    go_wp2_with fail
    refine (RT.out _).mono ?_
    rintro e w1 ⟨rfl, k1⟩
    have B1 := Lib.hid ((Blk.new w _ _).keep k1)
    have K1 := Lib.hid (((Keeps.refl w).alloc _).trans k1)
    have x0 : w1.cell? ⟨w.heap.size, 0, none⟩ = some (.string s) := B1.out.cell 0 rfl
    have x1 : w1.cell? ⟨w.heap.size, 1, none⟩ = some (.int .i64 k) := B1.out.cell 1 rfl
    have x3 : w1.cell? ⟨w.heap.size, 3, none⟩ = some (.int .i64 0) := B1.out.cell 3 rfl
    clear k1
    go_wp2_with fail
    go_ret
    exact ⟨rfl, K1.out⟩
  · have hk1 : k < s.size := (tab_of h.2.2 hf).1
    have HR : Hid ((⟨(restL f (s.data.toList.drop k)).toArray⟩ : ByteArray) = ⟨(List.replicate f 32).toArray⟩ ++ s.extract (k + 1) s.size) := Lib.hid (bytes_eq (by
      unfold restL
      rw [if_pos hf, bytes_app, drop_bytes, List.tail_drop]))
    rw [HR.out]
    have RP := Lib.hid (fun W => repeat_any f (by omega) W)
    have hf1 : 0 < f := by omega
    clear h hf HR
    have hz : (⟨(List.replicate f 32).toArray⟩ : ByteArray).size = f := by show (List.replicate f (32 : UInt8)).toArray.size = f; simp
    generalize (⟨(List.replicate f 32).toArray⟩ : ByteArray) = Z at *
    have hz1 : Z.size + (s.size - (k + 1)) ≤ 9223372036854775807 := by omega
    have hz2 : Z.size + (s.extract (k + 1) s.size).size ≤ 9223372036854775807 := by rw [ByteArray.size_extract]; omega
    have hz3 := fun W => run_string_add_sum (P := Tryz.prog) W Z (s.extract (k + 1) s.size) hz2
    have hz4 : ¬ (9223372036854775807 < Z.size + (s.size - (k + 1))) := by omega
    clear hz
    have q1 : (0 : Int) ≤ (k : Int) + 1 := by omega
    have q2 : (k : Int) + 1 ≤ (s.size : Int) := by omega
    have q3 : ((k : Int) + 1).toNat = k + 1 := by omega
    have q4 : IntKind.i64.wrap ((k : Int) + 1) = (k : Int) + 1 := IntWalk.i64_in _ ⟨by omega, by omega⟩
    go_enter Tryz.func91, Tryz.ntmps91
    go_wp2_with fail
    refine (RT.out _).mono ?_
    rintro e w1 ⟨rfl, k1⟩
    have B1 := Lib.hid ((Blk.new w _ _).keep k1)
    have K1 := Lib.hid (((Keeps.refl w).alloc _).trans k1)
    have x0 : w1.cell? ⟨w.heap.size, 0, none⟩ = some (.string s) := B1.out.cell 0 rfl
    have x1 : w1.cell? ⟨w.heap.size, 1, none⟩ = some (.int .i64 k) := B1.out.cell 1 rfl
    have x3 : w1.cell? ⟨w.heap.size, 3, none⟩ = some (.int .i64 f) := B1.out.cell 3 rfl
    have hb := B1.out.lt
    clear k1
    go_wp2_with fail
    go_region_held3 (fun w' => w'.cell? ⟨w.heap.size, 0, none⟩ = some (.string s) ∧ w'.cell? ⟨w.heap.size, 1, none⟩ = some (.int .i64 k) ∧ w'.cell? ⟨w.heap.size, 3, none⟩ = some (.int .i64 f))
      (first | go_keep | (refine ⟨?_, ?_, ?_⟩ <;> (rw [k2.cell hb]; assumption)))
      (first | (go_at_call 121; refine (RP.out _).mono ?_; rintro e w2 ⟨rfl, k2⟩))
    go_wp2_with fail
    go_ret
    exact ⟨rfl, K1.out.drew.trans k2⟩
end Go.Proofs.YtfgpephpkibbaaaGreatDoor

/-
  Contracts of strings.Cut at one byte, and of Move.
-/
namespace Go.Proofs.YtfgpephpkibbaaaGreatDoor
open Go.RowKit Go.Lib

/-- What stands ahead of the first c. -/
def headTo (c : UInt8) (l : List UInt8) : List UInt8 := l.takeWhile (· != c)
theorem head_none {c : UInt8} : ∀ {l : List UInt8}, indexByte l c = -1 → headTo c l = l
  | [], _ => rfl
  | b :: l, h => by
    unfold indexByte at h
    by_cases hb : b = c
    · subst hb; simp at h
    · have hb1 : (b == c) = false := by simpa using hb
      rw [hb1] at h
      by_cases hl : indexByte l c = -1
      · have := head_none hl
        unfold headTo at this ⊢
        rw [List.takeWhile_cons, if_pos (by simpa using hb), this]
      · have := indexByte_ge l c
        simp [hl] at h
        omega
theorem head_some {c : UInt8} : ∀ {l : List UInt8}, 0 ≤ indexByte l c → headTo c l = l.take (indexByte l c).toNat ∧ (indexByte l c).toNat < l.length
  | [], h => by simp [indexByte] at h
  | b :: l, h => by
    unfold indexByte at h ⊢
    by_cases hb : b = c
    · subst hb
      simp [headTo]
    · have hb1 : (b == c) = false := by simpa using hb
      rw [hb1] at h ⊢
      by_cases hl : indexByte l c = -1
      · simp [hl] at h
      · have hg := indexByte_ge l c
        obtain ⟨h1, h2⟩ := head_some (c := c) (l := l) (by omega)
        have e : (if false = true then (0 : Int) else if (indexByte l c == -1) = true then -1 else indexByte l c + 1) = indexByte l c + 1 := by simp [hl]
        rw [e, show (indexByte l c + 1).toNat = (indexByte l c).toNat + 1 by omega]
        unfold headTo at h1 ⊢
        rw [List.takeWhile_cons, if_pos (by simpa using hb), h1]
        exact ⟨by rw [List.take_succ_cons], by rw [List.length_cons]; omega⟩
/-- Cut at one byte: what is ahead of it. -/
def CutPost (z : ByteArray) (w : World) (e : Ending) (w' : World) : Prop := ∃ (b : ByteArray) (t : Bool), e = .returned (.tuple #[.string z, .string b, .bool t]) ∧ Keeps w w'
set_option maxHeartbeats 800000 in
theorem litecut_any (s : ByteArray) (c : UInt8) (hs : s.size ≤ 1000000000) (w : World) :
    Calls Tryz.prog 147 #[.string s, .string ⟨#[c]⟩] w (CutPost ⟨(headTo c s.data.toList).toArray⟩ w) := by
  have IX := Lib.hid (fun W => Tryz.stringslite_Index_one s c W)
  by_cases hx : 0 ≤ indexByte s.data.toList c
  · obtain ⟨h1, h2⟩ := head_some hx
    rw [bytes_len] at h2
    have HH : Hid ((⟨(headTo c s.data.toList).toArray⟩ : ByteArray) = s.extract 0 (indexByte s.data.toList c).toNat) := Lib.hid (by rw [h1, ext_take])
    obtain ⟨i, hi⟩ : ∃ i : Nat, indexByte s.data.toList c = (i : Int) := ⟨_, (Int.toNat_of_nonneg hx).symm⟩
    rw [HH.out]
    rw [hi] at IX h2 ⊢
    rw [Int.toNat_natCast] at h2 ⊢
    clear hi hx h1 HH
    have q1 : IntKind.i64.wrap ((i : Int) + 1) = (i : Int) + 1 := IntWalk.i64_in _ ⟨by omega, by omega⟩
    have q2 : (0 : Int) ≤ (i : Int) + 1 := by omega
    have q3 : (i : Int) + 1 ≤ (s.size : Int) := by omega
    have q4 : ((i : Int) + 1).toNat = i + 1 := by omega
    go_enter Tryz.func147, Tryz.ntmps147
    go_wp2_with fail
    refine (IX.out _).mono ?_
    rintro e w1 ⟨rfl, hw⟩
    subst hw
    go_wp2_with fail
    go_quiet (fail)
    go_wp2_with fail
    refine bodyPost_ret (results_tmp3 rfl _ _ _) rfl ?_
    exact ⟨_, _, rfl, (Keeps.refl _).drewN _⟩
  · have hx1 : indexByte s.data.toList c = -1 := by have := indexByte_ge s.data.toList c; omega
    have HH : Hid ((⟨(headTo c s.data.toList).toArray⟩ : ByteArray) = s) := Lib.hid (by rw [head_none hx1, bytes_mk])
    rw [HH.out]
    rw [hx1] at IX
    clear hx hx1 HH
    go_enter Tryz.func147, Tryz.ntmps147
    go_wp2_with fail
    refine (IX.out _).mono ?_
    rintro e w1 ⟨rfl, hw⟩
    subst hw
    go_wp2_with fail
    go_ret3
    exact ⟨_, _, rfl, Keeps.refl _⟩
theorem cut_tab (s : ByteArray) (c : UInt8) (hs : s.size ≤ 1000000000) (w : World) :
    Calls Tryz.prog 122 #[.string s, .string ⟨#[c]⟩] w (CutPost ⟨(headTo c s.data.toList).toArray⟩ w) := by
  have CT := Lib.hid (fun W => litecut_any s c hs W)
  generalize (⟨(headTo c s.data.toList).toArray⟩ : ByteArray) = z at *
  go_enter Tryz.func122, Tryz.ntmps122
  go_wp2_with fail
  refine (CT.out _).mono ?_
  rintro e w1 ⟨b, t, rfl, k1⟩
  go_wp2_with fail
  go_ret3
  exact ⟨_, _, rfl, k1⟩

/-- What Move goes past: n bytes at most, none of them a tab. -/
def movL (n : Nat) (l : List UInt8) : List UInt8 := headTo 9 (l.take n)
theorem mov_le (n : Nat) (l : List UInt8) : (movL n l).length ≤ l.length := by
  unfold movL headTo
  have := (List.takeWhile_sublist (· != 9) (l := l.take n)).length_le
  have := List.length_take_le' n l
  omega
theorem mov_left {f n : Nat} {l : List UInt8} (h : okP f l) (hf : f ≠ 0) : movL n l = [] := by
  obtain ⟨t, rfl⟩ := h.2 hf
  unfold movL headTo
  cases n with
  | zero => rfl
  | succ n => rfl
set_option maxHeartbeats 2000000 in
theorem move_any (s : ByteArray) (k c f : Nat) (n : Int) (hn : n ≤ 9223372036854775807) (h : Plc s k c f) (hs : s.size ≤ 100000) (w : World) :
    Calls Tryz.prog 109 #[.agg #[.string s, .int .i64 k, .int .i64 c, .int .i64 f], .int .i64 n] w fun e w' =>
      e = .returned (.agg #[.string s, .int .i64 (k + (movL n.toNat (s.data.toList.drop k)).length : Nat), .int .i64 (c + (movL n.toNat (s.data.toList.drop k)).length : Nat), .int .i64 f]) ∧ Keeps w w' := by
  have RT := Lib.hid (fun W => right_any s k c f h W)
  have hk := h.1
  have hc := h.2.1
  by_cases h1 : n < 1
  · have HM : Hid ((movL n.toNat (s.data.toList.drop k)).length = 0) := Lib.hid (by rw [show n.toNat = 0 by omega]; rfl)
    rw [HM.out, Nat.add_zero, Nat.add_zero]
    clear h HM RT
    go_enter Tryz.func109, Tryz.ntmps109
    go_wp2_with fail
    exact bodyPost_ret (v := .agg #[.string s, .int .i64 k, .int .i64 c, .int .i64 f]) (by simp [results, Tryz.results109, go_sem]) rfl ⟨rfl, ((Keeps.refl w).alloc _).alloc _⟩
  · have hj : ∃ j : Nat, min n (↑(s.size - k) : Int) = (j : Int) := ⟨(min n (↑(s.size - k) : Int)).toNat, by omega⟩
    obtain ⟨j, hj⟩ := hj
    have hj1 : j ≤ s.size - k := by omega
    have HM : Hid ((s.extract k s.size).extract 0 j = ⟨((s.data.toList.drop k).take n.toNat).toArray⟩) := Lib.hid (by
      rw [ext_take, drop_bytes]
      by_cases q : (↑(s.size - k) : Int) < n
      · rw [List.take_of_length_le (by rw [List.length_drop, bytes_len]; omega), List.take_of_length_le (by rw [List.length_drop, bytes_len]; omega)]
      · rw [show n.toNat = j by omega])
    have CT := Lib.hid (fun W => cut_tab ((s.extract k s.size).extract 0 j) 9 (by rw [ByteArray.size_extract, ByteArray.size_extract]; omega) W)
    rw [HM.out] at CT
    have ml := mov_le n.toNat (s.data.toList.drop k)
    rw [List.length_drop, bytes_len] at ml
    have HZ : Hid ((⟨(movL n.toNat (s.data.toList.drop k)).toArray⟩ : ByteArray).size = (movL n.toNat (s.data.toList.drop k)).length) := Lib.hid (by show (movL n.toNat (s.data.toList.drop k)).toArray.size = _; simp)
    rw [← HZ.out] at ml ⊢
    have CT : Hid (∀ W, Calls Tryz.prog 122 #[.string ⟨((s.data.toList.drop k).take n.toNat).toArray⟩, .string ⟨#[9]⟩] W (CutPost ⟨(movL n.toNat (s.data.toList.drop k)).toArray⟩ W)) := CT
    rw [← HM.out] at CT
    clear h HM HZ
    generalize (⟨(movL n.toNat (s.data.toList.drop k)).toArray⟩ : ByteArray) = Z at *
    go_enter Tryz.func109, Tryz.ntmps109
    go_wp2_with fail
    refine (RT.out _).mono ?_
    rintro e w1 ⟨rfl, k1⟩
    have B1 := Lib.hid (((Blk.new w _ _).alloc _).keep k1)
    have B2 := Lib.hid ((Blk.new _ _ _).keep k1)
    have K1 := Lib.hid ((((Keeps.refl w).alloc _).alloc _).trans k1)
    clear k1
    generalize hB : w.heap.size = B at *
    have HB := Lib.hid hB
    have HC : Hid ((w.alloc (.cells #[.string s, .int .i64 k, .int .i64 c, .int .i64 f] 49)).heap.size = B + 1) := Lib.hid (by rw [← hB]; simp)
    rw [HC.out] at B2
    clear hB HC
    have x0 : w1.cell? ⟨B, 0, none⟩ = some (.string s) := B1.out.cell 0 rfl
    have x1 : w1.cell? ⟨B, 1, none⟩ = some (.int .i64 k) := B1.out.cell 1 rfl
    go_wp2_with fail
    refine (CT.out _).mono ?_
    rintro e w2 ⟨b, t, rfl, k2⟩
    have B3 := Lib.hid (B1.out.keep k2)
    have B4 := Lib.hid (B2.out.keep k2)
    have K2 := Lib.hid (K1.out.trans k2)
    clear k2 B1 B2 K1 x0 x1
    have x0 : w2.cell? ⟨B, 0, none⟩ = some (.string s) := B3.out.cell 0 rfl
    have x1 : w2.cell? ⟨B, 1, none⟩ = some (.int .i64 k) := B3.out.cell 1 rfl
    have x2 : w2.cell? ⟨B, 2, none⟩ = some (.int .i64 c) := B3.out.cell 2 rfl
    have x3 : w2.cell? ⟨B, 3, none⟩ = some (.int .i64 f) := B3.out.cell 3 rfl
    have g1 := B3.out.free 1
    have g2 := B3.out.free 2
    have y0 : w2.cell? ⟨B + 1, 0, none⟩ = some (.string ⟨#[]⟩) := B4.out.cell 0 rfl
    have y1 : w2.cell? ⟨B + 1, 1, none⟩ = some (.int .i64 0) := B4.out.cell 1 rfl
    have y2 : w2.cell? ⟨B + 1, 2, none⟩ = some (.int .i64 0) := B4.out.cell 2 rfl
    have y3 : w2.cell? ⟨B + 1, 3, none⟩ = some (.int .i64 0) := B4.out.cell 3 rfl
    have e0 := B4.out.free 0
    have e1 := B4.out.free 1
    have e2 := B4.out.free 2
    have e3 := B4.out.free 3
    go_wp2_with fail
    refine ret_blk rfl rfl rfl ((((((B4.out.other (by omega) _ _).other (by omega) _ _).set 0 _ rfl).set 1 _ rfl).set 2 _ rfl).set 3 _ rfl) Tryz.underlying49 (by kernel_rfl) ⟨?_, ((((((K2.out.set (by have := HB.out; omega) _ _).set (by have := HB.out; omega) _ _).set (by have := HB.out; omega) 0 _).set (by have := HB.out; omega) 1 _).set (by have := HB.out; omega) 2 _).set (by have := HB.out; omega) 3 _)⟩
    simp
end Go.Proofs.YtfgpephpkibbaaaGreatDoor


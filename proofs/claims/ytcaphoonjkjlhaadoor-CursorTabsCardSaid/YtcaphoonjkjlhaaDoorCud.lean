/-
  Contracts of strings.Cut at one byte, and of Move.
-/
import Derived.Test.YtcaphoonjkjlhaaDoorCuc
namespace Go.Proofs.YtcaphoonjkjlhaaDoor
open Go.RowKit Go.Lib

/-- What stands ahead of the first c. -/
def headTo (c : UInt8) (l : List UInt8) : List UInt8 := l.takeWhile (· != c)
theorem head_none {c : UInt8} : ∀ {l : List UInt8}, indexByte l c = -1 → headTo c l = l
  | [], _ => rfl
  | b :: l, h => by
    unfold indexByte at h
    by_cases hb : b = c
    · subst hb; simp at h
    · have hb1 : (b == c) = false := by simpa using hb
      rw [hb1] at h
      by_cases hl : indexByte l c = -1
      · have := head_none hl
        unfold headTo at this ⊢
        rw [List.takeWhile_cons, if_pos (by simpa using hb), this]
      · have := indexByte_ge l c
        simp [hl] at h
        omega
theorem head_some {c : UInt8} : ∀ {l : List UInt8}, 0 ≤ indexByte l c → headTo c l = l.take (indexByte l c).toNat ∧ (indexByte l c).toNat < l.length
  | [], h => by simp [indexByte] at h
  | b :: l, h => by
    unfold indexByte at h ⊢
    by_cases hb : b = c
    · subst hb
      simp [headTo]
    · have hb1 : (b == c) = false := by simpa using hb
      rw [hb1] at h ⊢
      by_cases hl : indexByte l c = -1
      · simp [hl] at h
      · have hg := indexByte_ge l c
        obtain ⟨h1, h2⟩ := head_some (c := c) (l := l) (by omega)
        have e : (if false = true then (0 : Int) else if (indexByte l c == -1) = true then -1 else indexByte l c + 1) = indexByte l c + 1 := by simp [hl]
        rw [e, show (indexByte l c + 1).toNat = (indexByte l c).toNat + 1 by omega]
        unfold headTo at h1 ⊢
        rw [List.takeWhile_cons, if_pos (by simpa using hb), h1]
        exact ⟨by rw [List.take_succ_cons], by rw [List.length_cons]; omega⟩
/-- Cut at one byte: what is ahead of it. -/
def CutPost (z : ByteArray) (w : World) (e : Ending) (w' : World) : Prop := ∃ (b : ByteArray) (t : Bool), e = .returned (.tuple #[.string z, .string b, .bool t]) ∧ Keeps w w'
set_option maxHeartbeats 800000 in
theorem litecut_any (s : ByteArray) (c : UInt8) (hs : s.size ≤ 1000000000) (w : World) :
    Calls Tryd.prog 30 #[.string s, .string ⟨#[c]⟩] w (CutPost ⟨(headTo c s.data.toList).toArray⟩ w) := by
  have IX := Lib.hid (fun W => Tryd.stringslite_Index_one s c W)
  by_cases hx : 0 ≤ indexByte s.data.toList c
  · obtain ⟨h1, h2⟩ := head_some hx
    rw [bytes_len] at h2
    have HH : Hid ((⟨(headTo c s.data.toList).toArray⟩ : ByteArray) = s.extract 0 (indexByte s.data.toList c).toNat) := Lib.hid (by rw [h1, ext_take])
    obtain ⟨i, hi⟩ : ∃ i : Nat, indexByte s.data.toList c = (i : Int) := ⟨_, (Int.toNat_of_nonneg hx).symm⟩
    rw [HH.out]
    rw [hi] at IX h2 ⊢
    rw [Int.toNat_natCast] at h2 ⊢
    clear hi hx h1 HH
    have q1 : IntKind.i64.wrap ((i : Int) + 1) = (i : Int) + 1 := IntWalk.i64_in _ ⟨by omega, by omega⟩
    have q2 : (0 : Int) ≤ (i : Int) + 1 := by omega
    have q3 : (i : Int) + 1 ≤ (s.size : Int) := by omega
    have q4 : ((i : Int) + 1).toNat = i + 1 := by omega
    go_enter Tryd.func30, Tryd.ntmps30
    go_wp2_with fail
    refine (IX.out _).mono ?_
    rintro e w1 ⟨rfl, hw⟩
    subst hw
    go_wp2_with fail
    go_quiet (fail)
    go_wp2_with fail
    refine bodyPost_ret (results_tmp3 rfl _ _ _) rfl ?_
    exact ⟨_, _, rfl, (Keeps.refl _).drewN _⟩
  · have hx1 : indexByte s.data.toList c = -1 := by have := indexByte_ge s.data.toList c; omega
    have HH : Hid ((⟨(headTo c s.data.toList).toArray⟩ : ByteArray) = s) := Lib.hid (by rw [head_none hx1, bytes_mk])
    rw [HH.out]
    rw [hx1] at IX
    clear hx hx1 HH
    go_enter Tryd.func30, Tryd.ntmps30
    go_wp2_with fail
    refine (IX.out _).mono ?_
    rintro e w1 ⟨rfl, hw⟩
    subst hw
    go_wp2_with fail
    go_ret3
    exact ⟨_, _, rfl, Keeps.refl _⟩
theorem cut_tab (s : ByteArray) (c : UInt8) (hs : s.size ≤ 1000000000) (w : World) :
    Calls Tryd.prog 19 #[.string s, .string ⟨#[c]⟩] w (CutPost ⟨(headTo c s.data.toList).toArray⟩ w) := by
  have CT := Lib.hid (fun W => litecut_any s c hs W)
  generalize (⟨(headTo c s.data.toList).toArray⟩ : ByteArray) = z at *
  go_enter Tryd.func19, Tryd.ntmps19
  go_wp2_with fail
  refine (CT.out _).mono ?_
  rintro e w1 ⟨b, t, rfl, k1⟩
  go_wp2_with fail
  go_ret3
  exact ⟨_, _, rfl, k1⟩

/-- What Move goes past: n bytes at most, none of them a tab. -/
def movL (n : Nat) (l : List UInt8) : List UInt8 := headTo 9 (l.take n)
theorem mov_le (n : Nat) (l : List UInt8) : (movL n l).length ≤ l.length := by
  unfold movL headTo
  have := (List.takeWhile_sublist (· != 9) (l := l.take n)).length_le
  have := List.length_take_le' n l
  omega
theorem mov_left {f n : Nat} {l : List UInt8} (h : okP f l) (hf : f ≠ 0) : movL n l = [] := by
  obtain ⟨t, rfl⟩ := h.2 hf
  unfold movL headTo
  cases n with
  | zero => rfl
  | succ n => rfl
set_option maxHeartbeats 2000000 in
theorem move_any (s : ByteArray) (k c f : Nat) (n : Int) (hn : n ≤ 9223372036854775807) (h : Plc s k c f) (hs : s.size ≤ 100000) (w : World) :
    Calls Tryd.prog 14 #[.agg #[.string s, .int .i64 k, .int .i64 c, .int .i64 f], .int .i64 n] w fun e w' =>
      e = .returned (.agg #[.string s, .int .i64 (k + (movL n.toNat (s.data.toList.drop k)).length : Nat), .int .i64 (c + (movL n.toNat (s.data.toList.drop k)).length : Nat), .int .i64 f]) ∧ Keeps w w' := by
  have RT := Lib.hid (fun W => right_any s k c f h W)
  have hk := h.1
  have hc := h.2.1
  by_cases h1 : n < 1
  · have HM : Hid ((movL n.toNat (s.data.toList.drop k)).length = 0) := Lib.hid (by rw [show n.toNat = 0 by omega]; rfl)
    rw [HM.out, Nat.add_zero, Nat.add_zero]
    clear h HM RT
    go_enter Tryd.func14, Tryd.ntmps14
    go_wp2_with fail
    exact bodyPost_ret (v := .agg #[.string s, .int .i64 k, .int .i64 c, .int .i64 f]) (by simp [results, Tryd.results14, go_sem]) rfl ⟨rfl, ((Keeps.refl w).alloc _).alloc _⟩
  · have hj : ∃ j : Nat, min n (↑(s.size - k) : Int) = (j : Int) := ⟨(min n (↑(s.size - k) : Int)).toNat, by omega⟩
    obtain ⟨j, hj⟩ := hj
    have hj1 : j ≤ s.size - k := by omega
    have HM : Hid ((s.extract k s.size).extract 0 j = ⟨((s.data.toList.drop k).take n.toNat).toArray⟩) := Lib.hid (by
      rw [ext_take, drop_bytes]
      by_cases q : (↑(s.size - k) : Int) < n
      · rw [List.take_of_length_le (by rw [List.length_drop, bytes_len]; omega), List.take_of_length_le (by rw [List.length_drop, bytes_len]; omega)]
      · rw [show n.toNat = j by omega])
    have CT := Lib.hid (fun W => cut_tab ((s.extract k s.size).extract 0 j) 9 (by rw [ByteArray.size_extract, ByteArray.size_extract]; omega) W)
    rw [HM.out] at CT
    have ml := mov_le n.toNat (s.data.toList.drop k)
    rw [List.length_drop, bytes_len] at ml
    have HZ : Hid ((⟨(movL n.toNat (s.data.toList.drop k)).toArray⟩ : ByteArray).size = (movL n.toNat (s.data.toList.drop k)).length) := Lib.hid (by show (movL n.toNat (s.data.toList.drop k)).toArray.size = _; simp)
    rw [← HZ.out] at ml ⊢
    have CT : Hid (∀ W, Calls Tryd.prog 19 #[.string ⟨((s.data.toList.drop k).take n.toNat).toArray⟩, .string ⟨#[9]⟩] W (CutPost ⟨(movL n.toNat (s.data.toList.drop k)).toArray⟩ W)) := CT
    rw [← HM.out] at CT
    clear h HM HZ
    generalize (⟨(movL n.toNat (s.data.toList.drop k)).toArray⟩ : ByteArray) = Z at *
    go_enter Tryd.func14, Tryd.ntmps14
    go_wp2_with fail
    refine (RT.out _).mono ?_
    rintro e w1 ⟨rfl, k1⟩
    have B1 := Lib.hid (((Blk.new w _ _).alloc _).keep k1)
    have B2 := Lib.hid ((Blk.new _ _ _).keep k1)
    have K1 := Lib.hid ((((Keeps.refl w).alloc _).alloc _).trans k1)
    clear k1
    generalize hB : w.heap.size = B at *
    have HB := Lib.hid hB
    have HC : Hid ((w.alloc (.cells #[.string s, .int .i64 k, .int .i64 c, .int .i64 f] 24)).heap.size = B + 1) := Lib.hid (by rw [← hB]; simp)
    rw [HC.out] at B2
    clear hB HC
    have x0 : w1.cell? ⟨B, 0, none⟩ = some (.string s) := B1.out.cell 0 rfl
    have x1 : w1.cell? ⟨B, 1, none⟩ = some (.int .i64 k) := B1.out.cell 1 rfl
    go_wp2_with fail
    refine (CT.out _).mono ?_
    rintro e w2 ⟨b, t, rfl, k2⟩
    have B3 := Lib.hid (B1.out.keep k2)
    have B4 := Lib.hid (B2.out.keep k2)
    have K2 := Lib.hid (K1.out.trans k2)
    clear k2 B1 B2 K1 x0 x1
    have x0 : w2.cell? ⟨B, 0, none⟩ = some (.string s) := B3.out.cell 0 rfl
    have x1 : w2.cell? ⟨B, 1, none⟩ = some (.int .i64 k) := B3.out.cell 1 rfl
    have x2 : w2.cell? ⟨B, 2, none⟩ = some (.int .i64 c) := B3.out.cell 2 rfl
    have x3 : w2.cell? ⟨B, 3, none⟩ = some (.int .i64 f) := B3.out.cell 3 rfl
    have g1 := B3.out.free 1
    have g2 := B3.out.free 2
    have y0 : w2.cell? ⟨B + 1, 0, none⟩ = some (.string ⟨#[]⟩) := B4.out.cell 0 rfl
    have y1 : w2.cell? ⟨B + 1, 1, none⟩ = some (.int .i64 0) := B4.out.cell 1 rfl
    have y2 : w2.cell? ⟨B + 1, 2, none⟩ = some (.int .i64 0) := B4.out.cell 2 rfl
    have y3 : w2.cell? ⟨B + 1, 3, none⟩ = some (.int .i64 0) := B4.out.cell 3 rfl
    have e0 := B4.out.free 0
    have e1 := B4.out.free 1
    have e2 := B4.out.free 2
    have e3 := B4.out.free 3
    go_wp2_with fail
    refine ret_blk rfl rfl rfl ((((((B4.out.other (by omega) _ _).other (by omega) _ _).set 0 _ rfl).set 1 _ rfl).set 2 _ rfl).set 3 _ rfl) Tryd.underlying24 (by kernel_rfl) ⟨?_, ((((((K2.out.set (by have := HB.out; omega) _ _).set (by have := HB.out; omega) _ _).set (by have := HB.out; omega) 0 _).set (by have := HB.out; omega) 1 _).set (by have := HB.out; omega) 2 _).set (by have := HB.out; omega) 3 _)⟩
    simp
end Go.Proofs.YtcaphoonjkjlhaaDoor

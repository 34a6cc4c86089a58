/-
  CursorParts returns true of any text and numbers.
-/
import Derived.Test.YtcaphoonjkjlhaaDoorCaw7
namespace Go.Proofs.YtcaphoonjkjlhaaDoor
open Go.RowKit Go.Lib

theorem plc_skip {s : ByteArray} {k c f : Nat} (n : Nat) (h : Plc s k c f) (hb : c + 4 * s.size ≤ 1000000) : Plc s (k + (skipL n c f (s.data.toList.drop k)).1) (skipL n c f (s.data.toList.drop k)).2.1 (skipL n c f (s.data.toList.drop k)).2.2 := by
  obtain ⟨h1, _, h3⟩ := h
  have a := skip_len n c f (s.data.toList.drop k)
  have b := skip_le (n := n) (c := c) (l := s.data.toList.drop k) h3.1
  have d := skip_ok n c f (s.data.toList.drop k) h3
  rw [List.drop_drop] at d
  rw [List.length_drop, bytes_len] at a b
  exact ⟨by omega, by omega, d⟩
/-- A place far enough on: what the two ways there have in common. -/
theorem two_goes (s : ByteArray) (n m : Nat) (hs : s.size ≤ 500) : ∃ k1 c1 f1 k2 c2 f2 i : Nat,
    skipL n 0 0 (s.data.toList.drop 0) = (k1, c1, f1) ∧ Plc s k1 c1 f1 ∧ (k1 + (skipL m c1 f1 (s.data.toList.drop k1)).1, (skipL m c1 f1 (s.data.toList.drop k1)).2) = (k2, c2, f2) ∧ Plc s k2 c2 f2 ∧
    skipL (n + m) 0 0 (s.data.toList.drop 0) = (k2, c2, f2) ∧ indL 0 0 (s.data.toList.drop 0) = i ∧ indL c2 f2 (s.data.toList.drop k2) = i - (n + m) ∧ i ≤ 2000 ∧ nextL (s.data.toList.drop k2) = nextL (s.data.toList.drop 0) := by
  have p0 := plc_new s
  have p1 := plc_skip n p0 (by omega)
  have b1 := skip_le (n := n) (c := 0) (f := 0) (l := s.data.toList.drop 0) (by omega)
  rw [List.length_drop, bytes_len] at b1
  have p2 := plc_skip m p1 (by omega)
  have e := skip_skip n m 0 0 (s.data.toList.drop 0)
  have pi := skip_ind (n + m) 0 0 (s.data.toList.drop 0)
  have pn := skip_next (n + m) 0 0 (s.data.toList.drop 0) (okP_nil _)
  have bi := ind_le 0 0 (s.data.toList.drop 0) (by omega)
  rw [List.length_drop, bytes_len] at bi
  rw [e, List.drop_drop] at pi pn
  rw [List.drop_drop] at e
  simp only [Nat.zero_add] at p1 p2 e pi pn
  exact ⟨_, _, _, _, _, _, _, rfl, p1, rfl, p2, by rw [e], rfl, pi, by omega, pn⟩
theorem eql_cur (s : ByteArray) (a b c : Int) (W : World) : (binOp .eql 24 (.agg #[.string s, .int .i64 a, .int .i64 b, .int .i64 c]) (.agg #[.string s, .int .i64 a, .int .i64 b, .int .i64 c])).run Tryd.prog W = .ok (.bool true) W := by
  rw [run_eql_struct, run_equalIn_agg _ _ _ _ _ (by kernel_rfl) Tryd.stoodInHeld24]
  simp [go_sem, Tryd.underlying24, Tryd.underlying9, Tryd.underlying3]
/-- Cells of blocks that lay there lie there still. -/
def Cur (W : World) (b : Nat) (s : ByteArray) (k c f : Int) : Prop := W.cell? ⟨b, 0, none⟩ = some (.string s) ∧ W.cell? ⟨b, 1, none⟩ = some (.int .i64 k) ∧ W.cell? ⟨b, 2, none⟩ = some (.int .i64 c) ∧ W.cell? ⟨b, 3, none⟩ = some (.int .i64 f) ∧ b < W.heap.size
theorem Cur.of {W : World} {b : Nat} {t : TypeId} {s : ByteArray} {k c f : Int} (h : Blk W b t #[.string s, .int .i64 k, .int .i64 c, .int .i64 f]) : Cur W b s k c f := ⟨h.cell 0 rfl, h.cell 1 rfl, h.cell 2 rfl, h.cell 3 rfl, h.lt⟩
theorem Cur.keep {W W' : World} {b : Nat} {s : ByteArray} {k c f : Int} (h : Cur W b s k c f) (q : Keeps W W') : Cur W' b s k c f := by
  obtain ⟨a0, a1, a2, a3, hb⟩ := h
  exact ⟨(q.cell hb).trans a0, (q.cell hb).trans a1, (q.cell hb).trans a2, (q.cell hb).trans a3, Nat.lt_of_lt_of_le hb q.size⟩
theorem parts_pack {w W : World} {C A B : Nat} {s : ByteArray} {x y z : Int} (h0 : W.cell? ⟨C, 0, none⟩ = some (.string s)) (h1 : W.cell? ⟨C, 1, none⟩ = some (.int .i64 0)) (h2 : W.cell? ⟨C, 2, none⟩ = some (.int .i64 0)) (h3 : W.cell? ⟨C, 3, none⟩ = some (.int .i64 0)) (h4 : W.cell? ⟨A, 0, none⟩ = some (.string s)) (h5 : W.cell? ⟨A, 1, none⟩ = some (.int .i64 x)) (h6 : W.cell? ⟨A, 2, none⟩ = some (.int .i64 y)) (h7 : W.cell? ⟨A, 3, none⟩ = some (.int .i64 z)) (h8 : W.cell? ⟨B, 0, none⟩ = some (.string s)) (h9 : W.cell? ⟨B, 1, none⟩ = some (.int .i64 x)) (h10 : W.cell? ⟨B, 2, none⟩ = some (.int .i64 y)) (h11 : W.cell? ⟨B, 3, none⟩ = some (.int .i64 z)) (hC : C < W.heap.size) (hA : A < W.heap.size) (hB : B < W.heap.size) (k : Keeps w W) :
    W.cell? ⟨C, 0, none⟩ = some (.string s) ∧ W.cell? ⟨C, 1, none⟩ = some (.int .i64 0) ∧ W.cell? ⟨C, 2, none⟩ = some (.int .i64 0) ∧ W.cell? ⟨C, 3, none⟩ = some (.int .i64 0) ∧ W.cell? ⟨A, 0, none⟩ = some (.string s) ∧ W.cell? ⟨A, 1, none⟩ = some (.int .i64 x) ∧ W.cell? ⟨A, 2, none⟩ = some (.int .i64 y) ∧ W.cell? ⟨A, 3, none⟩ = some (.int .i64 z) ∧ W.cell? ⟨B, 0, none⟩ = some (.string s) ∧ W.cell? ⟨B, 1, none⟩ = some (.int .i64 x) ∧ W.cell? ⟨B, 2, none⟩ = some (.int .i64 y) ∧ W.cell? ⟨B, 3, none⟩ = some (.int .i64 z) ∧ (C < W.heap.size ∧ A < W.heap.size ∧ B < W.heap.size) ∧ Keeps w W :=
  ⟨h0, h1, h2, h3, h4, h5, h6, h7, h8, h9, h10, h11, ⟨hC, hA, hB⟩, k⟩
theorem parts_keep {w W W' : World} {C A B : Nat} {s : ByteArray} {x y z : Int} (q : Keeps W W') (h : W.cell? ⟨C, 0, none⟩ = some (.string s) ∧ W.cell? ⟨C, 1, none⟩ = some (.int .i64 0) ∧ W.cell? ⟨C, 2, none⟩ = some (.int .i64 0) ∧ W.cell? ⟨C, 3, none⟩ = some (.int .i64 0) ∧ W.cell? ⟨A, 0, none⟩ = some (.string s) ∧ W.cell? ⟨A, 1, none⟩ = some (.int .i64 x) ∧ W.cell? ⟨A, 2, none⟩ = some (.int .i64 y) ∧ W.cell? ⟨A, 3, none⟩ = some (.int .i64 z) ∧ W.cell? ⟨B, 0, none⟩ = some (.string s) ∧ W.cell? ⟨B, 1, none⟩ = some (.int .i64 x) ∧ W.cell? ⟨B, 2, none⟩ = some (.int .i64 y) ∧ W.cell? ⟨B, 3, none⟩ = some (.int .i64 z) ∧ (C < W.heap.size ∧ A < W.heap.size ∧ B < W.heap.size) ∧ Keeps w W) :
    W'.cell? ⟨C, 0, none⟩ = some (.string s) ∧ W'.cell? ⟨C, 1, none⟩ = some (.int .i64 0) ∧ W'.cell? ⟨C, 2, none⟩ = some (.int .i64 0) ∧ W'.cell? ⟨C, 3, none⟩ = some (.int .i64 0) ∧ W'.cell? ⟨A, 0, none⟩ = some (.string s) ∧ W'.cell? ⟨A, 1, none⟩ = some (.int .i64 x) ∧ W'.cell? ⟨A, 2, none⟩ = some (.int .i64 y) ∧ W'.cell? ⟨A, 3, none⟩ = some (.int .i64 z) ∧ W'.cell? ⟨B, 0, none⟩ = some (.string s) ∧ W'.cell? ⟨B, 1, none⟩ = some (.int .i64 x) ∧ W'.cell? ⟨B, 2, none⟩ = some (.int .i64 y) ∧ W'.cell? ⟨B, 3, none⟩ = some (.int .i64 z) ∧ (C < W'.heap.size ∧ A < W'.heap.size ∧ B < W'.heap.size) ∧ Keeps w W' := by
  obtain ⟨a0, a1, a2, a3, b0, b1, b2, b3, d0, d1, d2, d3, ⟨hC, hA, hB⟩, k⟩ := h
  exact ⟨(q.cell hC).trans a0, (q.cell hC).trans a1, (q.cell hC).trans a2, (q.cell hC).trans a3, (q.cell hA).trans b0, (q.cell hA).trans b1, (q.cell hA).trans b2, (q.cell hA).trans b3, (q.cell hB).trans d0, (q.cell hB).trans d1, (q.cell hB).trans d2, (q.cell hB).trans d3, ⟨Nat.lt_of_lt_of_le hC q.size, Nat.lt_of_lt_of_le hA q.size, Nat.lt_of_lt_of_le hB q.size⟩, k.trans q⟩
theorem parts_end {w W : World} {C A B : Nat} {s : ByteArray} {x y z : Int} (h : W.cell? ⟨C, 0, none⟩ = some (.string s) ∧ W.cell? ⟨C, 1, none⟩ = some (.int .i64 0) ∧ W.cell? ⟨C, 2, none⟩ = some (.int .i64 0) ∧ W.cell? ⟨C, 3, none⟩ = some (.int .i64 0) ∧ W.cell? ⟨A, 0, none⟩ = some (.string s) ∧ W.cell? ⟨A, 1, none⟩ = some (.int .i64 x) ∧ W.cell? ⟨A, 2, none⟩ = some (.int .i64 y) ∧ W.cell? ⟨A, 3, none⟩ = some (.int .i64 z) ∧ W.cell? ⟨B, 0, none⟩ = some (.string s) ∧ W.cell? ⟨B, 1, none⟩ = some (.int .i64 x) ∧ W.cell? ⟨B, 2, none⟩ = some (.int .i64 y) ∧ W.cell? ⟨B, 3, none⟩ = some (.int .i64 z) ∧ (C < W.heap.size ∧ A < W.heap.size ∧ B < W.heap.size) ∧ Keeps w W) : Keeps w W := h.2.2.2.2.2.2.2.2.2.2.2.2.2
theorem parts_drew {w W : World} {C A B : Nat} {s : ByteArray} {x y z : Int} (h : W.cell? ⟨C, 0, none⟩ = some (.string s) ∧ W.cell? ⟨C, 1, none⟩ = some (.int .i64 0) ∧ W.cell? ⟨C, 2, none⟩ = some (.int .i64 0) ∧ W.cell? ⟨C, 3, none⟩ = some (.int .i64 0) ∧ W.cell? ⟨A, 0, none⟩ = some (.string s) ∧ W.cell? ⟨A, 1, none⟩ = some (.int .i64 x) ∧ W.cell? ⟨A, 2, none⟩ = some (.int .i64 y) ∧ W.cell? ⟨A, 3, none⟩ = some (.int .i64 z) ∧ W.cell? ⟨B, 0, none⟩ = some (.string s) ∧ W.cell? ⟨B, 1, none⟩ = some (.int .i64 x) ∧ W.cell? ⟨B, 2, none⟩ = some (.int .i64 y) ∧ W.cell? ⟨B, 3, none⟩ = some (.int .i64 z) ∧ (C < W.heap.size ∧ A < W.heap.size ∧ B < W.heap.size) ∧ Keeps w W) :
    W.drew.cell? ⟨C, 0, none⟩ = some (.string s) ∧ W.drew.cell? ⟨C, 1, none⟩ = some (.int .i64 0) ∧ W.drew.cell? ⟨C, 2, none⟩ = some (.int .i64 0) ∧ W.drew.cell? ⟨C, 3, none⟩ = some (.int .i64 0) ∧ W.drew.cell? ⟨A, 0, none⟩ = some (.string s) ∧ W.drew.cell? ⟨A, 1, none⟩ = some (.int .i64 x) ∧ W.drew.cell? ⟨A, 2, none⟩ = some (.int .i64 y) ∧ W.drew.cell? ⟨A, 3, none⟩ = some (.int .i64 z) ∧ W.drew.cell? ⟨B, 0, none⟩ = some (.string s) ∧ W.drew.cell? ⟨B, 1, none⟩ = some (.int .i64 x) ∧ W.drew.cell? ⟨B, 2, none⟩ = some (.int .i64 y) ∧ W.drew.cell? ⟨B, 3, none⟩ = some (.int .i64 z) ∧ (C < W.drew.heap.size ∧ A < W.drew.heap.size ∧ B < W.drew.heap.size) ∧ Keeps w W.drew := parts_keep ((Keeps.refl W).drewN 1) h
set_option maxHeartbeats 400000 in
theorem cparts_long (s : ByteArray) (n m : Nat) (w : World) (hs : s.size ≤ maxLen) (h : 500 < s.size) :
    Calls Tryd.prog 3 #[.string s, .int .u8 n, .int .u8 m] w fun e w' => e = .returned (.bool true) ∧ Keeps w w' := by
  have AW := Lib.hid (awake7_any w)
  unfold maxLen at hs
  go_enter Tryd.func3, Tryd.ntmps3
  go_wp2_with fail
  refine AW.out.mono ?_
  rintro e w2 ⟨rfl, k2⟩
  go_wp2_with fail
  go_ret
  exact ⟨rfl, k2⟩
set_option maxHeartbeats 2000000 in
theorem cparts_short (s : ByteArray) (n m : Nat) (hn : n < 256) (hm : m < 256) (w : World) (hs : s.size ≤ 500) :
    Calls Tryd.prog 3 #[.string s, .int .u8 n, .int .u8 m] w fun e w' => e = .returned (.bool true) ∧ Keeps w w' := by
  have AW := Lib.hid (fun W => awake7_any W)
  have NW := Lib.hid (fun W => new_any s W)
  obtain ⟨p, q, r, x, y, z, i, e1, p1, e2, p2, e3, e4, e5, hi, e6⟩ := two_goes s n m hs
  have SA := Lib.hid (fun W => skip_any s 0 0 0 n (by omega) (plc_new s) (by omega) W)
  rw [Int.toNat_natCast, e1, Nat.zero_add] at SA
  have SB := Lib.hid (fun W => skip_any s p q r m (by omega) p1 (by omega) W)
  obtain ⟨e21, e22⟩ := Prod.mk.inj e2
  rw [Int.toNat_natCast, e21, e22] at SB
  have SC := Lib.hid (fun W => skip_any s 0 0 0 ((n + m : Nat) : Int) (by omega) (plc_new s) (by omega) W)
  rw [Int.toNat_natCast, e3, Nat.zero_add] at SC
  have IA := Lib.hid (fun W => indent_any s 0 0 0 (plc_new s) (by omega) W)
  rw [e4] at IA
  have IB := Lib.hid (fun W => indent_any s x y z p2 (by omega) W)
  rw [e5] at IB
  have NA := Lib.hid (fun W => next_any s 0 0 0 (plc_new s) W)
  have NB := Lib.hid (fun W => next_any s x y z p2 W)
  rw [e6] at NB
  have RB := Lib.hid (fun W => right_any s x y z p2 W)
  generalize (⟨(nextL (s.data.toList.drop 0)).toArray⟩ : ByteArray) = Z at *
  have hj : ∃ j : Nat, i - (n + m) = j := ⟨_, rfl⟩
  obtain ⟨j, hj⟩ := hj
  rw [hj] at IB
  have HJ := Lib.hid hj
  clear e1 p1 e2 p2 e3 e4 e5 e6 e21 e22 hj
  simp only [Int.natCast_add, Int.cast_ofNat_Int] at SA SB SC IA IB NA NB RB
  go_enter Tryd.func3, Tryd.ntmps3
  go_wp2_with fail
  (with_reducible refine (NW.out _).mono ?_)
  rintro e w1 ⟨rfl, q1⟩
  go_wp2_with fail
  (with_reducible refine (SA.out _).mono ?_)
  rintro e w2 ⟨rfl, q2⟩
  have C2 := Lib.hid ((Blk.new w1 _ _).keep q2)
  have K2 := Lib.hid ((q1.alloc _).trans q2)
  clear q1 q2
  generalize w1.heap.size = C at *
  go_wp2_with fail
  (with_reducible refine (SB.out _).mono ?_)
  rintro e w3 ⟨rfl, q3⟩
  have C3 := Lib.hid (C2.out.keep q3)
  have K3 := Lib.hid (K2.out.trans q3)
  clear q3 C2 K2
  have c0 : w3.cell? ⟨C, 0, none⟩ = some (.string s) := C3.out.cell 0 rfl
  have c1 : w3.cell? ⟨C, 1, none⟩ = some (.int .i64 0) := C3.out.cell 1 rfl
  have c2 : w3.cell? ⟨C, 2, none⟩ = some (.int .i64 0) := C3.out.cell 2 rfl
  have c3 : w3.cell? ⟨C, 3, none⟩ = some (.int .i64 0) := C3.out.cell 3 rfl
  have hc := C3.out.lt
  go_wp2_with fail
  (with_reducible refine (SC.out _).mono ?_)
  rintro e w4 ⟨rfl, q4⟩
  have C4 := Lib.hid ((C3.out.alloc _).keep q4)
  have A4 := Lib.hid ((Blk.new w3 _ _).keep q4)
  have K4 := Lib.hid ((K3.out.alloc _).trans q4)
  clear q4 C3 K3 c0 c1 c2 c3 hc
  generalize w3.heap.size = A at *
  have c0 : w4.cell? ⟨C, 0, none⟩ = some (.string s) := C4.out.cell 0 rfl
  have c1 : w4.cell? ⟨C, 1, none⟩ = some (.int .i64 0) := C4.out.cell 1 rfl
  have c2 : w4.cell? ⟨C, 2, none⟩ = some (.int .i64 0) := C4.out.cell 2 rfl
  have c3 : w4.cell? ⟨C, 3, none⟩ = some (.int .i64 0) := C4.out.cell 3 rfl
  have hc := C4.out.lt
  go_wp2_with fail
  (with_reducible refine (IA.out _).mono ?_)
  rintro e w5 ⟨rfl, q5⟩
  have C5 := Lib.hid (Cur.of ((C4.out.alloc _).keep q5))
  have A5 := Lib.hid (Cur.of ((A4.out.alloc _).keep q5))
  have B5 := Lib.hid (Cur.of ((Blk.new w4 _ _).keep q5))
  have K5 := Lib.hid ((K4.out.alloc _).trans q5)
  clear q5 C4 A4 K4 c0 c1 c2 c3 hc
  generalize w4.heap.size = B at *
  have EQ := fun W => eql_cur s x y z W
  have hwn : IntKind.i64.wrap (n : Int) = n := IntWalk.i64_in _ ⟨by omega, by omega⟩
  have hwm : IntKind.i64.wrap (m : Int) = m := IntWalk.i64_in _ ⟨by omega, by omega⟩
  have hw1 : IntKind.i64.wrap ((i : Int) - n) = i - n := IntWalk.i64_in _ ⟨by omega, by omega⟩
  have hw2 : IntKind.i64.wrap ((i : Int) - n - m) = i - n - m := IntWalk.i64_in _ ⟨by omega, by omega⟩
  have hmx : max 0 ((i : Int) - n - m) = (j : Int) := by have := HJ.out; omega
  obtain ⟨u0, u1, u2, u3, hC⟩ := C5.out
  obtain ⟨v0, v1, v2, v3, hA⟩ := A5.out
  obtain ⟨t0, t1, t2, t3, hBB⟩ := B5.out
  have S5 := Lib.hid (parts_pack u0 u1 u2 u3 v0 v1 v2 v3 t0 t1 t2 t3 hC hA hBB K5.out)
  clear C5 A5 B5 K5 u0 u1 u2 u3 v0 v1 v2 v3 t0 t1 t2 t3 hC hA hBB SA SB SC IA NW hi hs hn hm
  go_wp2_with fail
  go_region_held3 (fun w' => w'.cell? ⟨C, 0, none⟩ = some (.string s) ∧ w'.cell? ⟨C, 1, none⟩ = some (.int .i64 0) ∧ w'.cell? ⟨C, 2, none⟩ = some (.int .i64 0) ∧ w'.cell? ⟨C, 3, none⟩ = some (.int .i64 0) ∧ w'.cell? ⟨A, 0, none⟩ = some (.string s) ∧ w'.cell? ⟨A, 1, none⟩ = some (.int .i64 x) ∧ w'.cell? ⟨A, 2, none⟩ = some (.int .i64 y) ∧ w'.cell? ⟨A, 3, none⟩ = some (.int .i64 z) ∧ w'.cell? ⟨B, 0, none⟩ = some (.string s) ∧ w'.cell? ⟨B, 1, none⟩ = some (.int .i64 x) ∧ w'.cell? ⟨B, 2, none⟩ = some (.int .i64 y) ∧ w'.cell? ⟨B, 3, none⟩ = some (.int .i64 z) ∧ (C < w'.heap.size ∧ A < w'.heap.size ∧ B < w'.heap.size) ∧ Keeps w w')
    (first | assumption | (exact parts_drew S5.out) | (refine parts_keep kk ?_; assumption) | (refine parts_keep kk (parts_drew ?_); assumption))
    (first
      | (go_at_call 6; (with_reducible refine (AW.out _).mono ?_); rintro e w6 ⟨rfl, kk⟩)
      | (go_at_call 10; (with_reducible refine (RB.out _).mono ?_); rintro e w6 ⟨rfl, kk⟩)
      | (go_at_call 9; (with_reducible refine (IB.out _).mono ?_); rintro e w6 ⟨rfl, kk⟩)
      | (go_at_call 11; (with_reducible refine (NA.out _).mono ?_); rintro e w6 ⟨rfl, kk⟩)
      | (go_at_call 11; (with_reducible refine (NB.out _).mono ?_); rintro e w6 ⟨rfl, kk⟩))
  all_goals
    go_wp2_with fail
    go_ret
    exact ⟨rfl, parts_end (C := C) (A := A) (B := B) (s := s) (x := x) (y := y) (z := z) (by assumption)⟩
theorem cparts_any (s : ByteArray) (n m : Nat) (hn : n < 256) (hm : m < 256) (w : World) (hs : s.size ≤ maxLen) :
    Calls Tryd.prog 3 #[.string s, .int .u8 n, .int .u8 m] w fun e w' => e = .returned (.bool true) ∧ Keeps w w' := by
  by_cases h : s.size ≤ 500
  · exact cparts_short s n m hn hm w h
  · exact cparts_long s n m w hs (by omega)
end Go.Proofs.YtcaphoonjkjlhaaDoor

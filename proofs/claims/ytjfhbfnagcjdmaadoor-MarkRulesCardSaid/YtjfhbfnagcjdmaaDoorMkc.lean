/-
  Contracts of signOf, List, of the package.
-/
import Derived.Test.YtjfhbfnagcjdmaaDoorMkb
namespace Go.Proofs.YtjfhbfnagcjdmaaDoor
open Go.RowKit Go.Lib

/-- A mark, as a value. -/
def sgnV (x : Bool × Nat × Nat × Nat) : Array Value := #[.bool x.1, .int .i64 (x.2.1 : Nat), .int .u8 (x.2.2.1 : Nat), .int .i64 (x.2.2.2 : Nat)]
theorem sgn_end {s : ByteArray} (h : decC 9 s.data.toList = s.size) : sgnL s.data.toList = (false, 0, 0, 0) := by
  unfold sgnL
  rw [List.drop_eq_nil_of_le (by rw [bytes_len]; omega)]
theorem sgn_at (s : ByteArray) (n : Nat) (e : decC 9 s.data.toList = n) (h : n < s.size) : sgnL s.data.toList = if n = 0 then (if s[n].toNat = 45 ∨ s[n].toNat = 43 ∨ s[n].toNat = 42 then (false, 0, s[n].toNat, 1) else (false, 0, 0, 0))
    else if s[n].toNat = 46 ∨ s[n].toNat = 41 then (true, decV 9 0 s.data.toList, s[n].toNat, n + 1) else (false, 0, 0, 0) := by
  unfold sgnL
  rw [e, drop_cons _ n (by rw [bytes_len]; exact h)]
  rfl
theorem sign_out {x y : Bool × Nat × Nat × Nat} {cs : Array Value} (h : x = y) (e : sgnV y = cs) : Ending.returned (.agg cs) = .returned (.agg (sgnV x)) := by rw [h, e]
set_option maxHeartbeats 2000000 in
set_option maxRecDepth 100000 in
theorem signOf_any (s : ByteArray) (w : World) (hs : s.size ≤ maxLen) :
    Calls Tryd.prog 25 #[.string s] w fun e w' => e = .returned (.agg (sgnV (sgnL s.data.toList))) ∧ Keeps w w' := by
  have NB := Lib.hid (fun W => number_any s W hs)
  unfold maxLen at hs
  have hn := (decC_le 9 s.data.toList).2
  have hn9 := (decC_le 9 s.data.toList).1
  rw [bytes_len] at hn
  have B1 := Lib.hid (Blk.new w 34 #[.bool false, .int .i64 0, .int .u8 0, .int .i64 0])
  have K1 := Lib.hid ((Keeps.refl w).alloc (.cells #[.bool false, .int .i64 0, .int .u8 0, .int .i64 0] 34))
  have HA := Lib.hid (fun n a b => sgn_at s n a b)
  have HZ := Lib.hid (@sgn_end s)
  generalize sgnL s.data.toList = x at *
  generalize decV 9 0 s.data.toList = v at *
  generalize decC 9 s.data.toList = n at *
  go_enter Tryd.func25, Tryd.ntmps25
  go_wp2_with fail
  refine (NB.out _).mono ?_
  rintro e w1 ⟨rfl, rfl⟩
  have HB : Hid (w.heap.size ≤ w.heap.size) := Lib.hid (Nat.le_refl _)
  generalize w.alloc (.cells #[.bool false, .int .i64 0, .int .u8 0, .int .i64 0] 34) = w1 at *
  obtain ⟨B, hB⟩ : ∃ B, w.heap.size = B := ⟨_, rfl⟩
  rw [hB] at B1 HB ⊢
  have HB : Hid (w.heap.size ≤ B) := Lib.hid (by omega)
  clear hB
  have y0 : w1.cell? ⟨B, 0, none⟩ = some (.bool false) := B1.out.cell 0 rfl
  have y1 : w1.cell? ⟨B, 1, none⟩ = some (.int .i64 0) := B1.out.cell 1 rfl
  have y2 : w1.cell? ⟨B, 2, none⟩ = some (.int .u8 0) := B1.out.cell 2 rfl
  have y3 : w1.cell? ⟨B, 3, none⟩ = some (.int .i64 0) := B1.out.cell 3 rfl
  have e0 := B1.out.free 0
  have e1 := B1.out.free 1
  have e2 := B1.out.free 2
  have e3 := B1.out.free 3
  have FIN := Lib.hid (fun (v0 v1 v2 v3 : Value) => And.intro ((((B1.out.set 0 v0 rfl).set 1 v1 rfl).set 2 v2 rfl).set 3 v3 rfl) ((((K1.out.set HB.out 0 v0).set HB.out 1 v1).set HB.out 2 v2).set HB.out 3 v3))
  clear NB
  by_cases h : n = s.size
  · have hb : (n == s.size) = true := beq_iff_eq.2 h
    have HE := Lib.hid (HZ.out h)
    clear h HZ HA
    go_wp2_with fail
    refine ret_blk rfl rfl rfl (FIN.out _ _ _ _).1 Tryd.underlying34 (by kernel_rfl) ⟨sign_out HE.out rfl, (FIN.out _ _ _ _).2⟩
  · have hb : (n == s.size) = false := beq_eq_false_iff_ne.2 h
    have hlt : n < s.size := by omega
    have HE := Lib.hid (HA.out n rfl hlt)
    clear h HZ HA
    by_cases m : s[n].toNat = 45 ∨ s[n].toNat = 43 ∨ s[n].toNat = 42
    · have HM : Hid (¬ (s[n].toNat = 46 ∨ s[n].toNat = 41)) := Lib.hid (by omega)
      by_cases z : n = 0
      · have HX : Hid (x = (false, 0, s[n].toNat, 1)) := Lib.hid (by have := HE.out; rw [if_pos z, if_pos m] at this; exact this)
        clear HE HM
        subst z
        rcases m with m | m | m
        · have t1 : ((s[0].toNat : Int) == 45) = true := by rw [m]; rfl
          clear m
          go_wp2_with fail
          refine ret_blk rfl rfl rfl (FIN.out _ _ _ _).1 Tryd.underlying34 (by kernel_rfl) ⟨sign_out HX.out rfl, (FIN.out _ _ _ _).2⟩
        · have t1 : ((s[0].toNat : Int) == 45) = false := by rw [m]; rfl
          have t2 : ((s[0].toNat : Int) == 43) = true := by rw [m]; rfl
          clear m
          go_wp2_with fail
          refine ret_blk rfl rfl rfl (FIN.out _ _ _ _).1 Tryd.underlying34 (by kernel_rfl) ⟨sign_out HX.out rfl, (FIN.out _ _ _ _).2⟩
        · have t1 : ((s[0].toNat : Int) == 45) = false := by rw [m]; rfl
          have t2 : ((s[0].toNat : Int) == 43) = false := by rw [m]; rfl
          have t3 : ((s[0].toNat : Int) == 42) = true := by rw [m]; rfl
          clear m
          go_wp2_with fail
          refine ret_blk rfl rfl rfl (FIN.out _ _ _ _).1 Tryd.underlying34 (by kernel_rfl) ⟨sign_out HX.out rfl, (FIN.out _ _ _ _).2⟩
      · have HX : Hid (x = (false, 0, 0, 0)) := Lib.hid (by have := HE.out; rw [if_neg z, if_neg HM.out] at this; exact this)
        have z1 : 0 < n := by omega
        clear HE HM z
        rcases m with m | m | m
        · have t1 : ((s[n].toNat : Int) == 45) = true := by rw [m]; rfl
          clear m
          go_wp2_with fail
          refine ret_blk rfl rfl rfl (FIN.out _ _ _ _).1 Tryd.underlying34 (by kernel_rfl) ⟨sign_out HX.out rfl, (FIN.out _ _ _ _).2⟩
        · have t1 : ((s[n].toNat : Int) == 45) = false := by rw [m]; rfl
          have t2 : ((s[n].toNat : Int) == 43) = true := by rw [m]; rfl
          clear m
          go_wp2_with fail
          refine ret_blk rfl rfl rfl (FIN.out _ _ _ _).1 Tryd.underlying34 (by kernel_rfl) ⟨sign_out HX.out rfl, (FIN.out _ _ _ _).2⟩
        · have t1 : ((s[n].toNat : Int) == 45) = false := by rw [m]; rfl
          have t2 : ((s[n].toNat : Int) == 43) = false := by rw [m]; rfl
          have t3 : ((s[n].toNat : Int) == 42) = true := by rw [m]; rfl
          clear m
          go_wp2_with fail
          refine ret_blk rfl rfl rfl (FIN.out _ _ _ _).1 Tryd.underlying34 (by kernel_rfl) ⟨sign_out HX.out rfl, (FIN.out _ _ _ _).2⟩
    · have t1 : ((s[n].toNat : Int) == 45) = false := beq_eq_false_iff_ne.2 (by omega)
      have t2 : ((s[n].toNat : Int) == 43) = false := beq_eq_false_iff_ne.2 (by omega)
      have t3 : ((s[n].toNat : Int) == 42) = false := beq_eq_false_iff_ne.2 (by omega)
      have HM := Lib.hid m
      clear m
      by_cases q : s[n].toNat = 46 ∨ s[n].toNat = 41
      · by_cases z : n = 0
        · have HX : Hid (x = (false, 0, 0, 0)) := Lib.hid (by have := HE.out; rw [if_pos z, if_neg HM.out] at this; exact this)
          clear HE HM
          subst z
          rcases q with q | q
          · have t4 : ((s[0].toNat : Int) == 46) = true := by rw [q]; rfl
            clear q
            go_wp2_with fail
            refine ret_blk rfl rfl rfl (FIN.out _ _ _ _).1 Tryd.underlying34 (by kernel_rfl) ⟨sign_out HX.out rfl, (FIN.out _ _ _ _).2⟩
          · have t4 : ((s[0].toNat : Int) == 46) = false := by rw [q]; rfl
            have t5 : ((s[0].toNat : Int) == 41) = true := by rw [q]; rfl
            clear q
            go_wp2_with fail
            refine ret_blk rfl rfl rfl (FIN.out _ _ _ _).1 Tryd.underlying34 (by kernel_rfl) ⟨sign_out HX.out rfl, (FIN.out _ _ _ _).2⟩
        · have HX : Hid (x = (true, v, s[n].toNat, n + 1)) := Lib.hid (by have := HE.out; rw [if_neg z, if_pos q] at this; exact this)
          have z1 : 0 < n := by omega
          clear HE HM z
          rcases q with q | q
          · have t4 : ((s[n].toNat : Int) == 46) = true := by rw [q]; rfl
            clear q
            go_wp2_with fail
            refine ret_blk rfl rfl rfl (FIN.out _ _ _ _).1 Tryd.underlying34 (by kernel_rfl) ⟨sign_out HX.out rfl, (FIN.out _ _ _ _).2⟩
          · have t4 : ((s[n].toNat : Int) == 46) = false := by rw [q]; rfl
            have t5 : ((s[n].toNat : Int) == 41) = true := by rw [q]; rfl
            clear q
            go_wp2_with fail
            refine ret_blk rfl rfl rfl (FIN.out _ _ _ _).1 Tryd.underlying34 (by kernel_rfl) ⟨sign_out HX.out rfl, (FIN.out _ _ _ _).2⟩
      · have t4 : ((s[n].toNat : Int) == 46) = false := beq_eq_false_iff_ne.2 (by omega)
        have t5 : ((s[n].toNat : Int) == 41) = false := beq_eq_false_iff_ne.2 (by omega)
        have HX : Hid (x = (false, 0, 0, 0)) := Lib.hid (by have := HE.out; rw [if_neg HM.out, if_neg q] at this; simpa using this)
        clear HE HM q
        go_wp2_with fail
        refine ret_blk rfl rfl rfl (FIN.out _ _ _ _).1 Tryd.underlying34 (by kernel_rfl) ⟨sign_out HX.out rfl, (FIN.out _ _ _ _).2⟩
theorem lst_none {l : List UInt8} (h : (sgnL l).2.2.2 = 0 ∨ apartL (l.drop (sgnL l).2.2.2) = false) : lstB l = false ∧ lstL l = (false, 0, 0, 0) := by
  have e : lstB l = false := by
    unfold lstB
    rcases h with h | h
    · rw [decide_eq_false (by omega)]; rfl
    · rw [h, Bool.and_false]
  refine ⟨e, ?_⟩
  unfold lstL
  rw [e]; rfl
theorem lst_some {l : List UInt8} (h : (sgnL l).2.2.2 ≠ 0) (k : apartL (l.drop (sgnL l).2.2.2) = true) : lstB l = true ∧ lstL l = sgnL l := by
  have e : lstB l = true := by
    unfold lstB
    rw [decide_eq_true h, k]; rfl
  refine ⟨e, ?_⟩
  unfold lstL
  rw [e]; rfl
set_option maxHeartbeats 2000000 in
set_option maxRecDepth 100000 in
theorem mlist_any (s : ByteArray) (w : World) (hs : s.size ≤ maxLen) :
    Calls Tryd.prog 13 #[.string s] w fun e w' => e = .returned (.tuple #[.agg (sgnV (lstL s.data.toList)), .bool (lstB s.data.toList)]) ∧ Keeps w w' := by
  have SG := Lib.hid (fun W => signOf_any s W hs)
  unfold maxLen at hs
  have hn := sgn_le s.data.toList
  rw [bytes_len] at hn
  have B0 := Lib.hid (Blk.new w 34 #[.bool false, .int .i64 0, .int .u8 0, .int .i64 0])
  have K0 := Lib.hid ((Keeps.refl w).alloc (.cells #[.bool false, .int .i64 0, .int .u8 0, .int .i64 0] 34))
  have AP := Lib.hid (fun W => apart_any (s.extract (sgnL s.data.toList).2.2.2 s.size) W)
  rw [Lib.extract_to_end] at AP
  have HN := Lib.hid (@lst_none s.data.toList)
  have HS := Lib.hid (@lst_some s.data.toList)
  have HW : Hid ((sgnV (sgnL s.data.toList)) = #[.bool (sgnL s.data.toList).1, .int .i64 ((sgnL s.data.toList).2.1 : Nat), .int .u8 ((sgnL s.data.toList).2.2.1 : Nat), .int .i64 ((sgnL s.data.toList).2.2.2 : Nat)]) := Lib.hid rfl
  generalize lstL s.data.toList = y at *
  generalize lstB s.data.toList = z at *
  generalize apartL (s.data.toList.drop (sgnL s.data.toList).2.2.2) = p at *
  generalize sgnL s.data.toList = x at *
  obtain ⟨x0, x1, x2, n⟩ := x
  dsimp only at *
  rw [HW.out] at SG
  go_enter Tryd.func13, Tryd.ntmps13
  go_wp2_with fail
  refine (SG.out _).mono ?_
  rintro e w1 ⟨rfl, k1⟩
  have B1 := Lib.hid ((B0.out.keep k1).alloc (.cells #[.bool x0, .int .i64 (x1 : Nat), .int .u8 (x2 : Nat), .int .i64 (n : Nat)] 34))
  have K1 := Lib.hid ((K0.out.trans k1).alloc (.cells #[.bool x0, .int .i64 (x1 : Nat), .int .u8 (x2 : Nat), .int .i64 (n : Nat)] 34))
  have C1 := Lib.hid (Blk.new w1 34 #[.bool x0, .int .i64 (x1 : Nat), .int .u8 (x2 : Nat), .int .i64 (n : Nat)])
  clear k1 B0 K0 SG
  obtain ⟨B, hB⟩ : ∃ B, w.heap.size = B := ⟨_, rfl⟩
  rw [hB] at B1 ⊢
  have HB : Hid (w.heap.size ≤ B) := Lib.hid (by omega)
  clear hB
  have y0 : (w1.alloc (.cells #[.bool x0, .int .i64 (x1 : Nat), .int .u8 (x2 : Nat), .int .i64 (n : Nat)] 34)).cell? ⟨B, 0, none⟩ = some (.bool false) := B1.out.cell 0 rfl
  have y1 : (w1.alloc (.cells #[.bool x0, .int .i64 (x1 : Nat), .int .u8 (x2 : Nat), .int .i64 (n : Nat)] 34)).cell? ⟨B, 1, none⟩ = some (.int .i64 0) := B1.out.cell 1 rfl
  have y2 : (w1.alloc (.cells #[.bool x0, .int .i64 (x1 : Nat), .int .u8 (x2 : Nat), .int .i64 (n : Nat)] 34)).cell? ⟨B, 2, none⟩ = some (.int .u8 0) := B1.out.cell 2 rfl
  have y3 : (w1.alloc (.cells #[.bool x0, .int .i64 (x1 : Nat), .int .u8 (x2 : Nat), .int .i64 (n : Nat)] 34)).cell? ⟨B, 3, none⟩ = some (.int .i64 0) := B1.out.cell 3 rfl
  have e0 := B1.out.free 0
  have e1 := B1.out.free 1
  have e2 := B1.out.free 2
  have e3 := B1.out.free 3
  have FIN := Lib.hid (fun (v0 v1 v2 v3 : Value) => And.intro ((((B1.out.set 0 v0 rfl).set 1 v1 rfl).set 2 v2 rfl).set 3 v3 rfl) ((((K1.out.set HB.out 0 v0).set HB.out 1 v1).set HB.out 2 v2).set HB.out 3 v3))
  clear B1 K1 C1
  by_cases h : n = 0
  · have HE := Lib.hid (HN.out (.inl h))
    have t1 : ((n : Int) == 0) = true := by rw [h]; rfl
    clear h HN HS
    go_wp2_with fail
    refine ret_blk2 rfl rfl rfl rfl (FIN.out _ _ _ _).1 Tryd.underlying34 (by kernel_rfl) ⟨?_, (FIN.out _ _ _ _).2⟩
    rw [HE.out.1, HE.out.2]; rfl
  · have t1 : ((n : Int) == 0) = false := beq_eq_false_iff_ne.2 (by omega)
    cases p with
    | false =>
      have HE := Lib.hid (HN.out (.inr rfl))
      clear h HN HS
      go_wp2_with fail
      refine (AP.out _).mono ?_
      rintro e w3 ⟨rfl, rfl⟩
      go_wp2_with fail
      refine ret_blk2 rfl rfl rfl rfl (FIN.out _ _ _ _).1 Tryd.underlying34 (by kernel_rfl) ⟨?_, (FIN.out _ _ _ _).2⟩
      rw [HE.out.1, HE.out.2]; rfl
    | true =>
      have HE := Lib.hid (HS.out h rfl)
      clear h HN HS
      go_wp2_with fail
      refine (AP.out _).mono ?_
      rintro e w3 ⟨rfl, rfl⟩
      go_wp2_with fail
      refine ret_blk2 rfl rfl rfl rfl (FIN.out _ _ _ _).1 Tryd.underlying34 (by kernel_rfl) ⟨?_, (FIN.out _ _ _ _).2⟩
      rw [HE.out.1, HE.out.2]; rfl
end Go.Proofs.YtjfhbfnagcjdmaaDoor

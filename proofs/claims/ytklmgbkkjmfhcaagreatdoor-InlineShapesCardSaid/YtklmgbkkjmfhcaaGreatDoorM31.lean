/-
  Texts of the proof, one behind the other: Rwf, Rwg, Rwh, Rwi.
-/
import Derived.Test.YtklmgbkkjmfhcaaGreatDoorM19
import Derived.Test.YtklmgbkkjmfhcaaGreatDoorM15
/-
  strings.SplitSeq at a point: whoever ranges over it is told the parts between the points, in order, or the first of these.
-/
namespace Go.Proofs.YtklmgbkkjmfhcaaGreatDoor
open Go.RowKit Go.Lib Go.Shelf

attribute [local go_sem] Oper.semAt_some

theorem prt_none : ∀ {l : List UInt8}, indexByte l 46 = -1 → prtL l = [l]
  | [], _ => rfl
  | b :: l, h => by
    unfold indexByte at h
    by_cases hb : b = 46
    · subst hb; simp at h
    · have hb1 : (b == 46) = false := by simpa using hb
      have hb2 : ¬ b.toNat = 46 := fun e => hb (UInt8.toNat_inj.1 e)
      rw [hb1] at h
      by_cases hl : indexByte l 46 = -1
      · rw [prtL, if_neg hb2, prt_none hl]
      · have := indexByte_ge l 46
        simp [hl] at h
        omega
theorem prt_some : ∀ {l : List UInt8} {i : Nat}, indexByte l 46 = i → prtL l = l.take i :: prtL (l.drop (i + 1)) ∧ i < l.length
  | [], i, h => by simp [indexByte] at h
  | b :: l, i, h => by
    unfold indexByte at h
    by_cases hb : b = 46
    · subst hb
      simp at h
      have : i = 0 := by omega
      subst this
      exact ⟨rfl, by simp⟩
    · have hb1 : (b == 46) = false := by simpa using hb
      have hb2 : ¬ b.toNat = 46 := fun e => hb (UInt8.toNat_inj.1 e)
      rw [hb1] at h
      by_cases hl : indexByte l 46 = -1
      · simp [hl] at h
      · have hg := indexByte_ge l 46
        have e : (if false = true then (0 : Int) else if (indexByte l 46 == -1) = true then -1 else indexByte l 46 + 1) = indexByte l 46 + 1 := by simp [hl]
        rw [e] at h
        obtain ⟨j, rfl⟩ : ∃ j, i = j + 1 := ⟨i - 1, by omega⟩
        obtain ⟨h1, h2⟩ := prt_some (l := l) (i := j) (by omega)
        refine ⟨?_, by rw [List.length_cons]; omega⟩
        rw [prtL, if_neg hb2, h1]
        rfl

/-- What is left in the box. -/
def boxLeft (b : Nat) (W : World) : Nat := match W.cell? ⟨b, 0, none⟩ with
  | some (.string s) => s.size
  | _ => 0
theorem boxLeft_eq {b t : Nat} {W : World} {s : ByteArray} (h : Blk W b t #[.string s]) : boxLeft b W = s.size := by
  unfold boxLeft
  rw [h.cell 0 rfl]
  rfl

/-- The parts that a list of texts is. -/
def partsOf (xs : List ByteArray) : List (List UInt8) := xs.map (fun x => x.data.toList)
theorem partsOf_snoc (xs : List ByteArray) (x : ByteArray) : partsOf (xs ++ [x]) = partsOf xs ++ [x.data.toList] := by simp [partsOf]

set_option maxRecDepth 100000 in
set_option maxHeartbeats 2000000 in
theorem split1_in (n : Nat) (hn : 1 ≤ n) (s : ByteArray) (hs : s.size ≤ 100000) (Bs : Nat) (w : World)
    (hB : Bs + 2 < w.heap.size) (b0 : Blk w Bs 9 #[.string s]) (b1 : Blk w (Bs + 1) 9 #[.string ⟨#[46]⟩]) (b2 : Blk w (Bs + 2) 3 #[.int .i64 0]) :
    SeqBox n Tryz.prog 147 #[.pointer (some ⟨Bs + 1, 0, none⟩), .pointer (some ⟨Bs, 0, none⟩), .pointer (some ⟨Bs + 2, 0, none⟩)] (fun x : ByteArray => #[.string x]) (fun x => x.size ≤ 100000) Bs
      (fun xs => partsOf xs = prtL s.data.toList) (fun pre => ∃ r, prtL s.data.toList = partsOf pre ++ r) w := by
  intro l J Jx W hK hJ hJx hY h0
  have HJ := Lib.hid hJ
  have HJX := Lib.hid hJx
  have HY := Lib.hid hY
  have H0 := Lib.hid h0
  have HW : Hid (∀ k, k < w.heap.size → k ≠ Bs → W.heap[k]? = w.heap[k]?) := Lib.hid fun k hk _ => hK.block k hk
  have HB0 : Hid (Blk W Bs 9 #[.string s]) := Lib.hid (b0.keep hK)
  have B1 : Hid (∀ A : World, (∀ k, k < w.heap.size → k ≠ Bs → A.heap[k]? = w.heap[k]?) → Blk A (Bs + 1) 9 #[.string ⟨#[46]⟩]) := Lib.hid fun A hA => (hA (Bs + 1) (by omega) (by omega)).trans b1
  have B2 : Hid (∀ A : World, (∀ k, k < w.heap.size → k ≠ Bs → A.heap[k]? = w.heap[k]?) → Blk A (Bs + 2) 3 #[.int .i64 0]) := Lib.hid fun A hA => (hA (Bs + 2) (by omega) (by omega)).trans b2
  have HBs : Hid (Bs < w.heap.size) := Lib.hid (by omega)
  have IX := Lib.hid (fun a W => (Tryz.strings_Index_one a 46 W).mono (fun _ _ h => And.intro h.1 h.2.symm))
  have c1 := (B1.out W HW.out).cell 0 rfl
  clear hJ hJx hY h0 hK b0 b1 b2 hB
  refine callsIn_of_wp Tryz.func147 rfl trivial ?_ rfl
  simp only [Tryz.ntmps147, List.size_toArray, List.length_cons, List.length_nil, Nat.reduceAdd, Nat.reduceSub, Array.replicate_succ, Array.replicate_zero, List.push_toArray, List.append_toArray, List.nil_append, List.cons_append]
  gi_wp2_with fail
  gi_loopw [] (fun wr => ∃ (pre : List ByteArray) (r : ByteArray), r.size ≤ 100000 ∧ Hid (prtL s.data.toList = partsOf pre ++ prtL r.data.toList) ∧ Hid (J pre wr) ∧ Hid (∀ k, k < w.heap.size → k ≠ Bs → wr.heap[k]? = w.heap[k]?) ∧ Hid (Blk wr Bs 9 #[.string r])) (fun wr => boxLeft Bs wr)
  case atStart => exact ⟨[], s, hs, Lib.hid rfl, H0, HW, HB0⟩
  case round =>
    obtain ⟨pre, r, hr, HP, HJ1, HWr, HB⟩ := hrel
    have c0 := HB.out.cell 0 rfl
    have c1 := (B1.out wr HWr.out).cell 0 rfl
    have c2 := (B2.out wr HWr.out).cell 0 rfl
    have I1 := Lib.hid (fun W => IX.out r W)
    by_cases hx : indexByte r.data.toList 46 = -1
    · obtain ⟨fn, tmps, assign, body, hy, hR⟩ := HY.out pre r wr hr HJ1.out
      rw [hx] at I1
      have HE : Hid (partsOf (pre ++ [r]) = prtL s.data.toList) := Lib.hid (by rw [HP.out, prt_none hx, partsOf_snoc])
      clear hx HP HJ HJX HY H0
      gi_wp2_with fail
      refine ⟨trivial, (callsIn_wide.2 (I1.out _)).mono ?_⟩
      rintro e w1 ⟨rfl, rfl⟩
      gi_wp2_with fail
      refine hR.mono ?_
      rintro e W3 (⟨rfl, hJ3, _⟩ | ⟨rfl, hJ3⟩)
      · gi_wp2_with fail
        go_end0
        exact ⟨⟨_, rfl⟩, .inl ⟨_, HE.out, hJ3⟩⟩
      · gi_wp2_with fail
        go_end0
        exact ⟨⟨_, rfl⟩, .inr ⟨_, ⟨[], by rw [List.append_nil]; exact HE.out.symm⟩, hJ3⟩⟩
    · have hg := indexByte_ge r.data.toList 46
      obtain ⟨i, hi⟩ : ∃ i : Nat, indexByte r.data.toList 46 = i := ⟨_, (Int.toNat_of_nonneg (by omega)).symm⟩
      obtain ⟨p1, p2⟩ := prt_some hi
      rw [bytes_len] at p2
      rw [hi] at I1
      obtain ⟨fn, tmps, assign, body, hy, hR⟩ := HY.out pre (r.extract 0 i) wr (by rw [ByteArray.size_extract]; omega) HJ1.out
      have ex : (r.extract 0 i).data.toList = r.data.toList.take i := by rw [ext_take]
      have HE : Hid (prtL s.data.toList = partsOf (pre ++ [r.extract 0 i]) ++ prtL (r.extract (i + 1) r.size).data.toList) := Lib.hid (by
        rw [HP.out, p1, partsOf_snoc, ex, Lib.extract_to_end, List.append_assoc]
        rfl)
      have i1 : IntKind.i64.wrap ((i : Int) + 1) = (i : Int) + 1 := IntWalk.i64_in _ ⟨by omega, by omega⟩
      have i2 : ((i : Int) + 1).toNat = i + 1 := by omega
      clear hx hg hi p1 ex HP H0
      gi_wp2_with fail
      refine ⟨trivial, (callsIn_wide.2 (I1.out _)).mono ?_⟩
      rintro e w1 ⟨rfl, rfl⟩
      gi_wp2_with fail
      refine hR.mono ?_
      rintro e W3 (⟨rfl, hJ3, hk3⟩ | ⟨rfl, hJ3⟩)
      · have HJ3 := Lib.hid hJ3
        have HW3 : Hid (∀ k, k < w.heap.size → k ≠ Bs → W3.heap[k]? = w.heap[k]?) := Lib.hid fun k hk hb => (hk3 k hk).trans (HWr.out k hk hb)
        have HB3 : Hid (Blk W3 Bs 9 #[.string r]) := Lib.hid ((hk3 Bs HBs.out).trans HB.out)
        have d0 := HB3.out.cell 0 rfl
        have d1 := (B1.out W3 HW3.out).cell 0 rfl
        have f0 := HB3.out.free 0
        have HJ4 := Lib.hid (HJ.out _ W3 (.string (r.extract (i + 1) r.size)) HJ3.out)
        have HB4 : Hid (Blk (W3.setCell ⟨Bs, 0, none⟩ (.string (r.extract (i + 1) r.size))) Bs 9 #[.string (r.extract (i + 1) r.size)]) := Lib.hid (HB3.out.set 0 _ rfl)
        have HW4 : Hid (∀ k, k < w.heap.size → k ≠ Bs → (W3.setCell ⟨Bs, 0, none⟩ (.string (r.extract (i + 1) r.size))).heap[k]? = w.heap[k]?) := Lib.hid fun k hk hb => (Below.heap_setCell W3 ⟨Bs, 0, none⟩ _ k hb).trans (HW3.out k hk hb)
        clear hJ3 hk3 hy c0 c1 c2
        gi_wp2_with fail
        go_roundw
        case rel => exact ⟨_, r.extract (i + 1) r.size, by rw [ByteArray.size_extract]; omega, HE, HJ4, HW4, HB4⟩
        case measure =>
          rw [boxLeft_eq HB4.out, boxLeft_eq HB.out, ByteArray.size_extract]
          omega
      · gi_wp2_with fail
        refine bodyPost_ret (results_none rfl _ _ _) rfl ?_
        exact ⟨⟨_, rfl⟩, .inr ⟨_, ⟨_, HE.out⟩, hJ3⟩⟩

/-- The world in which strings.SplitSeq has laid its three boxes. -/
def splitW (s : ByteArray) (w : World) : World := ((w.alloc (.cells #[.string s] 9)).alloc (.cells #[.string ⟨#[46]⟩] 9)).alloc (.cells #[.int .i64 0] 3)
theorem splitW_boxes (s : ByteArray) (w : World) : Blk (splitW s w) w.heap.size 9 #[.string s] ∧ Blk (splitW s w) (w.heap.size + 1) 9 #[.string ⟨#[46]⟩] ∧ Blk (splitW s w) (w.heap.size + 2) 3 #[.int .i64 0] := by
  refine ⟨((Blk.new w _ _).alloc _).alloc _, ?_, ?_⟩
  · have := (Blk.new (w.alloc (.cells #[.string s] 9)) 9 #[.string ⟨#[46]⟩]).alloc (.cells #[.int .i64 0] 3)
    rw [World.size_alloc] at this
    exact this
  · have := Blk.new ((w.alloc (.cells #[.string s] 9)).alloc (.cells #[.string ⟨#[46]⟩] 9)) 3 #[.int .i64 0]
    rw [World.size_alloc, World.size_alloc] at this
    exact this
/-- What it hands back. -/
def splitF (b : Nat) : Value := .func (.func 147) #[] #[.pointer (some ⟨b + 1, 0, none⟩), .pointer (some ⟨b, 0, none⟩), .pointer (some ⟨b + 2, 0, none⟩)]
set_option maxRecDepth 100000 in
set_option maxHeartbeats 1000000 in
theorem splitSeq1_any (s : ByteArray) (w : World) :
    Calls Tryz.prog 121 #[.string s, .string ⟨#[46]⟩, .int .i64 0] w fun e w' => e = .returned (splitF w.heap.size) ∧ w' = splitW s w := by
  go_enter Tryz.func121, Tryz.ntmps121
  go_wp2_with fail
  go_ret
  exact ⟨rfl, rfl⟩
set_option maxRecDepth 100000 in
set_option maxHeartbeats 1000000 in
theorem splitSeq_any (s : ByteArray) (w : World) :
    Calls Tryz.prog 89 #[.string s, .string ⟨#[46]⟩] w fun e w' => e = .returned (splitF w.heap.size) ∧ w' = splitW s w := by
  have SP := Lib.hid (fun W => splitSeq1_any s W)
  go_enter Tryz.func89, Tryz.ntmps89
  go_wp2_with fail
  refine (SP.out _).mono ?_
  rintro e w1 ⟨rfl, rfl⟩
  go_wp2_with fail
  go_ret
  exact ⟨rfl, rfl⟩
end Go.Proofs.YtklmgbkkjmfhcaaGreatDoor

/-
  Contracts of host, address, of the package raw, for texts of at most 100,000 bytes.
-/
namespace Go.Proofs.YtklmgbkkjmfhcaaGreatDoor
open Go.RowKit Go.Lib Go.Shelf

theorem hst_split (p : List UInt8) : hstB p = (!p.isEmpty && decide (p.length ≤ 63) && !hasPrefix p [45] && !hasSuffix p [45] && decide (cntP rNam p = p.length)) := rfl
set_option maxRecDepth 100000 in
set_option maxHeartbeats 1000000 in
theorem host_any (s : ByteArray) (w : World) (hs : s.size ≤ 100000) :
    Calls Tryz.prog 90 #[.string s] w fun e w' => e = .returned (.bool (hstB s.data.toList)) ∧ Keeps w w' := by
  by_cases h0 : s.size = 0
  · obtain rfl := bytes_none h0
    go_enter Tryz.func90, Tryz.ntmps90
    go_wp2_with fail
    go_ret
    exact ⟨rfl, Keeps.refl _⟩
  · have hp : 0 < s.size := by omega
    have u0 := tl_ne hp
    have u1 := tl_empty hp
    have HP := Lib.hid (fun W => (Tryz.strings_HasPrefix s ⟨#[45]⟩ W).mono (fun _ _ h => And.intro h.1 h.2.symm))
    have HS := Lib.hid (fun W => suffix_any s ⟨#[45]⟩ W hs)
    rw [show (⟨#[45]⟩ : ByteArray).data.toList = [45] from rfl] at HP HS
    have ST := Lib.hid (fun W => stretch_rNam s W hs)
    have e0 : s.data.toList.isEmpty = false := by
      cases e : s.data.toList with
      | nil =>
        have := bytes_len s
        rw [e] at this
        simp at this
        omega
      | cons a b => rfl
    rw [hst_split, e0, bytes_len]
    generalize cntP rNam s.data.toList = n at *
    by_cases c1 : s.size ≤ 63
    · have q1 : decide ((63 : Int) < (s.size : Int)) = false := decide_eq_false (by omega)
      rw [decide_eq_true c1]
      cases c2 : hasPrefix s.data.toList [45] with
      | true =>
        rw [c2] at HP
        generalize hasSuffix s.data.toList [45] = q at *
        clear h0 c1 c2 e0
        go_enter Tryz.func90, Tryz.ntmps90
        go_wp2_with fail
        refine (HP.out _).mono ?_
        rintro e w1 ⟨rfl, rfl⟩
        go_wp2_with fail
        go_ret
        exact ⟨ret_bool (by simp), Keeps.refl _⟩
      | false =>
        rw [c2] at HP
        cases c3 : hasSuffix s.data.toList [45] with
        | true =>
          rw [c3] at HS
          clear h0 c1 c2 c3 e0
          go_enter Tryz.func90, Tryz.ntmps90
          go_wp2_with fail
          refine (HP.out _).mono ?_
          rintro e w1 ⟨rfl, rfl⟩
          go_wp2_with fail
          refine (HS.out _).mono ?_
          rintro e w1 ⟨rfl, k1⟩
          go_wp2_with fail
          go_ret
          exact ⟨ret_bool (by simp), k1⟩
        | false =>
          rw [c3] at HS
          by_cases c4 : n = s.size
          · have q4 := beqT (show (n : Int) = (s.size : Int) by omega)
            rw [decide_eq_true c4]
            clear h0 c1 c2 c3 c4 e0
            go_enter Tryz.func90, Tryz.ntmps90
            go_wp2_with fail
            refine (HP.out _).mono ?_
            rintro e w1 ⟨rfl, rfl⟩
            go_wp2_with fail
            refine (HS.out _).mono ?_
            rintro e w1 ⟨rfl, k1⟩
            go_wp2_with fail
            refine (ST.out _).mono ?_
            rintro e w2 ⟨rfl, rfl⟩
            go_wp2_with fail
            go_ret
            exact ⟨rfl, k1⟩
          · have q4 := beqF (show ¬ (n : Int) = (s.size : Int) by omega)
            rw [decide_eq_false c4]
            clear h0 c1 c2 c3 c4 e0
            go_enter Tryz.func90, Tryz.ntmps90
            go_wp2_with fail
            refine (HP.out _).mono ?_
            rintro e w1 ⟨rfl, rfl⟩
            go_wp2_with fail
            refine (HS.out _).mono ?_
            rintro e w1 ⟨rfl, k1⟩
            go_wp2_with fail
            refine (ST.out _).mono ?_
            rintro e w2 ⟨rfl, rfl⟩
            go_wp2_with fail
            go_ret
            exact ⟨rfl, k1⟩
    · have q1 : decide ((63 : Int) < (s.size : Int)) = true := decide_eq_true (by omega)
      rw [decide_eq_false c1]
      clear h0 c1 e0
      go_enter Tryz.func90, Tryz.ntmps90
      go_wp2_with fail
      go_ret
      exact ⟨ret_bool (by simp), Keeps.refl _⟩

/-! ### Cut at an @ -/
theorem at_none : ∀ {l : List UInt8}, indexByte l 64 = -1 → cntP notAt l = l.length
  | [], _ => rfl
  | b :: l, h => by
    unfold indexByte at h
    by_cases hb : b = 64
    · subst hb; simp at h
    · have hb1 : (b == 64) = false := by simpa using hb
      have hb2 : notAt b = true := decide_eq_true (fun e => hb (UInt8.toNat_inj.1 e))
      rw [hb1] at h
      by_cases hl : indexByte l 64 = -1
      · rw [cntP_yes _ hb2, at_none hl, List.length_cons]
      · have := indexByte_ge l 64
        simp [hl] at h
        omega
theorem at_some : ∀ {l : List UInt8} {i : Nat}, indexByte l 64 = i → cntP notAt l = i ∧ i < l.length
  | [], i, h => by simp [indexByte] at h
  | b :: l, i, h => by
    unfold indexByte at h
    by_cases hb : b = 64
    · subst hb
      simp at h
      have : i = 0 := by omega
      subst this
      exact ⟨cntP_no _ (by decide), by simp⟩
    · have hb1 : (b == 64) = false := by simpa using hb
      have hb2 : notAt b = true := decide_eq_true (fun e => hb (UInt8.toNat_inj.1 e))
      rw [hb1] at h
      by_cases hl : indexByte l 64 = -1
      · simp [hl] at h
      · have hg := indexByte_ge l 64
        have e : (if false = true then (0 : Int) else if (indexByte l 64 == -1) = true then -1 else indexByte l 64 + 1) = indexByte l 64 + 1 := by simp [hl]
        rw [e] at h
        obtain ⟨j, rfl⟩ : ∃ j, i = j + 1 := ⟨i - 1, by omega⟩
        obtain ⟨h1, h2⟩ := at_some (l := l) (i := j) (by omega)
        exact ⟨by rw [cntP_yes _ hb2, h1], by rw [List.length_cons]; omega⟩
theorem rcut_at (l : List UInt8) : cut l [64] = if cntP notAt l < l.length then (adrU l, adrR l, true) else (l, [], false) := by
  unfold cut
  rw [index_one]
  by_cases hl : indexByte l 64 = -1
  · rw [at_none hl, if_neg (by omega), if_neg (by omega)]
  · have hg := indexByte_ge l 64
    obtain ⟨i, hi⟩ : ∃ i : Nat, indexByte l 64 = i := ⟨_, (Int.toNat_of_nonneg (by omega)).symm⟩
    obtain ⟨h1, h2⟩ := at_some hi
    unfold adrU adrR
    rw [h1, if_pos h2, hi]
    simp
theorem cutAt_any (s : ByteArray) (w : World) (hs : s.size ≤ 100000) (h : Mxl w) :
    Calls Tryz.prog 87 #[.string s, .string ⟨#[64]⟩] w fun e w' => e = .returned (.tuple #[.string ⟨(cut s.data.toList [64]).1.toArray⟩, .string ⟨(cut s.data.toList [64]).2.1.toArray⟩, .bool (cut s.data.toList [64]).2.2]) ∧ ∃ n, w' = w.drewN n := by
  obtain ⟨m, hm⟩ := h
  exact Tryz.strings_Cut s ⟨#[64]⟩ m w (by omega) hm
end Go.Proofs.YtklmgbkkjmfhcaaGreatDoor

/-
  Contract of address, of the package raw, for texts of at most 100,000 bytes.
-/
namespace Go.Proofs.YtklmgbkkjmfhcaaGreatDoor
open Go.RowKit Go.Lib Go.Shelf

attribute [local go_sem] Oper.semAt_some

theorem adr_no {t : List UInt8} (h : ¬ cntP notAt t < t.length) : adrB t = false := by unfold adrB; rw [decide_eq_false h]; rfl
theorem adr_at {t : List UInt8} (h : cntP notAt t < t.length) : adrB t = (!(adrU t).isEmpty && decide (cntP rUsr (adrU t) = (adrU t).length) && (prtL (adrR t)).all hstB) := by unfold adrB; rw [decide_eq_true h]; rfl
/-- A result that lies in a box. -/
theorem ret_box {fn : Func} {p : Tmp} {tmps : Array Value} {w : World} {g t : Nat} {v : Value} (hres : fn.results = #[.cell p 4]) (hp : tmps[p]?.getD undef = .pointer (some ⟨g, 0, none⟩)) (hb : Blk w g t #[v]) : (results fn tmps).run Tryz.prog w = .ok v w := by
  have hc := hb.cell 0 (v := v) rfl
  simp [results, hres, hp, asAddr, go_sem, hc]

set_option maxRecDepth 100000 in
set_option maxHeartbeats 2000000 in
theorem address_in (n : Nat) (hn : 5 ≤ n) (s : ByteArray) (w : World) (hs : s.size ≤ 100000) (hm : Mxl w) :
    CallsIn Fence.wide n Tryz.prog 53 #[.string s] w fun e w' => e = .returned (.bool (adrB s.data.toList)) ∧ Keeps w w' := by
  have h1 : 1 ≤ n := by omega
  have HM := Lib.hid hm
  have CU := Lib.hid (fun W h => cutAt_any s W hs h)
  rw [rcut_at] at CU
  have HK0 : Hid (Mxl (w.alloc (.cells #[.bool false] 4))) := Lib.hid (Mxl.keep hm ((Keeps.refl w).alloc _))
  clear hm
  by_cases c0 : cntP notAt s.data.toList < s.data.toList.length
  · rw [if_pos c0] at CU
    rw [adr_at c0]
    have C1 := Lib.hid (CU.out _ HK0.out)
    clear c0 CU
    obtain ⟨u, hu⟩ : ∃ u : ByteArray, (⟨(adrU s.data.toList).toArray⟩ : ByteArray) = u := ⟨_, rfl⟩
    obtain ⟨r, hr⟩ : ∃ r : ByteArray, (⟨(adrR s.data.toList).toArray⟩ : ByteArray) = r := ⟨_, rfl⟩
    have ul : u.data.toList = adrU s.data.toList := by rw [← hu]
    have rl : r.data.toList = adrR s.data.toList := by rw [← hr]
    have uz : u.size ≤ 100000 := by rw [← bytes_len, ul]; unfold adrU; rw [List.length_take, bytes_len]; omega
    have rz : r.size ≤ 100000 := by rw [← bytes_len, rl]; unfold adrR; rw [List.length_drop, bytes_len]; omega
    rw [← ul, ← rl]
    have ST := Lib.hid (fun W => stretch_rUsr u W uz)
    have SS := Lib.hid (fun W => splitSeq_any r W)
    have HO := Lib.hid (fun (a : ByteArray) (ha : a.size ≤ 100000) W => host_any a W ha)
    have hus := bytes_len u
    dsimp only at C1
    rw [hu, hr] at C1
    clear hu hr ul rl
    by_cases h0 : u.size = 0
    · obtain rfl := bytes_none h0
      rw [show (!(⟨#[]⟩ : ByteArray).data.toList.isEmpty) = false from rfl, Bool.false_and, Bool.false_and]
      refine callsIn_of_wp_marks Tryz.func53 rfl trivial ?_ rfl
      simp only [Tryz.ntmps53, List.size_toArray, List.length_cons, List.length_nil, Nat.reduceAdd, Nat.reduceSub, Array.replicate_succ, Array.replicate_zero, List.push_toArray, List.append_toArray, List.nil_append, List.cons_append]
      gi_wp2_with fail
      refine ⟨trivial, (callsIn_wide.2 C1.out).mono ?_⟩
      rintro e w1 ⟨rfl, m, rfl⟩
      gi_wp2_with fail
      refine ⟨trivial, ?_⟩
      gi_wp2_with fail
      exact ⟨_, ret_box rfl rfl (((Blk.new w 4 #[.bool false]).drewN m).set 0 _ rfl), rfl, (((Keeps.refl w).alloc _).drewN m).set (Nat.le_refl _) 0 _⟩
    · have up : 0 < u.size := by omega
      have u0 := tl_ne up
      have u1 := tl_empty up
      rw [show u.data.toList.isEmpty = false from by
        cases e : u.data.toList with
        | nil =>
          rw [e] at hus
          simp at hus
          omega
        | cons a b => rfl]
      have hn2 := cntP_le rUsr u.data.toList
      rw [hus] at hn2 ⊢
      generalize cntP rUsr u.data.toList = k at *
      by_cases c1 : k = u.size
      · have q1 : decide ((k : Int) < (u.size : Int)) = false := decide_eq_false (by omega)
        rw [decide_eq_true c1]
        refine callsIn_of_wp_marks Tryz.func53 rfl trivial ?_ rfl
        simp only [Tryz.ntmps53, List.size_toArray, List.length_cons, List.length_nil, Nat.reduceAdd, Nat.reduceSub, Array.replicate_succ, Array.replicate_zero, List.push_toArray, List.append_toArray, List.nil_append, List.cons_append]
        gi_wp2_with fail
        refine ⟨trivial, (callsIn_wide.2 C1.out).mono ?_⟩
        rintro e w1 ⟨rfl, m, rfl⟩
        gi_wp2_with fail
        refine ⟨trivial, (callsIn_wide.2 (ST.out _)).mono ?_⟩
        rintro e w1 ⟨rfl, rfl⟩
        gi_wp2_with fail
        refine ⟨trivial, (callsIn_wide.2 (SS.out _)).mono ?_⟩
        rintro e w1 ⟨rfl, rfl⟩
        gi_wp2_with fail
        have n0 : (splitW r ((w.alloc (.cells #[.bool false] 4)).drewN m)).heap.size = w.heap.size + 4 := by simp [splitW]
        have R0 : Blk (splitW r ((w.alloc (.cells #[.bool false] 4)).drewN m)) w.heap.size 4 #[.bool false] := ((((Blk.new w 4 #[.bool false]).drewN m).alloc _).alloc _).alloc _
        have K0 : Keeps w (splitW r ((w.alloc (.cells #[.bool false] 4)).drewN m)) := (((((Keeps.refl w).alloc _).drewN m).alloc _).alloc _).alloc _
        have bx := splitW_boxes r ((w.alloc (.cells #[.bool false] 4)).drewN m)
        rw [show ((w.alloc (.cells #[.bool false] 4)).drewN m).heap.size = w.heap.size + 1 from by simp] at bx
        refine wpIn_rangeBox h1 (gf := 147) (lb := #[.pointer (some ⟨w.heap.size + 1 + 1, 0, none⟩), .pointer (some ⟨w.heap.size + 1, 0, none⟩), .pointer (some ⟨w.heap.size + 1 + 2, 0, none⟩)]) rfl (enters_of Tryz.func147 (by kernel_rfl) rfl)
          (split1_in (n - 1) (by omega) r rz (w.heap.size + 1) _ (by rw [n0]; omega) ?b0 ?b1 ?b2) (by rw [n0]; omega) (fun _ => rfl)
          (fun pre W => (∀ p ∈ pre, hstB p.data.toList = true) ∧ Blk W w.heap.size 4 #[.bool false] ∧ Keeps w W)
          (fun pre W => (∃ p ∈ pre, hstB p.data.toList = false) ∧ Blk W w.heap.size 4 #[.bool false] ∧ Keeps w W)
          (fun xs A B h t => ⟨h.1, (t.block _ (by rw [n0]; omega) (by omega)).trans h.2.1, t.below h.2.2 (by rw [n0]; omega) (by omega)⟩)
          (fun xs A B h t => ⟨h.1, (t.block _ (by rw [n0]; omega) (by omega)).trans h.2.1, t.below h.2.2 (by rw [n0]; omega) (by omega)⟩)
          ⟨fun p hp => (by cases hp), R0, K0⟩
          (fun x => { tmps := #[.string s, undef, .pointer (some ⟨w.heap.size, 0, none⟩), .string u, .string r, .bool true, .string x, .tuple #[.string u, .string r, .bool true], .string s, .tuple #[.string u, .string r, .bool true], .string u, .string r, .bool true, .bool true, .bool false, .bool false, .string u, .bool false, .bool false, .bool false, .string u, .int .i64 u.size, .string u, .int .i64 u.size, .bool false, .bool false, .string r, splitF (w.heap.size + 1), .string x, undef, undef, undef], defers := [] }) ?assign ?body ?done ?stop
        case b0 => exact bx.1
        case b1 => exact bx.2.1
        case b2 => exact bx.2.2
        case assign =>
          intro l x W K hK
          gi_wp2
          exact hK
        case body =>
          rintro l pre x W hx ⟨hp, hR, hK⟩ hN
          have m1 : 1 ≤ n - 1 - 1 := by omega
          have HR := Lib.hid hR
          have HKW := Lib.hid hK
          have HP := Lib.hid hp
          have H1 := Lib.hid (fun W => HO.out x hx W)
          have c0 := hR.cell 0 rfl
          clear hp hR hK
          cases hh : hstB x.data.toList with
          | true =>
            rw [hh] at H1
            gi_wp2_with fail
            refine ⟨trivial, (CallsIn.inRound l (callsIn_wide.2 (H1.out _))).mono ?_⟩
            rintro e w3 ⟨rfl, k3⟩
            have K3 := Lib.hid k3
            clear k3
            gi_wp2_with fail
            exact ⟨K3.out, fun p hp => by
              rcases List.mem_append.1 hp with hp | hp
              · exact HP.out p hp
              · rw [List.mem_singleton] at hp
                rw [hp]
                exact hh, HR.out.keep K3.out, HKW.out.trans K3.out⟩
          | false =>
            rw [hh] at H1
            gi_wp2_with fail
            refine ⟨trivial, (CallsIn.inRound l (callsIn_wide.2 (H1.out _))).mono ?_⟩
            rintro e w3 ⟨rfl, k3⟩
            have K3 := Lib.hid k3
            have R3 := Lib.hid (HR.out.keep k3)
            have c3 := R3.out.cell 0 rfl
            have f3 := R3.out.free 0
            clear k3
            gi_wp2_with fail
            exact ⟨fun k hk hk2 => (Below.heap_setCell w3 ⟨w.heap.size, 0, none⟩ _ k (by show k ≠ w.heap.size; rw [n0] at hk; omega)).trans (K3.out.block k hk2), ⟨x, List.mem_append.2 (.inr (List.mem_singleton.2 rfl)), hh⟩, R3.out.set 0 _ rfl, (HKW.out.trans K3.out).set (Nat.le_refl _) 0 _⟩
        case done =>
          rintro D ys W hD hS ⟨hp, hR, hK⟩ hDb
          rw [n0] at hD
          have c3 := hR.cell 0 rfl
          have f3 := hR.free 0
          gi_wp2
          have hDb' : (W.setCell ⟨w.heap.size, 0, none⟩ (.bool true)).heap[D]? = some (.deferred (some [])) := (Below.heap_setCell W ⟨w.heap.size, 0, none⟩ _ D (by show D ≠ w.heap.size; omega)).trans hDb
          refine ⟨by simp, .inl ⟨_, _, rfl, run_takeDeferred hDb', ?_⟩⟩
          have R4 : Blk (W.setCell ⟨w.heap.size, 0, none⟩ (.bool true)) w.heap.size 4 #[.bool true] := hR.set 0 _ rfl
          refine ⟨_, ret_box rfl rfl ((World.putObj_heap_other (by omega)).trans R4), ?_, ?_⟩
          · have : (prtL r.data.toList).all hstB = true := by
              rw [← hS, List.all_eq_true]
              intro p hp2
              obtain ⟨x, hx, rfl⟩ := List.mem_map.1 hp2
              exact hp x hx
            rw [this]
            rfl
          · exact (hK.set (Nat.le_refl _) 0 _).put (by omega) _
        case stop =>
          rintro D pre W hD ⟨t, ht⟩ ⟨⟨p, hp, hh⟩, hR, hK⟩ hDb
          rw [n0] at hD
          gi_wp2
          refine ⟨by simp, .inl ⟨_, _, rfl, run_takeDeferred hDb, ?_⟩⟩
          refine ⟨_, ret_box rfl rfl ((World.putObj_heap_other (by omega)).trans hR), ?_, ?_⟩
          · have : (prtL r.data.toList).all hstB = false := by
              rw [ht, List.all_append, Bool.and_eq_false_iff]
              left
              rw [List.all_eq_false]
              exact ⟨_, List.mem_map.2 ⟨p, hp, rfl⟩, by rw [hh]; decide⟩
            rw [this]
            rfl
          · exact hK.put (by omega) _
      · have q1 : decide ((k : Int) < (u.size : Int)) = true := decide_eq_true (by omega)
        rw [decide_eq_false c1]
        refine callsIn_of_wp_marks Tryz.func53 rfl trivial ?_ rfl
        simp only [Tryz.ntmps53, List.size_toArray, List.length_cons, List.length_nil, Nat.reduceAdd, Nat.reduceSub, Array.replicate_succ, Array.replicate_zero, List.push_toArray, List.append_toArray, List.nil_append, List.cons_append]
        gi_wp2_with fail
        refine ⟨trivial, (callsIn_wide.2 C1.out).mono ?_⟩
        rintro e w1 ⟨rfl, m, rfl⟩
        gi_wp2_with fail
        refine ⟨trivial, (callsIn_wide.2 (ST.out _)).mono ?_⟩
        rintro e w1 ⟨rfl, rfl⟩
        gi_wp2_with fail
        exact ⟨_, ret_box rfl rfl (((Blk.new w 4 #[.bool false]).drewN m).set 0 _ rfl), rfl, (((Keeps.refl w).alloc _).drewN m).set (Nat.le_refl _) 0 _⟩
  · rw [if_neg c0] at CU
    rw [adr_no c0]
    have C1 := Lib.hid (CU.out _ HK0.out)
    dsimp only at C1
    rw [bytes_mk] at C1
    clear c0 CU
    refine callsIn_of_wp_marks Tryz.func53 rfl trivial ?_ rfl
    simp only [Tryz.ntmps53, List.size_toArray, List.length_cons, List.length_nil, Nat.reduceAdd, Nat.reduceSub, Array.replicate_succ, Array.replicate_zero, List.push_toArray, List.append_toArray, List.nil_append, List.cons_append]
    gi_wp2_with fail
    refine ⟨trivial, (callsIn_wide.2 C1.out).mono ?_⟩
    rintro e w1 ⟨rfl, m, rfl⟩
    gi_wp2_with fail
    refine ⟨trivial, ?_⟩
    gi_wp2_with fail
    exact ⟨_, ret_box rfl rfl (((Blk.new w 4 #[.bool false]).drewN m).set 0 _ rfl), rfl, (((Keeps.refl w).alloc _).drewN m).set (Nat.le_refl _) 0 _⟩
theorem address_any (s : ByteArray) (w : World) (hs : s.size ≤ 100000) (hm : Mxl w) :
    Calls Tryz.prog 53 #[.string s] w fun e w' => e = .returned (.bool (adrB s.data.toList)) ∧ Keeps w w' :=
  (callsIn_wide (n := 5)).1 (address_in 5 (Nat.le_refl _) s w hs hm)
end Go.Proofs.YtklmgbkkjmfhcaaGreatDoor

/-
  Contract of Auto, of the package raw, for texts of at most 100,000 bytes.
-/
namespace Go.Proofs.YtklmgbkkjmfhcaaGreatDoor
open Go.RowKit Go.Lib

/-- What Auto tells. -/
def AutV (l : List UInt8) : Value := .tuple #[.string ⟨(autA l).toArray⟩, .string ⟨(autB l).toArray⟩, .int .i64 (autN l : Nat)]
theorem autV_sch {l : List UInt8} (h : schB (encT l) = true) : AutV l = .tuple #[.string ⟨(encT l).toArray⟩, .string ⟨(encT l).toArray⟩, .int .i64 ((encT l).length + 2 : Nat)] := by
  unfold AutV autA autB autN
  rw [if_pos h, if_pos h, if_pos h]
theorem autV_adr {l : List UInt8} (h : schB (encT l) = false) (k : adrB (encT l) = true) : AutV l = .tuple #[.string ⟨(mailto ++ encT l).toArray⟩, .string ⟨(encT l).toArray⟩, .int .i64 ((encT l).length + 2 : Nat)] := by
  unfold AutV autA autB autN
  rw [h, k]
  rfl
theorem autV_no {l : List UInt8} (h : schB (encT l) = false) (k : adrB (encT l) = false) : AutV l = .tuple #[.string ⟨#[]⟩, .string ⟨#[]⟩, .int .i64 0] := by
  unfold AutV autA autB autN
  rw [h, k]
  rfl
theorem ret_ssn {a b : ByteArray} {c d : ByteArray} {n m : Int} (h : a = b) (i : c = d) (k : n = m) : Ending.returned (.tuple #[.string a, .string c, .int .i64 n]) = .returned (.tuple #[.string b, .string d, .int .i64 m]) := by rw [h, i, k]
theorem mailto_app (t : ByteArray) : (⟨(mailto ++ t.data.toList).toArray⟩ : ByteArray) = (⟨#[109, 97, 105, 108, 116, 111, 58]⟩ : ByteArray) ++ t := bytes_eq (by rw [bytes_app]; rfl)

set_option maxRecDepth 100000 in
set_option maxHeartbeats 1000000 in
theorem auto_any (s : ByteArray) (w : World) (hs : s.size ≤ 99000) (hm : Mxl w) :
    Calls Tryz.prog 31 #[.string s] w fun e w' => e = .returned (AutV s.data.toList) ∧ Keeps w w' := by
  have EN := Lib.hid (fun W => renclosed_any s W (by omega))
  have hz := encT_le s.data.toList
  rw [bytes_len] at hz
  obtain ⟨t, ht⟩ : ∃ t : ByteArray, (⟨(encT s.data.toList).toArray⟩ : ByteArray) = t := ⟨_, rfl⟩
  have tl : t.data.toList = encT s.data.toList := by rw [← ht]
  have tz : t.size ≤ 99000 := by
    rw [← bytes_len, tl]
    rcases hz with e | e
    · rw [e]; simp
    · omega
  rw [ht] at EN
  have SC := Lib.hid (fun W => schemed_any t W (by omega))
  have AD := Lib.hid (address_any t w (by omega) hm)
  have CL := Lib.hid (fun W => clone_any t W (by omega))
  have V1 := Lib.hid (@autV_sch s.data.toList)
  have V2 := Lib.hid (@autV_adr s.data.toList)
  have V3 := Lib.hid (@autV_no s.data.toList)
  rw [← tl] at V1 V2 V3
  rw [bytes_len] at V1 V2
  rw [mailto_app] at V2
  rw [bytes_mk] at V1 V2
  clear ht tl hz hm
  cases h1 : schB t.data.toList with
  | true =>
    rw [V1.out h1]
    rw [h1] at SC
    clear h1 V1 V2 V3 AD
    go_enter Tryz.func31, Tryz.ntmps31
    go_wp2_with fail
    refine (EN.out _).mono ?_
    rintro e w1 ⟨rfl, rfl⟩
    go_wp2_with fail
    refine (SC.out _).mono ?_
    rintro e w1 ⟨rfl, rfl⟩
    go_wp2_with fail
    refine (CL.out _).mono ?_
    rintro e w1 ⟨rfl, k1⟩
    have K1 := Lib.hid k1
    clear k1
    go_wp2_with fail
    refine (CL.out _).mono ?_
    rintro e w2 ⟨rfl, k2⟩
    go_wp2_with fail
    go_ret3
    exact ⟨ret_ssn rfl rfl (by omega), K1.out.trans k2⟩
  | false =>
    rw [h1] at SC
    cases h2 : adrB t.data.toList with
    | true =>
      rw [V2.out h1 h2]
      rw [h2] at AD
      clear h1 h2 V1 V2 V3
      go_enter Tryz.func31, Tryz.ntmps31
      go_wp2_with fail
      refine (EN.out _).mono ?_
      rintro e w1 ⟨rfl, rfl⟩
      go_wp2_with fail
      refine (SC.out _).mono ?_
      rintro e w1 ⟨rfl, rfl⟩
      go_wp2_with fail
      refine AD.out.mono ?_
      rintro e w1 ⟨rfl, k1⟩
      have K1 := Lib.hid k1
      clear k1
      go_wp2_with fail
      refine (CL.out _).mono ?_
      rintro e w2 ⟨rfl, k2⟩
      go_wp2_with fail
      go_ret3
      exact ⟨ret_ssn rfl rfl (by omega), K1.out.trans k2⟩
    | false =>
      rw [V3.out h1 h2]
      rw [h2] at AD
      clear h1 h2 V1 V2 V3
      go_enter Tryz.func31, Tryz.ntmps31
      go_wp2_with fail
      refine (EN.out _).mono ?_
      rintro e w1 ⟨rfl, rfl⟩
      go_wp2_with fail
      refine (SC.out _).mono ?_
      rintro e w1 ⟨rfl, rfl⟩
      go_wp2_with fail
      refine AD.out.mono ?_
      rintro e w1 ⟨rfl, k1⟩
      go_wp2_with fail
      go_ret3
      exact ⟨rfl, k1⟩
end Go.Proofs.YtklmgbkkjmfhcaaGreatDoor


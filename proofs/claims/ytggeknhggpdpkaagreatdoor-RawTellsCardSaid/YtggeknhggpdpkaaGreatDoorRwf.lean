/-
  strings.SplitSeq at a point: whoever ranges over it is told the parts between the points, in order, or the first of these.
-/
import Derived.Test.YtggeknhggpdpkaaGreatDoorRwe
import Derived.Test.YtggeknhggpdpkaaGreatDoorBox
namespace Go.Proofs.YtggeknhggpdpkaaGreatDoor
open Go.RowKit Go.Lib Go.Shelf

attribute [local go_sem] Oper.semAt_some

theorem prt_none : ∀ {l : List UInt8}, indexByte l 46 = -1 → prtL l = [l]
  | [], _ => rfl
  | b :: l, h => by
    unfold indexByte at h
    by_cases hb : b = 46
    · subst hb; simp at h
    · have hb1 : (b == 46) = false := by simpa using hb
      have hb2 : ¬ b.toNat = 46 := fun e => hb (UInt8.toNat_inj.1 e)
      rw [hb1] at h
      by_cases hl : indexByte l 46 = -1
      · rw [prtL, if_neg hb2, prt_none hl]
      · have := indexByte_ge l 46
        simp [hl] at h
        omega
theorem prt_some : ∀ {l : List UInt8} {i : Nat}, indexByte l 46 = i → prtL l = l.take i :: prtL (l.drop (i + 1)) ∧ i < l.length
  | [], i, h => by simp [indexByte] at h
  | b :: l, i, h => by
    unfold indexByte at h
    by_cases hb : b = 46
    · subst hb
      simp at h
      have : i = 0 := by omega
      subst this
      exact ⟨rfl, by simp⟩
    · have hb1 : (b == 46) = false := by simpa using hb
      have hb2 : ¬ b.toNat = 46 := fun e => hb (UInt8.toNat_inj.1 e)
      rw [hb1] at h
      by_cases hl : indexByte l 46 = -1
      · simp [hl] at h
      · have hg := indexByte_ge l 46
        have e : (if false = true then (0 : Int) else if (indexByte l 46 == -1) = true then -1 else indexByte l 46 + 1) = indexByte l 46 + 1 := by simp [hl]
        rw [e] at h
        obtain ⟨j, rfl⟩ : ∃ j, i = j + 1 := ⟨i - 1, by omega⟩
        obtain ⟨h1, h2⟩ := prt_some (l := l) (i := j) (by omega)
        refine ⟨?_, by rw [List.length_cons]; omega⟩
        rw [prtL, if_neg hb2, h1]
        rfl

/-- What is left in the box. -/
def boxLeft (b : Nat) (W : World) : Nat := match W.cell? ⟨b, 0, none⟩ with
  | some (.string s) => s.size
  | _ => 0
theorem boxLeft_eq {b t : Nat} {W : World} {s : ByteArray} (h : Blk W b t #[.string s]) : boxLeft b W = s.size := by
  unfold boxLeft
  rw [h.cell 0 rfl]
  rfl

/-- The parts that a list of texts is. -/
def partsOf (xs : List ByteArray) : List (List UInt8) := xs.map (fun x => x.data.toList)
theorem partsOf_snoc (xs : List ByteArray) (x : ByteArray) : partsOf (xs ++ [x]) = partsOf xs ++ [x.data.toList] := by simp [partsOf]

set_option maxRecDepth 100000 in
set_option maxHeartbeats 2000000 in
theorem split1_in (n : Nat) (hn : 1 ≤ n) (s : ByteArray) (hs : s.size ≤ 100000) (Bs : Nat) (w : World)
    (hB : Bs + 2 < w.heap.size) (b0 : Blk w Bs 9 #[.string s]) (b1 : Blk w (Bs + 1) 9 #[.string ⟨#[46]⟩]) (b2 : Blk w (Bs + 2) 3 #[.int .i64 0]) :
    SeqBox n Tryz.prog 78 #[.pointer (some ⟨Bs + 1, 0, none⟩), .pointer (some ⟨Bs, 0, none⟩), .pointer (some ⟨Bs + 2, 0, none⟩)] (fun x : ByteArray => #[.string x]) (fun x => x.size ≤ 100000) Bs
      (fun xs => partsOf xs = prtL s.data.toList) (fun pre => ∃ r, prtL s.data.toList = partsOf pre ++ r) w := by
  intro l J Jx W hK hJ hJx hY h0
  have HJ := Lib.hid hJ
  have HJX := Lib.hid hJx
  have HY := Lib.hid hY
  have H0 := Lib.hid h0
  have HW : Hid (∀ k, k < w.heap.size → k ≠ Bs → W.heap[k]? = w.heap[k]?) := Lib.hid fun k hk _ => hK.block k hk
  have HB0 : Hid (Blk W Bs 9 #[.string s]) := Lib.hid (b0.keep hK)
  have B1 : Hid (∀ A : World, (∀ k, k < w.heap.size → k ≠ Bs → A.heap[k]? = w.heap[k]?) → Blk A (Bs + 1) 9 #[.string ⟨#[46]⟩]) := Lib.hid fun A hA => (hA (Bs + 1) (by omega) (by omega)).trans b1
  have B2 : Hid (∀ A : World, (∀ k, k < w.heap.size → k ≠ Bs → A.heap[k]? = w.heap[k]?) → Blk A (Bs + 2) 3 #[.int .i64 0]) := Lib.hid fun A hA => (hA (Bs + 2) (by omega) (by omega)).trans b2
  have HBs : Hid (Bs < w.heap.size) := Lib.hid (by omega)
  have IX := Lib.hid (fun a W => (Tryz.strings_Index_one a 46 W).mono (fun _ _ h => And.intro h.1 h.2.symm))
  have c1 := (B1.out W HW.out).cell 0 rfl
  clear hJ hJx hY h0 hK b0 b1 b2 hB
  refine callsIn_of_wp Tryz.func78 rfl trivial ?_ rfl
  simp only [Tryz.ntmps78, List.size_toArray, List.length_cons, List.length_nil, Nat.reduceAdd, Nat.reduceSub, Array.replicate_succ, Array.replicate_zero, List.push_toArray, List.append_toArray, List.nil_append, List.cons_append]
  gi_wp2_with fail
  gi_loopw [] (fun wr => ∃ (pre : List ByteArray) (r : ByteArray), r.size ≤ 100000 ∧ Hid (prtL s.data.toList = partsOf pre ++ prtL r.data.toList) ∧ Hid (J pre wr) ∧ Hid (∀ k, k < w.heap.size → k ≠ Bs → wr.heap[k]? = w.heap[k]?) ∧ Hid (Blk wr Bs 9 #[.string r])) (fun wr => boxLeft Bs wr)
  case atStart => exact ⟨[], s, hs, Lib.hid rfl, H0, HW, HB0⟩
  case round =>
    obtain ⟨pre, r, hr, HP, HJ1, HWr, HB⟩ := hrel
    have c0 := HB.out.cell 0 rfl
    have c1 := (B1.out wr HWr.out).cell 0 rfl
    have c2 := (B2.out wr HWr.out).cell 0 rfl
    have I1 := Lib.hid (fun W => IX.out r W)
    by_cases hx : indexByte r.data.toList 46 = -1
    · obtain ⟨fn, tmps, assign, body, hy, hR⟩ := HY.out pre r wr hr HJ1.out
      rw [hx] at I1
      have HE : Hid (partsOf (pre ++ [r]) = prtL s.data.toList) := Lib.hid (by rw [HP.out, prt_none hx, partsOf_snoc])
      clear hx HP HJ HJX HY H0
      gi_wp2_with fail
      refine ⟨trivial, (callsIn_wide.2 (I1.out _)).mono ?_⟩
      rintro e w1 ⟨rfl, rfl⟩
      gi_wp2_with fail
      refine hR.mono ?_
      rintro e W3 (⟨rfl, hJ3, _⟩ | ⟨rfl, hJ3⟩)
      · gi_wp2_with fail
        go_end0
        exact ⟨⟨_, rfl⟩, .inl ⟨_, HE.out, hJ3⟩⟩
      · gi_wp2_with fail
        go_end0
        exact ⟨⟨_, rfl⟩, .inr ⟨_, ⟨[], by rw [List.append_nil]; exact HE.out.symm⟩, hJ3⟩⟩
    · have hg := indexByte_ge r.data.toList 46
      obtain ⟨i, hi⟩ : ∃ i : Nat, indexByte r.data.toList 46 = i := ⟨_, (Int.toNat_of_nonneg (by omega)).symm⟩
      obtain ⟨p1, p2⟩ := prt_some hi
      rw [bytes_len] at p2
      rw [hi] at I1
      obtain ⟨fn, tmps, assign, body, hy, hR⟩ := HY.out pre (r.extract 0 i) wr (by rw [ByteArray.size_extract]; omega) HJ1.out
      have ex : (r.extract 0 i).data.toList = r.data.toList.take i := by rw [ext_take]
      have HE : Hid (prtL s.data.toList = partsOf (pre ++ [r.extract 0 i]) ++ prtL (r.extract (i + 1) r.size).data.toList) := Lib.hid (by
        rw [HP.out, p1, partsOf_snoc, ex, Lib.extract_to_end, List.append_assoc]
        rfl)
      have i1 : IntKind.i64.wrap ((i : Int) + 1) = (i : Int) + 1 := IntWalk.i64_in _ ⟨by omega, by omega⟩
      have i2 : ((i : Int) + 1).toNat = i + 1 := by omega
      clear hx hg hi p1 ex HP H0
      gi_wp2_with fail
      refine ⟨trivial, (callsIn_wide.2 (I1.out _)).mono ?_⟩
      rintro e w1 ⟨rfl, rfl⟩
      gi_wp2_with fail
      refine hR.mono ?_
      rintro e W3 (⟨rfl, hJ3, hk3⟩ | ⟨rfl, hJ3⟩)
      · have HJ3 := Lib.hid hJ3
        have HW3 : Hid (∀ k, k < w.heap.size → k ≠ Bs → W3.heap[k]? = w.heap[k]?) := Lib.hid fun k hk hb => (hk3 k hk).trans (HWr.out k hk hb)
        have HB3 : Hid (Blk W3 Bs 9 #[.string r]) := Lib.hid ((hk3 Bs HBs.out).trans HB.out)
        have d0 := HB3.out.cell 0 rfl
        have d1 := (B1.out W3 HW3.out).cell 0 rfl
        have f0 := HB3.out.free 0
        have HJ4 := Lib.hid (HJ.out _ W3 (.string (r.extract (i + 1) r.size)) HJ3.out)
        have HB4 : Hid (Blk (W3.setCell ⟨Bs, 0, none⟩ (.string (r.extract (i + 1) r.size))) Bs 9 #[.string (r.extract (i + 1) r.size)]) := Lib.hid (HB3.out.set 0 _ rfl)
        have HW4 : Hid (∀ k, k < w.heap.size → k ≠ Bs → (W3.setCell ⟨Bs, 0, none⟩ (.string (r.extract (i + 1) r.size))).heap[k]? = w.heap[k]?) := Lib.hid fun k hk hb => (Below.heap_setCell W3 ⟨Bs, 0, none⟩ _ k hb).trans (HW3.out k hk hb)
        clear hJ3 hk3 hy c0 c1 c2
        gi_wp2_with fail
        go_roundw
        case rel => exact ⟨_, r.extract (i + 1) r.size, by rw [ByteArray.size_extract]; omega, HE, HJ4, HW4, HB4⟩
        case measure =>
          rw [boxLeft_eq HB4.out, boxLeft_eq HB.out, ByteArray.size_extract]
          omega
      · gi_wp2_with fail
        refine bodyPost_ret (results_none rfl _ _ _) rfl ?_
        exact ⟨⟨_, rfl⟩, .inr ⟨_, ⟨_, HE.out⟩, hJ3⟩⟩

/-- The world in which strings.SplitSeq has laid its three boxes. -/
def splitW (s : ByteArray) (w : World) : World := ((w.alloc (.cells #[.string s] 9)).alloc (.cells #[.string ⟨#[46]⟩] 9)).alloc (.cells #[.int .i64 0] 3)
theorem splitW_boxes (s : ByteArray) (w : World) : Blk (splitW s w) w.heap.size 9 #[.string s] ∧ Blk (splitW s w) (w.heap.size + 1) 9 #[.string ⟨#[46]⟩] ∧ Blk (splitW s w) (w.heap.size + 2) 3 #[.int .i64 0] := by
  refine ⟨((Blk.new w _ _).alloc _).alloc _, ?_, ?_⟩
  · have := (Blk.new (w.alloc (.cells #[.string s] 9)) 9 #[.string ⟨#[46]⟩]).alloc (.cells #[.int .i64 0] 3)
    rw [World.size_alloc] at this
    exact this
  · have := Blk.new ((w.alloc (.cells #[.string s] 9)).alloc (.cells #[.string ⟨#[46]⟩] 9)) 3 #[.int .i64 0]
    rw [World.size_alloc, World.size_alloc] at this
    exact this
/-- What it hands back. -/
def splitF (b : Nat) : Value := .func (.func 78) #[] #[.pointer (some ⟨b + 1, 0, none⟩), .pointer (some ⟨b, 0, none⟩), .pointer (some ⟨b + 2, 0, none⟩)]
set_option maxRecDepth 100000 in
set_option maxHeartbeats 1000000 in
theorem splitSeq1_any (s : ByteArray) (w : World) :
    Calls Tryz.prog 65 #[.string s, .string ⟨#[46]⟩, .int .i64 0] w fun e w' => e = .returned (splitF w.heap.size) ∧ w' = splitW s w := by
  go_enter Tryz.func65, Tryz.ntmps65
  go_wp2_with fail
  go_ret
  exact ⟨rfl, rfl⟩
set_option maxRecDepth 100000 in
set_option maxHeartbeats 1000000 in
theorem splitSeq_any (s : ByteArray) (w : World) :
    Calls Tryz.prog 45 #[.string s, .string ⟨#[46]⟩] w fun e w' => e = .returned (splitF w.heap.size) ∧ w' = splitW s w := by
  have SP := Lib.hid (fun W => splitSeq1_any s W)
  go_enter Tryz.func45, Tryz.ntmps45
  go_wp2_with fail
  refine (SP.out _).mono ?_
  rintro e w1 ⟨rfl, rfl⟩
  go_wp2_with fail
  go_ret
  exact ⟨rfl, rfl⟩
end Go.Proofs.YtggeknhggpdpkaaGreatDoor

/-
  Texts of the proof, one behind the other: Bla, Blw, Bld, Bls.
-/
import Derived.Test.YtfgpephpkibbaaaGreatDoorQ1
import Derived.Test.YtfgpephpkibbaaaGreatDoorQ8
import Derived.BigCall
/-
  strings.Builder where the cut's copyCheck ends in a refused place: a builder that has been used (its own address lies in it).
-/
namespace Go.Proofs.YtfgpephpkibbaaaGreatDoor
open Go.RowKit Go.Lib

/-- A BUILDER OF THE CALL'S OWN AT BLOCK b, used, with the bytes l. -/
abbrev Bld (B b : Nat) (l : List UInt8) (w : World) : Prop := BuilderAtF 131 5 B b (.pointer (some ⟨b, 0, none⟩)) (byteCells l) w
theorem sizeBld : (Tryz.prog.info? 131).map (·.size) = some 2 := by kernel_rfl
theorem infoB8 : (Tryz.prog.info? 5).map (fun i => (i.zero, i.size, i.bytes)) = some (some (.int .u8 0), 1, 1) := by kernel_rfl
set_option maxRecDepth 100000 in
theorem copyCheck_used (b : Nat) (w : World) (h0 : w.cell? ⟨b, 0, none⟩ = some (.pointer (some ⟨b, 0, none⟩))) :
    Calls Tryz.prog 159 #[.pointer (some ⟨b, 0, none⟩)] w fun e w' => e = .returned (.tuple #[]) ∧ w = w' := by
  obtain ⟨j, hj, _⟩ := Option.map_eq_some_iff.1 sizeBld
  go_enter Tryz.func159, Tryz.ntmps159
  go_wp2
  rw [Lib.run_neq_ptr_same w _ Tryz.underlying129 hj]
  go_wp2
  go_end0
  exact ⟨rfl, rfl⟩
end Go.Proofs.YtfgpephpkibbaaaGreatDoor

/-
  strings.Builder where the cut's copyCheck ends in a refused place: WriteByte, WriteRune onto a builder that has been used (its own address lies in it).
-/
namespace Go.Proofs.YtfgpephpkibbaaaGreatDoor
open Go.RowKit Go.Lib

set_option maxHeartbeats 2000000 in
set_option maxRecDepth 100000 in
theorem writeByte_any (B b : Nat) (l : List UInt8) (c : UInt8) (x : Int) (hx : x = (c.toNat : Int)) (w : World) (h : Bld B b l w) (hlen : l.length + 1 ≤ 140737488355328) (hBw : B ≤ w.heap.size) :
    Calls Tryz.prog 168 #[.pointer (some ⟨b, 0, none⟩), .int .u8 x] w fun e w' => e = .returned .nilIface ∧ (Bld B b (l ++ [c]) w' ∧ Below B w w' ∧ OthersKept 5 (some b) w w') := by
  obtain ⟨i0, hi, hz0, hz1, hz2⟩ := info_parts infoB8
  have HB : Hid (byteCells (l ++ [c]) = byteCells l ++ [.int .u8 x]) := by
    have : byteCells (l ++ [c]) = byteCells l ++ [.int .u8 x] := by rw [byteCells_append, hx]; rfl
    exact Lib.hid this
  clear hx
  have hk1 : OthersKept 5 (some b) w w := OthersKept.refl _ _ w
  have hb1 : Below B w w := Below.refl B w
  obtain ⟨hB, v, hbk, hown, hne⟩ := h
  have hn : (byteCells l).length = l.length := byteCells_length l
  rw [hn] at hown
  have c0 : w.cell? ⟨b, 0, none⟩ = some (.pointer (some ⟨b, 0, none⟩)) := by rw [Lib.cell_of_heap hbk]; rfl
  have c1 : w.cell? ⟨b, 1, none⟩ = some v := by rw [Lib.cell_of_heap hbk]; rfl
  have CC := Lib.hid (copyCheck_used b w c0)
  have HN := Lib.hid hn
  clear hn
  generalize byteCells l = bs at *
  generalize l.length = m at *
  go_enter Tryz.func168, Tryz.ntmps168
  go_wp2_with fail
  refine CC.out.mono ?_
  rintro e w1 ⟨rfl, rfl⟩
  go_wp2_with (at_builtin; refine wpList_append_ownF _ rfl _ _ 59 rfl B 5 i0 (.int .u8 0) 1 1 Tryz.underlying59 hi hz0 hz1 hz2 rfl (by decide) _ _ _ rfl (hown.alloc _) ⟨w.heap.size, 0, none⟩ 1 1 [.int .u8 x] rfl rfl ?c1 ?c2 ?c3 ?c4 ?c5 ?_)
  case c1 =>
    intro j u hj
    match j, hj with
    | 0, hj => simp at hj; subst hj; simp [Addr.add]
  case c2 => intro u hu; simp at hu; subst hu; rfl
  case c3 => unfold maxLen; omega
  case c4 => omega
  case c5 => have := hb1.size; simp; omega
  intro v' w2 hown' hgrow _
  have hlt : b < w.heap.size := iter_lt hbk
  have hb2 : w2.heap[b]? = some (.cells #[.pointer (some ⟨b, 0, none⟩), v] 131 (0, 0)) := by
    rw [hgrow.block b (by simp; omega) (fun e => hne e.symm), Lib.alloc_old w _ b hlt]
    exact hbk
  have d0 : w2.cell? ⟨b, 0, none⟩ = some (.pointer (some ⟨b, 0, none⟩)) := by rw [Lib.cell_of_heap hb2]; rfl
  have d1 : w2.cell? ⟨b, 1, none⟩ = some v := by rw [Lib.cell_of_heap hb2]; rfl
  have f1 : w2.frozen? ⟨b, 1, none⟩ = false := Lib.frozen_of_heap hb2 1
  obtain ⟨g, cap, rfl⟩ : ∃ g cap, v' = .slice (some ⟨g, 0, none⟩) (m + 1) cap := by
    rcases hown'.2 with ⟨_, h0⟩ | ⟨g, cap, cur, fz, hv, _⟩
    · omega
    · exact ⟨g, cap, hv⟩
  go_wp2
  go_ret
  refine ⟨rfl, ?_, ?_, ((hk1.alloc _).grown hgrow (Lib.ownsRowF_kind (hown.alloc _))).setCell ⟨b, 1, none⟩ rfl _⟩
  · have := Lib.BuilderAtF.put (T := 131) (e := 5) hB hb2 (bs' := bs ++ [.int .u8 x]) (by rw [List.length_append, HN.out]; exact hown') (by decide)
    rw [← HB.out] at this
    exact this
  · exact ((hb1.alloc (by have := hb1.size; omega) _).grown hgrow (by have := hb1.size; simp; omega) (fun k hk => (hown.lt k hk).1)).setCell (p := ⟨b, 1, none⟩) hB _

end Go.Proofs.YtfgpephpkibbaaaGreatDoor

/-
  strings.Builder's WriteRune, of a builder that has been used.
-/
namespace Go.Proofs.YtfgpephpkibbaaaGreatDoor
open Go.RowKit Go.Lib

set_option maxHeartbeats 4000000 in
set_option maxRecDepth 100000 in
theorem writeRune_any (B b : Nat) (l : List UInt8) (r : Int) (hr0 : -2147483648 ≤ r) (hr1 : r ≤ 2147483647) (w : World) (h : Bld B b l w) (hlen : l.length + 4 ≤ 140737488355328) (hBw : B ≤ w.heap.size) :
    Calls Tryz.prog 179 #[.pointer (some ⟨b, 0, none⟩), .int .i32 r] w fun e w' => e = .returned (.tuple #[.int .i64 (runeCells r).length, .nilIface]) ∧ (Bld B b (l ++ encodeRune r) w' ∧ Below B w w' ∧ OthersKept 5 (some b) w w') := by
  have HB : Hid (byteCells (l ++ encodeRune r) = byteCells l ++ runeCells r) := by
    have : byteCells (l ++ encodeRune r) = byteCells l ++ runeCells r := by rw [byteCells_append, byteCells_encodeRune]
    exact Lib.hid this
  have hk4 := Lib.runeCells_le r
  have hk1 : OthersKept 5 (some b) w w := OthersKept.refl _ _ w
  have hb1 : Below B w w := Below.refl B w
  obtain ⟨hB, v, hbk, hown, hne⟩ := h
  have hn : (byteCells l).length = l.length := byteCells_length l
  rw [hn] at hown
  obtain ⟨ao, cap, rfl⟩ : ∃ ao cap, v = .slice ao l.length cap := by
    rcases hown.2 with ⟨hv, h0⟩ | ⟨g, cap, cur, fz, hv, _⟩
    · exact ⟨none, 0, by rw [hv, h0]⟩
    · exact ⟨_, _, hv⟩
  have c0 : w.cell? ⟨b, 0, none⟩ = some (.pointer (some ⟨b, 0, none⟩)) := by rw [Lib.cell_of_heap hbk]; rfl
  have c1 : w.cell? ⟨b, 1, none⟩ = some (.slice ao l.length cap) := by rw [Lib.cell_of_heap hbk]; rfl
  have CC := Lib.hid (copyCheck_used b w c0)
  have AP := Lib.hid (Tryz.utf8_AppendRune_row B _ l.length (byteCells l) r hr0 hr1 w hown hlen hBw)
  have HN := Lib.hid hn
  clear hn
  generalize byteCells l = bs at *
  generalize l.length = m at *
  go_enter Tryz.func179, Tryz.ntmps179
  go_wp2_with fail
  refine CC.out.mono ?_
  rintro e w1 ⟨rfl, rfl⟩
  go_wp2_with fail
  refine AP.out.mono ?_
  rintro e w2 ⟨v', rfl, hown', o, hgrow⟩
  have hlt : b < w.heap.size := iter_lt hbk
  have hb2 : w2.heap[b]? = some (.cells #[.pointer (some ⟨b, 0, none⟩), .slice ao m cap] 131 (0, 0)) := by
    rw [hgrow.block b (by simp; omega) (fun e => hne e.symm), Lib.alloc_old w _ b hlt]
    exact hbk
  have d0 : w2.cell? ⟨b, 0, none⟩ = some (.pointer (some ⟨b, 0, none⟩)) := by rw [Lib.cell_of_heap hb2]; rfl
  have d1 : w2.cell? ⟨b, 1, none⟩ = some (.slice ao m cap) := by rw [Lib.cell_of_heap hb2]; rfl
  have f1 : w2.frozen? ⟨b, 1, none⟩ = false := Lib.frozen_of_heap hb2 1
  obtain ⟨g, cap', rfl⟩ : ∃ g cap', v' = .slice (some ⟨g, 0, none⟩) (m + (Lib.runeCells r).length) cap' := by
    rcases hown'.2 with ⟨_, h0⟩ | ⟨g, cap', cur, fz, hv, _⟩
    · omega
    · exact ⟨g, cap', hv⟩
  go_wp2
  go_ret2
  refine ⟨?_, ?_, ?_, ((hk1.alloc _).grown hgrow (Lib.ownsRowF_kind (hown.alloc _))).setCell ⟨b, 1, none⟩ rfl _⟩
  · have e : ((m : Int) + ((Lib.runeCells r).length : Int) - (m : Int)) = ((Lib.runeCells r).length : Int) := by omega
    simp [e]
  · have := Lib.BuilderAtF.put (T := 131) (e := 5) hB hb2 (bs' := bs ++ Lib.runeCells r) (by rw [List.length_append, HN.out]; exact hown') (by decide)
    rw [← HB.out] at this
    exact this
  · exact ((hb1.alloc (by have := hb1.size; omega) _).grown hgrow (by have := hb1.size; simp; omega) (fun k hk => (hown.lt k hk).1)).setCell (p := ⟨b, 1, none⟩) hB _
end Go.Proofs.YtfgpephpkibbaaaGreatDoor

/-
  strings.Builder where the cut's copyCheck ends in a refused place: WriteString onto a builder that has been used.
-/
namespace Go.Proofs.YtfgpephpkibbaaaGreatDoor
open Go.RowKit Go.Lib

set_option maxHeartbeats 2000000 in
set_option maxRecDepth 100000 in
theorem writeString_any (B b : Nat) (l : List UInt8) (s : ByteArray) (w : World) (h : Bld B b l w) (hlen : l.length + s.size ≤ 140737488355328) (hBw : B ≤ w.heap.size) :
    Calls Tryz.prog 136 #[.pointer (some ⟨b, 0, none⟩), .string s] w fun e w' => e = .returned (.tuple #[.int .i64 s.size, .nilIface]) ∧ (Bld B b (l ++ s.data.toList) w' ∧ Below B w w' ∧ OthersKept 5 (some b) w w') := by
  obtain ⟨i0, hi, hz0, hz1, hz2⟩ := info_parts infoB8
  have HB : Hid (byteCells (l ++ s.data.toList) = byteCells l ++ Lib.strCells s) := by
    have : byteCells (l ++ s.data.toList) = byteCells l ++ Lib.strCells s := by rw [byteCells_append]; rfl
    exact Lib.hid this
  have hk1 : OthersKept 5 (some b) w w := OthersKept.refl _ _ w
  have hb1 : Below B w w := Below.refl B w
  obtain ⟨hB, v, hbk, hown, hne⟩ := h
  have hn : (byteCells l).length = l.length := byteCells_length l
  have hcs : (Lib.strCells s).length = s.size := Lib.strCells_length s
  have c0 : w.cell? ⟨b, 0, none⟩ = some (.pointer (some ⟨b, 0, none⟩)) := by rw [Lib.cell_of_heap hbk]; rfl
  have c1 : w.cell? ⟨b, 1, none⟩ = some v := by rw [Lib.cell_of_heap hbk]; rfl
  have CC := Lib.hid (copyCheck_used b w c0)
  rw [← hn] at hlen
  have HN := Lib.hid hn
  have HC := Lib.hid hcs
  clear hn hcs
  generalize byteCells l = bs at *
  go_enter Tryz.func136, Tryz.ntmps136
  go_wp2_with fail
  refine CC.out.mono ?_
  rintro e w1 ⟨rfl, rfl⟩
  go_wp2_with (at_builtin; refine Lib.wpList_append_own_stringF _ rfl _ _ 59 9 rfl B 5 i0 Tryz.underlying59 Tryz.underlying9 hi hz0 hz1 hz2 _ _ _ rfl hown s rfl ?c3 ?c4 ?c5 ?_)
  case c3 => unfold maxLen; omega
  case c4 => omega
  case c5 => have := hb1.size; omega
  intro v' w2 hown' hgrow _
  have hlt : b < w.heap.size := iter_lt hbk
  have hb2 : w2.heap[b]? = some (.cells #[.pointer (some ⟨b, 0, none⟩), v] 131 (0, 0)) := by
    rw [hgrow.block b hlt (fun e => hne e.symm)]
    exact hbk
  have d0 : w2.cell? ⟨b, 0, none⟩ = some (.pointer (some ⟨b, 0, none⟩)) := by rw [Lib.cell_of_heap hb2]; rfl
  have d1 : w2.cell? ⟨b, 1, none⟩ = some v := by rw [Lib.cell_of_heap hb2]; rfl
  have f1 : w2.frozen? ⟨b, 1, none⟩ = false := Lib.frozen_of_heap hb2 1
  obtain ⟨ao, m, cap, rfl⟩ : ∃ ao m cap, v' = .slice ao m cap := by
    rcases hown'.2 with ⟨h0, _⟩ | ⟨g, cap, cur, fz, hv, _⟩
    · exact ⟨_, _, _, h0⟩
    · exact ⟨_, _, _, hv⟩
  go_wp2
  go_ret2
  refine ⟨rfl, ?_, ?_, (hk1.grown hgrow (Lib.ownsRowF_kind hown)).setCell ⟨b, 1, none⟩ rfl _⟩
  · have := Lib.BuilderAtF.put (T := 131) (e := 5) hB hb2 (bs' := bs ++ Lib.strCells s) (by rw [List.length_append, HC.out]; exact hown') (by decide)
    rw [← HB.out] at this
    exact this
  · exact (hb1.grown hgrow (by have := hb1.size; omega) (fun k hk => (hown.lt k hk).1)).setCell (p := ⟨b, 1, none⟩) hB _
end Go.Proofs.YtfgpephpkibbaaaGreatDoor


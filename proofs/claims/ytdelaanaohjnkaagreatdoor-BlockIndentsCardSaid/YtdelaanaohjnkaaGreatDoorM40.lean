/-
  Texts of the proof, one behind the other: Btc.
-/
import Derived.Test.YtdelaanaohjnkaaGreatDoorM39
import Derived.Test.YtdelaanaohjnkaaGreatDoorM38
/-
  A tree's lists, opened; the document's example of layer 12.
-/
namespace Go.Proofs.YtdelaanaohjnkaaGreatDoor
open Go.RowKit Go.Lib

/-- The list kv has the blocks kids. -/
def Kids (W : World) (lo hi : Nat) (kids : List Tr) (kv : Value) : Prop := ∃ cs : List Ten, W.ownsRow lo 26 10 kv cs.length (flat10 cs) ∧ (∀ g, kv.ownBlock = some g → g < hi) ∧ cs.length = kids.length ∧ ∀ i (h : i < kids.length) (h' : i < cs.length), TreeAt W lo hi kids[i] cs[i]
theorem Kids.keep {W W' : World} {lo hi : Nat} {kids : List Tr} {kv : Value} (h : Kids W lo hi kids kv) (hs : hi ≤ W.heap.size) (k : Keeps W W') : Kids W' lo hi kids kv := by
  obtain ⟨cs, h1, h2, h3, h4⟩ := h
  exact ⟨cs, row_same h1 fun g e => k.block g (by have := h2 g e; omega), h2, h3, fun i a b => (h4 i a b).keep hs k⟩
theorem Kids.slice {W : World} {lo hi : Nat} {kids : List Tr} {kv : Value} (h : Kids W lo hi kids kv) : ∃ ao cap, kv = .slice ao kids.length cap ∧ kids.length ≤ cap ∧ cap ≤ maxLen ∧ (0 < kids.length → ∃ g, ao = some ⟨g, 0, none⟩) := by
  obtain ⟨cs, h1, h2, h3, h4⟩ := h
  rcases h1.2 with ⟨rfl, h0⟩ | ⟨g, cap, cur, rfl, _, _, a, b, _⟩
  · exact ⟨none, 0, by rw [← h3, h0], by omega, by simp [maxLen], fun q => by omega⟩
  · exact ⟨_, cap, by rw [h3], by omega, b, fun _ => ⟨g, rfl⟩⟩
/-- A block's cells. -/
structure At (W : World) (g o : Nat) (k l : Nat) (od : Bool) (st mk : Nat) (ti : Bool) (info text : List UInt8) (kv : Value) : Prop where
  c0 : W.cell? ⟨g, o, none⟩ = some (.int .i64 k)
  c1 : W.cell? ⟨g, o + 1, none⟩ = some (.int .i64 l)
  c2 : W.cell? ⟨g, o + 2, none⟩ = some (.bool od)
  c3 : W.cell? ⟨g, o + 3, none⟩ = some (.int .i64 st)
  c4 : W.cell? ⟨g, o + 4, none⟩ = some (.int .u8 mk)
  c5 : W.cell? ⟨g, o + 5, none⟩ = some (.bool ti)
  c6 : W.cell? ⟨g, o + 6, none⟩ = some (.string ⟨info.toArray⟩)
  c7 : W.cell? ⟨g, o + 7, none⟩ = some (.string ⟨text.toArray⟩)
  c8 : W.cell? ⟨g, o + 8, none⟩ = some kv
  c9 : W.cell? ⟨g, o + 9, none⟩ = some (.slice none 0 0)
theorem Kids.at {W : World} {lo hi : Nat} {kids : List Tr} {g cap : Nat} (h : Kids W lo hi kids (.slice (some ⟨g, 0, none⟩) kids.length cap)) {i : Nat} {k l : Nat} {od : Bool} {st mk : Nat} {ti : Bool} {info text : List UInt8} {ks : List Tr} (e : kids[i]? = some (.mk k l od st mk ti info text ks)) :
    ∃ kv, At W g (i * 10) k l od st mk ti info text kv ∧ Kids W lo hi ks kv := by
  obtain ⟨cs, h1, h2, h3, h4⟩ := h
  obtain ⟨hi', e'⟩ := List.getElem?_eq_some_iff.1 e
  have ht := h4 i hi' (by omega)
  rw [e'] at ht
  have hcell : ∀ j, j < 10 → W.cell? ⟨g, i * 10 + j, none⟩ = (cs[i]'(by omega)).1[j]? := fun j hj => by
    have hr : W.ownsRow lo 26 10 (.slice (some ⟨g, 0, none⟩) cs.length cap) cs.length (flat10 cs) := by rw [← h3] at h1; exact h1
    rw [hr.cellAt _ (by omega), flat10_get cs _ (by omega)]
    have e1 : (i * 10 + j) / 10 = i := by omega
    have e2 : (i * 10 + j) % 10 = j := by omega
    rw [e1, e2, List.getElem?_eq_getElem (by omega)]; rfl
  cases ht with
  | mk _ _ _ _ _ _ _ _ _ kv cs' c hc hr hg hl hk =>
    have hh : ∀ j, j < 10 → W.cell? ⟨g, i * 10 + j, none⟩ = (blkT k l od st mk ti info text kv)[j]? := fun j hj => by rw [hcell j hj, hc]
    exact ⟨kv, ⟨hh 0 (by decide), hh 1 (by decide), hh 2 (by decide), hh 3 (by decide), hh 4 (by decide), hh 5 (by decide), hh 6 (by decide), hh 7 (by decide), hh 8 (by decide), hh 9 (by decide)⟩, ⟨cs', hr, hg, hl, hk⟩⟩
def blkV (k l : Nat) (o : Bool) (st mk : Nat) (ti : Bool) (info text : List UInt8) (kv : Value) : Value := .agg #[.int .i64 k, .int .i64 l, .bool o, .int .i64 st, .int .u8 mk, .bool ti, .string ⟨info.toArray⟩, .string ⟨text.toArray⟩, kv, .slice none 0 0]
/-- What Parse tells of a text that isn't too deep. -/
theorem ParR.open {lo : Nat} {r : Option (Tr × List Rf)} {e : Ending} {w' : World} (h : ParR lo r e w') {k l : Nat} {od : Bool} {st mk : Nat} {ti : Bool} {info text : List UInt8} {ks : List Tr} {rs : List Rf} (hr : r = some (.mk k l od st mk ti info text ks, rs)) :
    ∃ kv v, e = .returned (.tuple #[blkV k l od st mk ti info text kv, v, .int .i64 0]) ∧ Kids w' lo w'.heap.size ks kv ∧ Refs 0 w' v rs ∧ ∀ g, v.ownBlock = some g → lo ≤ g := by
  subst hr
  obtain ⟨C, c, v, he, hC, ht, hf, hv⟩ := h
  cases ht with
  | mk _ _ _ _ _ _ _ _ _ kv cs' c hc hr hg hl hk =>
    refine ⟨kv, v, ?_, ⟨cs', hr, hg, hl, hk⟩, hf, hv⟩
    rw [he]
    have : C = #[.int .i64 k, .int .i64 l, .bool od, .int .i64 st, .int .u8 mk, .bool ti, .string ⟨info.toArray⟩, .string ⟨text.toArray⟩, kv, .slice none 0 0] := by
      apply Array.ext'
      rw [hC, hc]; rfl
    rw [this]; rfl
theorem ParR.deep {lo : Nat} {r : Option (Tr × List Rf)} {e : Ending} {w' : World} (h : ParR lo r e w') (hr : r = none) : e = .returned (.tuple #[blkV 0 0 false 0 0 false [] [] (.slice none 0 0), .slice none 0 0, .int .i64 3]) := by
  subst hr
  exact h
def awkB : ByteArray := ⟨#[62, 32, 35, 32, 97, 10, 62, 32, 98, 10, 99, 10, 10, 45, 32, 120, 10, 45, 32, 121, 10, 10, 91, 114, 93, 58, 32, 47, 117, 10]⟩
set_option maxRecDepth 100000 in
set_option maxHeartbeats 8000000 in
theorem awake12_any (w : World) (hO : Lis w) (hM : Mxl w) : Calls Tryz.prog 12 #[] w fun e w' => e = .returned (.bool true) ∧ Keeps w w' := by
  have PA := Lib.hid (parse_any awkB w (by decide) hO hM)
  clear hO hM
  go_enter Tryz.func12, Tryz.ntmps12
  go_wp2_with fail
  simp only [List.append] at *
  refine PA.out.mono ?_
  rintro e w1 ⟨kk, hp⟩
  obtain ⟨kv, v, rfl, hk, hf, _⟩ := hp.open (show parseM awkB.data.toList = _ from awk_parse)
  obtain ⟨ao, cap, ekv, _, _, hg⟩ := hk.slice
  obtain ⟨g, rfl⟩ := hg (by decide)
  have ekv2 : kv = .slice (some ⟨g, 0, none⟩) 2 cap := ekv
  subst ekv2
  have ev : blkV 1 0 false 0 0 false [] [] (.slice (some ⟨g, 0, none⟩) 2 cap) = .agg #[.int .i64 1, .int .i64 0, .bool false, .int .i64 0, .int .u8 0, .bool false, .string ⟨#[]⟩, .string ⟨#[]⟩, .slice (some ⟨g, 0, none⟩) 2 cap, .slice none 0 0] := rfl
  rw [ev]
  have KA := (Keeps.refl w1).alloc (.cells #[.int .i64 1, .int .i64 0, .bool false, .int .i64 0, .int .u8 0, .bool false, .string ⟨#[]⟩, .string ⟨#[]⟩, .slice (some ⟨g, 0, none⟩) 2 cap, .slice none 0 0] 26)
  have KE := Lib.hid (kk.trans KA)
  have hk := hk.keep (Nat.le_refl _) KA
  have hf := hf.keep KA
  have x8 := (Blk.new w1 26 #[.int .i64 1, .int .i64 0, .bool false, .int .i64 0, .int .u8 0, .bool false, .string ⟨#[]⟩, .string ⟨#[]⟩, .slice (some ⟨g, 0, none⟩) 2 cap, .slice none 0 0]).cell 8 (v := .slice (some ⟨g, 0, none⟩) 2 cap) rfl
  obtain ⟨kv0, a0, hk0⟩ := hk.at (i := 0) rfl
  obtain ⟨kv1, a1, hk1⟩ := hk.at (i := 1) rfl
  obtain ⟨ao0, cap0, e0, _, _, hg0⟩ := hk0.slice
  obtain ⟨g0, rfl⟩ := hg0 (by decide)
  have e0' : kv0 = .slice (some ⟨g0, 0, none⟩) 2 cap0 := e0
  subst e0'
  obtain ⟨kv01, a01, _⟩ := hk0.at (i := 1) rfl
  obtain ⟨ao1, cap1, e1, _, _, _⟩ := hk1.slice
  have e1' : kv1 = .slice ao1 2 cap1 := e1
  subst e1'
  obtain ⟨gr, capr, er⟩ : ∃ gr capr, v = .slice (some ⟨gr, 0, none⟩) 1 capr := by
    rcases hf.2 with ⟨_, q⟩ | ⟨gr, capr, _, q, _⟩
    · cases q
    · exact ⟨gr, capr, q⟩
  subst er
  have q1 : (w1.alloc (.cells #[.int .i64 1, .int .i64 0, .bool false, .int .i64 0, .int .u8 0, .bool false, .string ⟨#[]⟩, .string ⟨#[]⟩, .slice (some ⟨g, 0, none⟩) 2 cap, .slice none 0 0] 26)).cell? ⟨gr, 1, none⟩ = some (.string ⟨#[47, 117]⟩) := World.ownsRow.cellAt hf 1 (by decide)
  have q2 : (w1.alloc (.cells #[.int .i64 1, .int .i64 0, .bool false, .int .i64 0, .int .u8 0, .bool false, .string ⟨#[]⟩, .string ⟨#[]⟩, .slice (some ⟨g, 0, none⟩) 2 cap, .slice none 0 0] 26)).cell? ⟨g, 0, none⟩ = some (.int .i64 2) := a0.c0
  have q3 : (w1.alloc (.cells #[.int .i64 1, .int .i64 0, .bool false, .int .i64 0, .int .u8 0, .bool false, .string ⟨#[]⟩, .string ⟨#[]⟩, .slice (some ⟨g, 0, none⟩) 2 cap, .slice none 0 0] 26)).cell? ⟨g, 8, none⟩ = some (.slice (some ⟨g0, 0, none⟩) 2 cap0) := a0.c8
  have q4 : (w1.alloc (.cells #[.int .i64 1, .int .i64 0, .bool false, .int .i64 0, .int .u8 0, .bool false, .string ⟨#[]⟩, .string ⟨#[]⟩, .slice (some ⟨g, 0, none⟩) 2 cap, .slice none 0 0] 26)).cell? ⟨g0, 17, none⟩ = some (.string ⟨#[98, 10, 99]⟩) := a01.c7
  have q5 : (w1.alloc (.cells #[.int .i64 1, .int .i64 0, .bool false, .int .i64 0, .int .u8 0, .bool false, .string ⟨#[]⟩, .string ⟨#[]⟩, .slice (some ⟨g, 0, none⟩) 2 cap, .slice none 0 0] 26)).cell? ⟨g, 10, none⟩ = some (.int .i64 3) := a1.c0
  have q6 : (w1.alloc (.cells #[.int .i64 1, .int .i64 0, .bool false, .int .i64 0, .int .u8 0, .bool false, .string ⟨#[]⟩, .string ⟨#[]⟩, .slice (some ⟨g, 0, none⟩) 2 cap, .slice none 0 0] 26)).cell? ⟨g, 15, none⟩ = some (.bool true) := a1.c5
  have q7 : (w1.alloc (.cells #[.int .i64 1, .int .i64 0, .bool false, .int .i64 0, .int .u8 0, .bool false, .string ⟨#[]⟩, .string ⟨#[]⟩, .slice (some ⟨g, 0, none⟩) 2 cap, .slice none 0 0] 26)).cell? ⟨g, 18, none⟩ = some (.slice ao1 2 cap1) := a1.c8
  clear hp hk hf hk0 hk1 a0 a1 a01 hg hg0 kk KA ev PA e0 e1 ekv
  go_wp2_with fail
  go_ret
  exact ⟨rfl, KE.out⟩
end Go.Proofs.YtdelaanaohjnkaaGreatDoor


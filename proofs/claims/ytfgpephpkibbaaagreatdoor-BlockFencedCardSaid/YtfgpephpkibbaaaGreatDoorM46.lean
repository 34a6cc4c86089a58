/-
  Texts of the proof, one behind the other: Btc, Bdq, Blb, Bln, Bwf, Byb, Bfc.
-/
import Derived.Test.YtfgpephpkibbaaaGreatDoorM45
import Derived.Test.YtfgpephpkibbaaaGreatDoorM43
import Derived.Test.YtfgpephpkibbaaaGreatDoorM32
import Derived.Test.YtfgpephpkibbaaaGreatDoorM33
import Derived.BigQuiet
import Derived.Test.YtfgpephpkibbaaaGreatDoorM10
import Derived.Test.YtfgpephpkibbaaaGreatDoorM11
/-
  A tree's lists, opened; the document's example of layer 12.
-/
namespace Go.Proofs.YtfgpephpkibbaaaGreatDoor
open Go.RowKit Go.Lib

/-- The list kv has the blocks kids. -/
def Kids (W : World) (lo hi : Nat) (kids : List Tr) (kv : Value) : Prop := ∃ cs : List Ten, W.ownsRow lo 26 10 kv cs.length (flat10 cs) ∧ (∀ g, kv.ownBlock = some g → g < hi) ∧ cs.length = kids.length ∧ ∀ i (h : i < kids.length) (h' : i < cs.length), TreeAt W lo hi kids[i] cs[i]
theorem Kids.keep {W W' : World} {lo hi : Nat} {kids : List Tr} {kv : Value} (h : Kids W lo hi kids kv) (hs : hi ≤ W.heap.size) (k : Keeps W W') : Kids W' lo hi kids kv := by
  obtain ⟨cs, h1, h2, h3, h4⟩ := h
  exact ⟨cs, row_same h1 fun g e => k.block g (by have := h2 g e; omega), h2, h3, fun i a b => (h4 i a b).keep hs k⟩
theorem Kids.slice {W : World} {lo hi : Nat} {kids : List Tr} {kv : Value} (h : Kids W lo hi kids kv) : ∃ ao cap, kv = .slice ao kids.length cap ∧ kids.length ≤ cap ∧ cap ≤ maxLen ∧ (0 < kids.length → ∃ g, ao = some ⟨g, 0, none⟩) := by
  obtain ⟨cs, h1, h2, h3, h4⟩ := h
  rcases h1.2 with ⟨rfl, h0⟩ | ⟨g, cap, cur, rfl, _, _, a, b, _⟩
  · exact ⟨none, 0, by rw [← h3, h0], by omega, by simp [maxLen], fun q => by omega⟩
  · exact ⟨_, cap, by rw [h3], by omega, b, fun _ => ⟨g, rfl⟩⟩
/-- A block's cells. -/
structure At (W : World) (g o : Nat) (k l : Nat) (od : Bool) (st mk : Nat) (ti : Bool) (info text : List UInt8) (kv : Value) : Prop where
  c0 : W.cell? ⟨g, o, none⟩ = some (.int .i64 k)
  c1 : W.cell? ⟨g, o + 1, none⟩ = some (.int .i64 l)
  c2 : W.cell? ⟨g, o + 2, none⟩ = some (.bool od)
  c3 : W.cell? ⟨g, o + 3, none⟩ = some (.int .i64 st)
  c4 : W.cell? ⟨g, o + 4, none⟩ = some (.int .u8 mk)
  c5 : W.cell? ⟨g, o + 5, none⟩ = some (.bool ti)
  c6 : W.cell? ⟨g, o + 6, none⟩ = some (.string ⟨info.toArray⟩)
  c7 : W.cell? ⟨g, o + 7, none⟩ = some (.string ⟨text.toArray⟩)
  c8 : W.cell? ⟨g, o + 8, none⟩ = some kv
  c9 : W.cell? ⟨g, o + 9, none⟩ = some (.slice none 0 0)
theorem Kids.at {W : World} {lo hi : Nat} {kids : List Tr} {g cap : Nat} (h : Kids W lo hi kids (.slice (some ⟨g, 0, none⟩) kids.length cap)) {i : Nat} {k l : Nat} {od : Bool} {st mk : Nat} {ti : Bool} {info text : List UInt8} {ks : List Tr} (e : kids[i]? = some (.mk k l od st mk ti info text ks)) :
    ∃ kv, At W g (i * 10) k l od st mk ti info text kv ∧ Kids W lo hi ks kv := by
  obtain ⟨cs, h1, h2, h3, h4⟩ := h
  obtain ⟨hi', e'⟩ := List.getElem?_eq_some_iff.1 e
  have ht := h4 i hi' (by omega)
  rw [e'] at ht
  have hcell : ∀ j, j < 10 → W.cell? ⟨g, i * 10 + j, none⟩ = (cs[i]'(by omega)).1[j]? := fun j hj => by
    have hr : W.ownsRow lo 26 10 (.slice (some ⟨g, 0, none⟩) cs.length cap) cs.length (flat10 cs) := by rw [← h3] at h1; exact h1
    rw [hr.cellAt _ (by omega), flat10_get cs _ (by omega)]
    have e1 : (i * 10 + j) / 10 = i := by omega
    have e2 : (i * 10 + j) % 10 = j := by omega
    rw [e1, e2, List.getElem?_eq_getElem (by omega)]; rfl
  cases ht with
  | mk _ _ _ _ _ _ _ _ _ kv cs' c hc hr hg hl hk =>
    have hh : ∀ j, j < 10 → W.cell? ⟨g, i * 10 + j, none⟩ = (blkT k l od st mk ti info text kv)[j]? := fun j hj => by rw [hcell j hj, hc]
    exact ⟨kv, ⟨hh 0 (by decide), hh 1 (by decide), hh 2 (by decide), hh 3 (by decide), hh 4 (by decide), hh 5 (by decide), hh 6 (by decide), hh 7 (by decide), hh 8 (by decide), hh 9 (by decide)⟩, ⟨cs', hr, hg, hl, hk⟩⟩
def blkV (k l : Nat) (o : Bool) (st mk : Nat) (ti : Bool) (info text : List UInt8) (kv : Value) : Value := .agg #[.int .i64 k, .int .i64 l, .bool o, .int .i64 st, .int .u8 mk, .bool ti, .string ⟨info.toArray⟩, .string ⟨text.toArray⟩, kv, .slice none 0 0]
/-- What Parse tells of a text that isn't too deep. -/
theorem ParR.open {lo : Nat} {r : Option (Tr × List Rf)} {e : Ending} {w' : World} (h : ParR lo r e w') {k l : Nat} {od : Bool} {st mk : Nat} {ti : Bool} {info text : List UInt8} {ks : List Tr} {rs : List Rf} (hr : r = some (.mk k l od st mk ti info text ks, rs)) :
    ∃ kv v, e = .returned (.tuple #[blkV k l od st mk ti info text kv, v, .int .i64 0]) ∧ Kids w' lo w'.heap.size ks kv ∧ Refs 0 w' v rs ∧ ∀ g, v.ownBlock = some g → lo ≤ g := by
  subst hr
  obtain ⟨C, c, v, he, hC, ht, hf, hv⟩ := h
  cases ht with
  | mk _ _ _ _ _ _ _ _ _ kv cs' c hc hr hg hl hk =>
    refine ⟨kv, v, ?_, ⟨cs', hr, hg, hl, hk⟩, hf, hv⟩
    rw [he]
    have : C = #[.int .i64 k, .int .i64 l, .bool od, .int .i64 st, .int .u8 mk, .bool ti, .string ⟨info.toArray⟩, .string ⟨text.toArray⟩, kv, .slice none 0 0] := by
      apply Array.ext'
      rw [hC, hc]; rfl
    rw [this]; rfl
theorem ParR.deep {lo : Nat} {r : Option (Tr × List Rf)} {e : Ending} {w' : World} (h : ParR lo r e w') (hr : r = none) : e = .returned (.tuple #[blkV 0 0 false 0 0 false [] [] (.slice none 0 0), .slice none 0 0, .int .i64 3]) := by
  subst hr
  exact h
def awkB : ByteArray := ⟨#[62, 32, 35, 32, 97, 10, 62, 32, 98, 10, 99, 10, 10, 45, 32, 120, 10, 45, 32, 121, 10, 10, 91, 114, 93, 58, 32, 47, 117, 10]⟩
set_option maxRecDepth 100000 in
set_option maxHeartbeats 8000000 in
theorem awake12_any (w : World) (hO : Lis w) (hM : Mxl w) : Calls Tryz.prog 7 #[] w fun e w' => e = .returned (.bool true) ∧ Keeps w w' := by
  have PA := Lib.hid (parse_any awkB w (by decide) hO hM)
  clear hO hM
  go_enter Tryz.func7, Tryz.ntmps7
  go_wp2_with fail
  simp only [List.append] at *
  refine PA.out.mono ?_
  rintro e w1 ⟨kk, hp⟩
  obtain ⟨kv, v, rfl, hk, hf, _⟩ := hp.open (show parseM awkB.data.toList = _ from awk_parse)
  obtain ⟨ao, cap, ekv, _, _, hg⟩ := hk.slice
  obtain ⟨g, rfl⟩ := hg (by decide)
  have ekv2 : kv = .slice (some ⟨g, 0, none⟩) 2 cap := ekv
  subst ekv2
  have ev : blkV 1 0 false 0 0 false [] [] (.slice (some ⟨g, 0, none⟩) 2 cap) = .agg #[.int .i64 1, .int .i64 0, .bool false, .int .i64 0, .int .u8 0, .bool false, .string ⟨#[]⟩, .string ⟨#[]⟩, .slice (some ⟨g, 0, none⟩) 2 cap, .slice none 0 0] := rfl
  rw [ev]
  have KA := (Keeps.refl w1).alloc (.cells #[.int .i64 1, .int .i64 0, .bool false, .int .i64 0, .int .u8 0, .bool false, .string ⟨#[]⟩, .string ⟨#[]⟩, .slice (some ⟨g, 0, none⟩) 2 cap, .slice none 0 0] 26)
  have KE := Lib.hid (kk.trans KA)
  have hk := hk.keep (Nat.le_refl _) KA
  have hf := hf.keep KA
  have x8 := (Blk.new w1 26 #[.int .i64 1, .int .i64 0, .bool false, .int .i64 0, .int .u8 0, .bool false, .string ⟨#[]⟩, .string ⟨#[]⟩, .slice (some ⟨g, 0, none⟩) 2 cap, .slice none 0 0]).cell 8 (v := .slice (some ⟨g, 0, none⟩) 2 cap) rfl
  obtain ⟨kv0, a0, hk0⟩ := hk.at (i := 0) rfl
  obtain ⟨kv1, a1, hk1⟩ := hk.at (i := 1) rfl
  obtain ⟨ao0, cap0, e0, _, _, hg0⟩ := hk0.slice
  obtain ⟨g0, rfl⟩ := hg0 (by decide)
  have e0' : kv0 = .slice (some ⟨g0, 0, none⟩) 2 cap0 := e0
  subst e0'
  obtain ⟨kv01, a01, _⟩ := hk0.at (i := 1) rfl
  obtain ⟨ao1, cap1, e1, _, _, _⟩ := hk1.slice
  have e1' : kv1 = .slice ao1 2 cap1 := e1
  subst e1'
  obtain ⟨gr, capr, er⟩ : ∃ gr capr, v = .slice (some ⟨gr, 0, none⟩) 1 capr := by
    rcases hf.2 with ⟨_, q⟩ | ⟨gr, capr, _, q, _⟩
    · cases q
    · exact ⟨gr, capr, q⟩
  subst er
  have q1 : (w1.alloc (.cells #[.int .i64 1, .int .i64 0, .bool false, .int .i64 0, .int .u8 0, .bool false, .string ⟨#[]⟩, .string ⟨#[]⟩, .slice (some ⟨g, 0, none⟩) 2 cap, .slice none 0 0] 26)).cell? ⟨gr, 1, none⟩ = some (.string ⟨#[47, 117]⟩) := World.ownsRow.cellAt hf 1 (by decide)
  have q2 : (w1.alloc (.cells #[.int .i64 1, .int .i64 0, .bool false, .int .i64 0, .int .u8 0, .bool false, .string ⟨#[]⟩, .string ⟨#[]⟩, .slice (some ⟨g, 0, none⟩) 2 cap, .slice none 0 0] 26)).cell? ⟨g, 0, none⟩ = some (.int .i64 2) := a0.c0
  have q3 : (w1.alloc (.cells #[.int .i64 1, .int .i64 0, .bool false, .int .i64 0, .int .u8 0, .bool false, .string ⟨#[]⟩, .string ⟨#[]⟩, .slice (some ⟨g, 0, none⟩) 2 cap, .slice none 0 0] 26)).cell? ⟨g, 8, none⟩ = some (.slice (some ⟨g0, 0, none⟩) 2 cap0) := a0.c8
  have q4 : (w1.alloc (.cells #[.int .i64 1, .int .i64 0, .bool false, .int .i64 0, .int .u8 0, .bool false, .string ⟨#[]⟩, .string ⟨#[]⟩, .slice (some ⟨g, 0, none⟩) 2 cap, .slice none 0 0] 26)).cell? ⟨g0, 17, none⟩ = some (.string ⟨#[98, 10, 99]⟩) := a01.c7
  have q5 : (w1.alloc (.cells #[.int .i64 1, .int .i64 0, .bool false, .int .i64 0, .int .u8 0, .bool false, .string ⟨#[]⟩, .string ⟨#[]⟩, .slice (some ⟨g, 0, none⟩) 2 cap, .slice none 0 0] 26)).cell? ⟨g, 10, none⟩ = some (.int .i64 3) := a1.c0
  have q6 : (w1.alloc (.cells #[.int .i64 1, .int .i64 0, .bool false, .int .i64 0, .int .u8 0, .bool false, .string ⟨#[]⟩, .string ⟨#[]⟩, .slice (some ⟨g, 0, none⟩) 2 cap, .slice none 0 0] 26)).cell? ⟨g, 15, none⟩ = some (.bool true) := a1.c5
  have q7 : (w1.alloc (.cells #[.int .i64 1, .int .i64 0, .bool false, .int .i64 0, .int .u8 0, .bool false, .string ⟨#[]⟩, .string ⟨#[]⟩, .slice (some ⟨g, 0, none⟩) 2 cap, .slice none 0 0] 26)).cell? ⟨g, 18, none⟩ = some (.slice ao1 2 cap1) := a1.c8
  clear hp hk hf hk0 hk1 a0 a1 a01 hg hg0 kk KA ev PA e0 e1 ekv
  go_wp2_with fail
  go_ret
  exact ⟨rfl, KE.out⟩
end Go.Proofs.YtfgpephpkibbaaaGreatDoor

/-
  Blocks in memory stay as they are.
-/
namespace Go.Proofs.YtfgpephpkibbaaaGreatDoor
open Go.RowKit Go.Lib

theorem Kids.over {W W' : World} {lo hi : Nat} {kids : List Tr} {kv : Value} (h : Kids W lo hi kids kv) (hb : ∀ b, b < hi → W'.heap[b]? = W.heap[b]?) : Kids W' lo hi kids kv := by
  obtain ⟨cs, h1, h2, h3, h4⟩ := h
  exact ⟨cs, row_same h1 fun g e => hb g (h2 g e), h2, h3, fun i a b => (h4 i a b).same (Nat.le_refl _) (Nat.le_refl _) fun x _ hx => hb x hx⟩
theorem At.keep {W W' : World} {g o k l : Nat} {od : Bool} {st mk : Nat} {ti : Bool} {info text : List UInt8} {kv : Value} (h : At W g o k l od st mk ti info text kv) (q : Keeps W W') : At W' g o k l od st mk ti info text kv :=
  ⟨keep_cell h.c0 q, keep_cell h.c1 q, keep_cell h.c2 q, keep_cell h.c3 q, keep_cell h.c4 q, keep_cell h.c5 q, keep_cell h.c6 q, keep_cell h.c7 q, keep_cell h.c8 q, keep_cell h.c9 q⟩
theorem same_b (s : ByteArray) : (⟨s.data.toList.toArray⟩ : ByteArray) = s := by cases s; rfl
end Go.Proofs.YtfgpephpkibbaaaGreatDoor

/-
  Lists of texts' bytes, one by one. No program in sight.
-/
namespace Go.Proofs.YtfgpephpkibbaaaGreatDoor
open Go.RowKit Go.Lib

/-- The lists of the texts' bytes. -/
def lsB (xs : List ByteArray) : List (List UInt8) := xs.map fun x => x.data.toList
theorem lsB_take {xs : List ByteArray} {k : Nat} (h : k < xs.length) : lsB (xs.take (k + 1)) = lsB (xs.take k) ++ [(xs.getD k ⟨#[]⟩).data.toList] := by
  unfold lsB
  rw [List.take_succ_eq_append_getElem h, List.map_append, List.getD_eq_getElem?_getD, List.getElem?_eq_getElem h]; rfl
theorem lsB_get {xs : List ByteArray} {m : Nat} (h : m < xs.length) (h' : m < (lsB xs).length) : (lsB xs)[m] = (xs.getD m ⟨#[]⟩).data.toList := by
  simp [lsB, List.getD_eq_getElem?_getD, List.getElem?_eq_getElem h]
theorem aL_snoc (ws : List (List UInt8)) (w : List UInt8) : aL (ws ++ [w]) = aL ws ++ w ++ [10] := by unfold aL; simp
theorem bL_snoc (ws : List (List UInt8)) (w : List UInt8) : bL (ws ++ [w]) = bL ws ++ w ++ [10, 10] := by unfold bL; simp
end Go.Proofs.YtfgpephpkibbaaaGreatDoor

/-
  Contracts of the law's lines and plain.
-/
namespace Go.Proofs.YtfgpephpkibbaaaGreatDoor
open Go.RowKit Go.Lib

/-- Lines as the laws want them: few, short, without LFs and tabs. -/
structure Lns (xs : List ByteArray) : Prop where
  pos : 0 < xs.length
  few : xs.length ≤ 41
  size : (xs.map ByteArray.size).sum ≤ 1000
  ok : ∀ x ∈ xs, ∀ b ∈ x.data.toList, b ≠ 10 ∧ b ≠ 9
/-- What lines answers. -/
def LnR (w : World) (xs : List ByteArray) (e : Ending) (w' : World) : Prop := ∃ r, e = .returned (.bool r) ∧ w = w' ∧ (r = true → Lns xs)
theorem LnR.of {w : World} {xs : List ByteArray} {r : Bool} (h : r = true → Lns xs) : LnR w xs (.returned (.bool r)) w := ⟨r, rfl, rfl, h⟩
theorem take_one {α : Type} {xs : List α} {k : Nat} {d : α} (h : k < xs.length) : xs.take (k + 1) = xs.take k ++ [xs.getD k d] := by
  rw [List.take_succ_eq_append_getElem h, List.getD_eq_getElem?_getD, List.getElem?_eq_getElem h]; rfl
theorem aL_size : ∀ xs : List ByteArray, (aL (lsB xs)).length = (xs.map ByteArray.size).sum + xs.length
  | [] => rfl
  | x :: xs => by
    have ih := aL_size xs
    show (aL (x.data.toList :: lsB xs)).length = _
    rw [aL_cons, List.length_append, List.length_cons, ih, bytes_len, List.map_cons, List.sum_cons, List.length_cons]; omega
theorem sum_take_le : ∀ (xs : List ByteArray) (k : Nat), ((xs.take k).map ByteArray.size).sum ≤ (xs.map ByteArray.size).sum
  | [], k => by rw [List.take_nil]; exact Nat.le_refl _
  | x :: xs, 0 => Nat.zero_le _
  | x :: xs, k + 1 => by
    have := sum_take_le xs k
    rw [List.take_succ_cons, List.map_cons, List.map_cons, List.sum_cons, List.sum_cons]; omega
set_option maxRecDepth 100000 in
set_option maxHeartbeats 4000000 in
theorem lines_some (xs : List ByteArray) (b off n c : Nat) (w : World) (hn : xs.length = n) (h1 : 0 < n) (hm : n ≤ maxLen) (hs : ∀ x ∈ xs, x.size ≤ maxLen) (hc : ∀ k, k < n → w.cell? ⟨b, off + k, none⟩ = some (.string (xs.getD k ⟨#[]⟩))) :
    Calls Tryz.prog 11 #[.slice (some ⟨b, off, none⟩) n c] w fun e w' => LnR w xs e w' := by
  unfold maxLen at hm
  have HC := Lib.hid hc
  have HZ := Lib.hid hs
  have HL := Lib.hid hn
  clear hc hs hn
  go_enter Tryz.func11, Tryz.ntmps11
  go_wp2_with fail
  go_loop [3, 4] (fun v i => ∃ k s : Nat, k ≤ n ∧ k ≤ 41 ∧ i = .int .i64 k ∧ v = .int .i64 s ∧ s ≤ 1000 ∧ Hid (s = ((xs.take k).map ByteArray.size).sum) ∧ Hid (∀ x ∈ xs.take k, ∀ b ∈ x.data.toList, b ≠ 10 ∧ b ≠ 9)) (fun _ i => n - (RowKit.intOf i).toNat)
  case atStart => exact ⟨0, 0, Nat.zero_le _, by decide, rfl, rfl, by decide, Lib.hid rfl, Lib.hid (fun x hx => by cases hx)⟩
  case round =>
    obtain ⟨k, s, hk, hk41, rfl, rfl, hs, HS, HK⟩ := hrel
    by_cases c0 : k < n
    · have cx := HC.out k c0
      have hkl : k < xs.length := by rw [HL.out]; exact c0
      have HT := Lib.hid (take_one (d := (⟨#[]⟩ : ByteArray)) hkl)
      have zx := HZ.out (xs.getD k ⟨#[]⟩) (by rw [List.getD_eq_getElem?_getD, List.getElem?_eq_getElem hkl]; exact List.getElem_mem _)
      clear hkl
      obtain ⟨x, hx⟩ : ∃ x, xs.getD k ⟨#[]⟩ = x := ⟨_, rfl⟩
      rw [hx] at cx HT zx
      unfold maxLen at zx
      clear hx
      have ckn : (k : Int) < (n : Int) := by omega
      by_cases c1 : 1000 < s + x.size
      · have t1 : (1000 : Int) - (s : Int) < (x.size : Int) := by omega
        clear HS HK HT
        go_wp2_with fail
        go_ret
        exact LnR.of fun q => by cases q
      · have t1 : ¬ (1000 : Int) - (s : Int) < (x.size : Int) := by omega
        by_cases c2 : 40 < k
        · have t2 : (40 : Int) < (k : Int) := by omega
          clear HS HK HT
          go_wp2_with fail
          go_ret
          exact LnR.of fun q => by cases q
        · have t2 : ¬ (40 : Int) < (k : Int) := by omega
          have HS2 : Hid (s + x.size = ((xs.take (k + 1)).map ByteArray.size).sum) := Lib.hid (by rw [HT.out, List.map_append, List.sum_append, ← HS.out]; simp)
          clear HS
          go_wp2_with fail
          go_loop [5] (fun j => ∃ q : Nat, q ≤ x.size ∧ j = .int .i64 q ∧ Hid (∀ b ∈ x.data.toList.take q, b ≠ 10 ∧ b ≠ 9)) (fun j => x.size - (RowKit.intOf j).toNat)
          case atStart => exact ⟨0, Nat.zero_le _, rfl, Lib.hid (fun b hb => by cases hb)⟩
          case round =>
            obtain ⟨q, hq, rfl, HQ⟩ := hrel
            by_cases cq : q < x.size
            · by_cases d1 : x[q].toNat = 10
              · have t3 : ((x[q].toNat : Int) == 10) = true := by rw [d1]; rfl
                clear HQ HK HT HS2 d1
                go_wp2_with fail
                go_ret
                exact LnR.of fun q => by cases q
              · have t3 : ((x[q].toNat : Int) == 10) = false := beq_eq_false_iff_ne.2 (by omega)
                by_cases d2 : x[q].toNat = 9
                · have t4 : ((x[q].toNat : Int) == 9) = true := by rw [d2]; rfl
                  clear HQ HK HT HS2 d1 d2
                  go_wp2_with fail
                  go_ret
                  exact LnR.of fun q => by cases q
                · have t4 : ((x[q].toNat : Int) == 9) = false := beq_eq_false_iff_ne.2 (by omega)
                  have HQ2 : Hid (∀ b ∈ x.data.toList.take (q + 1), b ≠ 10 ∧ b ≠ 9) := Lib.hid (by
                    rw [take_next x q cq]
                    intro b hb
                    rcases List.mem_append.1 hb with p | p
                    · exact HQ.out b p
                    · rw [List.mem_singleton.1 p]
                      exact ⟨fun e => d1 (by rw [e]; rfl), fun e => d2 (by rw [e]; rfl)⟩)
                  clear HQ d1 d2
                  go_wp2_with fail
                  go_round
                  case rel => exact ⟨q + 1, cq, by go_num, HQ2⟩
                  case measure => simp [RowKit.intOf]; omega
            · have HK2 : Hid (∀ y ∈ xs.take (k + 1), ∀ b ∈ y.data.toList, b ≠ 10 ∧ b ≠ 9) := Lib.hid (by
                rw [HT.out]
                intro y hy
                rcases List.mem_append.1 hy with p | p
                · exact HK.out y p
                · rw [List.mem_singleton.1 p]
                  have := HQ.out
                  rw [List.take_of_length_le (by rw [bytes_len]; omega)] at this
                  exact this)
              clear HQ HK HT
              go_wp2_with fail
              go_round
              case rel => exact ⟨k + 1, s + x.size, by omega, by omega, by go_num, by go_num, by omega, HS2, HK2⟩
              case measure => simp [RowKit.intOf]; omega
    · have hkn : k = n := by omega
      subst hkn
      have HX : Hid (Lns xs) := Lib.hid (by
        have hx : xs.take k = xs := List.take_of_length_le (by rw [HL.out]; exact Nat.le_refl _)
        have a1 := HS.out
        have a2 := HK.out
        rw [hx] at a1 a2
        exact ⟨by rw [HL.out]; exact h1, by rw [HL.out]; exact hk41, by rw [← a1]; exact hs, a2⟩)
      have t5 : (0 : Int) < (k : Int) := by omega
      clear HS HK
      go_wp2_with fail
      go_ret
      exact LnR.of fun _ => HX.out
set_option maxRecDepth 100000 in
set_option maxHeartbeats 4000000 in
theorem lplain_any (xs : List ByteArray) (b off n c : Nat) (w : World) (H : Lns xs) (hn : xs.length = n) (hc : ∀ k, k < n → w.cell? ⟨b, off + k, none⟩ = some (.string (xs.getD k ⟨#[]⟩))) :
    Calls Tryz.prog 12 #[.slice (some ⟨b, off, none⟩) n c] w fun e w' => ∃ P : ByteArray, e = .returned (.string P) ∧ w = w' ∧ P.data.toList = aL (lsB xs) ∧ P.size ≤ 1041 := by
  have HC := Lib.hid hc
  have HL := Lib.hid hn
  have HH := Lib.hid H
  have h41 : n ≤ 41 := by rw [← hn]; exact H.few
  clear hc hn H
  go_enter Tryz.func12, Tryz.ntmps12
  go_wp2_with fail
  go_loop [3, 4] (fun v i => ∃ (k : Nat) (A : ByteArray), k ≤ n ∧ i = .int .i64 k ∧ v = .string A ∧ A.size ≤ 1000 + k ∧ Hid (A.data.toList = aL (lsB (xs.take k)))) (fun _ i => n - (RowKit.intOf i).toNat)
  case atStart => exact ⟨0, ⟨#[]⟩, Nat.zero_le _, rfl, rfl, by decide, Lib.hid rfl⟩
  case round =>
    obtain ⟨k, A, hk, rfl, rfl, hA, HA⟩ := hrel
    by_cases c0 : k < n
    · have cx := HC.out k c0
      have hkl : k < xs.length := by rw [HL.out]; exact c0
      have HT := Lib.hid (lsB_take hkl)
      have hsz := aL_size (xs.take (k + 1))
      have hle := sum_take_le xs (k + 1)
      have h1000 := HH.out.size
      rw [HT.out, aL_snoc, ← HA.out, List.length_append, List.length_append, bytes_len, bytes_len] at hsz
      rw [List.length_take, Nat.min_eq_left (by omega)] at hsz
      clear hkl
      obtain ⟨x, hx⟩ : ∃ x, xs.getD k ⟨#[]⟩ = x := ⟨_, rfl⟩
      rw [hx] at cx HT hsz
      clear hx
      have ckn : (k : Int) < (n : Int) := by omega
      have l1 : ([10] : List UInt8).length = 1 := rfl
      have hx1 : A.size + x.size + 1 ≤ 1000 + (k + 1) := by omega
      obtain ⟨A', hA'⟩ : ∃ A', A ++ x ++ (⟨#[10]⟩ : ByteArray) = A' := ⟨_, rfl⟩
      have z1 : (⟨#[10]⟩ : ByteArray).size = 1 := rfl
      have y1 : A'.size ≤ 1000 + (k + 1) := by rw [← hA', ByteArray.size_append, ByteArray.size_append]; omega
      have NA : Hid (A'.data.toList = aL (lsB (xs.take (k + 1)))) := Lib.hid (by rw [← hA', bytes_app, bytes_app, HA.out, HT.out, aL_snoc])
      clear HA HT hsz hle h1000 l1
      go_wp2_with fail
      go_round
      case rel => exact ⟨k + 1, A', by omega, by go_num, rfl, y1, NA⟩
      case measure => simp [RowKit.intOf]; omega
    · have hkn : k = n := by omega
      subst hkn
      have HX : Hid (A.data.toList = aL (lsB xs)) := Lib.hid (by
        have := HA.out
        rw [List.take_of_length_le (by rw [HL.out]; exact Nat.le_refl _)] at this
        exact this)
      clear HA
      go_wp2_with fail
      go_ret
      exact ⟨A, rfl, rfl, HX.out, by omega⟩
set_option maxRecDepth 100000 in
set_option maxHeartbeats 2000000 in
theorem lines_none (a : Option Addr) (c : Nat) (w : World) : Calls Tryz.prog 11 #[.slice a 0 c] w fun e w' => e = .returned (.bool false) ∧ w = w' := by
  go_enter Tryz.func11, Tryz.ntmps11
  go_wp2_with fail
  go_loop [3, 4] (fun v i => v = .int .i64 0 ∧ i = .int .i64 0) (fun _ _ => 0)
  case atStart => exact ⟨rfl, rfl⟩
  case round =>
    obtain ⟨rfl, rfl⟩ := hrel
    go_wp2_with fail
    go_ret
    exact ⟨rfl, rfl⟩
end Go.Proofs.YtfgpephpkibbaaaGreatDoor

/-
  Texts of a word, a heading and a word, and of words with lines under them: what the parser makes of them. The contract of the law's word.
-/
namespace Go.Proofs.YtfgpephpkibbaaaGreatDoor
open Go.RowKit Go.Lib

theorem lines_cut {a l : List UInt8} (h : ∀ b ∈ a, b ≠ 10) : linesL (a ++ 10 :: l) = a :: linesL l := by
  unfold linesL
  rw [linesFrom_run a [] _ h, linesFrom, if_pos rfl, List.nil_append]
theorem hdl {k : Nat} (h : 1 ≤ k ∧ k ≤ 6) {s : List UInt8} (hs : Wrd s) : Hdl (List.replicate k 35 ++ 32 :: s) k s := by
  have hc : k = 1 ∨ k = 2 ∨ k = 3 ∨ k = 4 ∨ k = 5 ∨ k = 6 := by omega
  rcases hc with rfl | rfl | rfl | rfl | rfl | rfl <;> exact ⟨rfl, ⟨35, _, rfl⟩, rfl, rfl, by decide, hs.htext⟩
theorem unl1 : Unl [61, 61, 61] 1 := ⟨rfl, ⟨_, _, rfl⟩, rfl, rfl, rfl, rfl, rfl, rfl, by decide⟩
theorem unl2 : Unl [45, 45, 45] 2 := ⟨rfl, ⟨_, _, rfl⟩, rfl, rfl, rfl, rfl, rfl, rfl, by decide⟩
theorem hdl_lf {k : Nat} {s : List UInt8} (hs : Wrd s) : ∀ b ∈ List.replicate k 35 ++ 32 :: s, b ≠ 10 := by
  intro b hb
  rcases List.mem_append.1 hb with h | h
  · rw [(List.mem_replicate.1 h).2]; decide
  · rcases List.mem_cons.1 h with rfl | h
    · decide
    · exact hs.lf b h
def hedT (k : Nat) (s : List UInt8) : Tr := .mk 6 k false 0 0 false [] s []
theorem heads1 {b s : List UInt8} {k : Nat} (hb : Wrd b) (hs : Wrd s) (hk : 1 ≤ k ∧ k ≤ 6) :
    parseM (b ++ [10] ++ List.replicate k 35 ++ [32] ++ s ++ [10] ++ b ++ [10]) = some (docT [parT b, hedT k s, parT b], []) := by
  have e : b ++ [10] ++ List.replicate k 35 ++ [32] ++ s ++ [10] ++ b ++ [10] = b ++ 10 :: ((List.replicate k 35 ++ 32 :: s) ++ 10 :: (b ++ 10 :: [])) := by simp
  have el : linesL (b ++ [10] ++ List.replicate k 35 ++ [32] ++ s ++ [10] ++ b ++ [10]) = [b, List.replicate k 35 ++ 32 :: s, b] := by
    rw [e, lines_cut hb.lf, lines_cut (hdl_lf hs), lines_cut hb.lf]; rfl
  have er : runBM [b, List.replicate k 35 ++ 32 :: s, b] st0 = some (S3 b s k) := by
    rw [runBM, take_first hb, if_neg (by exact Bool.false_ne_true), runBM, take_head hb (hdl hk hs), if_neg (by exact Bool.false_ne_true), runBM, take_after hb, if_neg (by exact Bool.false_ne_true), runBM]
  have ec : cwM (S3 b s k) 0 = { closedM (S3 b s k) 3 with tip := 0 } := rfl
  unfold parseM
  rw [el, er, Option.map_some, ec, close_para (S3 b s k) 3 (hb.defs (q := [10])) hb.trim rfl rfl (by show 3 < 4; decide) hb.1]
  rfl
theorem heads2 {b s : List UInt8} (hb : Wrd b) (hs : Wrd s) :
    parseM (s ++ [10, 61, 61, 61, 10] ++ b ++ [10, 45, 45, 45, 10]) = some (docT [hedT 1 s, hedT 2 b], []) := by
  have e : s ++ [10, 61, 61, 61, 10] ++ b ++ [10, 45, 45, 45, 10] = s ++ 10 :: ([61, 61, 61] ++ 10 :: (b ++ 10 :: ([45, 45, 45] ++ 10 :: []))) := by simp
  have el : linesL (s ++ [10, 61, 61, 61, 10] ++ b ++ [10, 45, 45, 45, 10]) = [s, [61, 61, 61], b, [45, 45, 45]] := by
    rw [e, lines_cut hs.lf, lines_cut (by decide), lines_cut hb.lf, lines_cut (by decide)]; rfl
  have er : runBM [s, [61, 61, 61], b, [45, 45, 45]] st0 = some (U3 s b [45, 45, 45]) := by
    rw [runBM, take_first hs, if_neg (by exact Bool.false_ne_true), runBM, take_u1 hs unl1, if_neg (by exact Bool.false_ne_true), runBM, take_u2 hb, if_neg (by exact Bool.false_ne_true), runBM, take_u3 hb unl2, if_neg (by exact Bool.false_ne_true), runBM]
  unfold parseM
  rw [el, er]
  rfl

/-! The law's word. -/
def ltB (b : UInt8) : Bool := decide (97 ≤ b.toNat) && decide (b.toNat ≤ 122)
def wrdB (l : List UInt8) : Bool := l.all ltB && (!decide (l = []) && decide (l.length ≤ 40))
theorem ltB_yes {b : UInt8} (h : ltB b = true) : ltr b := by
  unfold ltB at h
  simp only [Bool.and_eq_true, decide_eq_true_eq] at h
  exact h
theorem wrdB_yes {l : List UInt8} (h : wrdB l = true) : Wrd l ∧ l.length ≤ 40 := by
  unfold wrdB at h
  simp only [Bool.and_eq_true, Bool.not_eq_true', decide_eq_true_eq, decide_eq_false_iff_not, List.all_eq_true] at h
  exact ⟨⟨h.2.1, fun b hb => ltB_yes (h.1 b hb)⟩, h.2.2⟩
theorem all_next {l : List UInt8} {k : Nat} (h : (l.take k).all ltB = true) (hk : k < l.length) (hb : ltB l[k] = true) : (l.take (k + 1)).all ltB = true := by
  rw [List.take_succ_eq_append_getElem hk, List.all_append, h, List.all_cons, hb]; rfl
theorem wrdB_no {l : List UInt8} {k : Nat} (hk : k < l.length) (hb : ltB l[k] = false) : wrdB l = false := by
  have : l.all ltB = false := by
    rw [← Bool.not_eq_true, List.all_eq_true]
    intro h
    rw [h _ (List.getElem_mem hk)] at hb
    cases hb
  unfold wrdB
  rw [this]; rfl
set_option maxRecDepth 100000 in
set_option maxHeartbeats 2000000 in
theorem word_any (s : ByteArray) (w : World) (hs : s.size ≤ maxLen) :
    Calls Tryz.prog 17 #[.string s] w fun e w' => e = .returned (.bool (wrdB s.data.toList)) ∧ w = w' := by
  have hl := Lib.hid (bytes_len s)
  unfold maxLen at hs
  go_enter Tryz.func17, Tryz.ntmps17
  go_wp2_with fail
  go_loop [3] (fun i => ∃ k : Nat, k ≤ s.size ∧ i = .int .i64 k ∧ Hid ((s.data.toList.take k).all ltB = true)) (fun i => s.size - (RowKit.intOf i).toNat)
  case atStart => exact ⟨0, Nat.zero_le _, rfl, Lib.hid rfl⟩
  case round =>
    obtain ⟨k, hk, rfl, HC⟩ := hrel
    by_cases c : k < s.size
    · by_cases c1 : 97 ≤ s[k].toNat
      · by_cases c2 : s[k].toNat ≤ 122
        · have HN : Hid ((s.data.toList.take (k + 1)).all ltB = true) := Lib.hid (all_next HC.out (by rw [hl.out]; exact c) (by
            show ltB s[k] = true
            unfold ltB; rw [decide_eq_true c1, decide_eq_true c2]; rfl))
          clear HC
          go_wp2_with fail
          go_round
          case rel => exact ⟨k + 1, by omega, by go_num, HN⟩
          case measure => simp [RowKit.intOf]; omega
        · have HN : Hid (wrdB s.data.toList = false) := Lib.hid (wrdB_no (k := k) (by rw [hl.out]; exact c) (by
            show ltB s[k] = false
            unfold ltB; rw [decide_eq_false c2, Bool.and_false]))
          clear HC
          go_wp2_with fail
          go_ret
          exact ⟨ret_bool HN.out.symm, rfl⟩
      · have HN : Hid (wrdB s.data.toList = false) := Lib.hid (wrdB_no (k := k) (by rw [hl.out]; exact c) (by
          show ltB s[k] = false
          unfold ltB; rw [decide_eq_false c1]; rfl))
        clear HC
        go_wp2_with fail
        go_ret
        exact ⟨ret_bool HN.out.symm, rfl⟩
    · have HA : Hid (s.data.toList.all ltB = true) := Lib.hid (by
        have := HC.out
        rw [List.take_of_length_le (by rw [hl.out]; omega)] at this
        exact this)
      clear HC
      by_cases c0 : s.size = 0
      · have e0 : s = ⟨#[]⟩ := by
          apply ByteArray.ext
          apply Array.ext'
          exact List.eq_nil_of_length_eq_zero (by rw [hl.out, c0])
        subst e0
        go_wp2_with fail
        go_ret
        exact ⟨rfl, rfl⟩
      · have t0 : ¬ s.toList = [] := tl_ne (by omega)
        have HN : Hid ((!s.toList.isEmpty && decide ((s.size : Int) ≤ 40)) = wrdB s.data.toList) := Lib.hid (by
          unfold wrdB
          have e0 : decide (s.data.toList = []) = false := decide_eq_false (fun e => c0 (by rw [← hl.out, e]; rfl))
          rw [HA.out, hl.out, tl_empty (by omega), e0]
          show decide ((s.size : Int) ≤ 40) = decide (s.size ≤ 40)
          exact decide_eq_decide.2 (by omega))
        clear HA
        go_wp2_with fail
        go_ret
        exact ⟨ret_bool HN.out, rfl⟩
end Go.Proofs.YtfgpephpkibbaaaGreatDoor

/-
  BlockRefs is true of any texts.
-/
namespace Go.Proofs.YtfgpephpkibbaaaGreatDoor
open Go.RowKit Go.Lib

theorem txJ_snoc : ∀ (ws : List (List UInt8)) (j : Nat) (w : List UInt8), j ≤ 2 → txJ j (ws ++ [w]) = txJ j ws ++ (dfW w ++ [10] ++ (if (j + ws.length) % 3 = 2 then [10] else []))
  | [], j, w, hj => by
    rw [List.nil_append, txJ, txJ]
    by_cases c : j = 2
    · subst c; simp [txJ]
    · rw [if_neg c, if_neg (by rw [List.length_nil]; omega)]; simp [txJ]
  | v :: ws, j, w, hj => by
    rw [List.cons_append, txJ, txJ, List.length_cons]
    by_cases c : j = 2
    · subst c
      rw [if_pos rfl, if_pos rfl, txJ_snoc ws 0 w (by omega), show (0 + ws.length) % 3 = (2 + (ws.length + 1)) % 3 by omega]
      simp
    · rw [if_neg c, if_neg c, txJ_snoc ws (j + 1) w (by omega), show (j + 1 + ws.length) % 3 = (j + (ws.length + 1)) % 3 by omega]
      simp
set_option maxRecDepth 100000 in
set_option maxHeartbeats 8000000 in
theorem brefs_go (xs : List ByteArray) (a : Option Addr) (n c : Nat) (w : World) (hn : xs.length = n) (h30 : n ≤ 30) (hs : ∀ x ∈ xs, x.size ≤ maxLen) (hc : 0 < n → ∃ b off, a = some ⟨b, off, none⟩ ∧ ∀ k, k < n → w.cell? ⟨b, off + k, none⟩ = some (.string (xs.getD k ⟨#[]⟩))) (hO : Lis w) (hM : Mxl w) :
    Calls Tryz.prog 6 #[.slice a n c] w fun e w' => e = .returned (.bool true) ∧ Keeps w w' := by
  have WA := Lib.hid (fun (x : ByteArray) (h : x.size ≤ maxLen) W => word_any x W h)
  have PA := Lib.hid (fun t (h : t.size ≤ 5000) W (q : Keeps w W) => parse_any t W h (hO.keep q) (hM.keep q))
  have AW := Lib.hid (fun W' (q : Keeps w W') => awake12_any W' (hO.keep q) (hM.keep q))
  have HC := Lib.hid hc
  have HZ := Lib.hid hs
  have HL := Lib.hid hn
  clear hO hM hc hs hn
  go_enter Tryz.func6, Tryz.ntmps6
  go_wp2_with fail
  go_loopw [3, 4] (fun A i wr => ∃ (k : Nat) (a1 : ByteArray), k ≤ n ∧ i = .int .i64 k ∧ A = .string a1 ∧ a1.size ≤ 87 * k ∧ Hid (a1.data.toList = txJ 0 (lsB (xs.take k))) ∧ Hid (∀ v ∈ lsB (xs.take k), Wrd v ∧ v.length ≤ 40) ∧ Hid (Keeps w wr)) (fun _ i _ => n - (RowKit.intOf i).toNat)
  case atStart => exact ⟨0, ⟨#[]⟩, Nat.zero_le _, rfl, rfl, by decide, Lib.hid rfl, Lib.hid (fun v hv => by cases hv), Lib.hid (Keeps.refl w)⟩
  case round =>
    obtain ⟨k, a1, hk, rfl, rfl, s1, HA, HW, HR⟩ := hrel
    by_cases c0 : k < n
    · obtain ⟨b, off, rfl, hcell⟩ := HC.out (by omega)
      have cx := keep_cell (hcell k c0) HR.out
      clear hcell
      have HN := Lib.hid (lsB_take (xs := xs) (k := k) (by rw [HL.out]; exact c0))
      have HT : Hid ((lsB (xs.take k)).length = k) := Lib.hid (by unfold lsB; rw [List.length_map, List.length_take, HL.out]; omega)
      have HQ := Lib.hid (HZ.out (xs.getD k ⟨#[]⟩) (by rw [List.getD_eq_getElem?_getD, List.getElem?_eq_getElem (by rw [HL.out]; exact c0)]; exact List.getElem_mem _))
      obtain ⟨x, hx⟩ : ∃ x, xs.getD k ⟨#[]⟩ = x := ⟨_, rfl⟩
      rw [hx] at cx HN HQ
      clear hx
      have WX := Lib.hid (fun W => WA.out x HQ.out W)
      have ckn : (k : Int) < (n : Int) := by omega
      cases hw : wrdB x.data.toList with
      | false =>
        rw [hw] at WX
        have AX := Lib.hid (AW.out wr HR.out)
        clear HA HW HN HQ HT hw
        go_wp2_with fail
        refine (WX.out _).mono ?_
        rintro e w1 ⟨rfl, rfl⟩
        go_wp2_with fail
        refine AX.out.mono ?_
        rintro e w1 ⟨rfl, k1⟩
        have K1 := Lib.hid (HR.out.trans k1)
        clear k1
        go_wp2_with fail
        go_ret
        exact ⟨rfl, K1.out⟩
      | true =>
        rw [hw] at WX
        have HX := Lib.hid (wrdB_yes hw)
        have sx : x.size ≤ 40 := by have := (wrdB_yes hw).2; rw [bytes_len] at this; exact this
        clear hw HQ
        have NW : Hid (∀ v ∈ lsB (xs.take (k + 1)), Wrd v ∧ v.length ≤ 40) := Lib.hid (by
          rw [HN.out]
          intro v hv
          rcases List.mem_append.1 hv with q | q
          · exact HW.out v q
          · rw [List.mem_singleton.1 q]; exact HX.out)
        obtain ⟨A', hA'⟩ : ∃ A', a1 ++ (⟨#[91]⟩ : ByteArray) ++ x ++ (⟨#[93, 58, 32]⟩ : ByteArray) ++ x ++ (⟨#[10]⟩ : ByteArray) = A' := ⟨_, rfl⟩
        have z1 : (⟨#[91]⟩ : ByteArray).size = 1 := rfl
        have z2 : (⟨#[93, 58, 32]⟩ : ByteArray).size = 3 := rfl
        have z3 : (⟨#[10]⟩ : ByteArray).size = 1 := rfl
        have y1 : A'.size ≤ 87 * k + 86 := by rw [← hA']; simp only [ByteArray.size_append]; omega
        have NA : Hid (A'.data.toList = txJ 0 (lsB (xs.take k)) ++ (dfW x.data.toList ++ [10])) := Lib.hid (by rw [← hA']; simp only [bytes_app]; rw [HA.out]; unfold dfW; simp)
        obtain ⟨m, hm, hm3⟩ : ∃ m : Nat, (k : Int).tmod 3 = (m : Int) ∧ m = k % 3 := ⟨k % 3, by rw [Int.tmod_eq_emod_of_nonneg (by omega)]; omega, rfl⟩
        by_cases c3 : m = 2
        · have t3 : ((m : Int) == 2) = true := by rw [c3]; rfl
          obtain ⟨B', hB'⟩ : ∃ B', A' ++ (⟨#[10]⟩ : ByteArray) = B' := ⟨_, rfl⟩
          have y2 : B'.size ≤ 87 * (k + 1) := by rw [← hB', ByteArray.size_append]; omega
          have NB : Hid (B'.data.toList = txJ 0 (lsB (xs.take (k + 1)))) := Lib.hid (by
            rw [HN.out, txJ_snoc _ 0 _ (by omega), HT.out, if_pos (by omega), ← hB', bytes_app, NA.out]
            simp)
          have Y2 := Lib.hid y2
          clear HA HW HN HX NA z1 z2 y2 hm3 c3
          go_wp2_with fail
          refine (WX.out _).mono ?_
          rintro e w1 ⟨rfl, rfl⟩
          clear WX
          go_wp2_with fail
          go_quiet (fail)
          go_wp2_with fail
          go_roundw
          case rel => exact ⟨k + 1, B', by omega, by go_num, rfl, Y2.out, NB, NW, Lib.hid (HR.out.drewN nq)⟩
          case measure => simp [RowKit.intOf]; omega
        · have t3 : ((m : Int) == 2) = false := beq_eq_false_iff_ne.2 (by omega)
          have NB : Hid (A'.data.toList = txJ 0 (lsB (xs.take (k + 1)))) := Lib.hid (by
            rw [HN.out, txJ_snoc _ 0 _ (by omega), HT.out, if_neg (by omega), List.append_nil, NA.out])
          have Y2 := Lib.hid (show A'.size ≤ 87 * (k + 1) by omega)
          clear HA HW HN HX NA z1 z2 z3 y1 hm3 c3
          go_wp2_with fail
          refine (WX.out _).mono ?_
          rintro e w1 ⟨rfl, rfl⟩
          clear WX
          go_wp2_with fail
          go_quiet (fail)
          go_wp2_with fail
          go_roundw
          case rel => exact ⟨k + 1, A', by omega, by go_num, rfl, Y2.out, NB, NW, Lib.hid (HR.out.drewN nq)⟩
          case measure => simp [RowKit.intOf]; omega
    · have hkn : k = n := by omega
      subst hkn
      have hx : xs.take k = xs := List.take_of_length_le (by rw [HL.out]; exact Nat.le_refl _)
      rw [hx] at HA HW
      have PX : Hid (parseM a1.data.toList = some (.mk 1 0 false 0 0 false [] [] [], (lsB xs).map fun w => (w, w, []))) := Lib.hid (by
        rw [HA.out]
        exact refs_parse HW.out)
      have CX := Lib.hid (PA.out a1 (by omega) wr HR.out)
      have HLN : Hid (((lsB xs).map fun w => (w, w, ([] : List UInt8))).length = k) := Lib.hid (by unfold lsB; rw [List.length_map, List.length_map, HL.out])
      clear PA HA HW hx WA
      go_wp2_with fail
      refine CX.out.mono ?_
      rintro e w1 ⟨kk, hp⟩
      obtain ⟨kv, v, rfl, hkk, hrf, _⟩ := hp.open PX.out
      obtain ⟨ao, cap, ekv, _, _, _⟩ := hkk.slice
      have ekv1 : kv = .slice ao 0 cap := ekv
      subst ekv1
      obtain ⟨va, vc, ev2, _, _⟩ := refs_form hrf
      rw [HLN.out] at ev2
      subst ev2
      have ev : blkV 1 0 false 0 0 false [] [] (.slice ao 0 cap) = .agg #[.int .i64 1, .int .i64 0, .bool false, .int .i64 0, .int .u8 0, .bool false, .string ⟨#[]⟩, .string ⟨#[]⟩, (.slice ao 0 cap), .slice none 0 0] := rfl
      rw [ev]
      have KA := (Keeps.refl w1).alloc (.cells #[.int .i64 1, .int .i64 0, .bool false, .int .i64 0, .int .u8 0, .bool false, .string ⟨#[]⟩, .string ⟨#[]⟩, (.slice ao 0 cap), .slice none 0 0] 26)
      have KE := Lib.hid ((HR.out.trans kk).trans KA)
      have HRF := Lib.hid (hrf.keep KA)
      clear hp hkk ev ekv KA kk CX PX hrf
      go_wp2_with fail
      generalize w1.alloc (.cells #[.int .i64 1, .int .i64 0, .bool false, .int .i64 0, .int .u8 0, .bool false, .string ⟨#[]⟩, .string ⟨#[]⟩, (.slice ao 0 cap), .slice none 0 0] 26) = w2 at *
      have t1 : ((k : Int) != (k : Int)) = false := by rw [bne, beq_self_eq_true]; rfl
      go_wp2_with fail
      go_loopw [8] (fun i wr => ∃ m : Nat, m ≤ k ∧ i = .int .i64 m ∧ Hid (Keeps w2 wr)) (fun i _ => k - (RowKit.intOf i).toNat)
      case atStart => exact ⟨0, Nat.zero_le _, rfl, Lib.hid (Keeps.refl _)⟩
      case round =>
        obtain ⟨m, hm, rfl, HQ4⟩ := hrel
        by_cases cm : m < k
        · have cmk : (m : Int) < (k : Int) := by omega
          obtain ⟨b, off, rfl, hcell⟩ := HC.out (by omega)
          have dx := keep_cell (keep_cell (hcell m cm) KE.out) HQ4.out
          obtain ⟨g, rfl, hrc⟩ := refs_cell (HRF.out.keep HQ4.out) (by rw [HLN.out]; omega)
          have hmx : m < ((lsB xs).map fun w => (w, w, ([] : List UInt8))).length := by rw [HLN.out]; exact cm
          obtain ⟨r0, r1, -⟩ := hrc m hmx
          have e0 : ((lsB xs).map fun w => (w, w, ([] : List UInt8)))[m] = ((xs.getD m ⟨#[]⟩).data.toList, (xs.getD m ⟨#[]⟩).data.toList, []) := by
            rw [List.getElem_map, lsB_get (xs := xs) (m := m) (by rw [HL.out]; exact cm)]
          rw [e0] at r0 r1
          rw [same_b] at r0 r1
          clear hrc e0 hmx hcell
          generalize xs.getD m ⟨#[]⟩ = x at *
          go_wp2_with fail
          go_quiet (fail)
          go_wp2_with fail
          go_roundw
          case rel => exact ⟨m + 1, by omega, by go_num, Lib.hid (HQ4.out.drewN nq)⟩
          case measure => simp [RowKit.intOf]; omega
        · have hmk : m = k := by omega
          subst hmk
          have AX := Lib.hid (AW.out wr (KE.out.trans HQ4.out))
          clear HC
          go_wp2_with fail
          refine AX.out.mono ?_
          rintro e w5 ⟨rfl, k5⟩
          have K5 := Lib.hid ((KE.out.trans HQ4.out).trans k5)
          clear k5
          go_wp2_with fail
          go_ret
          exact ⟨rfl, K5.out⟩
set_option maxRecDepth 100000 in
set_option maxHeartbeats 2000000 in
theorem brefs_far (a : Option Addr) (n c : Nat) (w : World) (h : 30 < n) (hm : n ≤ maxLen) (hO : Lis w) (hM : Mxl w) :
    Calls Tryz.prog 6 #[.slice a n c] w fun e w' => e = .returned (.bool true) ∧ Keeps w w' := by
  have AW := Lib.hid (awake12_any w hO hM)
  unfold maxLen at hm
  clear hO hM
  go_enter Tryz.func6, Tryz.ntmps6
  have t0 : (30 : Int) < (n : Int) := by omega
  go_wp2_with fail
  refine AW.out.mono ?_
  rintro e w1 ⟨rfl, k1⟩
  go_wp2_with fail
  go_ret
  exact ⟨rfl, k1⟩
theorem brefs_any (a : Option Addr) (n c : Nat) (xs : List ByteArray) (w : World) (hn : xs.length = n) (hs : ∀ x ∈ xs, x.size ≤ maxLen) (hc : 0 < n → ∃ b off, a = some ⟨b, off, none⟩ ∧ ∀ k, k < n → w.cell? ⟨b, off + k, none⟩ = some (.string (xs.getD k ⟨#[]⟩))) (hm : n ≤ maxLen) (hO : Lis w) (hM : Mxl w) :
    Calls Tryz.prog 6 #[.slice a n c] w fun e w' => e = .returned (.bool true) ∧ Keeps w w' := by
  by_cases h : n ≤ 30
  · exact brefs_go xs a n c w hn h hs hc hO hM
  · exact brefs_far a n c w (by omega) hm hO hM
end Go.Proofs.YtfgpephpkibbaaaGreatDoor

/-
  BlockFenced is true of any texts.
-/
namespace Go.Proofs.YtfgpephpkibbaaaGreatDoor
open Go.RowKit Go.Lib

theorem fen_snoc (j : Nat) : fenL (3 + j) ++ [126] = fenL (3 + (j + 1)) := by
  unfold fenL
  rw [show ([126] : List UInt8) = List.replicate 1 126 from rfl, List.replicate_append_replicate, show 3 + j + 1 = 3 + (j + 1) by omega]
theorem firstB (t : ByteArray) (h : 0 < t.size) : t.data.toList = t[0] :: (t.extract 1 t.size).data.toList := by
  rw [Lib.extract_to_end]
  have := List.drop_eq_getElem_cons (l := t.data.toList) (i := 0) (by rw [bytes_len]; exact h)
  rw [List.drop_zero] at this
  exact this
def szB : Value → Nat
  | .string t => t.size
  | _ => 0
set_option maxRecDepth 100000 in
set_option maxHeartbeats 8000000 in
theorem bfence_some (xs : List ByteArray) (b off n c q : Nat) (w : World) (hq : q < 256) (hn : xs.length = n) (h1 : 0 < n) (hm : n ≤ maxLen) (hs : ∀ x ∈ xs, x.size ≤ maxLen) (hc : ∀ k, k < n → w.cell? ⟨b, off + k, none⟩ = some (.string (xs.getD k ⟨#[]⟩))) (hO : Lis w) (hM : Mxl w) :
    Calls Tryz.prog 5 #[.slice (some ⟨b, off, none⟩) n c, .int .u8 (q : Nat)] w fun e w' => e = .returned (.bool true) ∧ Keeps w w' := by
  have LN := Lib.hid (lines_some xs b off n c w hn h1 hm hs hc)
  have FE := Lib.hid (fun (x : ByteArray) (m : Int) (h : x.size ≤ 100000) => rfenceEnd_any x 126 m w h)
  have PL := Lib.hid (fun (H : Lns xs) W (k : Keeps w W) => lplain_any xs b off n c W H hn (fun j hj => keep_cell (hc j hj) k))
  have PA := Lib.hid (fun t (h : t.size ≤ 5000) => parse_any t w h hO hM)
  have AW := Lib.hid (fun W' (q : Keeps w W') => awake12_any W' (hO.keep q) (hM.keep q))
  have HC := Lib.hid hc
  have HL := Lib.hid hn
  unfold maxLen at hm
  obtain ⟨m, hm1, hm9⟩ : ∃ m : Nat, (q : Int).tmod 9 = (m : Int) ∧ m < 9 := ⟨q % 9, by rw [Int.tmod_eq_emod_of_nonneg (by omega)]; omega, by omega⟩
  clear hO hM hc hs hn hq
  go_enter Tryz.func5, Tryz.ntmps5
  go_wp2_with fail
  refine LN.out.mono ?_
  rintro e w1 ⟨r, rfl, rfl, hr⟩
  clear LN
  cases r with
  | false =>
    have AX := Lib.hid (AW.out w (Keeps.refl w))
    clear hr
    go_wp2_with fail
    refine AX.out.mono ?_
    rintro e w1 ⟨rfl, k1⟩
    go_wp2_with fail
    go_ret
    exact ⟨rfl, k1⟩
  | true =>
    have HH := Lib.hid (hr rfl)
    have h41 : n ≤ 41 := by have := HH.out.few; rw [HL.out] at this; exact this
    clear hr
    go_wp2_with fail
    go_loop [5, 6] (fun x i => ∃ (j : Nat) (F : ByteArray), j ≤ m ∧ i = .int .i64 j ∧ x = .string F ∧ F.size = 3 + j ∧ Hid (F.data.toList = fenL (3 + j))) (fun _ i => m - (RowKit.intOf i).toNat)
    case atStart => exact ⟨0, ⟨#[126, 126, 126]⟩, Nat.zero_le _, rfl, rfl, rfl, Lib.hid rfl⟩
    case round =>
      obtain ⟨j, F, hj, rfl, rfl, hF, HF⟩ := hrel
      by_cases c0 : j < m
      · have cjm : (j : Int) < (m : Int) := by omega
        obtain ⟨F', hF'⟩ : ∃ F', F ++ (⟨#[126]⟩ : ByteArray) = F' := ⟨_, rfl⟩
        have z1 : (⟨#[126]⟩ : ByteArray).size = 1 := rfl
        have Y1 : Hid (F'.size = 3 + (j + 1)) := Lib.hid (by rw [← hF', ByteArray.size_append]; omega)
        have NF : Hid (F'.data.toList = fenL (3 + (j + 1))) := Lib.hid (by rw [← hF', bytes_app, HF.out]; exact fen_snoc j)
        clear HF
        go_wp2_with fail
        go_round
        case rel => exact ⟨j + 1, F', by omega, by go_num, rfl, Y1.out, NF⟩
        case measure => simp [RowKit.intOf]; omega
      · have hjm : j = m := by omega
        subst hjm
        have HFS := Lib.hid hF
        obtain ⟨z, hz⟩ : ∃ z, F.size = z := ⟨_, rfl⟩
        have hz13 : z ≤ 11 := by omega
        have HZ := Lib.hid (hz.symm.trans hF)
        clear hF
        go_wp2_with fail
        go_loop [7] (fun i => ∃ k : Nat, k ≤ n ∧ i = .int .i64 k ∧ Hid (∀ x ∈ xs.take k, stretchL 126 (max ((3 + j : Nat) : Int) 3) (x.data.toList.dropWhile (· == 32)) = false)) (fun i => n - (RowKit.intOf i).toNat)
        case atStart => exact ⟨0, Nat.zero_le _, rfl, Lib.hid (fun x hx => by cases hx)⟩
        case round =>
          obtain ⟨k, hk, rfl, HE⟩ := hrel
          by_cases c0 : k < n
          · have cx := HC.out k c0
            have hkl : k < xs.length := by rw [HL.out]; exact c0
            have HT : Hid (xs.take (k + 1) = xs.take k ++ [xs.getD k ⟨#[]⟩]) := Lib.hid (by rw [List.take_succ_eq_append_getElem hkl, List.getD_eq_getElem?_getD, List.getElem?_eq_getElem hkl]; rfl)
            have hle := sum_take_le xs (k + 1)
            have h1000 := HH.out.size
            rw [HT.out, List.map_append, List.sum_append] at hle
            clear hkl
            obtain ⟨x, hx⟩ : ∃ x, xs.getD k ⟨#[]⟩ = x := ⟨_, rfl⟩
            rw [hx] at cx HT hle
            have hxs : x.size ≤ 1000 := by
              have : (([x] : List ByteArray).map ByteArray.size).sum = x.size := by simp
              omega
            clear hx hle h1000
            have ckn : (k : Int) < (n : Int) := by omega
            go_wp2_with fail
            go_loop [8] (fun v => ∃ t : ByteArray, v = .string t ∧ t.size ≤ x.size ∧ Hid (t.data.toList.dropWhile (· == 32) = x.data.toList.dropWhile (· == 32))) (fun v => szB v)
            case atStart => exact ⟨x, rfl, Nat.le_refl _, Lib.hid rfl⟩
            case round =>
              obtain ⟨t, rfl, ht, HD⟩ := hrel
              by_cases hgo : ∃ h : 0 < t.size, t[0].toNat = 32
              · obtain ⟨h, c1⟩ := hgo
                have hi := tl_empty h
                have hne := tl_ne h
                have HN : Hid ((t.extract 1 t.size).data.toList.dropWhile (· == 32) = x.data.toList.dropWhile (· == 32)) := Lib.hid (by
                  rw [← HD.out, firstB t h, drop_step, if_pos (UInt8.toNat_inj.1 c1)])
                have hsz : (t.extract 1 t.size).size = t.size - 1 := by rw [ByteArray.size_extract]; omega
                have t1 : ((t[0].toNat : Int) == 32) = true := by rw [c1]; rfl
                clear c1 HD
                go_wp2_with fail
                go_round
                case rel => exact ⟨t.extract 1 t.size, rfl, by omega, HN⟩
                case measure => show (t.extract 1 t.size).size < t.size; omega
              · have HX : Hid (t.data.toList = x.data.toList.dropWhile (· == 32)) := Lib.hid (by
                  rw [← HD.out]
                  by_cases h : 0 < t.size
                  · rw [firstB t h, drop_step, if_neg (fun e => hgo ⟨h, by rw [e]; rfl⟩)]
                  · have : t.data.toList = [] := List.eq_nil_of_length_eq_zero (by rw [bytes_len]; omega)
                    rw [this]; rfl)
                have FX := Lib.hid (FE.out t (z : Int) (by omega))
                have go : (stretchL 126 (max (z : Int) 3) t.data.toList = true ∨ stretchL 126 (max (z : Int) 3) t.data.toList = false) := by cases stretchL 126 (max (z : Int) 3) t.data.toList <;> simp
                have tail : ∀ r : Bool, stretchL 126 (max (z : Int) 3) t.data.toList = r → Hid (Calls Tryz.prog 16 #[.string t, .int .u8 126, .int .i64 z] w fun e w' => e = .returned (.bool r) ∧ w = w') := fun r hr => Lib.hid (by have := FX.out; rw [hr] at this; exact this)
                by_cases h : 0 < t.size
                · have hi := tl_empty h
                  have hne := tl_ne h
                  have t1 : ((t[0].toNat : Int) == 32) = false := beq_eq_false_iff_ne.2 (fun e => hgo ⟨h, by omega⟩)
                  clear hgo HD FX
                  rcases go with g | g
                  · have FY := tail true g
                    have AX := Lib.hid (AW.out w (Keeps.refl w))
                    clear tail g HX HT HE
                    go_wp2_with fail
                    refine FY.out.mono ?_
                    rintro e w1 ⟨rfl, rfl⟩
                    go_wp2_with fail
                    refine AX.out.mono ?_
                    rintro e w1 ⟨rfl, k1⟩
                    go_wp2_with fail
                    go_ret
                    exact ⟨rfl, k1⟩
                  · have FY := tail false g
                    have HN : Hid (∀ y ∈ xs.take (k + 1), stretchL 126 (max ((3 + j : Nat) : Int) 3) (y.data.toList.dropWhile (· == 32)) = false) := Lib.hid (by
                      rw [HT.out]
                      intro y hy
                      rcases List.mem_append.1 hy with p | p
                      · exact HE.out y p
                      · rw [List.mem_singleton.1 p, ← HX.out, ← HZ.out]; exact g)
                    clear tail g HX HT HE
                    go_wp2_with fail
                    refine FY.out.mono ?_
                    rintro e w1 ⟨rfl, rfl⟩
                    go_wp2_with fail
                    go_round
                    case rel => exact ⟨k + 1, by omega, by go_num, HN⟩
                    case measure => simp [RowKit.intOf]; omega
                · have e0 : t = ⟨#[]⟩ := bytes_eq (List.eq_nil_of_length_eq_zero (by rw [bytes_len]; omega))
                  subst e0
                  clear hgo HD FX h
                  rcases go with g | g
                  · have FY := tail true g
                    have AX := Lib.hid (AW.out w (Keeps.refl w))
                    clear tail g HX HT HE
                    go_wp2_with fail
                    refine FY.out.mono ?_
                    rintro e w1 ⟨rfl, rfl⟩
                    go_wp2_with fail
                    refine AX.out.mono ?_
                    rintro e w1 ⟨rfl, k1⟩
                    go_wp2_with fail
                    go_ret
                    exact ⟨rfl, k1⟩
                  · have FY := tail false g
                    have HN : Hid (∀ y ∈ xs.take (k + 1), stretchL 126 (max ((3 + j : Nat) : Int) 3) (y.data.toList.dropWhile (· == 32)) = false) := Lib.hid (by
                      rw [HT.out]
                      intro y hy
                      rcases List.mem_append.1 hy with p | p
                      · exact HE.out y p
                      · rw [List.mem_singleton.1 p, ← HX.out, ← HZ.out]; exact g)
                    clear tail g HX HT HE
                    go_wp2_with fail
                    refine FY.out.mono ?_
                    rintro e w1 ⟨rfl, rfl⟩
                    go_wp2_with fail
                    go_round
                    case rel => exact ⟨k + 1, by omega, by go_num, HN⟩
                    case measure => simp [RowKit.intOf]; omega
          · have hkn : k = n := by omega
            subst hkn
            have hx : xs.take k = xs := List.take_of_length_le (by rw [HL.out]; exact Nat.le_refl _)
            rw [hx] at HE
            have PLW := Lib.hid (PL.out HH.out w (Keeps.refl w))
            obtain ⟨P0, hP0⟩ : ∃ P0 : ByteArray, (⟨(aL (lsB xs)).toArray⟩ : ByteArray) = P0 := ⟨_, rfl⟩
            have HP0 : Hid (P0.data.toList = aL (lsB xs)) := Lib.hid (by rw [← hP0])
            have PLC : Hid (∀ W, Keeps w W → Calls Tryz.prog 12 #[.slice (some ⟨b, off, none⟩) k c] W fun e w' => e = .returned (.string P0) ∧ W = w') := Lib.hid (fun W q => (PL.out HH.out W q).mono fun e w' ⟨P, e1, e2, e3, _⟩ => ⟨by rw [e1, show P = P0 from bytes_eq (by rw [e3, HP0.out])], e2⟩)
            have HPS : Hid (P0.size ≤ 1041) := Lib.hid (by
              have h1 := aL_size xs
              have h2 := HH.out.size
              have h3 := HL.out
              rw [← HP0.out, bytes_len] at h1
              omega)
            have HP1 := Lib.hid hP0
            have hPS := HPS.out
            have PLD := Lib.hid (PLC.out w (Keeps.refl w))
            obtain ⟨T, hT⟩ : ∃ T, F ++ (⟨#[10]⟩ : ByteArray) ++ P0 ++ F ++ (⟨#[10]⟩ : ByteArray) = T := ⟨_, rfl⟩
            have z1 : (⟨#[10]⟩ : ByteArray).size = 1 := rfl
            have PX : Hid (parseM T.data.toList = some (.mk 1 0 false 0 0 false [] [] [.mk 7 0 false 0 0 false [] (aL (lsB xs)) []], [])) := Lib.hid (by
              rw [← hT]
              simp only [bytes_app]
              rw [HF.out, HP0.out]
              refine fence_parse hm9 (fun v hv b hb => ?_) (fun v hv => ?_)
              · obtain ⟨x, hx, rfl⟩ := List.mem_map.1 hv
                exact (HH.out.ok x hx b hb).1
              · obtain ⟨x, hx, rfl⟩ := List.mem_map.1 hv
                exact no_end (fun b hb => (HH.out.ok x hx b hb).2) (HE.out x hx))
            have hTs : T.size ≤ 5000 := by rw [← hT]; simp only [ByteArray.size_append]; omega
            have CX := Lib.hid (PA.out T hTs)
            clear PA HE PL PLW FE HFS HF hx hP0 hTs z1 hm1
            go_wp2_with fail
            refine PLD.out.mono ?_
            rintro e w1 ⟨rfl, rfl⟩
            go_wp2_with fail
            refine CX.out.mono ?_
            rintro e w1 ⟨kk, hp⟩
            obtain ⟨kv, v, rfl, hkk, hrf, _⟩ := hp.open PX.out
            obtain ⟨ao, cap, ekv, _, _, hg⟩ := hkk.slice
            obtain ⟨g, rfl⟩ := hg (Nat.succ_pos _)
            have ekv1 : kv = .slice (some ⟨g, 0, none⟩) 1 cap := ekv
            subst ekv1
            obtain ⟨va, vc, rfl⟩ : ∃ va vc, v = .slice va 0 vc := by
              rcases hrf.2 with ⟨q, _⟩ | ⟨gr, capr, _, q, _⟩
              · exact ⟨none, 0, q⟩
              · exact ⟨_, capr, q⟩
            have ev : blkV 1 0 false 0 0 false [] [] (.slice (some ⟨g, 0, none⟩) 1 cap) = .agg #[.int .i64 1, .int .i64 0, .bool false, .int .i64 0, .int .u8 0, .bool false, .string ⟨#[]⟩, .string ⟨#[]⟩, (.slice (some ⟨g, 0, none⟩) 1 cap), .slice none 0 0] := rfl
            rw [ev]
            have KA := (Keeps.refl w1).alloc (.cells #[.int .i64 1, .int .i64 0, .bool false, .int .i64 0, .int .u8 0, .bool false, .string ⟨#[]⟩, .string ⟨#[]⟩, (.slice (some ⟨g, 0, none⟩) 1 cap), .slice none 0 0] 26)
            have KE := Lib.hid (kk.trans KA)
            have x8 := (Blk.new w1 26 #[.int .i64 1, .int .i64 0, .bool false, .int .i64 0, .int .u8 0, .bool false, .string ⟨#[]⟩, .string ⟨#[]⟩, (.slice (some ⟨g, 0, none⟩) 1 cap), .slice none 0 0]).cell 8 (v := .slice (some ⟨g, 0, none⟩) 1 cap) rfl
            obtain ⟨_, am, _⟩ := (hkk.keep (Nat.le_refl _) KA).at (i := 0) rfl
            have X0 := Lib.hid am.c0
            have X7 := Lib.hid am.c7
            obtain ⟨bb, hbb⟩ : ∃ bb, w1.heap.size = bb := ⟨_, rfl⟩
            rw [hbb] at x8
            clear hp hkk ev hg ekv KA kk CX PX am hrf hT
            go_wp2_with fail
            generalize w1.alloc (.cells #[.int .i64 1, .int .i64 0, .bool false, .int .i64 0, .int .u8 0, .bool false, .string ⟨#[]⟩, .string ⟨#[]⟩, (.slice (some ⟨g, 0, none⟩) 1 cap), .slice none 0 0] 26) = w2 at *
            have x0 : w2.cell? ⟨g, 0, none⟩ = some (.int .i64 7) := X0.out
            have x7 : w2.cell? ⟨g, 7, none⟩ = some (.string P0) := by have := X7.out; rw [HP1.out] at this; exact this
            obtain ⟨L, hL⟩ : ∃ L : List (Addr × Value), L = [(⟨bb, 8, none⟩, .slice (some ⟨g, 0, none⟩) 1 cap), (⟨g, 0, none⟩, .int .i64 7), (⟨g, 7, none⟩, .string P0)] := ⟨_, rfl⟩
            have C0 : ∀ q ∈ L, w2.cell? q.1 = some q.2 := by rw [hL]; exact cells_cons x8 (cells_cons x0 (cells_cons x7 (cells_nil _)))
            have NE : Nonempty (InS (CellsK L w2)) := ⟨⟨_, CellsK.start C0⟩⟩
            have G8 : ∀ x : InS (CellsK L w2), x.w.cell? ⟨bb, 8, none⟩ = some (.slice (some ⟨g, 0, none⟩) 1 cap) := fun x => x.ok.cells (_, _) (by rw [hL]; simp)
            have G0 : ∀ x : InS (CellsK L w2), x.w.cell? ⟨g, 0, none⟩ = some (.int .i64 7) := fun x => x.ok.cells (_, _) (by rw [hL]; simp)
            have G7 : ∀ x : InS (CellsK L w2), x.w.cell? ⟨g, 7, none⟩ = some (.string P0) := fun x => x.ok.cells (_, _) (by rw [hL]; simp)
            have AWC : Hid (∀ x : InS (CellsK L w2), Calls Tryz.prog 7 #[] x.w fun e w' => e = .returned (.bool true) ∧ Keeps x.w w') := Lib.hid (fun x => AW.out x.w (KE.out.trans x.ok.since))
            have PLX : Hid (∀ x : InS (CellsK L w2), Calls Tryz.prog 12 #[.slice (some ⟨b, off, none⟩) k c] x.w fun e w' => e = .returned (.string P0) ∧ x.w = w') := Lib.hid (fun x => PLC.out x.w (KE.out.trans x.ok.since))
            have tp : (P0.toList == P0.toList) = true := by simp
            clear hL PLD PLC X0 X7 AW HP1 HP0
            refine wp_region_class (CellsK L w2) (by kernel_rfl) (by kernel_rfl) (CellsK.start C0) ?_
            clear x8 x0 x7
            repeat (go_big_quiet_step (first | (go_at_call 7; exact class_call (fun _ h k => h.keep k) (AWC.out _)) | (go_at_call 12; exact class_same (PLX.out _))))
            refine wpQuiet_nil ?_
            rintro w5 ⟨⟨w6, h6⟩, rfl⟩
            have K6 := Lib.hid (KE.out.trans h6.since)
            clear NE G8 G0 G7 C0 h6
            go_wp2_with fail
            go_ret
            exact ⟨rfl, K6.out⟩
set_option maxRecDepth 100000 in
set_option maxHeartbeats 2000000 in
theorem bfence_none (a : Option Addr) (c q : Nat) (w : World) (hO : Lis w) (hM : Mxl w) : Calls Tryz.prog 5 #[.slice a 0 c, .int .u8 (q : Nat)] w fun e w' => e = .returned (.bool true) ∧ Keeps w w' := by
  have AX := Lib.hid (awake12_any w hO hM)
  have LN := Lib.hid (lines_none a c w)
  clear hO hM
  go_enter Tryz.func5, Tryz.ntmps5
  go_wp2_with fail
  refine LN.out.mono ?_
  rintro e w1 ⟨rfl, rfl⟩
  clear LN
  go_wp2_with fail
  refine AX.out.mono ?_
  rintro e w1 ⟨rfl, k1⟩
  go_wp2_with fail
  go_ret
  exact ⟨rfl, k1⟩
theorem bfenced_any (a : Option Addr) (n c q : Nat) (xs : List ByteArray) (w : World) (hq : q < 256) (hn : xs.length = n) (hs : ∀ x ∈ xs, x.size ≤ maxLen) (hc : 0 < n → ∃ b off, a = some ⟨b, off, none⟩ ∧ ∀ k, k < n → w.cell? ⟨b, off + k, none⟩ = some (.string (xs.getD k ⟨#[]⟩))) (hm : n ≤ maxLen) (hO : Lis w) (hM : Mxl w) :
    Calls Tryz.prog 5 #[.slice a n c, .int .u8 (q : Nat)] w fun e w' => e = .returned (.bool true) ∧ Keeps w w' := by
  by_cases h : n = 0
  · subst h; exact bfence_none a c q w hO hM
  · obtain ⟨b, off, rfl, hcell⟩ := hc (by omega)
    exact bfence_some xs b off n c q w hq hn (by omega) hm hs hcell hO hM
end Go.Proofs.YtfgpephpkibbaaaGreatDoor


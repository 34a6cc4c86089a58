/-
  Texts of the proof, one behind the other: BkA, BkC, BkB, Bkt, BkF.
-/
import Derived.Test.YtfgpephpkibbaaaGreatDoorQ38
import Derived.Deep.RegionHeld3
import Derived.Deep.WholeRow
import Derived.Test.YtfgpephpkibbaaaGreatDoorQ25
/-
  Contracts of block's closeWithin and put.
-/
namespace Go.Proofs.YtfgpephpkibbaaaGreatDoor
open Go.RowKit Go.Lib

/-- The tip, as it stands in memory. -/
def tipOf (W : World) (B : Nat) : Nat := match W.cell? ⟨B, 1, none⟩ with
  | some v => (RowKit.intOf v).toNat
  | none => 0
theorem put_put (s : St) (i : Nat) (a b : Nd) : (s.put i a).put i b = s.put i b := by
  unfold St.put
  simp
section
variable {W : World} {B : Nat} {O : Nat → Option Nat} {s : St} {lv rv : Value} {tv : Nat → Value} {xs : List Value} {sb : ByteArray} {k g n cap : Nat}
theorem Mem.tipOf (h : Mem W B O s lv rv tv xs sb k) : tipOf W B = s.tip := by
  unfold Go.Proofs.YtfgpephpkibbaaaGreatDoor.tipOf
  have y1 := h.box.cell 1 (v := .int .i64 s.tip) rfl
  rw [y1]
  simp [RowKit.intOf]
theorem Mem.wlen (h : Mem W B O s (.slice (some ⟨g, 0, none⟩) n cap) rv tv xs sb k) {s' : St} {O' : Nat → Option Nat} {W' : World} {rv' : Value} {tv' : Nat → Value} {xs' : List Value} {sb' : ByteArray} {k' : Nat} (h' : Mem W' B O' s' (.slice (some ⟨g, 0, none⟩) n cap) rv' tv' xs' sb' k') : s'.list.length = s.list.length :=
  h'.num.1.symm.trans h.num.1
set_option maxRecDepth 100000 in
set_option maxHeartbeats 2000000 in
theorem closeWithin_any (h : Mem W B O s (.slice (some ⟨g, 0, none⟩) n cap) rv tv xs sb k) (hw : Wf s.list s.tip) {i : Nat} (ho : On s.list s.tip i) (hp : phi s ≤ 100000) :
    Calls Tryz.prog 21 #[.pointer (some ⟨B, 0, none⟩), .int .i64 i] W fun e w' => e = .returned (.tuple #[]) ∧ NPost W B O (cwM s i) (.slice (some ⟨g, 0, none⟩) n cap) w' := by
  have HM := Lib.hid (show ∃ O1 rv1 tv1 xs1 sb1 k1, Mem W B O1 s (.slice (some ⟨g, 0, none⟩) n cap) rv1 tv1 xs1 sb1 k1 ∧ Chg W O W O1 from ⟨O, rv, tv, xs, sb, k, h, Chg.refl _ _⟩)
  have HW := Lib.hid hw
  have HO := Lib.hid ho
  have HP := Lib.hid hp
  clear h hw ho hp
  go_enter Tryz.func21, Tryz.ntmps21
  go_wp2_with fail
  go_loopw [] (fun wr => ∃ s1 : St, Hid (∃ O1 rv1 tv1 xs1 sb1 k1, Mem wr B O1 s1 (.slice (some ⟨g, 0, none⟩) n cap) rv1 tv1 xs1 sb1 k1 ∧ Chg W O wr O1) ∧ Hid (Wf s1.list s1.tip) ∧ Hid (On s1.list s1.tip i) ∧ Hid (phi s1 ≤ 100000) ∧ Hid (cwM s1 i = cwM s i)) (fun wr => tipOf wr B)
  case atStart => exact ⟨s, HM, HW, HO, HP, Lib.hid rfl⟩
  case round =>
    obtain ⟨s1, HM1, HW1, HO1, HP1, HE⟩ := hrel
    obtain ⟨O1, rv1, tv1, xs1, sb1, k1, h1, c1⟩ := HM1.out
    have y1 := h1.box.cell 1 (v := .int .i64 s1.tip) rfl
    have C1 := Lib.hid c1
    by_cases e : s1.tip = i
    · have t1 : ((s1.tip : Int) != (i : Int)) = false := by rw [e, bne, beq_self_eq_true]; rfl
      have R := Lib.hid (show NPost W B O (cwM s i) (.slice (some ⟨g, 0, none⟩) n cap) wr from ⟨O1, _, _, _, _, _, by rw [← HE.out, cw_stop e]; exact h1, c1⟩)
      clear e h1 c1
      go_wp2_with fail
      go_end0
      exact ⟨rfl, R.out⟩
    · have t1 : ((s1.tip : Int) != (i : Int)) = true := by rw [bne, beq_eq_false_iff_ne.2 (by omega)]; rfl
      have h0 : s1.tip ≠ 0 := fun e0 => by have := HO1.out.le HW1.out; omega
      have CL := Lib.hid (close_any h1 HW1.out h0 HP1.out)
      have hu := HW1.out.up s1.tip (by omega) HW1.out.tip
      have W2 := Lib.hid (HW1.out.close h0)
      have O2 := Lib.hid (HO1.out.closed e)
      have P2 := Lib.hid ((Cap.close (s := s1) ⟨Nat.le_refl _, HP1.out⟩).txt)
      have E2 : Hid (cwM (closeM s1) i = cwM s i) := Lib.hid (by rw [← HE.out, cw_step HW1.out HO1.out e])
      have HTO := Lib.hid h1.tipOf
      have hlt : (closeM s1).tip < s1.tip := by rw [close_tip]; unfold St.nd; omega
      clear h1 c1 hu e
      go_wp2_with fail
      refine CL.out.mono ?_
      rintro e w1 ⟨rfl, O3, rv3, tv3, xs3, sb3, k3, h3, c3⟩
      have T3 := Lib.hid h3.tipOf
      have HM3 := Lib.hid (show ∃ O1 rv1 tv1 xs1 sb1 k1, Mem w1 B O1 (closeM s1) (.slice (some ⟨g, 0, none⟩) n cap) rv1 tv1 xs1 sb1 k1 ∧ Chg W O w1 O1 from ⟨O3, rv3, tv3, xs3, sb3, k3, h3, C1.out.trans c3⟩)
      clear h3 c3 y1
      go_wp2_with fail
      go_roundw
      case rel => exact ⟨closeM s1, HM3, W2, O2, P2, E2⟩
      case measure => rw [T3.out, HTO.out]; exact hlt

set_option maxRecDepth 100000 in
set_option maxHeartbeats 2000000 in
theorem putB_any (h : Mem W B O s (.slice (some ⟨g, 0, none⟩) n cap) rv tv xs sb k) {i : Nat} (hi : i < s.list.length) (hp : phi s ≤ 100000) :
    Calls Tryz.prog 43 #[.pointer (some ⟨B, 0, none⟩), .int .i64 i] W fun e w' => e = .returned (.string ⟨(lrestM s.line).toArray⟩) ∧ NPost W B O (putM s i) (.slice (some ⟨g, 0, none⟩) n cap) w' := by
  obtain ⟨rfl, hc1, hc2⟩ := h.num
  obtain ⟨i0, hi0, hz0, hz1, hz2⟩ := info_parts infoU8
  have htl : (s.nd i).text.length ≤ 100000 := Cap.text ⟨Nat.le_refl _, hp⟩ i
  have hrl := h.lw.restLen
  have hsz := h.siz
  have LR := Lib.hid (lrest_any h)
  have HM := Lib.hid h
  have HP : Hid (putM s i = s.put i { s.nd i with text := (s.nd i).text ++ lrestM s.line ++ [10] }) := Lib.hid rfl
  generalize lrestM s.line = R at *
  have hi2 : (i : Int) < (s.list.length : Int) := by omega
  clear h hp
  go_enter Tryz.func43, Tryz.ntmps43
  go_wp2_with fail
  refine LR.out.mono ?_
  rintro e w1 ⟨rfl, k1⟩
  have m1 := HM.out.keep k1
  have C1 := Lib.hid (Chg.keeps O k1)
  have y0 := m1.box.cell 0 (v := .slice (some ⟨g, 0, none⟩) s.list.length cap) rfl
  have z14 : w1.cell? ⟨g, i * 20 + 14, none⟩ = some (tv i) := m1.at hi 14 (by decide)
  obtain ⟨ao, ca, e14, _, _⟩ := (m1.txt i hi).form
  obtain ⟨v2, w2, r2, x2, g2, l2⟩ := (m1.txt i hi).append (P := Tryz.prog) 59 9 59 5 i0 Tryz.underlying59 hi0 hz0 hz1 hz2 (.string ⟨R.toArray⟩) R (by
    have q := Src.ofString w1 (P := Tryz.prog) Tryz.underlying9 ⟨R.toArray⟩
    unfold byteCells at q
    rw [show (⟨R.toArray⟩ : ByteArray).data.toList = R by simp, show (⟨R.toArray⟩ : ByteArray).size = R.length by simp [ByteArray.size]] at q
    exact q) (by omega)
  obtain ⟨ao2, ca2, e2, _, _⟩ := x2.form
  rw [List.length_append] at e2
  have hgne : some g ≠ (tv i).ownBlock := fun e => by
    have a := m1.oT i hi g e.symm
    have b := m1.oL g rfl
    rw [a] at b; cases b
  have hg2 : w2.heap[g]? = w1.heap[g]? := g2.block g (m1.lt g (by rw [m1.oL g rfl]; simp)) hgne
  have z14b : w2.cell? ⟨g, i * 20 + 14, none⟩ = some (tv i) := (World.cell?_of_block (a := ⟨g, i * 20 + 14, none⟩) hg2).trans z14
  have f14b : w2.frozen? ⟨g, i * 20 + 14, none⟩ = false := (World.frozen?_of_block (a := ⟨g, i * 20 + 14, none⟩) hg2).trans (m1.free _)
  obtain ⟨O3, m3, q3⟩ := m1.text hi v2 { s.nd i with text := (s.nd i).text ++ R } 14 (by decide) v2 (nd_text _ _ _ _) g2 x2 l2
  have M3 := Lib.hid m3
  have C3 := Lib.hid (C1.out.trans q3)
  subst e2
  -- the LF
  have hnew : Src Tryz.prog 1 59 (.slice (some ⟨w2.heap.size, 0, none⟩) 1 1) ([10] : List UInt8).length (u8L [10]) ((w2.setCell ⟨g, i * 20 + 14, none⟩ (.slice ao2 ((s.nd i).text.length + R.length) ca2)).alloc (.cells #[.int .u8 10] 5)) :=
    Src.ofSlice _ Tryz.underlying59 ⟨w2.heap.size, 0, none⟩ 1 1 _ rfl (by
      have q := cell_one_new (w2.setCell ⟨g, i * 20 + 14, none⟩ (.slice ao2 ((s.nd i).text.length + R.length) ca2)) (.int .u8 10) 5
      rw [setCell_size] at q
      exact q) (fun u hu => by
        simp [u8L] at hu
        rw [hu]; rfl)
  have m4 := m3.keep ((Keeps.refl _).alloc (.cells #[.int .u8 10] 5))
  have hi3 : i < (s.put i { s.nd i with text := (s.nd i).text ++ R }).list.length := by unfold St.put; simpa using hi
  have hx4 := m4.txt i hi3
  rw [upd_at, put_nd hi] at hx4
  obtain ⟨v5, w5, r5, x5, g5, l5⟩ := hx4.append (P := Tryz.prog) 59 59 59 5 i0 Tryz.underlying59 hi0 hz0 hz1 hz2 _ [10] hnew (by rw [List.length_append, List.length_singleton]; omega)
  obtain ⟨ao5, ca5, e5, _, _⟩ := x5.form
  rw [List.length_append, List.length_append, List.length_singleton] at e5
  have hgne5 : some g ≠ (Value.slice ao2 ((s.nd i).text.length + R.length) ca2).ownBlock := fun e => by
    have a := m4.oT i hi3 g (by rw [upd_at]; exact e.symm)
    have b := m4.oL g rfl
    rw [a] at b; cases b
  have hg5 := g5.block g (m4.lt g (by rw [m4.oL g rfl]; simp)) hgne5
  have z14c : w5.cell? ⟨g, i * 20 + 14, none⟩ = _ := (World.cell?_of_block (a := ⟨g, i * 20 + 14, none⟩) hg5).trans (m4.at hi3 14 (by decide))
  have f14c : w5.frozen? ⟨g, i * 20 + 14, none⟩ = false := (World.frozen?_of_block (a := ⟨g, i * 20 + 14, none⟩) hg5).trans (m4.free _)
  rw [upd_at] at z14c
  have z14d : w5.cell? ⟨g, i * 20 + 14, none⟩ = some (.slice ao2 ((s.nd i).text.length + R.length) ca2) := z14c
  obtain ⟨O6, m6, q6⟩ := m4.text hi3 v5 { (s.put i { s.nd i with text := (s.nd i).text ++ R }).nd i with text := (s.nd i).text ++ R ++ [10] } 14 (by decide) v5 (nd_text _ _ _ _) (by rw [upd_at]; exact g5) x5 (by rw [upd_at]; exact l5)
  subst e5
  have R6 := Lib.hid (show NPost W B O (putM s i) (.slice (some ⟨g, 0, none⟩) s.list.length cap) _ from ⟨O6, _, _, _, _, _, by
    rw [HP.out]
    rw [put_nd hi, put_put] at m6
    exact m6, C3.out.trans ((Chg.keeps O3 ((Keeps.refl _).alloc (.cells #[.int .u8 10] 5))).trans q6)⟩)
  rw [e14] at z14 z14b r2
  clear k1 m1 x2 g2 l2 m3 q3 hg2 hgne HM LR C1 M3 C3 m4 hx4 x5 g5 l5 hg5 hgne5 z14c m6 q6 hnew
  go_wp2_with (at_builtin; first | (refine wpl_append rfl (.tmp 21) (.tmp 22) _ _ rfl _ _ rfl rfl _ _ r2 ?_) | (refine wpl_append rfl (.tmp 30) (.tmp 31) _ _ rfl _ _ rfl rfl _ _ r5 ?_))
  go_ret
  exact ⟨rfl, R6.out⟩
end
end Go.Proofs.YtfgpephpkibbaaaGreatDoor

/-
  A block as it is handed in by value; contract of block's newParser.
-/
namespace Go.Proofs.YtfgpephpkibbaaaGreatDoor
open Go.RowKit Go.Lib

/-- A block by value, as it is handed in. -/
def blkC (b : Nd) : Array Value := #[.int .i64 b.kind, .int .i64 b.level, .bool b.ord, .int .i64 b.start, .int .u8 b.mark, .bool b.tight, .string ⟨b.info.toArray⟩, .string ⟨#[]⟩, .slice none 0 0, .slice none 0 0]
/-- Nothing of it is set but what a block by value has. -/
def PlainB (b : Nd) : Prop := b = { blkN b.kind with level := b.level, ord := b.ord, start := b.start, mark := b.mark, tight := b.tight, info := b.info }
theorem infoNd : (Tryz.prog.info? 61).map (fun i => (i.zero, i.size, i.bytes)) = some (some (.agg #[.int .i64 0, .int .i64 0, .bool false, .int .i64 0, .int .u8 0, .bool false, .string ⟨#[]⟩, .string ⟨#[]⟩, .slice none 0 0, .slice none 0 0, .int .i64 0, .int .i64 0, .int .i64 0, .int .i64 0, .slice none 0 0, .int .i64 0, .int .u8 0, .int .i64 0, .int .i64 0, .bool false]), 20, 216) := by kernel_rfl
theorem wf0 : Wf [blkN 1] 0 := by
  have e : ∀ i, gN [blkN 1] i = blkN 1 := fun i => by
    cases i with
    | zero => rfl
    | succ i => exact gN_out (by simp)
  refine ⟨by simp, rfl, rfl, fun i h0 hl => by simp at hl; omega, fun i _ => by rw [e]; exact .inl rfl, fun i _ => by rw [e]; exact .inl rfl, fun i _ => by rw [e]; exact Nat.zero_le _, fun i => by rw [e]; exact Nat.zero_le _, fun x hx h0 => ?_⟩
  cases hx with
  | refl => exact absurd rfl h0
  | step h _ => omega
theorem newMem {w w2 : World} {g cap : Nat} (hb : Blk w2 w.heap.size 53 #[.slice none 0 0, .int .i64 0, .slice none 0 0, .string ⟨#[]⟩, .int .i64 0, .int .i64 0, .int .i64 0, .int .i64 0, .string ⟨#[]⟩, .int .i64 0, .bool false])
    (ho : w2.ownsRow w.heap.size 61 20 (.slice (some ⟨g, 0, none⟩) 1 cap) (0 + 1) ([] ++ ndC (blkN 1) (.slice none 0 0))) (hg : w.heap.size < g) (k : Keeps w w2) (hO : Lis w) (hM : Mxl w) :
    Mem (w2.setCell ⟨w.heap.size, 0, none⟩ (.slice (some ⟨g, 0, none⟩) 1 cap)) w.heap.size (fun b => if b = w.heap.size then some 0 else if b = g then some 1 else none) st0 (.slice (some ⟨g, 0, none⟩) 1 cap) (.slice none 0 0) (fun _ => .slice none 0 0) (ndC (blkN 1) (.slice none 0 0)) ⟨#[]⟩ 0 ∧ ∀ b, (fun b => if b = w.heap.size then some 0 else if b = g then some 1 else none) b ≠ (none : Option Nat) → w.heap.size ≤ b := by
  have hl := (ho.lt g rfl).2
  have ge : ∀ b, (fun b => if b = w.heap.size then some 0 else if b = g then some 1 else none) b ≠ (none : Option Nat) → w.heap.size ≤ b := fun b hb' => by
    dsimp only at hb'
    split at hb'
    · omega
    · split at hb'
      · omega
      · exact absurd rfl hb'
  refine ⟨{
    box := hb.set 0 _ rfl
    row := row_same (World.ownsRow.mono ho (Nat.zero_le _)) fun g' e => by cases e; exact heap_setCell_other w2 ⟨w.heap.size, 0, none⟩ g _ (by show g ≠ w.heap.size; omega)
    cell := fun i hi j hj => by
      have : i = 0 := by simp [st0] at hi; exact hi
      subst this
      rw [Nat.zero_mul, Nat.zero_add]; rfl
    refs := World.ownsRow_nil _ _ _ _
    txt := fun i hi => by
      have : i = 0 := by simp [st0] at hi; exact hi
      subst this
      exact Tx.nil _
    oB := by rw [if_pos rfl]
    oL := fun g' e => by cases e; rw [if_neg (show ¬ (g = w.heap.size) by omega), if_pos rfl]
    oR := fun g' e => by cases e
    oT := fun i _ g' e => by cases e
    lt := fun b hb' => by
      rw [setCell_size]
      have := hb.lt
      split at hb'
      · omega
      · split at hb'
        · omega
        · exact absurd rfl hb'
    pos := rfl
    ple := Nat.zero_le _
    siz := Nat.zero_le _
    lw := ⟨okP_nil _, by show 0 + 4 * 0 ≤ 4 * 0 + _; omega, Nat.le_refl _, rfl, rfl⟩
    env := ⟨w, hO, hM, Keeps.set k (Nat.le_refl _) 0 _, ge⟩ }, ge⟩
theorem ndC_one (n : Nd) : ∀ u ∈ ndC n (.slice none 0 0), u.oneCell' = true := by
  have h : (ndC n (.slice none 0 0)).all (fun u => u.oneCell') = true := rfl
  exact List.all_eq_true.1 h
set_option maxRecDepth 100000 in
set_option maxHeartbeats 2000000 in
theorem newParser_any (w : World) (hO : Lis w) (hM : Mxl w) :
    Calls Tryz.prog 18 #[] w fun e w' => e = .returned (.pointer (some ⟨w.heap.size, 0, none⟩)) ∧ Keeps w w' ∧ ∃ O g rv tv xs sb k cap, Mem w' w.heap.size O st0 (.slice (some ⟨g, 0, none⟩) 1 cap) rv tv xs sb k ∧ ∀ b, O b ≠ none → w.heap.size ≤ b := by
  obtain ⟨i0, hi, hz0, hz1, hz2⟩ := info_parts infoNd
  have HB := Lib.hid (Blk.new w 53 #[.slice none 0 0, .int .i64 0, .slice none 0 0, .string ⟨#[]⟩, .int .i64 0, .int .i64 0, .int .i64 0, .int .i64 0, .string ⟨#[]⟩, .int .i64 0, .bool false])
  have HK := Lib.hid ((Keeps.refl w).alloc (.cells #[.slice none 0 0, .int .i64 0, .slice none 0 0, .string ⟨#[]⟩, .int .i64 0, .int .i64 0, .int .i64 0, .int .i64 0, .string ⟨#[]⟩, .int .i64 0, .bool false] 53))
  have hsz : (w.alloc (.cells #[.slice none 0 0, .int .i64 0, .slice none 0 0, .string ⟨#[]⟩, .int .i64 0, .int .i64 0, .int .i64 0, .int .i64 0, .string ⟨#[]⟩, .int .i64 0, .bool false] 53)).heap.size = w.heap.size + 1 := by simp
  have hnew : ∀ j u, (ndC (blkN 1) (.slice none 0 0))[j]? = some u → ((w.alloc (.cells #[.slice none 0 0, .int .i64 0, .slice none 0 0, .string ⟨#[]⟩, .int .i64 0, .int .i64 0, .int .i64 0, .int .i64 0, .string ⟨#[]⟩, .int .i64 0, .bool false] 53)).alloc (.cells #[.int .i64 1, .int .i64 0, .bool false, .int .i64 0, .int .u8 0, .bool false, .string ⟨#[]⟩, .string ⟨#[]⟩, .slice none 0 0, .slice none 0 0, .int .i64 (-1), .int .i64 (-1), .int .i64 (-1), .int .i64 0, .slice none 0 0, .int .i64 0, .int .u8 0, .int .i64 0, .int .i64 0, .bool false] 61)).cell? ((⟨w.heap.size + 1, 0, none⟩ : Addr).add j) = some u := fun j u hu => by
    rw [Addr.add_lit, Nat.zero_add]
    have q := World.cell?_alloc_new (w := w.alloc (.cells #[.slice none 0 0, .int .i64 0, .slice none 0 0, .string ⟨#[]⟩, .int .i64 0, .int .i64 0, .int .i64 0, .int .i64 0, .string ⟨#[]⟩, .int .i64 0, .bool false] 53)) #[.int .i64 1, .int .i64 0, .bool false, .int .i64 0, .int .u8 0, .bool false, .string ⟨#[]⟩, .string ⟨#[]⟩, .slice none 0 0, .slice none 0 0, .int .i64 (-1), .int .i64 (-1), .int .i64 (-1), .int .i64 0, .slice none 0 0, .int .i64 0, .int .u8 0, .int .i64 0, .int .i64 0, .bool false] 61 j
    rw [hsz] at q
    rw [q, ← hu]
    simp only [List.getElem?_toArray]
    rfl
  obtain ⟨v', w2, r2, o2, g2, n2, l2⟩ := run_append_own_at (P := Tryz.prog) ((w.alloc (.cells #[.slice none 0 0, .int .i64 0, .slice none 0 0, .string ⟨#[]⟩, .int .i64 0, .int .i64 0, .int .i64 0, .int .i64 0, .string ⟨#[]⟩, .int .i64 0, .bool false] 53)).alloc (.cells #[.int .i64 1, .int .i64 0, .bool false, .int .i64 0, .int .u8 0, .bool false, .string ⟨#[]⟩, .string ⟨#[]⟩, .slice none 0 0, .slice none 0 0, .int .i64 (-1), .int .i64 (-1), .int .i64 (-1), .int .i64 0, .slice none 0 0, .int .i64 0, .int .u8 0, .int .i64 0, .int .i64 0, .bool false] 61)) w.heap.size 47 47 61 i0 _ 20 216 Tryz.underlying47 hi hz0 hz1 hz2 rfl (by decide) (.slice none 0 0) 0 [] (World.ownsRow_nil _ _ _ _) ⟨w.heap.size + 1, 0, none⟩ 1 1 (ndC (blkN 1) (.slice none 0 0)) rfl hnew (ndC_one _) (by simp only [maxLen]; omega) (by omega) (by simp only [World.size_alloc]; omega)
  have ks : Keeps w ((w.alloc (.cells #[.slice none 0 0, .int .i64 0, .slice none 0 0, .string ⟨#[]⟩, .int .i64 0, .int .i64 0, .int .i64 0, .int .i64 0, .string ⟨#[]⟩, .int .i64 0, .bool false] 53)).alloc (.cells #[.int .i64 1, .int .i64 0, .bool false, .int .i64 0, .int .u8 0, .bool false, .string ⟨#[]⟩, .string ⟨#[]⟩, .slice none 0 0, .slice none 0 0, .int .i64 (-1), .int .i64 (-1), .int .i64 (-1), .int .i64 0, .slice none 0 0, .int .i64 0, .int .u8 0, .int .i64 0, .int .i64 0, .bool false] 61)) := ((Keeps.refl w).alloc _).alloc _
  have k2 : Keeps w w2 := Below.grown ks g2 ks.size (fun i hi => by cases hi)
  have hb1 := (HB.out.alloc (.cells #[.int .i64 1, .int .i64 0, .bool false, .int .i64 0, .int .u8 0, .bool false, .string ⟨#[]⟩, .string ⟨#[]⟩, .slice none 0 0, .slice none 0 0, .int .i64 (-1), .int .i64 (-1), .int .i64 (-1), .int .i64 0, .slice none 0 0, .int .i64 0, .int .u8 0, .int .i64 0, .int .i64 0, .bool false] 61))
  have hb2 : Blk w2 w.heap.size 53 #[.slice none 0 0, .int .i64 0, .slice none 0 0, .string ⟨#[]⟩, .int .i64 0, .int .i64 0, .int .i64 0, .int .i64 0, .string ⟨#[]⟩, .int .i64 0, .bool false] := by
    unfold Blk
    rw [g2.block _ hb1.lt (by simp [Value.ownBlock])]
    exact hb1
  have y0 := hb2.cell 0 (v := .slice none 0 0) rfl
  have f0 := hb2.free 0
  have own : ∀ g', v'.ownBlock = some g' → w.heap.size < g' := fun g' e => by
    rcases l2 with q | q
    · rw [q] at e; cases e
    · rw [q] at e
      have : ((w.alloc (.cells #[.slice none 0 0, .int .i64 0, .slice none 0 0, .string ⟨#[]⟩, .int .i64 0, .int .i64 0, .int .i64 0, .int .i64 0, .string ⟨#[]⟩, .int .i64 0, .bool false] 53)).alloc (.cells #[.int .i64 1, .int .i64 0, .bool false, .int .i64 0, .int .u8 0, .bool false, .string ⟨#[]⟩, .string ⟨#[]⟩, .slice none 0 0, .slice none 0 0, .int .i64 (-1), .int .i64 (-1), .int .i64 (-1), .int .i64 0, .slice none 0 0, .int .i64 0, .int .u8 0, .int .i64 0, .int .i64 0, .bool false] 61)).heap.size = w.heap.size + 1 + 1 := by simp
      cases e; omega
  have hne : v' ≠ .slice none 0 0 := fun e => by have := (n2.1 e).2; omega
  obtain ⟨g, cap, ev⟩ : ∃ g cap, v' = .slice (some ⟨g, 0, none⟩) 1 cap := by
    rcases o2.2 with ⟨_, e⟩ | ⟨g, cap, _, e, _⟩
    · omega
    · exact ⟨g, cap, e⟩
  subst ev
  have hgw : w.heap.size < g := own g rfl
  have nm := newMem hb2 o2 hgw k2 hO hM
  have M : Hid (∃ O g' rv tv xs sb k cap', Mem (w2.setCell ⟨w.heap.size, 0, none⟩ (.slice (some ⟨g, 0, none⟩) 1 cap)) w.heap.size O st0 (.slice (some ⟨g', 0, none⟩) 1 cap') rv tv xs sb k ∧ ∀ b, O b ≠ none → w.heap.size ≤ b) := Lib.hid ⟨_, g, _, _, _, _, _, cap, nm.1, nm.2⟩
  have K2 := Lib.hid (Keeps.set k2 (Nat.le_refl _) 0 (.slice (some ⟨g, 0, none⟩) 1 cap))
  clear nm HB HK hsz hnew o2 g2 n2 l2 ks k2 hb1 hb2 own hne hO hM hi hz0 hz1 hz2
  go_enter Tryz.func18, Tryz.ntmps18
  go_wp2_with (at_builtin; refine wpl_append rfl (.tmp 8) (.tmp 11) _ _ rfl _ _ rfl rfl _ _ r2 ?_)
  go_ret
  exact ⟨rfl, K2.out, M.out⟩
end Go.Proofs.YtfgpephpkibbaaaGreatDoor

/-
  Contract of block's add.
-/
namespace Go.Proofs.YtfgpephpkibbaaaGreatDoor
open Go.RowKit Go.Lib

/-- What the region of add that makes the new block reads. -/
theorem s13_keep {a b : World} {B bb g o t : Nat} {D la k0 k1 k3 k4 : Int} {p2 p5 : Bool} {s6 s7 : ByteArray} {v8 v9 : Value} (kk : Keeps a b)
    (h : a.cell? ⟨B, 1, none⟩ = some (.int .i64 (t : Nat)) ∧ a.cell? ⟨bb, 0, none⟩ = some (.int .i64 k0) ∧ a.cell? ⟨bb, 1, none⟩ = some (.int .i64 k1) ∧ a.cell? ⟨bb, 2, none⟩ = some (.bool p2) ∧ a.cell? ⟨bb, 3, none⟩ = some (.int .i64 k3) ∧ a.cell? ⟨bb, 4, none⟩ = some (.int .u8 k4) ∧ a.cell? ⟨bb, 5, none⟩ = some (.bool p5) ∧ a.cell? ⟨bb, 6, none⟩ = some (.string s6) ∧ a.cell? ⟨bb, 7, none⟩ = some (.string s7) ∧ a.cell? ⟨bb, 8, none⟩ = some v8 ∧ a.cell? ⟨bb, 9, none⟩ = some v9 ∧ a.cell? ⟨g, o + 11, none⟩ = some (.int .i64 la) ∧ a.cell? ⟨g, o + 13, none⟩ = some (.int .i64 D)) :
    b.cell? ⟨B, 1, none⟩ = some (.int .i64 (t : Nat)) ∧ b.cell? ⟨bb, 0, none⟩ = some (.int .i64 k0) ∧ b.cell? ⟨bb, 1, none⟩ = some (.int .i64 k1) ∧ b.cell? ⟨bb, 2, none⟩ = some (.bool p2) ∧ b.cell? ⟨bb, 3, none⟩ = some (.int .i64 k3) ∧ b.cell? ⟨bb, 4, none⟩ = some (.int .u8 k4) ∧ b.cell? ⟨bb, 5, none⟩ = some (.bool p5) ∧ b.cell? ⟨bb, 6, none⟩ = some (.string s6) ∧ b.cell? ⟨bb, 7, none⟩ = some (.string s7) ∧ b.cell? ⟨bb, 8, none⟩ = some v8 ∧ b.cell? ⟨bb, 9, none⟩ = some v9 ∧ b.cell? ⟨g, o + 11, none⟩ = some (.int .i64 la) ∧ b.cell? ⟨g, o + 13, none⟩ = some (.int .i64 D) := by
  obtain ⟨h0, h1, h2, h3, h4, h5, h6, h7, h8, h9, h10, h11, h12⟩ := h
  exact ⟨keep_cell h0 kk, keep_cell h1 kk, keep_cell h2 kk, keep_cell h3 kk, keep_cell h4 kk, keep_cell h5 kk, keep_cell h6 kk, keep_cell h7 kk, keep_cell h8 kk, keep_cell h9 kk, keep_cell h10 kk, keep_cell h11 kk, keep_cell h12 kk⟩
theorem step_append_run {P : Program} {w : World} {ops : Array Oper} {o : Oper} {a : Act} {K : Act → World → Prop} {Q : Exit → Act → World → Prop} {E : Prop} (hgd : o.guard = none) (s x : Operand) (t tx : TypeId)
    (ho : o.op = .call { callee := .builtin .append, args := #[s, x], argTypes := #[t, tx] }) (v u : Value) (hs : a.eval s = v) (hx : a.eval x = u) (v' : Value) (w' : World)
    (hr : (Builtin.append_ #[t, tx] o.type #[v, u]).run P w = .ok v' w') (h : K (a.put o.dst v') w') :
    if Region.wanted o (yielded ops a.tmps) = true then Oper.wp P o a w K Q else E := by
  have hw : Region.wanted o (yielded ops a.tmps) = true := by simp [Region.wanted, hgd]
  rw [if_pos hw]
  unfold Oper.wp execOp
  simp only [ho, resolve, invoke, builtin, Sem.run_bind, Sem.run_pure, Result.andThen_ok, List.map_toArray, List.map_cons, List.map_nil, hs, hx, hr]
  exact h
theorem fold_sets : ∀ (cs pre suf : List Value), suf.length = cs.length → (cs.zipIdx pre.length).foldl (fun (a : Array Value) (x : Value × Nat) => a.setIfInBounds x.2 x.1) (pre ++ suf).toArray = (pre ++ cs).toArray
  | [], pre, suf, h => by
    have : suf = [] := List.eq_nil_of_length_eq_zero h
    subst this; rfl
  | c :: cs, pre, [], h => by simp at h
  | c :: cs, pre, s :: suf, h => by
    rw [List.zipIdx_cons, List.foldl_cons]
    have e : (pre ++ s :: suf).toArray.setIfInBounds pre.length c = ((pre ++ [c]) ++ suf).toArray := by simp
    dsimp only
    rw [e]
    have := fold_sets cs (pre ++ [c]) suf (by simpa using h)
    rw [List.length_append, List.length_singleton] at this
    rw [this]
    simp
theorem fold_cells (Z C : Array Value) (n : Nat) (hz : Z.size = n) (hc : C.size = n) : Array.foldl (fun (cs : Array Value) (x : Value × Nat) => cs.setIfInBounds x.snd x.fst) Z (C.zipIdx 0) 0 n = C := by
  have h := fold_sets C.toList [] Z.toList (by rw [Array.length_toList, Array.length_toList, hz, hc])
  rw [List.nil_append, List.nil_append, Array.toArray_toList, Array.toArray_toList, List.length_nil, ← Array.toList_zipIdx, Array.foldl_toList] at h
  have hs : (C.zipIdx 0).size = n := by rw [Array.size_zipIdx, hc]
  rw [hs] at h
  exact h
theorem fold_node (C : Array Value) (h : C.size = 20) :
    Array.foldl (fun (cs : Array Value) (x : Value × Nat) => cs.setIfInBounds x.snd x.fst) #[.int .i64 0, .int .i64 0, .bool false, .int .i64 0, .int .u8 0, .bool false, .string ⟨#[]⟩, .string ⟨#[]⟩, .slice none 0 0, .slice none 0 0, .int .i64 0, .int .i64 0, .int .i64 0, .int .i64 0, .slice none 0 0, .int .i64 0, .int .u8 0, .int .i64 0, .int .i64 0, .bool false] (C.zipIdx 0) 0 20 = C := fold_cells _ C 20 rfl h
/-- What a block holds. -/
def rowOf (w : World) (b : Nat) : Array Value := match w.heap[b]? with | some (.cells cs _ _) => cs | _ => #[]
def ptrOf : Value → Nat | .pointer (some a) => a.block | _ => 0
theorem ptrOf_pointer (b o : Nat) : ptrOf (.pointer (some ⟨b, o, none⟩)) = b := rfl
/-- A node lies there. -/
def isNode (w : World) (b : Nat) : Prop := Blk w b 61 (rowOf w b) ∧ (rowOf w b).size = 20
theorem isNode.of {w : World} {b : Nat} {C : Array Value} (h : Blk w b 61 C) (hs : C.size = 20) : isNode w b ∧ rowOf w b = C := by
  have e : rowOf w b = C := by unfold rowOf; rw [h]
  unfold isNode
  rw [e]
  exact ⟨⟨h, hs⟩, rfl⟩
theorem run_load_node {w : World} {b : Nat} (h : isNode w b) : (loadVar 61 ⟨b, 0, none⟩).run Tryz.prog w = .ok (.agg (rowOf w b)) w := by
  obtain ⟨i0, hi0, hz0, hz1, hz2⟩ := info_parts infoNd
  exact run_loadVar_row w b _ _ (rowOf w b) (0, 0) _ h.1 Tryz.underlying61 rfl (by rw [hi0, h.2]; exact congrArg some hz1)
theorem wp_load_node (d : Option Tmp) (x : Operand) (ty : TypeId) (p : String) (af : Array Edge) (g : Option (Nat × Bool)) (a : Act) (w : World) (K : Act → World → Prop) (Q : Exit → Act → World → Prop)
    (hx : a.eval x = .pointer (some ⟨ptrOf (a.eval x), 0, none⟩)) (h : isNode w (ptrOf (a.eval x))) :
    Oper.wp Tryz.prog { dst := d, op := .load 61 x, type := ty, pos := p, after := af, guard := g } a w K Q = K (a.put d (.agg (rowOf w (ptrOf (a.eval x))))) w := by
  unfold Oper.wp execOp
  generalize ptrOf (a.eval x) = b at *
  simp only [hx, Instr.loadAt, Instr.sureAddr, Sem.run_bind, Sem.run_pure, Result.andThen_ok, run_load_node h]
  rfl
attribute [local go_sem ↓ high] wp_load_node
attribute [local go_sem] ptrOf_pointer
section
variable {W : World} {B : Nat} {O : Nat → Option Nat} {s : St} {lv rv : Value} {tv : Nat → Value} {xs : List Value} {sb : ByteArray} {k g n cap : Nat}
set_option maxRecDepth 100000 in
set_option maxHeartbeats 2000000 in
theorem add_any (h : Mem W B O s (.slice (some ⟨g, 0, none⟩) n cap) rv tv xs sb k) (hw : Wf s.list s.tip) (b : Nd) (hb : PlainB b) (hk : b.kind ≠ 4 ∨ holdsB (s.nd s.tip).kind b.kind = true) (hp : phi s ≤ 100000) (hlen : s.list.length ≤ 100000) :
    Calls Tryz.prog 68 #[.pointer (some ⟨B, 0, none⟩), .agg (blkC b)] W fun e w' => e = .returned (.int .i64 ((addM s b).tip : Nat)) ∧ Post W B O (addM s b) w' := by
  obtain ⟨rfl, hnc1, hnc2⟩ := h.num
  have KA : Keeps W (W.alloc (.cells (blkC b) 26)) := (Keeps.refl W).alloc _
  have hBk := Blk.new W 26 (blkC b)
  have hOn : O W.heap.size = none := by
    cases e : O W.heap.size with
    | none => rfl
    | some x => have := h.lt W.heap.size (by rw [e]; simp); omega
  have HM := Lib.hid (show ∃ O1 rv1 tv1 xs1 sb1 k1, Mem (W.alloc (.cells (blkC b) 26)) B O1 s (.slice (some ⟨g, 0, none⟩) s.list.length cap) rv1 tv1 xs1 sb1 k1 ∧ Chg (W.alloc (.cells (blkC b) 26)) O (W.alloc (.cells (blkC b) 26)) O1 from ⟨O, rv, tv, xs, sb, k, h.keep KA, Chg.refl _ _⟩)
  have HW := Lib.hid hw
  have HK := Lib.hid hk
  have HP := Lib.hid hp
  have HB := Lib.hid hBk
  have CA := Lib.hid (Chg.keeps O KA)
  have HON := Lib.hid hOn
  have HPL := Lib.hid hb
  clear h hw hk hp hBk KA hOn hb
  go_enter Tryz.func68, Tryz.ntmps68
  unfold blkC at *
  go_wp2_with fail
  obtain ⟨W0, hW0⟩ : ∃ W0, W.alloc (.cells #[.int .i64 b.kind, .int .i64 b.level, .bool b.ord, .int .i64 b.start, .int .u8 b.mark, .bool b.tight, .string ⟨b.info.toArray⟩, .string ⟨#[]⟩, .slice none 0 0, .slice none 0 0] 26) = W0 := ⟨_, rfl⟩
  rw [hW0] at HM HB CA ⊢
  clear hW0
  obtain ⟨bb, hbb⟩ : ∃ bb, W.heap.size = bb := ⟨_, rfl⟩
  rw [hbb] at HB HON ⊢
  clear hbb
  go_loopw [] (fun wr => ∃ s1 : St, Hid (∃ O1 rv1 tv1 xs1 sb1 k1, Mem wr B O1 s1 (.slice (some ⟨g, 0, none⟩) s.list.length cap) rv1 tv1 xs1 sb1 k1 ∧ Chg W0 O wr O1) ∧ Hid (Wf s1.list s1.tip) ∧ Hid (b.kind ≠ 4 ∨ holdsB (s1.nd s1.tip).kind b.kind = true) ∧ Hid (phi s1 ≤ 100000) ∧ Hid (addGo s1.tip s1 b.kind = addGo s.tip s b.kind)) (fun wr => tipOf wr B)
  case atStart => exact ⟨s, HM, HW, HK, HP, Lib.hid rfl⟩
  case round =>
    obtain ⟨s1, HM1, HW1, HK1, HP1, HE⟩ := hrel
    obtain ⟨O1, rv1, tv1, xs1, sb1, k1, h1, c1⟩ := HM1.out
    have HN1 := Lib.hid h1.num.1
    have ht1 := HW1.out.tip
    have B1 := Lib.hid (c1.blk HB.out HON.out)
    have y0 := h1.box.cell 0 (v := .slice (some ⟨g, 0, none⟩) s.list.length cap) rfl
    have y1 := h1.box.cell 1 (v := .int .i64 s1.tip) rfl
    have z0 : wr.cell? ⟨g, s1.tip * 20, none⟩ = some (.int .i64 ((s1.nd s1.tip).kind : Nat)) := h1.at ht1 0 (by decide)
    have x0 := B1.out.cell 0 (v := .int .i64 b.kind) rfl
    have ht2 : (s1.tip : Int) < (s.list.length : Int) := by have := HN1.out; omega
    have HH := Lib.hid (fun W => bholds_any (s1.nd s1.tip).kind b.kind W)
    by_cases e : holdsB (s1.nd s1.tip).kind b.kind = true
    · rw [e] at HH
      have E1 : Hid (addM s b = pushM s1 b) := Lib.hid (by unfold addM; rw [← HE.out, add_stop e])
      have H1 := Lib.hid h1
      have C1 := Lib.hid (CA.out.trans c1)
      generalize hq : (s1.nd s1.tip).kind = q at *
      clear hq e h1 c1
      go_wp2_with fail
      go_quiet ((go_at_call 94; exact quiet_in (HH.out _) ⟨_, rfl⟩))
      have KQ := Lib.hid ((Keeps.refl wr).drewN nq)
      have H2 := Lib.hid (H1.out.keep KQ.out)
      have C2 := Lib.hid (C1.out.trans (Chg.keeps O1 KQ.out))
      have B2 := Lib.hid (B1.out.keep KQ.out)
      clear H1 C1 B1 KQ y0 y1 z0 x0 HM1 HM HB CA
      generalize wr.drewN nq = w2 at *
      have y0 := H2.out.box.cell 0 (v := .slice (some ⟨g, 0, none⟩) s.list.length cap) rfl
      have y1 := H2.out.box.cell 1 (v := .int .i64 s1.tip) rfl
      go_wp2_with fail
      go_quiet (fail)
      have KQ := Lib.hid ((Keeps.refl w2).drewN nq)
      have H3 := Lib.hid (H2.out.keep KQ.out)
      have C3 := Lib.hid (C2.out.trans (Chg.keeps O1 KQ.out))
      have B3 := Lib.hid (B2.out.keep KQ.out)
      clear H2 C2 B2 KQ y0 y1
      generalize w2.drewN nq = w3 at *
      have y1 := H3.out.box.cell 1 (v := .int .i64 s1.tip) rfl
      have x0 := B3.out.cell 0 (v := .int .i64 b.kind) rfl
      have x1 := B3.out.cell 1 (v := .int .i64 b.level) rfl
      have x2 := B3.out.cell 2 (v := .bool b.ord) rfl
      have x3 := B3.out.cell 3 (v := .int .i64 b.start) rfl
      have x4 := B3.out.cell 4 (v := .int .u8 b.mark) rfl
      have x5 := B3.out.cell 5 (v := .bool b.tight) rfl
      have x6 := B3.out.cell 6 (v := .string ⟨b.info.toArray⟩) rfl
      have x7 := B3.out.cell 7 (v := .string ⟨#[]⟩) rfl
      have x8 := B3.out.cell 8 (v := .slice none 0 0) rfl
      have x9 := B3.out.cell 9 (v := .slice none 0 0) rfl
      have z11 : w3.cell? ⟨g, s1.tip * 20 + 11, none⟩ = some (.int .i64 (s1.nd s1.tip).last) := H3.out.at ht1 11 (by decide)
      have z13 : w3.cell? ⟨g, s1.tip * 20 + 13, none⟩ = some (.int .i64 ((s1.nd s1.tip).depth : Nat)) := H3.out.at ht1 13 (by decide)
      have hdp := HW1.out.depth s1.tip ht1
      have hdp2 : (s1.nd s1.tip).depth ≤ 100000 := by have := HN1.out; unfold St.nd; omega
      generalize hD : (s1.nd s1.tip).depth = D at *
      generalize hLA : (s1.nd s1.tip).last = LA at *
      obtain ⟨DI, hDI⟩ : ∃ DI : Int, DI = (D : Int) := ⟨_, rfl⟩
      rw [← hDI] at z13
      have hwr : IntKind.i64.wrap (DI + 1) = DI + 1 := IntWalk.i64_in _ (by omega)
      have HDI := Lib.hid hDI
      clear hDI
      obtain ⟨C, hC⟩ : ∃ C : Array Value, (#[.int .i64 b.kind, .int .i64 b.level, .bool b.ord, .int .i64 b.start, .int .u8 b.mark, .bool b.tight, .string ⟨b.info.toArray⟩, .string ⟨#[]⟩, .slice none 0 0, .slice none 0 0, .int .i64 s1.tip, .int .i64 (-1), .int .i64 LA, .int .i64 (DI + 1), .slice none 0 0, .int .i64 0, .int .u8 0, .int .i64 0, .int .i64 0, .bool false] : Array Value) = C := ⟨_, rfl⟩
      have hst : ∀ W' : World, (storeCells ⟨W'.heap.size, 0, none⟩ C.toList 0).run Tryz.prog (W'.alloc (.cells #[.int .i64 0, .int .i64 0, .bool false, .int .i64 0, .int .u8 0, .bool false, .string ⟨#[]⟩, .string ⟨#[]⟩, .slice none 0 0, .slice none 0 0, .int .i64 0, .int .i64 0, .int .i64 0, .int .i64 0, .slice none 0 0, .int .i64 0, .int .u8 0, .int .i64 0, .int .i64 0, .bool false] 61)) = .ok () (W'.alloc (.cells C 61)) := fun W' => by
        subst hC
        exact run_storeCells_new W' _ _ _ (by obtain ⟨i0, hi0, hz0, hz1, hz2⟩ := info_parts infoNd; rw [hi0]; exact congrArg some hz1) rfl (by simp [Value.oneCell'])
      have hst2 : ∀ W' : World, (storeCells ⟨W'.heap.size, 0, none⟩ C.toList 0).run Tryz.prog ((W'.alloc (.cells #[.int .i64 0, .int .i64 0, .bool false, .int .i64 0, .int .u8 0, .bool false, .string ⟨#[]⟩, .string ⟨#[]⟩, .slice none 0 0, .slice none 0 0, .int .i64 0, .int .i64 0, .int .i64 0, .int .i64 0, .slice none 0 0, .int .i64 0, .int .u8 0, .int .i64 0, .int .i64 0, .bool false] 61)).drew) = .ok () ((W'.alloc (.cells C 61)).drew) := fun W' => hst W'.drew
      have hCs : C.size = 20 := by rw [← hC]; rfl
      go_wp2_with fail
      go_region_held3 (fun w' => w'.cell? ⟨B, 1, none⟩ = some (.int .i64 s1.tip) ∧ w'.cell? ⟨bb, 0, none⟩ = some (.int .i64 b.kind) ∧ w'.cell? ⟨bb, 1, none⟩ = some (.int .i64 b.level) ∧ w'.cell? ⟨bb, 2, none⟩ = some (.bool b.ord) ∧ w'.cell? ⟨bb, 3, none⟩ = some (.int .i64 b.start) ∧ w'.cell? ⟨bb, 4, none⟩ = some (.int .u8 b.mark) ∧ w'.cell? ⟨bb, 5, none⟩ = some (.bool b.tight) ∧ w'.cell? ⟨bb, 6, none⟩ = some (.string ⟨b.info.toArray⟩) ∧ w'.cell? ⟨bb, 7, none⟩ = some (.string ⟨#[]⟩) ∧ w'.cell? ⟨bb, 8, none⟩ = some (.slice none 0 0) ∧ w'.cell? ⟨bb, 9, none⟩ = some (.slice none 0 0) ∧ w'.cell? ⟨g, s1.tip * 20 + 11, none⟩ = some (.int .i64 LA) ∧ w'.cell? ⟨g, s1.tip * 20 + 13, none⟩ = some (.int .i64 DI))
        (first | assumption | (exact ⟨y1, x0, x1, x2, x3, x4, x5, x6, x7, x8, x9, z11, z13⟩) | (exact s13_keep (((Keeps.refl w3).drew).alloc _) ⟨y1, x0, x1, x2, x3, x4, x5, x6, x7, x8, x9, z11, z13⟩) | (exact s13_keep (((Keeps.refl w3).alloc _).drew) ⟨y1, x0, x1, x2, x3, x4, x5, x6, x7, x8, x9, z11, z13⟩))
        (fail)
      have hDI := HDI.out
      clear HDI hst hst2
      subst hDI
      have HC := Lib.hid hC
      have HS := Lib.hid hCs
      clear hC hCs
      have KN : Keeps w3 ((w3.alloc (.cells C 61)).drew) := ((Keeps.refl w3).alloc _).drew
      have H4 := Lib.hid (H3.out.keep KN)
      have C4 := Lib.hid (C3.out.trans (Chg.keeps O1 KN))
      have N4 : Hid (Blk ((w3.alloc (.cells C 61)).drew) w3.heap.size 61 C) := Lib.hid (Blk.new w3 _ _).drew
      have hne : g ≠ w3.heap.size := by have := H3.out.lt g (by rw [H3.out.oL g rfl]; simp); omega
      have hBn : B ≠ w3.heap.size := by have := H3.out.lt B (by rw [H3.out.oB]; simp); omega
      obtain ⟨nb, hnb⟩ : ∃ nb, w3.heap.size = nb := ⟨_, rfl⟩
      rw [hnb] at N4 hne hBn ⊢
      clear KN H3 C3 B3 y1 x0 x1 x2 x3 x4 x5 x6 x7 x8 x9 z11 z13 hnb hwr
      generalize (w3.alloc (.cells C 61)).drew = w4 at *
      have z11 : w4.cell? ⟨g, s1.tip * 20 + 11, none⟩ = some (.int .i64 (s1.nd s1.tip).last) := H4.out.at ht1 11 (by decide)
      have f11 : w4.frozen? ⟨g, s1.tip * 20 + 11, none⟩ = false := H4.out.free _
      obtain ⟨O5, m5, q5⟩ := H4.out.store ht1 { s1.nd s1.tip with last := (s.list.length : Int) } 11 (by decide) _ (nd_last _ _ _) rfl
      have M5 := Lib.hid m5
      have C5 := Lib.hid (C4.out.trans q5)
      have N5 := Lib.hid (N4.out.other (fun e => hne e.symm) (s1.tip * 20 + 11) (.int .i64 (s.list.length : Int)))
      clear m5 q5 H4 C4 N4
      go_wp2_with fail
      -- the list, with one more
      generalize hw5 : w4.setCell ⟨g, s1.tip * 20 + 11, none⟩ (.int .i64 (s.list.length : Int)) = w5 at *
      clear hw5 z11 f11
      have hb := HPL.out
      have b1 : b.text = [] := congrArg Nd.text hb
      have b2 : b.indent = 0 := congrArg Nd.indent hb
      have b3 : b.fence = 0 := congrArg Nd.fence hb
      have b4 : b.count = 0 := congrArg Nd.count hb
      have b5 : b.html = 0 := congrArg Nd.html hb
      have b6 : b.be = false := congrArg Nd.be hb
      have hnd : ndC { b with up := s1.tip, last := -1, ahead := LA, depth := D + 1 } (.slice none 0 0) = C.toList := by
        rw [← HC.out]
        simp only [ndC, b2, b3, b4, b5, b6]
        rfl
      have m7 := M5.out.keep (((Keeps.refl w5).alloc (.cells C 61)).drew)
      have hl7 : (s1.put s1.tip { s1.nd s1.tip with last := (s.list.length : Int) }).list.length = s.list.length := by unfold St.put; rw [List.length_set]; exact HN1.out.symm
      have r7 := m7.row
      rw [hl7] at r7
      obtain ⟨i0, hi0, hz0, hz1, hz2⟩ := info_parts infoNd
      obtain ⟨v8, w8, ra, o8, g8, n8, l8⟩ := run_append_own_at (P := Tryz.prog) ((w5.alloc (.cells C 61)).drew) 0 47 47 61 i0 _ 20 216 Tryz.underlying47 hi0 hz0 hz1 hz2 rfl (by decide) (.slice (some ⟨g, 0, none⟩) s.list.length cap) s.list.length _ r7 ⟨w5.heap.size, 0, none⟩ 1 1 C.toList (by rw [Array.length_toList, HS.out]) (fun j u hu => by
        rw [Addr.add_lit, Nat.zero_add]
        have q := World.cell?_alloc_new (w := w5) C 61 j
        show (w5.alloc (.cells C 61)).cell? ⟨w5.heap.size, j, none⟩ = some u
        rw [q, ← hu, Array.getElem?_toList]) (by rw [← hnd]; exact ndC_one _) (by simp only [maxLen]; omega) (by omega) (Nat.zero_le _)
      obtain ⟨a8, c8, e8⟩ : ∃ a8 c8, v8 = .slice a8 (s.list.length + 1) c8 := by
        rcases o8.2 with ⟨_, e⟩ | ⟨g', c', _, e, _⟩
        · omega
        · exact ⟨_, _, e⟩
      have hgB : B ≠ g := fun e => by have a := m7.oB; rw [e, m7.oL g rfl] at a; cases a
      have hB8 := g8.block B m7.box.lt (by simp [Value.ownBlock]; exact hgB)
      have y0 : w8.cell? ⟨B, 0, none⟩ = _ := (World.cell?_of_block (a := ⟨B, 0, none⟩) hB8).trans (m7.box.cell 0 rfl)
      have f0 := (World.frozen?_of_block (a := ⟨B, 0, none⟩) hB8).trans (m7.box.free 0)
      obtain ⟨O9, m9, q9⟩ := m7.listed v8 { b with up := s1.tip, last := -1, ahead := LA, depth := D + 1 } b1 g8 (by rw [hl7, hnd]; exact o8) l8
      have N7 := ((N5.out.alloc (.cells C 61)).drew)
      have N8 : Blk w8 nb 61 C := by
        unfold Blk
        rw [g8.block nb N7.lt (by simp [Value.ownBlock]; exact fun e => hne e.symm)]
        exact N7
      have N9 := Lib.hid (N8.other (fun e => hBn e.symm) 0 v8)
      have C7 := Lib.hid (C5.out.trans ((Chg.keeps O5 (((Keeps.refl w5).alloc (.cells C 61)).drew)).trans q9))
      have M9 := Lib.hid m9
      have y5 := M5.out.box.cell 0 (v := .slice (some ⟨g, 0, none⟩) s.list.length cap) rfl
      have KA5 : Keeps w5 (w5.alloc (.cells C 61)) := (Keeps.refl w5).alloc _
      have y5a := keep_cell y5 KA5
      clear KA5
      subst e8
      clear m7 r7 o8 g8 n8 l8 m9 q9 hB8 N7 N8 hnd b1 b2 b3 b4 b5 b6 hi0 hz0 hz1 hz2
      have hCs := HS.out
      have hfo := fold_node C HS.out
      obtain ⟨hn1, hr1⟩ := isNode.of N5.out HS.out
      obtain ⟨hn2, hr2⟩ := isNode.of N5.out.drew HS.out
      go_region_law (refine step_append_run rfl (.tmp 63) (.tmp 65) _ _ rfl _ _ (by simp [Act.eval]) (by simp [Act.eval]) _ _ ra ?_)
      all_goals
        have HPU : Hid (pushM s1 b = { s1 with list := s1.list.set s1.tip { s1.nd s1.tip with last := (s.list.length : Int) } ++ [{ b with up := s1.tip, last := -1, ahead := LA, depth := D + 1 }], tip := s.list.length, deep := s1.deep || decide (100 < D + 1) }) := Lib.hid (by
          unfold pushM
          rw [hLA, hD, ← HN1.out])
        clear hCs hfo hn1 hr1 hn2 hr2
        clear y5 y5a y0 f0 ra M5 C5 N5
        generalize w8.setCell ⟨B, 0, none⟩ (.slice a8 (s.list.length + 1) c8) = w9 at *
        have y1 := M9.out.box.cell 1 (v := .int .i64 s1.tip) rfl
        have f1 := M9.out.box.free 1
        have m10 := M9.out.set1 (s' := { s1 with list := s1.list.set s1.tip { s1.nd s1.tip with last := (s.list.length : Int) } ++ [{ b with up := s1.tip, last := -1, ahead := LA, depth := D + 1 }], tip := s.list.length }) 1 (.int .i64 (s.list.length : Nat)) rfl rfl rfl rfl
        have c10 := C7.out.trans (M9.out.chg1 1 (.int .i64 (s.list.length : Nat)))
        have N10 := N9.out.other (fun e => hBn e.symm) 1 (.int .i64 (s.list.length : Nat))
        have z13 := N10.cell 13 (v := .int .i64 ((D : Int) + 1)) (by rw [← HC.out]; rfl)
        by_cases hdeep : 100 < D + 1
        · have t1 : decide ((100 : Int) < (D : Int) + 1) = true := decide_eq_true (by omega)
          have y10 := m10.box.cell 10 (v := .bool s1.deep) rfl
          have f10 := m10.box.free 10
          have m11 := m10.set1 (s' := { s1 with list := s1.list.set s1.tip { s1.nd s1.tip with last := (s.list.length : Int) } ++ [{ b with up := s1.tip, last := -1, ahead := LA, depth := D + 1 }], tip := s.list.length, deep := true }) 10 (.bool true) rfl rfl rfl rfl
          have R := Lib.hid (show Post W B O (addM s b) _ from ⟨O9, ⟨_, _, _, _, _, _, by rw [E1.out, HPU.out, decide_eq_true hdeep, Bool.or_true]; exact m11⟩, c10.trans (m10.chg1 10 (.bool true))⟩)
          have HTI : Hid ((addM s b).tip = s.list.length) := Lib.hid (congrArg St.tip (E1.out.trans HPU.out))
          clear m10 c10 N10 M9 C7 N9 m11 HPU E1 hdeep
          go_wp2_with fail
          go_ret
          exact ⟨by rw [HTI.out]; rfl, R.out⟩
        · have t1 : decide ((100 : Int) < (D : Int) + 1) = false := decide_eq_false (by omega)
          have R := Lib.hid (show Post W B O (addM s b) _ from ⟨O9, ⟨_, _, _, _, _, _, by rw [E1.out, HPU.out, decide_eq_false hdeep, Bool.or_false]; exact m10⟩, c10⟩)
          have HTI : Hid ((addM s b).tip = s.list.length) := Lib.hid (congrArg St.tip (E1.out.trans HPU.out))
          clear m10 c10 N10 M9 C7 N9 HPU E1 hdeep
          go_wp2_with fail
          go_ret
          exact ⟨by rw [HTI.out]; rfl, R.out⟩
    · rw [Bool.not_eq_true] at e
      have e' : ¬ holdsB (s1.nd s1.tip).kind b.kind = true := by rw [e]; simp
      rw [e] at HH
      have hk4 : b.kind ≠ 4 := HK1.out.resolve_right e'
      obtain ⟨h0, hstep⟩ := add_step HW1.out hk4 e'
      have CL := Lib.hid (fun W' (q : Keeps wr W') => close_any (h1.keep q) HW1.out h0 HP1.out)
      have hu := HW1.out.up s1.tip (by omega) HW1.out.tip
      have W2 := Lib.hid (HW1.out.close h0)
      have P2 := Lib.hid ((Cap.close (s := s1) ⟨Nat.le_refl _, HP1.out⟩).txt)
      have E2 : Hid (addGo (closeM s1).tip (closeM s1) b.kind = addGo s.tip s b.kind) := Lib.hid (by rw [← HE.out, hstep])
      have HTO := Lib.hid h1.tipOf
      have hlt : (closeM s1).tip < s1.tip := by rw [close_tip]; unfold St.nd; omega
      have C1 := Lib.hid c1
      have K4 := Lib.hid hk4
      generalize hq : (s1.nd s1.tip).kind = q at *
      clear hq h1 c1 hu e e' hk4 hstep
      go_wp2_with fail
      go_quiet ((go_at_call 94; exact quiet_in (HH.out _) ⟨_, rfl⟩))
      have KQ := Lib.hid ((Keeps.refl wr).drewN nq)
      go_wp2_with fail
      refine (CL.out _ KQ.out).mono ?_
      rintro e w1 ⟨rfl, O3, rv3, tv3, xs3, sb3, k3, h3, c3⟩
      have T3 := Lib.hid h3.tipOf
      have HM3 := Lib.hid (show ∃ O1 rv1 tv1 xs1 sb1 k1, Mem w1 B O1 (closeM s1) (.slice (some ⟨g, 0, none⟩) s.list.length cap) rv1 tv1 xs1 sb1 k1 ∧ Chg W0 O w1 O1 from ⟨O3, rv3, tv3, xs3, sb3, k3, h3, C1.out.trans ((Chg.keeps O1 KQ.out).trans c3)⟩)
      clear h3 c3 y1 KQ
      go_wp2_with fail
      go_roundw
      case rel => exact ⟨closeM s1, HM3, W2, Lib.hid (.inl K4.out), P2, E2⟩
      case measure => rw [T3.out, HTO.out]; exact hlt
end
end Go.Proofs.YtfgpephpkibbaaaGreatDoor

/-
  Contracts of block's itemGoesOn, codeGoesOn, goesOn.
-/
namespace Go.Proofs.YtfgpephpkibbaaaGreatDoor
open Go.RowKit Go.Lib

section
variable {W : World} {B : Nat} {O : Nat → Option Nat} {s : St} {rv : Value} {tv : Nat → Value} {xs : List Value} {sb : ByteArray} {k g n cap : Nat}
theorem NPost.from {W0 W W' : World} {B : Nat} {O : Nat → Option Nat} {s' : St} {lv : Value} (k : Keeps W0 W) (h : NPost W B O s' lv W') : NPost W0 B O s' lv W' := NPost.trans (Chg.keeps O k) h
set_option maxRecDepth 100000 in
set_option maxHeartbeats 1000000 in
theorem itemGoesOn_any (h : Mem W B O s (.slice (some ⟨g, 0, none⟩) n cap) rv tv xs sb k) {i : Nat} (hi : i < s.list.length) (hind : (s.nd i).indent ≤ 1000000) :
    Calls Tryz.prog 54 #[.pointer (some ⟨B, 0, none⟩), .pointer (some ⟨g, i * 20, none⟩)] W fun e w' => e = .returned (.bool (itemOnM s i).2) ∧ NPost W B O (s.atL (itemOnM s i).1) (.slice (some ⟨g, 0, none⟩) n cap) w' := by
  have y7 := h.box.cell 7 (v := .int .i64 s.line.ind) rfl
  have z15 : W.cell? ⟨g, i * 20 + 15, none⟩ = some (.int .i64 ((s.nd i).indent : Nat)) := h.at hi 15 (by decide)
  have hib := h.lw.bound.2
  have hsz := h.siz
  have BL := Lib.hid (lblank_any h)
  have SK := Lib.hid (fun W' (q : Keeps W W') => lskip_any (h.keep q) s.line.ind (by omega))
  have PI := Lib.hid (fun W' (q : Keeps W W') => lpastIndent_any (h.keep q) (s.nd i).indent hind)
  have Z11 : Hid (∀ (w' : World) (O1 : Nat → Option Nat) L rv1 tv1 xs1 sb1 k1, Mem w' B O1 (s.atL L) (.slice (some ⟨g, 0, none⟩) n cap) rv1 tv1 xs1 sb1 k1 → w'.cell? ⟨g, i * 20 + 11, none⟩ = some (.int .i64 (s.nd i).last)) := Lib.hid fun w' O1 L rv1 tv1 xs1 sb1 k1 h1 => h1.at (i := i) hi 11 (by decide)
  unfold itemOnM
  generalize (s.nd i).indent = ni at *
  generalize (s.nd i).last = nl at *
  generalize hj : s.line.ind = j at *
  clear h hj
  by_cases c : s.line.next = []
  · rw [if_pos c]
    rw [decide_eq_true c] at BL
    clear c PI
    by_cases cl : nl = -1
    · subst cl
      go_enter Tryz.func54, Tryz.ntmps54
      go_wp2_with fail
      refine BL.out.mono ?_
      rintro e w1 ⟨rfl, rfl⟩
      go_wp2_with fail
      go_still_tail 8, (by kernel_rfl)
      change wpList _ _ _ _ _ W.drew
      have K1 := Lib.hid ((Keeps.refl W).drew)
      generalize W.drew = W1 at *
      go_wp2_with fail
      refine (SK.out _ K1.out).mono ?_
      rintro e w2 ⟨rfl, q2⟩
      have R := Lib.hid (NPost.from K1.out q2)
      obtain ⟨O1, rv1, tv1, xs1, sb1, k1, h1, c1⟩ := q2
      have z11 := Z11.out _ _ _ _ _ _ _ _ h1
      clear h1 c1 SK K1 BL
      go_wp2_with fail
      go_ret
      exact ⟨rfl, R.out⟩
    · rw [decide_eq_false cl]
      have t1 := beqF (show ¬ nl = (-1 : Int) from cl)
      clear cl
      go_enter Tryz.func54, Tryz.ntmps54
      go_wp2_with fail
      refine BL.out.mono ?_
      rintro e w1 ⟨rfl, rfl⟩
      go_wp2_with fail
      go_still_tail 8, (by kernel_rfl)
      change wpList _ _ _ _ _ W.drew
      have K1 := Lib.hid ((Keeps.refl W).drew)
      generalize W.drew = W1 at *
      go_wp2_with fail
      refine (SK.out _ K1.out).mono ?_
      rintro e w2 ⟨rfl, q2⟩
      have R := Lib.hid (NPost.from K1.out q2)
      obtain ⟨O1, rv1, tv1, xs1, sb1, k1, h1, c1⟩ := q2
      have z11 := Z11.out _ _ _ _ _ _ _ _ h1
      clear h1 c1 SK K1 BL
      go_wp2_with fail
      go_ret
      exact ⟨ret_bool (show (nl != -1) = true by rw [bne, t1]; rfl), R.out⟩
  · rw [if_neg c]
    rw [decide_eq_false c] at BL
    clear c SK Z11
    go_enter Tryz.func54, Tryz.ntmps54
    go_wp2_with fail
    refine BL.out.mono ?_
    rintro e w1 ⟨rfl, rfl⟩
    go_wp2_with fail
    go_still_tail 7, (by kernel_rfl)
    change wpList _ _ _ _ _ W.drew
    have K1 := Lib.hid ((Keeps.refl W).drew)
    generalize W.drew = W1 at *
    go_wp2_with fail
    refine (PI.out _ K1.out).mono ?_
    rintro e w2 ⟨rfl, q2⟩
    have R := Lib.hid (NPost.from K1.out q2)
    clear q2 PI K1 BL
    go_wp2_with fail
    go_ret
    exact ⟨rfl, R.out⟩

set_option maxRecDepth 100000 in
set_option maxHeartbeats 1000000 in
theorem codeGoesOn_any (h : Mem W B O s (.slice (some ⟨g, 0, none⟩) n cap) rv tv xs sb k) {i : Nat} (hi : i < s.list.length) (hind : (s.nd i).indent ≤ 1000000) :
    Calls Tryz.prog 55 #[.pointer (some ⟨B, 0, none⟩), .pointer (some ⟨g, i * 20, none⟩)] W fun e w' => e = .returned (.bool (codeOnM s i).2) ∧ NPost W B O (s.atL (codeOnM s i).1) (.slice (some ⟨g, 0, none⟩) n cap) w' := by
  have z15 : W.cell? ⟨g, i * 20 + 15, none⟩ = some (.int .i64 ((s.nd i).indent : Nat)) := h.at hi 15 (by decide)
  have FN := Lib.hid (fenced_any W g (i * 20) (s.nd i).fence (h.at hi 16 (by decide)))
  have BL := Lib.hid (lblank_any h)
  have SI := Lib.hid (fun W' (q : Keeps W W') => lskip_any (h.keep q) (s.nd i).indent hind)
  have S4 := Lib.hid (lskip_any h 4 (by omega))
  have P4 := Lib.hid (lpastIndent_any h 4 (by omega))
  unfold codeOnM
  generalize (s.nd i).indent = ni at *
  clear h
  by_cases c0 : (s.nd i).fence = 0
  · rw [decide_eq_true c0, show (!true) = false from rfl] at FN
    rw [if_neg (by simp [c0])]
    clear SI c0
    by_cases c : s.line.next = []
    · rw [if_pos c]
      rw [decide_eq_true c] at BL
      clear c P4
      go_enter Tryz.func55, Tryz.ntmps55
      go_wp2_with fail
      refine FN.out.mono ?_
      rintro e w1 ⟨rfl, rfl⟩
      go_wp2_with fail
      refine BL.out.mono ?_
      rintro e w1 ⟨rfl, rfl⟩
      go_wp2_with fail
      refine S4.out.mono ?_
      rintro e w2 ⟨rfl, q2⟩
      have R := Lib.hid q2
      clear q2 S4 BL FN
      go_wp2_with fail
      go_ret
      exact ⟨rfl, R.out⟩
    · rw [if_neg c]
      rw [decide_eq_false c] at BL
      clear c S4
      go_enter Tryz.func55, Tryz.ntmps55
      go_wp2_with fail
      refine FN.out.mono ?_
      rintro e w1 ⟨rfl, rfl⟩
      go_wp2_with fail
      refine BL.out.mono ?_
      rintro e w1 ⟨rfl, rfl⟩
      go_wp2_with fail
      refine P4.out.mono ?_
      rintro e w2 ⟨rfl, q2⟩
      have R := Lib.hid q2
      clear q2 P4 BL FN
      go_wp2_with fail
      go_ret
      exact ⟨rfl, R.out⟩
  · rw [decide_eq_false c0, show (!false) = true from rfl] at FN
    rw [if_pos c0]
    clear S4 P4 BL c0
    go_enter Tryz.func55, Tryz.ntmps55
    go_wp2_with fail
    refine FN.out.mono ?_
    rintro e w1 ⟨rfl, rfl⟩
    go_wp2_with fail
    go_still_tail 7, (by kernel_rfl)
    change wpList _ _ _ _ _ W.drew
    have K1 := Lib.hid ((Keeps.refl W).drew)
    generalize W.drew = W1 at *
    go_wp2_with fail
    refine (SI.out _ K1.out).mono ?_
    rintro e w2 ⟨rfl, q2⟩
    have R := Lib.hid (NPost.from K1.out q2)
    clear q2 SI K1 FN
    go_wp2_with fail
    go_ret
    exact ⟨rfl, R.out⟩
end
end Go.Proofs.YtfgpephpkibbaaaGreatDoor

/-
  Contract of block's fill.
-/
namespace Go.Proofs.YtfgpephpkibbaaaGreatDoor
open Go.RowKit Go.Lib

theorem Par.form {W : World} {B : Nat} {O : Nat → Option Nat} {s : St} (h : Par W B O s) (h0 : 0 < s.list.length) : ∃ g cap rv tv xs sb k, Mem W B O s (.slice (some ⟨g, 0, none⟩) s.list.length cap) rv tv xs sb k := by
  obtain ⟨lv, rv, tv, xs, sb, k, h⟩ := h
  obtain ⟨g, cap, e, _⟩ := h.head h0
  subst e
  exact ⟨g, cap, rv, tv, xs, sb, k, h⟩
theorem add_len (s : St) (b : Nd) : 0 < (addM s b).list.length := by unfold addM; rw [push_len]; omega
theorem keep2 {a b : World} {B g o m L cap : Nat} (kk : Keeps a b) (h : a.cell? ⟨B, 0, none⟩ = some (.slice (some ⟨g, 0, none⟩) L cap) ∧ a.cell? ⟨g, o + 18, none⟩ = some (.int .i64 m)) :
    b.cell? ⟨B, 0, none⟩ = some (.slice (some ⟨g, 0, none⟩) L cap) ∧ b.cell? ⟨g, o + 18, none⟩ = some (.int .i64 m) := ⟨keep_cell h.1 kk, keep_cell h.2 kk⟩
theorem put_wf {s : St} (h : Wf s.list s.tip) (i : Nat) : Wf (putM s i).list s.tip := h.text i _ _
section
variable {W : World} {B : Nat} {O : Nat → Option Nat} {s : St} {rv : Value} {tv : Nat → Value} {xs : List Value} {sb : ByteArray} {k g n cap : Nat}
set_option maxRecDepth 100000 in
set_option maxHeartbeats 4000000 in
theorem fill_any (h : Mem W B O s (.slice (some ⟨g, 0, none⟩) n cap) rv tv xs sb k) (hw : Wf s.list s.tip) {i : Nat} (hi : i < s.list.length) (h8 : (s.nd i).kind = 8 → s.tip ≠ 0) (hp : phi s ≤ 80000) (hlen : s.list.length ≤ 90000) :
    Calls Tryz.prog 45 #[.pointer (some ⟨B, 0, none⟩), .int .i64 i] W fun e w' => e = .returned (.tuple #[]) ∧ Post W B O (fillM s i) w' := by
  obtain ⟨rfl, hc1, hc2⟩ := h.num
  have y0 := h.box.cell 0 (v := .slice (some ⟨g, 0, none⟩) s.list.length cap) rfl
  have z0 : W.cell? ⟨g, i * 20, none⟩ = some (.int .i64 ((s.nd i).kind : Nat)) := h.at hi 0 (by decide)
  have z18 : W.cell? ⟨g, i * 20 + 18, none⟩ = some (.int .i64 ((s.nd i).html : Nat)) := h.at hi 18 (by decide)
  have hi2 : (i : Int) < (s.list.length : Int) := by omega
  have BL := Lib.hid (lblank_any h)
  have HM := Lib.hid h
  have HW := Lib.hid hw
  have H8 := Lib.hid h8
  have HP := Lib.hid hp
  have HL := Lib.hid hlen
  have hrl := h.lw.restLen
  have hsz := h.siz
  have HFF : Hid (fillM s i = _) := Lib.hid (fillM.eq_1 s i)
  obtain ⟨E, hE⟩ : ∃ E, fillM s i = E := ⟨_, rfl⟩
  rw [hE] at HFF
  rw [hE]
  clear h8 hE
  by_cases q7 : (s.nd i).kind = 7
  · have PU := Lib.hid (putB_any h hi (by omega))
    have e1 : Hid (putM s i = E) := Lib.hid (by rw [HFF.out, if_pos q7])
    rw [e1.out] at PU
    rw [q7] at z0
    clear h hw q7 hc1 hc2
    go_enter Tryz.func45, Tryz.ntmps45
    go_wp2_with fail
    refine PU.out.mono ?_
    rintro e w2 ⟨rfl, q2⟩
    have R := Lib.hid q2.post
    clear q2
    go_wp2_with fail
    go_end0
    exact ⟨rfl, R.out⟩
  have t7 := beqF (show ¬ ((s.nd i).kind : Int) = 7 by omega)
  by_cases q8 : (s.nd i).kind = 8
  · have h0 := H8.out q8
    have PU := Lib.hid (fun W' (q : Keeps W W') => putB_any (h.keep q) hi (by omega))
    have PC : Hid (∀ W' : World, NPost W B O (putM s i) (.slice (some ⟨g, 0, none⟩) s.list.length cap) W' → W'.cell? ⟨B, 0, none⟩ = some (.slice (some ⟨g, 0, none⟩) s.list.length cap) ∧ W'.cell? ⟨g, i * 20 + 18, none⟩ = some (.int .i64 ((s.nd i).html : Nat)) ∧ Mxl W') := Lib.hid fun W' q => by
      obtain ⟨O1, rv1, tv1, xs1, sb1, k1, h1, c1⟩ := q
      refine ⟨h1.box.cell 0 rfl, ?_, h1.env.mxl⟩
      have hpl : i < (putM s i).list.length := by unfold putM St.put; simpa using hi
      have q : W'.cell? ⟨g, i * 20 + 18, none⟩ = some (.int .i64 (((putM s i).nd i).html : Nat)) := h1.at hpl 18 (by decide)
      rw [show ((putM s i).nd i).html = (s.nd i).html by unfold putM; rw [put_nd hi]] at q
      exact q
    have HE := Lib.hid (fun W (hm : Mxl W) => htmlEndM_any ⟨(lrestM s.line).toArray⟩ ((s.nd i).html : Nat) W (by
      have e : (⟨(lrestM s.line).toArray⟩ : ByteArray).size = (lrestM s.line).length := by simp [ByteArray.size]
      omega) hm)
    rw [show (⟨(lrestM s.line).toArray⟩ : ByteArray).data.toList = lrestM s.line by simp] at HE
    have WP := Lib.hid (put_wf hw i)
    have PP : Hid (phi (putM s i) ≤ 100000) := Lib.hid (by
      have q := (Cap.put (s := s) (a := s.list.length) (b := 80000) ⟨Nat.le_refl _, hp⟩ i { s.nd i with text := (s.nd i).text ++ lrestM s.line ++ [10] } (d := (lrestM s.line).length + 1) (by simp only [List.length_append, List.length_singleton]; omega)).txt
      unfold putM
      omega)
    have HFF2 : Hid ((if htmlEndL ((s.nd i).html : Int) (lrestM s.line) = true then closeM (putM s i) else putM s i) = E) := Lib.hid (by rw [HFF.out, if_neg q7, if_pos q8])
    rw [q8] at z0 t7
    generalize lrestM s.line = RR at *
    generalize (s.nd i).html = m at *
    clear h hw q7 hc1 hc2 q8 HFF H8
    go_enter Tryz.func45, Tryz.ntmps45
    go_wp2_with fail
    refine (PU.out _ (Keeps.refl W)).mono ?_
    rintro e w6 ⟨rfl, qq⟩
    have pc := PC.out _ qq
    have y6 := pc.1
    have z6 := pc.2.1
    have QQ := Lib.hid qq
    have MX := Lib.hid pc.2.2
    clear y0 z18 z0 PU PC qq pc
    go_wp2_with fail
    refine (HE.out _ MX.out).mono ?_
    rintro e w7 ⟨rfl, kk⟩
    have qq := QQ.out
    clear y6 z6 QQ MX HE
    all_goals
      obtain ⟨O6, rv6, tv6, xs6, sb6, k6, h6, c6⟩ := qq
      cases ce : htmlEndL (m : Int) RR with
      | true =>
        have CL := Lib.hid (close_any (h6.keep kk) WP.out h0 PP.out)
        have e1 : Hid (closeM (putM s i) = E) := Lib.hid (by rw [← HFF2.out, if_pos ce])
        have C6 := Lib.hid (c6.trans (Chg.keeps O6 kk))
        clear h6 c6 kk ce HFF2
        go_wp2_with fail
        refine CL.out.mono ?_
        rintro e w8 ⟨rfl, q8⟩
        have R := Lib.hid (NPost.trans C6.out q8).post
        rw [e1.out] at R
        clear q8 CL
        go_wp2_with fail
        go_end0
        exact ⟨rfl, R.out⟩
      | false =>
        have e1 : Hid (putM s i = E) := Lib.hid (by rw [← HFF2.out, if_neg (by rw [ce]; simp)])
        have R : Hid (Post W B O E w7) := Lib.hid (by rw [← e1.out]; exact ⟨O6, ⟨_, _, _, _, _, _, h6.keep kk⟩, c6.trans (Chg.keeps O6 kk)⟩)
        clear h6 c6 kk ce HFF2
        go_wp2_with fail
        go_end0
        exact ⟨rfl, R.out⟩
  have t8 := beqF (show ¬ ((s.nd i).kind : Int) = 8 by omega)
  by_cases c : s.line.next = []
  · rw [decide_eq_true c] at BL
    have e1 : Hid (s = E) := Lib.hid (by rw [HFF.out, if_neg q7, if_neg q8, if_pos c])
    have R : Hid (Post W B O E W) := Lib.hid (by rw [← e1.out]; exact ⟨O, ⟨_, _, _, _, _, _, h⟩, Chg.refl _ _⟩)
    generalize (s.nd i).kind = q at *
    clear h hw c q7 q8 HFF H8 hc1 hc2
    go_enter Tryz.func45, Tryz.ntmps45
    go_wp2_with fail
    refine BL.out.mono ?_
    rintro e w1 ⟨rfl, rfl⟩
    go_wp2_with fail
    go_end0
    exact ⟨rfl, R.out⟩
  · rw [decide_eq_false c] at BL
    have AD := Lib.hid (add_any h hw (blkN 5) rfl (.inl (by decide)) (by omega) (by omega))
    have e1 : Hid (putM (addM s (blkN 5)) (addM s (blkN 5)).tip = E) := Lib.hid (by rw [HFF.out, if_neg q7, if_neg q8, if_neg c])
    have pa : Hid (phi (addM s (blkN 5)) ≤ 100000) := Lib.hid (by
      have q := (Cap.add (s := s) (a := 90000) (b := 80000) ⟨hlen, hp⟩ hw (blkN 5) (.inl (by decide))).txt
      have e : (blkN 5).text.length = 0 := rfl
      omega)
    have la := Lib.hid (add_len s (blkN 5))
    have ta := Lib.hid (add_wf hw (blkN 5) (.inl (by decide)) (Nat.zero_le _)).tip
    unfold blkC at AD
    generalize addM s (blkN 5) = s1 at *
    generalize (s.nd i).kind = q at *
    dsimp only [blkN] at AD
    clear h hw c q7 q8 HFF H8 hc1 hc2
    go_enter Tryz.func45, Tryz.ntmps45
    go_wp2_with fail
    refine BL.out.mono ?_
    rintro e w1 ⟨rfl, rfl⟩
    go_wp2_with fail
    refine AD.out.mono ?_
    rintro e w2 ⟨rfl, O2, p2, c2⟩
    obtain ⟨g2, cap2, rv2, tv2, xs2, sb2, k2, m2⟩ := p2.form la.out
    have PU := Lib.hid (putB_any m2 ta.out pa.out)
    have C2 := Lib.hid c2
    clear p2 c2 m2 AD
    go_wp2_with fail
    refine PU.out.mono ?_
    rintro e w3 ⟨rfl, q3⟩
    have R := Lib.hid (NPost.trans C2.out q3).post
    rw [e1.out] at R
    clear q3 PU
    go_wp2_with fail
    go_end0
    exact ⟨rfl, R.out⟩
end
end Go.Proofs.YtfgpephpkibbaaaGreatDoor


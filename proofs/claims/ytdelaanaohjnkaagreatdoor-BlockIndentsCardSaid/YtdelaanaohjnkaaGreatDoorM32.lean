/-
  Texts of the proof, one behind the other: BkA, BkC, Bkt, BkD, Bku, BkE.
-/
import Derived.Test.YtdelaanaohjnkaaGreatDoorM31
/-
  Contracts of block's closeWithin and put.
-/
namespace Go.Proofs.YtdelaanaohjnkaaGreatDoor
open Go.RowKit Go.Lib

/-- The tip, as it stands in memory. -/
def tipOf (W : World) (B : Nat) : Nat := match W.cell? ⟨B, 1, none⟩ with
  | some v => (RowKit.intOf v).toNat
  | none => 0
theorem put_put (s : St) (i : Nat) (a b : Nd) : (s.put i a).put i b = s.put i b := by
  unfold St.put
  simp
section
variable {W : World} {B : Nat} {O : Nat → Option Nat} {s : St} {lv rv : Value} {tv : Nat → Value} {xs : List Value} {sb : ByteArray} {k g n cap : Nat}
theorem Mem.tipOf (h : Mem W B O s lv rv tv xs sb k) : tipOf W B = s.tip := by
  unfold Go.Proofs.YtdelaanaohjnkaaGreatDoor.tipOf
  have y1 := h.box.cell 1 (v := .int .i64 s.tip) rfl
  rw [y1]
  simp [RowKit.intOf]
theorem Mem.wlen (h : Mem W B O s (.slice (some ⟨g, 0, none⟩) n cap) rv tv xs sb k) {s' : St} {O' : Nat → Option Nat} {W' : World} {rv' : Value} {tv' : Nat → Value} {xs' : List Value} {sb' : ByteArray} {k' : Nat} (h' : Mem W' B O' s' (.slice (some ⟨g, 0, none⟩) n cap) rv' tv' xs' sb' k') : s'.list.length = s.list.length :=
  h'.num.1.symm.trans h.num.1
set_option maxRecDepth 100000 in
set_option maxHeartbeats 2000000 in
theorem closeWithin_any (h : Mem W B O s (.slice (some ⟨g, 0, none⟩) n cap) rv tv xs sb k) (hw : Wf s.list s.tip) {i : Nat} (ho : On s.list s.tip i) (hp : phi s ≤ 100000) :
    Calls Tryz.prog 27 #[.pointer (some ⟨B, 0, none⟩), .int .i64 i] W fun e w' => e = .returned (.tuple #[]) ∧ NPost W B O (cwM s i) (.slice (some ⟨g, 0, none⟩) n cap) w' := by
  have HM := Lib.hid (show ∃ O1 rv1 tv1 xs1 sb1 k1, Mem W B O1 s (.slice (some ⟨g, 0, none⟩) n cap) rv1 tv1 xs1 sb1 k1 ∧ Chg W O W O1 from ⟨O, rv, tv, xs, sb, k, h, Chg.refl _ _⟩)
  have HW := Lib.hid hw
  have HO := Lib.hid ho
  have HP := Lib.hid hp
  clear h hw ho hp
  go_enter Tryz.func27, Tryz.ntmps27
  go_wp2_with fail
  go_loopw [] (fun wr => ∃ s1 : St, Hid (∃ O1 rv1 tv1 xs1 sb1 k1, Mem wr B O1 s1 (.slice (some ⟨g, 0, none⟩) n cap) rv1 tv1 xs1 sb1 k1 ∧ Chg W O wr O1) ∧ Hid (Wf s1.list s1.tip) ∧ Hid (On s1.list s1.tip i) ∧ Hid (phi s1 ≤ 100000) ∧ Hid (cwM s1 i = cwM s i)) (fun wr => tipOf wr B)
  case atStart => exact ⟨s, HM, HW, HO, HP, Lib.hid rfl⟩
  case round =>
    obtain ⟨s1, HM1, HW1, HO1, HP1, HE⟩ := hrel
    obtain ⟨O1, rv1, tv1, xs1, sb1, k1, h1, c1⟩ := HM1.out
    have y1 := h1.box.cell 1 (v := .int .i64 s1.tip) rfl
    have C1 := Lib.hid c1
    by_cases e : s1.tip = i
    · have t1 : ((s1.tip : Int) != (i : Int)) = false := by rw [e, bne, beq_self_eq_true]; rfl
      have R := Lib.hid (show NPost W B O (cwM s i) (.slice (some ⟨g, 0, none⟩) n cap) wr from ⟨O1, _, _, _, _, _, by rw [← HE.out, cw_stop e]; exact h1, c1⟩)
      clear e h1 c1
      go_wp2_with fail
      go_end0
      exact ⟨rfl, R.out⟩
    · have t1 : ((s1.tip : Int) != (i : Int)) = true := by rw [bne, beq_eq_false_iff_ne.2 (by omega)]; rfl
      have h0 : s1.tip ≠ 0 := fun e0 => by have := HO1.out.le HW1.out; omega
      have CL := Lib.hid (close_any h1 HW1.out h0 HP1.out)
      have hu := HW1.out.up s1.tip (by omega) HW1.out.tip
      have W2 := Lib.hid (HW1.out.close h0)
      have O2 := Lib.hid (HO1.out.closed e)
      have P2 := Lib.hid ((Cap.close (s := s1) ⟨Nat.le_refl _, HP1.out⟩).txt)
      have E2 : Hid (cwM (closeM s1) i = cwM s i) := Lib.hid (by rw [← HE.out, cw_step HW1.out HO1.out e])
      have HTO := Lib.hid h1.tipOf
      have hlt : (closeM s1).tip < s1.tip := by rw [close_tip]; unfold St.nd; omega
      clear h1 c1 hu e
      go_wp2_with fail
      refine CL.out.mono ?_
      rintro e w1 ⟨rfl, O3, rv3, tv3, xs3, sb3, k3, h3, c3⟩
      have T3 := Lib.hid h3.tipOf
      have HM3 := Lib.hid (show ∃ O1 rv1 tv1 xs1 sb1 k1, Mem w1 B O1 (closeM s1) (.slice (some ⟨g, 0, none⟩) n cap) rv1 tv1 xs1 sb1 k1 ∧ Chg W O w1 O1 from ⟨O3, rv3, tv3, xs3, sb3, k3, h3, C1.out.trans c3⟩)
      clear h3 c3 y1
      go_wp2_with fail
      go_roundw
      case rel => exact ⟨closeM s1, HM3, W2, O2, P2, E2⟩
      case measure => rw [T3.out, HTO.out]; exact hlt

set_option maxRecDepth 100000 in
set_option maxHeartbeats 2000000 in
theorem put_any (h : Mem W B O s (.slice (some ⟨g, 0, none⟩) n cap) rv tv xs sb k) {i : Nat} (hi : i < s.list.length) (hp : phi s ≤ 100000) :
    Calls Tryz.prog 49 #[.pointer (some ⟨B, 0, none⟩), .int .i64 i] W fun e w' => e = .returned (.string ⟨(lrestM s.line).toArray⟩) ∧ NPost W B O (putM s i) (.slice (some ⟨g, 0, none⟩) n cap) w' := by
  obtain ⟨rfl, hc1, hc2⟩ := h.num
  obtain ⟨i0, hi0, hz0, hz1, hz2⟩ := info_parts infoU8
  have htl : (s.nd i).text.length ≤ 100000 := Cap.text ⟨Nat.le_refl _, hp⟩ i
  have hrl := h.lw.restLen
  have hsz := h.siz
  have LR := Lib.hid (lrest_any h)
  have HM := Lib.hid h
  have HP : Hid (putM s i = s.put i { s.nd i with text := (s.nd i).text ++ lrestM s.line ++ [10] }) := Lib.hid rfl
  generalize lrestM s.line = R at *
  have hi2 : (i : Int) < (s.list.length : Int) := by omega
  clear h hp
  go_enter Tryz.func49, Tryz.ntmps49
  go_wp2_with fail
  refine LR.out.mono ?_
  rintro e w1 ⟨rfl, k1⟩
  have m1 := HM.out.keep k1
  have C1 := Lib.hid (Chg.keeps O k1)
  have y0 := m1.box.cell 0 (v := .slice (some ⟨g, 0, none⟩) s.list.length cap) rfl
  have z14 : w1.cell? ⟨g, i * 20 + 14, none⟩ = some (tv i) := m1.at hi 14 (by decide)
  obtain ⟨ao, ca, e14, _, _⟩ := (m1.txt i hi).form
  obtain ⟨v2, w2, r2, x2, g2, l2⟩ := (m1.txt i hi).append (P := Tryz.prog) 62 9 62 5 i0 Tryz.underlying62 hi0 hz0 hz1 hz2 (.string ⟨R.toArray⟩) R (by
    have q := Src.ofString w1 (P := Tryz.prog) Tryz.underlying9 ⟨R.toArray⟩
    unfold byteCells at q
    rw [show (⟨R.toArray⟩ : ByteArray).data.toList = R by simp, show (⟨R.toArray⟩ : ByteArray).size = R.length by simp [ByteArray.size]] at q
    exact q) (by omega)
  obtain ⟨ao2, ca2, e2, _, _⟩ := x2.form
  rw [List.length_append] at e2
  have hgne : some g ≠ (tv i).ownBlock := fun e => by
    have a := m1.oT i hi g e.symm
    have b := m1.oL g rfl
    rw [a] at b; cases b
  have hg2 : w2.heap[g]? = w1.heap[g]? := g2.block g (m1.lt g (by rw [m1.oL g rfl]; simp)) hgne
  have z14b : w2.cell? ⟨g, i * 20 + 14, none⟩ = some (tv i) := (World.cell?_of_block (a := ⟨g, i * 20 + 14, none⟩) hg2).trans z14
  have f14b : w2.frozen? ⟨g, i * 20 + 14, none⟩ = false := (World.frozen?_of_block (a := ⟨g, i * 20 + 14, none⟩) hg2).trans (m1.free _)
  obtain ⟨O3, m3, q3⟩ := m1.text hi v2 { s.nd i with text := (s.nd i).text ++ R } 14 (by decide) v2 (nd_text _ _ _ _) g2 x2 l2
  have M3 := Lib.hid m3
  have C3 := Lib.hid (C1.out.trans q3)
  subst e2
  -- the LF
  have hnew : Src Tryz.prog 1 62 (.slice (some ⟨w2.heap.size, 0, none⟩) 1 1) ([10] : List UInt8).length (u8L [10]) ((w2.setCell ⟨g, i * 20 + 14, none⟩ (.slice ao2 ((s.nd i).text.length + R.length) ca2)).alloc (.cells #[.int .u8 10] 5)) :=
    Src.ofSlice _ Tryz.underlying62 ⟨w2.heap.size, 0, none⟩ 1 1 _ rfl (by
      have q := cell_one_new (w2.setCell ⟨g, i * 20 + 14, none⟩ (.slice ao2 ((s.nd i).text.length + R.length) ca2)) (.int .u8 10) 5
      rw [setCell_size] at q
      exact q) (fun u hu => by
        simp [u8L] at hu
        rw [hu]; rfl)
  have m4 := m3.keep ((Keeps.refl _).alloc (.cells #[.int .u8 10] 5))
  have hi3 : i < (s.put i { s.nd i with text := (s.nd i).text ++ R }).list.length := by unfold St.put; simpa using hi
  have hx4 := m4.txt i hi3
  rw [upd_at, put_nd hi] at hx4
  obtain ⟨v5, w5, r5, x5, g5, l5⟩ := hx4.append (P := Tryz.prog) 62 62 62 5 i0 Tryz.underlying62 hi0 hz0 hz1 hz2 _ [10] hnew (by rw [List.length_append, List.length_singleton]; omega)
  obtain ⟨ao5, ca5, e5, _, _⟩ := x5.form
  rw [List.length_append, List.length_append, List.length_singleton] at e5
  have hgne5 : some g ≠ (Value.slice ao2 ((s.nd i).text.length + R.length) ca2).ownBlock := fun e => by
    have a := m4.oT i hi3 g (by rw [upd_at]; exact e.symm)
    have b := m4.oL g rfl
    rw [a] at b; cases b
  have hg5 := g5.block g (m4.lt g (by rw [m4.oL g rfl]; simp)) hgne5
  have z14c : w5.cell? ⟨g, i * 20 + 14, none⟩ = _ := (World.cell?_of_block (a := ⟨g, i * 20 + 14, none⟩) hg5).trans (m4.at hi3 14 (by decide))
  have f14c : w5.frozen? ⟨g, i * 20 + 14, none⟩ = false := (World.frozen?_of_block (a := ⟨g, i * 20 + 14, none⟩) hg5).trans (m4.free _)
  rw [upd_at] at z14c
  have z14d : w5.cell? ⟨g, i * 20 + 14, none⟩ = some (.slice ao2 ((s.nd i).text.length + R.length) ca2) := z14c
  obtain ⟨O6, m6, q6⟩ := m4.text hi3 v5 { (s.put i { s.nd i with text := (s.nd i).text ++ R }).nd i with text := (s.nd i).text ++ R ++ [10] } 14 (by decide) v5 (nd_text _ _ _ _) (by rw [upd_at]; exact g5) x5 (by rw [upd_at]; exact l5)
  subst e5
  have R6 := Lib.hid (show NPost W B O (putM s i) (.slice (some ⟨g, 0, none⟩) s.list.length cap) _ from ⟨O6, _, _, _, _, _, by
    rw [HP.out]
    rw [put_nd hi, put_put] at m6
    exact m6, C3.out.trans ((Chg.keeps O3 ((Keeps.refl _).alloc (.cells #[.int .u8 10] 5))).trans q6)⟩)
  rw [e14] at z14 z14b r2
  clear k1 m1 x2 g2 l2 m3 q3 hg2 hgne HM LR C1 M3 C3 m4 hx4 x5 g5 l5 hg5 hgne5 z14c m6 q6 hnew
  go_wp2_with (at_builtin; first | (refine wpl_append rfl (.tmp 21) (.tmp 22) _ _ rfl _ _ rfl rfl _ _ r2 ?_) | (refine wpl_append rfl (.tmp 30) (.tmp 31) _ _ rfl _ _ rfl rfl _ _ r5 ?_))
  go_ret
  exact ⟨rfl, R6.out⟩
end
end Go.Proofs.YtdelaanaohjnkaaGreatDoor

/-
  A block as it is handed in by value; contract of block's newParser.
-/
namespace Go.Proofs.YtdelaanaohjnkaaGreatDoor
open Go.RowKit Go.Lib

/-- A block by value, as it is handed in. -/
def blkC (b : Nd) : Array Value := #[.int .i64 b.kind, .int .i64 b.level, .bool b.ord, .int .i64 b.start, .int .u8 b.mark, .bool b.tight, .string ⟨b.info.toArray⟩, .string ⟨#[]⟩, .slice none 0 0, .slice none 0 0]
/-- Nothing of it is set but what a block by value has. -/
def PlainB (b : Nd) : Prop := b = { blkN b.kind with level := b.level, ord := b.ord, start := b.start, mark := b.mark, tight := b.tight, info := b.info }
theorem infoNd : (Tryz.prog.info? 64).map (fun i => (i.zero, i.size, i.bytes)) = some (some (.agg #[.int .i64 0, .int .i64 0, .bool false, .int .i64 0, .int .u8 0, .bool false, .string ⟨#[]⟩, .string ⟨#[]⟩, .slice none 0 0, .slice none 0 0, .int .i64 0, .int .i64 0, .int .i64 0, .int .i64 0, .slice none 0 0, .int .i64 0, .int .u8 0, .int .i64 0, .int .i64 0, .bool false]), 20, 216) := by kernel_rfl
theorem wf0 : Wf [blkN 1] 0 := by
  have e : ∀ i, gN [blkN 1] i = blkN 1 := fun i => by
    cases i with
    | zero => rfl
    | succ i => exact gN_out (by simp)
  refine ⟨by simp, rfl, rfl, fun i h0 hl => by simp at hl; omega, fun i _ => by rw [e]; exact .inl rfl, fun i _ => by rw [e]; exact .inl rfl, fun i _ => by rw [e]; exact Nat.zero_le _, fun i => by rw [e]; exact Nat.zero_le _, fun x hx h0 => ?_⟩
  cases hx with
  | refl => exact absurd rfl h0
  | step h _ => omega
theorem newMem {w w2 : World} {g cap : Nat} (hb : Blk w2 w.heap.size 56 #[.slice none 0 0, .int .i64 0, .slice none 0 0, .string ⟨#[]⟩, .int .i64 0, .int .i64 0, .int .i64 0, .int .i64 0, .string ⟨#[]⟩, .int .i64 0, .bool false])
    (ho : w2.ownsRow w.heap.size 64 20 (.slice (some ⟨g, 0, none⟩) 1 cap) (0 + 1) ([] ++ ndC (blkN 1) (.slice none 0 0))) (hg : w.heap.size < g) (k : Keeps w w2) (hO : Lis w) (hM : Mxl w) :
    Mem (w2.setCell ⟨w.heap.size, 0, none⟩ (.slice (some ⟨g, 0, none⟩) 1 cap)) w.heap.size (fun b => if b = w.heap.size then some 0 else if b = g then some 1 else none) st0 (.slice (some ⟨g, 0, none⟩) 1 cap) (.slice none 0 0) (fun _ => .slice none 0 0) (ndC (blkN 1) (.slice none 0 0)) ⟨#[]⟩ 0 ∧ ∀ b, (fun b => if b = w.heap.size then some 0 else if b = g then some 1 else none) b ≠ (none : Option Nat) → w.heap.size ≤ b := by
  have hl := (ho.lt g rfl).2
  have ge : ∀ b, (fun b => if b = w.heap.size then some 0 else if b = g then some 1 else none) b ≠ (none : Option Nat) → w.heap.size ≤ b := fun b hb' => by
    dsimp only at hb'
    split at hb'
    · omega
    · split at hb'
      · omega
      · exact absurd rfl hb'
  refine ⟨{
    box := hb.set 0 _ rfl
    row := row_same (World.ownsRow.mono ho (Nat.zero_le _)) fun g' e => by cases e; exact heap_setCell_other w2 ⟨w.heap.size, 0, none⟩ g _ (by show g ≠ w.heap.size; omega)
    cell := fun i hi j hj => by
      have : i = 0 := by simp [st0] at hi; exact hi
      subst this
      rw [Nat.zero_mul, Nat.zero_add]; rfl
    refs := World.ownsRow_nil _ _ _ _
    txt := fun i hi => by
      have : i = 0 := by simp [st0] at hi; exact hi
      subst this
      exact Tx.nil _
    oB := by rw [if_pos rfl]
    oL := fun g' e => by cases e; rw [if_neg (show ¬ (g = w.heap.size) by omega), if_pos rfl]
    oR := fun g' e => by cases e
    oT := fun i _ g' e => by cases e
    lt := fun b hb' => by
      rw [setCell_size]
      have := hb.lt
      split at hb'
      · omega
      · split at hb'
        · omega
        · exact absurd rfl hb'
    pos := rfl
    ple := Nat.zero_le _
    siz := Nat.zero_le _
    lw := ⟨okP_nil _, by show 0 + 4 * 0 ≤ 4 * 0 + _; omega, Nat.le_refl _, rfl, rfl⟩
    env := ⟨w, hO, hM, Keeps.set k (Nat.le_refl _) 0 _, ge⟩ }, ge⟩
theorem ndC_one (n : Nd) : ∀ u ∈ ndC n (.slice none 0 0), u.oneCell' = true := by
  have h : (ndC n (.slice none 0 0)).all (fun u => u.oneCell') = true := rfl
  exact List.all_eq_true.1 h
set_option maxRecDepth 100000 in
set_option maxHeartbeats 2000000 in
theorem newParser_any (w : World) (hO : Lis w) (hM : Mxl w) :
    Calls Tryz.prog 24 #[] w fun e w' => e = .returned (.pointer (some ⟨w.heap.size, 0, none⟩)) ∧ Keeps w w' ∧ ∃ O g rv tv xs sb k cap, Mem w' w.heap.size O st0 (.slice (some ⟨g, 0, none⟩) 1 cap) rv tv xs sb k ∧ ∀ b, O b ≠ none → w.heap.size ≤ b := by
  obtain ⟨i0, hi, hz0, hz1, hz2⟩ := info_parts infoNd
  have HB := Lib.hid (Blk.new w 56 #[.slice none 0 0, .int .i64 0, .slice none 0 0, .string ⟨#[]⟩, .int .i64 0, .int .i64 0, .int .i64 0, .int .i64 0, .string ⟨#[]⟩, .int .i64 0, .bool false])
  have HK := Lib.hid ((Keeps.refl w).alloc (.cells #[.slice none 0 0, .int .i64 0, .slice none 0 0, .string ⟨#[]⟩, .int .i64 0, .int .i64 0, .int .i64 0, .int .i64 0, .string ⟨#[]⟩, .int .i64 0, .bool false] 56))
  have hsz : (w.alloc (.cells #[.slice none 0 0, .int .i64 0, .slice none 0 0, .string ⟨#[]⟩, .int .i64 0, .int .i64 0, .int .i64 0, .int .i64 0, .string ⟨#[]⟩, .int .i64 0, .bool false] 56)).heap.size = w.heap.size + 1 := by simp
  have hnew : ∀ j u, (ndC (blkN 1) (.slice none 0 0))[j]? = some u → ((w.alloc (.cells #[.slice none 0 0, .int .i64 0, .slice none 0 0, .string ⟨#[]⟩, .int .i64 0, .int .i64 0, .int .i64 0, .int .i64 0, .string ⟨#[]⟩, .int .i64 0, .bool false] 56)).alloc (.cells #[.int .i64 1, .int .i64 0, .bool false, .int .i64 0, .int .u8 0, .bool false, .string ⟨#[]⟩, .string ⟨#[]⟩, .slice none 0 0, .slice none 0 0, .int .i64 (-1), .int .i64 (-1), .int .i64 (-1), .int .i64 0, .slice none 0 0, .int .i64 0, .int .u8 0, .int .i64 0, .int .i64 0, .bool false] 64)).cell? ((⟨w.heap.size + 1, 0, none⟩ : Addr).add j) = some u := fun j u hu => by
    rw [Addr.add_lit, Nat.zero_add]
    have q := World.cell?_alloc_new (w := w.alloc (.cells #[.slice none 0 0, .int .i64 0, .slice none 0 0, .string ⟨#[]⟩, .int .i64 0, .int .i64 0, .int .i64 0, .int .i64 0, .string ⟨#[]⟩, .int .i64 0, .bool false] 56)) #[.int .i64 1, .int .i64 0, .bool false, .int .i64 0, .int .u8 0, .bool false, .string ⟨#[]⟩, .string ⟨#[]⟩, .slice none 0 0, .slice none 0 0, .int .i64 (-1), .int .i64 (-1), .int .i64 (-1), .int .i64 0, .slice none 0 0, .int .i64 0, .int .u8 0, .int .i64 0, .int .i64 0, .bool false] 64 j
    rw [hsz] at q
    rw [q, ← hu]
    simp only [List.getElem?_toArray]
    rfl
  obtain ⟨v', w2, r2, o2, g2, n2, l2⟩ := run_append_own_at (P := Tryz.prog) ((w.alloc (.cells #[.slice none 0 0, .int .i64 0, .slice none 0 0, .string ⟨#[]⟩, .int .i64 0, .int .i64 0, .int .i64 0, .int .i64 0, .string ⟨#[]⟩, .int .i64 0, .bool false] 56)).alloc (.cells #[.int .i64 1, .int .i64 0, .bool false, .int .i64 0, .int .u8 0, .bool false, .string ⟨#[]⟩, .string ⟨#[]⟩, .slice none 0 0, .slice none 0 0, .int .i64 (-1), .int .i64 (-1), .int .i64 (-1), .int .i64 0, .slice none 0 0, .int .i64 0, .int .u8 0, .int .i64 0, .int .i64 0, .bool false] 64)) w.heap.size 50 50 64 i0 _ 20 216 Tryz.underlying50 hi hz0 hz1 hz2 rfl (by decide) (.slice none 0 0) 0 [] (World.ownsRow_nil _ _ _ _) ⟨w.heap.size + 1, 0, none⟩ 1 1 (ndC (blkN 1) (.slice none 0 0)) rfl hnew (ndC_one _) (by simp only [maxLen]; omega) (by omega) (by simp only [World.size_alloc]; omega)
  have ks : Keeps w ((w.alloc (.cells #[.slice none 0 0, .int .i64 0, .slice none 0 0, .string ⟨#[]⟩, .int .i64 0, .int .i64 0, .int .i64 0, .int .i64 0, .string ⟨#[]⟩, .int .i64 0, .bool false] 56)).alloc (.cells #[.int .i64 1, .int .i64 0, .bool false, .int .i64 0, .int .u8 0, .bool false, .string ⟨#[]⟩, .string ⟨#[]⟩, .slice none 0 0, .slice none 0 0, .int .i64 (-1), .int .i64 (-1), .int .i64 (-1), .int .i64 0, .slice none 0 0, .int .i64 0, .int .u8 0, .int .i64 0, .int .i64 0, .bool false] 64)) := ((Keeps.refl w).alloc _).alloc _
  have k2 : Keeps w w2 := Below.grown ks g2 ks.size (fun i hi => by cases hi)
  have hb1 := (HB.out.alloc (.cells #[.int .i64 1, .int .i64 0, .bool false, .int .i64 0, .int .u8 0, .bool false, .string ⟨#[]⟩, .string ⟨#[]⟩, .slice none 0 0, .slice none 0 0, .int .i64 (-1), .int .i64 (-1), .int .i64 (-1), .int .i64 0, .slice none 0 0, .int .i64 0, .int .u8 0, .int .i64 0, .int .i64 0, .bool false] 64))
  have hb2 : Blk w2 w.heap.size 56 #[.slice none 0 0, .int .i64 0, .slice none 0 0, .string ⟨#[]⟩, .int .i64 0, .int .i64 0, .int .i64 0, .int .i64 0, .string ⟨#[]⟩, .int .i64 0, .bool false] := by
    unfold Blk
    rw [g2.block _ hb1.lt (by simp [Value.ownBlock])]
    exact hb1
  have y0 := hb2.cell 0 (v := .slice none 0 0) rfl
  have f0 := hb2.free 0
  have own : ∀ g', v'.ownBlock = some g' → w.heap.size < g' := fun g' e => by
    rcases l2 with q | q
    · rw [q] at e; cases e
    · rw [q] at e
      have : ((w.alloc (.cells #[.slice none 0 0, .int .i64 0, .slice none 0 0, .string ⟨#[]⟩, .int .i64 0, .int .i64 0, .int .i64 0, .int .i64 0, .string ⟨#[]⟩, .int .i64 0, .bool false] 56)).alloc (.cells #[.int .i64 1, .int .i64 0, .bool false, .int .i64 0, .int .u8 0, .bool false, .string ⟨#[]⟩, .string ⟨#[]⟩, .slice none 0 0, .slice none 0 0, .int .i64 (-1), .int .i64 (-1), .int .i64 (-1), .int .i64 0, .slice none 0 0, .int .i64 0, .int .u8 0, .int .i64 0, .int .i64 0, .bool false] 64)).heap.size = w.heap.size + 1 + 1 := by simp
      cases e; omega
  have hne : v' ≠ .slice none 0 0 := fun e => by have := (n2.1 e).2; omega
  obtain ⟨g, cap, ev⟩ : ∃ g cap, v' = .slice (some ⟨g, 0, none⟩) 1 cap := by
    rcases o2.2 with ⟨_, e⟩ | ⟨g, cap, _, e, _⟩
    · omega
    · exact ⟨g, cap, e⟩
  subst ev
  have hgw : w.heap.size < g := own g rfl
  have nm := newMem hb2 o2 hgw k2 hO hM
  have M : Hid (∃ O g' rv tv xs sb k cap', Mem (w2.setCell ⟨w.heap.size, 0, none⟩ (.slice (some ⟨g, 0, none⟩) 1 cap)) w.heap.size O st0 (.slice (some ⟨g', 0, none⟩) 1 cap') rv tv xs sb k ∧ ∀ b, O b ≠ none → w.heap.size ≤ b) := Lib.hid ⟨_, g, _, _, _, _, _, cap, nm.1, nm.2⟩
  have K2 := Lib.hid (Keeps.set k2 (Nat.le_refl _) 0 (.slice (some ⟨g, 0, none⟩) 1 cap))
  clear nm HB HK hsz hnew o2 g2 n2 l2 ks k2 hb1 hb2 own hne hO hM hi hz0 hz1 hz2
  go_enter Tryz.func24, Tryz.ntmps24
  go_wp2_with (at_builtin; refine wpl_append rfl (.tmp 8) (.tmp 11) _ _ rfl _ _ rfl rfl _ _ r2 ?_)
  go_ret
  exact ⟨rfl, K2.out, M.out⟩
end Go.Proofs.YtdelaanaohjnkaaGreatDoor

/-
  Contracts of block's itemGoesOn, codeGoesOn, goesOn.
-/
namespace Go.Proofs.YtdelaanaohjnkaaGreatDoor
open Go.RowKit Go.Lib

section
variable {W : World} {B : Nat} {O : Nat → Option Nat} {s : St} {rv : Value} {tv : Nat → Value} {xs : List Value} {sb : ByteArray} {k g n cap : Nat}
theorem NPost.from {W0 W W' : World} {B : Nat} {O : Nat → Option Nat} {s' : St} {lv : Value} (k : Keeps W0 W) (h : NPost W B O s' lv W') : NPost W0 B O s' lv W' := NPost.trans (Chg.keeps O k) h
set_option maxRecDepth 100000 in
set_option maxHeartbeats 1000000 in
theorem itemGoesOn_any (h : Mem W B O s (.slice (some ⟨g, 0, none⟩) n cap) rv tv xs sb k) {i : Nat} (hi : i < s.list.length) (hind : (s.nd i).indent ≤ 1000000) :
    Calls Tryz.prog 60 #[.pointer (some ⟨B, 0, none⟩), .pointer (some ⟨g, i * 20, none⟩)] W fun e w' => e = .returned (.bool (itemOnM s i).2) ∧ NPost W B O (s.atL (itemOnM s i).1) (.slice (some ⟨g, 0, none⟩) n cap) w' := by
  have y7 := h.box.cell 7 (v := .int .i64 s.line.ind) rfl
  have z15 : W.cell? ⟨g, i * 20 + 15, none⟩ = some (.int .i64 ((s.nd i).indent : Nat)) := h.at hi 15 (by decide)
  have hib := h.lw.bound.2
  have hsz := h.siz
  have BL := Lib.hid (lblank_any h)
  have SK := Lib.hid (fun W' (q : Keeps W W') => lskip_any (h.keep q) s.line.ind (by omega))
  have PI := Lib.hid (fun W' (q : Keeps W W') => lpastIndent_any (h.keep q) (s.nd i).indent hind)
  have Z11 : Hid (∀ (w' : World) (O1 : Nat → Option Nat) L rv1 tv1 xs1 sb1 k1, Mem w' B O1 (s.atL L) (.slice (some ⟨g, 0, none⟩) n cap) rv1 tv1 xs1 sb1 k1 → w'.cell? ⟨g, i * 20 + 11, none⟩ = some (.int .i64 (s.nd i).last)) := Lib.hid fun w' O1 L rv1 tv1 xs1 sb1 k1 h1 => h1.at (i := i) hi 11 (by decide)
  unfold itemOnM
  generalize (s.nd i).indent = ni at *
  generalize (s.nd i).last = nl at *
  generalize hj : s.line.ind = j at *
  clear h hj
  by_cases c : s.line.next = []
  · rw [if_pos c]
    rw [decide_eq_true c] at BL
    clear c PI
    by_cases cl : nl = -1
    · subst cl
      go_enter Tryz.func60, Tryz.ntmps60
      go_wp2_with fail
      refine BL.out.mono ?_
      rintro e w1 ⟨rfl, rfl⟩
      go_wp2_with fail
      go_still_tail 8, (by kernel_rfl)
      change wpList _ _ _ _ _ W.drew
      have K1 := Lib.hid ((Keeps.refl W).drew)
      generalize W.drew = W1 at *
      go_wp2_with fail
      refine (SK.out _ K1.out).mono ?_
      rintro e w2 ⟨rfl, q2⟩
      have R := Lib.hid (NPost.from K1.out q2)
      obtain ⟨O1, rv1, tv1, xs1, sb1, k1, h1, c1⟩ := q2
      have z11 := Z11.out _ _ _ _ _ _ _ _ h1
      clear h1 c1 SK K1 BL
      go_wp2_with fail
      go_ret
      exact ⟨rfl, R.out⟩
    · rw [decide_eq_false cl]
      have t1 := beqF (show ¬ nl = (-1 : Int) from cl)
      clear cl
      go_enter Tryz.func60, Tryz.ntmps60
      go_wp2_with fail
      refine BL.out.mono ?_
      rintro e w1 ⟨rfl, rfl⟩
      go_wp2_with fail
      go_still_tail 8, (by kernel_rfl)
      change wpList _ _ _ _ _ W.drew
      have K1 := Lib.hid ((Keeps.refl W).drew)
      generalize W.drew = W1 at *
      go_wp2_with fail
      refine (SK.out _ K1.out).mono ?_
      rintro e w2 ⟨rfl, q2⟩
      have R := Lib.hid (NPost.from K1.out q2)
      obtain ⟨O1, rv1, tv1, xs1, sb1, k1, h1, c1⟩ := q2
      have z11 := Z11.out _ _ _ _ _ _ _ _ h1
      clear h1 c1 SK K1 BL
      go_wp2_with fail
      go_ret
      exact ⟨ret_bool (show (nl != -1) = true by rw [bne, t1]; rfl), R.out⟩
  · rw [if_neg c]
    rw [decide_eq_false c] at BL
    clear c SK Z11
    go_enter Tryz.func60, Tryz.ntmps60
    go_wp2_with fail
    refine BL.out.mono ?_
    rintro e w1 ⟨rfl, rfl⟩
    go_wp2_with fail
    go_still_tail 7, (by kernel_rfl)
    change wpList _ _ _ _ _ W.drew
    have K1 := Lib.hid ((Keeps.refl W).drew)
    generalize W.drew = W1 at *
    go_wp2_with fail
    refine (PI.out _ K1.out).mono ?_
    rintro e w2 ⟨rfl, q2⟩
    have R := Lib.hid (NPost.from K1.out q2)
    clear q2 PI K1 BL
    go_wp2_with fail
    go_ret
    exact ⟨rfl, R.out⟩

set_option maxRecDepth 100000 in
set_option maxHeartbeats 1000000 in
theorem codeGoesOn_any (h : Mem W B O s (.slice (some ⟨g, 0, none⟩) n cap) rv tv xs sb k) {i : Nat} (hi : i < s.list.length) (hind : (s.nd i).indent ≤ 1000000) :
    Calls Tryz.prog 61 #[.pointer (some ⟨B, 0, none⟩), .pointer (some ⟨g, i * 20, none⟩)] W fun e w' => e = .returned (.bool (codeOnM s i).2) ∧ NPost W B O (s.atL (codeOnM s i).1) (.slice (some ⟨g, 0, none⟩) n cap) w' := by
  have z15 : W.cell? ⟨g, i * 20 + 15, none⟩ = some (.int .i64 ((s.nd i).indent : Nat)) := h.at hi 15 (by decide)
  have FN := Lib.hid (fenced_any W g (i * 20) (s.nd i).fence (h.at hi 16 (by decide)))
  have BL := Lib.hid (lblank_any h)
  have SI := Lib.hid (fun W' (q : Keeps W W') => lskip_any (h.keep q) (s.nd i).indent hind)
  have S4 := Lib.hid (lskip_any h 4 (by omega))
  have P4 := Lib.hid (lpastIndent_any h 4 (by omega))
  unfold codeOnM
  generalize (s.nd i).indent = ni at *
  clear h
  by_cases c0 : (s.nd i).fence = 0
  · rw [decide_eq_true c0, show (!true) = false from rfl] at FN
    rw [if_neg (by simp [c0])]
    clear SI c0
    by_cases c : s.line.next = []
    · rw [if_pos c]
      rw [decide_eq_true c] at BL
      clear c P4
      go_enter Tryz.func61, Tryz.ntmps61
      go_wp2_with fail
      refine FN.out.mono ?_
      rintro e w1 ⟨rfl, rfl⟩
      go_wp2_with fail
      refine BL.out.mono ?_
      rintro e w1 ⟨rfl, rfl⟩
      go_wp2_with fail
      refine S4.out.mono ?_
      rintro e w2 ⟨rfl, q2⟩
      have R := Lib.hid q2
      clear q2 S4 BL FN
      go_wp2_with fail
      go_ret
      exact ⟨rfl, R.out⟩
    · rw [if_neg c]
      rw [decide_eq_false c] at BL
      clear c S4
      go_enter Tryz.func61, Tryz.ntmps61
      go_wp2_with fail
      refine FN.out.mono ?_
      rintro e w1 ⟨rfl, rfl⟩
      go_wp2_with fail
      refine BL.out.mono ?_
      rintro e w1 ⟨rfl, rfl⟩
      go_wp2_with fail
      refine P4.out.mono ?_
      rintro e w2 ⟨rfl, q2⟩
      have R := Lib.hid q2
      clear q2 P4 BL FN
      go_wp2_with fail
      go_ret
      exact ⟨rfl, R.out⟩
  · rw [decide_eq_false c0, show (!false) = true from rfl] at FN
    rw [if_pos c0]
    clear S4 P4 BL c0
    go_enter Tryz.func61, Tryz.ntmps61
    go_wp2_with fail
    refine FN.out.mono ?_
    rintro e w1 ⟨rfl, rfl⟩
    go_wp2_with fail
    go_still_tail 7, (by kernel_rfl)
    change wpList _ _ _ _ _ W.drew
    have K1 := Lib.hid ((Keeps.refl W).drew)
    generalize W.drew = W1 at *
    go_wp2_with fail
    refine (SI.out _ K1.out).mono ?_
    rintro e w2 ⟨rfl, q2⟩
    have R := Lib.hid (NPost.from K1.out q2)
    clear q2 SI K1 FN
    go_wp2_with fail
    go_ret
    exact ⟨rfl, R.out⟩
end
end Go.Proofs.YtdelaanaohjnkaaGreatDoor

/-
  Contract of block's endBlank.
-/
namespace Go.Proofs.YtdelaanaohjnkaaGreatDoor
open Go.RowKit Go.Lib

theorem eb_none (n : Nat) (l : List Nd) (b : Bool) : ebGo n l (-1) b = l := by
  cases n with
  | zero => rfl
  | succ n => unfold ebGo; rw [if_pos rfl]
theorem Wf.be {l : List Nd} {t : Nat} (h : Wf l t) (i : Nat) (b : Bool) : Wf (l.set i { gN l i with be := b }) t :=
  h.set i _ ⟨rfl, rfl, rfl, rfl⟩ (fun e => by rw [e]; exact h.doc) (h.ind i)
theorem Wf.upQ {l : List Nd} {t : Nat} (h : Wf l t) {i : Nat} (hi : i < l.length) : Plq l (gN l i).up ∧ (gN l i).up < (i : Int) := by
  rcases Nat.eq_zero_or_pos i with h0 | h0
  · subst h0; rw [h.up0]; exact ⟨.inl rfl, by omega⟩
  · have := h.up i h0 hi; exact ⟨.inr (by omega), this.2⟩
theorem eb_fuel {t : Nat} {b : Bool} : ∀ (n m : Nat) (l : List Nd) (j : Int), Wf l t → Plq l j → j < n → j < m → ebGo n l j b = ebGo m l j b
  | 0, m, l, j, _, hq, hn, _ => by
    rcases hq with e | e
    · rw [e, eb_none, eb_none]
    · omega
  | n + 1, 0, l, j, _, hq, _, hm => by
    rcases hq with e | e
    · rw [e, eb_none, eb_none]
    · omega
  | n + 1, m + 1, l, j, h, hq, hn, hm => by
    rcases hq with e | e
    · rw [e, eb_none, eb_none]
    · have u : ∀ k, ebGo (k + 1) l j b = ebGo k (l.set j.toNat { gN l j.toNat with be := b }) (gN l j.toNat).up b := fun k => by rw [ebGo, if_neg (by omega)]
      rw [u, u]
      have hu := h.upQ (i := j.toNat) (by omega)
      exact eb_fuel n m _ _ (h.be _ b) (by unfold Plq at *; rw [List.length_set]; exact hu.1) (by omega) (by omega)
theorem eb_step {l : List Nd} {t : Nat} (h : Wf l t) {j : Nat} (hj : j < l.length) (b : Bool) : ebGo l.length l j b = ebGo (l.set j { gN l j with be := b }).length (l.set j { gN l j with be := b }) (gN l j).up b := by
  obtain ⟨m, hm⟩ : ∃ m, l.length = m + 1 := ⟨l.length - 1, by omega⟩
  have e : ebGo l.length l j b = ebGo (m + 1) l j b := by rw [hm]
  have u : ebGo (m + 1) l j b = ebGo m (l.set (j : Int).toNat { gN l (j : Int).toNat with be := b }) (gN l (j : Int).toNat).up b := by rw [ebGo, if_neg (by omega)]
  rw [e, u, Int.toNat_natCast]
  have hu := h.upQ hj
  exact eb_fuel _ _ _ _ (h.be _ b) (by unfold Plq at *; rw [List.length_set]; exact hu.1) (by omega) (by rw [List.length_set]; omega)
theorem full_be {s : St} {i j : Nat} (b : Bool) : fullB { s with list := s.list.set j { s.nd j with be := b } } i = fullB s i := by
  unfold fullB St.nd
  dsimp only
  rw [gN_set]
  split
  · next e => rw [e.1]
  · rfl

section
variable {W : World} {B : Nat} {O : Nat → Option Nat} {s : St} {rv : Value} {tv : Nat → Value} {xs : List Value} {sb : ByteArray} {k g n cap : Nat}
/-- The loop of endBlank, from a list l on. -/
def EbAt (W : World) (B : Nat) (O : Nat → Option Nat) (s : St) (lv : Value) (wr : World) (l : List Nd) : Prop := ∃ O1 rv1 tv1 xs1 sb1 k1, Mem wr B O1 { s with list := l } lv rv1 tv1 xs1 sb1 k1 ∧ Chg W O wr O1
set_option maxRecDepth 100000 in
set_option maxHeartbeats 4000000 in
theorem endBlank_any (h : Mem W B O s (.slice (some ⟨g, 0, none⟩) n cap) rv tv xs sb k) (hw : Wf s.list s.tip) {i : Nat} (hi : i < s.list.length) :
    Calls Tryz.prog 50 #[.pointer (some ⟨B, 0, none⟩), .int .i64 i] W fun e w' => e = .returned (.tuple #[]) ∧ NPost W B O (endBlankM s i) (.slice (some ⟨g, 0, none⟩) n cap) w' := by
  have hn := h.num.1
  have BL := Lib.hid (lblank_any h)
  have y0 := h.box.cell 0 (v := .slice (some ⟨g, 0, none⟩) n cap) rfl
  have z11 : W.cell? ⟨g, i * 20 + 11, none⟩ = some (.int .i64 (s.nd i).last) := h.at hi 11 (by decide)
  have hi2 : (i : Int) < (n : Int) := by omega
  obtain ⟨E, hE⟩ : ∃ E, endBlankM s i = E := ⟨_, rfl⟩
  have HE := Lib.hid hE
  rw [hE]
  have HM := Lib.hid h
  have HW := Lib.hid hw
  have HI := Lib.hid hi
  have LQ := Lib.hid (hw.lastQ hi)
  have LL := Lib.hid (hw.last i hi)
  have HN := Lib.hid hn
  have H0 := Lib.hid (show EbAt W B O s (.slice (some ⟨g, 0, none⟩) n cap) W s.list from ⟨O, _, _, _, _, _, h, Chg.refl _ _⟩)
  obtain ⟨la, hla⟩ : ∃ la, (s.nd i).last = la := ⟨_, rfl⟩
  have LQ' : Hid (Plq s.list la) := Lib.hid (by rw [← hla]; exact LQ.out)
  have HLA := Lib.hid hla
  rw [hla] at z11
  by_cases c : s.line.next = []
  · rw [decide_eq_true c] at BL
    obtain ⟨fb, hfb⟩ : ∃ fb, fullB s i = fb := ⟨_, rfl⟩
    by_cases l1 : la = -1
    · have FU := Lib.hid (isFull_any h hi)
      rw [hfb] at FU
      have E0 : Hid ({ s with list := ebGo s.list.length s.list i (!fb) } = E) := Lib.hid (by rw [← HE.out, ← hfb]; unfold endBlankM ebLast; rw [if_neg (by rw [hla]; simp [l1]), decide_eq_true c]; rfl)
      subst l1
      clear h hw hi c hE hfb hla LQ LL hn
      go_enter Tryz.func50, Tryz.ntmps50
      go_wp2_with fail
      refine BL.out.mono ?_
      rintro e w1 ⟨rfl, rfl⟩
      go_wp2_with fail
      refine FU.out.mono ?_
      rintro e w1 ⟨rfl, rfl⟩
      go_wp2_with fail
      go_loopw [1] (fun v wr => ∃ (j : Int) (l : List Nd), v = .int .i64 j ∧ Hid (EbAt W B O s (.slice (some ⟨g, 0, none⟩) n cap) wr l) ∧ Hid (Wf l s.tip) ∧ l.length = n ∧ Hid (Plq l j) ∧ Hid ({ s with list := ebGo l.length l j (!fb) } = E)) (fun v _ => lep (RowKit.intOf v))
      case atStart => exact ⟨(i : Int), s.list, rfl, H0, HW, HN.out.symm, Lib.hid (.inr (by have := HI.out; omega)), E0⟩
      case round =>
        obtain ⟨j, l, rfl, HA, HWl, hln, HQ, HEq⟩ := hrel
        obtain ⟨O1, rv1, tv1, xs1, sb1, k1, h1, c1⟩ := HA.out
        by_cases jn : j = -1
        · subst jn
          have R := Lib.hid (show NPost W B O E (.slice (some ⟨g, 0, none⟩) n cap) wr from ⟨O1, _, _, _, _, _, by rw [← HEq.out, eb_none]; exact h1, c1⟩)
          clear h1 c1
          go_wp2_with fail
          go_end0
          exact ⟨rfl, R.out⟩
        · obtain ⟨j, rfl⟩ : ∃ m : Nat, j = (m : Int) := ⟨j.toNat, by have := HQ.out; unfold Plq at this; omega⟩
          have hj : j < l.length := by have := HQ.out; unfold Plq at this; omega
          have hj2 : (j : Int) < (n : Int) := by omega
          have t1 : ((j : Int) != -1) = true := by rw [bne, beqF (show ¬ (j : Int) = -1 by omega)]; rfl
          have y0' : wr.cell? ⟨B, 0, none⟩ = some (.slice (some ⟨g, 0, none⟩) n cap) := h1.box.cell 0 rfl
          have z19 : wr.cell? ⟨g, j * 20 + 19, none⟩ = some (.bool (gN l j).be) := h1.at hj 19 (by decide)
          have f19 : wr.frozen? ⟨g, j * 20 + 19, none⟩ = false := h1.free _
          obtain ⟨O2, m2, q2⟩ := h1.store (i := j) hj { gN l j with be := (!fb) } 19 (by decide) _ (nd_be _ _ _) rfl
          have z10 : (wr.setCell ⟨g, j * 20 + 19, none⟩ (.bool ((!fb)))).cell? ⟨g, j * 20 + 10, none⟩ = some (.int .i64 (gN l j).up) := by
            have q : (wr.setCell ⟨g, j * 20 + 19, none⟩ (.bool ((!fb)))).cell? ⟨g, j * 20 + 10, none⟩ = some (.int .i64 (gN (l.set j { gN l j with be := (!fb) }) j).up) := m2.at (i := j) (show j < (l.set j { gN l j with be := (!fb) }).length by simpa using hj) 10 (by decide)
            rw [gN_at hj] at q
            exact q
          have y0'' : (wr.setCell ⟨g, j * 20 + 19, none⟩ (.bool ((!fb)))).cell? ⟨B, 0, none⟩ = some (.slice (some ⟨g, 0, none⟩) n cap) := m2.box.cell 0 rfl
          have HA2 := Lib.hid (show EbAt W B O s (.slice (some ⟨g, 0, none⟩) n cap) _ (l.set j { gN l j with be := (!fb) }) from ⟨O2, _, _, _, _, _, m2, c1.trans q2⟩)
          have HW2 := Lib.hid (HWl.out.be j ((!fb)))
          have hu := HWl.out.upQ hj
          have HQ2 : Hid (Plq (l.set j { gN l j with be := (!fb) }) (gN l j).up) := Lib.hid (by have := hu.1; unfold Plq at *; rw [List.length_set]; exact this)
          have HU := Lib.hid hu.2
          have HE2 : Hid ({ s with list := ebGo (l.set j { gN l j with be := (!fb) }).length (l.set j { gN l j with be := (!fb) }) (gN l j).up ((!fb)) } = E) := Lib.hid (by rw [← HEq.out, eb_step HWl.out hj])
          have hl2 : (l.set j { gN l j with be := (!fb) }).length = n := by rw [List.length_set]; exact hln
          clear h1 c1 m2 q2 hu jn HEq HQ HA
          generalize l.set j { gN l j with be := (!fb) } = l2 at *
          generalize (gN l j).up = up at *
          generalize (gN l j).be = be0 at *
          go_wp2_with fail
          go_roundw
          case rel => exact ⟨up, l2, rfl, HA2, HW2, hl2, HQ2, HE2⟩
          case measure => exact lep_lt HU.out
    · obtain ⟨la, rfl⟩ : ∃ m : Nat, la = (m : Int) := ⟨la.toNat, by have := LQ'.out; unfold Plq at this; omega⟩
      have hl : la < s.list.length := by have := LQ'.out; unfold Plq at this; omega
      have hl2 : (la : Int) < (n : Int) := by omega
      have t0 : ((la : Int) != -1) = true := by rw [bne, beqF (show ¬ (la : Int) = -1 by omega)]; rfl
      have z19 : W.cell? ⟨g, la * 20 + 19, none⟩ = some (.bool (s.nd la).be) := h.at hl 19 (by decide)
      have f19 : W.frozen? ⟨g, la * 20 + 19, none⟩ = false := h.free _
      obtain ⟨O2, m2, q2⟩ := h.store (i := la) hl { s.nd la with be := true } 19 (by decide) _ (nd_be _ _ _) rfl
      have FU := Lib.hid (isFull_any m2 (i := i) (by unfold St.put; simpa using hi))
      rw [show fullB (s.put la { s.nd la with be := true }) i = fb from (full_be true).trans hfb] at FU
      have H2 := Lib.hid (show EbAt W B O s (.slice (some ⟨g, 0, none⟩) n cap) _ (s.list.set la { gN s.list la with be := true }) from ⟨O2, _, _, _, _, _, m2, q2⟩)
      have W2 := Lib.hid (HW.out.be la true)
      have hln2 : (s.list.set la { gN s.list la with be := true }).length = n := by rw [List.length_set]; exact hn.symm
      have E0 : Hid ({ s with list := ebGo (s.list.set la { gN s.list la with be := true }).length (s.list.set la { gN s.list la with be := true }) i (!fb) } = E) := Lib.hid (by
        rw [← HE.out, ← hfb]
        unfold endBlankM ebLast
        rw [if_pos ⟨c, by rw [hla]; omega⟩, decide_eq_true c, hla, Int.toNat_natCast, List.length_set]
        rfl)
      have hi3 : i < n := by omega
      clear h hw hi c hE hfb hla LQ LL m2 q2 l1 hl HLA
      generalize (s.nd la).be = be0 at *
      generalize s.list.set la { gN s.list la with be := true } = l0 at *
      go_enter Tryz.func50, Tryz.ntmps50
      go_wp2_with fail
      refine BL.out.mono ?_
      rintro e w1 ⟨rfl, rfl⟩
      go_wp2_with fail
      refine FU.out.mono ?_
      rintro e w1 ⟨rfl, rfl⟩
      go_wp2_with fail
      go_loopw [1] (fun v wr => ∃ (j : Int) (l : List Nd), v = .int .i64 j ∧ Hid (EbAt W B O s (.slice (some ⟨g, 0, none⟩) n cap) wr l) ∧ Hid (Wf l s.tip) ∧ l.length = n ∧ Hid (Plq l j) ∧ Hid ({ s with list := ebGo l.length l j (!fb) } = E)) (fun v _ => lep (RowKit.intOf v))
      case atStart => exact ⟨(i : Int), l0, rfl, H2, W2, hln2, Lib.hid (.inr (by omega)), E0⟩
      case round =>
        obtain ⟨j, l, rfl, HA, HWl, hln, HQ, HEq⟩ := hrel
        obtain ⟨O1, rv1, tv1, xs1, sb1, k1, h1, c1⟩ := HA.out
        by_cases jn : j = -1
        · subst jn
          have R := Lib.hid (show NPost W B O E (.slice (some ⟨g, 0, none⟩) n cap) wr from ⟨O1, _, _, _, _, _, by rw [← HEq.out, eb_none]; exact h1, c1⟩)
          clear h1 c1
          go_wp2_with fail
          go_end0
          exact ⟨rfl, R.out⟩
        · obtain ⟨j, rfl⟩ : ∃ m : Nat, j = (m : Int) := ⟨j.toNat, by have := HQ.out; unfold Plq at this; omega⟩
          have hj : j < l.length := by have := HQ.out; unfold Plq at this; omega
          have hj2 : (j : Int) < (n : Int) := by omega
          have t1 : ((j : Int) != -1) = true := by rw [bne, beqF (show ¬ (j : Int) = -1 by omega)]; rfl
          have y0' : wr.cell? ⟨B, 0, none⟩ = some (.slice (some ⟨g, 0, none⟩) n cap) := h1.box.cell 0 rfl
          have z19 : wr.cell? ⟨g, j * 20 + 19, none⟩ = some (.bool (gN l j).be) := h1.at hj 19 (by decide)
          have f19 : wr.frozen? ⟨g, j * 20 + 19, none⟩ = false := h1.free _
          obtain ⟨O2, m2, q2⟩ := h1.store (i := j) hj { gN l j with be := (!fb) } 19 (by decide) _ (nd_be _ _ _) rfl
          have z10 : (wr.setCell ⟨g, j * 20 + 19, none⟩ (.bool ((!fb)))).cell? ⟨g, j * 20 + 10, none⟩ = some (.int .i64 (gN l j).up) := by
            have q : (wr.setCell ⟨g, j * 20 + 19, none⟩ (.bool ((!fb)))).cell? ⟨g, j * 20 + 10, none⟩ = some (.int .i64 (gN (l.set j { gN l j with be := (!fb) }) j).up) := m2.at (i := j) (show j < (l.set j { gN l j with be := (!fb) }).length by simpa using hj) 10 (by decide)
            rw [gN_at hj] at q
            exact q
          have y0'' : (wr.setCell ⟨g, j * 20 + 19, none⟩ (.bool ((!fb)))).cell? ⟨B, 0, none⟩ = some (.slice (some ⟨g, 0, none⟩) n cap) := m2.box.cell 0 rfl
          have HA2 := Lib.hid (show EbAt W B O s (.slice (some ⟨g, 0, none⟩) n cap) _ (l.set j { gN l j with be := (!fb) }) from ⟨O2, _, _, _, _, _, m2, c1.trans q2⟩)
          have HW2 := Lib.hid (HWl.out.be j ((!fb)))
          have hu := HWl.out.upQ hj
          have HQ2 : Hid (Plq (l.set j { gN l j with be := (!fb) }) (gN l j).up) := Lib.hid (by have := hu.1; unfold Plq at *; rw [List.length_set]; exact this)
          have HU := Lib.hid hu.2
          have HE2 : Hid ({ s with list := ebGo (l.set j { gN l j with be := (!fb) }).length (l.set j { gN l j with be := (!fb) }) (gN l j).up ((!fb)) } = E) := Lib.hid (by rw [← HEq.out, eb_step HWl.out hj])
          have hl2 : (l.set j { gN l j with be := (!fb) }).length = n := by rw [List.length_set]; exact hln
          clear h1 c1 m2 q2 hu jn HEq HQ HA
          generalize l.set j { gN l j with be := (!fb) } = l2 at *
          generalize (gN l j).up = up at *
          generalize (gN l j).be = be0 at *
          go_wp2_with fail
          go_roundw
          case rel => exact ⟨up, l2, rfl, HA2, HW2, hl2, HQ2, HE2⟩
          case measure => exact lep_lt HU.out
  · rw [decide_eq_false c] at BL
    have E0 : Hid ({ s with list := ebGo s.list.length s.list i (false) } = E) := Lib.hid (by rw [← HE.out]; unfold endBlankM ebLast; rw [if_neg (fun q => c q.1), decide_eq_false c]; rfl)
    clear h hw hi c hE hla LQ LL hn
    go_enter Tryz.func50, Tryz.ntmps50
    go_wp2_with fail
    refine BL.out.mono ?_
    rintro e w1 ⟨rfl, rfl⟩
    go_wp2_with fail
    go_loopw [1] (fun v wr => ∃ (j : Int) (l : List Nd), v = .int .i64 j ∧ Hid (EbAt W B O s (.slice (some ⟨g, 0, none⟩) n cap) wr l) ∧ Hid (Wf l s.tip) ∧ l.length = n ∧ Hid (Plq l j) ∧ Hid ({ s with list := ebGo l.length l j (false) } = E)) (fun v _ => lep (RowKit.intOf v))
    case atStart => exact ⟨(i : Int), s.list, rfl, H0, HW, HN.out.symm, Lib.hid (.inr (by have := HI.out; omega)), E0⟩
    case round =>
      obtain ⟨j, l, rfl, HA, HWl, hln, HQ, HEq⟩ := hrel
      obtain ⟨O1, rv1, tv1, xs1, sb1, k1, h1, c1⟩ := HA.out
      by_cases jn : j = -1
      · subst jn
        have R := Lib.hid (show NPost W B O E (.slice (some ⟨g, 0, none⟩) n cap) wr from ⟨O1, _, _, _, _, _, by rw [← HEq.out, eb_none]; exact h1, c1⟩)
        clear h1 c1
        go_wp2_with fail
        go_end0
        exact ⟨rfl, R.out⟩
      · obtain ⟨j, rfl⟩ : ∃ m : Nat, j = (m : Int) := ⟨j.toNat, by have := HQ.out; unfold Plq at this; omega⟩
        have hj : j < l.length := by have := HQ.out; unfold Plq at this; omega
        have hj2 : (j : Int) < (n : Int) := by omega
        have t1 : ((j : Int) != -1) = true := by rw [bne, beqF (show ¬ (j : Int) = -1 by omega)]; rfl
        have y0' : wr.cell? ⟨B, 0, none⟩ = some (.slice (some ⟨g, 0, none⟩) n cap) := h1.box.cell 0 rfl
        have z19 : wr.cell? ⟨g, j * 20 + 19, none⟩ = some (.bool (gN l j).be) := h1.at hj 19 (by decide)
        have f19 : wr.frozen? ⟨g, j * 20 + 19, none⟩ = false := h1.free _
        obtain ⟨O2, m2, q2⟩ := h1.store (i := j) hj { gN l j with be := (false) } 19 (by decide) _ (nd_be _ _ _) rfl
        have z10 : (wr.setCell ⟨g, j * 20 + 19, none⟩ (.bool ((false)))).cell? ⟨g, j * 20 + 10, none⟩ = some (.int .i64 (gN l j).up) := by
          have q : (wr.setCell ⟨g, j * 20 + 19, none⟩ (.bool ((false)))).cell? ⟨g, j * 20 + 10, none⟩ = some (.int .i64 (gN (l.set j { gN l j with be := (false) }) j).up) := m2.at (i := j) (show j < (l.set j { gN l j with be := (false) }).length by simpa using hj) 10 (by decide)
          rw [gN_at hj] at q
          exact q
        have y0'' : (wr.setCell ⟨g, j * 20 + 19, none⟩ (.bool ((false)))).cell? ⟨B, 0, none⟩ = some (.slice (some ⟨g, 0, none⟩) n cap) := m2.box.cell 0 rfl
        have HA2 := Lib.hid (show EbAt W B O s (.slice (some ⟨g, 0, none⟩) n cap) _ (l.set j { gN l j with be := (false) }) from ⟨O2, _, _, _, _, _, m2, c1.trans q2⟩)
        have HW2 := Lib.hid (HWl.out.be j ((false)))
        have hu := HWl.out.upQ hj
        have HQ2 : Hid (Plq (l.set j { gN l j with be := (false) }) (gN l j).up) := Lib.hid (by have := hu.1; unfold Plq at *; rw [List.length_set]; exact this)
        have HU := Lib.hid hu.2
        have HE2 : Hid ({ s with list := ebGo (l.set j { gN l j with be := (false) }).length (l.set j { gN l j with be := (false) }) (gN l j).up ((false)) } = E) := Lib.hid (by rw [← HEq.out, eb_step HWl.out hj])
        have hl2 : (l.set j { gN l j with be := (false) }).length = n := by rw [List.length_set]; exact hln
        clear h1 c1 m2 q2 hu jn HEq HQ HA
        generalize l.set j { gN l j with be := (false) } = l2 at *
        generalize (gN l j).up = up at *
        generalize (gN l j).be = be0 at *
        go_wp2_with fail
        go_roundw
        case rel => exact ⟨up, l2, rfl, HA2, HW2, hl2, HQ2, HE2⟩
        case measure => exact lep_lt HU.out
end
end Go.Proofs.YtdelaanaohjnkaaGreatDoor

/-
  Contract of block's goesOn. (Written by wip/tools/bkgoes.py.)
-/
namespace Go.Proofs.YtdelaanaohjnkaaGreatDoor
open Go.RowKit Go.Lib

section
variable {W : World} {B : Nat} {O : Nat → Option Nat} {s : St} {rv : Value} {tv : Nat → Value} {xs : List Value} {sb : ByteArray} {k g n cap : Nat}
set_option maxRecDepth 100000 in
set_option maxHeartbeats 2000000 in
theorem goesOn_any (h : Mem W B O s (.slice (some ⟨g, 0, none⟩) n cap) rv tv xs sb k) {i : Nat} (hi : i < s.list.length) (hind : (s.nd i).indent ≤ 1000000) :
    Calls Tryz.prog 44 #[.pointer (some ⟨B, 0, none⟩), .int .i64 i] W fun e w' => e = .returned (.bool (goesOnM s i).2) ∧ NPost W B O (s.atL (goesOnM s i).1) (.slice (some ⟨g, 0, none⟩) n cap) w' := by
  obtain ⟨rfl, hc1, hc2⟩ := h.num
  have y0 := h.box.cell 0 (v := .slice (some ⟨g, 0, none⟩) s.list.length cap) rfl
  have z0 : W.cell? ⟨g, i * 20, none⟩ = some (.int .i64 ((s.nd i).kind : Nat)) := h.at hi 0 (by decide)
  have z18 : W.cell? ⟨g, i * 20 + 18, none⟩ = some (.int .i64 ((s.nd i).html : Nat)) := h.at hi 18 (by decide)
  have BL := Lib.hid (lblank_any h)
  have IG := Lib.hid (itemGoesOn_any h hi hind)
  have CG := Lib.hid (codeGoesOn_any h hi hind)
  have QU := Lib.hid (lpastQuote_any h)
  have ID := Lib.hid (show NPost W B O (s.atL s.line) (.slice (some ⟨g, 0, none⟩) s.list.length cap) W from ⟨O, rv, tv, xs, sb, k, h, Chg.refl _ _⟩)
  have hi2 : (i : Int) < (s.list.length : Int) := by omega
  unfold goesOnM
  generalize (s.nd i).kind = q at *
  generalize (s.nd i).html = m at *
  generalize hL : s.list.length = L at *
  clear h hc1 hc2 hL
  by_cases q2 : q = 2
  · subst q2
    rw [if_pos rfl]
    clear BL IG CG ID
    go_enter Tryz.func44, Tryz.ntmps44
    go_wp2_with fail
    refine QU.out.mono ?_
    rintro e w2 ⟨rfl, q2⟩
    have R := Lib.hid q2
    clear q2
    go_wp2_with fail
    go_ret
    exact ⟨rfl, R.out⟩
  · rw [if_neg q2]
    have t2 := beqF (show ¬ (q : Int) = 2 by omega)
    clear q2
    by_cases q3 : q = 3
    · subst q3
      rw [if_pos rfl]
      clear BL IG CG QU
      go_enter Tryz.func44, Tryz.ntmps44
      go_wp2_with fail
      go_ret
      exact ⟨rfl, ID.out⟩
    · rw [if_neg q3]
      have t3 := beqF (show ¬ (q : Int) = 3 by omega)
      clear q3
      by_cases q4 : q = 4
      · subst q4
        rw [if_pos rfl]
        clear BL CG QU ID
        go_enter Tryz.func44, Tryz.ntmps44
        go_wp2_with fail
        refine IG.out.mono ?_
        rintro e w2 ⟨rfl, q2⟩
        have R := Lib.hid q2
        clear q2
        go_wp2_with fail
        go_ret
        exact ⟨rfl, R.out⟩
      · rw [if_neg q4]
        have t4 := beqF (show ¬ (q : Int) = 4 by omega)
        clear q4
        by_cases q7 : q = 7
        · subst q7
          rw [if_pos rfl]
          clear BL IG QU ID
          go_enter Tryz.func44, Tryz.ntmps44
          go_wp2_with fail
          refine CG.out.mono ?_
          rintro e w2 ⟨rfl, q2⟩
          have R := Lib.hid q2
          clear q2
          go_wp2_with fail
          go_ret
          exact ⟨rfl, R.out⟩
        · rw [if_neg q7]
          have t7 := beqF (show ¬ (q : Int) = 7 by omega)
          clear q7
          by_cases q8 : q = 8
          · subst q8
            rw [if_pos rfl]
            clear IG CG QU
            by_cases m6 : m < 6
            · rw [decide_eq_true m6]
              have t1 : decide ((m : Int) < 6) = true := decide_eq_true (by omega)
              clear BL
              go_enter Tryz.func44, Tryz.ntmps44
              go_wp2_with fail
              go_ret
              exact ⟨rfl, ID.out⟩
            · rw [decide_eq_false m6]
              have t1 : decide ((m : Int) < 6) = false := decide_eq_false (by omega)
              by_cases c : s.line.next = []
              · rw [decide_eq_true c] at *
                go_enter Tryz.func44, Tryz.ntmps44
                go_wp2_with fail
                refine BL.out.mono ?_
                rintro e w1 ⟨rfl, rfl⟩
                go_wp2_with fail
                go_ret
                exact ⟨rfl, ID.out⟩
              · rw [decide_eq_false c] at *
                go_enter Tryz.func44, Tryz.ntmps44
                go_wp2_with fail
                refine BL.out.mono ?_
                rintro e w1 ⟨rfl, rfl⟩
                go_wp2_with fail
                go_ret
                exact ⟨rfl, ID.out⟩
          · rw [if_neg q8]
            have t8 := beqF (show ¬ (q : Int) = 8 by omega)
            clear q8
            by_cases q5 : q = 5
            · subst q5
              rw [if_pos rfl]
              clear IG CG QU
              by_cases c : s.line.next = []
              · rw [decide_eq_true c] at *
                go_enter Tryz.func44, Tryz.ntmps44
                go_wp2_with fail
                refine BL.out.mono ?_
                rintro e w1 ⟨rfl, rfl⟩
                go_wp2_with fail
                go_ret
                exact ⟨rfl, ID.out⟩
              · rw [decide_eq_false c] at *
                go_enter Tryz.func44, Tryz.ntmps44
                go_wp2_with fail
                refine BL.out.mono ?_
                rintro e w1 ⟨rfl, rfl⟩
                go_wp2_with fail
                go_ret
                exact ⟨rfl, ID.out⟩
            · rw [if_neg q5]
              have t5 := beqF (show ¬ (q : Int) = 5 by omega)
              clear q5
              clear BL IG CG QU
              go_enter Tryz.func44, Tryz.ntmps44
              go_wp2_with fail
              go_ret
              exact ⟨rfl, ID.out⟩
end
end Go.Proofs.YtdelaanaohjnkaaGreatDoor

/-
  Contract of block's matched.
-/
namespace Go.Proofs.YtdelaanaohjnkaaGreatDoor
open Go.RowKit Go.Lib

/-- The document is always open. -/
theorem on_doc {l : List Nd} : ∀ {t : Nat}, Wf l t → On l t 0 := by
  intro t
  induction t using Nat.strongRecOn with
  | ind t ih =>
    intro h
    rcases Nat.eq_zero_or_pos t with h0 | h0
    · subst h0; exact .refl 0
    · have hu := h.up t h0 h.tip
      exact .step h0 (ih _ (by omega) (h.fewer (by omega)))
theorem match_tip (f : Nat) (s : St) : matchGo f s s.tip = (s, s.tip, false) := by
  cases f with
  | zero => rfl
  | succ f => unfold matchGo; rw [if_pos rfl]
theorem match_end {f : Nat} {s : St} {i : Nat} (h : i ≠ s.tip) (e : endsFenceM s (s.nd i).last.toNat = true) : matchGo (f + 1) s i = (closeM s, i, true) := by
  unfold matchGo
  rw [if_neg h, if_pos e]
theorem match_stop {f : Nat} {s : St} {i : Nat} (h : i ≠ s.tip) (e : endsFenceM s (s.nd i).last.toNat = false) (q : (goesOnM s (s.nd i).last.toNat).2 = false) : matchGo (f + 1) s i = (s.atL (goesOnM s (s.nd i).last.toNat).1, i, false) := by
  unfold matchGo
  rw [if_neg h, if_neg (by rw [e]; simp), if_neg (by rw [q]; simp)]
theorem match_go {f : Nat} {s : St} {i : Nat} (h : i ≠ s.tip) (e : endsFenceM s (s.nd i).last.toNat = false) (q : (goesOnM s (s.nd i).last.toNat).2 = true) : matchGo (f + 1) s i = matchGo f (s.atL (goesOnM s (s.nd i).last.toNat).1) (s.nd i).last.toNat := by
  rw [matchGo, if_neg h, if_neg (by rw [e]; simp), if_pos q]
theorem ret_intb {a b : Nat} {c d : Bool} (h : a = b) (k : c = d) : Ending.returned (.tuple #[.int .i64 (a : Nat), .bool c]) = .returned (.tuple #[.int .i64 (b : Nat), .bool d]) := by rw [h, k]
section
variable {W : World} {B : Nat} {O : Nat → Option Nat} {s : St} {rv : Value} {tv : Nat → Value} {xs : List Value} {sb : ByteArray} {k g n cap : Nat}
set_option maxRecDepth 100000 in
set_option maxHeartbeats 4000000 in
theorem matched_any (h : Mem W B O s (.slice (some ⟨g, 0, none⟩) n cap) rv tv xs sb k) (hw : Wf s.list s.tip) (hp : phi s ≤ 100000) :
    Calls Tryz.prog 35 #[.pointer (some ⟨B, 0, none⟩)] W fun e w' => e = .returned (.tuple #[.int .i64 ((matchedM s).2.1 : Nat), .bool (matchedM s).2.2]) ∧ NPost W B O (matchedM s).1 (.slice (some ⟨g, 0, none⟩) n cap) w' := by
  have hn := h.num.1
  have HW := Lib.hid hw
  have HP := Lib.hid hp
  have H0 := Lib.hid (show ∃ O1 rv1 tv1 xs1 sb1 k1, Mem W B O1 (s.atL s.line) (.slice (some ⟨g, 0, none⟩) n cap) rv1 tv1 xs1 sb1 k1 ∧ Chg W O W O1 from ⟨O, rv, tv, xs, sb, k, h, Chg.refl _ _⟩)
  have HO := Lib.hid (show On s.list s.tip 0 from on_doc hw)
  obtain ⟨E, hE⟩ : ∃ E, matchedM s = E := ⟨_, rfl⟩
  have HE : Hid (matchGo s.list.length (s.atL s.line) 0 = E) := Lib.hid hE
  have ht : s.tip < s.list.length := hw.tip
  rw [hE]
  clear h hw hp hE
  go_enter Tryz.func35, Tryz.ntmps35
  go_wp2_with fail
  go_loopw [4] (fun v wr => ∃ (j f : Nat) (L : Ln), v = .int .i64 (j : Nat) ∧ Hid (∃ O1 rv1 tv1 xs1 sb1 k1, Mem wr B O1 (s.atL L) (.slice (some ⟨g, 0, none⟩) n cap) rv1 tv1 xs1 sb1 k1 ∧ Chg W O wr O1) ∧ Hid (On s.list s.tip j) ∧ s.tip ≤ j + f ∧ Hid (matchGo f (s.atL L) j = E)) (fun v _ => n - (RowKit.intOf v).toNat)
  case atStart => exact ⟨0, s.list.length, s.line, rfl, H0, HO, by omega, HE⟩
  case round =>
    obtain ⟨j, f, L, rfl, HA, HOj, hf, HEj⟩ := hrel
    obtain ⟨O1, rv1, tv1, xs1, sb1, k1, h1, c1⟩ := HA.out
    have y1 : wr.cell? ⟨B, 1, none⟩ = some (.int .i64 s.tip) := h1.box.cell 1 rfl
    have y0 : wr.cell? ⟨B, 0, none⟩ = some (.slice (some ⟨g, 0, none⟩) n cap) := h1.box.cell 0 rfl
    have C1 := Lib.hid c1
    by_cases jt : j = s.tip
    · have t1 : ((j : Int) != (s.tip : Int)) = false := by rw [jt, bne, beq_self_eq_true]; rfl
      have eE : (s.atL L, j, false) = E := by rw [← HEj.out, jt]; exact (match_tip f (s.atL L)).symm
      have R := Lib.hid (show NPost W B O E.1 (.slice (some ⟨g, 0, none⟩) n cap) wr from ⟨O1, _, _, _, _, _, by rw [← eE]; exact h1, c1⟩)
      have e1 : j = E.2.1 := by rw [← eE]
      have e2 : false = E.2.2 := by rw [← eE]
      have HEE := Lib.hid (ret_intb e1 e2)
      clear eE e1 e2 jt h1 c1
      go_wp2_with fail
      go_ret2
      exact ⟨HEE.out, R.out⟩
    · have t1 : ((j : Int) != (s.tip : Int)) = true := by rw [bne, beq_eq_false_iff_ne.2 (by omega)]; rfl
      obtain ⟨y, ey, hy1, hy2, hy3⟩ := HW.out.child HOj.out jt
      have hyt := hy1.le HW.out
      obtain ⟨f, rfl⟩ : ∃ q, f = q + 1 := ⟨f - 1, by omega⟩
      have hjl : j < s.list.length := by omega
      have z11 : wr.cell? ⟨g, j * 20 + 11, none⟩ = some (.int .i64 (y : Int)) := by
        have q : wr.cell? ⟨g, j * 20 + 11, none⟩ = some (.int .i64 (gN s.list j).last) := h1.at (i := j) hjl 11 (by decide)
        rw [ey] at q
        exact q
      have hj2 : (j : Int) < (n : Int) := by omega
      have ely : ((s.atL L).nd j).last.toNat = y := by
        show (gN s.list j).last.toNat = y
        rw [ey, Int.toNat_natCast]
      have EF := Lib.hid (endsFence_any h1 (i := y) hy3)
      have jt' : j ≠ (s.atL L).tip := jt
      cases ce : endsFenceM (s.atL L) y with
      | true =>
        rw [ce] at EF
        have eE : (closeM (s.atL L), j, true) = E := by rw [← HEj.out]; exact (match_end jt' (by rw [ely]; exact ce)).symm
        have CL := Lib.hid (fun W' (q : Keeps wr W') => close_any (h1.keep q) HW.out (show s.tip ≠ 0 by omega) HP.out)
        have e1 : j = E.2.1 := by rw [← eE]
        have e2 : true = E.2.2 := by rw [← eE]
        have e3 : closeM (s.atL L) = E.1 := by rw [← eE]
        have HEE := Lib.hid (ret_intb e1 e2)
        rw [e3] at CL
        clear eE e1 e2 e3 jt jt' h1 c1 ce ely ey hy1
        go_wp2_with fail
        refine EF.out.mono ?_
        rintro e w2 ⟨rfl, q2⟩
        have K2 := Lib.hid q2
        have CC := Lib.hid (CL.out _ q2)
        clear q2 CL
        go_wp2_with fail
        refine CC.out.mono ?_
        rintro e w3 ⟨rfl, q3⟩
        have R := Lib.hid (NPost.trans (C1.out.trans (Chg.keeps O1 K2.out)) q3)
        clear q3 CC
        go_wp2_with fail
        go_ret2
        exact ⟨HEE.out, R.out⟩
      | false =>
        rw [ce] at EF
        have GO := Lib.hid (fun W' (q : Keeps wr W') => goesOn_any (h1.keep q) (i := y) hy3 (HW.out.ind y))
        cases cg : (goesOnM (s.atL L) y).2 with
        | false =>
          have eE : ((s.atL L).atL (goesOnM (s.atL L) y).1, j, false) = E := by rw [← HEj.out]; exact (by have q := match_stop (f := f) jt' (by rw [ely]; exact ce) (by rw [ely]; exact cg); rw [ely] at q; exact q.symm)
          rw [cg] at GO
          have e1 : j = E.2.1 := by rw [← eE]
          have e2 : false = E.2.2 := by rw [← eE]
          have e3 : (s.atL L).atL (goesOnM (s.atL L) y).1 = E.1 := by rw [← eE]
          have HEE := Lib.hid (ret_intb e1 e2)
          rw [e3] at GO
          clear eE e1 e2 e3 jt jt' h1 c1 ce cg ely ey hy1
          go_wp2_with fail
          refine EF.out.mono ?_
          rintro e w2 ⟨rfl, q2⟩
          have K2 := Lib.hid q2
          have CC := Lib.hid (GO.out _ q2)
          clear q2 GO
          go_wp2_with fail
          refine CC.out.mono ?_
          rintro e w3 ⟨rfl, q3⟩
          have R := Lib.hid (NPost.trans (C1.out.trans (Chg.keeps O1 K2.out)) q3)
          clear q3 CC
          go_wp2_with fail
          go_ret2
          exact ⟨HEE.out, R.out⟩
        | true =>
          have eE : matchGo f (s.atL (goesOnM (s.atL L) y).1) y = E := by
            rw [← HEj.out]
            have q := match_go (f := f) jt' (by rw [ely]; exact ce) (by rw [ely]; exact cg)
            rw [ely] at q
            exact q.symm
          have HE2 := Lib.hid eE
          rw [cg] at GO
          have HO2 := Lib.hid hy1
          clear eE jt jt' h1 c1 ce cg ely ey hy1
          generalize (goesOnM (s.atL L) y).1 = L2 at *
          go_wp2_with fail
          refine EF.out.mono ?_
          rintro e w2 ⟨rfl, q2⟩
          have K2 := Lib.hid q2
          have CC := Lib.hid (GO.out _ q2)
          clear q2 GO
          go_wp2_with fail
          refine CC.out.mono ?_
          rintro e w3 ⟨rfl, O3, rv3, tv3, xs3, sb3, k3, h3, c3⟩
          have H3 := Lib.hid (show ∃ O1 rv1 tv1 xs1 sb1 k1, Mem w3 B O1 (s.atL L2) (.slice (some ⟨g, 0, none⟩) n cap) rv1 tv1 xs1 sb1 k1 ∧ Chg W O w3 O1 from ⟨O3, rv3, tv3, xs3, sb3, k3, h3, (C1.out.trans (Chg.keeps O1 K2.out)).trans c3⟩)
          clear h3 c3 CC
          go_wp2_with fail
          go_roundw
          case rel => exact ⟨y, f, L2, by go_num, H3, HO2, by omega, HE2⟩
          case measure => simp [RowKit.intOf]; omega
end
end Go.Proofs.YtdelaanaohjnkaaGreatDoor


/-
  Texts of the proof, one behind the other: Spz, Spm, Im5, Im7, Im8.
-/
import Derived.Test.YtfnkokfkhjdkfaaDoorM37
import Derived.Test.YtfnkokfkhjdkfaaDoorM5
import Derived.Test.YtfnkokfkhjdkfaaDoorM33
import Derived.Test.YtfnkokfkhjdkfaaDoorM9
import Derived.Test.YtfnkokfkhjdkfaaDoorM15
import Derived.Test.YtfnkokfkhjdkfaaDoorM29
import Derived.Test.YtfnkokfkhjdkfaaDoorM26
import Derived.Test.YtfnkokfkhjdkfaaDoorM30
import Derived.Test.YtfnkokfkhjdkfaaDoorM3
import Derived.Test.YtfnkokfkhjdkfaaDoorM16
import Derived.Test.YtfnkokfkhjdkfaaDoorM4
/-
  What the law asks of: the items of spans, split for a width. No program in sight.
-/
namespace Go.Proofs.YtfnkokfkhjdkfaaDoor
open Go.RowKit Go.Lib

theorem split_len {wd sz : Int} (hs : 0 ≤ sz) (h2 : sz ≤ 2147483648) (hw : 0 ≤ wd) : ∀ (l : List It) (p : List It × Int), (∀ x ∈ l, mkOk sz x ∧ x.codes.length ≤ 100000) → -217969590200000 ≤ p.2 → p.2 ≤ wd → (splitL wd l p).1.length ≤ p.1.length + wI l
  | [], p, _, _, _ => by rw [splitL, wI]; omega
  | x :: l, p, hx, h3, h4 => by
    have hl := fun y hy => hx y (List.mem_cons_of_mem _ hy)
    obtain ⟨hm, hc⟩ := hx x (List.mem_cons_self ..)
    rw [splitL, wI]
    by_cases hk : x.kind ≠ 1
    · rw [if_pos hk]
      have := split_len hs h2 hw l (p.1 ++ [x], wd) hl (by simp only; omega) (Int.le_refl _)
      simp only [List.length_append, List.length_singleton] at this
      omega
    · rw [if_neg hk]
      rcases hm with ⟨q, _⟩ | ⟨he, hne⟩
      · exact absurd q hk
      · have hsz : x.size = sz := by rw [he]; rfl
        rw [if_neg hne, hsz]
        obtain ⟨f1, f2, f3⟩ := part_len (f := x.font) (lk := x.link) hs h2 hw (2 * x.codes.length + 2) x.codes p hc h3 h4
        have := split_len hs h2 hw l _ hl f2 f3
        omega
/-- All that the law wants to know of its items. -/
structure LawIt (al : List It) (wd : Int) : Prop where
  alt : Alt al
  itw : ∀ y ∈ al, itW y
  few : al.length ≤ 40000
  way : ∃ es c, Chain al wd es (al.length + 1) c
theorem law_its {f sz wd : Int} (s1 : 4000 ≤ sz) (s2 : sz ≤ 24000) (hw : 2 * sz ≤ wd) (hw2 : wd ≤ 1000000) (L : List St) (hL : wL L ≤ 2000) :
    (∀ x ∈ (makeL L f sz 1).1, mkOk sz x ∧ x.codes.length ≤ 100000) ∧ wI (makeL L f sz 1).1 ≤ 40000 ∧ LawIt (splitL wd (makeL L f sz 1).1 ([], wd)).1 wd := by
  have hmk := Mk.make (f := f) (lk := 1) (show (0 : Int) ≤ sz by omega) (show sz ≤ 2147483648 by omega) L
  have hsh := Sh.make (M := 2000) (f := f) (sz := sz) (lk := 1) L hL
  have hcat := cat_make f sz 1 L
  have hln : (makeL L f sz 1).1.length ≤ 4000 := by
    have h1 := (spns_len sz L ⟨f, 0, false⟩ ([], 1)).1
    have h2 := drop_len (spnsP sz L ⟨f, 0, false⟩ ([], 1)).1
    unfold makeL
    simp only [List.length_nil] at h1 ⊢
    omega
  have hok : ∀ x ∈ (makeL L f sz 1).1, mkOk sz x ∧ x.codes.length ≤ 100000 := fun x hx => ⟨hmk x hx, by have := hsh x hx; omega⟩
  have hwi : wI (makeL L f sz 1).1 ≤ 40000 := by rw [wI_cat]; omega
  have hall : ∀ (fo : Int) (b : UInt8), advL fo sz b.toNat ≤ wd := fun fo b => by have := adv_two (f := fo) s1 b.toNat_lt; omega
  have hA := alt_split (wd := wd) (f := f) (lk := 1) s1 (show sz ≤ 2147483648 by omega) L
  have hW := way_split (f := f) (lk := 1) s1 (show sz ≤ 2147483648 by omega) hall (by omega) (by omega) L (fun x hx => by have := hsh x hx; omega)
  have hlen := split_len (wd := wd) (show (0 : Int) ≤ sz by omega) (show sz ≤ 2147483648 by omega) (by omega) _ ([], wd) hok (by simp only; omega) (Int.le_refl _)
  have hft := (split_fits (wd := wd) (sz := sz) (by omega) (by omega) hall (by omega) (by omega) (makeL L f sz 1).1 ([], wd) hok (by simp only; omega) (Int.le_refl _) ⟨trivial, by simp [usedL]⟩).1.1
  refine ⟨hok, hwi, hA, fun y hy => ?_, by simp only [List.length_nil] at hlen; omega, hW⟩
  have hp := hA.pl y hy
  obtain ⟨i, hi, rfl⟩ := List.getElem_of_mem hy
  obtain ⟨⟨u0, u1⟩, hor⟩ := fits_at hft (by omega) hi
  unfold itW
  rcases hp.kind with k | k | k
  · obtain ⟨b1, b2, b3⟩ := hp.box k
    rcases hor with ⟨q, _⟩ | ⟨_, q, _⟩
    · exact absurd k q
    · omega
  · obtain ⟨b1, b2, b3, b4, b5⟩ := hp.glue k
    rcases hor with ⟨_, _, q⟩ | ⟨q, _⟩
    · omega
    · omega
  · have := hp.pen k
    omega
/-- All runs of a line are within. -/
theorem rn_all {al : List It} {wd : Int} {a b : Nat} {last : Bool} (hA : Alt al) (hL : LnAt al wd a b) : ∀ k, k ≤ b → ∀ r ∈ rnTo al wd 7 a b last k, 7 ≤ r.x ∧ 0 ≤ r.width ∧ r.x + r.width ≤ 7 + wd
  | 0, _, r, hr => by cases hr
  | k + 1, hk, r, hr => by
    have hkl : k < al.length := by have := hL.le; omega
    by_cases c : a ≤ k ∧ al[k].kind = 1
    · rw [rn_box hkl c.1 c.2] at hr
      rcases List.mem_append.1 hr with hr | hr
      · exact rn_all hA hL k (by omega) r hr
      · rw [List.mem_singleton] at hr
        subst hr
        have h1 := run_in (x := 7) (last := last) hA hL c.1 (by omega) hkl c.2
        exact ⟨h1.1, ((hA.pl _ (List.getElem_mem hkl)).box c.2).1, h1.2⟩
    · rw [rn_oth hkl c] at hr
      exact rn_all hA hL k (by omega) r hr
/-- What the law sees of a line: of its runs, and of the items ahead of the place k. -/
structure LwAt (al : List It) (wd : Int) (a b k n : Nat) (gl : Int) : Prop where
  ak : a ≤ k
  kb : k ≤ b
  num : n = (rnTo al wd 7 a b (mustP al b) k).length
  g0 : 0 ≤ gl
  g1 : gl ≤ k
  gl : 0 < gl → ∃ j, ∃ h : j < al.length, a ≤ j ∧ j < k ∧ al[j].kind = 2
theorem LwAt.start {al : List It} {wd : Int} {a b : Nat} (h : a ≤ b) : LwAt al wd a b a 0 0 := ⟨Nat.le_refl _, h, by rw [rn_low (Nat.le_refl _)]; rfl, Int.le_refl _, by omega, fun q => by omega⟩
theorem LwAt.oth {al : List It} {wd : Int} {a b k n : Nat} {gl : Int} (h : LwAt al wd a b k n gl) (hk : k < al.length) (hb : k < b) (h1 : al[k].kind ≠ 1) : LwAt al wd a b (k + 1) n gl :=
  ⟨by have := h.ak; omega, hb, by rw [rn_oth hk (fun q => h1 q.2)]; exact h.num, h.g0, by have := h.g1; omega, fun q => by
    obtain ⟨j, hj, a1, a2, a3⟩ := h.gl q
    exact ⟨j, hj, a1, by omega, a3⟩⟩
theorem LwAt.glue {al : List It} {wd : Int} {a b k n : Nat} {gl : Int} (h : LwAt al wd a b k n gl) (hk : k < al.length) (hb : k < b) (h2 : al[k].kind = 2) : LwAt al wd a b (k + 1) n (gl + 1) :=
  ⟨by have := h.ak; omega, hb, by rw [rn_oth hk (fun q => by omega)]; exact h.num, by have := h.g0; omega, by have := h.g1; omega, fun _ => ⟨k, hk, h.ak, by omega, h2⟩⟩
theorem LwAt.box {al : List It} {wd : Int} {a b k n : Nat} {gl : Int} (h : LwAt al wd a b k n gl) (hk : k < al.length) (hb : k < b) (h1 : al[k].kind = 1) : LwAt al wd a b (k + 1) (n + 1) gl :=
  ⟨by have := h.ak; omega, hb, by rw [rn_box hk h.ak h1, List.length_append, ← h.num]; rfl, h.g0, by have := h.g1; omega, fun q => by
    obtain ⟨j, hj, a1, a2, a3⟩ := h.gl q
    exact ⟨j, hj, a1, by omega, a3⟩⟩
/-- The run of the box at k. -/
theorem LwAt.run {al : List It} {wd : Int} {a b k n : Nat} {gl : Int} (h : LwAt al wd a b k n gl) (hA : Alt al) (hL : LnAt al wd a b) (hk : k < al.length) (hb : k < b) (h1 : al[k].kind = 1) :
    ∃ p : Int, (rnTo al wd 7 a b (mustP al b) b)[n]? = some (rnOf al[k] p) ∧ 7 ≤ p ∧ p + al[k].width ≤ 7 + wd ∧ (0 < n → ∃ r, (rnTo al wd 7 a b (mustP al b) b)[n - 1]? = some r ∧ 0 ≤ p - r.x - r.width ∧ (0 < p - r.x - r.width ↔ ∃ hj : k - 1 < al.length, 0 < k ∧ (al[k - 1]).kind = 2)) := by
  refine ⟨posP al wd 7 a b (mustP al b) k, ?_, (run_in hA hL h.ak hb hk h1).1, (run_in hA hL h.ak hb hk h1).2, fun hn => ?_⟩
  · rw [h.num]
    exact rn_at hk h.ak hb h1
  · have hak : a < k := by
      rcases Nat.lt_or_ge a k with q | q
      · exact q
      · have := h.num
        rw [rn_low q] at this
        simp at this
        omega
    obtain ⟨r, hr, g1, g2⟩ := run_gap (x := 7) (last := mustP al b) hA hL hak hb hk h1
    refine ⟨r, ?_, g1, ?_⟩
    · obtain ⟨s, hs⟩ := rn_pre (l := al) (wd := wd) (x := 7) (a := a) (b := b) (last := mustP al b) (i := k) (j := b) (by omega)
      rw [hs, List.getElem?_append_left (by rw [← h.num]; omega), h.num, ← List.getLast?_eq_getElem?]
      exact hr
    · rw [g2]
      exact ⟨fun q => ⟨by omega, by omega, q⟩, fun ⟨_, _, q⟩ => q⟩
/-- A line that isn't a last one, with a glue: its last run. -/
theorem LwAt.full {al : List It} {wd : Int} {a b n : Nat} {gl : Int} (h : LwAt al wd a b b n gl) (hA : Alt al) (hL : LnAt al wd a b) (hm : mustP al b = false) (hg : 0 < gl) :
    0 < n ∧ ∃ r, (rnTo al wd 7 a b (mustP al b) b)[n - 1]? = some r ∧ r.x + r.width = 7 + wd := by
  obtain ⟨j, hj, a1, a2, a3⟩ := h.gl hg
  obtain ⟨r, hr, e⟩ := run_full (x := 7) hA hL a1 a2 hj a3
  have hn := h.num
  rw [hm] at hn ⊢
  have hpos : 0 < n := by
    rcases Nat.eq_zero_or_pos n with q | q
    · rw [q] at hn
      rw [List.eq_nil_of_length_eq_zero hn.symm] at hr
      cases hr
    · exact q
  refine ⟨hpos, r, ?_, e⟩
  rw [hn, ← List.getLast?_eq_getElem?]
  exact hr
end Go.Proofs.YtfnkokfkhjdkfaaDoor

/-
  Contracts of the document's room and part.
-/
namespace Go.Proofs.YtfnkokfkhjdkfaaDoor
open Go.RowKit Go.Lib Go.Maps

/-- What room tells: as many codes as have room. -/
def RoomQ (f sz r : Int) (c : List UInt8) (W : World) (e : Ending) (w' : World) : Prop := ∃ n : Nat, e = .returned (.int .i64 n) ∧ n ≤ c.length ∧ (∀ j, 0 < j → j ≤ n → runL f sz (c.take j) ≤ r) ∧ (n < c.length → r < runL f sz (c.take (n + 1))) ∧ Keeps W w'
theorem rext_take (cs : ByteArray) (c : List UInt8) (h : cs.data.toList = c) (m : Nat) : (cs.extract 0 m).data.toList = c.take m := by
  rw [Lib.extract_data, h]
  simp
set_option maxRecDepth 100000 in
set_option maxHeartbeats 8000000 in
theorem rroom_any (k w g s co f sz lk r : Int) (c : List UInt8) (cs : ByteArray) (hcs : cs.data.toList = c) (W : World) (hc : c.length ≤ 100000) (s1 : 0 ≤ sz) (s2 : sz ≤ 2147483648) (hF : FntR W) :
    Calls Tryd.prog 23 #[.agg #[.int .i64 k, .int .i64 w, .int .i64 g, .int .i64 s, .int .i64 co, .string cs, .int .i64 f, .int .i64 sz, .int .i64 lk], .int .i64 r] W (RoomQ f sz r c W) := by
  have hsz : cs.size = c.length := by rw [← hcs]; exact (bytes_len cs).symm
  have RA := Lib.hid (fun m (hm : m ≤ cs.size) W1 (q : Keeps W W1) => rrun_any f sz (cs.extract 0 m) W1 (by rw [ByteArray.size_extract]; omega) s1 s2 (hF.keep q))
  have ET := Lib.hid (fun m => rext_take cs c hcs m)
  have K0 := Lib.hid ((Keeps.refl W).alloc (.cells #[.int .i64 k, .int .i64 w, .int .i64 g, .int .i64 s, .int .i64 co, .string cs, .int .i64 f, .int .i64 sz, .int .i64 lk] 42))
  have B0 := Lib.hid (Blk.new W 42 #[.int .i64 k, .int .i64 w, .int .i64 g, .int .i64 s, .int .i64 co, .string cs, .int .i64 f, .int .i64 sz, .int .i64 lk])
  have HSZ := Lib.hid hsz
  obtain ⟨N, hN⟩ : ∃ N, cs.size = N := ⟨_, rfl⟩
  have HNS := Lib.hid hN
  have hN1 : N ≤ 100000 := by omega
  unfold RoomQ
  clear hcs hsz hF hN
  go_enter Tryd.func23, Tryd.ntmps23
  go_wp2_with fail
  go_loopw [5] (fun y wr => ∃ n : Nat, n ≤ cs.size ∧ y = .int .i64 n ∧ Hid (∀ j, 0 < j → j ≤ n → runL f sz (c.take j) ≤ r) ∧ Hid (Blk wr W.heap.size 42 #[.int .i64 k, .int .i64 w, .int .i64 g, .int .i64 s, .int .i64 co, .string cs, .int .i64 f, .int .i64 sz, .int .i64 lk]) ∧ Hid (Keeps W wr)) (fun y _ => cs.size - (RowKit.intOf y).toNat)
  case atStart => exact ⟨0, Nat.zero_le _, rfl, Lib.hid (fun j h1 h2 => by omega), B0, K0⟩
  case round =>
    obtain ⟨n, hn, rfl, HI, HB, HK⟩ := hrel
    have x5 := HB.out.cell 5 (v := .string cs) rfl
    have x6 := HB.out.cell 6 (v := .int .i64 f) rfl
    have x7 := HB.out.cell 7 (v := .int .i64 sz) rfl
    obtain ⟨L, hL⟩ : ∃ L : List (Addr × Value), L = [(⟨W.heap.size, 5, none⟩, .string cs), (⟨W.heap.size, 6, none⟩, .int .i64 f), (⟨W.heap.size, 7, none⟩, .int .i64 sz)] := ⟨_, rfl⟩
    have C0 : ∀ q ∈ L, wr.cell? q.1 = some q.2 := by rw [hL]; exact cells_cons x5 (cells_cons x6 (cells_cons x7 (cells_nil _)))
    have NE : Nonempty (InS (CellsK L wr)) := ⟨⟨_, CellsK.start C0⟩⟩
    have G5 : ∀ x : InS (CellsK L wr), x.w.cell? ⟨W.heap.size, 5, none⟩ = some (.string cs) := fun x => x.ok.cells (_, _) (by rw [hL]; simp)
    have G6 : ∀ x : InS (CellsK L wr), x.w.cell? ⟨W.heap.size, 6, none⟩ = some (.int .i64 f) := fun x => x.ok.cells (_, _) (by rw [hL]; simp)
    have G7 : ∀ x : InS (CellsK L wr), x.w.cell? ⟨W.heap.size, 7, none⟩ = some (.int .i64 sz) := fun x => x.ok.cells (_, _) (by rw [hL]; simp)
    clear hL x5 x6 x7
    by_cases hlt : n < cs.size
    · obtain ⟨m, hm⟩ : ∃ m, m = n + 1 := ⟨_, rfl⟩
      have RM : Hid (∀ x : InS (CellsK L wr), Calls Tryd.prog 43 #[.int .i64 f, .int .i64 sz, .string (cs.extract 0 m)] x.w fun e w' => e = .returned (.int .i64 (runL f sz (c.take m))) ∧ x.w = w') := Lib.hid (fun x => by
        rw [← ET.out m]
        exact RA.out m (by omega) x.w (HK.out.trans x.ok.since))
      have hw : IntKind.i64.wrap ((n : Int) + 1) = (m : Int) := by rw [IntWalk.i64_in _ (by have := HNS.out; omega)]; omega
      have t1 : decide ((n : Int) < (cs.size : Int)) = true := decide_eq_true (by omega)
      have t2 : decide (n < cs.size) = true := decide_eq_true hlt
      have m0 : (0 : Int) ≤ (m : Int) := by omega
      have m1 : (m : Int) ≤ (cs.size : Int) := by omega
      have HM := Lib.hid hm
      have HLT := Lib.hid hlt
      by_cases a : runL f sz (c.take m) ≤ r
      · have HI2 : Hid (∀ j, 0 < j → j ≤ m → runL f sz (c.take j) ≤ r) := Lib.hid (fun j h1 h2 => by
          by_cases e : j = m
          · rw [e]; exact a
          · exact HI.out j h1 (by have := HM.out; omega))
        have ta := decide_eq_true a
        clear hm a hlt
        generalize runL f sz (c.take m) = d at *
        go_wp2_with fail
        refine wp_region_class (CellsK L wr) (by kernel_rfl) (by kernel_rfl) (CellsK.start C0) ?_
        repeat (go_big_quiet_step ((go_at_call 43; exact class_same (RM.out _))))
        refine wpQuiet_nil ?_
        rintro w5 ⟨⟨w6, h6⟩, rfl⟩
        have B6 := Lib.hid (HB.out.keep h6.since)
        have K6 := Lib.hid (HK.out.trans h6.since)
        clear NE G5 G6 G7 C0 h6
        go_wp2_with fail
        go_roundw
        case rel => exact ⟨m, by have := HM.out; have := HLT.out; omega, rfl, HI2, B6, K6⟩
        case measure => simp only [RowKit.intOf]; have := HM.out; have := HLT.out; omega
      · have HO : Hid (n < c.length → r < runL f sz (c.take (n + 1))) := Lib.hid (fun _ => by rw [← hm]; omega)
        have HNC : Hid (n ≤ c.length) := Lib.hid (by rw [← HSZ.out]; omega)
        have ta := decide_eq_false a
        clear hm a hlt
        generalize runL f sz (c.take m) = d at *
        go_wp2_with fail
        refine wp_region_class (CellsK L wr) (by kernel_rfl) (by kernel_rfl) (CellsK.start C0) ?_
        repeat (go_big_quiet_step ((go_at_call 43; exact class_same (RM.out _))))
        refine wpQuiet_nil ?_
        rintro w5 ⟨⟨w6, h6⟩, rfl⟩
        have K6 := Lib.hid (HK.out.trans h6.since)
        clear NE G5 G6 G7 C0 h6
        go_wp2_with fail
        go_ret
        exact ⟨n, rfl, HNC.out, HI.out, HO.out, K6.out⟩
    · have t1 : decide ((n : Int) < (cs.size : Int)) = false := decide_eq_false (by omega)
      have t2 : decide (n < cs.size) = false := decide_eq_false hlt
      have HO : Hid (n < c.length → r < runL f sz (c.take (n + 1))) := Lib.hid (fun q => absurd q (by rw [← HSZ.out]; exact hlt))
      have HNC : Hid (n ≤ c.length) := Lib.hid (by rw [← HSZ.out]; omega)
      clear hlt
      go_wp2_with fail
      refine wp_region_class (CellsK L wr) (by kernel_rfl) (by kernel_rfl) (CellsK.start C0) ?_
      repeat (go_big_quiet_step (fail))
      refine wpQuiet_nil ?_
      rintro w5 ⟨⟨w6, h6⟩, rfl⟩
      have K6 := Lib.hid (HK.out.trans h6.since)
      clear NE G5 G6 G7 C0 h6
      go_wp2_with fail
      go_ret
      exact ⟨n, rfl, HNC.out, HI.out, HO.out, K6.out⟩
set_option maxRecDepth 100000 in
set_option maxHeartbeats 8000000 in
theorem rpart_any (f sz lk w : Int) (cs ds : ByteArray) (W : World) (hd : ds.size ≤ 100000) (s1 : 0 ≤ sz) (s2 : sz ≤ 2147483648) (hF : FntR W) :
    Calls Tryd.prog 24 #[.agg #[.int .i64 1, .int .i64 w, .int .i64 0, .int .i64 0, .int .i64 0, .string cs, .int .i64 f, .int .i64 sz, .int .i64 lk], .string ds] W fun e w' => e = .returned (.agg #[.int .i64 1, .int .i64 (runL f sz ds.data.toList), .int .i64 0, .int .i64 0, .int .i64 0, .string ds, .int .i64 f, .int .i64 sz, .int .i64 lk]) ∧ Keeps W w' := by
  have RA := Lib.hid (fun W1 (q : Keeps W W1) => rrun_any f sz ds W1 hd s1 s2 (hF.keep q))
  generalize runL f sz ds.data.toList = d at *
  have KK := Lib.hid (fun o o2 => keeps_two W o o2)
  go_enter Tryd.func24, Tryd.ntmps24
  go_wp2_with fail
  refine (RA.out _ (KK.out _ _)).mono ?_
  rintro e w1 ⟨rfl, rfl⟩
  go_wp2_with fail
  exact ret_blk rfl rfl rfl (blk_two _ _ _ _) Tryd.underlying42 (by kernel_rfl) ⟨rfl, KK.out _ _⟩
end Go.Proofs.YtfnkokfkhjdkfaaDoor

/-
  Contract of the document's box.
-/
namespace Go.Proofs.YtfnkokfkhjdkfaaDoor
open Go.RowKit Go.Lib Go.Maps

section
variable {w0 W : World} {sz : Int} {B : Nat} {v : Value} {its : List It} {nx : Int}
set_option maxRecDepth 100000 in
set_option maxHeartbeats 16000000 in
theorem rbox_any (s : ByteArray) (f lk : Int) (h : Mr w0 sz W B v its nx) (hs : s.size ≤ 100000) (hl : its.length ≤ 999999) (z1 : 0 ≤ sz) (z2 : sz ≤ 2147483648) (hF : FntR w0) :
    Calls Tryd.prog 63 #[.pointer (some ⟨B, 0, none⟩), .string s, .int .i64 f, .int .i64 lk] W fun e w' => e = .returned (.tuple #[]) ∧ PostMr w0 sz W B v (wordP sz ⟨f, lk, false⟩ s.data.toList its) nx w' := by
  by_cases c0 : s.data.toList = []
  · have te : s.toList.isEmpty = true := by rw [Lib.toList_data, c0]; rfl
    have te2 : (s.toList == []) = true := by rw [Lib.toList_data, c0]; rfl
    have FIN := Lib.hid (show PostMr w0 sz W B v (wordP sz ⟨f, lk, false⟩ s.data.toList its) nx W by unfold wordP; rw [if_pos c0]; exact h.post (Keeps.refl _))
    clear h c0
    go_enter Tryd.func63, Tryd.ntmps63
    go_wp2_with fail
    go_end0
    exact ⟨rfl, FIN.out⟩
  · have te : s.toList.isEmpty = false := by rw [List.isEmpty_eq_false_iff, Lib.toList_data]; exact c0
    have te2 : (s.toList == []) = false := by
      cases h : s.toList with
      | nil => rw [h] at te; cases te
      | cons _ _ => rfl
    have CO := Lib.hid (rcodes_any s W hs)
    have hcl : (codesL s.data.toList).length ≤ 100000 := by have := codes_le s.data.toList; rw [bytes_len] at this; omega
    have ew : wordP sz ⟨f, lk, false⟩ s.data.toList its = its ++ [itBox sz ⟨f, lk, false⟩ (codesL s.data.toList)] := by unfold wordP; rw [if_neg c0]
    rw [ew]
    clear ew c0
    generalize codesL s.data.toList = c at *
    have HM := Lib.hid (fun W1 (k : Keeps W W1) => (h.to k).made (itBox sz ⟨f, lk, false⟩ c) (Nat.le_succ_of_le hl))
    have HB := Lib.hid (fun W1 (k : Keeps W W1) => (h.own.keep k).box.cell 0 (v := v) rfl)
    have HZ := Lib.hid (fun W1 (k : Keeps W W1) => (h.own.keep k).box.cell 1 (v := .int .i64 sz) rfl)
    have HP := Lib.hid (fun W1 (k : Keeps W W1) W' (q : PostMr w0 sz W1 B v (its ++ [itBox sz ⟨f, lk, false⟩ c]) nx W') => PostMr.from k q)
    have RA := Lib.hid (fun W1 (k : Keeps W W1) => rrun_any f sz ⟨c.toArray⟩ W1 (by show c.toArray.size ≤ _; simp; exact hcl) z1 z2 (hF.keep (h.keep.trans k)))
    rw [show (⟨c.toArray⟩ : ByteArray).data.toList = c by simp] at RA
    obtain ⟨A, cap, hv, _, _⟩ := row_form h.own.row
    subst hv
    unfold itBox at *
    simp only at *
    generalize runL f sz c = d at *
    clear h hcl
    obtain ⟨cb, hcb⟩ : ∃ cb : ByteArray, (⟨c.toArray⟩ : ByteArray) = cb := ⟨_, rfl⟩
    rw [hcb] at CO HM RA
    clear hcb
    go_enter Tryd.func63, Tryd.ntmps63
    go_wp2_with fail
    refine CO.out.mono ?_
    rintro e w1 ⟨rfl, k1⟩
    have K1 := k1.drew
    obtain ⟨A8, c8, w8, ra, b8, p8⟩ := HM.out w1.drew K1
    have R1 := RA.out w1.drew K1
    have y0 := HB.out w1.drew K1
    have y1 := HZ.out w1.drew K1
    have y4 := HB.out w1 k1
    have y5 := HZ.out w1 k1
    have y6 := HZ.out _ (k1.alloc (.cells #[.int .i64 1, .int .i64 d, .int .i64 0, .int .i64 0, .int .i64 0, .string cb, .int .i64 f, .int .i64 sz, .int .i64 lk] 42))
    have y3 := HB.out _ (k1.alloc (.cells #[.int .i64 1, .int .i64 d, .int .i64 0, .int .i64 0, .int .i64 0, .string cb, .int .i64 f, .int .i64 sz, .int .i64 lk] 42))
    have y2 := b8.cell 0 (v := .slice A its.length cap) rfl
    have yf := b8.free 0
    have FIN := Lib.hid (HP.out w1.drew K1 _ p8)
    clear p8 b8 k1 CO HM RA HB HZ HP
    go_wp2_with fail
    go_region_law (first
      | (refine step_append_run' rfl (.tmp 17) (.tmp 33) _ _ rfl _ _ (by simp [Act.eval]) (by simp [Act.eval]) _ _ ra ?_)
      | (go_simp; go_at_call 43; (with_reducible refine R1.mono ?_); rintro e w2 ⟨rfl, rfl⟩))
    all_goals
      go_end0
      exact ⟨rfl, FIN.out⟩
end
end Go.Proofs.YtfnkokfkhjdkfaaDoor

/-
  Contracts of the document's text, slanted and thick.
-/
namespace Go.Proofs.YtfnkokfkhjdkfaaDoor
open Go.RowKit Go.Lib Go.Maps

theorem bneI {x y : Int} (h : x ≠ y) : (x != y) = true := by rw [bne_iff_ne]; exact h
set_option maxRecDepth 100000 in
theorem rslant_any (f : Int) (W : World) : Calls Tryd.prog 36 #[.int .i64 f] W fun e w' => e = .returned (.int .i64 (slF f)) ∧ W = w' := by
  unfold slF
  by_cases h0 : f = 0
  · subst h0
    go_enter Tryd.func36, Tryd.ntmps36
    go_wp2_with fail
    go_ret
    exact ⟨rfl, rfl⟩
  · have t0 : (f == 0) = false := beqF h0
    rw [if_neg h0]
    by_cases h1 : f = 1
    · subst h1
      go_enter Tryd.func36, Tryd.ntmps36
      go_wp2_with fail
      go_ret
      exact ⟨rfl, rfl⟩
    · have t1 : (f == 1) = false := beqF h1
      rw [if_neg h1]
      go_enter Tryd.func36, Tryd.ntmps36
      go_wp2_with fail
      go_ret
      exact ⟨rfl, rfl⟩
set_option maxRecDepth 100000 in
theorem rthick_any (f : Int) (W : World) : Calls Tryd.prog 37 #[.int .i64 f] W fun e w' => e = .returned (.int .i64 (bdF f)) ∧ W = w' := by
  unfold bdF
  by_cases h0 : f = 0
  · subst h0
    go_enter Tryd.func37, Tryd.ntmps37
    go_wp2_with fail
    go_ret
    exact ⟨rfl, rfl⟩
  · have t0 : (f == 0) = false := beqF h0
    rw [if_neg h0]
    by_cases h1 : f = 2
    · subst h1
      go_enter Tryd.func37, Tryd.ntmps37
      go_wp2_with fail
      go_ret
      exact ⟨rfl, rfl⟩
    · have t1 : (f == 2) = false := beqF h1
      rw [if_neg h1]
      go_enter Tryd.func37, Tryd.ntmps37
      go_wp2_with fail
      go_ret
      exact ⟨rfl, rfl⟩
section
variable {w0 W : World} {sz : Int} {B : Nat} {v : Value} {its : List It} {nx : Int}
set_option maxRecDepth 100000 in
set_option maxHeartbeats 8000000 in
theorem rtext_any (t : ByteArray) (f lk : Int) (h : Mr w0 sz W B v its nx) (ht : t.size ≤ 100000) (hl : its.length + 2 * t.size ≤ 999990) (z1 : 0 ≤ sz) (z2 : sz ≤ 2147483648) (hF : FntR w0) :
    Calls Tryd.prog 34 #[.pointer (some ⟨B, 0, none⟩), .string t, .int .i64 f, .int .i64 lk] W fun e w' => e = .returned (.tuple #[]) ∧ PostMr w0 sz W B v (txtP sz ⟨f, lk, false⟩ [] t.data.toList its) nx w' := by
  have HL := Lib.hid (bytes_len t)
  have H0 := Lib.hid h
  have HW := Lib.hid (fun W1 v1 its1 (m : Mr w0 sz W1 B v1 its1 nx) (x : ByteArray) (a : its1.length ≤ 999999) (b : x.size ≤ 100000) => rbox_any x f lk m b a z1 z2 hF)
  have HG := Lib.hid (fun W1 v1 its1 (m : Mr w0 sz W1 B v1 its1 nx) (a : its1.length ≤ 999999) => rglue_any f m a z1 z2 hF)
  have WL := Lib.hid (fun x l => word_len sz ⟨f, lk, false⟩ x l)
  have GL := Lib.hid (fun l => glue_len sz ⟨f, lk, false⟩ l)
  have E0 : Hid ((0 ≤ t.size ∧ 0 ≤ 0 ∧ txtP sz ⟨f, lk, false⟩ ((t.data.toList.take 0).drop 0) (t.data.toList.drop 0) its = txtP sz ⟨f, lk, false⟩ [] t.data.toList its) ∨ (0 = t.size + 1 ∧ its = txtP sz ⟨f, lk, false⟩ [] t.data.toList its)) := Lib.hid (.inl ⟨Nat.zero_le _, Nat.le_refl _, rfl⟩)
  have ES : Hid (∀ j k : Nat, k ≤ t.size → (t.extract j k).data.toList = (t.data.toList.take k).drop j) := Lib.hid (fun j k _ => by rw [Lib.extract_data, ← List.drop_take])
  clear h hF
  go_enter Tryd.func34, Tryd.ntmps34
  go_wp2_with fail
  go_loopw [8, 9] (fun x y wr => ∃ (j k : Nat) (v1 : Value) (its1 : List It), k ≤ t.size + 1 ∧ x = .int .i64 j ∧ y = .int .i64 k ∧ Hid (Mr w0 sz wr B v1 its1 nx) ∧ Hid (Mvd W wr B v v1) ∧ its1.length ≤ its.length + 2 * k ∧ Hid ((k ≤ t.size ∧ j ≤ k ∧ txtP sz ⟨f, lk, false⟩ ((t.data.toList.take k).drop j) (t.data.toList.drop k) its1 = txtP sz ⟨f, lk, false⟩ [] t.data.toList its) ∨ (k = t.size + 1 ∧ its1 = txtP sz ⟨f, lk, false⟩ [] t.data.toList its))) (fun _ y _ => t.size + 1 - (RowKit.intOf y).toNat)
  case atStart => exact ⟨0, 0, v, its, Nat.zero_le _, rfl, rfl, H0, Lib.hid (Mvd.refl _ _ _), by omega, E0⟩
  case round =>
    obtain ⟨j, k, v1, its1, hkn, rfl, rfl, HM, HV, hln, HT⟩ := hrel
    rcases HT.out with ⟨hk1, hjk, hT⟩ | ⟨hk1, hT⟩
    · have tc : decide ((k : Int) ≤ (t.size : Int)) = true := decide_eq_true (by omega)
      have e1 : (0 : Int) ≤ (j : Int) := by omega
      have e2 : (j : Int) ≤ (k : Int) := by omega
      have e3 : (k : Int) ≤ (t.size : Int) := by omega
      by_cases c : k < t.size
      · have tk : decide ((k : Int) < (t.size : Int)) = true := decide_eq_true (by omega)
        have hk' : k < t.data.toList.length := by rw [HL.out]; exact c
        have hg : t.data.toList[k] = t[k] := rfl
        have i0 : (0 : Int) ≤ (k : Int) := by omega
        have i1 : (k : Int) < (t.size : Int) := by omega
        have hbk : blankB t[k] ↔ t[k].toNat = 32 ∨ t[k].toNat = 9 ∨ t[k].toNat = 10 := Iff.rfl
        have HBK := Lib.hid hbk
        obtain ⟨x, hx⟩ : ∃ x : Nat, t[k].toNat = x := ⟨_, rfl⟩
        have HXE := Lib.hid hx
        clear hbk
        by_cases b1 : x = 32
        · have hb : blankB t[k] := HBK.out.2 (by rw [HXE.out]; omega)
          subst b1
          have HN := Lib.hid (txt_blank hk' (by rw [hg]; exact hb) hT)
          have CW := Lib.hid (HW.out _ _ _ HM.out (t.extract j k) (by omega) (by rw [ByteArray.size_extract]; omega))
          rw [ES.out j k (by omega)] at CW
          have hw2 := WL.out ((t.data.toList.take k).drop j) its1
          have hw3 := GL.out (wordP sz ⟨f, lk, false⟩ ((t.data.toList.take k).drop j) its1)
          generalize wordP sz ⟨f, lk, false⟩ ((t.data.toList.take k).drop j) its1 = its2 at *
          clear hb hT
          go_wp2_with fail
          refine CW.out.mono ?_
          rintro e w2 ⟨rfl, v2, m2, q2⟩
          have CG := HG.out _ _ _ m2 (by omega)
          rw [glue_img sz f 0 lk false false] at CG
          have V2 := Lib.hid (HV.out.trans q2)
          clear m2 q2
          go_wp2_with fail
          refine CG.mono ?_
          rintro e w3 ⟨rfl, v3, m3, q3⟩
          have V3 := Lib.hid (V2.out.trans q3)
          have M3 := Lib.hid m3
          clear q3 m3
          go_wp2_with fail
          go_roundw
          case rel => exact ⟨k + 1, k + 1, v3, _, by omega, by go_num, by go_num, M3, V3, by omega, Lib.hid (.inl ⟨by omega, Nat.le_refl _, HN.out⟩)⟩
          case measure => simp only [RowKit.intOf]; omega
        by_cases b2 : x = 9
        · have hb : blankB t[k] := HBK.out.2 (by rw [HXE.out]; omega)
          subst b2
          clear b1
          have HN := Lib.hid (txt_blank hk' (by rw [hg]; exact hb) hT)
          have CW := Lib.hid (HW.out _ _ _ HM.out (t.extract j k) (by omega) (by rw [ByteArray.size_extract]; omega))
          rw [ES.out j k (by omega)] at CW
          have hw2 := WL.out ((t.data.toList.take k).drop j) its1
          have hw3 := GL.out (wordP sz ⟨f, lk, false⟩ ((t.data.toList.take k).drop j) its1)
          generalize wordP sz ⟨f, lk, false⟩ ((t.data.toList.take k).drop j) its1 = its2 at *
          clear hb hT
          go_wp2_with fail
          refine CW.out.mono ?_
          rintro e w2 ⟨rfl, v2, m2, q2⟩
          have CG := HG.out _ _ _ m2 (by omega)
          rw [glue_img sz f 0 lk false false] at CG
          have V2 := Lib.hid (HV.out.trans q2)
          clear m2 q2
          go_wp2_with fail
          refine CG.mono ?_
          rintro e w3 ⟨rfl, v3, m3, q3⟩
          have V3 := Lib.hid (V2.out.trans q3)
          have M3 := Lib.hid m3
          clear q3 m3
          go_wp2_with fail
          go_roundw
          case rel => exact ⟨k + 1, k + 1, v3, _, by omega, by go_num, by go_num, M3, V3, by omega, Lib.hid (.inl ⟨by omega, Nat.le_refl _, HN.out⟩)⟩
          case measure => simp only [RowKit.intOf]; omega
        by_cases b3 : x = 10
        · have hb : blankB t[k] := HBK.out.2 (by rw [HXE.out]; omega)
          subst b3
          clear b1 b2
          have HN := Lib.hid (txt_blank hk' (by rw [hg]; exact hb) hT)
          have CW := Lib.hid (HW.out _ _ _ HM.out (t.extract j k) (by omega) (by rw [ByteArray.size_extract]; omega))
          rw [ES.out j k (by omega)] at CW
          have hw2 := WL.out ((t.data.toList.take k).drop j) its1
          have hw3 := GL.out (wordP sz ⟨f, lk, false⟩ ((t.data.toList.take k).drop j) its1)
          generalize wordP sz ⟨f, lk, false⟩ ((t.data.toList.take k).drop j) its1 = its2 at *
          clear hb hT
          go_wp2_with fail
          refine CW.out.mono ?_
          rintro e w2 ⟨rfl, v2, m2, q2⟩
          have CG := HG.out _ _ _ m2 (by omega)
          rw [glue_img sz f 0 lk false false] at CG
          have V2 := Lib.hid (HV.out.trans q2)
          clear m2 q2
          go_wp2_with fail
          refine CG.mono ?_
          rintro e w3 ⟨rfl, v3, m3, q3⟩
          have V3 := Lib.hid (V2.out.trans q3)
          have M3 := Lib.hid m3
          clear q3 m3
          go_wp2_with fail
          go_roundw
          case rel => exact ⟨k + 1, k + 1, v3, _, by omega, by go_num, by go_num, M3, V3, by omega, Lib.hid (.inl ⟨by omega, Nat.le_refl _, HN.out⟩)⟩
          case measure => simp only [RowKit.intOf]; omega
        have u1 : ((x : Int) != 32) = true := bneI (by omega)
        have w1 : ¬ (x : Int) = 32 := by omega
        have u2 : ((x : Int) != 9) = true := bneI (by omega)
        have w2 : ¬ (x : Int) = 9 := by omega
        have u3 : ((x : Int) != 10) = true := bneI (by omega)
        have w3 : ¬ (x : Int) = 10 := by omega
        have hb : ¬ blankB t[k] := fun q => by have := HBK.out.1 q; rw [HXE.out] at this; omega
        have HN := Lib.hid (txt_more hk' hjk (by rw [hg]; exact hb) hT)
        clear hb hT b1 b2 b3
        go_wp2_with fail
        go_roundw
        case rel => exact ⟨j, k + 1, v1, its1, by omega, rfl, by go_num, HM, HV, by omega, Lib.hid (.inl ⟨by omega, by omega, HN.out⟩)⟩
        case measure => simp only [RowKit.intOf]; omega
      · have tk : decide ((k : Int) < (t.size : Int)) = false := decide_eq_false (by omega)
        have hkk : k = t.data.toList.length := by rw [HL.out]; omega
        rw [hkk] at hT
        have HN := Lib.hid (txt_end hT)
        have hks : k = t.size := by omega
        have ex : (t.extract j k).data.toList = t.data.toList.drop j := by rw [ES.out j k (by omega), hks, List.take_of_length_le (Nat.le_of_eq HL.out)]
        have CW := Lib.hid (HW.out _ _ _ HM.out (t.extract j k) (by omega) (by rw [ByteArray.size_extract]; omega))
        rw [ex, HN.out] at CW
        have WL2 := WL.out (t.data.toList.drop j) its1
        rw [HN.out] at WL2
        have HKS := Lib.hid hks
        clear hkk ex hT hks
        go_wp2_with fail
        refine CW.out.mono ?_
        rintro e w2 ⟨rfl, v2, m2, q2⟩
        have V2 := Lib.hid (HV.out.trans q2)
        have M2 := Lib.hid m2
        clear m2 q2
        go_wp2_with fail
        go_roundw
        case rel => exact ⟨k + 1, k + 1, v2, _, by omega, by go_num, by go_num, M2, V2, by omega, Lib.hid (.inr ⟨by have := HKS.out; omega, rfl⟩)⟩
        case measure => simp only [RowKit.intOf]; omega
    · have tc : decide ((k : Int) ≤ (t.size : Int)) = false := decide_eq_false (by omega)
      have FIN : PostMr w0 sz W B v (txtP sz ⟨f, lk, false⟩ [] t.data.toList its) nx wr := ⟨v1, by rw [← hT]; exact HM.out, HV.out⟩
      have FIN := Lib.hid FIN
      clear hT
      go_wp2_with fail
      go_end0
      exact ⟨rfl, FIN.out⟩
end
end Go.Proofs.YtfnkokfkhjdkfaaDoor

/-
  What the document's spans make is not too long; its image, given what its spans do with the kids.
-/
namespace Go.Proofs.YtfnkokfkhjdkfaaDoor
open Go.RowKit Go.Lib Go.Maps

theorem relL_len (n : Nat) (lk : Int) (L : List It) : (relL n lk L).length = L.length := by
  unfold relL
  rw [List.length_append, List.length_take, List.length_map, List.length_drop]
  omega
theorem relL_none {n : Nat} {lk : Int} {L : List It} (h : L.length ≤ n) : relL n lk L = L := by
  unfold relL
  rw [List.drop_of_length_le h, List.take_of_length_le h]
  simp
mutual
theorem rS_len (sz : Int) : ∀ (x : St) (f lk : Int) (p : List It × Int), (rS sz x f lk p).1.length ≤ p.1.length + 2 * wS x ∧ p.2 ≤ (rS sz x f lk p).2 ∧ (rS sz x f lk p).2 ≤ p.2 + wS x
  | .mk k t _ _ ks, f, lk, p => by
    have a1 := txt_len sz ⟨f, max 0 lk, false⟩ t [] p.1
    have a2 := txt_len sz ⟨4, max 0 lk, false⟩ t [] p.1
    have a3 := glue_len sz ⟨f, 0, false⟩ p.1
    have a4 := brk_len p.1
    have b1 := rL_len sz ks (slF f) lk p
    have b2 := rL_len sz ks (bdF f) lk p
    have b3 := rL_len sz ks f lk p
    have b4 := rL_len sz ks f p.2 (p.1, p.2 + 1)
    have b5 := rL_len sz ks f (-1) p
    have b6 := relL_len p.1.length lk (rL sz ks f (-1) p).1
    simp only at b4
    rw [rS, wS]
    repeat' split
    all_goals first | (refine ⟨?_, ?_, ?_⟩ <;> simp only <;> omega) | omega
theorem rL_len (sz : Int) : ∀ (l : List St) (f lk : Int) (p : List It × Int), (rL sz l f lk p).1.length ≤ p.1.length + 2 * wL l ∧ p.2 ≤ (rL sz l f lk p).2 ∧ (rL sz l f lk p).2 ≤ p.2 + wL l
  | [], f, lk, p => by rw [rL, wL]; omega
  | x :: l, f, lk, p => by
    have h1 := rS_len sz x f lk p
    have h2 := rL_len sz l f lk (rS sz x f lk p)
    rw [rL, wL]
    omega
end
theorem rl_app (sz : Int) : ∀ (a b : List St) (f lk : Int) (p : List It × Int), rL sz (a ++ b) f lk p = rL sz b f lk (rL sz a f lk p)
  | [], b, f, lk, p => by rw [List.nil_append, rL]
  | x :: a, b, f, lk, p => by
    rw [List.cons_append, rL, rL, rl_app sz a b f lk]
theorem rl_next {sz : Int} {l : List St} {i : Nat} {x : St} (h : l[i]? = some x) (f lk : Int) (p : List It × Int) : rL sz (l.take (i + 1)) f lk p = rS sz x f lk (rL sz (l.take i) f lk p) := by
  obtain ⟨hi, hx⟩ := List.getElem?_eq_some_iff.1 h
  rw [List.take_succ_eq_append_getElem hi, rl_app, hx, rL, rL]
/-- What the document's spans has to do, with these kids, in the slice kv. -/
def RDo (w0 : World) (sz : Int) (ks : List St) (kv : Value) : Prop :=
  ∀ (f lk : Int) (W : World) (B : Nat) (v : Value) (its : List It) (nx : Int), Mr w0 sz W B v its nx → its.length + 2 * wL ks ≤ 190000 → 0 ≤ nx → nx + wL ks ≤ 4611686018427387904 →
    Calls Tryd.prog 20 #[.pointer (some ⟨B, 0, none⟩), kv, .int .i64 f, .int .i64 lk] W fun e w' => e = .returned (.tuple #[]) ∧ PostMr w0 sz W B v (rL sz ks f lk (its, nx)).1 (rL sz ks f lk (its, nx)).2 w'
section
variable {w0 W : World} {sz : Int} {B : Nat} {v : Value} {its : List It} {nx : Int} {ks : List St} {kv : Value}
theorem Mr.link {W : World} {g cap : Nat} (h : Mr w0 sz W B (.slice (some ⟨g, 0, none⟩) its.length cap) its nx) {i : Nat} (hi : i < its.length) (lk : Int) :
    Mr w0 sz (W.setCell ⟨g, i * 9 + 8, none⟩ (.int .i64 lk)) B (.slice (some ⟨g, 0, none⟩) its.length cap) (its.set i { its[i] with link := lk }) nx ∧ Mvd W (W.setCell ⟨g, i * 9 + 8, none⟩ (.int .i64 lk)) B (.slice (some ⟨g, 0, none⟩) its.length cap) (.slice (some ⟨g, 0, none⟩) its.length cap) := by
  obtain ⟨o, m⟩ := h.own.link hi lk
  exact ⟨⟨o, Below.trans h.keep (h.own.below m h.keep.size)⟩, m⟩
set_option maxRecDepth 100000 in
set_option maxHeartbeats 8000000 in
theorem rimage_do (f lk : Int) (hS : RDo w0 sz ks kv) (h : Mr w0 sz W B v its nx) (hl : its.length + 2 * wL ks ≤ 190000) (hn : 0 ≤ nx) (hm : nx + wL ks ≤ 4611686018427387904) :
    Calls Tryd.prog 38 #[.pointer (some ⟨B, 0, none⟩), kv, .int .i64 f, .int .i64 lk] W fun e w' => e = .returned (.tuple #[]) ∧ PostMr w0 sz W B v (if 0 < lk then (relL its.length lk (rL sz ks f (-1) (its, nx)).1, (rL sz ks f (-1) (its, nx)).2) else rL sz ks f (-1) (its, nx)).1 (if 0 < lk then (relL its.length lk (rL sz ks f (-1) (its, nx)).1, (rL sz ks f (-1) (its, nx)).2) else rL sz ks f (-1) (its, nx)).2 w' := by
  have CS := Lib.hid (hS f (-1) W B v its nx h hl hn hm)
  have hlen := (rL_len sz ks f (-1) (its, nx)).1
  simp only at hlen
  have b0 := h.own.box.cell 0 (v := v) rfl
  obtain ⟨A, cap, rfl, _, _⟩ := row_form h.own.row
  generalize rL sz ks f (-1) (its, nx) = R at *
  obtain ⟨L, n2⟩ := R
  simp only at CS hlen
  obtain ⟨N, hN⟩ : ∃ N, its.length = N := ⟨_, rfl⟩
  have HN := Lib.hid hN
  rw [hN] at b0 CS hl hlen ⊢
  obtain ⟨T, hT⟩ : ∃ T, (if 0 < lk then (relL N lk L, n2) else (L, n2)) = T := ⟨_, rfl⟩
  rw [hT]
  have HT := Lib.hid hT
  clear h hS hN hT
  go_enter Tryd.func38, Tryd.ntmps38
  go_wp2_with fail
  refine CS.out.mono ?_
  rintro e w2 ⟨rfl, v2, m2, q2⟩
  have hlc : L.length ≤ 200000 := by omega
  obtain ⟨A2, cap2, rfl, g1, g2⟩ := row_form m2.own.row
  have c0 := m2.own.box.cell 0 (v := .slice A2 L.length cap2) rfl
  have M2 := Lib.hid m2
  have Q2 := Lib.hid q2
  by_cases hq : N < L.length
  · by_cases hp : 0 < lk
    · have hT2 := HT.out
      rw [if_pos hp] at hT2
      have HT2 := Lib.hid hT2
      clear hT2
      obtain ⟨g, cap3, e3, _, _⟩ := m2.own.at_ (by omega)
      simp only [Value.slice.injEq, true_and] at e3
      obtain ⟨rfl, rfl⟩ := e3
      have tp : decide (0 < lk) = true := decide_eq_true hp
      obtain ⟨mm, hmm⟩ : ∃ mm, L.length = mm := ⟨_, rfl⟩
      have HMM := Lib.hid hmm
      have START : Hid (Mr w0 sz w2 B (.slice (some ⟨g, 0, none⟩) mm cap2) (relT N N lk L) n2) := Lib.hid (by rw [relT_start, ← hmm]; exact m2)
      have Q3 : Hid (Mvd W w2 B (.slice A N cap) (.slice (some ⟨g, 0, none⟩) mm cap2)) := Lib.hid (by rw [← hmm]; exact q2)
      rw [hmm] at c0 hq hlc g1
      clear m2 q2 M2 Q2 hmm hlen
      go_wp2_with fail
      go_loopw [9] (fun y wr => ∃ i : Nat, N ≤ i ∧ i ≤ mm ∧ y = .int .i64 i ∧ Hid (Mr w0 sz wr B (.slice (some ⟨g, 0, none⟩) mm cap2) (relT N i lk L) n2) ∧ Hid (Mvd W wr B (.slice A N cap) (.slice (some ⟨g, 0, none⟩) mm cap2))) (fun y _ => mm - (RowKit.intOf y).toNat)
      case atStart => exact ⟨N, Nat.le_refl _, by omega, rfl, START, Q3⟩
      case round =>
        obtain ⟨i, hi1, hi2, rfl, HM, HV⟩ := hrel
        have hm3 := HM.out
        have d0 := hm3.own.box.cell 0 (v := .slice (some ⟨g, 0, none⟩) mm cap2) rfl
        by_cases c : i < mm
        · have tc : decide ((i : Int) < (mm : Int)) = true := decide_eq_true (by omega)
          have hil : i < L.length := by rw [HMM.out]; exact c
          have hrl := relT_len (n := N) (i := i) (lk := lk) (L := L) hi1 (by omega)
          rw [HMM.out] at hrl
          have hir : i < (relT N i lk L).length := by omega
          have hget := relT_get (n := N) (lk := lk) hi1 hil
          rw [List.getElem?_eq_getElem hir] at hget
          injection hget with hget
          have hnx := relT_next (n := N) (lk := lk) hi1 hil
          have hm4 : Mr w0 sz wr B (.slice (some ⟨g, 0, none⟩) (relT N i lk L).length cap2) (relT N i lk L) n2 := by rw [hrl]; exact hm3
          have k0 := hm4.own.cell hir 0 (by decide)
          rw [hget] at k0
          have k1 : wr.cell? ⟨g, i * 9, none⟩ = some (.int .i64 L[i].kind) := k0
          have k8 := hm4.own.cell hir 8 (by decide)
          rw [hget] at k8
          have k9 : wr.cell? ⟨g, i * 9 + 8, none⟩ = some (.int .i64 L[i].link) := k8
          have lkk := hm4.link hir lk
          rw [hget, hrl] at lkk
          have i0 : (0 : Int) ≤ (i : Int) := by omega
          have i1 : (i : Int) < (mm : Int) := by omega
          by_cases hkd : L[i].kind = 1
          · have hrel : relB lk L[i] = { L[i] with link := lk } := by unfold relB; rw [if_pos hkd]
            rw [hrel] at hnx
            rw [← hnx] at lkk
            have FM := Lib.hid lkk.1
            have FV := Lib.hid (HV.out.trans lkk.2)
            have fz : wr.frozen? ⟨g, i * 9 + 8, none⟩ = false := by
              rcases hm4.own.row.2 with ⟨e, _⟩ | ⟨g', cap', cur, e, _, hg, _⟩
              · cases e
              · simp only [Value.slice.injEq, Option.some.injEq, Addr.mk.injEq, and_true, true_and] at e
                obtain ⟨rfl, _⟩ := e
                exact (show Blk wr g 42 cur from hg).free _
            rw [hkd] at k1
            generalize L[i].link = ol at *
            clear hm3 hm4 hrl hir hget hnx k0 k8 lkk hrel hkd hil
            go_wp2_with fail
            go_roundw
            case rel => exact ⟨i + 1, by omega, by omega, by go_num, FM, FV⟩
            case measure => simp only [RowKit.intOf]; omega
          · have hrel : relB lk L[i] = L[i] := by unfold relB; rw [if_neg hkd]
            rw [hrel, ← hget, List.set_getElem_self] at hnx
            have FM : Hid (Mr w0 sz wr B (.slice (some ⟨g, 0, none⟩) mm cap2) (relT N (i + 1) lk L) n2) := Lib.hid (by rw [hnx]; exact hm3)
            have tk : (L[i].kind == 1) = false := beqF hkd
            generalize L[i].kind = xk at *
            clear hm3 hm4 hrl hir hget hnx k0 k8 k9 lkk hrel hkd hil
            go_wp2_with fail
            go_roundw
            case rel => exact ⟨i + 1, by omega, by omega, by go_num, FM, HV⟩
            case measure => simp only [RowKit.intOf]; omega
        · have e : i = mm := by omega
          have tc : decide ((i : Int) < (mm : Int)) = false := decide_eq_false (by omega)
          have FIN : PostMr w0 sz W B (.slice A N cap) T.1 T.2 wr := by
            have hh : relT N i lk L = relL N lk L := by rw [e, ← HMM.out]; exact relT_end N lk L
            rw [hh] at hm3
            rw [← HT2.out]
            exact ⟨_, hm3, HV.out⟩
          have FIN := Lib.hid FIN
          clear hm3
          go_wp2_with fail
          go_end0
          exact ⟨rfl, FIN.out⟩
    · have hT2 := HT.out
      rw [if_neg hp] at hT2
      have tp : decide (0 < lk) = false := decide_eq_false hp
      have FIN := Lib.hid (show PostMr w0 sz W B (.slice A N cap) T.1 T.2 w2 by rw [← hT2]; exact ⟨_, M2.out, Q2.out⟩)
      clear hT2
      have tc : decide ((N : Int) < (L.length : Int)) = true := decide_eq_true (by omega)
      clear m2 q2
      go_wp2_with fail
      go_loop [9] (fun y => y = .int .i64 (N : Nat)) (fun _ => 0)
      case atStart => rfl
      case round =>
        have e9 := hrel
        subst e9
        go_wp2_with fail
        go_end0
        exact ⟨rfl, FIN.out⟩
  · have tc : decide ((N : Int) < (L.length : Int)) = false := decide_eq_false (by omega)
    have FIN : PostMr w0 sz W B (.slice A N cap) T.1 T.2 w2 := by
      rw [← HT.out, relL_none (by omega), ite_self]
      exact ⟨_, m2, q2⟩
    have FIN := Lib.hid FIN
    clear m2 q2
    go_wp2_with fail
    go_loop [9] (fun y => y = .int .i64 (N : Nat)) (fun _ => 0)
    case atStart => rfl
    case round =>
      have e9 := hrel
      subst e9
      go_wp2_with fail
      go_end0
      exact ⟨rfl, FIN.out⟩
end
end Go.Proofs.YtfnkokfkhjdkfaaDoor


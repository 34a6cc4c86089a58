/-
  Texts of the proof, one behind the other: Bqg, Bqh, Bqj.
-/
import Derived.Test.YtfgpephpkibbaaaGreatDoorQ47
import Derived.Test.YtfgpephpkibbaaaGreatDoorQ46
/-
  Contract of the document's Same, for the same tree in two places.
-/
namespace Go.Proofs.YtfgpephpkibbaaaGreatDoor
open Go.RowKit Go.Lib Go.Maps

set_option maxRecDepth 100000 in
set_option maxHeartbeats 2000000 in
theorem sspans_nil (w : World) : Calls Tryz.prog 24 #[.slice none 0 0, .slice none 0 0] w fun e w' => e = .returned (.bool true) ∧ w = w' := by
  go_enter Tryz.func24, Tryz.ntmps24
  go_wp2_with fail
  go_loop [5] (fun i => i = .int .i64 0) (fun _ => 0)
  case atStart => exact rfl
  case round =>
    obtain rfl := hrel
    go_wp2_with fail
    go_ret
    exact ⟨rfl, rfl⟩
set_option maxRecDepth 100000 in
set_option maxHeartbeats 16000000 in
theorem same_any : ∀ (f : Nat) (t : Tr) (W : World) (lo1 hi1 lo2 hi2 : Nat) (c1 c2 : Ten) (C1 C2 : Array Value), dpT t ≤ f → TreeAt W lo1 hi1 t c1 → TreeAt W lo2 hi2 t c2 → C1.toList = c1.1 → C2.toList = c2.1 → hi1 ≤ W.heap.size → hi2 ≤ W.heap.size →
    Calls Tryz.prog 14 #[.agg C1, .agg C2] W fun e w' => e = .returned (.bool true) ∧ Keeps W w' := by
  intro f
  induction f with
  | zero => intro t W lo1 hi1 lo2 hi2 c1 c2 C1 C2 h; have := dp_pos t; omega
  | succ f ih =>
  intro t W lo1 hi1 lo2 hi2 c1 c2 C1 C2 hf hd1 hd2 hC1 hC2 hP1 hP2
  cases t with
  | mk k l o st mk ti info text kids =>
  obtain ⟨kv1, hc1, hk1⟩ := hd1.form
  obtain ⟨A1, cap1, rfl, m1, m2, m3⟩ := hk1.slice
  obtain ⟨kv2, hc2, hk2⟩ := hd2.form
  obtain ⟨A2, cap2, rfl, n1, n2, n3⟩ := hk2.slice
  rw [hc1] at hC1
  rw [hc2] at hC2
  have eC1 := arrB_of hC1
  have eC2 := arrB_of hC2
  unfold blkT at eC1 eC2
  subst eC1 eC2
  clear hC1 hc1 hd1 hC2 hc2 hd2
  rw [dpT] at hf
  obtain ⟨x6, hx6⟩ : ∃ x : ByteArray, (⟨info.toArray⟩ : ByteArray) = x := ⟨_, rfl⟩
  obtain ⟨x7, hx7⟩ : ∃ x : ByteArray, (⟨text.toArray⟩ : ByteArray) = x := ⟨_, rfl⟩
  rw [hx6, hx7]
  clear hx6 hx7
  have IH := Lib.hid ih
  have HK1 := Lib.hid hk1
  have HK2 := Lib.hid hk2
  have HP1 := Lib.hid hP1
  have HP2 := Lib.hid hP2
  have HN1 := Lib.hid m3
  have HN2 := Lib.hid n3
  have HM := Lib.hid (show dpL kids ≤ f by omega)
  have SN := Lib.hid sspans_nil
  have K1 := (Keeps.refl W).alloc (.cells #[.int .i64 k, .int .i64 l, .bool o, .int .i64 st, .int .u8 mk, .bool ti, .string x6, .string x7, .slice A1 kids.length cap1, .slice none 0 0] 26)
  have KA := Lib.hid (K1.alloc (.cells #[.int .i64 k, .int .i64 l, .bool o, .int .i64 st, .int .u8 mk, .bool ti, .string x6, .string x7, .slice A2 kids.length cap2, .slice none 0 0] 26))
  have B1 := Lib.hid ((Blk.new W 26 #[.int .i64 k, .int .i64 l, .bool o, .int .i64 st, .int .u8 mk, .bool ti, .string x6, .string x7, .slice A1 kids.length cap1, .slice none 0 0]).alloc (.cells #[.int .i64 k, .int .i64 l, .bool o, .int .i64 st, .int .u8 mk, .bool ti, .string x6, .string x7, .slice A2 kids.length cap2, .slice none 0 0] 26))
  have B2 := Lib.hid (Blk.new (W.alloc (.cells #[.int .i64 k, .int .i64 l, .bool o, .int .i64 st, .int .u8 mk, .bool ti, .string x6, .string x7, .slice A1 kids.length cap1, .slice none 0 0] 26)) 26 #[.int .i64 k, .int .i64 l, .bool o, .int .i64 st, .int .u8 mk, .bool ti, .string x6, .string x7, .slice A2 kids.length cap2, .slice none 0 0])
  clear ih hk1 hk2 hP1 hP2 m3 n3 hf K1
  simp only [List.toArray] at *
  unfold maxLen at m2 n2
  have t6 : (x6.toList == x6.toList) = true := by simp
  have t7 : (x7.toList == x7.toList) = true := by simp
  go_enter Tryz.func14, Tryz.ntmps14
  go_wp2_with fail
  refine (SN.out _).mono ?_
  rintro e w0 ⟨rfl, rfl⟩
  have hsz : (W.alloc (.cells #[.int .i64 k, .int .i64 l, .bool o, .int .i64 st, .int .u8 mk, .bool ti, .string x6, .string x7, .slice A1 kids.length cap1, .slice none 0 0] 26)).heap.size = W.heap.size + 1 := by
    show (W.heap.push _).size = _
    rw [Array.size_push]
  obtain ⟨b1, hb1⟩ : ∃ b1, W.heap.size = b1 := ⟨_, rfl⟩
  rw [hsz, hb1] at B2
  rw [hb1] at B1
  clear hsz
  go_wp2_with fail
  generalize (W.alloc (.cells #[.int .i64 k, .int .i64 l, .bool o, .int .i64 st, .int .u8 mk, .bool ti, .string x6, .string x7, .slice A1 kids.length cap1, .slice none 0 0] 26)).alloc (.cells #[.int .i64 k, .int .i64 l, .bool o, .int .i64 st, .int .u8 mk, .bool ti, .string x6, .string x7, .slice A2 kids.length cap2, .slice none 0 0] 26) = w1 at *
  go_loopw [5] (fun i wr => ∃ j : Nat, j ≤ kids.length ∧ i = .int .i64 j ∧ Hid (Keeps w1 wr)) (fun i _ => kids.length - (RowKit.intOf i).toNat)
  case atStart => exact ⟨0, Nat.zero_le _, rfl, Lib.hid (Keeps.refl _)⟩
  case round =>
    obtain ⟨j, hj, rfl, HW⟩ := hrel
    have KW := Lib.hid (KA.out.trans HW.out)
    have z1 := (B1.out.keep HW.out).cell 8 (v := .slice A1 kids.length cap1) rfl
    have z2 := (B2.out.keep HW.out).cell 8 (v := .slice A2 kids.length cap2) rfl
    by_cases cj : j < kids.length
    · obtain ⟨g1, rfl⟩ := HN1.out (by omega)
      obtain ⟨g2, rfl⟩ := HN2.out (by omega)
      obtain ⟨c1', hd1', hcell1⟩ := (HK1.out.keep HP1.out KW.out).tree cj
      obtain ⟨c2', hd2', hcell2⟩ := (HK2.out.keep HP2.out KW.out).tree cj
      have hjl := dpL_get kids j cj
      have CL := Lib.hid (fun W' (q : Keeps wr W') (C1 C2 : Array Value) (hC1 : C1.toList = c1'.1) (hC2 : C2.toList = c2'.1) => IH.out kids[j] W' lo1 hi1 lo2 hi2 c1' c2' C1 C2 (by have := HM.out; omega) (hd1'.keep (Nat.le_trans HP1.out KW.out.size) q) (hd2'.keep (Nat.le_trans HP2.out KW.out.size) q) hC1 hC2 (Nat.le_trans HP1.out (Nat.le_trans KW.out.size q.size)) (Nat.le_trans HP2.out (Nat.le_trans KW.out.size q.size)))
      generalize hkj : kids[j] = dj at *
      obtain ⟨k', l', o', st', mk', ti', info', text', kids'⟩ := dj
      obtain ⟨kv1', hc1', hk1'⟩ := hd1'.form
      obtain ⟨E1, ec1, rfl, -, -, -⟩ := hk1'.slice
      obtain ⟨kv2', hc2', hk2'⟩ := hd2'.form
      obtain ⟨E2, ec2, rfl, -, -, -⟩ := hk2'.slice
      rw [hc1'] at CL hcell1
      rw [hc2'] at CL hcell2
      unfold blkT at CL hcell1 hcell2
      have p0 : wr.cell? ⟨g1, j * 10, none⟩ = some (.int .i64 k') := hcell1 0 (by decide)
      have p1 : wr.cell? ⟨g1, j * 10 + 1, none⟩ = some (.int .i64 l') := hcell1 1 (by decide)
      have p2 : wr.cell? ⟨g1, j * 10 + 2, none⟩ = some (.bool o') := hcell1 2 (by decide)
      have p3 : wr.cell? ⟨g1, j * 10 + 3, none⟩ = some (.int .i64 st') := hcell1 3 (by decide)
      have p4 : wr.cell? ⟨g1, j * 10 + 4, none⟩ = some (.int .u8 mk') := hcell1 4 (by decide)
      have p5 : wr.cell? ⟨g1, j * 10 + 5, none⟩ = some (.bool ti') := hcell1 5 (by decide)
      have p8 : wr.cell? ⟨g1, j * 10 + 8, none⟩ = some (.slice E1 kids'.length ec1) := hcell1 8 (by decide)
      have p9 : wr.cell? ⟨g1, j * 10 + 9, none⟩ = some (.slice none 0 0) := hcell1 9 (by decide)
      have p6 := hcell1 6 (by decide)
      have p7 := hcell1 7 (by decide)
      simp only [List.getElem?_cons_succ, List.getElem?_cons_zero] at p6 p7
      have q0 : wr.cell? ⟨g2, j * 10, none⟩ = some (.int .i64 k') := hcell2 0 (by decide)
      have q1 : wr.cell? ⟨g2, j * 10 + 1, none⟩ = some (.int .i64 l') := hcell2 1 (by decide)
      have q2 : wr.cell? ⟨g2, j * 10 + 2, none⟩ = some (.bool o') := hcell2 2 (by decide)
      have q3 : wr.cell? ⟨g2, j * 10 + 3, none⟩ = some (.int .i64 st') := hcell2 3 (by decide)
      have q4 : wr.cell? ⟨g2, j * 10 + 4, none⟩ = some (.int .u8 mk') := hcell2 4 (by decide)
      have q5 : wr.cell? ⟨g2, j * 10 + 5, none⟩ = some (.bool ti') := hcell2 5 (by decide)
      have q8 : wr.cell? ⟨g2, j * 10 + 8, none⟩ = some (.slice E2 kids'.length ec2) := hcell2 8 (by decide)
      have q9 : wr.cell? ⟨g2, j * 10 + 9, none⟩ = some (.slice none 0 0) := hcell2 9 (by decide)
      have q6 := hcell2 6 (by decide)
      have q7 := hcell2 7 (by decide)
      simp only [List.getElem?_cons_succ, List.getElem?_cons_zero] at q6 q7
      obtain ⟨y6, hy6⟩ : ∃ x : ByteArray, (⟨info'.toArray⟩ : ByteArray) = x := ⟨_, rfl⟩
      obtain ⟨y7, hy7⟩ : ∃ x : ByteArray, (⟨text'.toArray⟩ : ByteArray) = x := ⟨_, rfl⟩
      rw [hy6] at p6 q6 CL
      rw [hy7] at p7 q7 CL
      have hjj : (j : Int) < (kids.length : Int) := by omega
      obtain ⟨L, hL⟩ : ∃ L : List (Addr × Value), L = [(⟨b1, 8, none⟩, (.slice (some ⟨g1, 0, none⟩) kids.length cap1)), (⟨b1 + 1, 8, none⟩, (.slice (some ⟨g2, 0, none⟩) kids.length cap2)), (⟨g1, j * 10, none⟩, (.int .i64 k')), (⟨g1, j * 10 + 1, none⟩, (.int .i64 l')), (⟨g1, j * 10 + 2, none⟩, (.bool o')), (⟨g1, j * 10 + 3, none⟩, (.int .i64 st')), (⟨g1, j * 10 + 4, none⟩, (.int .u8 mk')), (⟨g1, j * 10 + 5, none⟩, (.bool ti')), (⟨g1, j * 10 + 6, none⟩, (.string y6)), (⟨g1, j * 10 + 7, none⟩, (.string y7)), (⟨g1, j * 10 + 8, none⟩, (.slice E1 kids'.length ec1)), (⟨g1, j * 10 + 9, none⟩, (.slice none 0 0)), (⟨g2, j * 10, none⟩, (.int .i64 k')), (⟨g2, j * 10 + 1, none⟩, (.int .i64 l')), (⟨g2, j * 10 + 2, none⟩, (.bool o')), (⟨g2, j * 10 + 3, none⟩, (.int .i64 st')), (⟨g2, j * 10 + 4, none⟩, (.int .u8 mk')), (⟨g2, j * 10 + 5, none⟩, (.bool ti')), (⟨g2, j * 10 + 6, none⟩, (.string y6)), (⟨g2, j * 10 + 7, none⟩, (.string y7)), (⟨g2, j * 10 + 8, none⟩, (.slice E2 kids'.length ec2)), (⟨g2, j * 10 + 9, none⟩, (.slice none 0 0))] := ⟨_, rfl⟩
      have C0 : ∀ q ∈ L, wr.cell? q.1 = some q.2 := by rw [hL]; exact cells_cons z1 (cells_cons z2 (cells_cons p0 (cells_cons p1 (cells_cons p2 (cells_cons p3 (cells_cons p4 (cells_cons p5 (cells_cons p6 (cells_cons p7 (cells_cons p8 (cells_cons p9 (cells_cons q0 (cells_cons q1 (cells_cons q2 (cells_cons q3 (cells_cons q4 (cells_cons q5 (cells_cons q6 (cells_cons q7 (cells_cons q8 (cells_cons q9 (cells_nil _))))))))))))))))))))))
      have NE : Nonempty (InS (CellsK L wr)) := ⟨⟨_, CellsK.start C0⟩⟩
      have Gz1 : ∀ x : InS (CellsK L wr), x.w.cell? ⟨b1, 8, none⟩ = some (.slice (some ⟨g1, 0, none⟩) kids.length cap1) := fun x => x.ok.cells (_, _) (by rw [hL]; simp)
      have Gz2 : ∀ x : InS (CellsK L wr), x.w.cell? ⟨b1 + 1, 8, none⟩ = some (.slice (some ⟨g2, 0, none⟩) kids.length cap2) := fun x => x.ok.cells (_, _) (by rw [hL]; simp)
      have Gp0 : ∀ x : InS (CellsK L wr), x.w.cell? ⟨g1, j * 10, none⟩ = some (.int .i64 k') := fun x => x.ok.cells (_, _) (by rw [hL]; simp)
      have Gp1 : ∀ x : InS (CellsK L wr), x.w.cell? ⟨g1, j * 10 + 1, none⟩ = some (.int .i64 l') := fun x => x.ok.cells (_, _) (by rw [hL]; simp)
      have Gp2 : ∀ x : InS (CellsK L wr), x.w.cell? ⟨g1, j * 10 + 2, none⟩ = some (.bool o') := fun x => x.ok.cells (_, _) (by rw [hL]; simp)
      have Gp3 : ∀ x : InS (CellsK L wr), x.w.cell? ⟨g1, j * 10 + 3, none⟩ = some (.int .i64 st') := fun x => x.ok.cells (_, _) (by rw [hL]; simp)
      have Gp4 : ∀ x : InS (CellsK L wr), x.w.cell? ⟨g1, j * 10 + 4, none⟩ = some (.int .u8 mk') := fun x => x.ok.cells (_, _) (by rw [hL]; simp)
      have Gp5 : ∀ x : InS (CellsK L wr), x.w.cell? ⟨g1, j * 10 + 5, none⟩ = some (.bool ti') := fun x => x.ok.cells (_, _) (by rw [hL]; simp)
      have Gp6 : ∀ x : InS (CellsK L wr), x.w.cell? ⟨g1, j * 10 + 6, none⟩ = some (.string y6) := fun x => x.ok.cells (_, _) (by rw [hL]; simp)
      have Gp7 : ∀ x : InS (CellsK L wr), x.w.cell? ⟨g1, j * 10 + 7, none⟩ = some (.string y7) := fun x => x.ok.cells (_, _) (by rw [hL]; simp)
      have Gp8 : ∀ x : InS (CellsK L wr), x.w.cell? ⟨g1, j * 10 + 8, none⟩ = some (.slice E1 kids'.length ec1) := fun x => x.ok.cells (_, _) (by rw [hL]; simp)
      have Gp9 : ∀ x : InS (CellsK L wr), x.w.cell? ⟨g1, j * 10 + 9, none⟩ = some (.slice none 0 0) := fun x => x.ok.cells (_, _) (by rw [hL]; simp)
      have Gq0 : ∀ x : InS (CellsK L wr), x.w.cell? ⟨g2, j * 10, none⟩ = some (.int .i64 k') := fun x => x.ok.cells (_, _) (by rw [hL]; simp)
      have Gq1 : ∀ x : InS (CellsK L wr), x.w.cell? ⟨g2, j * 10 + 1, none⟩ = some (.int .i64 l') := fun x => x.ok.cells (_, _) (by rw [hL]; simp)
      have Gq2 : ∀ x : InS (CellsK L wr), x.w.cell? ⟨g2, j * 10 + 2, none⟩ = some (.bool o') := fun x => x.ok.cells (_, _) (by rw [hL]; simp)
      have Gq3 : ∀ x : InS (CellsK L wr), x.w.cell? ⟨g2, j * 10 + 3, none⟩ = some (.int .i64 st') := fun x => x.ok.cells (_, _) (by rw [hL]; simp)
      have Gq4 : ∀ x : InS (CellsK L wr), x.w.cell? ⟨g2, j * 10 + 4, none⟩ = some (.int .u8 mk') := fun x => x.ok.cells (_, _) (by rw [hL]; simp)
      have Gq5 : ∀ x : InS (CellsK L wr), x.w.cell? ⟨g2, j * 10 + 5, none⟩ = some (.bool ti') := fun x => x.ok.cells (_, _) (by rw [hL]; simp)
      have Gq6 : ∀ x : InS (CellsK L wr), x.w.cell? ⟨g2, j * 10 + 6, none⟩ = some (.string y6) := fun x => x.ok.cells (_, _) (by rw [hL]; simp)
      have Gq7 : ∀ x : InS (CellsK L wr), x.w.cell? ⟨g2, j * 10 + 7, none⟩ = some (.string y7) := fun x => x.ok.cells (_, _) (by rw [hL]; simp)
      have Gq8 : ∀ x : InS (CellsK L wr), x.w.cell? ⟨g2, j * 10 + 8, none⟩ = some (.slice E2 kids'.length ec2) := fun x => x.ok.cells (_, _) (by rw [hL]; simp)
      have Gq9 : ∀ x : InS (CellsK L wr), x.w.cell? ⟨g2, j * 10 + 9, none⟩ = some (.slice none 0 0) := fun x => x.ok.cells (_, _) (by rw [hL]; simp)
      have SMC : Hid (∀ x : InS (CellsK L wr), Calls Tryz.prog 14 #[.agg #[.int .i64 k', .int .i64 l', .bool o', .int .i64 st', .int .u8 mk', .bool ti', .string y6, .string y7, .slice E1 kids'.length ec1, .slice none 0 0], .agg #[.int .i64 k', .int .i64 l', .bool o', .int .i64 st', .int .u8 mk', .bool ti', .string y6, .string y7, .slice E2 kids'.length ec2, .slice none 0 0]] x.w fun e w' => e = .returned (.bool true) ∧ Keeps x.w w') := Lib.hid (fun x => CL.out x.w x.ok.since _ _ rfl rfl)
      have LD1 : ∀ x : InS (CellsK L wr), (Instr.loadAt 26 (.pointer (some ⟨g1, j * 10, none⟩))).run Tryz.prog x.w = .ok (.agg #[.int .i64 k', .int .i64 l', .bool o', .int .i64 st', .int .u8 mk', .bool ti', .string y6, .string y7, .slice E1 kids'.length ec1, .slice none 0 0]) x.w := fun x => run_loadAt_mid x.w g1 (j * 10) 26 #[.int .i64 k', .int .i64 l', .bool o', .int .i64 st', .int .u8 mk', .bool ti', .string y6, .string y7, .slice E1 kids'.length ec1, .slice none 0 0].toList _ (by
          intro i v hv
          have hi : i < 10 := (List.getElem?_eq_some_iff.1 hv).1
          match i, hi, hv with
          | 0, _, hv => exact (Gp0 x).trans hv
          | 1, _, hv => exact (Gp1 x).trans hv
          | 2, _, hv => exact (Gp2 x).trans hv
          | 3, _, hv => exact (Gp3 x).trans hv
          | 4, _, hv => exact (Gp4 x).trans hv
          | 5, _, hv => exact (Gp5 x).trans hv
          | 6, _, hv => exact (Gp6 x).trans hv
          | 7, _, hv => exact (Gp7 x).trans hv
          | 8, _, hv => exact (Gp8 x).trans hv
          | 9, _, hv => exact (Gp9 x).trans hv
          | n + 10, h, _ => omega) Tryz.underlying26 rfl rfl
      have LD2 : ∀ x : InS (CellsK L wr), (Instr.loadAt 26 (.pointer (some ⟨g2, j * 10, none⟩))).run Tryz.prog x.w = .ok (.agg #[.int .i64 k', .int .i64 l', .bool o', .int .i64 st', .int .u8 mk', .bool ti', .string y6, .string y7, .slice E2 kids'.length ec2, .slice none 0 0]) x.w := fun x => run_loadAt_mid x.w g2 (j * 10) 26 #[.int .i64 k', .int .i64 l', .bool o', .int .i64 st', .int .u8 mk', .bool ti', .string y6, .string y7, .slice E2 kids'.length ec2, .slice none 0 0].toList _ (by
          intro i v hv
          have hi : i < 10 := (List.getElem?_eq_some_iff.1 hv).1
          match i, hi, hv with
          | 0, _, hv => exact (Gq0 x).trans hv
          | 1, _, hv => exact (Gq1 x).trans hv
          | 2, _, hv => exact (Gq2 x).trans hv
          | 3, _, hv => exact (Gq3 x).trans hv
          | 4, _, hv => exact (Gq4 x).trans hv
          | 5, _, hv => exact (Gq5 x).trans hv
          | 6, _, hv => exact (Gq6 x).trans hv
          | 7, _, hv => exact (Gq7 x).trans hv
          | 8, _, hv => exact (Gq8 x).trans hv
          | 9, _, hv => exact (Gq9 x).trans hv
          | n + 10, h, _ => omega) Tryz.underlying26 rfl rfl
      clear hcell1 hcell2 hd1' hd2' hc1' hc2' hk1' hk2' CL hjl hy6 hy7 hkj hL
      go_wp2_with fail
      clear z1 z2 p0 p1 p2 p3 p4 p5 p6 p7 p8 p9 q0 q1 q2 q3 q4 q5 q6 q7 q8 q9
      refine wp_region_class (CellsK L wr) (by kernel_rfl) (by kernel_rfl) (CellsK.start C0) ?_
      clear Gp0 Gp1 Gp2 Gp3 Gp4 Gp5 Gp6 Gp7 Gp8 Gp9 Gq0 Gq1 Gq2 Gq3 Gq4 Gq5 Gq6 Gq7 Gq8 Gq9
      iterate 4 (go_big_quiet_step (fail))
      refine class_load 26 _ rfl rfl _ _ rfl LD1 ?_
      simp only [Act.put, List.setIfInBounds_toArray, List.set_cons_zero, List.set_cons_succ]
      iterate 4 (go_big_quiet_step (fail))
      refine class_load 26 _ rfl rfl _ _ rfl LD2 ?_
      simp only [Act.put, List.setIfInBounds_toArray, List.set_cons_zero, List.set_cons_succ]
      repeat (go_big_quiet_step ((go_at_call 14; exact class_call (fun _ h k => h.keep k) (SMC.out _))))
      refine wpQuiet_nil ?_
      rintro w5 ⟨⟨w6, h6⟩, rfl⟩
      have K6 := Lib.hid (HW.out.trans h6.since)
      clear NE Gz1 Gz2 C0 h6 SMC LD1 LD2
      go_wp2_with fail
      go_roundw
      case rel => exact ⟨j + 1, by omega, by go_num, K6⟩
      case measure => simp [RowKit.intOf]; omega
    · have hjj : ¬ (j : Int) < (kids.length : Int) := by omega
      have KR := KW.out
      clear HK1 HK2 HM HN1 HN2
      go_wp2_with fail
      go_ret
      exact ⟨rfl, KR⟩
end Go.Proofs.YtfgpephpkibbaaaGreatDoor

/-
  Contracts of the law's quoted and of the document's SameRefs.
-/
namespace Go.Proofs.YtfgpephpkibbaaaGreatDoor
open Go.RowKit Go.Lib

theorem qa_snoc (ws : List (List UInt8)) (w : List UInt8) : aL ((ws ++ [w]).map qtL) = aL (ws.map qtL) ++ [62, 32] ++ w ++ [10] := by
  unfold aL qtL
  rw [List.map_append, List.flatMap_append]
  simp
theorem qa_size : ∀ xs : List ByteArray, (aL ((lsB xs).map qtL)).length = (xs.map ByteArray.size).sum + 3 * xs.length
  | [] => rfl
  | x :: xs => by
    have ih := qa_size xs
    show (aL (qtL x.data.toList :: (lsB xs).map qtL)).length = _
    rw [aL_cons, List.length_append, List.length_cons, ih, List.map_cons, List.sum_cons, List.length_cons]
    have : (qtL x.data.toList).length = x.size + 2 := by
      show x.data.toList.length + 1 + 1 = _
      rw [bytes_len]
    omega
set_option maxRecDepth 100000 in
set_option maxHeartbeats 4000000 in
theorem quoted_any (xs : List ByteArray) (b off n c : Nat) (w : World) (H : Lns xs) (hn : xs.length = n) (hc : ∀ k, k < n → w.cell? ⟨b, off + k, none⟩ = some (.string (xs.getD k ⟨#[]⟩))) :
    Calls Tryz.prog 13 #[.slice (some ⟨b, off, none⟩) n c] w fun e w' => ∃ P : ByteArray, e = .returned (.string P) ∧ w = w' ∧ P.data.toList = aL ((lsB xs).map qtL) ∧ P.size ≤ 1123 := by
  have HC := Lib.hid hc
  have HL := Lib.hid hn
  have HH := Lib.hid H
  have h41 : n ≤ 41 := by rw [← hn]; exact H.few
  clear hc hn H
  go_enter Tryz.func13, Tryz.ntmps13
  go_wp2_with fail
  go_loop [3, 4] (fun v i => ∃ (k : Nat) (A : ByteArray), k ≤ n ∧ i = .int .i64 k ∧ v = .string A ∧ A.size ≤ 1000 + 3 * k ∧ Hid (A.data.toList = aL ((lsB (xs.take k)).map qtL))) (fun _ i => n - (RowKit.intOf i).toNat)
  case atStart => exact ⟨0, ⟨#[]⟩, Nat.zero_le _, rfl, rfl, by decide, Lib.hid rfl⟩
  case round =>
    obtain ⟨k, A, hk, rfl, rfl, hA, HA⟩ := hrel
    by_cases c0 : k < n
    · have cx := HC.out k c0
      have hkl : k < xs.length := by rw [HL.out]; exact c0
      have HT := Lib.hid (lsB_take hkl)
      have hsz := qa_size (xs.take (k + 1))
      have hle := sum_take_le xs (k + 1)
      have h1000 := HH.out.size
      rw [HT.out, qa_snoc, ← HA.out, List.length_append, List.length_append, List.length_append, bytes_len, bytes_len] at hsz
      rw [List.length_take, Nat.min_eq_left (by omega)] at hsz
      clear hkl
      obtain ⟨x, hx⟩ : ∃ x, xs.getD k ⟨#[]⟩ = x := ⟨_, rfl⟩
      rw [hx] at cx HT hsz
      clear hx
      have ckn : (k : Int) < (n : Int) := by omega
      have l1 : ([10] : List UInt8).length = 1 := rfl
      have l2 : ([62, 32] : List UInt8).length = 2 := rfl
      have hx1 : A.size + 2 + x.size + 1 ≤ 1000 + 3 * (k + 1) := by omega
      obtain ⟨A', hA'⟩ : ∃ A', A ++ (⟨#[62, 32]⟩ : ByteArray) ++ x ++ (⟨#[10]⟩ : ByteArray) = A' := ⟨_, rfl⟩
      have z1 : (⟨#[10]⟩ : ByteArray).size = 1 := rfl
      have z2 : (⟨#[62, 32]⟩ : ByteArray).size = 2 := rfl
      have y1 : A'.size ≤ 1000 + 3 * (k + 1) := by rw [← hA', ByteArray.size_append, ByteArray.size_append, ByteArray.size_append]; omega
      have NA : Hid (A'.data.toList = aL ((lsB (xs.take (k + 1))).map qtL)) := Lib.hid (by rw [← hA', bytes_app, bytes_app, bytes_app, HA.out, HT.out, qa_snoc])
      clear HA HT hsz hle h1000 l1 l2
      go_wp2_with fail
      go_round
      case rel => exact ⟨k + 1, A', by omega, by go_num, rfl, y1, NA⟩
      case measure => simp [RowKit.intOf]; omega
    · have hkn : k = n := by omega
      subst hkn
      have HX : Hid (A.data.toList = aL ((lsB xs).map qtL)) := Lib.hid (by
        have := HA.out
        rw [List.take_of_length_le (by rw [HL.out]; exact Nat.le_refl _)] at this
        exact this)
      clear HA
      go_wp2_with fail
      go_ret
      exact ⟨A, rfl, rfl, HX.out, by omega⟩
theorem neq_ref (a b c : ByteArray) (W : World) : (binOp .neq 42 (.agg #[.string a, .string b, .string c]) (.agg #[.string a, .string b, .string c])).run Tryz.prog W = .ok (.bool false) W := by
  rw [run_neq_struct, run_equalIn_agg _ _ _ _ _ (by kernel_rfl) Tryz.stoodInHeld42]
  simp [go_sem, Tryz.underlying42, Tryz.underlying9]
set_option maxRecDepth 100000 in
set_option maxHeartbeats 8000000 in
theorem srefs_any (rs : List Rf) (a1 a2 : Option Addr) (n k1 k2 : Nat) (w : World) (hn : rs.length = n) (hm : n ≤ maxLen) (h1 : Refs 0 w (.slice a1 n k1) rs) (h2 : Refs 0 w (.slice a2 n k2) rs) :
    Calls Tryz.prog 15 #[.slice a1 n k1, .slice a2 n k2] w fun e w' => e = .returned (.bool true) ∧ Keeps w w' := by
  have H1 := Lib.hid h1
  have H2 := Lib.hid h2
  have HN := Lib.hid hn
  unfold maxLen at hm
  clear h1 h2 hn
  go_enter Tryz.func15, Tryz.ntmps15
  go_wp2_with fail
  go_loopw [5] (fun i wr => ∃ j : Nat, j ≤ n ∧ i = .int .i64 j ∧ Hid (Keeps w wr)) (fun i _ => n - (RowKit.intOf i).toNat)
  case atStart => exact ⟨0, Nat.zero_le _, rfl, Lib.hid (Keeps.refl _)⟩
  case round =>
    obtain ⟨j, hj, rfl, HW⟩ := hrel
    by_cases cj : j < n
    · have hjl : j < rs.length := by rw [HN.out]; exact cj
      obtain ⟨g1, rfl, r1⟩ := refs_cell (H1.out.keep HW.out) (by omega)
      obtain ⟨g2, rfl, r2⟩ := refs_cell (H2.out.keep HW.out) (by omega)
      obtain ⟨p0, p1, p2⟩ := r1 j hjl
      obtain ⟨q0, q1, q2⟩ := r2 j hjl
      obtain ⟨a, ha⟩ : ∃ a : ByteArray, (⟨rs[j].1.toArray⟩ : ByteArray) = a := ⟨_, rfl⟩
      obtain ⟨b, hb⟩ : ∃ a : ByteArray, (⟨rs[j].2.1.toArray⟩ : ByteArray) = a := ⟨_, rfl⟩
      obtain ⟨c, hc⟩ : ∃ a : ByteArray, (⟨rs[j].2.2.toArray⟩ : ByteArray) = a := ⟨_, rfl⟩
      rw [ha] at p0 q0
      rw [hb] at p1 q1
      rw [hc] at p2 q2
      have hjj : (j : Int) < (n : Int) := by omega
      obtain ⟨L, hL⟩ : ∃ L : List (Addr × Value), L = [(⟨g1, j * 3, none⟩, (.string a)), (⟨g1, j * 3 + 1, none⟩, (.string b)), (⟨g1, j * 3 + 2, none⟩, (.string c)), (⟨g2, j * 3, none⟩, (.string a)), (⟨g2, j * 3 + 1, none⟩, (.string b)), (⟨g2, j * 3 + 2, none⟩, (.string c))] := ⟨_, rfl⟩
      have C0 : ∀ q ∈ L, wr.cell? q.1 = some q.2 := by rw [hL]; exact cells_cons p0 (cells_cons p1 (cells_cons p2 (cells_cons q0 (cells_cons q1 (cells_cons q2 (cells_nil _))))))
      have NE : Nonempty (InS (CellsK L wr)) := ⟨⟨_, CellsK.start C0⟩⟩
      have Gp0 : ∀ x : InS (CellsK L wr), x.w.cell? ⟨g1, j * 3, none⟩ = some (.string a) := fun x => x.ok.cells (_, _) (by rw [hL]; simp)
      have Gp1 : ∀ x : InS (CellsK L wr), x.w.cell? ⟨g1, j * 3 + 1, none⟩ = some (.string b) := fun x => x.ok.cells (_, _) (by rw [hL]; simp)
      have Gp2 : ∀ x : InS (CellsK L wr), x.w.cell? ⟨g1, j * 3 + 2, none⟩ = some (.string c) := fun x => x.ok.cells (_, _) (by rw [hL]; simp)
      have Gq0 : ∀ x : InS (CellsK L wr), x.w.cell? ⟨g2, j * 3, none⟩ = some (.string a) := fun x => x.ok.cells (_, _) (by rw [hL]; simp)
      have Gq1 : ∀ x : InS (CellsK L wr), x.w.cell? ⟨g2, j * 3 + 1, none⟩ = some (.string b) := fun x => x.ok.cells (_, _) (by rw [hL]; simp)
      have Gq2 : ∀ x : InS (CellsK L wr), x.w.cell? ⟨g2, j * 3 + 2, none⟩ = some (.string c) := fun x => x.ok.cells (_, _) (by rw [hL]; simp)
      have LD1 : ∀ x : InS (CellsK L wr), (Instr.loadAt 42 (.pointer (some ⟨g1, j * 3, none⟩))).run Tryz.prog x.w = .ok (.agg #[.string a, .string b, .string c]) x.w := fun x => run_loadAt_mid x.w g1 (j * 3) 42 (#[.string a, .string b, .string c] : Array Value).toList _ (by
          intro i v hv
          have hi : i < 3 := (List.getElem?_eq_some_iff.1 hv).1
          match i, hi, hv with
          | 0, _, hv => exact (Gp0 x).trans hv
          | 1, _, hv => exact (Gp1 x).trans hv
          | 2, _, hv => exact (Gp2 x).trans hv
          | n + 3, h, _ => omega) Tryz.underlying42 rfl rfl
      have LD2 : ∀ x : InS (CellsK L wr), (Instr.loadAt 42 (.pointer (some ⟨g2, j * 3, none⟩))).run Tryz.prog x.w = .ok (.agg #[.string a, .string b, .string c]) x.w := fun x => run_loadAt_mid x.w g2 (j * 3) 42 (#[.string a, .string b, .string c] : Array Value).toList _ (by
          intro i v hv
          have hi : i < 3 := (List.getElem?_eq_some_iff.1 hv).1
          match i, hi, hv with
          | 0, _, hv => exact (Gq0 x).trans hv
          | 1, _, hv => exact (Gq1 x).trans hv
          | 2, _, hv => exact (Gq2 x).trans hv
          | n + 3, h, _ => omega) Tryz.underlying42 rfl rfl
      have NQ : ∀ x : InS (CellsK L wr), (binOp .neq 42 (.agg #[.string a, .string b, .string c]) (.agg #[.string a, .string b, .string c])).run Tryz.prog x.w = .ok (.bool false) x.w := fun x => neq_ref a b c x.w
      clear r1 r2 ha hb hc hL hjl
      go_wp2_with fail
      clear p0 p1 p2 q0 q1 q2
      refine wp_region_class (CellsK L wr) (by kernel_rfl) (by kernel_rfl) (CellsK.start C0) ?_
      clear Gp0 Gp1 Gp2 Gq0 Gq1 Gq2
      iterate 3 (go_big_quiet_step (fail))
      refine class_load 42 _ rfl rfl _ _ rfl LD1 ?_
      simp only [Act.put, List.setIfInBounds_toArray, List.set_cons_zero, List.set_cons_succ]
      iterate 3 (go_big_quiet_step (fail))
      refine class_load 42 _ rfl rfl _ _ rfl LD2 ?_
      simp only [Act.put, List.setIfInBounds_toArray, List.set_cons_zero, List.set_cons_succ]
      repeat (go_big_quiet_step (fail))
      refine wpQuiet_nil ?_
      rintro w5 ⟨⟨w6, h6⟩, rfl⟩
      have K6 := Lib.hid (HW.out.trans h6.since)
      clear NE C0 h6 LD1 LD2 NQ
      go_wp2_with fail
      go_roundw
      case rel => exact ⟨j + 1, by omega, by go_num, K6⟩
      case measure => simp [RowKit.intOf]; omega
    · have hjj : ¬ (j : Int) < (n : Int) := by omega
      have KR := HW.out
      clear H1 H2 HN
      go_wp2_with fail
      go_ret
      exact ⟨rfl, KR⟩
end Go.Proofs.YtfgpephpkibbaaaGreatDoor

/-
  BlockQuotes is true of any texts.
-/
namespace Go.Proofs.YtfgpephpkibbaaaGreatDoor
open Go.RowKit Go.Lib Go.Maps

/-- What Parse tells, as the law holds it: a block's cells, definitions, an error. -/
theorem ParR.cells {lo : Nat} {t : Tr} {rs : List Rf} {e : Ending} {w' : World} (h : ParR lo (some (t, rs)) e w') : ∃ (C : Array Value) (v : Value), e = .returned (.tuple #[.agg C, v, .int .i64 0]) ∧ ∃ k l o st mk ti x6 x7 A n cap, C = #[.int .i64 (k : Nat), .int .i64 (l : Nat), .bool o, .int .i64 (st : Nat), .int .u8 (mk : Nat), .bool ti, .string x6, .string x7, .slice A n cap, .slice none 0 0] := by
  obtain ⟨C, c, v, rfl, hC, ht, _, _⟩ := h
  refine ⟨C, v, rfl, ?_⟩
  obtain ⟨k, l, o, st, mk, ti, info, text, kids⟩ := t
  obtain ⟨kv, hc, hk⟩ := ht.form
  obtain ⟨A, cap, rfl, _, _, _⟩ := hk.slice
  rw [hc] at hC
  have eC := arrB_of hC
  unfold blkT at eC
  subst eC
  exact ⟨k, l, o, st, mk, ti, _, _, A, kids.length, cap, rfl⟩
theorem lns_sizes {xs : List ByteArray} (H : Lns xs) : ∀ x ∈ xs, x.size ≤ 1000 := fun x hx => by
  have h1 := H.size
  have : x.size ≤ (xs.map ByteArray.size).sum := by
    clear H h1
    induction xs with
    | nil => cases hx
    | cons y ys ih =>
      rw [List.map_cons, List.sum_cons]
      rcases List.mem_cons.1 hx with rfl | q
      · omega
      · have := ih q; omega
  omega
theorem pot_qt : ∀ xs : List ByteArray, pot ((lsB xs).map qtL) = 2 * (xs.map ByteArray.size).sum + 8 * xs.length
  | [] => rfl
  | x :: xs => by
    have ih := pot_qt xs
    show (2 * (qtL x.data.toList).length + 4) + pot ((lsB xs).map qtL) = _
    have : (qtL x.data.toList).length = x.size + 2 := by
      show x.data.toList.length + 1 + 1 = _
      rw [bytes_len]
    rw [ih, this, List.map_cons, List.sum_cons, List.length_cons]; omega
/-- What the two parsers tell of the law's lines. -/
theorem law_quotes {xs : List ByteArray} (H : Lns xs) : parseM (aL ((lsB xs).map qtL)) = none ∨ ∃ ks rs, parseM (aL (lsB xs)) = some (.mk 1 0 false 0 0 false [] [] ks, rs) ∧ parseM (aL ((lsB xs).map qtL)) = some (.mk 1 0 false 0 0 false [] [] [.mk 2 0 false 0 0 false [] [] ks], rs) := by
  refine quotes_parse (fun e => ?_) (fun t ht => ?_) ?_
  · have := H.pos
    have : (lsB xs).length = 0 := by rw [e]; rfl
    unfold lsB at this
    rw [List.length_map] at this
    omega
  · obtain ⟨x, hx, rfl⟩ := List.mem_map.1 ht
    exact ⟨fun b hb => (H.ok x hx b hb).1, fun b hb => (H.ok x hx b hb).2, by rw [bytes_len]; have := lns_sizes H x hx; omega⟩
  · rw [pot_qt]
    have := H.size
    have := H.few
    omega
set_option maxRecDepth 100000 in
set_option maxHeartbeats 16000000 in
theorem bquotes_some (xs : List ByteArray) (b off n c : Nat) (w : World) (hn : xs.length = n) (h1 : 0 < n) (hm : n ≤ maxLen) (hs : ∀ x ∈ xs, x.size ≤ maxLen) (hc : ∀ k, k < n → w.cell? ⟨b, off + k, none⟩ = some (.string (xs.getD k ⟨#[]⟩))) (hO : Lis w) (hM : Mxl w) :
    Calls Tryz.prog 4 #[.slice (some ⟨b, off, none⟩) n c] w fun e w' => e = .returned (.bool true) ∧ Keeps w w' := by
  have LN := Lib.hid (lines_some xs b off n c w hn h1 hm hs hc)
  have PL := Lib.hid (fun (H : Lns xs) => lplain_any xs b off n c w H hn hc)
  have QT := Lib.hid (fun (H : Lns xs) W (k : Keeps w W) => quoted_any xs b off n c W H hn (fun j hj => keep_cell (hc j hj) k))
  have PA := Lib.hid (fun t (h : t.size ≤ 5000) W (q : Keeps w W) => parse_any t W h (hO.keep q) (hM.keep q))
  have AW := Lib.hid (fun W' (q : Keeps w W') => awake12_any W' (hO.keep q) (hM.keep q))
  have HL := Lib.hid hn
  unfold maxLen at hm
  clear hO hM hc hs hn
  go_enter Tryz.func4, Tryz.ntmps4
  go_wp2_with fail
  refine LN.out.mono ?_
  rintro e w1 ⟨r, rfl, rfl, hr⟩
  clear LN
  cases r with
  | false =>
    have AX := Lib.hid (AW.out w (Keeps.refl w))
    clear hr
    go_wp2_with fail
    refine AX.out.mono ?_
    rintro e w1 ⟨rfl, k1⟩
    go_wp2_with fail
    go_ret
    exact ⟨rfl, k1⟩
  | true =>
    have HH := Lib.hid (hr rfl)
    have h41 : n ≤ 41 := by have := HH.out.few; rw [HL.out] at this; exact this
    have QP := Lib.hid (law_quotes HH.out)
    have PLW := Lib.hid (PL.out HH.out)
    have QTW := Lib.hid (QT.out HH.out)
    clear hr PL QT HL
    go_wp2_with fail
    refine PLW.out.mono ?_
    rintro e w1 ⟨P1, rfl, rfl, hP1, hP1s⟩
    have EP1 := Lib.hid hP1
    have CX := Lib.hid (PA.out P1 (by omega) w (Keeps.refl w))
    clear hP1 PLW
    rcases QP.out with qn | ⟨ks, rs, qa, qb⟩
    · have QN := Lib.hid qn
      clear qn
      cases ha : parseM P1.data.toList with
      | none =>
        have HA := Lib.hid ha
        clear ha
        go_wp2_with fail
        refine CX.out.mono ?_
        rintro e w1 ⟨kk, hp⟩
        obtain rfl := hp.deep HA.out
        have ev : blkV 0 0 false 0 0 false [] [] (.slice none 0 0) = .agg #[.int .i64 0, .int .i64 0, .bool false, .int .i64 0, .int .u8 0, .bool false, .string ⟨#[]⟩, .string ⟨#[]⟩, .slice none 0 0, .slice none 0 0] := rfl
        rw [ev]
        have KE := Lib.hid (kk.trans ((Keeps.refl w1).alloc (.cells #[.int .i64 0, .int .i64 0, .bool false, .int .i64 0, .int .u8 0, .bool false, .string ⟨#[]⟩, .string ⟨#[]⟩, .slice none 0 0, .slice none 0 0] 26)))
        have QX := Lib.hid (QTW.out _ KE.out)
        clear hp ev kk CX QTW
        go_wp2_with fail
        generalize w1.alloc (.cells #[.int .i64 0, .int .i64 0, .bool false, .int .i64 0, .int .u8 0, .bool false, .string ⟨#[]⟩, .string ⟨#[]⟩, .slice none 0 0, .slice none 0 0] 26) = w2 at *
        refine QX.out.mono ?_
        rintro e w3 ⟨P2, rfl, rfl, hP2, hP2s⟩
        have CY := Lib.hid (PA.out P2 (by omega) w2 KE.out)
        have HB : Hid (parseM P2.data.toList = none) := Lib.hid (by rw [hP2]; exact QN.out)
        clear hP2 QX PA
        go_wp2_with fail
        refine CY.out.mono ?_
        rintro e w3 ⟨kk, hp⟩
        obtain rfl := hp.deep HB.out
        have ev : blkV 0 0 false 0 0 false [] [] (.slice none 0 0) = .agg #[.int .i64 0, .int .i64 0, .bool false, .int .i64 0, .int .u8 0, .bool false, .string ⟨#[]⟩, .string ⟨#[]⟩, .slice none 0 0, .slice none 0 0] := rfl
        rw [ev]
        have KF := Lib.hid (KE.out.trans (kk.trans ((Keeps.refl w3).alloc (.cells #[.int .i64 0, .int .i64 0, .bool false, .int .i64 0, .int .u8 0, .bool false, .string ⟨#[]⟩, .string ⟨#[]⟩, .slice none 0 0, .slice none 0 0] 26))))
        have AX := Lib.hid (AW.out _ KF.out)
        clear hp ev kk CY AW
        go_wp2_with fail
        generalize w3.alloc (.cells #[.int .i64 0, .int .i64 0, .bool false, .int .i64 0, .int .u8 0, .bool false, .string ⟨#[]⟩, .string ⟨#[]⟩, .slice none 0 0, .slice none 0 0] 26) = w4 at *
        refine AX.out.mono ?_
        rintro e w5 ⟨rfl, k5⟩
        have K5 := Lib.hid (KF.out.trans k5)
        clear k5
        go_wp2_with fail
        go_ret
        exact ⟨rfl, K5.out⟩
      | some r =>
        obtain ⟨t, rs⟩ := r
        have HA := Lib.hid ha
        clear ha
        go_wp2_with fail
        refine CX.out.mono ?_
        rintro e w1 ⟨kk, hp⟩
        rw [HA.out] at hp
        obtain ⟨C, v, rfl, k, l, o, st, mk, ti, x6, x7, A, m, cap, rfl⟩ := hp.cells
        have KE := Lib.hid (kk.trans ((Keeps.refl w1).alloc (.cells #[.int .i64 (k : Nat), .int .i64 (l : Nat), .bool o, .int .i64 (st : Nat), .int .u8 (mk : Nat), .bool ti, .string x6, .string x7, .slice A m cap, .slice none 0 0] 26)))
        have QX := Lib.hid (QTW.out _ KE.out)
        clear hp kk CX QTW HA
        go_wp2_with fail
        generalize w1.alloc (.cells #[.int .i64 (k : Nat), .int .i64 (l : Nat), .bool o, .int .i64 (st : Nat), .int .u8 (mk : Nat), .bool ti, .string x6, .string x7, .slice A m cap, .slice none 0 0] 26) = w2 at *
        refine QX.out.mono ?_
        rintro e w3 ⟨P2, rfl, rfl, hP2, hP2s⟩
        have CY := Lib.hid (PA.out P2 (by omega) w2 KE.out)
        have HB : Hid (parseM P2.data.toList = none) := Lib.hid (by rw [hP2]; exact QN.out)
        clear hP2 QX PA
        go_wp2_with fail
        refine CY.out.mono ?_
        rintro e w3 ⟨kk, hp⟩
        obtain rfl := hp.deep HB.out
        have ev : blkV 0 0 false 0 0 false [] [] (.slice none 0 0) = .agg #[.int .i64 0, .int .i64 0, .bool false, .int .i64 0, .int .u8 0, .bool false, .string ⟨#[]⟩, .string ⟨#[]⟩, .slice none 0 0, .slice none 0 0] := rfl
        rw [ev]
        have KF := Lib.hid (KE.out.trans (kk.trans ((Keeps.refl w3).alloc (.cells #[.int .i64 0, .int .i64 0, .bool false, .int .i64 0, .int .u8 0, .bool false, .string ⟨#[]⟩, .string ⟨#[]⟩, .slice none 0 0, .slice none 0 0] 26))))
        have AX := Lib.hid (AW.out _ KF.out)
        clear hp ev kk CY AW
        go_wp2_with fail
        generalize w3.alloc (.cells #[.int .i64 0, .int .i64 0, .bool false, .int .i64 0, .int .u8 0, .bool false, .string ⟨#[]⟩, .string ⟨#[]⟩, .slice none 0 0, .slice none 0 0] 26) = w4 at *
        refine AX.out.mono ?_
        rintro e w5 ⟨rfl, k5⟩
        have K5 := Lib.hid (KF.out.trans k5)
        clear k5
        go_wp2_with fail
        go_ret
        exact ⟨rfl, K5.out⟩
    · have HA : Hid (parseM P1.data.toList = some (.mk 1 0 false 0 0 false [] [] ks, rs)) := Lib.hid (by rw [EP1.out]; exact qa)
      have QB := Lib.hid qb
      clear qa qb EP1 QP
      go_wp2_with fail
      refine CX.out.mono ?_
      rintro e w1 ⟨kk, hp⟩
      obtain ⟨kv1, v1, rfl, hk1, hrf1, _⟩ := hp.open HA.out
      obtain ⟨A1, cap1, rfl, n1, n2, n3⟩ := hk1.slice
      obtain ⟨va1, vc1, ev1, rc1, rc2⟩ := refs_form hrf1
      have HRS : Hid (rs.length ≤ maxLen) := Lib.hid (Nat.le_trans rc1 rc2)
      subst ev1
      have ev : blkV 1 0 false 0 0 false [] [] (.slice A1 ks.length cap1) = .agg #[.int .i64 1, .int .i64 0, .bool false, .int .i64 0, .int .u8 0, .bool false, .string ⟨#[]⟩, .string ⟨#[]⟩, (.slice A1 ks.length cap1), .slice none 0 0] := rfl
      rw [ev]
      have KA := (Keeps.refl w1).alloc (.cells #[.int .i64 1, .int .i64 0, .bool false, .int .i64 0, .int .u8 0, .bool false, .string ⟨#[]⟩, .string ⟨#[]⟩, (.slice A1 ks.length cap1), .slice none 0 0] 26)
      have KE := Lib.hid (kk.trans KA)
      have HK1 := Lib.hid (hk1.keep (Nat.le_refl _) KA)
      have HS1 : Hid (w1.heap.size ≤ (w1.alloc (.cells #[.int .i64 1, .int .i64 0, .bool false, .int .i64 0, .int .u8 0, .bool false, .string ⟨#[]⟩, .string ⟨#[]⟩, (.slice A1 ks.length cap1), .slice none 0 0] 26)).heap.size) := Lib.hid KA.size
      have RF1 := Lib.hid (hrf1.keep KA)
      have BB1 := Lib.hid (Blk.new w1 26 #[.int .i64 1, .int .i64 0, .bool false, .int .i64 0, .int .u8 0, .bool false, .string ⟨#[]⟩, .string ⟨#[]⟩, (.slice A1 ks.length cap1), .slice none 0 0])
      have HN1 := Lib.hid n3
      have QX := Lib.hid (QTW.out _ KE.out)
      unfold maxLen at n2
      obtain ⟨b1, hb1⟩ : ∃ b1, w1.heap.size = b1 := ⟨_, rfl⟩
      rw [hb1] at BB1 HK1 HS1
      clear hp ev kk KA CX QTW hk1 hrf1 n3 HA rc1 rc2
      go_wp2_with fail
      generalize w1.alloc (.cells #[.int .i64 1, .int .i64 0, .bool false, .int .i64 0, .int .u8 0, .bool false, .string ⟨#[]⟩, .string ⟨#[]⟩, (.slice A1 ks.length cap1), .slice none 0 0] 26) = w2 at *
      refine QX.out.mono ?_
      rintro e w3 ⟨P2, rfl, rfl, hP2, hP2s⟩
      have CY := Lib.hid (PA.out P2 (by omega) w2 KE.out)
      have HB : Hid (parseM P2.data.toList = some (.mk 1 0 false 0 0 false [] [] [.mk 2 0 false 0 0 false [] [] ks], rs)) := Lib.hid (by rw [hP2]; exact QB.out)
      clear hP2 QX PA QB
      go_wp2_with fail
      refine CY.out.mono ?_
      rintro e w3 ⟨kk, hp⟩
      obtain ⟨kvb, v2, rfl, hkb, hrf2, _⟩ := hp.open HB.out
      obtain ⟨ao, capb, ekv, _, _, hg⟩ := hkb.slice
      obtain ⟨g, rfl⟩ := hg (Nat.succ_pos _)
      have ekv1 : kvb = .slice (some ⟨g, 0, none⟩) 1 capb := ekv
      subst ekv1
      obtain ⟨va2, vc2, ev2, _, _⟩ := refs_form hrf2
      subst ev2
      have ev : blkV 1 0 false 0 0 false [] [] (.slice (some ⟨g, 0, none⟩) 1 capb) = .agg #[.int .i64 1, .int .i64 0, .bool false, .int .i64 0, .int .u8 0, .bool false, .string ⟨#[]⟩, .string ⟨#[]⟩, (.slice (some ⟨g, 0, none⟩) 1 capb), .slice none 0 0] := rfl
      rw [ev]
      have KB := (Keeps.refl w3).alloc (.cells #[.int .i64 1, .int .i64 0, .bool false, .int .i64 0, .int .u8 0, .bool false, .string ⟨#[]⟩, .string ⟨#[]⟩, (.slice (some ⟨g, 0, none⟩) 1 capb), .slice none 0 0] 26)
      have KX := kk.trans KB
      have KF := Lib.hid (KE.out.trans KX)
      obtain ⟨kv2, am, hk2⟩ := (hkb.keep (Nat.le_refl _) KB).at (i := 0) rfl
      obtain ⟨A2, cap2, rfl, m1, m2, m3⟩ := hk2.slice
      have HK2 := Lib.hid hk2
      have HS2 : Hid (w3.heap.size ≤ (w3.alloc (.cells #[.int .i64 1, .int .i64 0, .bool false, .int .i64 0, .int .u8 0, .bool false, .string ⟨#[]⟩, .string ⟨#[]⟩, (.slice (some ⟨g, 0, none⟩) 1 capb), .slice none 0 0] 26)).heap.size) := Lib.hid KB.size
      have HK1' := Lib.hid (HK1.out.keep HS1.out KX)
      have HS1' := Lib.hid (Nat.le_trans HS1.out KX.size)
      have RF1' := Lib.hid (RF1.out.keep KX)
      have RF2 := Lib.hid (hrf2.keep KB)
      have BB2 := Lib.hid (Blk.new w3 26 #[.int .i64 1, .int .i64 0, .bool false, .int .i64 0, .int .u8 0, .bool false, .string ⟨#[]⟩, .string ⟨#[]⟩, (.slice (some ⟨g, 0, none⟩) 1 capb), .slice none 0 0])
      have BB1' := Lib.hid (BB1.out.keep KX)
      have AM := Lib.hid am
      have HN2 := Lib.hid m3
      unfold maxLen at m2
      obtain ⟨b2, hb2⟩ : ∃ b2, w3.heap.size = b2 := ⟨_, rfl⟩
      rw [hb2] at BB2 HK2 HS2
      have c8 := BB1'.out.cell 8 (v := .slice A1 ks.length cap1) rfl
      have d8 := BB2.out.cell 8 (v := .slice (some ⟨g, 0, none⟩) 1 capb) rfl
      have e0 : (w3.alloc (.cells #[.int .i64 1, .int .i64 0, .bool false, .int .i64 0, .int .u8 0, .bool false, .string ⟨#[]⟩, .string ⟨#[]⟩, (.slice (some ⟨g, 0, none⟩) 1 capb), .slice none 0 0] 26)).cell? ⟨g, 0, none⟩ = some (.int .i64 2) := AM.out.c0
      have e8 : (w3.alloc (.cells #[.int .i64 1, .int .i64 0, .bool false, .int .i64 0, .int .u8 0, .bool false, .string ⟨#[]⟩, .string ⟨#[]⟩, (.slice (some ⟨g, 0, none⟩) 1 capb), .slice none 0 0] 26)).cell? ⟨g, 8, none⟩ = some (.slice A2 ks.length cap2) := AM.out.c8
      have t1 : ((ks.length : Int) != (ks.length : Int)) = false := by rw [bne, beq_self_eq_true]; rfl
      clear hp ev kk KB KX CY hkb hrf2 hg ekv am hk2 m3 HK1 HS1 RF1 BB1 KE
      go_wp2_with fail
      generalize w3.alloc (.cells #[.int .i64 1, .int .i64 0, .bool false, .int .i64 0, .int .u8 0, .bool false, .string ⟨#[]⟩, .string ⟨#[]⟩, (.slice (some ⟨g, 0, none⟩) 1 capb), .slice none 0 0] 26) = w4 at *
      go_quiet (fail)
      go_wp2_with fail
      clear c8 d8 e0 e8
      go_loopw [9] (fun i wr => ∃ j : Nat, j ≤ ks.length ∧ i = .int .i64 j ∧ Hid (Keeps w4 wr)) (fun i _ => ks.length - (RowKit.intOf i).toNat)
      case atStart => exact ⟨0, Nat.zero_le _, rfl, Lib.hid ((Keeps.refl _).drewN nq)⟩
      case round =>
        obtain ⟨j, hj, rfl, HW⟩ := hrel
        have KW := Lib.hid (KF.out.trans HW.out)
        have z1 := (BB1'.out.keep HW.out).cell 8 (v := .slice A1 ks.length cap1) rfl
        have z2 := (BB2.out.keep HW.out).cell 8 (v := .slice (some ⟨g, 0, none⟩) 1 capb) rfl
        have z3 : wr.cell? ⟨g, 8, none⟩ = some (.slice A2 ks.length cap2) := (AM.out.keep HW.out).c8
        by_cases cj : j < ks.length
        · obtain ⟨g1, rfl⟩ := HN1.out (by omega)
          obtain ⟨g2, rfl⟩ := HN2.out (by omega)
          obtain ⟨c1', hd1', hcell1⟩ := (HK1'.out.keep HS1'.out HW.out).tree cj
          obtain ⟨c2', hd2', hcell2⟩ := (HK2.out.keep HS2.out HW.out).tree cj
          have CL := Lib.hid (fun W' (q : Keeps wr W') (C1 C2 : Array Value) (hC1 : C1.toList = c1'.1) (hC2 : C2.toList = c2'.1) => same_any _ ks[j] W' _ _ _ _ c1' c2' C1 C2 (Nat.le_refl _) (hd1'.keep (Nat.le_trans HS1'.out HW.out.size) q) (hd2'.keep (Nat.le_trans HS2.out HW.out.size) q) hC1 hC2 (Nat.le_trans HS1'.out (Nat.le_trans HW.out.size q.size)) (Nat.le_trans HS2.out (Nat.le_trans HW.out.size q.size)))
          generalize hkj : ks[j] = dj at *
          obtain ⟨k', l', o', st', mk', ti', info', text', kids'⟩ := dj
          obtain ⟨kv1', hc1', hk1'⟩ := hd1'.form
          obtain ⟨E1, ec1, rfl, -, -, -⟩ := hk1'.slice
          obtain ⟨kv2', hc2', hk2'⟩ := hd2'.form
          obtain ⟨E2, ec2, rfl, -, -, -⟩ := hk2'.slice
          rw [hc1'] at CL hcell1
          rw [hc2'] at CL hcell2
          unfold blkT at CL hcell1 hcell2
          have p0 : wr.cell? ⟨g1, j * 10, none⟩ = some (.int .i64 k') := hcell1 0 (by decide)
          have p1 : wr.cell? ⟨g1, j * 10 + 1, none⟩ = some (.int .i64 l') := hcell1 1 (by decide)
          have p2 : wr.cell? ⟨g1, j * 10 + 2, none⟩ = some (.bool o') := hcell1 2 (by decide)
          have p3 : wr.cell? ⟨g1, j * 10 + 3, none⟩ = some (.int .i64 st') := hcell1 3 (by decide)
          have p4 : wr.cell? ⟨g1, j * 10 + 4, none⟩ = some (.int .u8 mk') := hcell1 4 (by decide)
          have p5 : wr.cell? ⟨g1, j * 10 + 5, none⟩ = some (.bool ti') := hcell1 5 (by decide)
          have p8 : wr.cell? ⟨g1, j * 10 + 8, none⟩ = some (.slice E1 kids'.length ec1) := hcell1 8 (by decide)
          have p9 : wr.cell? ⟨g1, j * 10 + 9, none⟩ = some (.slice none 0 0) := hcell1 9 (by decide)
          have p6 := hcell1 6 (by decide)
          have p7 := hcell1 7 (by decide)
          simp only [List.getElem?_cons_succ, List.getElem?_cons_zero] at p6 p7
          have q0 : wr.cell? ⟨g2, j * 10, none⟩ = some (.int .i64 k') := hcell2 0 (by decide)
          have q1 : wr.cell? ⟨g2, j * 10 + 1, none⟩ = some (.int .i64 l') := hcell2 1 (by decide)
          have q2 : wr.cell? ⟨g2, j * 10 + 2, none⟩ = some (.bool o') := hcell2 2 (by decide)
          have q3 : wr.cell? ⟨g2, j * 10 + 3, none⟩ = some (.int .i64 st') := hcell2 3 (by decide)
          have q4 : wr.cell? ⟨g2, j * 10 + 4, none⟩ = some (.int .u8 mk') := hcell2 4 (by decide)
          have q5 : wr.cell? ⟨g2, j * 10 + 5, none⟩ = some (.bool ti') := hcell2 5 (by decide)
          have q8 : wr.cell? ⟨g2, j * 10 + 8, none⟩ = some (.slice E2 kids'.length ec2) := hcell2 8 (by decide)
          have q9 : wr.cell? ⟨g2, j * 10 + 9, none⟩ = some (.slice none 0 0) := hcell2 9 (by decide)
          have q6 := hcell2 6 (by decide)
          have q7 := hcell2 7 (by decide)
          simp only [List.getElem?_cons_succ, List.getElem?_cons_zero] at q6 q7
          obtain ⟨y6, hy6⟩ : ∃ x : ByteArray, (⟨info'.toArray⟩ : ByteArray) = x := ⟨_, rfl⟩
          obtain ⟨y7, hy7⟩ : ∃ x : ByteArray, (⟨text'.toArray⟩ : ByteArray) = x := ⟨_, rfl⟩
          rw [hy6] at p6 q6 CL
          rw [hy7] at p7 q7 CL
          have hjj : (j : Int) < (ks.length : Int) := by omega
          obtain ⟨L, hL⟩ : ∃ L : List (Addr × Value), L = [(⟨b1, 8, none⟩, (.slice (some ⟨g1, 0, none⟩) ks.length cap1)), (⟨b2, 8, none⟩, (.slice (some ⟨g, 0, none⟩) 1 capb)), (⟨g, 8, none⟩, (.slice (some ⟨g2, 0, none⟩) ks.length cap2)), (⟨g1, j * 10, none⟩, (.int .i64 k')), (⟨g1, j * 10 + 1, none⟩, (.int .i64 l')), (⟨g1, j * 10 + 2, none⟩, (.bool o')), (⟨g1, j * 10 + 3, none⟩, (.int .i64 st')), (⟨g1, j * 10 + 4, none⟩, (.int .u8 mk')), (⟨g1, j * 10 + 5, none⟩, (.bool ti')), (⟨g1, j * 10 + 6, none⟩, (.string y6)), (⟨g1, j * 10 + 7, none⟩, (.string y7)), (⟨g1, j * 10 + 8, none⟩, (.slice E1 kids'.length ec1)), (⟨g1, j * 10 + 9, none⟩, (.slice none 0 0)), (⟨g2, j * 10, none⟩, (.int .i64 k')), (⟨g2, j * 10 + 1, none⟩, (.int .i64 l')), (⟨g2, j * 10 + 2, none⟩, (.bool o')), (⟨g2, j * 10 + 3, none⟩, (.int .i64 st')), (⟨g2, j * 10 + 4, none⟩, (.int .u8 mk')), (⟨g2, j * 10 + 5, none⟩, (.bool ti')), (⟨g2, j * 10 + 6, none⟩, (.string y6)), (⟨g2, j * 10 + 7, none⟩, (.string y7)), (⟨g2, j * 10 + 8, none⟩, (.slice E2 kids'.length ec2)), (⟨g2, j * 10 + 9, none⟩, (.slice none 0 0))] := ⟨_, rfl⟩
          have C0 : ∀ q ∈ L, wr.cell? q.1 = some q.2 := by rw [hL]; exact cells_cons z1 (cells_cons z2 (cells_cons z3 (cells_cons p0 (cells_cons p1 (cells_cons p2 (cells_cons p3 (cells_cons p4 (cells_cons p5 (cells_cons p6 (cells_cons p7 (cells_cons p8 (cells_cons p9 (cells_cons q0 (cells_cons q1 (cells_cons q2 (cells_cons q3 (cells_cons q4 (cells_cons q5 (cells_cons q6 (cells_cons q7 (cells_cons q8 (cells_cons q9 (cells_nil _)))))))))))))))))))))))
          have NE : Nonempty (InS (CellsK L wr)) := ⟨⟨_, CellsK.start C0⟩⟩
          have Gz1 : ∀ x : InS (CellsK L wr), x.w.cell? ⟨b1, 8, none⟩ = some (.slice (some ⟨g1, 0, none⟩) ks.length cap1) := fun x => x.ok.cells (_, _) (by rw [hL]; simp)
          have Gz2 : ∀ x : InS (CellsK L wr), x.w.cell? ⟨b2, 8, none⟩ = some (.slice (some ⟨g, 0, none⟩) 1 capb) := fun x => x.ok.cells (_, _) (by rw [hL]; simp)
          have Gz3 : ∀ x : InS (CellsK L wr), x.w.cell? ⟨g, 8, none⟩ = some (.slice (some ⟨g2, 0, none⟩) ks.length cap2) := fun x => x.ok.cells (_, _) (by rw [hL]; simp)
          have Gp0 : ∀ x : InS (CellsK L wr), x.w.cell? ⟨g1, j * 10, none⟩ = some (.int .i64 k') := fun x => x.ok.cells (_, _) (by rw [hL]; simp)
          have Gp1 : ∀ x : InS (CellsK L wr), x.w.cell? ⟨g1, j * 10 + 1, none⟩ = some (.int .i64 l') := fun x => x.ok.cells (_, _) (by rw [hL]; simp)
          have Gp2 : ∀ x : InS (CellsK L wr), x.w.cell? ⟨g1, j * 10 + 2, none⟩ = some (.bool o') := fun x => x.ok.cells (_, _) (by rw [hL]; simp)
          have Gp3 : ∀ x : InS (CellsK L wr), x.w.cell? ⟨g1, j * 10 + 3, none⟩ = some (.int .i64 st') := fun x => x.ok.cells (_, _) (by rw [hL]; simp)
          have Gp4 : ∀ x : InS (CellsK L wr), x.w.cell? ⟨g1, j * 10 + 4, none⟩ = some (.int .u8 mk') := fun x => x.ok.cells (_, _) (by rw [hL]; simp)
          have Gp5 : ∀ x : InS (CellsK L wr), x.w.cell? ⟨g1, j * 10 + 5, none⟩ = some (.bool ti') := fun x => x.ok.cells (_, _) (by rw [hL]; simp)
          have Gp6 : ∀ x : InS (CellsK L wr), x.w.cell? ⟨g1, j * 10 + 6, none⟩ = some (.string y6) := fun x => x.ok.cells (_, _) (by rw [hL]; simp)
          have Gp7 : ∀ x : InS (CellsK L wr), x.w.cell? ⟨g1, j * 10 + 7, none⟩ = some (.string y7) := fun x => x.ok.cells (_, _) (by rw [hL]; simp)
          have Gp8 : ∀ x : InS (CellsK L wr), x.w.cell? ⟨g1, j * 10 + 8, none⟩ = some (.slice E1 kids'.length ec1) := fun x => x.ok.cells (_, _) (by rw [hL]; simp)
          have Gp9 : ∀ x : InS (CellsK L wr), x.w.cell? ⟨g1, j * 10 + 9, none⟩ = some (.slice none 0 0) := fun x => x.ok.cells (_, _) (by rw [hL]; simp)
          have Gq0 : ∀ x : InS (CellsK L wr), x.w.cell? ⟨g2, j * 10, none⟩ = some (.int .i64 k') := fun x => x.ok.cells (_, _) (by rw [hL]; simp)
          have Gq1 : ∀ x : InS (CellsK L wr), x.w.cell? ⟨g2, j * 10 + 1, none⟩ = some (.int .i64 l') := fun x => x.ok.cells (_, _) (by rw [hL]; simp)
          have Gq2 : ∀ x : InS (CellsK L wr), x.w.cell? ⟨g2, j * 10 + 2, none⟩ = some (.bool o') := fun x => x.ok.cells (_, _) (by rw [hL]; simp)
          have Gq3 : ∀ x : InS (CellsK L wr), x.w.cell? ⟨g2, j * 10 + 3, none⟩ = some (.int .i64 st') := fun x => x.ok.cells (_, _) (by rw [hL]; simp)
          have Gq4 : ∀ x : InS (CellsK L wr), x.w.cell? ⟨g2, j * 10 + 4, none⟩ = some (.int .u8 mk') := fun x => x.ok.cells (_, _) (by rw [hL]; simp)
          have Gq5 : ∀ x : InS (CellsK L wr), x.w.cell? ⟨g2, j * 10 + 5, none⟩ = some (.bool ti') := fun x => x.ok.cells (_, _) (by rw [hL]; simp)
          have Gq6 : ∀ x : InS (CellsK L wr), x.w.cell? ⟨g2, j * 10 + 6, none⟩ = some (.string y6) := fun x => x.ok.cells (_, _) (by rw [hL]; simp)
          have Gq7 : ∀ x : InS (CellsK L wr), x.w.cell? ⟨g2, j * 10 + 7, none⟩ = some (.string y7) := fun x => x.ok.cells (_, _) (by rw [hL]; simp)
          have Gq8 : ∀ x : InS (CellsK L wr), x.w.cell? ⟨g2, j * 10 + 8, none⟩ = some (.slice E2 kids'.length ec2) := fun x => x.ok.cells (_, _) (by rw [hL]; simp)
          have Gq9 : ∀ x : InS (CellsK L wr), x.w.cell? ⟨g2, j * 10 + 9, none⟩ = some (.slice none 0 0) := fun x => x.ok.cells (_, _) (by rw [hL]; simp)
          have SMC : Hid (∀ x : InS (CellsK L wr), Calls Tryz.prog 14 #[.agg #[.int .i64 k', .int .i64 l', .bool o', .int .i64 st', .int .u8 mk', .bool ti', .string y6, .string y7, .slice E1 kids'.length ec1, .slice none 0 0], .agg #[.int .i64 k', .int .i64 l', .bool o', .int .i64 st', .int .u8 mk', .bool ti', .string y6, .string y7, .slice E2 kids'.length ec2, .slice none 0 0]] x.w fun e w' => e = .returned (.bool true) ∧ Keeps x.w w') := Lib.hid (fun x => CL.out x.w x.ok.since _ _ rfl rfl)
          have LD1 : ∀ x : InS (CellsK L wr), (Instr.loadAt 26 (.pointer (some ⟨g1, j * 10, none⟩))).run Tryz.prog x.w = .ok (.agg #[.int .i64 k', .int .i64 l', .bool o', .int .i64 st', .int .u8 mk', .bool ti', .string y6, .string y7, .slice E1 kids'.length ec1, .slice none 0 0]) x.w := fun x => run_loadAt_mid x.w g1 (j * 10) 26 #[.int .i64 k', .int .i64 l', .bool o', .int .i64 st', .int .u8 mk', .bool ti', .string y6, .string y7, .slice E1 kids'.length ec1, .slice none 0 0].toList _ (by
              intro i v hv
              have hi : i < 10 := (List.getElem?_eq_some_iff.1 hv).1
              match i, hi, hv with
              | 0, _, hv => exact (Gp0 x).trans hv
              | 1, _, hv => exact (Gp1 x).trans hv
              | 2, _, hv => exact (Gp2 x).trans hv
              | 3, _, hv => exact (Gp3 x).trans hv
              | 4, _, hv => exact (Gp4 x).trans hv
              | 5, _, hv => exact (Gp5 x).trans hv
              | 6, _, hv => exact (Gp6 x).trans hv
              | 7, _, hv => exact (Gp7 x).trans hv
              | 8, _, hv => exact (Gp8 x).trans hv
              | 9, _, hv => exact (Gp9 x).trans hv
              | n + 10, h, _ => omega) Tryz.underlying26 rfl rfl
          have LD2 : ∀ x : InS (CellsK L wr), (Instr.loadAt 26 (.pointer (some ⟨g2, j * 10, none⟩))).run Tryz.prog x.w = .ok (.agg #[.int .i64 k', .int .i64 l', .bool o', .int .i64 st', .int .u8 mk', .bool ti', .string y6, .string y7, .slice E2 kids'.length ec2, .slice none 0 0]) x.w := fun x => run_loadAt_mid x.w g2 (j * 10) 26 #[.int .i64 k', .int .i64 l', .bool o', .int .i64 st', .int .u8 mk', .bool ti', .string y6, .string y7, .slice E2 kids'.length ec2, .slice none 0 0].toList _ (by
              intro i v hv
              have hi : i < 10 := (List.getElem?_eq_some_iff.1 hv).1
              match i, hi, hv with
              | 0, _, hv => exact (Gq0 x).trans hv
              | 1, _, hv => exact (Gq1 x).trans hv
              | 2, _, hv => exact (Gq2 x).trans hv
              | 3, _, hv => exact (Gq3 x).trans hv
              | 4, _, hv => exact (Gq4 x).trans hv
              | 5, _, hv => exact (Gq5 x).trans hv
              | 6, _, hv => exact (Gq6 x).trans hv
              | 7, _, hv => exact (Gq7 x).trans hv
              | 8, _, hv => exact (Gq8 x).trans hv
              | 9, _, hv => exact (Gq9 x).trans hv
              | n + 10, h, _ => omega) Tryz.underlying26 rfl rfl
          clear hcell1 hcell2 hd1' hd2' hc1' hc2' hk1' hk2' CL hy6 hy7 hkj hL
          go_wp2_with fail
          clear z1 z2 z3 p0 p1 p2 p3 p4 p5 p6 p7 p8 p9 q0 q1 q2 q3 q4 q5 q6 q7 q8 q9
          refine wp_region_class (CellsK L wr) (by kernel_rfl) (by kernel_rfl) (CellsK.start C0) ?_
          clear Gp0 Gp1 Gp2 Gp3 Gp4 Gp5 Gp6 Gp7 Gp8 Gp9 Gq0 Gq1 Gq2 Gq3 Gq4 Gq5 Gq6 Gq7 Gq8 Gq9
          iterate 4 (go_big_quiet_step (fail))
          refine class_load 26 _ rfl rfl _ _ rfl LD1 ?_
          simp only [Act.put, List.setIfInBounds_toArray, List.set_cons_zero, List.set_cons_succ]
          iterate 7 (go_big_quiet_step (fail))
          refine class_load 26 _ rfl rfl _ _ rfl LD2 ?_
          simp only [Act.put, List.setIfInBounds_toArray, List.set_cons_zero, List.set_cons_succ]
          repeat (go_big_quiet_step ((go_at_call 14; exact class_call (fun _ h k => h.keep k) (SMC.out _))))
          refine wpQuiet_nil ?_
          rintro w5 ⟨⟨w6, h6⟩, rfl⟩
          have K6 := Lib.hid (HW.out.trans h6.since)
          clear NE Gz1 Gz2 Gz3 C0 h6 SMC LD1 LD2
          go_wp2_with fail
          go_roundw
          case rel => exact ⟨j + 1, by omega, by go_num, K6⟩
          case measure => simp [RowKit.intOf]; omega
        · have hjj : ¬ (j : Int) < (ks.length : Int) := by omega
          have AX := Lib.hid (AW.out wr KW.out)
          have SR := Lib.hid (fun W (q : Keeps wr W) => srefs_any rs va1 va2 rs.length vc1 vc2 W rfl HRS.out ((RF1'.out.keep HW.out).keep q) ((RF2.out.keep HW.out).keep q))
          clear HK1' HK2 HN1 HN2
          go_wp2_with fail
          refine AX.out.mono ?_
          rintro e w5 ⟨rfl, k5⟩
          have K5 := Lib.hid (KW.out.trans k5)
          have SX := Lib.hid (SR.out w5 k5)
          clear k5 AX SR
          go_wp2_with fail
          refine SX.out.mono ?_
          rintro e w6 ⟨rfl, k6⟩
          have K6 := Lib.hid (K5.out.trans k6)
          clear k6 SX
          go_wp2_with fail
          go_ret
          exact ⟨rfl, K6.out⟩
set_option maxRecDepth 100000 in
set_option maxHeartbeats 2000000 in
theorem bquotes_none (a : Option Addr) (c : Nat) (w : World) (hO : Lis w) (hM : Mxl w) : Calls Tryz.prog 4 #[.slice a 0 c] w fun e w' => e = .returned (.bool true) ∧ Keeps w w' := by
  have AX := Lib.hid (awake12_any w hO hM)
  have LN := Lib.hid (lines_none a c w)
  clear hO hM
  go_enter Tryz.func4, Tryz.ntmps4
  go_wp2_with fail
  refine LN.out.mono ?_
  rintro e w1 ⟨rfl, rfl⟩
  clear LN
  go_wp2_with fail
  refine AX.out.mono ?_
  rintro e w1 ⟨rfl, k1⟩
  go_wp2_with fail
  go_ret
  exact ⟨rfl, k1⟩
theorem bquotes_any (a : Option Addr) (n c : Nat) (xs : List ByteArray) (w : World) (hn : xs.length = n) (hs : ∀ x ∈ xs, x.size ≤ maxLen) (hc : 0 < n → ∃ b off, a = some ⟨b, off, none⟩ ∧ ∀ k, k < n → w.cell? ⟨b, off + k, none⟩ = some (.string (xs.getD k ⟨#[]⟩))) (hm : n ≤ maxLen) (hO : Lis w) (hM : Mxl w) :
    Calls Tryz.prog 4 #[.slice a n c] w fun e w' => e = .returned (.bool true) ∧ Keeps w w' := by
  by_cases h : n = 0
  · subst h; exact bquotes_none a c w hO hM
  · obtain ⟨b, off, rfl, hcell⟩ := hc (by omega)
    exact bquotes_some xs b off n c w hn (by omega) hm hs hcell hO hM
end Go.Proofs.YtfgpephpkibbaaaGreatDoor


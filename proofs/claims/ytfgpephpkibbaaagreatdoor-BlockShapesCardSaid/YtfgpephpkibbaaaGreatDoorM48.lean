/-
  Texts of the proof, one behind the other: Bse, Bsd.
-/
import Derived.Test.YtfgpephpkibbaaaGreatDoorM47
/-
  Contract of the law's shaped.
-/
namespace Go.Proofs.YtfgpephpkibbaaaGreatDoor
open Go.RowKit Go.Lib Go.Maps

/-- A whole struct is loaded: the same in each world of the class. -/
theorem class_load {P : Program} {ops : Array Oper} {S : World → Prop} {Q : Act → Prop} {a : Act} {o : Oper} {rest : List Oper} (ty : TypeId) (x : Operand) (ho : o.op = .load ty x) (hw : Region.wanted o (yielded ops a.tmps) = true) (p v : Value) (hx : a.eval x = p)
    (hl : ∀ y : InS S, (Instr.loadAt ty p).run P y.w = .ok v y.w) (h : wpQuiet P ops (fun w' => ∃ y : InS S, w' = y.w) Q rest (a.put o.dst v)) : wpQuiet P ops (fun w' => ∃ y : InS S, w' = y.w) Q (o :: rest) a :=
  BigFrame.wpQuiet_want hw fun _ hK => ⟨v, fun w hw' => by
    obtain ⟨y, rfl⟩ := hw'
    unfold Oper.quietAt execOp
    simp only [ho, hx, Sem.run_bind, Sem.run_pure, hl y, Result.andThen_ok]
    exact ⟨rfl, rfl⟩, hK _ h⟩
set_option maxRecDepth 100000 in
set_option maxHeartbeats 16000000 in
theorem shaped_any : ∀ (f : Nat) (t : Tr) (W : World) (lo hi : Nat) (c : Ten) (C : Array Value), dpT t ≤ f → shT t = true → TreeAt W lo hi t c → C.toList = c.1 → hi ≤ W.heap.size →
    Calls Tryz.prog 9 #[.agg C] W fun e w' => e = .returned (.bool true) ∧ Keeps W w' := by
  intro f
  induction f with
  | zero => intro t W lo hi c C h; have := dp_pos t; omega
  | succ f ih =>
  intro t W lo hi c C hf hsh hd hC hP
  cases t with
  | mk k l o st mk ti info text kids =>
  obtain ⟨kv, hc, hk⟩ := hd.form
  obtain ⟨A, cap, rfl, n1, n2, n3⟩ := hk.slice
  rw [hc] at hC
  have eC := arrB_of hC
  unfold blkT at eC
  subst eC
  clear hC hc hd
  rw [dpT] at hf
  rw [shT, Bool.and_eq_true] at hsh
  have hown := own_facts hsh.1
  have HSL := Lib.hid hsh.2
  obtain ⟨x6, hx6⟩ : ∃ x : ByteArray, (⟨info.toArray⟩ : ByteArray) = x := ⟨_, rfl⟩
  obtain ⟨x7, hx7⟩ : ∃ x : ByteArray, (⟨text.toArray⟩ : ByteArray) = x := ⟨_, rfl⟩
  have h7 : text ≠ [] → 0 < x7.size := fun h => by
    rw [← hx7]
    cases text with
    | nil => exact absurd rfl h
    | cons a b => show 0 < (a :: b).toArray.size; simp
  rw [hx6, hx7]
  clear hx6 hx7 hsh
  have IH := Lib.hid ih
  have HK := Lib.hid hk
  have HP := Lib.hid hP
  have HN := Lib.hid n3
  have HM := Lib.hid (show dpL kids ≤ f by omega)
  have KA := Lib.hid ((Keeps.refl W).alloc (.cells #[.int .i64 k, .int .i64 l, .bool o, .int .i64 st, .int .u8 mk, .bool ti, .string x6, .string x7, .slice A kids.length cap, .slice none 0 0] 26))
  have BA := Lib.hid (Blk.new W 26 #[.int .i64 k, .int .i64 l, .bool o, .int .i64 st, .int .u8 mk, .bool ti, .string x6, .string x7, .slice A kids.length cap, .slice none 0 0])
  have hown2 : (k = 6 ∧ 1 ≤ l ∧ l ≤ 6) ∨ (k = 5 ∧ 0 < x7.size) ∨ (k = 3 ∧ 0 < kids.length) ∨ (k ≠ 6 ∧ k ≠ 5 ∧ k ≠ 3) := by
    rcases hown with q | ⟨q, q2⟩ | q | q
    · exact .inl q
    · exact .inr (.inl ⟨q, h7 q2⟩)
    · exact .inr (.inr (.inl q))
    · exact .inr (.inr (.inr q))
  clear ih hk hP n3 hf hown h7
  simp only [List.toArray] at *
  unfold maxLen at n2
  have hc4 : (((k : Int) == 6) = true ∧ ((k : Int) == 5) = false ∧ ((k : Int) == 3) = false ∧ ¬ (l : Int) < 1 ∧ ¬ (6 : Int) < (l : Int)) ∨ (((k : Int) == 6) = false ∧ ((k : Int) == 5) = true ∧ ((k : Int) == 3) = false ∧ x7.toList.isEmpty = false ∧ ¬ x7.toList = []) ∨ (((k : Int) == 6) = false ∧ ((k : Int) == 5) = false ∧ ((k : Int) == 3) = true ∧ ((kids.length : Int) == 0) = false) ∨ (((k : Int) == 6) = false ∧ ((k : Int) == 5) = false ∧ ((k : Int) == 3) = false) := by
    rcases hown2 with ⟨hkk, l1, l6⟩ | ⟨hkk, hx⟩ | ⟨hkk, hl0⟩ | ⟨k6, k5, k3⟩
    · exact .inl ⟨by rw [hkk]; rfl, by rw [hkk]; rfl, by rw [hkk]; rfl, by omega, by omega⟩
    · exact .inr (.inl ⟨by rw [hkk]; rfl, by rw [hkk]; rfl, by rw [hkk]; rfl, tl_empty hx, tl_ne hx⟩)
    · exact .inr (.inr (.inl ⟨by rw [hkk]; rfl, by rw [hkk]; rfl, by rw [hkk]; rfl, beq_eq_false_iff_ne.2 (by omega)⟩))
    · exact .inr (.inr (.inr ⟨beq_eq_false_iff_ne.2 (by omega), beq_eq_false_iff_ne.2 (by omega), beq_eq_false_iff_ne.2 (by omega)⟩))
  clear hown2
  rcases hc4 with ⟨e6, e5, e3, a1, a2⟩ | ⟨e6, e5, e3, a1, a2⟩ | ⟨e6, e5, e3, a1⟩ | ⟨e6, e5, e3⟩
  all_goals
    go_enter Tryz.func9, Tryz.ntmps9
    go_wp2_with fail
    generalize W.alloc (.cells #[.int .i64 k, .int .i64 l, .bool o, .int .i64 st, .int .u8 mk, .bool ti, .string x6, .string x7, .slice A kids.length cap, .slice none 0 0] 26) = w1 at *
    obtain ⟨bx, hbx⟩ : ∃ bx, W.heap.size = bx := ⟨_, rfl⟩
    rw [hbx] at BA ⊢
    have HP2 : Hid (hi ≤ W.heap.size) := HP
    clear hbx
    go_loopw [3] (fun i wr => ∃ j : Nat, j ≤ kids.length ∧ i = .int .i64 j ∧ Hid (Keeps w1 wr)) (fun i _ => kids.length - (RowKit.intOf i).toNat)
    case atStart => exact ⟨0, Nat.zero_le _, rfl, Lib.hid (Keeps.refl _)⟩
    case round =>
      obtain ⟨j, hj, rfl, HW⟩ := hrel
      clear e6 e5 e3
      have KW := Lib.hid (KA.out.trans HW.out)
      have BW := BA.out.keep HW.out
      have z0 : wr.cell? ⟨bx, 0, none⟩ = some (.int .i64 k) := BW.cell 0 rfl
      have z8 := BW.cell 8 (v := .slice A kids.length cap) rfl
      clear BW
      by_cases c1 : j < kids.length
      · obtain ⟨g, rfl⟩ := HN.out (by omega)
        have hkw := HK.out.keep HP.out KW.out
        obtain ⟨c', hd', hcell⟩ := hkw.tree c1
        obtain ⟨hh, hs'⟩ := shL_get kids j c1 HSL.out
        have hjl := dpL_get kids j c1
        have CL := Lib.hid (fun W' (q : Keeps wr W') (C : Array Value) (hC : C.toList = c'.1) => IH.out kids[j] W' lo hi c' C (by have := HM.out; omega) hs' (hd'.keep (Nat.le_trans HP.out KW.out.size) q) hC (Nat.le_trans HP.out (Nat.le_trans KW.out.size q.size)))
        generalize hkj : kids[j] = dj at *
        obtain ⟨k', l', o', st', mk', ti', info', text', kids'⟩ := dj
        obtain ⟨kv', hc', hk'⟩ := hd'.form
        obtain ⟨A', cap', rfl, -, -, -⟩ := hk'.slice
        rw [hc'] at CL hcell
        unfold blkT at CL hcell
        have HO := Lib.hid (fun w => lawHolds_any k k' w hh)
        have q0 : wr.cell? ⟨g, j * 10, none⟩ = some (.int .i64 k') := hcell 0 (by decide)
        have q1 : wr.cell? ⟨g, j * 10 + 1, none⟩ = some (.int .i64 l') := hcell 1 (by decide)
        have q2 : wr.cell? ⟨g, j * 10 + 2, none⟩ = some (.bool o') := hcell 2 (by decide)
        have q3 : wr.cell? ⟨g, j * 10 + 3, none⟩ = some (.int .i64 st') := hcell 3 (by decide)
        have q4 : wr.cell? ⟨g, j * 10 + 4, none⟩ = some (.int .u8 mk') := hcell 4 (by decide)
        have q5 : wr.cell? ⟨g, j * 10 + 5, none⟩ = some (.bool ti') := hcell 5 (by decide)
        have q8 : wr.cell? ⟨g, j * 10 + 8, none⟩ = some (.slice A' kids'.length cap') := hcell 8 (by decide)
        have q9 : wr.cell? ⟨g, j * 10 + 9, none⟩ = some (.slice none 0 0) := hcell 9 (by decide)
        have q6 := hcell 6 (by decide)
        have q7 := hcell 7 (by decide)
        simp only [List.getElem?_cons_succ, List.getElem?_cons_zero] at q6 q7
        obtain ⟨y6, hy6⟩ : ∃ x : ByteArray, (⟨info'.toArray⟩ : ByteArray) = x := ⟨_, rfl⟩
        obtain ⟨y7, hy7⟩ : ∃ x : ByteArray, (⟨text'.toArray⟩ : ByteArray) = x := ⟨_, rfl⟩
        rw [hy6] at q6 CL
        rw [hy7] at q7 CL
        have hjj : (j : Int) < (kids.length : Int) := by omega
        obtain ⟨L, hL⟩ : ∃ L : List (Addr × Value), L = [(⟨bx, 0, none⟩, .int .i64 k), (⟨bx, 8, none⟩, .slice (some ⟨g, 0, none⟩) kids.length cap), (⟨g, j * 10, none⟩, (.int .i64 k')), (⟨g, j * 10 + 1, none⟩, (.int .i64 l')), (⟨g, j * 10 + 2, none⟩, (.bool o')), (⟨g, j * 10 + 3, none⟩, (.int .i64 st')), (⟨g, j * 10 + 4, none⟩, (.int .u8 mk')), (⟨g, j * 10 + 5, none⟩, (.bool ti')), (⟨g, j * 10 + 6, none⟩, (.string y6)), (⟨g, j * 10 + 7, none⟩, (.string y7)), (⟨g, j * 10 + 8, none⟩, (.slice A' kids'.length cap')), (⟨g, j * 10 + 9, none⟩, (.slice none 0 0))] := ⟨_, rfl⟩
        have C0 : ∀ q ∈ L, wr.cell? q.1 = some q.2 := by rw [hL]; exact cells_cons z0 (cells_cons z8 (cells_cons q0 (cells_cons q1 (cells_cons q2 (cells_cons q3 (cells_cons q4 (cells_cons q5 (cells_cons q6 (cells_cons q7 (cells_cons q8 (cells_cons q9 (cells_nil _))))))))))))
        have NE : Nonempty (InS (CellsK L wr)) := ⟨⟨_, CellsK.start C0⟩⟩
        have Gz0 : ∀ x : InS (CellsK L wr), x.w.cell? ⟨bx, 0, none⟩ = some (.int .i64 k) := fun x => x.ok.cells (_, _) (by rw [hL]; simp)
        have Gz8 : ∀ x : InS (CellsK L wr), x.w.cell? ⟨bx, 8, none⟩ = some (.slice (some ⟨g, 0, none⟩) kids.length cap) := fun x => x.ok.cells (_, _) (by rw [hL]; simp)
        have Gq0 : ∀ x : InS (CellsK L wr), x.w.cell? ⟨g, j * 10, none⟩ = some (.int .i64 k') := fun x => x.ok.cells (_, _) (by rw [hL]; simp)
        have Gq1 : ∀ x : InS (CellsK L wr), x.w.cell? ⟨g, j * 10 + 1, none⟩ = some (.int .i64 l') := fun x => x.ok.cells (_, _) (by rw [hL]; simp)
        have Gq2 : ∀ x : InS (CellsK L wr), x.w.cell? ⟨g, j * 10 + 2, none⟩ = some (.bool o') := fun x => x.ok.cells (_, _) (by rw [hL]; simp)
        have Gq3 : ∀ x : InS (CellsK L wr), x.w.cell? ⟨g, j * 10 + 3, none⟩ = some (.int .i64 st') := fun x => x.ok.cells (_, _) (by rw [hL]; simp)
        have Gq4 : ∀ x : InS (CellsK L wr), x.w.cell? ⟨g, j * 10 + 4, none⟩ = some (.int .u8 mk') := fun x => x.ok.cells (_, _) (by rw [hL]; simp)
        have Gq5 : ∀ x : InS (CellsK L wr), x.w.cell? ⟨g, j * 10 + 5, none⟩ = some (.bool ti') := fun x => x.ok.cells (_, _) (by rw [hL]; simp)
        have Gq6 : ∀ x : InS (CellsK L wr), x.w.cell? ⟨g, j * 10 + 6, none⟩ = some (.string y6) := fun x => x.ok.cells (_, _) (by rw [hL]; simp)
        have Gq7 : ∀ x : InS (CellsK L wr), x.w.cell? ⟨g, j * 10 + 7, none⟩ = some (.string y7) := fun x => x.ok.cells (_, _) (by rw [hL]; simp)
        have Gq8 : ∀ x : InS (CellsK L wr), x.w.cell? ⟨g, j * 10 + 8, none⟩ = some (.slice A' kids'.length cap') := fun x => x.ok.cells (_, _) (by rw [hL]; simp)
        have Gq9 : ∀ x : InS (CellsK L wr), x.w.cell? ⟨g, j * 10 + 9, none⟩ = some (.slice none 0 0) := fun x => x.ok.cells (_, _) (by rw [hL]; simp)
        have SHC : Hid (∀ x : InS (CellsK L wr), Calls Tryz.prog 9 #[.agg #[.int .i64 k', .int .i64 l', .bool o', .int .i64 st', .int .u8 mk', .bool ti', .string y6, .string y7, .slice A' kids'.length cap', .slice none 0 0]] x.w fun e w' => e = .returned (.bool true) ∧ Keeps x.w w') := Lib.hid (fun x => CL.out x.w x.ok.since _ rfl)
        have HLC : Hid (∀ x : InS (CellsK L wr), Calls Tryz.prog 23 #[.int .i64 (k : Nat), .int .i64 (k' : Nat)] x.w fun e w' => e = .returned (.bool true) ∧ x.w = w') := Lib.hid (fun x => HO.out x.w)
        have LDC : ∀ x : InS (CellsK L wr), (Instr.loadAt 26 (.pointer (some ⟨g, j * 10, none⟩))).run Tryz.prog x.w = .ok (.agg #[.int .i64 k', .int .i64 l', .bool o', .int .i64 st', .int .u8 mk', .bool ti', .string y6, .string y7, .slice A' kids'.length cap', .slice none 0 0]) x.w := fun x => run_loadAt_mid x.w g (j * 10) 26 #[.int .i64 k', .int .i64 l', .bool o', .int .i64 st', .int .u8 mk', .bool ti', .string y6, .string y7, .slice A' kids'.length cap', .slice none 0 0].toList _ (by
          intro i v hv
          have hi : i < 10 := (List.getElem?_eq_some_iff.1 hv).1
          match i, hi, hv with
          | 0, _, hv => exact (Gq0 x).trans hv
          | 1, _, hv => exact (Gq1 x).trans hv
          | 2, _, hv => exact (Gq2 x).trans hv
          | 3, _, hv => exact (Gq3 x).trans hv
          | 4, _, hv => exact (Gq4 x).trans hv
          | 5, _, hv => exact (Gq5 x).trans hv
          | 6, _, hv => exact (Gq6 x).trans hv
          | 7, _, hv => exact (Gq7 x).trans hv
          | 8, _, hv => exact (Gq8 x).trans hv
          | 9, _, hv => exact (Gq9 x).trans hv
          | n + 10, h, _ => omega) Tryz.underlying26 rfl rfl
        clear hkw hcell hd' hc' hk' CL hjl hy6 hy7 hkj hL HO hh hs'
        go_wp2_with fail
        clear z0 z8 q0 q1 q2 q3 q4 q5 q6 q7 q8 q9
        refine wp_region_class (CellsK L wr) (by kernel_rfl) (by kernel_rfl) (CellsK.start C0) ?_
        clear Gq1 Gq2 Gq3 Gq4 Gq5 Gq6 Gq7 Gq8 Gq9
        iterate 15 (go_big_quiet_step ((go_at_call 23; exact class_same (HLC.out _))))
        refine class_load 26 _ rfl rfl _ _ rfl LDC ?_
        simp only [Act.put, List.setIfInBounds_toArray, List.set_cons_zero, List.set_cons_succ]
        repeat (go_big_quiet_step ((go_at_call 9; exact class_call (fun _ h k => h.keep k) (SHC.out _))))
        refine wpQuiet_nil ?_
        rintro w5 ⟨⟨w6, h6⟩, rfl⟩
        have K6 := Lib.hid (HW.out.trans h6.since)
        clear NE Gz0 Gz8 Gq0 C0 h6 SHC HLC LDC
        go_wp2_with fail
        go_roundw
        case rel => exact ⟨j + 1, by omega, by go_num, K6⟩
        case measure => simp [RowKit.intOf]; omega
      · have hjj : ¬ (j : Int) < (kids.length : Int) := by omega
        have KR := KW.out
        clear HK HM HN HSL
        go_wp2_with fail
        go_ret
        exact ⟨rfl, KR⟩
end Go.Proofs.YtfgpephpkibbaaaGreatDoor

/-
  BlockShapes is true of any text.
-/
namespace Go.Proofs.YtfgpephpkibbaaaGreatDoor
open Go.RowKit Go.Lib Go.Maps

set_option maxRecDepth 100000 in
set_option maxHeartbeats 8000000 in
theorem bshapes_few (s : ByteArray) (w : World) (hs : s.size ≤ 2000) (hO : Lis w) (hM : Mxl w) :
    Calls Tryz.prog 3 #[.string s] w fun e w' => e = .returned (.bool true) ∧ Keeps w w' := by
  have PA := Lib.hid (parse_any s w (by omega) hO hM)
  have AW := Lib.hid (fun W' (q : Keeps w W') => awake12_any W' (hO.keep q) (hM.keep q))
  have HS := Lib.hid (fun (x : Tr) (rs : List Rf) (h : parseM s.data.toList = some (x, rs)) => parse_shape (t := s.data.toList) (by rw [bytes_len]; omega) h)
  clear hO hM
  have t0 : ¬ (2000 : Int) < (s.size : Int) := by omega
  cases hp0 : parseM s.data.toList with
  | none =>
    have HP := Lib.hid hp0
    clear hp0 HS
    go_enter Tryz.func3, Tryz.ntmps3
    go_wp2_with fail
    refine PA.out.mono ?_
    rintro e w1 ⟨kk, hp⟩
    obtain rfl := hp.deep HP.out
    have ev : blkV 0 0 false 0 0 false [] [] (.slice none 0 0) = .agg #[.int .i64 0, .int .i64 0, .bool false, .int .i64 0, .int .u8 0, .bool false, .string ⟨#[]⟩, .string ⟨#[]⟩, .slice none 0 0, .slice none 0 0] := rfl
    rw [ev]
    have KE := Lib.hid (kk.trans ((Keeps.refl w1).alloc (.cells #[.int .i64 0, .int .i64 0, .bool false, .int .i64 0, .int .u8 0, .bool false, .string ⟨#[]⟩, .string ⟨#[]⟩, .slice none 0 0, .slice none 0 0] 26)))
    have BB := Lib.hid (Blk.new w1 26 #[.int .i64 0, .int .i64 0, .bool false, .int .i64 0, .int .u8 0, .bool false, .string ⟨#[]⟩, .string ⟨#[]⟩, .slice none 0 0, .slice none 0 0])
    have AX := Lib.hid (AW.out _ KE.out)
    obtain ⟨bb, hbb⟩ : ∃ bb, w1.heap.size = bb := ⟨_, rfl⟩
    rw [hbb] at BB
    clear hp ev kk PA AW
    go_wp2_with fail
    generalize w1.alloc (.cells #[.int .i64 0, .int .i64 0, .bool false, .int .i64 0, .int .u8 0, .bool false, .string ⟨#[]⟩, .string ⟨#[]⟩, .slice none 0 0, .slice none 0 0] 26) = w2 at *
    refine AX.out.mono ?_
    rintro e w3 ⟨rfl, k3⟩
    have y8 := (BB.out.keep k3).cell 8 (v := .slice none 0 0) rfl
    have K3 := Lib.hid (KE.out.trans k3)
    clear k3 AX BB
    go_wp2_with fail
    go_ret
    exact ⟨rfl, K3.out⟩
  | some r =>
    obtain ⟨t, rs⟩ := r
    obtain ⟨h1, h2, h3⟩ := HS.out t rs hp0
    have HP := Lib.hid hp0
    clear hp0 HS
    go_enter Tryz.func3, Tryz.ntmps3
    go_wp2_with fail
    refine PA.out.mono ?_
    rintro e w1 ⟨kk, hp⟩
    rw [HP.out] at hp
    obtain ⟨C, c, v, rfl, hC, ht, hf, _⟩ := hp
    have SH := Lib.hid (fun W (q : Keeps w1 W) => shaped_any _ t W w.heap.size w1.heap.size c C (Nat.le_refl _) h2 (ht.keep (Nat.le_refl _) q) hC q.size)
    have DP := Lib.hid (fun W (q : Keeps w1 W) => deepest_any 1000 t W w.heap.size w1.heap.size c C (by omega) (Nat.le_refl _) (ht.keep (Nat.le_refl _) q) hC q.size)
    obtain ⟨D, hD⟩ : ∃ D, dpT t = D := ⟨_, rfl⟩
    rw [hD] at h3 DP
    clear h2 hD
    cases t with
    | mk k l o st mk ti info text kids =>
    have hk1 : k = 1 := h1
    obtain ⟨kv, hc, hk⟩ := ht.form
    obtain ⟨A, cap, rfl, n1, n2, n3⟩ := hk.slice
    obtain ⟨va, vc, ev2, _, _⟩ := refs_form hf
    subst ev2
    rw [hc] at hC
    have eC := arrB_of hC
    unfold blkT at eC
    subst eC
    clear hC hc hk ht h1 hf n1 n2 n3
    obtain ⟨x6, hx6⟩ : ∃ x : ByteArray, (⟨info.toArray⟩ : ByteArray) = x := ⟨_, rfl⟩
    obtain ⟨x7, hx7⟩ : ∃ x : ByteArray, (⟨text.toArray⟩ : ByteArray) = x := ⟨_, rfl⟩
    rw [hx6, hx7] at SH DP ⊢
    clear hx6 hx7
    simp only [List.toArray] at *
    have t1 : ((k : Int) == 1) = true := by rw [hk1]; rfl
    clear hk1
    have KA := Lib.hid ((Keeps.refl w1).alloc (.cells #[.int .i64 k, .int .i64 l, .bool o, .int .i64 st, .int .u8 mk, .bool ti, .string x6, .string x7, .slice A kids.length cap, .slice none 0 0] 26))
    have KE := Lib.hid (kk.trans KA.out)
    have BB := Lib.hid (Blk.new w1 26 #[.int .i64 k, .int .i64 l, .bool o, .int .i64 st, .int .u8 mk, .bool ti, .string x6, .string x7, .slice A kids.length cap, .slice none 0 0])
    have AX := Lib.hid (AW.out _ KE.out)
    obtain ⟨bb, hbb⟩ : ∃ bb, w1.heap.size = bb := ⟨_, rfl⟩
    rw [hbb] at BB
    clear kk PA AW
    go_wp2_with fail
    generalize w1.alloc (.cells #[.int .i64 k, .int .i64 l, .bool o, .int .i64 st, .int .u8 mk, .bool ti, .string x6, .string x7, .slice A kids.length cap, .slice none 0 0] 26) = w2 at *
    refine AX.out.mono ?_
    rintro e w3 ⟨rfl, k3⟩
    have B3 := BB.out.keep k3
    have HB3 := Lib.hid B3
    have y0 := B3.cell 0 (v := (.int .i64 k)) rfl
    have y1 := B3.cell 1 (v := (.int .i64 l)) rfl
    have y2 := B3.cell 2 (v := (.bool o)) rfl
    have y3 := B3.cell 3 (v := (.int .i64 st)) rfl
    have y4 := B3.cell 4 (v := (.int .u8 mk)) rfl
    have y5 := B3.cell 5 (v := (.bool ti)) rfl
    have y6 := B3.cell 6 (v := (.string x6)) rfl
    have y7 := B3.cell 7 (v := (.string x7)) rfl
    have y8 := B3.cell 8 (v := (.slice A kids.length cap)) rfl
    have y9 := B3.cell 9 (v := (.slice none 0 0)) rfl
    have K3 := Lib.hid (KE.out.trans k3)
    have SX := Lib.hid (SH.out w3 (KA.out.trans k3))
    have KD := Lib.hid (KA.out.trans k3)
    clear k3 AX BB B3 SH
    go_wp2_with fail
    refine SX.out.mono ?_
    rintro e w4 ⟨rfl, k4⟩
    clear y0 y1 y2 y3 y4 y5 y6 y7 y8 y9
    have B4 := HB3.out.keep k4
    have z0 := B4.cell 0 (v := (.int .i64 k)) rfl
    have z1 := B4.cell 1 (v := (.int .i64 l)) rfl
    have z2 := B4.cell 2 (v := (.bool o)) rfl
    have z3 := B4.cell 3 (v := (.int .i64 st)) rfl
    have z4 := B4.cell 4 (v := (.int .u8 mk)) rfl
    have z5 := B4.cell 5 (v := (.bool ti)) rfl
    have z6 := B4.cell 6 (v := (.string x6)) rfl
    have z7 := B4.cell 7 (v := (.string x7)) rfl
    have z8 := B4.cell 8 (v := (.slice A kids.length cap)) rfl
    have z9 := B4.cell 9 (v := (.slice none 0 0)) rfl
    have K4 := Lib.hid (K3.out.trans k4)
    have DX := Lib.hid (DP.out w4 (KD.out.trans k4))
    clear k4 SX B4 DP HB3
    go_wp2_with fail
    refine DX.out.mono ?_
    rintro e w5 ⟨rfl, k5⟩
    have K5 := Lib.hid (K4.out.trans k5)
    have t3 : (D : Int) ≤ 101 := by omega
    clear k5 DX z0 z1 z2 z3 z4 z5 z6 z7 z8 z9
    go_wp2_with fail
    go_ret
    exact ⟨rfl, K5.out⟩
set_option maxRecDepth 100000 in
set_option maxHeartbeats 2000000 in
theorem bshapes_many (s : ByteArray) (w : World) (hs : 2000 < s.size) (hs2 : s.size ≤ maxLen) (hO : Lis w) (hM : Mxl w) :
    Calls Tryz.prog 3 #[.string s] w fun e w' => e = .returned (.bool true) ∧ Keeps w w' := by
  have AX := Lib.hid (awake12_any w hO hM)
  unfold maxLen at hs2
  have t0 : (2000 : Int) < (s.size : Int) := by omega
  clear hO hM
  go_enter Tryz.func3, Tryz.ntmps3
  go_wp2_with fail
  refine AX.out.mono ?_
  rintro e w1 ⟨rfl, k1⟩
  go_wp2_with fail
  go_ret
  exact ⟨rfl, k1⟩
theorem bshapes_any (s : ByteArray) (w : World) (hs : s.size ≤ maxLen) (hO : Lis w) (hM : Mxl w) :
    Calls Tryz.prog 3 #[.string s] w fun e w' => e = .returned (.bool true) ∧ Keeps w w' := by
  by_cases h : s.size ≤ 2000
  · exact bshapes_few s w h hO hM
  · exact bshapes_many s w (by omega) hs hO hM
end Go.Proofs.YtfgpephpkibbaaaGreatDoor


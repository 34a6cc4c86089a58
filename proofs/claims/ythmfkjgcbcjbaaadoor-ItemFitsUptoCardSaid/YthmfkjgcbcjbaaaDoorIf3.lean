/-
  Walk of the law ItemFits.
-/
import Derived.Test.YthmfkjgcbcjbaaaDoorIf2
import Derived.Test.YthmfkjgcbcjbaaaDoorIsm
import Derived.Test.YthmfkjgcbcjbaaaDoorIty
import Derived.Test.YthmfkjgcbcjbaaaDoorCls
namespace Go.Proofs.YthmfkjgcbcjbaaaDoor
open Go.RowKit Go.Lib Go.Maps

theorem adv_two {f sz : Int} {c : Nat} (hs : 4000 ≤ sz) (hc : c < 256) : advL f sz c ≤ 2 * sz := by
  have h := mul_range (f := f) hc (show (0 : Int) ≤ sz by omega)
  rw [adv_div hc (by omega)]
  omega
theorem fits_range {wd : Int} : ∀ (l : List It) (u : Int), fitsOk wd u l → 0 ≤ u → u ≤ wd → 0 ≤ usedL u l ∧ usedL u l ≤ wd
  | [], u, _, h1, h2 => ⟨h1, h2⟩
  | x :: l, u, h, h1, h2 => by
    rw [usedL]
    refine fits_range l _ h.2 ?_ ?_
    · rcases h.1 with ⟨hk, _, _⟩ | ⟨hk, _, h3, _⟩
      · rw [if_pos hk]; exact Int.le_refl _
      · rw [if_neg (by rw [hk]; simp)]; omega
    · rcases h.1 with ⟨hk, _, _⟩ | ⟨hk, h3, _, _⟩
      · rw [if_pos hk]; omega
      · rw [if_neg (by rw [hk]; simp)]; exact h3
/-- What holds of the item at a place. -/
theorem fits_at {wd : Int} {b : List It} (h : fitsOk wd 0 b) (h0 : 0 ≤ wd) {i : Nat} (hi : i < b.length) : (0 ≤ usedL 0 (b.take i) ∧ usedL 0 (b.take i) ≤ wd) ∧ ((b[i].kind ≠ 1 ∧ 0 ≤ b[i].width ∧ b[i].width ≤ 2179695902) ∨ (b[i].kind = 1 ∧ usedL 0 (b.take i) + b[i].width ≤ wd ∧ 0 ≤ b[i].width ∧ b[i].codes ≠ [] ∧ b[i].width = runL b[i].font b[i].size b[i].codes ∧ 0 ≤ b[i].size ∧ b[i].size ≤ 2147483648 ∧ b[i].codes.length ≤ 100000)) := by
  have e := List.take_append_drop i b
  rw [List.drop_eq_getElem_cons hi] at e
  rw [← e] at h
  obtain ⟨h1, h2⟩ := (fits_app wd _ _ _).1 h
  exact ⟨fits_range _ _ h1 (Int.le_refl _) h0, h2.1⟩
theorem used_next {b : List It} {i : Nat} (hi : i < b.length) : usedL 0 (b.take (i + 1)) = if b[i].kind ≠ 1 then 0 else usedL 0 (b.take i) + b[i].width := by
  rw [List.take_succ_eq_append_getElem hi, used_app, usedL, usedL]
theorem cat_next {b : List It} {i : Nat} (hi : i < b.length) : catL (b.take (i + 1)) = catL (b.take i) ++ b[i].codes := by
  rw [List.take_succ_eq_append_getElem hi, cat_app]
  simp [catL]
theorem cat_take (b : List It) (i : Nat) : (catL (b.take i)).length ≤ (catL b).length := by
  have e := List.take_append_drop i b
  have h := cat_app (b.take i) (b.drop i)
  rw [e] at h
  rw [h, List.length_append]; omega
theorem cat_at {b : List It} {i : Nat} (hi : i < b.length) : (catL (b.take i)).length + b[i].codes.length ≤ (catL b).length := by
  have := cat_take b (i + 1)
  rwa [cat_next hi, List.length_append] at this
set_option maxRecDepth 100000 in
set_option maxHeartbeats 16000000 in
theorem itfits_any (l : List St) (lv : Value) (f sz : Nat) (hf : f < 256) (hs : sz < 65536) (w : World) (hA : StAt w l lv) (hw : wL l ≤ 100000000) (hR : FntR w) (hE : EnvI w) :
    Calls Tryd.prog 4 #[lv, .int .u8 f, .int .u16 sz] w fun e w' => e = .returned (.bool true) ∧ Keeps w w' := by
  have SM := Lib.hid (small_any l w lv hA hw)
  have AW := Lib.hid (fun W (k : Keeps w W) => awake17_any W (hE.keep k))
  by_cases hsm : wGs l 0 ≤ 3000
  · rw [decide_eq_true hsm] at SM
    have hwl : wL l ≤ 3000 := by have := wGs_eq l 0 hsm; omega
    obtain ⟨m, hm⟩ : ∃ m : Nat, ((f : Int) % 5) = (m : Int) := ⟨f % 5, by omega⟩
    have MK := Lib.hid (fun W (k : Keeps w W) => make_any l lv (m : Int) (4000 + (sz : Int)) 1 W (hA.keep k) (hE.keep k) (by omega) (by omega) (by omega) (by omega) (by omega))
    have hmk := Mk.make (sz := 4000 + (sz : Int)) (f := (m : Int)) (lk := 1) (by omega) (by omega) l
    have hsh := Sh.make (sz := 4000 + (sz : Int)) (f := (m : Int)) (lk := 1) l hwl
    have hcat := cat_make (m : Int) (4000 + (sz : Int)) 1 l
    have hln : (makeL l (m : Int) (4000 + (sz : Int)) 1).1.length ≤ 10000 := by
      have h1 := (spns_len (4000 + (sz : Int)) l ⟨(m : Int), 0, false⟩ ([], 1)).1
      have h2 := drop_len (spnsP (4000 + (sz : Int)) l ⟨(m : Int), 0, false⟩ ([], 1)).1
      unfold makeL
      simp only [List.length_nil] at h1 ⊢
      omega
    have RR := Lib.hid (fun (fo si : Int) (s : ByteArray) (W : World) (k : Keeps w W) (z : s.size ≤ 100000) (y1 : 0 ≤ si) (y2 : si ≤ 2147483648) => rrun_any fo si s W z y1 y2 (hR.keep k))
    unfold MakeP at MK
    generalize makeL l (m : Int) (4000 + (sz : Int)) 1 = p at *
    obtain ⟨its, nx⟩ := p
    simp only at *
    have SPL := Lib.hid (fun lv2 W (k : Keeps w W) (hI : IsAt W its lv2) => split_any its lv2 (2 * (4000 + (sz : Int))) W hI (hE.keep k) (fun x hx => ⟨by have := hsh x hx; omega, by
      rcases hmk x hx with ⟨q, _⟩ | ⟨q, _⟩
      · exact .inl q
      · refine .inr ⟨?_, ?_, ?_⟩
        · have e : x.size = 4000 + (sz : Int) := by rw [q]; rfl
          rw [e]; exact q
        · have e : x.size = 4000 + (sz : Int) := by rw [q]; rfl
          rw [e]; omega
        · have e : x.size = 4000 + (sz : Int) := by rw [q]; rfl
          rw [e]; omega⟩) (by omega) (by omega) (by rw [wI_cat]; omega))
    obtain ⟨hft, hcb⟩ := split_fits (wd := 2 * (4000 + (sz : Int))) (sz := 4000 + (sz : Int)) (by omega) (by omega) (fun fo b => adv_two (by omega) b.toNat_lt) (by omega) (by omega) its ([], 2 * (4000 + (sz : Int))) (fun x hx => ⟨hmk x hx, by have := hsh x hx; omega⟩) (by simp only; omega) (Int.le_refl _) ⟨trivial, by simp [usedL]⟩
    generalize splitL (2 * (4000 + (sz : Int))) its ([], 2 * (4000 + (sz : Int))) = q at *
    obtain ⟨bs, rr⟩ := q
    simp only [catL, List.flatMap_nil, List.nil_append] at hcb hft
    replace hcb : catL bs = catL its := hcb
    have HFT := Lib.hid hft.1
    have hcat2 : (catL bs).length ≤ 3000 := by rw [hcb]; omega
    have hcat1 : (catL its).length ≤ 3000 := by omega
    obtain ⟨A, cap, rfl, _, _, _⟩ := hA.slice
    have HCB := Lib.hid hcb
    have HL1 := Lib.hid hcat1
    have HL2 := Lib.hid hcat2
    clear hA hE hR hsm hmk hsh hcat hft hcb hcat1 hcat2
    simp only at *
    go_enter Tryd.func4, Tryd.ntmps4
    go_wp2_with fail
    refine SM.out.mono ?_
    rintro e w0 ⟨rfl, k0⟩
    have MK2 := Lib.hid (MK.out w0 k0)
    clear MK SM
    go_wp2_with fail
    refine MK2.out.mono ?_
    rintro e w1 ⟨v1, rfl, I1, k1⟩
    have K1 := Lib.hid (k0.trans k1)
    clear MK2 k0 k1
    have SP2 := Lib.hid (SPL.out v1 w1 K1.out I1.isAt)
    clear SPL
    obtain ⟨A1, c1, rfl, h1, h2, h3⟩ := I1.form
    have HI1 := Lib.hid I1
    clear I1 hm
    obtain ⟨nl, hnl⟩ : ∃ nl, its.length = nl := ⟨_, rfl⟩
    have HNL := Lib.hid hnl
    rw [hnl] at h1 hln SP2 HI1 ⊢
    have HF := Lib.hid h3
    clear hnl h3
    unfold maxLen at h2
    go_wp2_with fail
    refine SP2.out.mono ?_
    rintro e w2 ⟨v2, rfl, I2, k2⟩
    have K2 := Lib.hid (K1.out.trans k2)
    have HC : Hid (∀ g, A1 = some ⟨g, 0, none⟩ → ∀ i (h : i < its.length) j, j < 9 → w2.cell? ⟨g, i * 9 + j, none⟩ = (itC its[i])[j]?) := Lib.hid fun g e i h j hj => by
      subst e
      have I := HI1.out.keep k2
      rw [← HNL.out] at I
      exact ItsAt.cell I h j hj
    clear SP2 HI1 K1 k2
    obtain ⟨A2, c2, rfl, h4, h5, h6⟩ := I2.form
    have HD : Hid (∀ g, A2 = some ⟨g, 0, none⟩ → ∀ wr, Keeps w2 wr → ∀ i (h : i < bs.length) j, j < 9 → wr.cell? ⟨g, i * 9 + j, none⟩ = (itC bs[i])[j]?) := Lib.hid fun g e wr k i h j hj => by
      subst e
      exact ItsAt.cell (I2.keep k) h j hj
    have HG := Lib.hid h6
    clear I2 h6
    obtain ⟨ml, hml⟩ : ∃ ml, bs.length = ml := ⟨_, rfl⟩
    have HML := Lib.hid hml
    rw [hml] at h4 ⊢
    clear hml
    unfold maxLen at h5
    go_wp2_with fail
    go_loop [12, 14] (fun x y => ∃ (i : Nat) (s : ByteArray), i ≤ nl ∧ x = .string s ∧ y = .int .i64 i ∧ Hid (s.data.toList = catL (its.take i))) (fun _ y => nl - (RowKit.intOf y).toNat)
    case atStart => exact ⟨0, ⟨#[]⟩, Nat.zero_le _, rfl, rfl, Lib.hid rfl⟩
    case round =>
      obtain ⟨i, s, hi, rfl, rfl, HS⟩ := hrel
      by_cases ci : i < nl
      · have hi' : i < its.length := by rw [HNL.out]; exact ci
        obtain ⟨g, rfl⟩ := HF.out (by rw [HNL.out]; omega)
        have c5 : w2.cell? ⟨g, i * 9 + 5, none⟩ = some (.string ⟨(its[i]).codes.toArray⟩) := HC.out g rfl i hi' 5 (by decide)
        obtain ⟨cb, hcb⟩ : ∃ cb : ByteArray, (⟨(its[i]).codes.toArray⟩ : ByteArray) = cb := ⟨_, rfl⟩
        have hcl : cb.data.toList = (its[i]).codes := by rw [← hcb]
        have HN : Hid ((s ++ cb).data.toList = catL (its.take (i + 1))) := Lib.hid (by
          rw [cat_next hi', ← HS.out, ← hcl]; simp)
        have hsz : s.size + cb.size ≤ 3000 := by
          have := cat_at hi'
          have := HL1.out
          rw [← bytes_len s, ← bytes_len cb, HS.out, hcl]; omega
        rw [hcb] at c5
        clear hcb hcl
        go_wp2_with fail
        go_round
        case rel => exact ⟨i + 1, s ++ cb, by omega, rfl, by go_num, HN⟩
        case measure => simp only [RowKit.intOf]; omega
      · have e : i = nl := by omega
        subst e
        have HX : Hid (s.data.toList = catL its) := by
          have e := HS.out
          rw [List.take_of_length_le (by rw [HNL.out]; exact Nat.le_refl _)] at e
          exact Lib.hid e
        clear HS HC HF
        go_wp2_with fail
        go_loopw [13, 15, 16] (fun y u z wr => ∃ (i : Nat) (t : ByteArray) (v : Int), i ≤ ml ∧ y = .string t ∧ u = .int .i64 v ∧ z = .int .i64 i ∧ Hid (t.data.toList = catL (bs.take i)) ∧ Hid (v = usedL 0 (bs.take i)) ∧ Hid (Keeps w2 wr)) (fun _ _ z _ => ml - (RowKit.intOf z).toNat)
        case atStart => exact ⟨0, ⟨#[]⟩, 0, Nat.zero_le _, rfl, rfl, rfl, Lib.hid rfl, Lib.hid rfl, Lib.hid (Keeps.refl _)⟩
        case round =>
          obtain ⟨i, t, v, hi, rfl, rfl, rfl, HT, HV, HK⟩ := hrel
          by_cases cj : i < ml
          · have hi' : i < bs.length := by rw [HML.out]; exact cj
            obtain ⟨g, rfl⟩ := HG.out (by rw [HML.out]; omega)
            obtain ⟨⟨hv0, hv1⟩, hor⟩ := fits_at HFT.out (by omega) hi'
            have hun := used_next hi'
            rw [← HV.out] at hv0 hv1 hor hun
            have hcn := cat_next hi'
            have hca := cat_at hi'
            have y0 : wr.cell? ⟨g, i * 9, none⟩ = some (.int .i64 (bs[i]).kind) := HD.out g rfl wr HK.out i hi' 0 (by decide)
            have y1 : wr.cell? ⟨g, i * 9 + 1, none⟩ = some (.int .i64 (bs[i]).width) := HD.out g rfl wr HK.out i hi' 1 (by decide)
            have y5 : wr.cell? ⟨g, i * 9 + 5, none⟩ = some (.string ⟨(bs[i]).codes.toArray⟩) := HD.out g rfl wr HK.out i hi' 5 (by decide)
            have y6 : wr.cell? ⟨g, i * 9 + 6, none⟩ = some (.int .i64 (bs[i]).font) := HD.out g rfl wr HK.out i hi' 6 (by decide)
            have y7 : wr.cell? ⟨g, i * 9 + 7, none⟩ = some (.int .i64 (bs[i]).size) := HD.out g rfl wr HK.out i hi' 7 (by decide)
            generalize bs[i] = x at *
            obtain ⟨x1, x2, x3, x4, x5, c', x7, x8, x9⟩ := x
            simp only at *
            obtain ⟨cb, hcb⟩ : ∃ cb : ByteArray, (⟨c'.toArray⟩ : ByteArray) = cb := ⟨_, rfl⟩
            have hcl : cb.data.toList = c' := by rw [← hcb]
            have HN : Hid ((t ++ cb).data.toList = catL (bs.take (i + 1))) := Lib.hid (by
              rw [hcn, ← HT.out, ← hcl]; simp)
            have hsz : t.size + cb.size ≤ 3000 := by
              have := HL2.out
              rw [← bytes_len t, ← bytes_len cb, HT.out, hcl]; omega
            rw [hcb] at y5
            rw [← hcl] at hor
            clear hcb hcn hca hcl
            by_cases hkd : x1 = 1
            · subst hkd
              rcases hor with ⟨hx, _, _⟩ | ⟨_, o1, o2, o3, o4, o5, o6, o7⟩
              · exact absurd rfl hx
              · have te : cb.toList.isEmpty = false := by rw [List.isEmpty_eq_false_iff, Lib.toList_data]; exact o3
                have te2 : (cb.toList == []) = false := by
                  cases h : cb.toList with
                  | nil => rw [h] at te; cases te
                  | cons _ _ => rfl
                have tw : decide (2 * (4000 + (sz : Int)) < v + x2) = false := decide_eq_false (by omega)
                rw [if_neg (by simp)] at hun
                have HU := Lib.hid hun
                have hcz : cb.size ≤ 100000 := by omega
                obtain ⟨L, hL⟩ : ∃ L : List (Addr × Value), L = [(⟨g, i * 9, none⟩, .int .i64 1), (⟨g, i * 9 + 1, none⟩, .int .i64 x2), (⟨g, i * 9 + 5, none⟩, .string cb), (⟨g, i * 9 + 6, none⟩, .int .i64 x7), (⟨g, i * 9 + 7, none⟩, .int .i64 x8)] := ⟨_, rfl⟩
                have C0 : ∀ q ∈ L, wr.cell? q.1 = some q.2 := by rw [hL]; exact cells_cons y0 (cells_cons y1 (cells_cons y5 (cells_cons y6 (cells_cons y7 (cells_nil _)))))
                have NE : Nonempty (InS (CellsK L wr)) := ⟨⟨_, CellsK.start C0⟩⟩
                have Gy0 : ∀ x : InS (CellsK L wr), x.w.cell? ⟨g, i * 9, none⟩ = some (.int .i64 1) := fun x => x.ok.cells (_, _) (by rw [hL]; simp)
                have Gy1 : ∀ x : InS (CellsK L wr), x.w.cell? ⟨g, i * 9 + 1, none⟩ = some (.int .i64 x2) := fun x => x.ok.cells (_, _) (by rw [hL]; simp)
                have Gy5 : ∀ x : InS (CellsK L wr), x.w.cell? ⟨g, i * 9 + 5, none⟩ = some (.string cb) := fun x => x.ok.cells (_, _) (by rw [hL]; simp)
                have Gy6 : ∀ x : InS (CellsK L wr), x.w.cell? ⟨g, i * 9 + 6, none⟩ = some (.int .i64 x7) := fun x => x.ok.cells (_, _) (by rw [hL]; simp)
                have Gy7 : ∀ x : InS (CellsK L wr), x.w.cell? ⟨g, i * 9 + 7, none⟩ = some (.int .i64 x8) := fun x => x.ok.cells (_, _) (by rw [hL]; simp)
                have RR2 : Hid (∀ x : InS (CellsK L wr), Calls Tryd.prog 15 #[.int .i64 x7, .int .i64 x8, .string cb] x.w fun e w' => e = .returned (.int .i64 x2) ∧ x.w = w') := Lib.hid (fun x => by rw [o4]; exact RR.out x7 x8 cb x.w (K2.out.trans (HK.out.trans x.ok.since)) hcz o5 o6)
                have hi1 : (0 : Int) ≤ (i : Int) := by omega
                have hi2 : (i : Int) < (ml : Int) := by omega
                clear hun o4 o3 RR hL
                go_wp2_with fail
                clear y0 y1 y5 y6 y7
                refine wp_region_class (CellsK L wr) (by kernel_rfl) (by kernel_rfl) (CellsK.start C0) ?_
                repeat (go_big_quiet_step ((go_at_call 15; exact class_same (RR2.out _))))
                refine wpQuiet_nil ?_
                rintro w5 ⟨⟨w6, h6⟩, rfl⟩
                have K6 := Lib.hid (HK.out.trans h6.since)
                clear NE Gy0 Gy1 Gy5 Gy6 Gy7 C0 h6
                go_wp2_with fail
                go_roundw
                case rel => exact ⟨i + 1, t ++ cb, v + x2, by omega, rfl, rfl, by go_num, HN, Lib.hid HU.out.symm, K6⟩
                case measure => simp only [RowKit.intOf]; omega
            · rcases hor with ⟨_, o1, o2⟩ | ⟨hx, _⟩
              · have tk : ((x1 : Int) == 1) = false := beqF hkd
                rw [if_pos hkd] at hun
                have HU := Lib.hid hun
                have tw : decide (2 * (4000 + (sz : Int)) < 0) = false := decide_eq_false (by omega)
                have hi1 : (0 : Int) ≤ (i : Int) := by omega
                have hi2 : (i : Int) < (ml : Int) := by omega
                obtain ⟨L, hL⟩ : ∃ L : List (Addr × Value), L = [(⟨g, i * 9, none⟩, .int .i64 x1), (⟨g, i * 9 + 1, none⟩, .int .i64 x2), (⟨g, i * 9 + 5, none⟩, .string cb)] := ⟨_, rfl⟩
                have C0 : ∀ q ∈ L, wr.cell? q.1 = some q.2 := by rw [hL]; exact cells_cons y0 (cells_cons y1 (cells_cons y5 (cells_nil _)))
                have NE : Nonempty (InS (CellsK L wr)) := ⟨⟨_, CellsK.start C0⟩⟩
                have Gy0 : ∀ x : InS (CellsK L wr), x.w.cell? ⟨g, i * 9, none⟩ = some (.int .i64 x1) := fun x => x.ok.cells (_, _) (by rw [hL]; simp)
                have Gy1 : ∀ x : InS (CellsK L wr), x.w.cell? ⟨g, i * 9 + 1, none⟩ = some (.int .i64 x2) := fun x => x.ok.cells (_, _) (by rw [hL]; simp)
                have Gy5 : ∀ x : InS (CellsK L wr), x.w.cell? ⟨g, i * 9 + 5, none⟩ = some (.string cb) := fun x => x.ok.cells (_, _) (by rw [hL]; simp)
                clear hun RR hL
                go_wp2_with fail
                clear y0 y1 y5 y6 y7
                refine wp_region_class (CellsK L wr) (by kernel_rfl) (by kernel_rfl) (CellsK.start C0) ?_
                repeat (go_big_quiet_step (fail))
                refine wpQuiet_nil ?_
                rintro w5 ⟨⟨w6, h6⟩, rfl⟩
                have K6 := Lib.hid (HK.out.trans h6.since)
                clear NE Gy0 Gy1 Gy5 C0 h6
                go_wp2_with fail
                go_roundw
                case rel => exact ⟨i + 1, t ++ cb, 0, by omega, rfl, rfl, by go_num, HN, Lib.hid HU.out.symm, K6⟩
                case measure => simp only [RowKit.intOf]; omega
              · exact absurd hx hkd
          · have e : i = ml := by omega
            subst e
            have hxt : s = t := bytes_eq (by
              have e := HT.out
              rw [List.take_of_length_le (by rw [HML.out]; exact Nat.le_refl _), HCB.out, ← HX.out] at e
              exact e.symm)
            subst hxt
            have K3 := Lib.hid (K2.out.trans HK.out)
            have AW2 := Lib.hid (AW.out _ K3.out)
            go_wp2_with fail
            refine AW2.out.mono ?_
            rintro e w4 ⟨rfl, k4⟩
            have K4 := K3.out.trans k4
            go_wp2_with fail
            go_ret
            exact ⟨by simp, K4⟩
  · rw [decide_eq_false hsm] at SM
    obtain ⟨A, cap, rfl, _, _, _⟩ := hA.slice
    clear hA hE hR hsm
    go_enter Tryd.func4, Tryd.ntmps4
    go_wp2_with fail
    refine SM.out.mono ?_
    rintro e w0 ⟨rfl, k0⟩
    have AW2 := Lib.hid (AW.out _ k0)
    go_wp2_with fail
    refine AW2.out.mono ?_
    rintro e w2 ⟨rfl, k2⟩
    have K2 := k0.trans k2
    go_wp2_with fail
    go_ret
    exact ⟨rfl, K2⟩
end Go.Proofs.YthmfkjgcbcjbaaaDoor

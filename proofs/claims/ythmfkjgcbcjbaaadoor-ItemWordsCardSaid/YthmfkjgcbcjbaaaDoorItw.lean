/-
  Contract of Split, of the package item: of boxes as Make tells them, and of what is no box.
-/
import Derived.Test.YthmfkjgcbcjbaaaDoorItv
import Derived.Test.YthmfkjgcbcjbaaaDoorItl
import Derived.Test.YthmfkjgcbcjbaaaDoorCln
namespace Go.Proofs.YthmfkjgcbcjbaaaDoor
open Go.RowKit Go.Lib Go.Maps

/-- The slice v holds the items l, as they are read. -/
def IsAt (W : World) (l : List It) (v : Value) : Prop := ∃ A cap, v = .slice A l.length cap ∧ l.length ≤ cap ∧ cap ≤ maxLen ∧ (0 < l.length → ∃ g o, A = some ⟨g, o, none⟩ ∧ ∀ i (h : i < l.length), W.rangeAt g (o + i * 9) (itC l[i]))
theorem IsAt.keep {W W' : World} {l : List It} {v : Value} (h : IsAt W l v) (k : Keeps W W') : IsAt W' l v := by
  obtain ⟨A, cap, h1, h2, h3, h4⟩ := h
  refine ⟨A, cap, h1, h2, h3, fun h0 => ?_⟩
  obtain ⟨g, o, e, hc⟩ := h4 h0
  exact ⟨g, o, e, fun i hi => range_same (hc i hi) (k.block g (range_lt (hc i hi) (by rw [itC_len]; decide)))⟩
theorem ItsAt.isAt {n₀ : Nat} {W : World} {v : Value} {its : List It} (h : ItsAt n₀ W v its) : IsAt W its v := by
  obtain ⟨A, cap, rfl, h1, h2, h3⟩ := h.form
  refine ⟨A, cap, rfl, h1, h2, fun h0 => ?_⟩
  obtain ⟨g, rfl⟩ := h3 h0
  refine ⟨g, 0, rfl, fun i hi j u hj => ?_⟩
  have hj9 : j < 9 := by
    have := (List.getElem?_eq_some_iff.1 hj).1
    rwa [itC_len] at this
  rw [Nat.zero_add, h.cell hi j hj9]
  exact hj
/-- An item that Split is asked of: no box, or a box as Make tells it. -/
def itOk (x : It) : Prop := x.codes.length ≤ 100000 ∧ (x.kind ≠ 1 ∨ (x = bxP x.font x.size x.link x.codes ∧ 0 ≤ x.size ∧ x.size ≤ 2147483648))
def splitL (wd : Int) : List It → List It × Int → List It × Int
  | [], p => p
  | x :: l, p => splitL wd l (if x.kind ≠ 1 then (p.1 ++ [x], wd) else if x.codes = [] then p else partL wd x.font x.size x.link (2 * x.codes.length + 2) x.codes p)
def wI : List It → Nat
  | [] => 0
  | x :: l => 4 * x.codes.length + 5 + wI l
theorem wI_drop {l : List It} {k : Nat} (h : k < l.length) : wI (l.drop k) = 4 * l[k].codes.length + 5 + wI (l.drop (k + 1)) := by rw [List.drop_eq_getElem_cons h, wI]
theorem split_drop {wd : Int} {l : List It} {k : Nat} {p : List It × Int} (h : k < l.length) : splitL wd (l.drop k) p = splitL wd (l.drop (k + 1)) (if l[k].kind ≠ 1 then (p.1 ++ [l[k]], wd) else if l[k].codes = [] then p else partL wd l[k].font l[k].size l[k].link (2 * l[k].codes.length + 2) l[k].codes p) := by rw [List.drop_eq_getElem_cons h, splitL]
/-- Where Split's loop stands. -/
structure SplAt (w0 wr : World) (B : Nat) (wd : Int) (l : List It) (k : Nat) (v : Value) (its : List It) (r : Int) : Prop where
  spl : Spl w0 wd wr B v its r
  eq : splitL wd (l.drop k) (its, r) = splitL wd l ([], wd)
  r0 : -217969590200000 ≤ r
  r1 : r ≤ wd
  few : its.length + wI (l.drop k) ≤ wI l
set_option maxRecDepth 100000 in
set_option maxHeartbeats 16000000 in
theorem split_any (l : List It) (lv : Value) (wd : Int) (w : World) (hA : IsAt w l lv) (hE : EnvI w) (hok : ∀ x ∈ l, itOk x) (h1 : 0 ≤ wd) (h2 : wd ≤ 4611686018427387904) (hw : wI l ≤ 900000) :
    Calls Tryd.prog 14 #[lv, .int .i64 wd] w fun e w' => ∃ v, e = .returned v ∧ ItsAt w.heap.size w' v (splitL wd l ([], wd)).1 ∧ Keeps w w' := by
  obtain ⟨A, cap, rfl, hc1, hc2, hg⟩ := hA
  unfold maxLen at hc2
  have HG := Lib.hid hg
  have HE := Lib.hid hE
  have HO := Lib.hid hok
  have RO := Lib.hid (fun W1 => roomOf_any wd W1 (by omega) (by omega))
  have CL := Lib.hid (fun s W1 h => clone_any s W1 h)
  have S0 := Lib.hid (fun w1 (k : Keeps w w1) => (⟨⟨Own.new w1 60 [.int .i64 wd, .int .i64 (wd / 18446744073709551616), .int .u64 (wd % 18446744073709551616)] k.size, k.alloc _⟩, rfl, by omega, Int.le_refl _, by show 0 + wI l ≤ wI l; omega⟩ : SplAt w (w1.alloc (.cells #[.slice none 0 0, .int .i64 wd, .int .i64 (wd / 18446744073709551616), .int .u64 (wd % 18446744073709551616)] 60)) w1.heap.size wd l 0 (.slice none 0 0) [] wd))
  obtain ⟨n, hn⟩ : ∃ n, l.length = n := ⟨_, rfl⟩
  have HN := Lib.hid hn
  rw [hn] at hc1 ⊢
  clear hg hE hok hn
  unfold roomV at RO
  go_enter Tryd.func14, Tryd.ntmps14
  go_wp2_with fail
  refine (RO.out _).mono ?_
  rintro e w1 ⟨rfl, k1⟩
  have A0 := Lib.hid (S0.out w1 k1)
  clear S0 k1
  go_wp2_with fail
  go_loopw [14] (fun y wr => ∃ (k : Nat) (v' : Value) (its' : List It) (r' : Int), k ≤ n ∧ y = .int .i64 k ∧ Hid (SplAt w wr w1.heap.size wd l k v' its' r')) (fun y _ => n - (RowKit.intOf y).toNat)
  case atStart => exact ⟨0, _, [], wd, Nat.zero_le _, rfl, A0⟩
  case round =>
    obtain ⟨k, v', its', r', hk, rfl, HS⟩ := hrel
    by_cases c : k < n
    · obtain ⟨g, o, rfl, hcell⟩ := HG.out (by rw [HN.out]; omega)
      have hk' : k < l.length := by rw [HN.out]; exact c
      have HR := range_same (hcell k hk') (HS.out.spl.keep.block g (range_lt (hcell k hk') (by rw [itC_len]; decide)))
      have hxo := HO.out l[k] (List.getElem_mem hk')
      have HD := split_drop (wd := wd) (p := (its', r')) hk'
      have HW := wI_drop hk'
      have hfew := HS.out.few
      rw [HW] at hfew
      rw [HS.out.eq] at HD
      clear hcell HW
      generalize l[k] = x at *
      obtain ⟨x1, x2, x3, x4, x5, c', x7, x8, x9⟩ := x
      unfold itOk at hxo
      simp only at hxo hfew HD
      obtain ⟨hcl, hxo⟩ := hxo
      obtain ⟨cs, hcs⟩ : ∃ cs : ByteArray, cs = ⟨c'.toArray⟩ := ⟨_, rfl⟩
      have HCS := Lib.hid hcs
      have hsz : cs.size ≤ 100000 := by rw [hcs]; show c'.toArray.size ≤ _; simp; exact hcl
      unfold itC at HR
      simp only at HR
      rw [← hcs] at HR
      clear hcs
      have y0 : wr.cell? ⟨g, o + k * 9, none⟩ = some (.int .i64 x1) := HR 0 _ rfl
      have y1 : wr.cell? ⟨g, o + k * 9 + 1, none⟩ = some (.int .i64 x2) := HR 1 _ rfl
      have y2 : wr.cell? ⟨g, o + k * 9 + 2, none⟩ = some (.int .i64 x3) := HR 2 _ rfl
      have y3 : wr.cell? ⟨g, o + k * 9 + 3, none⟩ = some (.int .i64 x4) := HR 3 _ rfl
      have y4 : wr.cell? ⟨g, o + k * 9 + 4, none⟩ = some (.int .i64 x5) := HR 4 _ rfl
      have y5 : wr.cell? ⟨g, o + k * 9 + 5, none⟩ = some (.string cs) := HR 5 _ rfl
      have y6 : wr.cell? ⟨g, o + k * 9 + 6, none⟩ = some (.int .i64 x7) := HR 6 _ rfl
      have y7 : wr.cell? ⟨g, o + k * 9 + 7, none⟩ = some (.int .i64 x8) := HR 7 _ rfl
      have y8 : wr.cell? ⟨g, o + k * 9 + 8, none⟩ = some (.int .i64 x9) := HR 8 _ rfl
      clear HR
      have hr0 := HS.out.r0
      have hr1 := HS.out.r1
      have hX0 : w.heap.size ≤ wr.heap.size := HS.out.spl.keep.size
      have HXB := Lib.hid (fun w2 (q : Keeps (wr.alloc (.cells #[.int .i64 x1, .int .i64 x2, .int .i64 x3, .int .i64 x4, .int .i64 x5, .string cs, .int .i64 x7, .int .i64 x8, .int .i64 x9] 35)) w2) => (Blk.new wr 35 #[.int .i64 x1, .int .i64 x2, .int .i64 x3, .int .i64 x4, .int .i64 x5, .string cs, .int .i64 x7, .int .i64 x8, .int .i64 x9]).keep q)
      have HNW := Lib.hid (HS.out.spl.new 35 #[.int .i64 x1, .int .i64 x2, .int .i64 x3, .int .i64 x4, .int .i64 x5, .string cs, .int .i64 x7, .int .i64 x8, .int .i64 x9])
      have HSP := Lib.hid (fun w2 (q : Keeps (wr.alloc (.cells #[.int .i64 x1, .int .i64 x2, .int .i64 x3, .int .i64 x4, .int .i64 x5, .string cs, .int .i64 x7, .int .i64 x8, .int .i64 x9] 35)) w2) => HS.out.spl.to (((Keeps.refl wr).alloc (.cells #[.int .i64 x1, .int .i64 x2, .int .i64 x3, .int .i64 x4, .int .i64 x5, .string cs, .int .i64 x7, .int .i64 x8, .int .i64 x9] 35)).trans q))
      have HRm := Lib.hid (fun v8 w8 its8 r8 (m8 : Spl w wd w8 w1.heap.size v8 its8 r8) (e8 : splitL wd (l.drop (k + 1)) (its8, r8) = splitL wd l ([], wd)) (a8 : -217969590200000 ≤ r8) (b8 : r8 ≤ wd) (f8 : its8.length ≤ its'.length + (4 * c'.length + 5)) => (⟨m8, e8, a8, b8, by omega⟩ : SplAt w w8 w1.heap.size wd l (k + 1) v8 its8 r8))
      have HF := Lib.hid hfew
      clear hfew HS A0
      have HDD := Lib.hid HD
      clear HD
      go_wp2_with fail
      refine (CL.out _ _ hsz).mono ?_
      rintro e w2 ⟨rfl, k2⟩
      have XA := HXB.out w2 k2
      have f5 := XA.free 5
      have g5 := XA.cell 5 (v := .string cs) rfl
      have XB := XA.set 5 (.string cs) rfl
      have M3 := Lib.hid ((HSP.out w2 k2).only ((OnlyX.refl wr.heap.size w2).set 5 (.string cs)) (HNW.out.keep k2).box (HNW.out.keep k2).row hX0)
      have z0 := XB.cell 0 (v := .int .i64 x1) rfl
      have z1 := XB.cell 1 (v := .int .i64 x2) rfl
      have z2 := XB.cell 2 (v := .int .i64 x3) rfl
      have z3 := XB.cell 3 (v := .int .i64 x4) rfl
      have z4 := XB.cell 4 (v := .int .i64 x5) rfl
      have z5 := XB.cell 5 (v := .string cs) rfl
      have z6 := XB.cell 6 (v := .int .i64 x7) rfl
      have z7 := XB.cell 7 (v := .int .i64 x8) rfl
      have z8 := XB.cell 8 (v := .int .i64 x9) rfl
      clear XA XB k2 HXB HSP HNW y0 y1 y2 y3 y4 y5 y6 y7 y8
      generalize hw3 : w2.setCell ⟨wr.heap.size, 5, none⟩ (.string cs) = w3 at *
      by_cases hkd : x1 = 1
      · subst hkd
        rcases hxo with hxo | ⟨hxe, hs1, hs2⟩
        · exact absurd rfl hxo
        · unfold bxP at hxe
          simp only [It.mk.injEq, true_and, and_true] at hxe
          obtain ⟨e2, e3, e4, e5⟩ := hxe
          subst e2 e3 e4 e5
          by_cases hnil : c' = []
          · have ecs : cs = ⟨#[]⟩ := by rw [HCS.out, hnil]
            have HN2 := HDD.out
            rw [if_neg (by simp), if_pos hnil] at HN2
            have FIN := Lib.hid (HRm.out _ _ _ _ M3.out HN2.symm hr0 hr1 (by omega))
            clear HDD HRm HN2
            subst ecs
            go_wp2_with fail
            go_roundw
            case rel => exact ⟨k + 1, _, _, _, by omega, by go_num, FIN⟩
            case measure => simp only [RowKit.intOf]; omega
          · have te : cs.toList.isEmpty = false := by rw [List.isEmpty_eq_false_iff, Lib.toList_data, HCS.out]; exact hnil
            have CB := Lib.hid (sbox_any x7 x8 x9 c' M3.out HE.out hnil hcl hs1 hs2 h1 h2 hr0 hr1 (by have := HF.out; omega))
            have PL := part_len (f := x7) (lk := x9) hs1 hs2 h1 (2 * c'.length + 2) c' (its', r') hcl hr0 hr1
            have HN2 := HDD.out
            rw [if_neg (by simp), if_neg hnil] at HN2
            rw [← HCS.out] at CB
            generalize partL wd x7 x8 x9 (2 * c'.length + 2) c' (its', r') = pp at *
            obtain ⟨pi, pq⟩ := pp
            simp only at PL CB
            have FIN := Lib.hid (fun v8 w8 (m8 : Spl w wd w8 w1.heap.size v8 pi pq) => HRm.out v8 w8 pi pq m8 HN2.symm PL.2.1 PL.2.2 (by have := PL.1; omega))
            clear HDD HRm HN2 PL
            generalize runL x7 x8 c' = d at *
            go_wp2_with fail
            refine CB.out.mono ?_
            rintro e w8 ⟨rfl, v8, m8, q8⟩
            have FIN2 := Lib.hid (FIN.out v8 w8 m8)
            clear m8 q8
            go_wp2_with fail
            go_roundw
            case rel => exact ⟨k + 1, _, _, _, by omega, by go_num, FIN2⟩
            case measure => simp only [RowKit.intOf]; omega
      · have t1 : (x1 == 1) = false := beqF hkd
        have CO := Lib.hid (other_any ⟨x1, x2, x3, x4, x5, c', x7, x8, x9⟩ M3.out (by have := HF.out; omega) (by omega) (by omega))
        unfold itV at CO
        simp only at CO
        rw [← HCS.out] at CO
        have HN2 := HDD.out
        rw [if_pos hkd] at HN2
        have FIN := Lib.hid (fun v8 w8 m8 => HRm.out v8 w8 _ _ m8 HN2.symm (by omega) (Int.le_refl _) (by simp only [List.length_append, List.length_singleton]; omega))
        clear HDD HRm HN2
        go_wp2_with fail
        refine CO.out.mono ?_
        rintro e w8 ⟨rfl, v8, m8, q8⟩
        have FIN2 := Lib.hid (FIN.out v8 w8 m8)
        clear m8 q8
        go_wp2_with fail
        go_roundw
        case rel => exact ⟨k + 1, _, _, _, by omega, by go_num, FIN2⟩
        case measure => simp only [RowKit.intOf]; omega
    · have e : k = n := by omega
      subst e
      have c0 := HS.out.spl.own.box.cell 0 (v := v') rfl
      obtain ⟨A2, cap2, rfl, _, _⟩ := row_form HS.out.spl.own.row
      have EQ := HS.out.eq
      rw [List.drop_of_length_le (Nat.le_of_eq HN.out), splitL] at EQ
      have FIN := Lib.hid (show ItsAt w.heap.size wr (.slice A2 its'.length cap2) (splitL wd l ([], wd)).1 by rw [← EQ]; exact HS.out.spl.own.row)
      have KK := Lib.hid HS.out.spl.keep
      clear EQ
      go_wp2_with fail
      go_ret
      exact ⟨_, rfl, FIN.out, KK.out⟩
end Go.Proofs.YthmfkjgcbcjbaaaDoor

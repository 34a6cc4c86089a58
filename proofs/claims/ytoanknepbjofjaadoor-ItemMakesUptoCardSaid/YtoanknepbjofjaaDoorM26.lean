/-
  Texts of the proof, one behind the other: Itw, If1, If2, Im5, Im7, Itx.
-/
import Derived.Test.YtoanknepbjofjaaDoorM25
import Derived.Test.YtoanknepbjofjaaDoorM22
import Derived.Test.YtoanknepbjofjaaDoorM17
import Derived.Test.YtoanknepbjofjaaDoorM13
import Derived.Test.YtoanknepbjofjaaDoorM9
import Derived.Test.YtoanknepbjofjaaDoorM8
import Derived.Test.YtoanknepbjofjaaDoorM3
import Derived.Test.YtoanknepbjofjaaDoorM21
import Derived.Test.YtoanknepbjofjaaDoorM20
/-
  Contract of Split, of the package item: of boxes as Make tells them, and of what is no box.
-/
namespace Go.Proofs.YtoanknepbjofjaaDoor
open Go.RowKit Go.Lib Go.Maps

theorem ItsAt.isAt {n₀ : Nat} {W : World} {v : Value} {its : List It} (h : ItsAt n₀ W v its) : IsAt W its v := by
  obtain ⟨A, cap, rfl, h1, h2, h3⟩ := h.form
  refine ⟨A, cap, rfl, h1, h2, fun h0 => ?_⟩
  obtain ⟨g, rfl⟩ := h3 h0
  refine ⟨g, 0, rfl, fun i hi j u hj => ?_⟩
  have hj9 : j < 9 := by
    have := (List.getElem?_eq_some_iff.1 hj).1
    rwa [itC_len] at this
  rw [Nat.zero_add, h.cell hi j hj9]
  exact hj
/-- An item that Split is asked of: no box, or a box as Make tells it. -/
def itOk (x : It) : Prop := x.codes.length ≤ 100000 ∧ (x.kind ≠ 1 ∨ (x = bxP x.font x.size x.link x.codes ∧ 0 ≤ x.size ∧ x.size ≤ 2147483648))
def splitL (wd : Int) : List It → List It × Int → List It × Int
  | [], p => p
  | x :: l, p => splitL wd l (if x.kind ≠ 1 then (p.1 ++ [x], wd) else if x.codes = [] then p else partL wd x.font x.size x.link (2 * x.codes.length + 2) x.codes p)
def wI : List It → Nat
  | [] => 0
  | x :: l => 4 * x.codes.length + 5 + wI l
theorem wI_drop {l : List It} {k : Nat} (h : k < l.length) : wI (l.drop k) = 4 * l[k].codes.length + 5 + wI (l.drop (k + 1)) := by rw [List.drop_eq_getElem_cons h, wI]
theorem split_drop {wd : Int} {l : List It} {k : Nat} {p : List It × Int} (h : k < l.length) : splitL wd (l.drop k) p = splitL wd (l.drop (k + 1)) (if l[k].kind ≠ 1 then (p.1 ++ [l[k]], wd) else if l[k].codes = [] then p else partL wd l[k].font l[k].size l[k].link (2 * l[k].codes.length + 2) l[k].codes p) := by rw [List.drop_eq_getElem_cons h, splitL]
/-- Where Split's loop stands. -/
structure SplAt (w0 wr : World) (B : Nat) (wd : Int) (l : List It) (k : Nat) (v : Value) (its : List It) (r : Int) : Prop where
  spl : Spl w0 wd wr B v its r
  eq : splitL wd (l.drop k) (its, r) = splitL wd l ([], wd)
  r0 : -217969590200000 ≤ r
  r1 : r ≤ wd
  few : its.length + wI (l.drop k) ≤ wI l
set_option maxRecDepth 100000 in
set_option maxHeartbeats 16000000 in
theorem split_any (l : List It) (lv : Value) (wd : Int) (w : World) (hA : IsAt w l lv) (hE : EnvI w) (hok : ∀ x ∈ l, itOk x) (h1 : 0 ≤ wd) (h2 : wd ≤ 4611686018427387904) (hw : wI l ≤ 900000) :
    Calls Tryd.prog 11 #[lv, .int .i64 wd] w fun e w' => ∃ v, e = .returned v ∧ ItsAt w.heap.size w' v (splitL wd l ([], wd)).1 ∧ Keeps w w' := by
  obtain ⟨A, cap, rfl, hc1, hc2, hg⟩ := hA
  unfold maxLen at hc2
  have HG := Lib.hid hg
  have HE := Lib.hid hE
  have HO := Lib.hid hok
  have RO := Lib.hid (fun W1 => roomOf_any wd W1 (by omega) (by omega))
  have CL := Lib.hid (fun s W1 h => clone_any s W1 h)
  have S0 := Lib.hid (fun w1 (k : Keeps w w1) => (⟨⟨Own.new w1 52 [.int .i64 wd, .int .i64 (wd / 18446744073709551616), .int .u64 (wd % 18446744073709551616)] k.size, k.alloc _⟩, rfl, by omega, Int.le_refl _, by show 0 + wI l ≤ wI l; omega⟩ : SplAt w (w1.alloc (.cells #[.slice none 0 0, .int .i64 wd, .int .i64 (wd / 18446744073709551616), .int .u64 (wd % 18446744073709551616)] 52)) w1.heap.size wd l 0 (.slice none 0 0) [] wd))
  obtain ⟨n, hn⟩ : ∃ n, l.length = n := ⟨_, rfl⟩
  have HN := Lib.hid hn
  rw [hn] at hc1 ⊢
  clear hg hE hok hn
  unfold roomV at RO
  go_enter Tryd.func11, Tryd.ntmps11
  go_wp2_with fail
  refine (RO.out _).mono ?_
  rintro e w1 ⟨rfl, k1⟩
  have A0 := Lib.hid (S0.out w1 k1)
  clear S0 k1
  go_wp2_with fail
  go_loopw [14] (fun y wr => ∃ (k : Nat) (v' : Value) (its' : List It) (r' : Int), k ≤ n ∧ y = .int .i64 k ∧ Hid (SplAt w wr w1.heap.size wd l k v' its' r')) (fun y _ => n - (RowKit.intOf y).toNat)
  case atStart => exact ⟨0, _, [], wd, Nat.zero_le _, rfl, A0⟩
  case round =>
    obtain ⟨k, v', its', r', hk, rfl, HS⟩ := hrel
    by_cases c : k < n
    · obtain ⟨g, o, rfl, hcell⟩ := HG.out (by rw [HN.out]; omega)
      have hk' : k < l.length := by rw [HN.out]; exact c
      have HR := range_same (hcell k hk') (HS.out.spl.keep.block g (range_lt (hcell k hk') (by rw [itC_len]; decide)))
      have hxo := HO.out l[k] (List.getElem_mem hk')
      have HD := split_drop (wd := wd) (p := (its', r')) hk'
      have HW := wI_drop hk'
      have hfew := HS.out.few
      rw [HW] at hfew
      rw [HS.out.eq] at HD
      clear hcell HW
      generalize l[k] = x at *
      obtain ⟨x1, x2, x3, x4, x5, c', x7, x8, x9⟩ := x
      unfold itOk at hxo
      simp only at hxo hfew HD
      obtain ⟨hcl, hxo⟩ := hxo
      obtain ⟨cs, hcs⟩ : ∃ cs : ByteArray, cs = ⟨c'.toArray⟩ := ⟨_, rfl⟩
      have HCS := Lib.hid hcs
      have hsz : cs.size ≤ 100000 := by rw [hcs]; show c'.toArray.size ≤ _; simp; exact hcl
      unfold itC at HR
      simp only at HR
      rw [← hcs] at HR
      clear hcs
      have y0 : wr.cell? ⟨g, o + k * 9, none⟩ = some (.int .i64 x1) := HR 0 _ rfl
      have y1 : wr.cell? ⟨g, o + k * 9 + 1, none⟩ = some (.int .i64 x2) := HR 1 _ rfl
      have y2 : wr.cell? ⟨g, o + k * 9 + 2, none⟩ = some (.int .i64 x3) := HR 2 _ rfl
      have y3 : wr.cell? ⟨g, o + k * 9 + 3, none⟩ = some (.int .i64 x4) := HR 3 _ rfl
      have y4 : wr.cell? ⟨g, o + k * 9 + 4, none⟩ = some (.int .i64 x5) := HR 4 _ rfl
      have y5 : wr.cell? ⟨g, o + k * 9 + 5, none⟩ = some (.string cs) := HR 5 _ rfl
      have y6 : wr.cell? ⟨g, o + k * 9 + 6, none⟩ = some (.int .i64 x7) := HR 6 _ rfl
      have y7 : wr.cell? ⟨g, o + k * 9 + 7, none⟩ = some (.int .i64 x8) := HR 7 _ rfl
      have y8 : wr.cell? ⟨g, o + k * 9 + 8, none⟩ = some (.int .i64 x9) := HR 8 _ rfl
      clear HR
      have hr0 := HS.out.r0
      have hr1 := HS.out.r1
      have hX0 : w.heap.size ≤ wr.heap.size := HS.out.spl.keep.size
      have HXB := Lib.hid (fun w2 (q : Keeps (wr.alloc (.cells #[.int .i64 x1, .int .i64 x2, .int .i64 x3, .int .i64 x4, .int .i64 x5, .string cs, .int .i64 x7, .int .i64 x8, .int .i64 x9] 37)) w2) => (Blk.new wr 37 #[.int .i64 x1, .int .i64 x2, .int .i64 x3, .int .i64 x4, .int .i64 x5, .string cs, .int .i64 x7, .int .i64 x8, .int .i64 x9]).keep q)
      have HNW := Lib.hid (HS.out.spl.new 37 #[.int .i64 x1, .int .i64 x2, .int .i64 x3, .int .i64 x4, .int .i64 x5, .string cs, .int .i64 x7, .int .i64 x8, .int .i64 x9])
      have HSP := Lib.hid (fun w2 (q : Keeps (wr.alloc (.cells #[.int .i64 x1, .int .i64 x2, .int .i64 x3, .int .i64 x4, .int .i64 x5, .string cs, .int .i64 x7, .int .i64 x8, .int .i64 x9] 37)) w2) => HS.out.spl.to (((Keeps.refl wr).alloc (.cells #[.int .i64 x1, .int .i64 x2, .int .i64 x3, .int .i64 x4, .int .i64 x5, .string cs, .int .i64 x7, .int .i64 x8, .int .i64 x9] 37)).trans q))
      have HRm := Lib.hid (fun v8 w8 its8 r8 (m8 : Spl w wd w8 w1.heap.size v8 its8 r8) (e8 : splitL wd (l.drop (k + 1)) (its8, r8) = splitL wd l ([], wd)) (a8 : -217969590200000 ≤ r8) (b8 : r8 ≤ wd) (f8 : its8.length ≤ its'.length + (4 * c'.length + 5)) => (⟨m8, e8, a8, b8, by omega⟩ : SplAt w w8 w1.heap.size wd l (k + 1) v8 its8 r8))
      have HF := Lib.hid hfew
      clear hfew HS A0
      have HDD := Lib.hid HD
      clear HD
      go_wp2_with fail
      refine (CL.out _ _ hsz).mono ?_
      rintro e w2 ⟨rfl, k2⟩
      have XA := HXB.out w2 k2
      have f5 := XA.free 5
      have g5 := XA.cell 5 (v := .string cs) rfl
      have XB := XA.set 5 (.string cs) rfl
      have M3 := Lib.hid ((HSP.out w2 k2).only ((OnlyX.refl wr.heap.size w2).set 5 (.string cs)) (HNW.out.keep k2).box (HNW.out.keep k2).row hX0)
      have z0 := XB.cell 0 (v := .int .i64 x1) rfl
      have z1 := XB.cell 1 (v := .int .i64 x2) rfl
      have z2 := XB.cell 2 (v := .int .i64 x3) rfl
      have z3 := XB.cell 3 (v := .int .i64 x4) rfl
      have z4 := XB.cell 4 (v := .int .i64 x5) rfl
      have z5 := XB.cell 5 (v := .string cs) rfl
      have z6 := XB.cell 6 (v := .int .i64 x7) rfl
      have z7 := XB.cell 7 (v := .int .i64 x8) rfl
      have z8 := XB.cell 8 (v := .int .i64 x9) rfl
      clear XA XB k2 HXB HSP HNW y0 y1 y2 y3 y4 y5 y6 y7 y8
      generalize hw3 : w2.setCell ⟨wr.heap.size, 5, none⟩ (.string cs) = w3 at *
      by_cases hkd : x1 = 1
      · subst hkd
        rcases hxo with hxo | ⟨hxe, hs1, hs2⟩
        · exact absurd rfl hxo
        · unfold bxP at hxe
          simp only [It.mk.injEq, true_and, and_true] at hxe
          obtain ⟨e2, e3, e4, e5⟩ := hxe
          subst e2 e3 e4 e5
          by_cases hnil : c' = []
          · have ecs : cs = ⟨#[]⟩ := by rw [HCS.out, hnil]
            have HN2 := HDD.out
            rw [if_neg (by simp), if_pos hnil] at HN2
            have FIN := Lib.hid (HRm.out _ _ _ _ M3.out HN2.symm hr0 hr1 (by omega))
            clear HDD HRm HN2
            subst ecs
            go_wp2_with fail
            go_roundw
            case rel => exact ⟨k + 1, _, _, _, by omega, by go_num, FIN⟩
            case measure => simp only [RowKit.intOf]; omega
          · have te : cs.toList.isEmpty = false := by rw [List.isEmpty_eq_false_iff, Lib.toList_data, HCS.out]; exact hnil
            have CB := Lib.hid (sbox_any x7 x8 x9 c' M3.out HE.out hnil hcl hs1 hs2 h1 h2 hr0 hr1 (by have := HF.out; omega))
            have PL := part_len (f := x7) (lk := x9) hs1 hs2 h1 (2 * c'.length + 2) c' (its', r') hcl hr0 hr1
            have HN2 := HDD.out
            rw [if_neg (by simp), if_neg hnil] at HN2
            rw [← HCS.out] at CB
            generalize partL wd x7 x8 x9 (2 * c'.length + 2) c' (its', r') = pp at *
            obtain ⟨pi, pq⟩ := pp
            simp only at PL CB
            have FIN := Lib.hid (fun v8 w8 (m8 : Spl w wd w8 w1.heap.size v8 pi pq) => HRm.out v8 w8 pi pq m8 HN2.symm PL.2.1 PL.2.2 (by have := PL.1; omega))
            clear HDD HRm HN2 PL
            generalize runL x7 x8 c' = d at *
            go_wp2_with fail
            refine CB.out.mono ?_
            rintro e w8 ⟨rfl, v8, m8, q8⟩
            have FIN2 := Lib.hid (FIN.out v8 w8 m8)
            clear m8 q8
            go_wp2_with fail
            go_roundw
            case rel => exact ⟨k + 1, _, _, _, by omega, by go_num, FIN2⟩
            case measure => simp only [RowKit.intOf]; omega
      · have t1 : (x1 == 1) = false := beqF hkd
        have CO := Lib.hid (other_any ⟨x1, x2, x3, x4, x5, c', x7, x8, x9⟩ M3.out (by have := HF.out; omega) (by omega) (by omega))
        unfold itV at CO
        simp only at CO
        rw [← HCS.out] at CO
        have HN2 := HDD.out
        rw [if_pos hkd] at HN2
        have FIN := Lib.hid (fun v8 w8 m8 => HRm.out v8 w8 _ _ m8 HN2.symm (by omega) (Int.le_refl _) (by simp only [List.length_append, List.length_singleton]; omega))
        clear HDD HRm HN2
        go_wp2_with fail
        refine CO.out.mono ?_
        rintro e w8 ⟨rfl, v8, m8, q8⟩
        have FIN2 := Lib.hid (FIN.out v8 w8 m8)
        clear m8 q8
        go_wp2_with fail
        go_roundw
        case rel => exact ⟨k + 1, _, _, _, by omega, by go_num, FIN2⟩
        case measure => simp only [RowKit.intOf]; omega
    · have e : k = n := by omega
      subst e
      have c0 := HS.out.spl.own.box.cell 0 (v := v') rfl
      obtain ⟨A2, cap2, rfl, _, _⟩ := row_form HS.out.spl.own.row
      have EQ := HS.out.eq
      rw [List.drop_of_length_le (Nat.le_of_eq HN.out), splitL] at EQ
      have FIN := Lib.hid (show ItsAt w.heap.size wr (.slice A2 its'.length cap2) (splitL wd l ([], wd)).1 by rw [← EQ]; exact HS.out.spl.own.row)
      have KK := Lib.hid HS.out.spl.keep
      clear EQ
      go_wp2_with fail
      go_ret
      exact ⟨_, rfl, FIN.out, KK.out⟩
end Go.Proofs.YtoanknepbjofjaaDoor

/-
  What follows of Split: what stands between places where a line may end has room; no code is lost.
-/
namespace Go.Proofs.YtoanknepbjofjaaDoor
open Go.RowKit Go.Lib

/-- How wide the boxes since the last item that is none are. -/
def usedL : Int → List It → Int
  | u, [] => u
  | u, x :: l => usedL (if x.kind ≠ 1 then 0 else u + x.width) l
def fitsOk (wd : Int) : Int → List It → Prop
  | _, [] => True
  | u, x :: l => ((x.kind ≠ 1 ∧ 0 ≤ x.width ∧ x.width ≤ 2179695902) ∨ (x.kind = 1 ∧ u + x.width ≤ wd ∧ 0 ≤ x.width ∧ x.codes ≠ [] ∧ x.width = runL x.font x.size x.codes ∧ 0 ≤ x.size ∧ x.size ≤ 2147483648 ∧ x.codes.length ≤ 100000)) ∧ fitsOk wd (if x.kind ≠ 1 then 0 else u + x.width) l
theorem used_app : ∀ (a b : List It) (u : Int), usedL u (a ++ b) = usedL (usedL u a) b
  | [], b, u => rfl
  | x :: a, b, u => by rw [List.cons_append, usedL, usedL, used_app a b]
theorem fits_app (wd : Int) : ∀ (a b : List It) (u : Int), fitsOk wd u (a ++ b) ↔ fitsOk wd u a ∧ fitsOk wd (usedL u a) b
  | [], b, u => by simp [fitsOk, usedL]
  | x :: a, b, u => by rw [List.cons_append, fitsOk, fitsOk, usedL, fits_app wd a b, and_assoc]
def catL (l : List It) : List UInt8 := l.flatMap It.codes
theorem cat_app (a b : List It) : catL (a ++ b) = catL a ++ catL b := List.flatMap_append
/-- Where Split stands: all so far has room, r is left. -/
def FitAt (wd : Int) (p : List It × Int) : Prop := fitsOk wd 0 p.1 ∧ usedL 0 p.1 = wd - p.2
theorem FitAt.other {wd : Int} {p : List It × Int} (h : FitAt wd p) {x : It} (hx : x.kind ≠ 1) (hw0 : 0 ≤ x.width) (hw1 : x.width ≤ 2179695902) : FitAt wd (p.1 ++ [x], wd) := by
  obtain ⟨h1, h2⟩ := h
  refine ⟨(fits_app wd _ _ _).2 ⟨h1, .inl ⟨hx, hw0, hw1⟩, trivial⟩, ?_⟩
  show usedL 0 (p.1 ++ [x]) = wd - wd
  rw [used_app, usedL, if_pos hx, usedL]
  omega
theorem FitAt.box {wd : Int} {p : List It × Int} (h : FitAt wd p) {f sz lk : Int} {c : List UInt8} (hc : c ≠ []) (hr : runL f sz c ≤ p.2) (s1 : 0 ≤ sz) (s2 : sz ≤ 2147483648) (hl : c.length ≤ 100000) : FitAt wd (p.1 ++ [bxP f sz lk c], p.2 - runL f sz c) := by
  obtain ⟨h1, h2⟩ := h
  refine ⟨(fits_app wd _ _ _).2 ⟨h1, .inr ⟨rfl, ?_, run_nonneg s1 c, hc, rfl, s1, s2, hl⟩, trivial⟩, ?_⟩
  · rw [h2]
    show wd - p.2 + runL f sz c ≤ wd
    omega
  · show usedL 0 (p.1 ++ [bxP f sz lk c]) = wd - (p.2 - runL f sz c)
    rw [used_app, usedL, if_neg (by simp [bxP]), usedL, h2]
    show wd - p.2 + runL f sz c = _
    omega
/-- What fits has room, where each code has room alone. -/
theorem fit_run {wd f sz : Int} {c : List UInt8} {r : Int} (hs : 0 ≤ sz) (hc : c ≠ []) (hw : advL f sz (c.headD 0).toNat ≤ wd) (h0 : -9223372036854775808 ≤ r) (h1 : r ≤ wd) (h2 : wd ≤ 9223372036854775807) (hk : fitN wd f sz c r ≠ 0) : runL f sz (c.take (fitN wd f sz c r)) ≤ r := by
  have hwr : wordR r = r := by unfold wordR; rw [if_pos (by omega)]
  have one : runL f sz (c.take 1) = advL f sz (c.headD 0).toNat := by
    cases c with
    | nil => exact absurd rfl hc
    | cons b l => simp [runL]
  unfold fitN at hk ⊢
  split at hk
  · exact absurd rfl hk
  · rename_i hq
    rw [if_neg hq]
    rw [hwr] at hq ⊢
    have hadv : advL f sz (c.headD 0).toNat ≤ r := by
      by_cases e : r = wd
      · rw [e]; exact hw
      · have : ¬ r < advL f sz (c.headD 0).toNat := fun x => hq ⟨e, x⟩
        omega
    obtain ⟨_, c2, c3, _⟩ := cut_spec (f := f) (size := sz) (width := r) hs c
    have := c2 hc
    rcases c3 with c3 | c3
    · have e : cutL f sz r c = 1 := by omega
      rw [e, one]; exact hadv
    · exact c3
theorem part_fits {wd f sz lk : Int} (hs : 0 ≤ sz) (hz : sz ≤ 2147483648) (hall : ∀ b : UInt8, advL f sz b.toNat ≤ wd) (h2 : wd ≤ 4611686018427387904) (hw0 : 0 ≤ wd) : ∀ (n : Nat) (c : List UInt8) (p : List It × Int), c ≠ [] → c.length ≤ 100000 → -217969590200000 ≤ p.2 → p.2 ≤ wd → FitAt wd p → 2 * c.length + (if p.2 = wd then 0 else 1) < n →
    FitAt wd (partL wd f sz lk n c p) ∧ catL (partL wd f sz lk n c p).1 = catL p.1 ++ c
  | 0, c, p, _, _, _, _, _, hn => by omega
  | n + 1, c, p, hc, hcl, h0, h1, hF, hn => by
    have one : catL [bxP f sz lk c] = c := by simp [catL, bxP]
    by_cases a1 : runL f sz c ≤ p.2
    · rw [part_stand a1]
      exact ⟨hF.box hc a1 hs hz hcl, by simp only; rw [cat_app, one]⟩
    · by_cases a2 : fitN wd f sz c p.2 = 0
      · rw [part_none a1 a2]
        have hrw : p.2 ≠ wd := fun e => by have := fit_full (wd := wd) (f := f) (sz := sz) hc; rw [← e] at this; rw [e] at this a2; omega
        rw [if_neg hrw] at hn
        have := part_fits (f := f) (lk := lk) hs hz hall h2 hw0 n c (p.1 ++ [itPen 0], wd) hc hcl (by simp only; omega) (Int.le_refl _) (hF.other (x := itPen 0) (by simp [itPen]) (Int.le_refl _) (by simp [itPen])) (by simp only [if_pos]; omega)
        refine ⟨this.1, ?_⟩
        rw [this.2]
        simp only
        rw [cat_app]
        simp [catL, itPen]
      · have hfit := fit_run (f := f) hs hc (hall _) (by omega) h1 (by omega) a2
        have hle := fit_le wd f sz c p.2
        generalize hk : fitN wd f sz c p.2 = k at *
        have ht : c.take k ≠ [] := fun e => by
          have q1 := congrArg List.length e
          have q2 := List.length_pos_iff.2 hc
          rw [List.length_take, List.length_nil] at q1
          omega
        have onet : catL [bxP f sz lk (c.take k)] = c.take k := by simp [catL, bxP]
        have hB := hF.box (lk := lk) ht hfit hs hz (by rw [List.length_take]; omega)
        by_cases a3 : c.drop k = []
        · rw [part_last a1 (by rw [hk]; exact a2) (by rw [hk]; exact a3), hk]
          refine ⟨hB, ?_⟩
          simp only
          rw [cat_app, onet]
          have := List.take_append_drop k c
          rw [a3, List.append_nil] at this
          rw [this]
        · rw [part_more a1 (by rw [hk]; exact a2) (by rw [hk]; exact a3), hk]
          have := part_fits (f := f) (lk := lk) hs hz hall h2 hw0 n (c.drop k) ((p.1 ++ [bxP f sz lk (c.take k)]) ++ [itPen 0], wd) a3 (by rw [List.length_drop]; omega) (by simp only; omega) (Int.le_refl _) (hB.other (x := itPen 0) (by simp [itPen]) (Int.le_refl _) (by simp [itPen])) (by simp only [if_pos]; rw [List.length_drop]; split at hn <;> omega)
          refine ⟨this.1, ?_⟩
          rw [this.2]
          simp only
          rw [cat_app, cat_app, onet]
          simp only [catL, itPen, List.flatMap_cons, List.flatMap_nil, List.append_nil, List.append_assoc]
          rw [List.take_append_drop]
/-- Items as Make tells them, of that size. -/
def mkOk (n : Int) (x : It) : Prop := (x.kind ≠ 1 ∧ x.codes = [] ∧ 0 ≤ x.width ∧ x.width ≤ 2179695902) ∨ (x = bxP x.font n x.link x.codes ∧ x.codes ≠ [])
theorem split_fits {wd sz : Int} (hs : 0 ≤ sz) (hz : sz ≤ 2147483648) (hall : ∀ (f : Int) (b : UInt8), advL f sz b.toNat ≤ wd) (h2 : wd ≤ 4611686018427387904) (hw0 : 0 ≤ wd) : ∀ (l : List It) (p : List It × Int), (∀ x ∈ l, mkOk sz x ∧ x.codes.length ≤ 100000) → -217969590200000 ≤ p.2 → p.2 ≤ wd → FitAt wd p →
    FitAt wd (splitL wd l p) ∧ catL (splitL wd l p).1 = catL p.1 ++ catL l
  | [], p, _, _, _, hF => by rw [splitL]; exact ⟨hF, by simp [catL]⟩
  | x :: l, p, hx, h0, h1, hF => by
    obtain ⟨hm, hcl⟩ := hx x (List.mem_cons_self ..)
    have hl := fun y hy => hx y (List.mem_cons_of_mem _ hy)
    rw [splitL]
    rcases hm with ⟨hk, hnil, hm0, hm1⟩ | ⟨he, hne⟩
    · rw [if_pos hk]
      have := split_fits hs hz hall h2 hw0 l (p.1 ++ [x], wd) hl (by simp only; omega) (Int.le_refl _) (hF.other hk hm0 hm1)
      refine ⟨this.1, ?_⟩
      rw [this.2]
      simp only
      rw [cat_app]
      simp [catL, hnil]
    · have hk1 : x.kind = 1 := by rw [he]; rfl
      have hsz : x.size = sz := by rw [he]; rfl
      rw [if_neg (by rw [hk1]; simp), if_neg hne, hsz]
      have hpl := part_len (f := x.font) (lk := x.link) hs hz hw0 (2 * x.codes.length + 2) x.codes p hcl h0 h1
      have hpf := part_fits (f := x.font) (lk := x.link) hs hz (hall x.font) h2 hw0 (2 * x.codes.length + 2) x.codes p hne hcl h0 h1 hF (by split <;> omega)
      have := split_fits hs hz hall h2 hw0 l _ hl hpl.2.1 hpl.2.2 hpf.1
      refine ⟨this.1, ?_⟩
      rw [this.2, hpf.2]
      simp [catL]
/-! ### Make's items are of that kind -/
def Mk (sz : Int) (l : List It) : Prop := ∀ x ∈ l, mkOk sz x
theorem Mk.snoc {sz : Int} {l : List It} {x : It} (h : Mk sz l) (hx : mkOk sz x) : Mk sz (l ++ [x]) := fun y hy => by
  rcases List.mem_append.1 hy with hy | hy
  · exact h y hy
  · rw [List.mem_singleton] at hy; subst hy; exact hx
theorem Mk.dropG {sz : Int} {l : List It} (h : Mk sz l) : Mk sz (dropG l) := by
  unfold Go.Proofs.YtoanknepbjofjaaDoor.dropG
  split
  · exact fun y hy => h y (List.dropLast_subset l hy)
  · exact h
theorem Mk.glue {sz : Int} {s : Sty} {l : List It} (h : Mk sz l) (s1 : 0 ≤ sz) (s2 : sz ≤ 2147483648) : Mk sz (glueP sz s l) := by
  unfold glueP
  split
  · exact h.snoc (.inl ⟨by simp [itGlue], rfl, adv_nonneg (by decide) s1, adv_le (by decide) s1 s2⟩)
  · exact h
theorem Mk.brk {sz : Int} {l : List It} (h : Mk sz l) : Mk sz (brkP l) := by
  unfold brkP
  split
  · exact h.dropG.snoc (.inl ⟨by simp [itPen], rfl, Int.le_refl _, by simp [itPen]⟩)
  · exact h.dropG
theorem Mk.word {sz : Int} {s : Sty} {t : List UInt8} {l : List It} (h : Mk sz l) : Mk sz (wordP sz s t l) := by
  unfold wordP
  split
  · exact h
  · rename_i hn
    exact h.snoc (.inr ⟨rfl, by show codesL t ≠ []; rw [codesL_step t hn]; simp⟩)
theorem Mk.txt {sz : Int} {s : Sty} (s1 : 0 ≤ sz) (s2 : sz ≤ 2147483648) : ∀ (t cur : List UInt8) {l : List It}, Mk sz l → Mk sz (txtP sz s cur t l)
  | [], cur, l, h => by rw [txtP]; exact h.word
  | b :: t, cur, l, h => by
    rw [txtP]
    split
    · exact Mk.txt s1 s2 t [] (h.word.glue s1 s2)
    · exact Mk.txt s1 s2 t (cur ++ [b]) h
mutual
theorem Mk.spn {sz : Int} (s1 : 0 ≤ sz) (s2 : sz ≤ 2147483648) : ∀ (x : St) (s : Sty) (p : List It × Int), Mk sz p.1 → Mk sz (spnP sz x s p).1
  | .mk k t _ _ ks, s, p, h => by
    rw [spnP]
    repeat' split
    all_goals first
      | exact Mk.txt s1 s2 t [] h
      | exact h.glue s1 s2
      | exact h.brk
      | exact Mk.spns s1 s2 ks _ _ h
      | exact h
theorem Mk.spns {sz : Int} (s1 : 0 ≤ sz) (s2 : sz ≤ 2147483648) : ∀ (l : List St) (s : Sty) (p : List It × Int), Mk sz p.1 → Mk sz (spnsP sz l s p).1
  | [], s, p, h => by rw [spnsP]; exact h
  | x :: l, s, p, h => by
    rw [spnsP]
    exact Mk.spns s1 s2 l s _ (Mk.spn s1 s2 x s p h)
end
theorem Mk.make {sz f lk : Int} (s1 : 0 ≤ sz) (s2 : sz ≤ 2147483648) (l : List St) : Mk sz (makeL l f sz lk).1 := by
  unfold makeL
  exact (Mk.spns s1 s2 l _ _ (fun x hx => by cases hx)).dropG
end Go.Proofs.YtoanknepbjofjaaDoor

/-
  How many codes items of spans have; contract of the document's Run.
-/
namespace Go.Proofs.YtoanknepbjofjaaDoor
open Go.RowKit Go.Lib

theorem cat_drop (l : List It) : (catL (dropG l)).length ≤ (catL l).length := by
  unfold dropG
  split
  · rename_i h
    rcases List.eq_nil_or_concat l with rfl | ⟨m, x, rfl⟩
    · simp
    · rw [List.concat_eq_append, List.dropLast_concat, cat_app, List.length_append]; omega
  · exact Nat.le_refl _
theorem cat_glue (sz : Int) (s : Sty) (l : List It) : (catL (glueP sz s l)).length = (catL l).length := by
  unfold glueP
  split
  · rw [cat_app]; simp [catL, itGlue]
  · rfl
theorem cat_brk (l : List It) : (catL (brkP l)).length ≤ (catL l).length := by
  have := cat_drop l
  unfold brkP
  split
  · rw [cat_app]; simp [catL, itPen] at *; exact this
  · exact this
theorem cat_word (sz : Int) (s : Sty) (t : List UInt8) (l : List It) : (catL (wordP sz s t l)).length ≤ (catL l).length + t.length := by
  unfold wordP
  split
  · omega
  · rw [cat_app, List.length_append]
    have := codes_le t
    have e : catL [itBox sz s (codesL t)] = codesL t := by simp [catL, itBox]
    rw [e]; omega
theorem cat_txt (sz : Int) (s : Sty) : ∀ (t cur : List UInt8) (l : List It), (catL (txtP sz s cur t l)).length ≤ (catL l).length + cur.length + t.length
  | [], cur, l => by
    have := cat_word sz s cur l
    rw [txtP]; omega
  | b :: t, cur, l => by
    have h1 := cat_txt sz s t [] (glueP sz s (wordP sz s cur l))
    have h2 := cat_txt sz s t (cur ++ [b]) l
    rw [cat_glue] at h1
    have h3 := cat_word sz s cur l
    rw [txtP, List.length_cons]
    split
    · simp only [List.length_nil] at h1; omega
    · rw [List.length_append, List.length_singleton] at h2; omega
mutual
theorem cat_spn (sz : Int) : ∀ (x : St) (s : Sty) (p : List It × Int), (catL (spnP sz x s p).1).length ≤ (catL p.1).length + wS x
  | .mk k t _ _ ks, s, p => by
    have a1 := cat_txt sz s t [] p.1
    have a2 := cat_txt sz { s with font := 4 } t [] p.1
    have a3 := cat_glue sz s p.1
    have a4 := cat_brk p.1
    have b1 := cat_spns sz ks { s with font := slF s.font } p
    have b2 := cat_spns sz ks { s with font := bdF s.font } p
    have b3 := cat_spns sz ks s p
    have b4 := cat_spns sz ks { s with link := p.2 } (p.1, p.2 + 1)
    have b5 := cat_spns sz ks { s with image := true } p
    simp only [List.length_nil] at a1 a2 b4
    rw [spnP, wS]
    repeat' split
    all_goals first | omega | (simp only; omega)
theorem cat_spns (sz : Int) : ∀ (l : List St) (s : Sty) (p : List It × Int), (catL (spnsP sz l s p).1).length ≤ (catL p.1).length + wL l
  | [], s, p => by rw [spnsP, wL]; omega
  | x :: l, s, p => by
    have h1 := cat_spn sz x s p
    have h2 := cat_spns sz l s (spnP sz x s p)
    rw [spnsP, wL]; omega
end
theorem cat_make (f sz lk : Int) (l : List St) : (catL (makeL l f sz lk).1).length ≤ wL l := by
  have h1 := cat_spns sz l ⟨f, 0, false⟩ ([], lk)
  have h2 := cat_drop (spnsP sz l ⟨f, 0, false⟩ ([], lk)).1
  unfold makeL
  simp only [catL, List.flatMap_nil, List.length_nil] at h1 h2 ⊢
  omega
theorem wI_cat : ∀ l : List It, wI l = 4 * (catL l).length + 5 * l.length
  | [] => rfl
  | x :: l => by
    rw [wI, wI_cat l]
    have e : catL (x :: l) = x.codes ++ catL l := by simp [catL]
    rw [e, List.length_append, List.length_cons]; omega
set_option maxRecDepth 100000 in
theorem rrun_any (f size : Int) (s : ByteArray) (w : World) (hs : s.size ≤ 100000) (h1 : 0 ≤ size) (h2 : size ≤ 2147483648) (hF : FntR w) :
    Calls Tryd.prog 52 #[.int .i64 f, .int .i64 size, .string s] w fun e w' => e = .returned (.int .i64 (runL f size s.data.toList)) ∧ w = w' := by
  have hl := Lib.hid (bytes_len s)
  have AD := Lib.hid (fun c hc W h => radv_any f size c hc W (by omega) h2 h)
  have HF := Lib.hid hF
  have H1 := Lib.hid h1
  have H2 := Lib.hid h2
  clear hF h1 h2
  go_enter Tryd.func52, Tryd.ntmps52
  go_wp2_with fail
  go_loop [7, 8] (fun acc i => ∃ (k : Nat) (u : Int), k ≤ s.size ∧ i = .int .i64 k ∧ acc = .int .i64 u ∧ Hid (u = runL f size (s.data.toList.take k)) ∧ 0 ≤ u ∧ u ≤ 2179695902 * k) (fun _ i => s.size - (RowKit.intOf i).toNat)
  case atStart => exact ⟨0, 0, Nat.zero_le _, rfl, rfl, Lib.hid rfl, by omega, by omega⟩
  case round =>
    obtain ⟨k, u, hp, rfl, rfl, HU, u0, u1⟩ := hrel
    by_cases c : k < s.size
    · have hb := s[k].toNat_lt
      have HT := Lib.hid (AD.out s[k].toNat hb w HF.out)
      have a0 := adv_nonneg (f := f) hb H1.out
      have a1 := adv_le (f := f) hb H1.out H2.out
      have HN := Lib.hid (run_next (f := f) (size := size) (k := k) (by have := hl.out; omega) HU.out)
      have HG : Hid (advL f size s.data.toList[k].toNat = advL f size s[k].toNat) := Lib.hid rfl
      generalize advL f size s[k].toNat = d at *
      go_wp2_with fail
      refine HT.out.mono ?_
      rintro e W0 ⟨rfl, rfl⟩
      go_wp2_with fail
      go_round
      case rel => exact ⟨k + 1, u + d, by omega, by go_num, rfl, by have e := HN.out; rw [HG.out] at e; exact Lib.hid e, by omega, by omega⟩
      case measure => simp [RowKit.intOf]; omega
    · have HE : Hid (u = runL f size s.data.toList) := by
        have e := HU.out
        rw [List.take_of_length_le (by have := hl.out; omega)] at e
        exact Lib.hid e
      go_wp2_with fail
      go_ret
      exact ⟨ret_int HE.out, rfl⟩
end Go.Proofs.YtoanknepbjofjaaDoor

/-
  Contract of the document's box.
-/
namespace Go.Proofs.YtoanknepbjofjaaDoor
open Go.RowKit Go.Lib Go.Maps

section
variable {w0 W : World} {sz : Int} {B : Nat} {v : Value} {its : List It} {nx : Int}
set_option maxRecDepth 100000 in
set_option maxHeartbeats 16000000 in
theorem rbox_any (s : ByteArray) (f lk : Int) (h : Mr w0 sz W B v its nx) (hs : s.size ≤ 100000) (hl : its.length ≤ 999999) (z1 : 0 ≤ sz) (z2 : sz ≤ 2147483648) (hF : FntR w0) :
    Calls Tryd.prog 42 #[.pointer (some ⟨B, 0, none⟩), .string s, .int .i64 f, .int .i64 lk] W fun e w' => e = .returned (.tuple #[]) ∧ PostMr w0 sz W B v (wordP sz ⟨f, lk, false⟩ s.data.toList its) nx w' := by
  by_cases c0 : s.data.toList = []
  · have te : s.toList.isEmpty = true := by rw [Lib.toList_data, c0]; rfl
    have te2 : (s.toList == []) = true := by rw [Lib.toList_data, c0]; rfl
    have FIN := Lib.hid (show PostMr w0 sz W B v (wordP sz ⟨f, lk, false⟩ s.data.toList its) nx W by unfold wordP; rw [if_pos c0]; exact h.post (Keeps.refl _))
    clear h c0
    go_enter Tryd.func42, Tryd.ntmps42
    go_wp2_with fail
    go_end0
    exact ⟨rfl, FIN.out⟩
  · have te : s.toList.isEmpty = false := by rw [List.isEmpty_eq_false_iff, Lib.toList_data]; exact c0
    have te2 : (s.toList == []) = false := by
      cases h : s.toList with
      | nil => rw [h] at te; cases te
      | cons _ _ => rfl
    have CO := Lib.hid (rcodes_any s W hs)
    have hcl : (codesL s.data.toList).length ≤ 100000 := by have := codes_le s.data.toList; rw [bytes_len] at this; omega
    have ew : wordP sz ⟨f, lk, false⟩ s.data.toList its = its ++ [itBox sz ⟨f, lk, false⟩ (codesL s.data.toList)] := by unfold wordP; rw [if_neg c0]
    rw [ew]
    clear ew c0
    generalize codesL s.data.toList = c at *
    have HM := Lib.hid (fun W1 (k : Keeps W W1) => (h.to k).made (itBox sz ⟨f, lk, false⟩ c) (Nat.le_succ_of_le hl))
    have HB := Lib.hid (fun W1 (k : Keeps W W1) => (h.own.keep k).box.cell 0 (v := v) rfl)
    have HZ := Lib.hid (fun W1 (k : Keeps W W1) => (h.own.keep k).box.cell 1 (v := .int .i64 sz) rfl)
    have HP := Lib.hid (fun W1 (k : Keeps W W1) W' (q : PostMr w0 sz W1 B v (its ++ [itBox sz ⟨f, lk, false⟩ c]) nx W') => PostMr.from k q)
    have RA := Lib.hid (fun W1 (k : Keeps W W1) => rrun_any f sz ⟨c.toArray⟩ W1 (by show c.toArray.size ≤ _; simp; exact hcl) z1 z2 (hF.keep (h.keep.trans k)))
    rw [show (⟨c.toArray⟩ : ByteArray).data.toList = c by simp] at RA
    obtain ⟨A, cap, hv, _, _⟩ := row_form h.own.row
    subst hv
    unfold itBox at *
    simp only at *
    generalize runL f sz c = d at *
    clear h hcl
    obtain ⟨cb, hcb⟩ : ∃ cb : ByteArray, (⟨c.toArray⟩ : ByteArray) = cb := ⟨_, rfl⟩
    rw [hcb] at CO HM RA
    clear hcb
    go_enter Tryd.func42, Tryd.ntmps42
    go_wp2_with fail
    refine CO.out.mono ?_
    rintro e w1 ⟨rfl, k1⟩
    have K1 := k1.drew
    obtain ⟨A8, c8, w8, ra, b8, p8⟩ := HM.out w1.drew K1
    have R1 := RA.out w1.drew K1
    have y0 := HB.out w1.drew K1
    have y1 := HZ.out w1.drew K1
    have y4 := HB.out w1 k1
    have y5 := HZ.out w1 k1
    have y6 := HZ.out _ (k1.alloc (.cells #[.int .i64 1, .int .i64 d, .int .i64 0, .int .i64 0, .int .i64 0, .string cb, .int .i64 f, .int .i64 sz, .int .i64 lk] 37))
    have y3 := HB.out _ (k1.alloc (.cells #[.int .i64 1, .int .i64 d, .int .i64 0, .int .i64 0, .int .i64 0, .string cb, .int .i64 f, .int .i64 sz, .int .i64 lk] 37))
    have y2 := b8.cell 0 (v := .slice A its.length cap) rfl
    have yf := b8.free 0
    have FIN := Lib.hid (HP.out w1.drew K1 _ p8)
    clear p8 b8 k1 CO HM RA HB HZ HP
    go_wp2_with fail
    go_region_law (first
      | (refine step_append_run' rfl (.tmp 17) (.tmp 33) _ _ rfl _ _ (by simp [Act.eval]) (by simp [Act.eval]) _ _ ra ?_)
      | (go_simp; go_at_call 52; (with_reducible refine R1.mono ?_); rintro e w2 ⟨rfl, rfl⟩))
    all_goals
      go_end0
      exact ⟨rfl, FIN.out⟩
end
end Go.Proofs.YtoanknepbjofjaaDoor

/-
  Contracts of the document's text, slanted and thick.
-/
namespace Go.Proofs.YtoanknepbjofjaaDoor
open Go.RowKit Go.Lib Go.Maps

theorem bneI {x y : Int} (h : x ≠ y) : (x != y) = true := by rw [bne_iff_ne]; exact h
set_option maxRecDepth 100000 in
theorem rslant_any (f : Int) (W : World) : Calls Tryd.prog 24 #[.int .i64 f] W fun e w' => e = .returned (.int .i64 (slF f)) ∧ W = w' := by
  unfold slF
  by_cases h0 : f = 0
  · subst h0
    go_enter Tryd.func24, Tryd.ntmps24
    go_wp2_with fail
    go_ret
    exact ⟨rfl, rfl⟩
  · have t0 : (f == 0) = false := beqF h0
    rw [if_neg h0]
    by_cases h1 : f = 1
    · subst h1
      go_enter Tryd.func24, Tryd.ntmps24
      go_wp2_with fail
      go_ret
      exact ⟨rfl, rfl⟩
    · have t1 : (f == 1) = false := beqF h1
      rw [if_neg h1]
      go_enter Tryd.func24, Tryd.ntmps24
      go_wp2_with fail
      go_ret
      exact ⟨rfl, rfl⟩
set_option maxRecDepth 100000 in
theorem rthick_any (f : Int) (W : World) : Calls Tryd.prog 25 #[.int .i64 f] W fun e w' => e = .returned (.int .i64 (bdF f)) ∧ W = w' := by
  unfold bdF
  by_cases h0 : f = 0
  · subst h0
    go_enter Tryd.func25, Tryd.ntmps25
    go_wp2_with fail
    go_ret
    exact ⟨rfl, rfl⟩
  · have t0 : (f == 0) = false := beqF h0
    rw [if_neg h0]
    by_cases h1 : f = 2
    · subst h1
      go_enter Tryd.func25, Tryd.ntmps25
      go_wp2_with fail
      go_ret
      exact ⟨rfl, rfl⟩
    · have t1 : (f == 2) = false := beqF h1
      rw [if_neg h1]
      go_enter Tryd.func25, Tryd.ntmps25
      go_wp2_with fail
      go_ret
      exact ⟨rfl, rfl⟩
section
variable {w0 W : World} {sz : Int} {B : Nat} {v : Value} {its : List It} {nx : Int}
set_option maxRecDepth 100000 in
set_option maxHeartbeats 8000000 in
theorem rtext_any (t : ByteArray) (f lk : Int) (h : Mr w0 sz W B v its nx) (ht : t.size ≤ 100000) (hl : its.length + 2 * t.size ≤ 999990) (z1 : 0 ≤ sz) (z2 : sz ≤ 2147483648) (hF : FntR w0) :
    Calls Tryd.prog 22 #[.pointer (some ⟨B, 0, none⟩), .string t, .int .i64 f, .int .i64 lk] W fun e w' => e = .returned (.tuple #[]) ∧ PostMr w0 sz W B v (txtP sz ⟨f, lk, false⟩ [] t.data.toList its) nx w' := by
  have HL := Lib.hid (bytes_len t)
  have H0 := Lib.hid h
  have HW := Lib.hid (fun W1 v1 its1 (m : Mr w0 sz W1 B v1 its1 nx) (x : ByteArray) (a : its1.length ≤ 999999) (b : x.size ≤ 100000) => rbox_any x f lk m b a z1 z2 hF)
  have HG := Lib.hid (fun W1 v1 its1 (m : Mr w0 sz W1 B v1 its1 nx) (a : its1.length ≤ 999999) => rglue_any f m a z1 z2 hF)
  have WL := Lib.hid (fun x l => word_len sz ⟨f, lk, false⟩ x l)
  have GL := Lib.hid (fun l => glue_len sz ⟨f, lk, false⟩ l)
  have E0 : Hid ((0 ≤ t.size ∧ 0 ≤ 0 ∧ txtP sz ⟨f, lk, false⟩ ((t.data.toList.take 0).drop 0) (t.data.toList.drop 0) its = txtP sz ⟨f, lk, false⟩ [] t.data.toList its) ∨ (0 = t.size + 1 ∧ its = txtP sz ⟨f, lk, false⟩ [] t.data.toList its)) := Lib.hid (.inl ⟨Nat.zero_le _, Nat.le_refl _, rfl⟩)
  have ES : Hid (∀ j k : Nat, k ≤ t.size → (t.extract j k).data.toList = (t.data.toList.take k).drop j) := Lib.hid (fun j k _ => by rw [Lib.extract_data, ← List.drop_take])
  clear h hF
  go_enter Tryd.func22, Tryd.ntmps22
  go_wp2_with fail
  go_loopw [8, 9] (fun x y wr => ∃ (j k : Nat) (v1 : Value) (its1 : List It), k ≤ t.size + 1 ∧ x = .int .i64 j ∧ y = .int .i64 k ∧ Hid (Mr w0 sz wr B v1 its1 nx) ∧ Hid (Mvd W wr B v v1) ∧ its1.length ≤ its.length + 2 * k ∧ Hid ((k ≤ t.size ∧ j ≤ k ∧ txtP sz ⟨f, lk, false⟩ ((t.data.toList.take k).drop j) (t.data.toList.drop k) its1 = txtP sz ⟨f, lk, false⟩ [] t.data.toList its) ∨ (k = t.size + 1 ∧ its1 = txtP sz ⟨f, lk, false⟩ [] t.data.toList its))) (fun _ y _ => t.size + 1 - (RowKit.intOf y).toNat)
  case atStart => exact ⟨0, 0, v, its, Nat.zero_le _, rfl, rfl, H0, Lib.hid (Mvd.refl _ _ _), by omega, E0⟩
  case round =>
    obtain ⟨j, k, v1, its1, hkn, rfl, rfl, HM, HV, hln, HT⟩ := hrel
    rcases HT.out with ⟨hk1, hjk, hT⟩ | ⟨hk1, hT⟩
    · have tc : decide ((k : Int) ≤ (t.size : Int)) = true := decide_eq_true (by omega)
      have e1 : (0 : Int) ≤ (j : Int) := by omega
      have e2 : (j : Int) ≤ (k : Int) := by omega
      have e3 : (k : Int) ≤ (t.size : Int) := by omega
      by_cases c : k < t.size
      · have tk : decide ((k : Int) < (t.size : Int)) = true := decide_eq_true (by omega)
        have hk' : k < t.data.toList.length := by rw [HL.out]; exact c
        have hg : t.data.toList[k] = t[k] := rfl
        have i0 : (0 : Int) ≤ (k : Int) := by omega
        have i1 : (k : Int) < (t.size : Int) := by omega
        have hbk : blankB t[k] ↔ t[k].toNat = 32 ∨ t[k].toNat = 9 ∨ t[k].toNat = 10 := Iff.rfl
        have HBK := Lib.hid hbk
        obtain ⟨x, hx⟩ : ∃ x : Nat, t[k].toNat = x := ⟨_, rfl⟩
        have HXE := Lib.hid hx
        clear hbk
        by_cases b1 : x = 32
        · have hb : blankB t[k] := HBK.out.2 (by rw [HXE.out]; omega)
          subst b1
          have HN := Lib.hid (txt_blank hk' (by rw [hg]; exact hb) hT)
          have CW := Lib.hid (HW.out _ _ _ HM.out (t.extract j k) (by omega) (by rw [ByteArray.size_extract]; omega))
          rw [ES.out j k (by omega)] at CW
          have hw2 := WL.out ((t.data.toList.take k).drop j) its1
          have hw3 := GL.out (wordP sz ⟨f, lk, false⟩ ((t.data.toList.take k).drop j) its1)
          generalize wordP sz ⟨f, lk, false⟩ ((t.data.toList.take k).drop j) its1 = its2 at *
          clear hb hT
          go_wp2_with fail
          refine CW.out.mono ?_
          rintro e w2 ⟨rfl, v2, m2, q2⟩
          have CG := HG.out _ _ _ m2 (by omega)
          rw [glue_img sz f 0 lk false false] at CG
          have V2 := Lib.hid (HV.out.trans q2)
          clear m2 q2
          go_wp2_with fail
          refine CG.mono ?_
          rintro e w3 ⟨rfl, v3, m3, q3⟩
          have V3 := Lib.hid (V2.out.trans q3)
          have M3 := Lib.hid m3
          clear q3 m3
          go_wp2_with fail
          go_roundw
          case rel => exact ⟨k + 1, k + 1, v3, _, by omega, by go_num, by go_num, M3, V3, by omega, Lib.hid (.inl ⟨by omega, Nat.le_refl _, HN.out⟩)⟩
          case measure => simp only [RowKit.intOf]; omega
        by_cases b2 : x = 9
        · have hb : blankB t[k] := HBK.out.2 (by rw [HXE.out]; omega)
          subst b2
          clear b1
          have HN := Lib.hid (txt_blank hk' (by rw [hg]; exact hb) hT)
          have CW := Lib.hid (HW.out _ _ _ HM.out (t.extract j k) (by omega) (by rw [ByteArray.size_extract]; omega))
          rw [ES.out j k (by omega)] at CW
          have hw2 := WL.out ((t.data.toList.take k).drop j) its1
          have hw3 := GL.out (wordP sz ⟨f, lk, false⟩ ((t.data.toList.take k).drop j) its1)
          generalize wordP sz ⟨f, lk, false⟩ ((t.data.toList.take k).drop j) its1 = its2 at *
          clear hb hT
          go_wp2_with fail
          refine CW.out.mono ?_
          rintro e w2 ⟨rfl, v2, m2, q2⟩
          have CG := HG.out _ _ _ m2 (by omega)
          rw [glue_img sz f 0 lk false false] at CG
          have V2 := Lib.hid (HV.out.trans q2)
          clear m2 q2
          go_wp2_with fail
          refine CG.mono ?_
          rintro e w3 ⟨rfl, v3, m3, q3⟩
          have V3 := Lib.hid (V2.out.trans q3)
          have M3 := Lib.hid m3
          clear q3 m3
          go_wp2_with fail
          go_roundw
          case rel => exact ⟨k + 1, k + 1, v3, _, by omega, by go_num, by go_num, M3, V3, by omega, Lib.hid (.inl ⟨by omega, Nat.le_refl _, HN.out⟩)⟩
          case measure => simp only [RowKit.intOf]; omega
        by_cases b3 : x = 10
        · have hb : blankB t[k] := HBK.out.2 (by rw [HXE.out]; omega)
          subst b3
          clear b1 b2
          have HN := Lib.hid (txt_blank hk' (by rw [hg]; exact hb) hT)
          have CW := Lib.hid (HW.out _ _ _ HM.out (t.extract j k) (by omega) (by rw [ByteArray.size_extract]; omega))
          rw [ES.out j k (by omega)] at CW
          have hw2 := WL.out ((t.data.toList.take k).drop j) its1
          have hw3 := GL.out (wordP sz ⟨f, lk, false⟩ ((t.data.toList.take k).drop j) its1)
          generalize wordP sz ⟨f, lk, false⟩ ((t.data.toList.take k).drop j) its1 = its2 at *
          clear hb hT
          go_wp2_with fail
          refine CW.out.mono ?_
          rintro e w2 ⟨rfl, v2, m2, q2⟩
          have CG := HG.out _ _ _ m2 (by omega)
          rw [glue_img sz f 0 lk false false] at CG
          have V2 := Lib.hid (HV.out.trans q2)
          clear m2 q2
          go_wp2_with fail
          refine CG.mono ?_
          rintro e w3 ⟨rfl, v3, m3, q3⟩
          have V3 := Lib.hid (V2.out.trans q3)
          have M3 := Lib.hid m3
          clear q3 m3
          go_wp2_with fail
          go_roundw
          case rel => exact ⟨k + 1, k + 1, v3, _, by omega, by go_num, by go_num, M3, V3, by omega, Lib.hid (.inl ⟨by omega, Nat.le_refl _, HN.out⟩)⟩
          case measure => simp only [RowKit.intOf]; omega
        have u1 : ((x : Int) != 32) = true := bneI (by omega)
        have w1 : ¬ (x : Int) = 32 := by omega
        have u2 : ((x : Int) != 9) = true := bneI (by omega)
        have w2 : ¬ (x : Int) = 9 := by omega
        have u3 : ((x : Int) != 10) = true := bneI (by omega)
        have w3 : ¬ (x : Int) = 10 := by omega
        have hb : ¬ blankB t[k] := fun q => by have := HBK.out.1 q; rw [HXE.out] at this; omega
        have HN := Lib.hid (txt_more hk' hjk (by rw [hg]; exact hb) hT)
        clear hb hT b1 b2 b3
        go_wp2_with fail
        go_roundw
        case rel => exact ⟨j, k + 1, v1, its1, by omega, rfl, by go_num, HM, HV, by omega, Lib.hid (.inl ⟨by omega, by omega, HN.out⟩)⟩
        case measure => simp only [RowKit.intOf]; omega
      · have tk : decide ((k : Int) < (t.size : Int)) = false := decide_eq_false (by omega)
        have hkk : k = t.data.toList.length := by rw [HL.out]; omega
        rw [hkk] at hT
        have HN := Lib.hid (txt_end hT)
        have hks : k = t.size := by omega
        have ex : (t.extract j k).data.toList = t.data.toList.drop j := by rw [ES.out j k (by omega), hks, List.take_of_length_le (Nat.le_of_eq HL.out)]
        have CW := Lib.hid (HW.out _ _ _ HM.out (t.extract j k) (by omega) (by rw [ByteArray.size_extract]; omega))
        rw [ex, HN.out] at CW
        have WL2 := WL.out (t.data.toList.drop j) its1
        rw [HN.out] at WL2
        have HKS := Lib.hid hks
        clear hkk ex hT hks
        go_wp2_with fail
        refine CW.out.mono ?_
        rintro e w2 ⟨rfl, v2, m2, q2⟩
        have V2 := Lib.hid (HV.out.trans q2)
        have M2 := Lib.hid m2
        clear m2 q2
        go_wp2_with fail
        go_roundw
        case rel => exact ⟨k + 1, k + 1, v2, _, by omega, by go_num, by go_num, M2, V2, by omega, Lib.hid (.inr ⟨by have := HKS.out; omega, rfl⟩)⟩
        case measure => simp only [RowKit.intOf]; omega
    · have tc : decide ((k : Int) ≤ (t.size : Int)) = false := decide_eq_false (by omega)
      have FIN : PostMr w0 sz W B v (txtP sz ⟨f, lk, false⟩ [] t.data.toList its) nx wr := ⟨v1, by rw [← hT]; exact HM.out, HV.out⟩
      have FIN := Lib.hid FIN
      clear hT
      go_wp2_with fail
      go_end0
      exact ⟨rfl, FIN.out⟩
end
end Go.Proofs.YtoanknepbjofjaaDoor

/-
  The law's awake: the document's examples.
-/
namespace Go.Proofs.YtoanknepbjofjaaDoor
open Go.RowKit Go.Lib Go.Maps

/-- A span's cells. -/
def stC : St → Value → List Value
  | .mk k t d ti _, v => [.int .i64 k, .string ⟨t.toArray⟩, .string ⟨d.toArray⟩, .string ⟨ti.toArray⟩, v]
def stR (L : List (St × Value)) : List Value := L.flatMap fun x => stC x.1 x.2
theorem stC_len (s : St) (v : Value) : (stC s v).length = 5 := by cases s; rfl
theorem stR_len (L : List (St × Value)) : (stR L).length = L.length * 5 := by
  unfold stR
  induction L with
  | nil => rfl
  | cons x L ih => rw [List.flatMap_cons, List.length_append, ih, stC_len, List.length_cons]; omega
theorem stR_at : ∀ (L : List (St × Value)) (i : Nat) (hi : i < L.length) (j : Nat), j < 5 → (stR L)[i * 5 + j]? = (stC L[i].1 L[i].2)[j]?
  | x :: L, 0, _, j, hj => by
    show (stC x.1 x.2 ++ stR L)[0 * 5 + j]? = (stC x.1 x.2)[j]?
    rw [List.getElem?_append_left (by rw [stC_len]; omega), Nat.zero_mul, Nat.zero_add]
  | x :: L, i + 1, hi, j, hj => by
    have hi' : i < L.length := by simpa using hi
    show (stC x.1 x.2 ++ stR L)[(i + 1) * 5 + j]? = (stC (L[i]'hi').1 (L[i]'hi').2)[j]?
    rw [List.getElem?_append_right (by rw [stC_len]; omega), stC_len, ← stR_at L i hi' j hj]
    congr 1
    omega
/-- A row of spans at a block's head. -/
theorem StAt.row {W : World} {L : List (St × Value)} {g cap : Nat} (hc : ∀ j u, (stR L)[j]? = some u → W.cell? ⟨g, j, none⟩ = some u) (h1 : L.length ≤ cap) (h2 : cap ≤ maxLen) (hk : ∀ x ∈ L, StAt W x.1.kids x.2) : StAt W (L.map Prod.fst) (.slice (some ⟨g, 0, none⟩) L.length cap) := by
  refine .mk L _ cap h1 h2 (fun _ => ⟨g, 0, rfl, fun i hi k t d ti ks e => ?_⟩) hk
  have hx : ∀ j, j < 5 → ∀ u, (stC L[i].1 L[i].2)[j]? = some u → W.cell? ⟨g, 0 + i * 5 + j, none⟩ = some u := fun j hj u hu => by
    rw [Nat.zero_add]
    exact hc _ _ (by rw [stR_at L i hi j hj]; exact hu)
  rw [e] at hx
  exact ⟨hx 0 (by decide) _ rfl, hx 1 (by decide) _ rfl, hx 2 (by decide) _ rfl, hx 3 (by decide) _ rfl, hx 4 (by decide) _ rfl⟩
theorem StAt.blk {W : World} {L : List (St × Value)} {g : Nat} (h : Blk W g 34 (stR L).toArray) (h2 : L.length ≤ maxLen) (hk : ∀ x ∈ L, StAt W x.1.kids x.2) : StAt W (L.map Prod.fst) (.slice (some ⟨g, 0, none⟩) L.length L.length) :=
  StAt.row (fun j u hu => h.cell j (by simpa using hu)) (Nat.le_refl _) h2 hk
theorem StAt.own {n₀ : Nat} {W : World} {L : List (St × Value)} {v : Value} (h : W.ownsRow n₀ 34 5 v L.length (stR L)) (hk : ∀ x ∈ L, StAt W x.1.kids x.2) : StAt W (L.map Prod.fst) v := by
  rcases h.2 with ⟨rfl, h0⟩ | ⟨g, cap, cur, rfl, _, _, h1, h2, _⟩
  · have : L = [] := List.eq_nil_of_length_eq_zero h0
    subst this
    exact StAt.nil W
  · refine StAt.row (fun j u hu => ?_) h1 h2 hk
    have hj := (List.getElem?_eq_some_iff.1 hu).1
    rw [stR_len] at hj
    rw [h.cellAt j hj]
    exact hu
/-! ### The examples -/
def awSp : List St := [.mk 1 [97, 98, 32, 32, 99] [] [] [], .mk 7 [] [] [] [.mk 1 [100] [] [] []]]
def awIt : List It := [⟨1, 11120, 0, 0, 0, [97, 98], 0, 10000, 0⟩, ⟨2, 2780, 1390, 926, 0, [], 0, 0, 0⟩, ⟨1, 5000, 0, 0, 0, [99], 0, 10000, 0⟩, ⟨1, 5560, 0, 0, 0, [100], 0, 10000, 4⟩]
theorem aw_make : makeL awSp 0 10000 4 = (awIt, 5) := by kernel_rfl
def awBx : List It := [⟨1, 24000, 0, 0, 0, [97, 98, 99, 100], 4, 10000, 0⟩]
def awCut : List It := [⟨1, 12000, 0, 0, 0, [97, 98], 4, 10000, 0⟩, ⟨3, 0, 0, 0, 0, [], 0, 0, 0⟩, ⟨1, 12000, 0, 0, 0, [99, 100], 4, 10000, 0⟩]
theorem aw_split : (splitL 13000 awBx ([], 13000)).1 = awCut := by kernel_rfl
theorem aw_box : runL 4 10000 [97, 98, 99, 100] = 24000 := by kernel_rfl
end Go.Proofs.YtoanknepbjofjaaDoor


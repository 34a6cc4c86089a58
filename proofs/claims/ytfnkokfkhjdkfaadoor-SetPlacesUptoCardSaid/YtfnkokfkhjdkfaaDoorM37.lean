/-
  Texts of the proof, one behind the other: Itw, If1, If2, Ifz, Spc, Spd, Spg.
-/
import Derived.Test.YtfnkokfkhjdkfaaDoorM36
import Derived.Test.YtfnkokfkhjdkfaaDoorM30
import Derived.Test.YtfnkokfkhjdkfaaDoorM24
import Derived.Test.YtfnkokfkhjdkfaaDoorM16
import Derived.Test.YtfnkokfkhjdkfaaDoorM12
import Derived.Test.YtfnkokfkhjdkfaaDoorM11
import Derived.Test.YtfnkokfkhjdkfaaDoorM3
import Derived.Test.YtfnkokfkhjdkfaaDoorM5
/-
  Contract of Split, of the package item: of boxes as Make tells them, and of what is no box.
-/
namespace Go.Proofs.YtfnkokfkhjdkfaaDoor
open Go.RowKit Go.Lib Go.Maps

theorem ItsAt.isAt {n₀ : Nat} {W : World} {v : Value} {its : List It} (h : ItsAt n₀ W v its) : IsAt W its v := by
  obtain ⟨A, cap, rfl, h1, h2, h3⟩ := h.form
  refine ⟨A, cap, rfl, h1, h2, fun h0 => ?_⟩
  obtain ⟨g, rfl⟩ := h3 h0
  refine ⟨g, 0, rfl, fun i hi j u hj => ?_⟩
  have hj9 : j < 9 := by
    have := (List.getElem?_eq_some_iff.1 hj).1
    rwa [itC_len] at this
  rw [Nat.zero_add, h.cell hi j hj9]
  exact hj
/-- An item that Split is asked of: no box, or a box as Make tells it. -/
def itOk (x : It) : Prop := x.codes.length ≤ 100000 ∧ (x.kind ≠ 1 ∨ (x = bxP x.font x.size x.link x.codes ∧ 0 ≤ x.size ∧ x.size ≤ 2147483648))
def splitL (wd : Int) : List It → List It × Int → List It × Int
  | [], p => p
  | x :: l, p => splitL wd l (if x.kind ≠ 1 then (p.1 ++ [x], wd) else if x.codes = [] then p else partL wd x.font x.size x.link (2 * x.codes.length + 2) x.codes p)
def wI : List It → Nat
  | [] => 0
  | x :: l => 4 * x.codes.length + 5 + wI l
theorem wI_drop {l : List It} {k : Nat} (h : k < l.length) : wI (l.drop k) = 4 * l[k].codes.length + 5 + wI (l.drop (k + 1)) := by rw [List.drop_eq_getElem_cons h, wI]
theorem split_drop {wd : Int} {l : List It} {k : Nat} {p : List It × Int} (h : k < l.length) : splitL wd (l.drop k) p = splitL wd (l.drop (k + 1)) (if l[k].kind ≠ 1 then (p.1 ++ [l[k]], wd) else if l[k].codes = [] then p else partL wd l[k].font l[k].size l[k].link (2 * l[k].codes.length + 2) l[k].codes p) := by rw [List.drop_eq_getElem_cons h, splitL]
/-- Where Split's loop stands. -/
structure SplAt (w0 wr : World) (B : Nat) (wd : Int) (l : List It) (k : Nat) (v : Value) (its : List It) (r : Int) : Prop where
  spl : Spl w0 wd wr B v its r
  eq : splitL wd (l.drop k) (its, r) = splitL wd l ([], wd)
  r0 : -217969590200000 ≤ r
  r1 : r ≤ wd
  few : its.length + wI (l.drop k) ≤ wI l
set_option maxRecDepth 100000 in
set_option maxHeartbeats 16000000 in
theorem split_any (l : List It) (lv : Value) (wd : Int) (w : World) (hA : IsAt w l lv) (hE : EnvI w) (hok : ∀ x ∈ l, itOk x) (h1 : 0 ≤ wd) (h2 : wd ≤ 4611686018427387904) (hw : wI l ≤ 900000) :
    Calls Tryd.prog 17 #[lv, .int .i64 wd] w fun e w' => ∃ v, e = .returned v ∧ ItsAt w.heap.size w' v (splitL wd l ([], wd)).1 ∧ Keeps w w' := by
  obtain ⟨A, cap, rfl, hc1, hc2, hg⟩ := hA
  unfold maxLen at hc2
  have HG := Lib.hid hg
  have HE := Lib.hid hE
  have HO := Lib.hid hok
  have RO := Lib.hid (fun W1 => roomOf_any wd W1 (by omega) (by omega))
  have CL := Lib.hid (fun s W1 h => clone_any s W1 h)
  have S0 := Lib.hid (fun w1 (k : Keeps w w1) => (⟨⟨Own.new w1 69 [.int .i64 wd, .int .i64 (wd / 18446744073709551616), .int .u64 (wd % 18446744073709551616)] k.size, k.alloc _⟩, rfl, by omega, Int.le_refl _, by show 0 + wI l ≤ wI l; omega⟩ : SplAt w (w1.alloc (.cells #[.slice none 0 0, .int .i64 wd, .int .i64 (wd / 18446744073709551616), .int .u64 (wd % 18446744073709551616)] 69)) w1.heap.size wd l 0 (.slice none 0 0) [] wd))
  obtain ⟨n, hn⟩ : ∃ n, l.length = n := ⟨_, rfl⟩
  have HN := Lib.hid hn
  rw [hn] at hc1 ⊢
  clear hg hE hok hn
  unfold roomV at RO
  go_enter Tryd.func17, Tryd.ntmps17
  go_wp2_with fail
  refine (RO.out _).mono ?_
  rintro e w1 ⟨rfl, k1⟩
  have A0 := Lib.hid (S0.out w1 k1)
  clear S0 k1
  go_wp2_with fail
  go_loopw [14] (fun y wr => ∃ (k : Nat) (v' : Value) (its' : List It) (r' : Int), k ≤ n ∧ y = .int .i64 k ∧ Hid (SplAt w wr w1.heap.size wd l k v' its' r')) (fun y _ => n - (RowKit.intOf y).toNat)
  case atStart => exact ⟨0, _, [], wd, Nat.zero_le _, rfl, A0⟩
  case round =>
    obtain ⟨k, v', its', r', hk, rfl, HS⟩ := hrel
    by_cases c : k < n
    · obtain ⟨g, o, rfl, hcell⟩ := HG.out (by rw [HN.out]; omega)
      have hk' : k < l.length := by rw [HN.out]; exact c
      have HR := range_same (hcell k hk') (HS.out.spl.keep.block g (range_lt (hcell k hk') (by rw [itC_len]; decide)))
      have hxo := HO.out l[k] (List.getElem_mem hk')
      have HD := split_drop (wd := wd) (p := (its', r')) hk'
      have HW := wI_drop hk'
      have hfew := HS.out.few
      rw [HW] at hfew
      rw [HS.out.eq] at HD
      clear hcell HW
      generalize l[k] = x at *
      obtain ⟨x1, x2, x3, x4, x5, c', x7, x8, x9⟩ := x
      unfold itOk at hxo
      simp only at hxo hfew HD
      obtain ⟨hcl, hxo⟩ := hxo
      obtain ⟨cs, hcs⟩ : ∃ cs : ByteArray, cs = ⟨c'.toArray⟩ := ⟨_, rfl⟩
      have HCS := Lib.hid hcs
      have hsz : cs.size ≤ 100000 := by rw [hcs]; show c'.toArray.size ≤ _; simp; exact hcl
      unfold itC at HR
      simp only at HR
      rw [← hcs] at HR
      clear hcs
      have y0 : wr.cell? ⟨g, o + k * 9, none⟩ = some (.int .i64 x1) := HR 0 _ rfl
      have y1 : wr.cell? ⟨g, o + k * 9 + 1, none⟩ = some (.int .i64 x2) := HR 1 _ rfl
      have y2 : wr.cell? ⟨g, o + k * 9 + 2, none⟩ = some (.int .i64 x3) := HR 2 _ rfl
      have y3 : wr.cell? ⟨g, o + k * 9 + 3, none⟩ = some (.int .i64 x4) := HR 3 _ rfl
      have y4 : wr.cell? ⟨g, o + k * 9 + 4, none⟩ = some (.int .i64 x5) := HR 4 _ rfl
      have y5 : wr.cell? ⟨g, o + k * 9 + 5, none⟩ = some (.string cs) := HR 5 _ rfl
      have y6 : wr.cell? ⟨g, o + k * 9 + 6, none⟩ = some (.int .i64 x7) := HR 6 _ rfl
      have y7 : wr.cell? ⟨g, o + k * 9 + 7, none⟩ = some (.int .i64 x8) := HR 7 _ rfl
      have y8 : wr.cell? ⟨g, o + k * 9 + 8, none⟩ = some (.int .i64 x9) := HR 8 _ rfl
      clear HR
      have hr0 := HS.out.r0
      have hr1 := HS.out.r1
      have hX0 : w.heap.size ≤ wr.heap.size := HS.out.spl.keep.size
      have HXB := Lib.hid (fun w2 (q : Keeps (wr.alloc (.cells #[.int .i64 x1, .int .i64 x2, .int .i64 x3, .int .i64 x4, .int .i64 x5, .string cs, .int .i64 x7, .int .i64 x8, .int .i64 x9] 42)) w2) => (Blk.new wr 42 #[.int .i64 x1, .int .i64 x2, .int .i64 x3, .int .i64 x4, .int .i64 x5, .string cs, .int .i64 x7, .int .i64 x8, .int .i64 x9]).keep q)
      have HNW := Lib.hid (HS.out.spl.new 42 #[.int .i64 x1, .int .i64 x2, .int .i64 x3, .int .i64 x4, .int .i64 x5, .string cs, .int .i64 x7, .int .i64 x8, .int .i64 x9])
      have HSP := Lib.hid (fun w2 (q : Keeps (wr.alloc (.cells #[.int .i64 x1, .int .i64 x2, .int .i64 x3, .int .i64 x4, .int .i64 x5, .string cs, .int .i64 x7, .int .i64 x8, .int .i64 x9] 42)) w2) => HS.out.spl.to (((Keeps.refl wr).alloc (.cells #[.int .i64 x1, .int .i64 x2, .int .i64 x3, .int .i64 x4, .int .i64 x5, .string cs, .int .i64 x7, .int .i64 x8, .int .i64 x9] 42)).trans q))
      have HRm := Lib.hid (fun v8 w8 its8 r8 (m8 : Spl w wd w8 w1.heap.size v8 its8 r8) (e8 : splitL wd (l.drop (k + 1)) (its8, r8) = splitL wd l ([], wd)) (a8 : -217969590200000 ≤ r8) (b8 : r8 ≤ wd) (f8 : its8.length ≤ its'.length + (4 * c'.length + 5)) => (⟨m8, e8, a8, b8, by omega⟩ : SplAt w w8 w1.heap.size wd l (k + 1) v8 its8 r8))
      have HF := Lib.hid hfew
      clear hfew HS A0
      have HDD := Lib.hid HD
      clear HD
      go_wp2_with fail
      refine (CL.out _ _ hsz).mono ?_
      rintro e w2 ⟨rfl, k2⟩
      have XA := HXB.out w2 k2
      have f5 := XA.free 5
      have g5 := XA.cell 5 (v := .string cs) rfl
      have XB := XA.set 5 (.string cs) rfl
      have M3 := Lib.hid ((HSP.out w2 k2).only ((OnlyX.refl wr.heap.size w2).set 5 (.string cs)) (HNW.out.keep k2).box (HNW.out.keep k2).row hX0)
      have z0 := XB.cell 0 (v := .int .i64 x1) rfl
      have z1 := XB.cell 1 (v := .int .i64 x2) rfl
      have z2 := XB.cell 2 (v := .int .i64 x3) rfl
      have z3 := XB.cell 3 (v := .int .i64 x4) rfl
      have z4 := XB.cell 4 (v := .int .i64 x5) rfl
      have z5 := XB.cell 5 (v := .string cs) rfl
      have z6 := XB.cell 6 (v := .int .i64 x7) rfl
      have z7 := XB.cell 7 (v := .int .i64 x8) rfl
      have z8 := XB.cell 8 (v := .int .i64 x9) rfl
      clear XA XB k2 HXB HSP HNW y0 y1 y2 y3 y4 y5 y6 y7 y8
      generalize hw3 : w2.setCell ⟨wr.heap.size, 5, none⟩ (.string cs) = w3 at *
      by_cases hkd : x1 = 1
      · subst hkd
        rcases hxo with hxo | ⟨hxe, hs1, hs2⟩
        · exact absurd rfl hxo
        · unfold bxP at hxe
          simp only [It.mk.injEq, true_and, and_true] at hxe
          obtain ⟨e2, e3, e4, e5⟩ := hxe
          subst e2 e3 e4 e5
          by_cases hnil : c' = []
          · have ecs : cs = ⟨#[]⟩ := by rw [HCS.out, hnil]
            have HN2 := HDD.out
            rw [if_neg (by simp), if_pos hnil] at HN2
            have FIN := Lib.hid (HRm.out _ _ _ _ M3.out HN2.symm hr0 hr1 (by omega))
            clear HDD HRm HN2
            subst ecs
            go_wp2_with fail
            go_roundw
            case rel => exact ⟨k + 1, _, _, _, by omega, by go_num, FIN⟩
            case measure => simp only [RowKit.intOf]; omega
          · have te : cs.toList.isEmpty = false := by rw [List.isEmpty_eq_false_iff, Lib.toList_data, HCS.out]; exact hnil
            have CB := Lib.hid (sbox_any x7 x8 x9 c' M3.out HE.out hnil hcl hs1 hs2 h1 h2 hr0 hr1 (by have := HF.out; omega))
            have PL := part_len (f := x7) (lk := x9) hs1 hs2 h1 (2 * c'.length + 2) c' (its', r') hcl hr0 hr1
            have HN2 := HDD.out
            rw [if_neg (by simp), if_neg hnil] at HN2
            rw [← HCS.out] at CB
            generalize partL wd x7 x8 x9 (2 * c'.length + 2) c' (its', r') = pp at *
            obtain ⟨pi, pq⟩ := pp
            simp only at PL CB
            have FIN := Lib.hid (fun v8 w8 (m8 : Spl w wd w8 w1.heap.size v8 pi pq) => HRm.out v8 w8 pi pq m8 HN2.symm PL.2.1 PL.2.2 (by have := PL.1; omega))
            clear HDD HRm HN2 PL
            generalize runL x7 x8 c' = d at *
            go_wp2_with fail
            refine CB.out.mono ?_
            rintro e w8 ⟨rfl, v8, m8, q8⟩
            have FIN2 := Lib.hid (FIN.out v8 w8 m8)
            clear m8 q8
            go_wp2_with fail
            go_roundw
            case rel => exact ⟨k + 1, _, _, _, by omega, by go_num, FIN2⟩
            case measure => simp only [RowKit.intOf]; omega
      · have t1 : (x1 == 1) = false := beqF hkd
        have CO := Lib.hid (other_any ⟨x1, x2, x3, x4, x5, c', x7, x8, x9⟩ M3.out (by have := HF.out; omega) (by omega) (by omega))
        unfold itV at CO
        simp only at CO
        rw [← HCS.out] at CO
        have HN2 := HDD.out
        rw [if_pos hkd] at HN2
        have FIN := Lib.hid (fun v8 w8 m8 => HRm.out v8 w8 _ _ m8 HN2.symm (by omega) (Int.le_refl _) (by simp only [List.length_append, List.length_singleton]; omega))
        clear HDD HRm HN2
        go_wp2_with fail
        refine CO.out.mono ?_
        rintro e w8 ⟨rfl, v8, m8, q8⟩
        have FIN2 := Lib.hid (FIN.out v8 w8 m8)
        clear m8 q8
        go_wp2_with fail
        go_roundw
        case rel => exact ⟨k + 1, _, _, _, by omega, by go_num, FIN2⟩
        case measure => simp only [RowKit.intOf]; omega
    · have e : k = n := by omega
      subst e
      have c0 := HS.out.spl.own.box.cell 0 (v := v') rfl
      obtain ⟨A2, cap2, rfl, _, _⟩ := row_form HS.out.spl.own.row
      have EQ := HS.out.eq
      rw [List.drop_of_length_le (Nat.le_of_eq HN.out), splitL] at EQ
      have FIN := Lib.hid (show ItsAt w.heap.size wr (.slice A2 its'.length cap2) (splitL wd l ([], wd)).1 by rw [← EQ]; exact HS.out.spl.own.row)
      have KK := Lib.hid HS.out.spl.keep
      clear EQ
      go_wp2_with fail
      go_ret
      exact ⟨_, rfl, FIN.out, KK.out⟩
end Go.Proofs.YtfnkokfkhjdkfaaDoor

/-
  What follows of Split: what stands between places where a line may end has room; no code is lost.
-/
namespace Go.Proofs.YtfnkokfkhjdkfaaDoor
open Go.RowKit Go.Lib

/-- How wide the boxes since the last item that is none are. -/
def usedL : Int → List It → Int
  | u, [] => u
  | u, x :: l => usedL (if x.kind ≠ 1 then 0 else u + x.width) l
def fitsOk (wd : Int) : Int → List It → Prop
  | _, [] => True
  | u, x :: l => ((x.kind ≠ 1 ∧ 0 ≤ x.width ∧ x.width ≤ 2179695902) ∨ (x.kind = 1 ∧ u + x.width ≤ wd ∧ 0 ≤ x.width ∧ x.codes ≠ [] ∧ x.width = runL x.font x.size x.codes ∧ 0 ≤ x.size ∧ x.size ≤ 2147483648 ∧ x.codes.length ≤ 100000)) ∧ fitsOk wd (if x.kind ≠ 1 then 0 else u + x.width) l
theorem used_app : ∀ (a b : List It) (u : Int), usedL u (a ++ b) = usedL (usedL u a) b
  | [], b, u => rfl
  | x :: a, b, u => by rw [List.cons_append, usedL, usedL, used_app a b]
theorem fits_app (wd : Int) : ∀ (a b : List It) (u : Int), fitsOk wd u (a ++ b) ↔ fitsOk wd u a ∧ fitsOk wd (usedL u a) b
  | [], b, u => by simp [fitsOk, usedL]
  | x :: a, b, u => by rw [List.cons_append, fitsOk, fitsOk, usedL, fits_app wd a b, and_assoc]
def catL (l : List It) : List UInt8 := l.flatMap It.codes
theorem cat_app (a b : List It) : catL (a ++ b) = catL a ++ catL b := List.flatMap_append
/-- Where Split stands: all so far has room, r is left. -/
def FitAt (wd : Int) (p : List It × Int) : Prop := fitsOk wd 0 p.1 ∧ usedL 0 p.1 = wd - p.2
theorem FitAt.other {wd : Int} {p : List It × Int} (h : FitAt wd p) {x : It} (hx : x.kind ≠ 1) (hw0 : 0 ≤ x.width) (hw1 : x.width ≤ 2179695902) : FitAt wd (p.1 ++ [x], wd) := by
  obtain ⟨h1, h2⟩ := h
  refine ⟨(fits_app wd _ _ _).2 ⟨h1, .inl ⟨hx, hw0, hw1⟩, trivial⟩, ?_⟩
  show usedL 0 (p.1 ++ [x]) = wd - wd
  rw [used_app, usedL, if_pos hx, usedL]
  omega
theorem FitAt.box {wd : Int} {p : List It × Int} (h : FitAt wd p) {f sz lk : Int} {c : List UInt8} (hc : c ≠ []) (hr : runL f sz c ≤ p.2) (s1 : 0 ≤ sz) (s2 : sz ≤ 2147483648) (hl : c.length ≤ 100000) : FitAt wd (p.1 ++ [bxP f sz lk c], p.2 - runL f sz c) := by
  obtain ⟨h1, h2⟩ := h
  refine ⟨(fits_app wd _ _ _).2 ⟨h1, .inr ⟨rfl, ?_, run_nonneg s1 c, hc, rfl, s1, s2, hl⟩, trivial⟩, ?_⟩
  · rw [h2]
    show wd - p.2 + runL f sz c ≤ wd
    omega
  · show usedL 0 (p.1 ++ [bxP f sz lk c]) = wd - (p.2 - runL f sz c)
    rw [used_app, usedL, if_neg (by simp [bxP]), usedL, h2]
    show wd - p.2 + runL f sz c = _
    omega
/-- What fits has room, where each code has room alone. -/
theorem fit_run {wd f sz : Int} {c : List UInt8} {r : Int} (hs : 0 ≤ sz) (hc : c ≠ []) (hw : advL f sz (c.headD 0).toNat ≤ wd) (h0 : -9223372036854775808 ≤ r) (h1 : r ≤ wd) (h2 : wd ≤ 9223372036854775807) (hk : fitN wd f sz c r ≠ 0) : runL f sz (c.take (fitN wd f sz c r)) ≤ r := by
  have hwr : wordR r = r := by unfold wordR; rw [if_pos (by omega)]
  have one : runL f sz (c.take 1) = advL f sz (c.headD 0).toNat := by
    cases c with
    | nil => exact absurd rfl hc
    | cons b l => simp [runL]
  unfold fitN at hk ⊢
  split at hk
  · exact absurd rfl hk
  · rename_i hq
    rw [if_neg hq]
    rw [hwr] at hq ⊢
    have hadv : advL f sz (c.headD 0).toNat ≤ r := by
      by_cases e : r = wd
      · rw [e]; exact hw
      · have : ¬ r < advL f sz (c.headD 0).toNat := fun x => hq ⟨e, x⟩
        omega
    obtain ⟨_, c2, c3, _⟩ := cut_spec (f := f) (size := sz) (width := r) hs c
    have := c2 hc
    rcases c3 with c3 | c3
    · have e : cutL f sz r c = 1 := by omega
      rw [e, one]; exact hadv
    · exact c3
theorem part_fits {wd f sz lk : Int} (hs : 0 ≤ sz) (hz : sz ≤ 2147483648) (hall : ∀ b : UInt8, advL f sz b.toNat ≤ wd) (h2 : wd ≤ 4611686018427387904) (hw0 : 0 ≤ wd) : ∀ (n : Nat) (c : List UInt8) (p : List It × Int), c ≠ [] → c.length ≤ 100000 → -217969590200000 ≤ p.2 → p.2 ≤ wd → FitAt wd p → 2 * c.length + (if p.2 = wd then 0 else 1) < n →
    FitAt wd (partL wd f sz lk n c p) ∧ catL (partL wd f sz lk n c p).1 = catL p.1 ++ c
  | 0, c, p, _, _, _, _, _, hn => by omega
  | n + 1, c, p, hc, hcl, h0, h1, hF, hn => by
    have one : catL [bxP f sz lk c] = c := by simp [catL, bxP]
    by_cases a1 : runL f sz c ≤ p.2
    · rw [part_stand a1]
      exact ⟨hF.box hc a1 hs hz hcl, by simp only; rw [cat_app, one]⟩
    · by_cases a2 : fitN wd f sz c p.2 = 0
      · rw [part_none a1 a2]
        have hrw : p.2 ≠ wd := fun e => by have := fit_full (wd := wd) (f := f) (sz := sz) hc; rw [← e] at this; rw [e] at this a2; omega
        rw [if_neg hrw] at hn
        have := part_fits (f := f) (lk := lk) hs hz hall h2 hw0 n c (p.1 ++ [itPen 0], wd) hc hcl (by simp only; omega) (Int.le_refl _) (hF.other (x := itPen 0) (by simp [itPen]) (Int.le_refl _) (by simp [itPen])) (by simp only [if_pos]; omega)
        refine ⟨this.1, ?_⟩
        rw [this.2]
        simp only
        rw [cat_app]
        simp [catL, itPen]
      · have hfit := fit_run (f := f) hs hc (hall _) (by omega) h1 (by omega) a2
        have hle := fit_le wd f sz c p.2
        generalize hk : fitN wd f sz c p.2 = k at *
        have ht : c.take k ≠ [] := fun e => by
          have q1 := congrArg List.length e
          have q2 := List.length_pos_iff.2 hc
          rw [List.length_take, List.length_nil] at q1
          omega
        have onet : catL [bxP f sz lk (c.take k)] = c.take k := by simp [catL, bxP]
        have hB := hF.box (lk := lk) ht hfit hs hz (by rw [List.length_take]; omega)
        by_cases a3 : c.drop k = []
        · rw [part_last a1 (by rw [hk]; exact a2) (by rw [hk]; exact a3), hk]
          refine ⟨hB, ?_⟩
          simp only
          rw [cat_app, onet]
          have := List.take_append_drop k c
          rw [a3, List.append_nil] at this
          rw [this]
        · rw [part_more a1 (by rw [hk]; exact a2) (by rw [hk]; exact a3), hk]
          have := part_fits (f := f) (lk := lk) hs hz hall h2 hw0 n (c.drop k) ((p.1 ++ [bxP f sz lk (c.take k)]) ++ [itPen 0], wd) a3 (by rw [List.length_drop]; omega) (by simp only; omega) (Int.le_refl _) (hB.other (x := itPen 0) (by simp [itPen]) (Int.le_refl _) (by simp [itPen])) (by simp only [if_pos]; rw [List.length_drop]; split at hn <;> omega)
          refine ⟨this.1, ?_⟩
          rw [this.2]
          simp only
          rw [cat_app, cat_app, onet]
          simp only [catL, itPen, List.flatMap_cons, List.flatMap_nil, List.append_nil, List.append_assoc]
          rw [List.take_append_drop]
/-- Items as Make tells them, of that size. -/
def mkOk (n : Int) (x : It) : Prop := (x.kind ≠ 1 ∧ x.codes = [] ∧ 0 ≤ x.width ∧ x.width ≤ 2179695902) ∨ (x = bxP x.font n x.link x.codes ∧ x.codes ≠ [])
theorem split_fits {wd sz : Int} (hs : 0 ≤ sz) (hz : sz ≤ 2147483648) (hall : ∀ (f : Int) (b : UInt8), advL f sz b.toNat ≤ wd) (h2 : wd ≤ 4611686018427387904) (hw0 : 0 ≤ wd) : ∀ (l : List It) (p : List It × Int), (∀ x ∈ l, mkOk sz x ∧ x.codes.length ≤ 100000) → -217969590200000 ≤ p.2 → p.2 ≤ wd → FitAt wd p →
    FitAt wd (splitL wd l p) ∧ catL (splitL wd l p).1 = catL p.1 ++ catL l
  | [], p, _, _, _, hF => by rw [splitL]; exact ⟨hF, by simp [catL]⟩
  | x :: l, p, hx, h0, h1, hF => by
    obtain ⟨hm, hcl⟩ := hx x (List.mem_cons_self ..)
    have hl := fun y hy => hx y (List.mem_cons_of_mem _ hy)
    rw [splitL]
    rcases hm with ⟨hk, hnil, hm0, hm1⟩ | ⟨he, hne⟩
    · rw [if_pos hk]
      have := split_fits hs hz hall h2 hw0 l (p.1 ++ [x], wd) hl (by simp only; omega) (Int.le_refl _) (hF.other hk hm0 hm1)
      refine ⟨this.1, ?_⟩
      rw [this.2]
      simp only
      rw [cat_app]
      simp [catL, hnil]
    · have hk1 : x.kind = 1 := by rw [he]; rfl
      have hsz : x.size = sz := by rw [he]; rfl
      rw [if_neg (by rw [hk1]; simp), if_neg hne, hsz]
      have hpl := part_len (f := x.font) (lk := x.link) hs hz hw0 (2 * x.codes.length + 2) x.codes p hcl h0 h1
      have hpf := part_fits (f := x.font) (lk := x.link) hs hz (hall x.font) h2 hw0 (2 * x.codes.length + 2) x.codes p hne hcl h0 h1 hF (by split <;> omega)
      have := split_fits hs hz hall h2 hw0 l _ hl hpl.2.1 hpl.2.2 hpf.1
      refine ⟨this.1, ?_⟩
      rw [this.2, hpf.2]
      simp [catL]
/-! ### Make's items are of that kind -/
def Mk (sz : Int) (l : List It) : Prop := ∀ x ∈ l, mkOk sz x
theorem Mk.snoc {sz : Int} {l : List It} {x : It} (h : Mk sz l) (hx : mkOk sz x) : Mk sz (l ++ [x]) := fun y hy => by
  rcases List.mem_append.1 hy with hy | hy
  · exact h y hy
  · rw [List.mem_singleton] at hy; subst hy; exact hx
theorem Mk.dropG {sz : Int} {l : List It} (h : Mk sz l) : Mk sz (dropG l) := by
  unfold Go.Proofs.YtfnkokfkhjdkfaaDoor.dropG
  split
  · exact fun y hy => h y (List.dropLast_subset l hy)
  · exact h
theorem Mk.glue {sz : Int} {s : Sty} {l : List It} (h : Mk sz l) (s1 : 0 ≤ sz) (s2 : sz ≤ 2147483648) : Mk sz (glueP sz s l) := by
  unfold glueP
  split
  · exact h.snoc (.inl ⟨by simp [itGlue], rfl, adv_nonneg (by decide) s1, adv_le (by decide) s1 s2⟩)
  · exact h
theorem Mk.brk {sz : Int} {l : List It} (h : Mk sz l) : Mk sz (brkP l) := by
  unfold brkP
  split
  · exact h.dropG.snoc (.inl ⟨by simp [itPen], rfl, Int.le_refl _, by simp [itPen]⟩)
  · exact h.dropG
theorem Mk.word {sz : Int} {s : Sty} {t : List UInt8} {l : List It} (h : Mk sz l) : Mk sz (wordP sz s t l) := by
  unfold wordP
  split
  · exact h
  · rename_i hn
    exact h.snoc (.inr ⟨rfl, by show codesL t ≠ []; rw [codesL_step t hn]; simp⟩)
theorem Mk.txt {sz : Int} {s : Sty} (s1 : 0 ≤ sz) (s2 : sz ≤ 2147483648) : ∀ (t cur : List UInt8) {l : List It}, Mk sz l → Mk sz (txtP sz s cur t l)
  | [], cur, l, h => by rw [txtP]; exact h.word
  | b :: t, cur, l, h => by
    rw [txtP]
    split
    · exact Mk.txt s1 s2 t [] (h.word.glue s1 s2)
    · exact Mk.txt s1 s2 t (cur ++ [b]) h
mutual
theorem Mk.spn {sz : Int} (s1 : 0 ≤ sz) (s2 : sz ≤ 2147483648) : ∀ (x : St) (s : Sty) (p : List It × Int), Mk sz p.1 → Mk sz (spnP sz x s p).1
  | .mk k t _ _ ks, s, p, h => by
    rw [spnP]
    repeat' split
    all_goals first
      | exact Mk.txt s1 s2 t [] h
      | exact h.glue s1 s2
      | exact h.brk
      | exact Mk.spns s1 s2 ks _ _ h
      | exact h
theorem Mk.spns {sz : Int} (s1 : 0 ≤ sz) (s2 : sz ≤ 2147483648) : ∀ (l : List St) (s : Sty) (p : List It × Int), Mk sz p.1 → Mk sz (spnsP sz l s p).1
  | [], s, p, h => by rw [spnsP]; exact h
  | x :: l, s, p, h => by
    rw [spnsP]
    exact Mk.spns s1 s2 l s _ (Mk.spn s1 s2 x s p h)
end
theorem Mk.make {sz f lk : Int} (s1 : 0 ≤ sz) (s2 : sz ≤ 2147483648) (l : List St) : Mk sz (makeL l f sz lk).1 := by
  unfold makeL
  exact (Mk.spns s1 s2 l _ _ (fun x hx => by cases hx)).dropG
end Go.Proofs.YtfnkokfkhjdkfaaDoor

/-
  How many codes items of spans have; contract of the document's Run.
-/
namespace Go.Proofs.YtfnkokfkhjdkfaaDoor
open Go.RowKit Go.Lib

theorem cat_drop (l : List It) : (catL (dropG l)).length ≤ (catL l).length := by
  unfold dropG
  split
  · rename_i h
    rcases List.eq_nil_or_concat l with rfl | ⟨m, x, rfl⟩
    · simp
    · rw [List.concat_eq_append, List.dropLast_concat, cat_app, List.length_append]; omega
  · exact Nat.le_refl _
theorem cat_glue (sz : Int) (s : Sty) (l : List It) : (catL (glueP sz s l)).length = (catL l).length := by
  unfold glueP
  split
  · rw [cat_app]; simp [catL, itGlue]
  · rfl
theorem cat_brk (l : List It) : (catL (brkP l)).length ≤ (catL l).length := by
  have := cat_drop l
  unfold brkP
  split
  · rw [cat_app]; simp [catL, itPen] at *; exact this
  · exact this
theorem cat_word (sz : Int) (s : Sty) (t : List UInt8) (l : List It) : (catL (wordP sz s t l)).length ≤ (catL l).length + t.length := by
  unfold wordP
  split
  · omega
  · rw [cat_app, List.length_append]
    have := codes_le t
    have e : catL [itBox sz s (codesL t)] = codesL t := by simp [catL, itBox]
    rw [e]; omega
theorem cat_txt (sz : Int) (s : Sty) : ∀ (t cur : List UInt8) (l : List It), (catL (txtP sz s cur t l)).length ≤ (catL l).length + cur.length + t.length
  | [], cur, l => by
    have := cat_word sz s cur l
    rw [txtP]; omega
  | b :: t, cur, l => by
    have h1 := cat_txt sz s t [] (glueP sz s (wordP sz s cur l))
    have h2 := cat_txt sz s t (cur ++ [b]) l
    rw [cat_glue] at h1
    have h3 := cat_word sz s cur l
    rw [txtP, List.length_cons]
    split
    · simp only [List.length_nil] at h1; omega
    · rw [List.length_append, List.length_singleton] at h2; omega
mutual
theorem cat_spn (sz : Int) : ∀ (x : St) (s : Sty) (p : List It × Int), (catL (spnP sz x s p).1).length ≤ (catL p.1).length + wS x
  | .mk k t _ _ ks, s, p => by
    have a1 := cat_txt sz s t [] p.1
    have a2 := cat_txt sz { s with font := 4 } t [] p.1
    have a3 := cat_glue sz s p.1
    have a4 := cat_brk p.1
    have b1 := cat_spns sz ks { s with font := slF s.font } p
    have b2 := cat_spns sz ks { s with font := bdF s.font } p
    have b3 := cat_spns sz ks s p
    have b4 := cat_spns sz ks { s with link := p.2 } (p.1, p.2 + 1)
    have b5 := cat_spns sz ks { s with image := true } p
    simp only [List.length_nil] at a1 a2 b4
    rw [spnP, wS]
    repeat' split
    all_goals first | omega | (simp only; omega)
theorem cat_spns (sz : Int) : ∀ (l : List St) (s : Sty) (p : List It × Int), (catL (spnsP sz l s p).1).length ≤ (catL p.1).length + wL l
  | [], s, p => by rw [spnsP, wL]; omega
  | x :: l, s, p => by
    have h1 := cat_spn sz x s p
    have h2 := cat_spns sz l s (spnP sz x s p)
    rw [spnsP, wL]; omega
end
theorem cat_make (f sz lk : Int) (l : List St) : (catL (makeL l f sz lk).1).length ≤ wL l := by
  have h1 := cat_spns sz l ⟨f, 0, false⟩ ([], lk)
  have h2 := cat_drop (spnsP sz l ⟨f, 0, false⟩ ([], lk)).1
  unfold makeL
  simp only [catL, List.flatMap_nil, List.length_nil] at h1 h2 ⊢
  omega
theorem wI_cat : ∀ l : List It, wI l = 4 * (catL l).length + 5 * l.length
  | [] => rfl
  | x :: l => by
    rw [wI, wI_cat l]
    have e : catL (x :: l) = x.codes ++ catL l := by simp [catL]
    rw [e, List.length_append, List.length_cons]; omega
set_option maxRecDepth 100000 in
theorem rrun_any (f size : Int) (s : ByteArray) (w : World) (hs : s.size ≤ 100000) (h1 : 0 ≤ size) (h2 : size ≤ 2147483648) (hF : FntR w) :
    Calls Tryd.prog 43 #[.int .i64 f, .int .i64 size, .string s] w fun e w' => e = .returned (.int .i64 (runL f size s.data.toList)) ∧ w = w' := by
  have hl := Lib.hid (bytes_len s)
  have AD := Lib.hid (fun c hc W h => radv_any f size c hc W (by omega) h2 h)
  have HF := Lib.hid hF
  have H1 := Lib.hid h1
  have H2 := Lib.hid h2
  clear hF h1 h2
  go_enter Tryd.func43, Tryd.ntmps43
  go_wp2_with fail
  go_loop [7, 8] (fun acc i => ∃ (k : Nat) (u : Int), k ≤ s.size ∧ i = .int .i64 k ∧ acc = .int .i64 u ∧ Hid (u = runL f size (s.data.toList.take k)) ∧ 0 ≤ u ∧ u ≤ 2179695902 * k) (fun _ i => s.size - (RowKit.intOf i).toNat)
  case atStart => exact ⟨0, 0, Nat.zero_le _, rfl, rfl, Lib.hid rfl, by omega, by omega⟩
  case round =>
    obtain ⟨k, u, hp, rfl, rfl, HU, u0, u1⟩ := hrel
    by_cases c : k < s.size
    · have hb := s[k].toNat_lt
      have HT := Lib.hid (AD.out s[k].toNat hb w HF.out)
      have a0 := adv_nonneg (f := f) hb H1.out
      have a1 := adv_le (f := f) hb H1.out H2.out
      have HN := Lib.hid (run_next (f := f) (size := size) (k := k) (by have := hl.out; omega) HU.out)
      have HG : Hid (advL f size s.data.toList[k].toNat = advL f size s[k].toNat) := Lib.hid rfl
      generalize advL f size s[k].toNat = d at *
      go_wp2_with fail
      refine HT.out.mono ?_
      rintro e W0 ⟨rfl, rfl⟩
      go_wp2_with fail
      go_round
      case rel => exact ⟨k + 1, u + d, by omega, by go_num, rfl, by have e := HN.out; rw [HG.out] at e; exact Lib.hid e, by omega, by omega⟩
      case measure => simp [RowKit.intOf]; omega
    · have HE : Hid (u = runL f size s.data.toList) := by
        have e := HU.out
        rw [List.take_of_length_le (by have := hl.out; omega)] at e
        exact Lib.hid e
      go_wp2_with fail
      go_ret
      exact ⟨ret_int HE.out, rfl⟩
end Go.Proofs.YtfnkokfkhjdkfaaDoor

/-
  What stands between ends has room, item by item. No program in sight.
-/
namespace Go.Proofs.YtfnkokfkhjdkfaaDoor
open Go.RowKit Go.Lib Go.Maps

theorem adv_two {f sz : Int} {c : Nat} (hs : 4000 ≤ sz) (hc : c < 256) : advL f sz c ≤ 2 * sz := by
  have h := mul_range (f := f) hc (show (0 : Int) ≤ sz by omega)
  rw [adv_div hc (by omega)]
  omega
theorem fits_range {wd : Int} : ∀ (l : List It) (u : Int), fitsOk wd u l → 0 ≤ u → u ≤ wd → 0 ≤ usedL u l ∧ usedL u l ≤ wd
  | [], u, _, h1, h2 => ⟨h1, h2⟩
  | x :: l, u, h, h1, h2 => by
    rw [usedL]
    refine fits_range l _ h.2 ?_ ?_
    · rcases h.1 with ⟨hk, _, _⟩ | ⟨hk, _, h3, _⟩
      · rw [if_pos hk]; exact Int.le_refl _
      · rw [if_neg (by rw [hk]; simp)]; omega
    · rcases h.1 with ⟨hk, _, _⟩ | ⟨hk, h3, _, _⟩
      · rw [if_pos hk]; omega
      · rw [if_neg (by rw [hk]; simp)]; exact h3
/-- What holds of the item at a place. -/
theorem fits_at {wd : Int} {b : List It} (h : fitsOk wd 0 b) (h0 : 0 ≤ wd) {i : Nat} (hi : i < b.length) : (0 ≤ usedL 0 (b.take i) ∧ usedL 0 (b.take i) ≤ wd) ∧ ((b[i].kind ≠ 1 ∧ 0 ≤ b[i].width ∧ b[i].width ≤ 2179695902) ∨ (b[i].kind = 1 ∧ usedL 0 (b.take i) + b[i].width ≤ wd ∧ 0 ≤ b[i].width ∧ b[i].codes ≠ [] ∧ b[i].width = runL b[i].font b[i].size b[i].codes ∧ 0 ≤ b[i].size ∧ b[i].size ≤ 2147483648 ∧ b[i].codes.length ≤ 100000)) := by
  have e := List.take_append_drop i b
  rw [List.drop_eq_getElem_cons hi] at e
  rw [← e] at h
  obtain ⟨h1, h2⟩ := (fits_app wd _ _ _).1 h
  exact ⟨fits_range _ _ h1 (Int.le_refl _) h0, h2.1⟩
theorem used_next {b : List It} {i : Nat} (hi : i < b.length) : usedL 0 (b.take (i + 1)) = if b[i].kind ≠ 1 then 0 else usedL 0 (b.take i) + b[i].width := by
  rw [List.take_succ_eq_append_getElem hi, used_app, usedL, usedL]
theorem cat_next {b : List It} {i : Nat} (hi : i < b.length) : catL (b.take (i + 1)) = catL (b.take i) ++ b[i].codes := by
  rw [List.take_succ_eq_append_getElem hi, cat_app]
  simp [catL]
theorem cat_take (b : List It) (i : Nat) : (catL (b.take i)).length ≤ (catL b).length := by
  have e := List.take_append_drop i b
  have h := cat_app (b.take i) (b.drop i)
  rw [e] at h
  rw [h, List.length_append]; omega
theorem cat_at {b : List It} {i : Nat} (hi : i < b.length) : (catL (b.take i)).length + b[i].codes.length ≤ (catL b).length := by
  have := cat_take b (i + 1)
  rwa [cat_next hi, List.length_append] at this
end Go.Proofs.YtfnkokfkhjdkfaaDoor

/-
  What Split tells of what Make told parts into lines. No program in sight.
-/
namespace Go.Proofs.YtfnkokfkhjdkfaaDoor
open Go.RowKit Go.Lib

/-! ### Each item -/
def Pm (x : It) : Prop := PlIt x ∧ (x.kind = 3 → x.cost < 10000)
theorem Pm.box {f sz lk : Int} {c : List UInt8} (hs : 0 ≤ sz) : Pm (bxP f sz lk c) :=
  ⟨⟨.inl rfl, fun _ => ⟨run_nonneg hs c, rfl, rfl⟩, fun h => (by cases h), fun h => by cases h⟩, fun h => by cases h⟩
theorem Pm.pen {c : Int} (hc : c < 10000) : Pm (itPen c) :=
  ⟨⟨.inr (.inr rfl), fun h => (by cases h), fun h => (by cases h), fun _ => ⟨rfl, rfl, rfl⟩⟩, fun _ => hc⟩
theorem Pm.glu {sz : Int} (s : Sty) (h1 : 4000 ≤ sz) (h2 : sz ≤ 2147483648) : Pm (itGlue sz s) := by
  have hw : 3 ≤ advL s.font sz 32 := glue_wide s h1 h2
  refine ⟨⟨.inr (.inl rfl), fun h => (by cases h), fun _ => ?_, fun h => by cases h⟩, fun h => by cases h⟩
  show 3 ≤ advL s.font sz 32 ∧ 1 ≤ (advL s.font sz 32).tdiv 2 ∧ 0 ≤ (advL s.font sz 32).tdiv 3 ∧ (advL s.font sz 32).tdiv 3 < advL s.font sz 32 ∧ (advL s.font sz 32).tdiv 2 ≤ advL s.font sz 32
  rw [Int.tdiv_eq_ediv_of_nonneg (by omega), Int.tdiv_eq_ediv_of_nonneg (by omega)]
  omega
def Pa (l : List It) : Prop := ∀ x ∈ l, Pm x
theorem Pa.snoc {l : List It} {x : It} (h : Pa l) (hx : Pm x) : Pa (l ++ [x]) := fun y hy => by
  rcases List.mem_append.1 hy with hy | hy
  · exact h y hy
  · rw [List.mem_singleton] at hy; subst hy; exact hx
theorem Pa.dropG {l : List It} (h : Pa l) : Pa (dropG l) := by
  unfold Go.Proofs.YtfnkokfkhjdkfaaDoor.dropG
  split
  · exact fun y hy => h y (List.dropLast_subset l hy)
  · exact h
theorem Pa.glue {sz : Int} {s : Sty} {l : List It} (h : Pa l) (s1 : 4000 ≤ sz) (s2 : sz ≤ 2147483648) : Pa (glueP sz s l) := by
  unfold glueP
  split
  · exact h.snoc (Pm.glu s s1 s2)
  · exact h
theorem Pa.brk {l : List It} (h : Pa l) : Pa (brkP l) := by
  unfold brkP
  split
  · exact h.dropG.snoc (Pm.pen (by omega))
  · exact h.dropG
theorem Pa.word {sz : Int} {s : Sty} {t : List UInt8} {l : List It} (h : Pa l) (s1 : 0 ≤ sz) : Pa (wordP sz s t l) := by
  unfold wordP
  split
  · exact h
  · exact h.snoc (Pm.box s1)
theorem Pa.txt {sz : Int} {s : Sty} (s1 : 4000 ≤ sz) (s2 : sz ≤ 2147483648) : ∀ (t cur : List UInt8) {l : List It}, Pa l → Pa (txtP sz s cur t l)
  | [], cur, l, h => by rw [txtP]; exact h.word (by omega)
  | b :: t, cur, l, h => by
    rw [txtP]
    split
    · exact Pa.txt s1 s2 t [] ((h.word (by omega)).glue s1 s2)
    · exact Pa.txt s1 s2 t (cur ++ [b]) h
mutual
theorem Pa.spn {sz : Int} (s1 : 4000 ≤ sz) (s2 : sz ≤ 2147483648) : ∀ (x : St) (s : Sty) (p : List It × Int), Pa p.1 → Pa (spnP sz x s p).1
  | .mk k t _ _ ks, s, p, h => by
    rw [spnP]
    repeat' split
    all_goals first
      | exact Pa.txt s1 s2 t [] h
      | exact h.glue s1 s2
      | exact h.brk
      | exact Pa.spns s1 s2 ks _ _ h
      | exact h
theorem Pa.spns {sz : Int} (s1 : 4000 ≤ sz) (s2 : sz ≤ 2147483648) : ∀ (l : List St) (s : Sty) (p : List It × Int), Pa p.1 → Pa (spnsP sz l s p).1
  | [], s, p, h => by rw [spnsP]; exact h
  | x :: l, s, p, h => by
    rw [spnsP]
    exact Pa.spns s1 s2 l s _ (Pa.spn s1 s2 x s p h)
end
theorem Pa.make {sz f lk : Int} (s1 : 4000 ≤ sz) (s2 : sz ≤ 2147483648) (l : List St) : Pa (makeL l f sz lk).1 := by
  unfold makeL
  exact (Pa.spns s1 s2 l _ _ (fun x hx => by cases hx)).dropG
/-! ### Penalties at the end: a new line alone -/
def Pz (l : List It) : Prop := ∀ x ∈ l, x.kind = 3 → x.cost = -10000
theorem Pz.snoc {l : List It} {x : It} (h : Pz l) (hx : x.kind = 3 → x.cost = -10000) : Pz (l ++ [x]) := fun y hy => by
  rcases List.mem_append.1 hy with hy | hy
  · exact h y hy
  · rw [List.mem_singleton] at hy; subst hy; exact hx
theorem Pz.dropG {l : List It} (h : Pz l) : Pz (dropG l) := by
  unfold Go.Proofs.YtfnkokfkhjdkfaaDoor.dropG
  split
  · exact fun y hy => h y (List.dropLast_subset l hy)
  · exact h
theorem Pz.glue {sz : Int} {s : Sty} {l : List It} (h : Pz l) : Pz (glueP sz s l) := by
  unfold glueP
  split
  · exact h.snoc (fun q => by cases q)
  · exact h
theorem Pz.brk {l : List It} (h : Pz l) : Pz (brkP l) := by
  unfold brkP
  split
  · exact h.dropG.snoc (fun _ => rfl)
  · exact h.dropG
theorem Pz.word {sz : Int} {s : Sty} {t : List UInt8} {l : List It} (h : Pz l) : Pz (wordP sz s t l) := by
  unfold wordP
  split
  · exact h
  · exact h.snoc (fun q => by cases q)
theorem Pz.txt {sz : Int} {s : Sty} : ∀ (t cur : List UInt8) {l : List It}, Pz l → Pz (txtP sz s cur t l)
  | [], cur, l, h => by rw [txtP]; exact h.word
  | b :: t, cur, l, h => by
    rw [txtP]
    split
    · exact Pz.txt t [] h.word.glue
    · exact Pz.txt t (cur ++ [b]) h
mutual
theorem Pz.spn {sz : Int} : ∀ (x : St) (s : Sty) (p : List It × Int), Pz p.1 → Pz (spnP sz x s p).1
  | .mk k t _ _ ks, s, p, h => by
    rw [spnP]
    repeat' split
    all_goals first
      | exact Pz.txt t [] h
      | exact h.glue
      | exact h.brk
      | exact Pz.spns ks _ _ h
      | exact h
theorem Pz.spns {sz : Int} : ∀ (l : List St) (s : Sty) (p : List It × Int), Pz p.1 → Pz (spnsP sz l s p).1
  | [], s, p, h => by rw [spnsP]; exact h
  | x :: l, s, p, h => by
    rw [spnsP]
    exact Pz.spns l s _ (Pz.spn x s p h)
end
theorem Pz.make {sz f lk : Int} (l : List St) : Pz (makeL l f sz lk).1 := by
  unfold makeL
  exact (Pz.spns l _ _ (fun x hx => by cases hx)).dropG
/-! ### Split keeps it -/
def Bk (l : List It) : Prop := ∀ i (h : i < l.length), l[i].kind ≠ 1 → 0 < i ∧ ∃ y, l[i - 1]? = some y ∧ y.kind = 1
theorem Bk.snoc {l : List It} {x : It} (h : Bk l) (hb : x.kind = 1 ∨ endsK 1 l = true) : Bk (l ++ [x]) := fun i hi hn => by
  by_cases hil : i < l.length
  · rw [List.getElem_append_left hil] at hn
    obtain ⟨h0, y, e, ey⟩ := h i hil hn
    exact ⟨h0, y, by rw [List.getElem?_append_left (by omega)]; exact e, ey⟩
  · have e : i = l.length := by rw [List.length_append, List.length_singleton] at hi; omega
    subst e
    simp only [List.getElem_append_right (Nat.le_refl _), Nat.sub_self, List.getElem_singleton] at hn
    rcases hb with hb | hb
    · exact absurd hb hn
    · obtain ⟨y, e, ey⟩ := ends_some hb
      have := ends_len hb
      exact ⟨this, y, by rw [List.getElem?_append_left (by omega)]; exact e, ey⟩
theorem endsSnoc (k : Int) (l : List It) (x : It) : endsK k (l ++ [x]) = (x.kind == k) := by
  unfold endsK
  rw [List.getLast?_append]
  rfl
structure SpI (wd : Int) (p : List It × Int) : Prop where
  pa : Pa p.1
  bk : Bk p.1
  en : p.2 ≠ wd → endsK 1 p.1 = true
theorem SpI.box {wd f sz lk r : Int} {c : List UInt8} {p : List It × Int} (h : SpI wd p) (hs : 0 ≤ sz) : SpI wd (p.1 ++ [bxP f sz lk c], r) :=
  ⟨h.pa.snoc (Pm.box hs), h.bk.snoc (.inl rfl), fun _ => by show endsK 1 (p.1 ++ [_]) = true; rw [endsSnoc]; rfl⟩
theorem SpI.oth {wd : Int} {x : It} {p : List It × Int} (h : SpI wd p) (hx : Pm x) (he : endsK 1 p.1 = true) : SpI wd (p.1 ++ [x], wd) :=
  ⟨h.pa.snoc hx, h.bk.snoc (.inr he), fun q => absurd rfl q⟩
theorem part_alt {wd f sz lk : Int} (hs : 0 ≤ sz) : ∀ (n : Nat) (c : List UInt8) (p : List It × Int), c ≠ [] → SpI wd p → 2 * c.length + (if p.2 = wd then 0 else 1) < n →
    SpI wd (partL wd f sz lk n c p) ∧ endsK 1 (partL wd f sz lk n c p).1 = true
  | 0, c, p, _, _, hn => by omega
  | n + 1, c, p, hc, hI, hn => by
    by_cases a1 : runL f sz c ≤ p.2
    · rw [part_stand a1]
      exact ⟨hI.box hs, by show endsK 1 (p.1 ++ [_]) = true; rw [endsSnoc]; rfl⟩
    · by_cases a2 : fitN wd f sz c p.2 = 0
      · rw [part_none a1 a2]
        have hrw : p.2 ≠ wd := fun e => by have := fit_full (wd := wd) (f := f) (sz := sz) hc; rw [← e] at this; rw [e] at this a2; omega
        rw [if_neg hrw] at hn
        exact part_alt hs n c _ hc (hI.oth (Pm.pen (by omega)) (hI.en hrw)) (by simp only [if_pos]; omega)
      · have hle := fit_le wd f sz c p.2
        generalize hk : fitN wd f sz c p.2 = k at *
        by_cases a3 : c.drop k = []
        · rw [part_last a1 (by rw [hk]; exact a2) (by rw [hk]; exact a3), hk]
          exact ⟨hI.box hs, by show endsK 1 (p.1 ++ [_]) = true; rw [endsSnoc]; rfl⟩
        · rw [part_more a1 (by rw [hk]; exact a2) (by rw [hk]; exact a3), hk]
          exact part_alt hs n (c.drop k) _ a3 ((hI.box (r := 0) hs).oth (Pm.pen (by omega)) (by show endsK 1 (p.1 ++ [_]) = true; rw [endsSnoc]; rfl)) (by simp only [if_pos]; rw [List.length_drop]; split at hn <;> omega)
/-- The last item of what is told: Split leaves it, or tells a box. -/
def lastOk (l : List It) : Prop := ∀ h : 0 < l.length, (l[l.length - 1]).kind = 1 ∨ ((l[l.length - 1]).kind = 3 ∧ (l[l.length - 1]).cost ≤ -10000)
theorem split_alt {wd sz : Int} (hs : 0 ≤ sz) : ∀ (l : List It) (p : List It × Int), (∀ x ∈ l, mkOk sz x ∧ Pm x) → SpI wd p →
    (∀ i (h : i < l.length), l[i].kind ≠ 1 → if i = 0 then endsK 1 p.1 = true else ∃ y, l[i - 1]? = some y ∧ y.kind = 1) →
    SpI wd (splitL wd l p) ∧ (∀ x, l.getLast? = some x → x.kind = 1 → endsK 1 (splitL wd l p).1 = true) ∧ (∀ x, l.getLast? = some x → x.kind ≠ 1 → (splitL wd l p).1.getLast? = some x)
  | [], p, _, hI, _ => by rw [splitL]; exact ⟨hI, fun x h => (by cases h), fun x h => by cases h⟩
  | x :: l, p, hx, hI, hb => by
    have hl := fun y hy => hx y (List.mem_cons_of_mem _ hy)
    obtain ⟨hm, hpm⟩ := hx x (List.mem_cons_self ..)
    rw [splitL]
    have step : ∀ q : List It × Int, SpI wd q → (x.kind = 1 → endsK 1 q.1 = true) → (x.kind ≠ 1 → q.1.getLast? = some x) →
        SpI wd (splitL wd l q) ∧ (∀ z, (x :: l).getLast? = some z → z.kind = 1 → endsK 1 (splitL wd l q).1 = true) ∧ (∀ z, (x :: l).getLast? = some z → z.kind ≠ 1 → (splitL wd l q).1.getLast? = some z) := by
      intro q hq h1 h2
      have R := split_alt hs l q hl hq (fun i hi hn => by
        have B := hb (i + 1) (by simp only [List.length_cons]; omega) (by simpa using hn)
        rw [if_neg (by omega), Nat.add_sub_cancel] at B
        obtain ⟨y, hy, ky⟩ := B
        split
        · rename_i e
          subst e
          rw [List.getElem?_cons_zero] at hy
          obtain rfl := Option.some.inj hy
          exact h1 ky
        · rename_i e
          obtain ⟨j, rfl⟩ : ∃ j, i = j + 1 := ⟨i - 1, by omega⟩
          rw [List.getElem?_cons_succ] at hy
          exact ⟨y, hy, ky⟩)
      cases l with
      | nil =>
        rw [splitL]
        refine ⟨hq, fun z hz kz => ?_, fun z hz kz => ?_⟩
        · rw [List.getLast?_singleton] at hz
          obtain rfl := Option.some.inj hz
          exact h1 kz
        · rw [List.getLast?_singleton] at hz
          obtain rfl := Option.some.inj hz
          exact h2 kz
      | cons y l => rw [List.getLast?_cons_cons]; exact R
    rcases hm with ⟨hk, _⟩ | ⟨he, hne⟩
    · rw [if_pos hk]
      have h0 := hb 0 (by simp) (by simpa using hk)
      rw [if_pos rfl] at h0
      exact step _ (hI.oth hpm h0) (fun q => absurd q hk) (fun _ => by show (p.1 ++ [x]).getLast? = some x; rw [List.getLast?_append]; rfl)
    · have hk1 : x.kind = 1 := by rw [he]; rfl
      have hsz : x.size = sz := by rw [he]; rfl
      rw [if_neg (by rw [hk1]; simp), if_neg hne, hsz]
      have := part_alt (wd := wd) (f := x.font) (lk := x.link) hs (2 * x.codes.length + 2) x.codes p hne hI (by split <;> omega)
      exact step _ this.1 (fun _ => this.2) (fun q => absurd hk1 q)
end Go.Proofs.YtfnkokfkhjdkfaaDoor

/-
  What Split tells of what Make told parts into lines, and there is a way. No program in sight.
-/
namespace Go.Proofs.YtfnkokfkhjdkfaaDoor
open Go.RowKit Go.Lib

theorem alt_split {wd f sz lk : Int} (s1 : 4000 ≤ sz) (s2 : sz ≤ 2147483648) (L : List St) : Alt (splitL wd (makeL L f sz lk).1 ([], wd)).1 := by
  have hG := Gd.make (f := f) (lk := lk) s1 s2 L
  have hM := Mk.make (f := f) (lk := lk) (show (0 : Int) ≤ sz by omega) s2 L
  have hP := Pa.make (f := f) (lk := lk) s1 s2 L
  have hZ := Pz.make (sz := sz) (f := f) (lk := lk) L
  have hE : endsK 2 (makeL L f sz lk).1 = false := drop_ends _ (Gd.spns s1 s2 L _ _ Gd.nil)
  generalize (makeL L f sz lk).1 = l at *
  obtain ⟨hI, h1, h2⟩ := split_alt (wd := wd) (show (0 : Int) ≤ sz by omega) l ([], wd) (fun x hx => ⟨hM x hx, hP x hx⟩) ⟨fun x hx => (by cases hx), fun i hi => absurd hi (Nat.not_lt_zero i), fun q => absurd rfl q⟩ (fun i hi hn => by
    obtain ⟨h0, y, hy, ky⟩ := hG.back i hi hn
    rw [if_neg (by omega)]
    exact ⟨y, hy, ky⟩)
  refine ⟨fun x hx => (hI.pa x hx).1, hI.bk, fun h0 => ?_, fun x hx => (hI.pa x hx).2⟩
  cases e : l.getLast? with
  | none =>
    rw [List.getLast?_eq_none_iff] at e
    subst e
    rw [splitL] at h0
    exact absurd h0 (Nat.not_lt_zero 0)
  | some x =>
    have hx : x ∈ l := List.mem_of_getLast? e
    by_cases hk : x.kind = 1
    · left
      obtain ⟨y, hy, ky⟩ := ends_some (h1 x e hk)
      obtain ⟨_, ey⟩ := List.getElem?_eq_some_iff.1 hy
      rw [ey]
      exact ky
    · right
      have hl := h2 x e hk
      rw [List.getLast?_eq_getElem?] at hl
      obtain ⟨_, ey⟩ := List.getElem?_eq_some_iff.1 hl
      rw [ey]
      rcases hG.kind x hx with q | q | q
      · exact absurd q hk
      · unfold endsK at hE
        rw [e] at hE
        simp [q] at hE
      · exact ⟨q, by have := hZ x hx q; omega⟩
theorem itTake {l : List It} {i : Nat} (hi : i < l.length) : l.take (i + 1) = l.take i ++ [l[i]] := by
  rw [List.take_add_one, List.getElem?_eq_getElem hi]
  rfl
theorem fits_take {wd : Int} {l : List It} (h : fitsOk wd 0 l) (i : Nat) : fitsOk wd 0 (l.take i) := by
  rw [← List.take_append_drop i l] at h
  exact ((fits_app wd _ _ _).1 h).1
theorem fits_narrow {wd : Int} {l : List It} (hw : 0 ≤ wd) (h : fitsOk wd 0 l) (f : Nat) (hf : f = 0 ∨ ∃ hj : f - 1 < l.length, 0 < f ∧ (l[f - 1]).kind ≠ 1) : ∀ i, f ≤ i → (hi : i ≤ l.length) → (∀ k (hk : k < i), f ≤ k → (l[k]'(by omega)).kind = 1) →
    usedL 0 (l.take i) = (preM l i).w - (preM l f).w ∧ (preM l i).w - (preM l f).w ≤ wd := by
  intro i
  induction i with
  | zero =>
    intro h0 _ _
    have : f = 0 := by omega
    subst this
    exact ⟨by simp [usedL], by omega⟩
  | succ i ih =>
    intro h0 hi hb
    by_cases e : f = i + 1
    · subst e
      refine ⟨?_, by omega⟩
      rcases hf with hf | ⟨_, _, hk⟩
      · omega
      · rw [itTake (by omega), used_app, usedL, usedL]
        rw [if_pos (by simpa using hk)]
        omega
    · obtain ⟨h1, h2⟩ := ih (by omega) (by omega) (fun k hk hfk => hb k (by omega) hfk)
      have hk := hb i (by omega) (by omega)
      have hF := fits_take h (i + 1)
      rw [itTake (by omega), fits_app, h1] at hF
      have hF := hF.2.1
      rw [itTake (by omega), used_app, h1, usedL, usedL, if_neg (by rw [hk]; simp)]
      have hp : (preM l (i + 1)).w = (preM l i).w + (l[i]'(by omega)).width := by
        rw [preM_next (by omega)]
        unfold meAdd
        rw [if_neg (by rw [hk]; decide)]
      rcases hF with ⟨hn, _⟩ | ⟨_, hq, _⟩
      · exact absurd hk hn
      · rw [hp]
        omega
/-- There is a way. -/
theorem way_split {wd f sz lk : Int} (s1 : 4000 ≤ sz) (s2 : sz ≤ 2147483648) (hall : ∀ (f : Int) (b : UInt8), advL f sz b.toNat ≤ wd) (h2 : wd ≤ 4611686018427387904) (hw0 : 0 ≤ wd) (L : List St) (hs : Sh 100000 (makeL L f sz lk).1) :
    ∃ es c, Chain (splitL wd (makeL L f sz lk).1 ([], wd)).1 wd es ((splitL wd (makeL L f sz lk).1 ([], wd)).1.length + 1) c := by
  have hA := alt_split (wd := wd) (f := f) (lk := lk) s1 s2 L
  have hM := Mk.make (f := f) (lk := lk) (show (0 : Int) ≤ sz by omega) s2 L
  have hF := (split_fits (show (0 : Int) ≤ sz by omega) s2 hall h2 hw0 (makeL L f sz lk).1 ([], wd) (fun x hx => ⟨hM x hx, hs x hx⟩) (by simp only; omega) (Int.le_refl _) ⟨trivial, by simp [usedL]⟩).1.1
  exact hA.way hw0 fun f i hf hi hb hfo => (fits_narrow hw0 hF f hfo i hf hi hb).2
end Go.Proofs.YtfnkokfkhjdkfaaDoor

/-
  How many codes have room, the document's way: as many as Split takes. No program in sight.
-/
namespace Go.Proofs.YtfnkokfkhjdkfaaDoor
open Go.RowKit Go.Lib

theorem room_fit {wd f sz r : Int} {c : List UInt8} {n : Nat} (hc : c ≠ []) (h0 : -9223372036854775808 ≤ r) (h2 : r ≤ 9223372036854775807) (hn : n ≤ c.length)
    (hin : ∀ j, 0 < j → j ≤ n → runL f sz (c.take j) ≤ r) (hout : n < c.length → r < runL f sz (c.take (n + 1))) :
    (if n = 0 ∧ r = wd then 1 else n) = fitN wd f sz c r := by
  have hwr : wordR r = r := by unfold wordR; rw [if_pos (by omega)]
  have one : runL f sz (c.take 1) = advL f sz (c.headD 0).toNat := by
    cases c with
    | nil => exact absurd rfl hc
    | cons b l => simp [runL]
  have hcut : cutGo f sz r 0 c = n := cutGo_at f sz r n 0 c hn (fun j hj hjk => by rw [Int.zero_add]; exact hin j hj hjk) (fun h => by rw [Int.zero_add]; exact hout h)
  have hp := List.length_pos_iff.2 hc
  unfold fitN cutL
  rw [hwr, if_neg hc, hcut, ← one]
  by_cases hn0 : n = 0
  · subst hn0
    have := hout hp
    rw [Nat.zero_add] at this
    by_cases e : r = wd
    · rw [if_pos ⟨rfl, e⟩, if_neg (fun q => q.1 e)]
      rfl
    · rw [if_neg (fun q => e q.2), if_pos ⟨e, this⟩]
  · have := hin 1 (by omega) (by omega)
    rw [if_neg (fun q => hn0 q.1), if_neg (fun q => by omega)]
    omega
end Go.Proofs.YtfnkokfkhjdkfaaDoor


/-
  Texts of the proof, one behind the other: Itf, Itg, Ith, Iti, Itj, Itk, Itl, Srw.
-/
import Derived.Test.YtfnkokfkhjdkfaaDoorM29
import Derived.Test.YtfnkokfkhjdkfaaDoorM23
import Derived.Test.YtfnkokfkhjdkfaaDoorM9
/-
  Contract of word, of the package item.
-/
namespace Go.Proofs.YtfnkokfkhjdkfaaDoor
open Go.RowKit Go.Lib Go.Maps

section
variable {w0 W : World} {B : Nat} {v : Value} {its : List It} {nx : Int}
/-- The tables that item's functions read. -/
structure EnvI (w : World) : Prop where
  odd : Odd w
  fnt : Fnt w
theorem EnvI.keep {w w' : World} (h : EnvI w) (k : Keeps w w') : EnvI w' := ⟨h.odd.keep k, h.fnt.keep k⟩
set_option maxRecDepth 100000 in
set_option maxHeartbeats 8000000 in
theorem word_any (sz : Int) (s : Sty) (t : ByteArray) (h : Md w0 W B v its nx) (hl : its.length ≤ 999999) (h1 : 0 ≤ sz) (h2 : sz ≤ 2147483648) (hE : EnvI w0) (ht : t.size ≤ 100000) :
    Calls Tryd.prog 74 #[.pointer (some ⟨B, 0, none⟩), .string t, styV sz s] W fun e w' => e = .returned (.tuple #[]) ∧ PostMd w0 W B v (wordP sz s t.data.toList its) nx w' := by
  have KA := Lib.hid (fun o => (Keeps.refl W).alloc o)
  by_cases hn : t.data.toList = []
  · have htt : t = ⟨#[]⟩ := bytes_eq hn
    have FIN := Lib.hid (fun o => h.post (KA.out o))
    rw [show wordP sz s t.data.toList its = its by unfold wordP; rw [if_pos hn]]
    subst htt
    clear h hE
    obtain ⟨f, l, b⟩ := s
    unfold styV
    go_enter Tryd.func74, Tryd.ntmps74
    go_wp2_with fail
    go_end0
    exact ⟨rfl, FIN.out _⟩
  · rw [show wordP sz s t.data.toList its = its ++ [itBox sz s (codesL t.data.toList)] by unfold wordP; rw [if_neg hn]]
    have te : t.toList.isEmpty = false := by rw [List.isEmpty_eq_false_iff, Lib.toList_data]; exact hn
    have hcl := Nat.le_trans (Nat.le_of_eq (codesL_len t.data.toList)) (runesL_len t.data.toList)
    rw [bytes_len] at hcl
    have HC := Lib.hid (fun W1 (k : Keeps W W1) => codes_any t W1 ht (hE.odd.keep (h.keep.trans k)))
    have HX := Lib.hid (fun W1 (k : Keeps W W1) => box_any sz s ⟨(codesL t.data.toList).toArray⟩ W1 (by show (codesL t.data.toList).toArray.size ≤ _; simp; omega) h1 h2 (hE.fnt.keep (h.keep.trans k)))
    have HM := Lib.hid (fun W1 (k : Keeps W W1) => (h.to k).made (itBox sz s (codesL t.data.toList)) (Nat.le_succ_of_le hl))
    have HB := Lib.hid (fun W1 (k : Keeps W W1) => (h.own.keep k).box.cell 0 (v := v) rfl)
    have HP := Lib.hid (fun W1 (k : Keeps W W1) W' (q : PostMd w0 W1 B v (its ++ [itBox sz s (codesL t.data.toList)]) nx W') => PostMd.from k q)
    obtain ⟨A, cap, hv, _, _⟩ := row_form h.own.row
    subst hv
    clear h hE hcl hn
    obtain ⟨f, l, b⟩ := s
    unfold styV itBox at *
    simp only at *
    generalize codesL t.data.toList = c at *
    generalize hd : runL f sz c = d at *
    go_enter Tryd.func74, Tryd.ntmps74
    have b0 := HB.out _ (KA.out (.cells #[.int .i64 f, .int .i64 sz, .int .i64 l, .bool b] 53))
    have BS := Lib.hid (fun W1 (k : Keeps (W.alloc (.cells #[.int .i64 f, .int .i64 sz, .int .i64 l, .bool b] 53)) W1) => (Blk.new W 53 #[.int .i64 f, .int .i64 sz, .int .i64 l, .bool b]).keep k)
    go_wp2_with fail
    go_region_law (first
      | (refine step_append_run' rfl (.tmp 12) (.tmp 17) _ _ rfl _ _ (by simp [Act.eval]) (by simp [Act.eval]) _ _ ra ?_)
      | (go_simp; go_at_call 83; (with_reducible refine (HC.out _ (KA.out _).drew).mono ?_); rintro e w1 ⟨rfl, k1⟩; have K1 := (KA.out _).drew.trans k1; have b2a := HB.out w1 K1; have bs := BS.out w1 ((Keeps.refl _).drew.trans k1); have s0 := bs.cell 0 (v := .int .i64 f) rfl; have s1 := bs.cell 1 (v := .int .i64 sz) rfl; have s2 := bs.cell 2 (v := .int .i64 l) rfl; have s3 := bs.cell 3 (v := .bool b) rfl)
      | (go_simp; go_at_call 52; (with_reducible refine (HX.out _ K1).mono ?_); rintro e w2 ⟨rfl, k2⟩; have K2 := K1.trans k2; obtain ⟨A8, c8, w8, ra, b8, p8⟩ := HM.out w2 K2; have b2c := HB.out w2 K2; have b2d := HB.out _ (K2.trans ((Keeps.refl w2).alloc (.cells #[.int .i64 1, .int .i64 d, .int .i64 0, .int .i64 0, .int .i64 0, .string ⟨c.toArray⟩, .int .i64 f, .int .i64 sz, .int .i64 l] 42))); have y2 := b8.cell 0 (v := .slice A its.length cap) rfl; have yf := b8.free 0))
    all_goals
      have FIN := HP.out w2 K2 _ p8
      go_end0
      exact ⟨rfl, FIN⟩
end
end Go.Proofs.YtfnkokfkhjdkfaaDoor

/-
  Contract of text, of the package item.
-/
namespace Go.Proofs.YtfnkokfkhjdkfaaDoor
open Go.RowKit Go.Lib Go.Maps

theorem txt_more {sz : Int} {s : Sty} {l : List UInt8} {j k : Nat} {its0 its : List It} (hk : k < l.length) (hj : j ≤ k) (hb : ¬ blankB l[k]) (h : txtP sz s ((l.take k).drop j) (l.drop k) its = its0) : txtP sz s ((l.take (k + 1)).drop j) (l.drop (k + 1)) its = its0 := by
  rw [List.drop_eq_getElem_cons hk, txtP, if_neg hb] at h
  rw [← h, List.take_succ_eq_append_getElem hk, List.drop_append_of_le_length (by rw [List.length_take]; omega)]
theorem txt_blank {sz : Int} {s : Sty} {l : List UInt8} {j k : Nat} {its0 its : List It} (hk : k < l.length) (hb : blankB l[k]) (h : txtP sz s ((l.take k).drop j) (l.drop k) its = its0) : txtP sz s ((l.take (k + 1)).drop (k + 1)) (l.drop (k + 1)) (glueP sz s (wordP sz s ((l.take k).drop j) its)) = its0 := by
  rw [List.drop_eq_getElem_cons hk, txtP, if_pos hb] at h
  rw [← h, List.drop_eq_nil_of_le (by rw [List.length_take]; omega)]
theorem txt_end {sz : Int} {s : Sty} {l : List UInt8} {j : Nat} {its0 its : List It} (h : txtP sz s ((l.take l.length).drop j) (l.drop l.length) its = its0) : wordP sz s (l.drop j) its = its0 := by
  rw [List.take_length, List.drop_length, txtP] at h
  exact h
/-- A block that the list's operations leave as it is. -/
structure Sd (B : Nat) (W : World) (v : Value) (b : Nat) (t : TypeId) (cs : Array Value) : Prop where
  blk : Blk W b t cs
  box : b ≠ B
  row : v.ownBlock ≠ some b
theorem Sd.moved {B : Nat} {W W' : World} {v v' : Value} {b : Nat} {t : TypeId} {cs : Array Value} (h : Sd B W v b t cs) (m : Mvd W W' B v v') : Sd B W' v' b t cs :=
  ⟨m.blk h.blk h.box h.row, h.box, by
    rcases m.lies with e | ⟨g, e, hg⟩
    · rw [e]; exact h.row
    · rw [e]; intro q; have := h.blk.lt; cases q; omega⟩
theorem Sd.keep {B : Nat} {W W' : World} {v : Value} {b : Nat} {t : TypeId} {cs : Array Value} (h : Sd B W v b t cs) (k : Keeps W W') : Sd B W' v b t cs := ⟨h.blk.keep k, h.box, h.row⟩
section
variable {w0 W : World} {B : Nat} {v : Value} {its : List It} {nx : Int}
theorem Sd.new (h : Md w0 W B v its nx) (t : TypeId) (cs : Array Value) : Sd B (W.alloc (.cells cs t)) v W.heap.size t cs :=
  ⟨Blk.new W t cs, fun e => by have := h.own.box.lt; omega, fun e => by have := (h.own.row.lt _ e).2; omega⟩
set_option maxRecDepth 100000 in
set_option maxHeartbeats 8000000 in
theorem text_any' (sz : Int) (s : Sty) (t : ByteArray) (h : Md w0 W B v its nx) (hl : its.length + 2 * t.size ≤ 999990) (h1 : 0 ≤ sz) (h2 : sz ≤ 2147483648) (hE : EnvI w0) (ht : t.size ≤ 100000) :
    Calls Tryd.prog 55 #[.pointer (some ⟨B, 0, none⟩), .string t, styV sz s] W fun e w' => e = .returned (.tuple #[]) ∧ PostMd w0 W B v (txtP sz s [] t.data.toList its) nx w' := by
  have HL := Lib.hid (bytes_len t)
  have H0 := Lib.hid (fun o => h.to ((Keeps.refl W).alloc o))
  have M0 := Lib.hid (fun o => Mvd.keep (B := B) (v := v) ((Keeps.refl W).alloc o))
  have S0 := Lib.hid (Sd.new h)
  have HW := Lib.hid (fun W1 v1 its1 (m : Md w0 W1 B v1 its1 nx) (x : ByteArray) (a : its1.length ≤ 999999) (b : x.size ≤ 100000) => word_any sz s x m a h1 h2 hE b)
  have HG := Lib.hid (fun W1 v1 its1 (m : Md w0 W1 B v1 its1 nx) (a : its1.length ≤ 999999) => mglue_any sz s m a h1 h2 hE.fnt)
  have WL := Lib.hid (fun x l => word_len sz s x l)
  have GL := Lib.hid (fun l => glue_len sz s l)
  have E0 : Hid (txtP sz s ((t.data.toList.take 0).drop 0) (t.data.toList.drop 0) its = txtP sz s [] t.data.toList its) := Lib.hid rfl
  have HIB := Lib.hid (fun b w => isBlank_any b w)
  have ES : Hid (∀ j k : Nat, k ≤ t.size → (t.extract j k).data.toList = (t.data.toList.take k).drop j) := Lib.hid (fun j k _ => by rw [Lib.extract_data, ← List.drop_take])
  clear h hE
  obtain ⟨f, l, b⟩ := s
  unfold styV at *
  simp only at *
  go_enter Tryd.func55, Tryd.ntmps55
  go_wp2_with fail
  go_loopw [6, 10] (fun x y wr => ∃ (j k : Nat) (v1 : Value) (its1 : List It), j ≤ k ∧ k ≤ t.size ∧ x = .int .i64 j ∧ y = .int .i64 k ∧ Hid (Md w0 wr B v1 its1 nx) ∧ Hid (Mvd W wr B v v1) ∧ Hid (Sd B wr v1 W.heap.size 53 #[.int .i64 f, .int .i64 sz, .int .i64 l, .bool b]) ∧ its1.length ≤ its.length + 2 * j ∧ Hid (txtP sz ⟨f, l, b⟩ ((t.data.toList.take k).drop j) (t.data.toList.drop k) its1 = txtP sz ⟨f, l, b⟩ [] t.data.toList its)) (fun _ y _ => t.size - (RowKit.intOf y).toNat)
  case atStart => exact ⟨0, 0, v, its, Nat.le_refl _, Nat.zero_le _, rfl, rfl, Lib.hid (H0.out _), Lib.hid (M0.out _), Lib.hid (S0.out _ _), by omega, E0⟩
  case round =>
    obtain ⟨j, k, v1, its1, hjk, hkn, rfl, rfl, HM, HV, HS, hln, HT⟩ := hrel
    have bs := HS.out.blk
    have s0 := bs.cell 0 (v := .int .i64 f) rfl
    have s1 := bs.cell 1 (v := .int .i64 sz) rfl
    have s2 := bs.cell 2 (v := .int .i64 l) rfl
    have s3 := bs.cell 3 (v := .bool b) rfl
    clear bs
    by_cases c : k < t.size
    · have hk' : k < t.data.toList.length := by rw [HL.out]; exact c
      have hg : t.data.toList[k] = t[k] := rfl
      have e1 : (0 : Int) ≤ (j : Int) := by omega
      have e2 : (j : Int) ≤ (k : Int) := by omega
      have e3 : (k : Int) ≤ (t.size : Int) := by omega
      by_cases hb : blankB t[k]
      · have IB := Lib.hid (fun w => HIB.out t[k] w)
        rw [decide_eq_true hb] at IB
        have HN := Lib.hid (txt_blank hk' (by rw [hg]; exact hb) HT.out)
        have CW := Lib.hid (HW.out _ _ _ (HM.out.to (Keeps.refl _).drew) (t.extract j k) (by omega) (by rw [ByteArray.size_extract]; omega))
        rw [ES.out j k (by omega)] at CW
        have hw2 := WL.out ((t.data.toList.take k).drop j) its1
        have hw3 := GL.out (wordP sz ⟨f, l, b⟩ ((t.data.toList.take k).drop j) its1)
        generalize wordP sz ⟨f, l, b⟩ ((t.data.toList.take k).drop j) its1 = its2 at *
        clear hb
        go_wp2_with fail
        refine (IB.out _).mono ?_
        rintro e w1 ⟨rfl, rfl⟩
        go_wp2_with fail
        go_region_law (go_simp; go_at_call 74; (with_reducible refine CW.out.mono ?_); rintro e w2 ⟨rfl, p2⟩)
        all_goals
          obtain ⟨v2, m2, q2⟩ := PostMd.from (Keeps.refl _).drew p2
          have S2 := HS.out.moved q2
          have bs := S2.blk
          have s0 := bs.cell 0 (v := .int .i64 f) rfl
          have s1 := bs.cell 1 (v := .int .i64 sz) rfl
          have s2 := bs.cell 2 (v := .int .i64 l) rfl
          have s3 := bs.cell 3 (v := .bool b) rfl
          have CG := HG.out _ _ _ m2 (by omega)
          have V2 := Lib.hid (HV.out.trans q2)
          clear bs m2 p2 q2
          go_wp2_with fail
          refine CG.mono ?_
          rintro e w3 ⟨rfl, v3, m3, q3⟩
          have S3 := S2.moved q3
          have V3 := V2.out.trans q3
          clear q3 S2 s0 s1 s2 s3
          go_wp2_with fail
          go_roundw
          case rel => exact ⟨k + 1, k + 1, v3, _, Nat.le_refl _, by omega, by go_num, by go_num, Lib.hid m3, Lib.hid V3, Lib.hid S3, by omega, HN⟩
          case measure => simp only [RowKit.intOf]; omega
      · have IB := Lib.hid (fun w => HIB.out t[k] w)
        rw [decide_eq_false hb] at IB
        have HN := Lib.hid (txt_more hk' hjk (by rw [hg]; exact hb) HT.out)
        clear hb
        go_wp2_with fail
        refine (IB.out _).mono ?_
        rintro e w1 ⟨rfl, rfl⟩
        go_wp2_with fail
        go_roundw
        case rel => exact ⟨j, k + 1, v1, its1, by omega, by omega, rfl, by go_num, HM, HV, HS, hln, HN⟩
        case measure => simp only [RowKit.intOf]; omega
    · have hkk : k = t.data.toList.length := by rw [HL.out]; omega
      have HT2 := HT.out
      rw [hkk] at HT2
      have HN := Lib.hid (txt_end HT2)
      have ex : (t.extract j t.size).data.toList = t.data.toList.drop j := by rw [ES.out j t.size (Nat.le_refl _), List.take_of_length_le (Nat.le_of_eq HL.out)]
      have CW := Lib.hid (HW.out _ _ _ (HM.out.to (Keeps.refl _).drew) (t.extract j t.size) (by omega) (by rw [ByteArray.size_extract]; omega))
      rw [ex, HN.out] at CW
      have e1 : (0 : Int) ≤ (j : Int) := by omega
      have e2 : (j : Int) ≤ (t.size : Int) := by omega
      clear hkk ex HT HT2
      go_wp2_with fail
      go_region_law (go_simp; go_at_call 74; (with_reducible refine CW.out.mono ?_); rintro e w2 ⟨rfl, p2⟩)
      all_goals
        obtain ⟨v2, m2, q2⟩ := PostMd.from (Keeps.refl _).drew p2
        have FIN : PostMd w0 W B v (txtP sz ⟨f, l, b⟩ [] t.data.toList its) nx w2 := ⟨v2, m2, HV.out.trans q2⟩
        go_end0
        exact ⟨rfl, FIN⟩
end
end Go.Proofs.YtfnkokfkhjdkfaaDoor

/-
  Spans in memory, as they are read.
-/
namespace Go.Proofs.YtfnkokfkhjdkfaaDoor
open Go.RowKit Go.Lib Go.Maps

/-- A span's cells. -/
structure StC (W : World) (g o : Nat) (k : Int) (t d ti : List UInt8) (kv : Value) : Prop where
  c0 : W.cell? ⟨g, o, none⟩ = some (.int .i64 k)
  c1 : W.cell? ⟨g, o + 1, none⟩ = some (.string ⟨t.toArray⟩)
  c2 : W.cell? ⟨g, o + 2, none⟩ = some (.string ⟨d.toArray⟩)
  c3 : W.cell? ⟨g, o + 3, none⟩ = some (.string ⟨ti.toArray⟩)
  c4 : W.cell? ⟨g, o + 4, none⟩ = some kv
theorem StC.keep {W W' : World} {g o : Nat} {k : Int} {t d ti : List UInt8} {kv : Value} (h : StC W g o k t d ti kv) (K : Keeps W W') : StC W' g o k t d ti kv := ⟨K.cell2 h.c0, K.cell2 h.c1, K.cell2 h.c2, K.cell2 h.c3, K.cell2 h.c4⟩
/-- The slice v holds the spans l. -/
inductive StAt (W : World) : List St → Value → Prop
  | mk (L : List (St × Value)) (A : Option Addr) (cap : Nat) (hc : L.length ≤ cap) (hm : cap ≤ maxLen)
      (ha : 0 < L.length → ∃ g o, A = some ⟨g, o, none⟩ ∧ ∀ i (h : i < L.length), ∀ k t d ti ks, (L[i]).1 = .mk k t d ti ks → StC W g (o + i * 5) k t d ti (L[i]).2)
      (hk : ∀ x ∈ L, StAt W x.1.kids x.2) : StAt W (L.map Prod.fst) (.slice A L.length cap)
theorem StAt.keep {W W' : World} {l : List St} {v : Value} (h : StAt W l v) (k : Keeps W W') : StAt W' l v := by
  induction h with
  | mk L A cap hc hm ha hk ih =>
    refine .mk L A cap hc hm (fun h0 => ?_) ih
    obtain ⟨g, o, e, hcell⟩ := ha h0
    exact ⟨g, o, e, fun i h kd t d ti ks q => (hcell i h kd t d ti ks q).keep k⟩
section
variable {W : World} {l : List St} {v : Value}
theorem StAt.slice (h : StAt W l v) : ∃ A cap, v = .slice A l.length cap ∧ l.length ≤ cap ∧ cap ≤ maxLen ∧ (0 < l.length → ∃ g o, A = some ⟨g, o, none⟩) := by
  cases h with
  | mk L A cap hc hm ha hk =>
    rw [List.length_map]
    exact ⟨A, cap, rfl, hc, hm, fun h0 => by obtain ⟨g, o, e, _⟩ := ha h0; exact ⟨g, o, e⟩⟩
theorem StAt.at {g o cap : Nat} (h : StAt W l (.slice (some ⟨g, o, none⟩) l.length cap)) {i : Nat} {k : Int} {t d ti : List UInt8} {ks : List St} (e : l[i]? = some (.mk k t d ti ks)) : ∃ kv, StC W g (o + i * 5) k t d ti kv ∧ StAt W ks kv := by
  generalize hv : Value.slice (some ⟨g, o, none⟩) l.length cap = v at h
  cases h with
  | mk L A cap hc hm ha hk =>
    rw [List.length_map] at hv
    rw [List.getElem?_map] at e
    obtain ⟨x, hx, ex⟩ := Option.map_eq_some_iff.1 e
    obtain ⟨hi, hx2⟩ := List.getElem?_eq_some_iff.1 hx
    obtain ⟨g', o', e1, hcell⟩ := ha (by omega)
    rw [e1] at hv
    simp only [Value.slice.injEq, Option.some.injEq, Addr.mk.injEq, and_true, true_and] at hv
    obtain ⟨⟨rfl, rfl⟩, rfl⟩ := hv
    have hk2 := hk x (List.mem_of_getElem? hx)
    rw [ex] at hk2
    refine ⟨x.2, ?_, hk2⟩
    have := hcell i hi k t d ti ks (by rw [hx2]; exact ex)
    rwa [hx2] at this
theorem StAt.nil (W : World) : StAt W [] (.slice none 0 0) := .mk [] none 0 (Nat.le_refl _) (Nat.zero_le _) (fun h => by cases h) (fun x hx => by cases hx)
end
theorem wS_mk (k : Int) (t d ti : List UInt8) (ks : List St) : wS (.mk k t d ti ks) = 10 + t.length + wL ks := by rw [wS]
theorem wL_at {l : List St} {i : Nat} {x : St} (h : l[i]? = some x) : wL (l.take i) + wS x + wL (l.drop (i + 1)) = wL l := by
  induction l generalizing i with
  | nil => simp at h
  | cons y l ih =>
    cases i with
    | zero =>
      simp only [List.getElem?_cons_zero, Option.some.injEq] at h
      subst h
      simp [wL]
    | succ i =>
      have := ih (i := i) (by simpa using h)
      simp only [List.take_succ_cons, List.drop_succ_cons, wL]
      omega
theorem size_st {l : List St} {i : Nat} {k : Int} {t d ti : List UInt8} {ks : List St} (e : l[i]? = some (.mk k t d ti ks)) : SizeOf.sizeOf ks < SizeOf.sizeOf l := by
  have h := List.sizeOf_lt_of_mem (List.mem_of_getElem? e)
  have : SizeOf.sizeOf (St.mk k t d ti ks) = 1 + SizeOf.sizeOf k + SizeOf.sizeOf t + SizeOf.sizeOf d + SizeOf.sizeOf ti + SizeOf.sizeOf ks := by simp
  omega
end Go.Proofs.YtfnkokfkhjdkfaaDoor

/-
  Contract of span, of the package item, given that of spans for the kids.
-/
namespace Go.Proofs.YtfnkokfkhjdkfaaDoor
open Go.RowKit Go.Lib Go.Maps

/-- What spans has to do, with these kids, in the slice kv. -/
def SpansDo (w0 : World) (sz : Int) (ks : List St) (kv : Value) : Prop :=
  ∀ (s : Sty) (W : World) (B : Nat) (v : Value) (its : List It) (nx : Int), Md w0 W B v its nx → its.length + 2 * wL ks ≤ 190000 → 0 ≤ nx → nx + wL ks ≤ 4611686018427387904 →
    Calls Tryd.prog 18 #[.pointer (some ⟨B, 0, none⟩), kv, styV sz s] W fun e w' => e = .returned (.tuple #[]) ∧ PostMd w0 W B v (spnsP sz ks s (its, nx)).1 (spnsP sz ks s (its, nx)).2 w'
section
variable {w0 W : World} {B : Nat} {v : Value} {its : List It} {nx : Int} {g o : Nat} {k : Int} {t d ti : List UInt8} {ks : List St} {kv : Value}
theorem StC.loads (hx : StC w0 g o k t d ti kv) (h : Md w0 W B v its nx) : ∀ {W1 : World}, Keeps W W1 → StC W1 g o k t d ti kv := fun q => hx.keep (h.keep.trans q)
set_option maxRecDepth 100000 in
set_option maxHeartbeats 16000000 in
theorem link_do (sz : Int) (s : Sty) (hS : SpansDo w0 sz ks kv) (h : Md w0 W B v its nx) (hx : StC w0 g o k t d ti kv) (hl : its.length + 2 * wL ks ≤ 190000) (hn : 0 ≤ nx) (hm : nx + 10 + wL ks ≤ 4611686018427387904) :
    Calls Tryd.prog 61 #[.pointer (some ⟨B, 0, none⟩), .pointer (some ⟨g, o, none⟩), styV sz s] W fun e w' => e = .returned (.tuple #[]) ∧ PostMd w0 W B v (if s.image = true then spnsP sz ks s (its, nx) else spnsP sz ks { s with link := nx } (its, nx + 1)).1 (if s.image = true then spnsP sz ks s (its, nx) else spnsP sz ks { s with link := nx } (its, nx + 1)).2 w' := by
  obtain ⟨f, l, b⟩ := s
  have HX := Lib.hid (fun W1 (q : Keeps W W1) => hx.loads h q)
  have H0 := Lib.hid (fun W1 (q : Keeps W W1) => h.to q)
  have HM := Lib.hid (by
    obtain ⟨o1, q1⟩ := h.own.set 0 (.int .i64 (nx + 1)) [.int .i64 (nx + 1)] rfl
    exact (h.moved o1 q1 : PostMd w0 W B v its (nx + 1) (W.setCell ⟨B, 1, none⟩ (.int .i64 (nx + 1)))))
  have n1 := h.own.box.cell 1 (v := .int .i64 nx) rfl
  have nf := h.own.box.free 1
  have HY := Lib.hid (fun W1 (q : Keeps w0 W1) => hx.keep q)
  have KA := Lib.hid (fun o => (Keeps.refl W).alloc o)
  have HS := Lib.hid hS
  have hB := h.own.box.lt
  clear hx h hS
  have x4 := (HX.out _ (KA.out (.cells #[.int .i64 f, .int .i64 sz, .int .i64 l, .bool b] 53))).c4
  cases b with
  | true =>
    simp only [if_pos]
    unfold styV at *
    have CS := Lib.hid (HS.out ⟨f, l, true⟩ _ B v its nx (H0.out _ (KA.out (.cells #[.int .i64 f, .int .i64 sz, .int .i64 l, .bool true] 53)).drew) hl hn (by omega))
    unfold styV at CS
    simp only at CS
    go_enter Tryd.func61, Tryd.ntmps61
    go_wp2_with fail
    go_region_law (go_simp; go_at_call 18; (with_reducible refine CS.out.mono ?_); rintro e w2 ⟨rfl, p2⟩)
    all_goals
      have FIN := PostMd.from (KA.out _).drew p2
      go_end0
      exact ⟨rfl, FIN⟩
  | false =>
    simp only [Bool.false_eq_true, if_false]
    unfold styV at *
    have hw1 : IntKind.i64.wrap (nx + 1) = nx + 1 := IntWalk.i64_in _ (by omega)
    obtain ⟨v1, m1, Q1⟩ := HM.out
    have hz : (W.setCell ⟨B, 1, none⟩ (.int .i64 (nx + 1))).heap.size = W.heap.size := setCell_size _ _ _
    have bs := Blk.new (W.setCell ⟨B, 1, none⟩ (.int .i64 (nx + 1))) 53 #[.int .i64 f, .int .i64 sz, .int .i64 nx, .bool false]
    rw [hz] at bs
    have KB := (Keeps.refl (W.setCell ⟨B, 1, none⟩ (.int .i64 (nx + 1)))).alloc (.cells #[.int .i64 f, .int .i64 sz, .int .i64 nx, .bool false] 53)
    have m2 := m1.to KB
    have Q2 := Lib.hid (Q1.trans (Mvd.keep KB))
    have s0 := bs.cell 0 (v := .int .i64 f) rfl
    have s1 := bs.cell 1 (v := .int .i64 sz) rfl
    have s2 := bs.cell 2 (v := .int .i64 nx) rfl
    have s3 := bs.cell 3 (v := .bool false) rfl
    have y4 := (HY.out _ m2.keep).c4
    have CS := Lib.hid (HS.out ⟨f, nx, false⟩ _ B v1 its (nx + 1) (m2.to (Keeps.refl _).drew) hl (by omega) (by omega))
    unfold styV at CS
    simp only at CS
    clear bs m1 m2 Q1 KB x4
    go_enter Tryd.func61, Tryd.ntmps61
    go_wp2_with fail
    go_region_law (go_simp; go_at_call 18; (with_reducible refine CS.out.mono ?_); rintro e w2 ⟨rfl, p2⟩)
    all_goals
      obtain ⟨v2, m2, q2⟩ := PostMd.from (Keeps.refl _).drew p2
      have FIN : PostMd w0 W B v _ _ w2 := ⟨v2, m2, Q2.out.trans q2⟩
      go_end0
      exact ⟨rfl, FIN⟩
end
end Go.Proofs.YtfnkokfkhjdkfaaDoor

/-
  Contract of span, of the package item, given that of spans for the kids.
-/
namespace Go.Proofs.YtfnkokfkhjdkfaaDoor
open Go.RowKit Go.Lib Go.Maps

section
variable {w0 W : World} {B : Nat} {v : Value} {its : List It} {nx : Int} {g o : Nat} {k : Int} {t d ti : List UInt8} {ks : List St} {kv : Value}
set_option maxRecDepth 100000 in
set_option maxHeartbeats 32000000 in
theorem span_do (sz : Int) (s : Sty) (h1 : 0 ≤ sz) (h2 : sz ≤ 2147483648) (hE : EnvI w0) (hS : SpansDo w0 sz ks kv) (h : Md w0 W B v its nx) (hx : StC w0 g o k t d ti kv) (hl : its.length + 2 * wS (.mk k t d ti ks) ≤ 190000) (hn : 0 ≤ nx) (hm : nx + wS (.mk k t d ti ks) ≤ 4611686018427387904) :
    Calls Tryd.prog 32 #[.pointer (some ⟨B, 0, none⟩), .pointer (some ⟨g, o, none⟩), styV sz s] W fun e w' => e = .returned (.tuple #[]) ∧ PostMd w0 W B v (spnP sz (.mk k t d ti ks) s (its, nx)).1 (spnP sz (.mk k t d ti ks) s (its, nx)).2 w' := by
  rw [wS_mk] at hl hm
  have KA := Lib.hid (fun o => (Keeps.refl W).alloc o)
  have H0 := Lib.hid (fun W1 (q : Keeps W W1) => h.to q)
  have HX := Lib.hid (fun W1 (q : Keeps W W1) => hx.loads h q)
  have HS := Lib.hid (fun s' W1 (q : Keeps W W1) => hS s' W1 B v its nx (h.to q) (by omega) hn (by omega))
  have HT := Lib.hid (fun s' W1 (q : Keeps W W1) => text_any' sz s' ⟨t.toArray⟩ (h.to q) (by show its.length + 2 * t.toArray.size ≤ _; simp; omega) h1 h2 hE (by show t.toArray.size ≤ _; simp; omega))
  have HG := Lib.hid (fun W1 (q : Keeps W W1) => mglue_any sz s (h.to q) (by omega) h1 h2 hE.fnt)
  have HBr := Lib.hid (fun W1 (q : Keeps W W1) => breakLine_any (h.to q) (by omega))
  have HLk := Lib.hid (fun W1 (q : Keeps W W1) => link_do sz s hS (h.to q) hx (by omega) hn (by omega))
  have HP := Lib.hid (fun W1 (q : Keeps W W1) its' nx' W' (p : PostMd w0 W1 B v its' nx' W') => PostMd.from q p)
  have HF := Lib.hid (fun W1 (q : Keeps W W1) => h.post q)
  have M1 := Lib.hid (fun W1 => mono_any sz s W1)
  have M2 := Lib.hid (fun W1 => slanted_any sz s W1)
  have M3 := Lib.hid (fun W1 => bold_any sz s W1)
  have M4 := Lib.hid (fun W1 => inImage_any sz s W1)
  clear hx hS h hE
  obtain ⟨f, l, b⟩ := s
  have x := HX.out _ (KA.out (.cells #[.int .i64 f, .int .i64 sz, .int .i64 l, .bool b] 53))
  have x0 := x.c0
  have x1 := x.c1
  have x4 := x.c4
  have ht : (⟨t.toArray⟩ : ByteArray).data.toList = t := rfl
  rw [ht] at HT
  clear x ht
  rw [spnP]
  unfold styV at *
  simp only at *
  by_cases e1 : k = 1
  · subst e1
    rw [if_pos rfl]
    go_enter Tryd.func32, Tryd.ntmps32
    go_wp2_with fail
    go_region_law (go_simp; go_at_call 55; (with_reducible refine (HT.out ⟨f, l, b⟩ _ (KA.out (.cells #[.int .i64 f, .int .i64 sz, .int .i64 l, .bool b] 53)).drew).mono ?_); rintro e w2 ⟨rfl, p2⟩)
    all_goals
      have FIN := HP.out _ (KA.out (.cells #[.int .i64 f, .int .i64 sz, .int .i64 l, .bool b] 53)).drew _ _ _ p2
      go_end0
      exact ⟨rfl, FIN⟩
  by_cases e2 : k = 2
  · subst e2
    rw [if_neg (by decide : ¬ (2 : Int) = 1), if_pos rfl]
    go_enter Tryd.func32, Tryd.ntmps32
    go_wp2_with fail
    refine (HG.out _ (KA.out (.cells #[.int .i64 f, .int .i64 sz, .int .i64 l, .bool b] 53))).mono ?_
    rintro e w2 ⟨rfl, p2⟩
    go_wp2_with fail
    have FIN := HP.out _ (KA.out (.cells #[.int .i64 f, .int .i64 sz, .int .i64 l, .bool b] 53)) _ _ _ p2
    go_end0
    exact ⟨rfl, FIN⟩
  by_cases e3 : k = 3
  · subst e3
    rw [if_neg (by decide : ¬ (3 : Int) = 1), if_neg (by decide : ¬ (3 : Int) = 2), if_pos rfl]
    go_enter Tryd.func32, Tryd.ntmps32
    go_wp2_with fail
    refine (HBr.out _ (KA.out (.cells #[.int .i64 f, .int .i64 sz, .int .i64 l, .bool b] 53))).mono ?_
    rintro e w2 ⟨rfl, p2⟩
    go_wp2_with fail
    have FIN := HP.out _ (KA.out (.cells #[.int .i64 f, .int .i64 sz, .int .i64 l, .bool b] 53)) _ _ _ p2
    go_end0
    exact ⟨rfl, FIN⟩
  by_cases e4 : k = 4
  · subst e4
    rw [if_neg (by decide : ¬ (4 : Int) = 1), if_neg (by decide : ¬ (4 : Int) = 2), if_neg (by decide : ¬ (4 : Int) = 3), if_pos rfl]
    go_enter Tryd.func32, Tryd.ntmps32
    go_wp2_with fail
    go_region_law (first
      | (go_simp; go_at_call 56; (with_reducible refine (M1.out _).mono ?_); rintro e w1 ⟨rfl, k1⟩; have K1 := (KA.out (.cells #[.int .i64 f, .int .i64 sz, .int .i64 l, .bool b] 53)).drew.trans k1; have y1 := (HX.out w1 K1).c1)
      | (go_simp; go_at_call 55; (with_reducible refine (HT.out ⟨4, l, b⟩ _ K1).mono ?_); rintro e w2 ⟨rfl, p2⟩))
    all_goals
      have FIN := HP.out _ K1 _ _ _ p2
      go_end0
      exact ⟨rfl, FIN⟩
  by_cases e5 : k = 5
  · subst e5
    rw [if_neg (by decide : ¬ (5 : Int) = 1), if_neg (by decide : ¬ (5 : Int) = 2), if_neg (by decide : ¬ (5 : Int) = 3), if_neg (by decide : ¬ (5 : Int) = 4), if_pos rfl]
    go_enter Tryd.func32, Tryd.ntmps32
    go_wp2_with fail
    go_region_law (first
      | (go_simp; go_at_call 59; (with_reducible refine (M2.out _).mono ?_); rintro e w1 ⟨rfl, k1⟩; have K1 := (KA.out (.cells #[.int .i64 f, .int .i64 sz, .int .i64 l, .bool b] 53)).drew.trans k1; have y4 := (HX.out w1 K1).c4)
      | (go_simp; go_at_call 18; (with_reducible refine (HS.out ⟨slF f, l, b⟩ _ K1).mono ?_); rintro e w2 ⟨rfl, p2⟩))
    all_goals
      have FIN := HP.out _ K1 _ _ _ p2
      go_end0
      exact ⟨rfl, FIN⟩
  by_cases e6 : k = 6
  · subst e6
    rw [if_neg (by decide : ¬ (6 : Int) = 1), if_neg (by decide : ¬ (6 : Int) = 2), if_neg (by decide : ¬ (6 : Int) = 3), if_neg (by decide : ¬ (6 : Int) = 4), if_neg (by decide : ¬ (6 : Int) = 5), if_pos rfl]
    go_enter Tryd.func32, Tryd.ntmps32
    go_wp2_with fail
    go_region_law (first
      | (go_simp; go_at_call 60; (with_reducible refine (M3.out _).mono ?_); rintro e w1 ⟨rfl, k1⟩; have K1 := (KA.out (.cells #[.int .i64 f, .int .i64 sz, .int .i64 l, .bool b] 53)).drew.trans k1; have y4 := (HX.out w1 K1).c4)
      | (go_simp; go_at_call 18; (with_reducible refine (HS.out ⟨bdF f, l, b⟩ _ K1).mono ?_); rintro e w2 ⟨rfl, p2⟩))
    all_goals
      have FIN := HP.out _ K1 _ _ _ p2
      go_end0
      exact ⟨rfl, FIN⟩
  by_cases e7 : k = 7
  · subst e7
    rw [if_neg (by decide : ¬ (7 : Int) = 1), if_neg (by decide : ¬ (7 : Int) = 2), if_neg (by decide : ¬ (7 : Int) = 3), if_neg (by decide : ¬ (7 : Int) = 4), if_neg (by decide : ¬ (7 : Int) = 5), if_neg (by decide : ¬ (7 : Int) = 6), if_pos rfl]
    generalize (if b = true then spnsP sz ks ⟨f, l, b⟩ (its, nx) else spnsP sz ks ⟨f, nx, b⟩ (its, nx + 1)) = q at *
    go_enter Tryd.func32, Tryd.ntmps32
    go_wp2_with fail
    refine (HLk.out _ (KA.out (.cells #[.int .i64 f, .int .i64 sz, .int .i64 l, .bool b] 53))).mono ?_
    rintro e w2 ⟨rfl, p2⟩
    go_wp2_with fail
    have FIN := HP.out _ (KA.out (.cells #[.int .i64 f, .int .i64 sz, .int .i64 l, .bool b] 53)) _ _ _ p2
    go_end0
    exact ⟨rfl, FIN⟩
  by_cases e8 : k = 8
  · subst e8
    rw [if_neg (by decide : ¬ (8 : Int) = 1), if_neg (by decide : ¬ (8 : Int) = 2), if_neg (by decide : ¬ (8 : Int) = 3), if_neg (by decide : ¬ (8 : Int) = 4), if_neg (by decide : ¬ (8 : Int) = 5), if_neg (by decide : ¬ (8 : Int) = 6), if_neg (by decide : ¬ (8 : Int) = 7), if_pos rfl]
    go_enter Tryd.func32, Tryd.ntmps32
    go_wp2_with fail
    go_region_law (first
      | (go_simp; go_at_call 62; (with_reducible refine (M4.out _).mono ?_); rintro e w1 ⟨rfl, k1⟩; have K1 := (KA.out (.cells #[.int .i64 f, .int .i64 sz, .int .i64 l, .bool b] 53)).drew.trans k1; have y4 := (HX.out w1 K1).c4)
      | (go_simp; go_at_call 18; (with_reducible refine (HS.out ⟨f, l, true⟩ _ K1).mono ?_); rintro e w2 ⟨rfl, p2⟩))
    all_goals
      have FIN := HP.out _ K1 _ _ _ p2
      go_end0
      exact ⟨rfl, FIN⟩
  by_cases e9 : k = 9
  · subst e9
    rw [if_neg (by decide : ¬ (9 : Int) = 1), if_neg (by decide : ¬ (9 : Int) = 2), if_neg (by decide : ¬ (9 : Int) = 3), if_neg (by decide : ¬ (9 : Int) = 4), if_neg (by decide : ¬ (9 : Int) = 5), if_neg (by decide : ¬ (9 : Int) = 6), if_neg (by decide : ¬ (9 : Int) = 7), if_neg (by decide : ¬ (9 : Int) = 8), if_pos rfl]
    go_enter Tryd.func32, Tryd.ntmps32
    go_wp2_with fail
    go_region_law (first
      | (go_simp; go_at_call 56; (with_reducible refine (M1.out _).mono ?_); rintro e w1 ⟨rfl, k1⟩; have K1 := (KA.out (.cells #[.int .i64 f, .int .i64 sz, .int .i64 l, .bool b] 53)).drew.trans k1; have y1 := (HX.out w1 K1).c1)
      | (go_simp; go_at_call 55; (with_reducible refine (HT.out ⟨4, l, b⟩ _ K1).mono ?_); rintro e w2 ⟨rfl, p2⟩))
    all_goals
      have FIN := HP.out _ K1 _ _ _ p2
      go_end0
      exact ⟨rfl, FIN⟩
  · simp only [if_neg e1, if_neg e2, if_neg e3, if_neg e4, if_neg e5, if_neg e6, if_neg e7, if_neg e8, if_neg e9]
    have u1 := beqF e1
    have u2 := beqF e2
    have u3 := beqF e3
    have u4 := beqF e4
    have u5 := beqF e5
    have u6 := beqF e6
    have u7 := beqF e7
    have u8 := beqF e8
    have u9 := beqF e9
    clear e1 e2 e3 e4 e5 e6 e7 e8 e9
    go_enter Tryd.func32, Tryd.ntmps32
    go_wp2_with fail
    go_end0
    exact ⟨rfl, HF.out _ (KA.out _)⟩
end
end Go.Proofs.YtfnkokfkhjdkfaaDoor

/-
  Contracts of spans and Make, of the package item.
-/
namespace Go.Proofs.YtfnkokfkhjdkfaaDoor
open Go.RowKit Go.Lib Go.Maps

theorem spns_app (sz : Int) : ∀ (a b : List St) (s : Sty) (p : List It × Int), spnsP sz (a ++ b) s p = spnsP sz b s (spnsP sz a s p)
  | [], b, s, p => rfl
  | x :: a, b, s, p => by
    rw [List.cons_append, spnsP, spnsP, spns_app sz a b s]
theorem spns_next {sz : Int} {l : List St} {i : Nat} {x : St} (h : l[i]? = some x) (s : Sty) (p : List It × Int) : spnsP sz (l.take (i + 1)) s p = spnP sz x s (spnsP sz (l.take i) s p) := by
  obtain ⟨hi, hx⟩ := List.getElem?_eq_some_iff.1 h
  rw [List.take_succ_eq_append_getElem hi, spns_app, hx, spnsP, spnsP]
theorem wL_take (l : List St) (i : Nat) : wL (l.take i) ≤ wL l := by
  induction l generalizing i with
  | nil => simp
  | cons y l ih =>
    cases i with
    | zero => simp [wL]
    | succ i =>
      have := ih i
      simp only [List.take_succ_cons, wL]
      omega
set_option maxRecDepth 100000 in
set_option maxHeartbeats 16000000 in
theorem spns_any : ∀ (n : Nat) {w0 : World} (sz : Int) (l : List St) (lv : Value), SizeOf.sizeOf l ≤ n → 0 ≤ sz → sz ≤ 2147483648 → EnvI w0 → StAt w0 l lv → SpansDo w0 sz l lv := by
  intro n
  induction n with
  | zero =>
    intro w0 sz l lv hf
    have : 0 < SizeOf.sizeOf l := by cases l <;> simp <;> omega
    omega
  | succ n ih =>
  intro w0 sz l lv hf h1 h2 hE hA s W B v its nx h hl hn hm
  obtain ⟨A, cap, rfl, hc1, hc2, hg⟩ := hA.slice
  unfold maxLen at hc2
  obtain ⟨m, hm0⟩ : ∃ m, l.length = m := ⟨_, rfl⟩
  have KA := Lib.hid (fun o => (Keeps.refl W).alloc o)
  have H0 := Lib.hid (fun o => h.to ((Keeps.refl W).alloc o))
  have M0 := Lib.hid (fun o => Mvd.keep (B := B) (v := v) ((Keeps.refl W).alloc o))
  have S0 := Lib.hid (Sd.new h)
  have IH : Hid (∀ (i g o : Nat) (x : St), l[i]? = some x → A = some ⟨g, o, none⟩ → ∀ (W1 : World) (v1 : Value) (its1 : List It) (nx1 : Int), Md w0 W1 B v1 its1 nx1 → its1.length ≤ its.length + 2 * wL (l.take i) → nx ≤ nx1 → nx1 ≤ nx + wL (l.take i) →
      Calls Tryd.prog 32 #[.pointer (some ⟨B, 0, none⟩), .pointer (some ⟨g, o + i * 5, none⟩), styV sz s] W1 fun e w' => e = .returned (.tuple #[]) ∧ PostMd w0 W1 B v1 (spnP sz x s (its1, nx1)).1 (spnP sz x s (its1, nx1)).2 w') := by
    refine Lib.hid fun i g o x hx hAg W1 v1 its1 nx1 hM b1 b2 b3 => ?_
    have hw := wL_at hx
    subst hAg
    obtain ⟨kd, t, d, ti, ks⟩ := x
    obtain ⟨kv, hc, hks⟩ := hA.at hx
    have hsz := size_st hx
    exact span_do sz s h1 h2 hE (ih sz ks kv (by omega) h1 h2 hE hks) hM hc (by omega) (by omega) (by omega)
  have HN := Lib.hid (fun i x (hx : l[i]? = some x) => spns_next (sz := sz) hx s (its, nx))
  have HL := Lib.hid (fun i => spns_len sz (l.take i) s (its, nx))
  have HE := Lib.hid (show spnsP sz (l.take m) s (its, nx) = spnsP sz l s (its, nx) by rw [List.take_of_length_le (Nat.le_of_eq hm0)])
  have HX := Lib.hid (fun i (hi : i < m) => (⟨l[i]'(by omega), List.getElem?_eq_getElem (by omega)⟩ : ∃ x, l[i]? = some x))
  have Z0 : Hid ((its, nx) = spnsP sz (l.take 0) s (its, nx)) := Lib.hid rfl
  rw [hm0] at hc1 hg ⊢
  clear hA h hE ih
  obtain ⟨f, lk, b⟩ := s
  unfold styV at *
  simp only at *
  go_enter Tryd.func18, Tryd.ntmps18
  go_wp2_with fail
  go_loopw [9] (fun y wr => ∃ (k : Nat) (v1 : Value) (its1 : List It) (nx1 : Int), k ≤ m ∧ y = .int .i64 k ∧ Hid (Md w0 wr B v1 its1 nx1) ∧ Hid (Mvd W wr B v v1) ∧ Hid (Sd B wr v1 W.heap.size 53 #[.int .i64 f, .int .i64 sz, .int .i64 lk, .bool b]) ∧ Hid ((its1, nx1) = spnsP sz (l.take k) ⟨f, lk, b⟩ (its, nx))) (fun y _ => m - (RowKit.intOf y).toNat)
  case atStart => exact ⟨0, v, its, nx, Nat.zero_le _, rfl, Lib.hid (H0.out _), Lib.hid (M0.out _), Lib.hid (S0.out _ _), Z0⟩
  case round =>
    obtain ⟨k, v1, its1, nx1, hk, rfl, HM, HV, HS, HP⟩ := hrel
    by_cases c : k < m
    · obtain ⟨g, o, rfl⟩ := hg (by omega)
      obtain ⟨x, hx⟩ := HX.out k c
      have L1 := HL.out k
      rw [← HP.out] at L1
      simp only at L1
      obtain ⟨l1, l2, l3⟩ := L1
      have NX := Lib.hid (HN.out k x hx)
      rw [← HP.out] at NX
      have CS := Lib.hid (IH.out k g o x hx rfl _ v1 its1 nx1 (HM.out.to (Keeps.refl _).drew) l1 l2 l3)
      have bs := HS.out.blk
      have s0 := bs.cell 0 (v := .int .i64 f) rfl
      have s1 := bs.cell 1 (v := .int .i64 sz) rfl
      have s2 := bs.cell 2 (v := .int .i64 lk) rfl
      have s3 := bs.cell 3 (v := .bool b) rfl
      clear bs hx l1 l2 l3
      go_wp2_with fail
      go_region_law (go_simp; go_at_call 32; (with_reducible refine CS.out.mono ?_); rintro e w2 ⟨rfl, p2⟩)
      all_goals
        obtain ⟨v2, m2, q2⟩ := PostMd.from (Keeps.refl _).drew p2
        have S2 := HS.out.moved q2
        have V2 := HV.out.trans q2
        clear p2 q2
        go_wp2_with fail
        go_roundw
        case rel => exact ⟨k + 1, v2, _, _, by omega, by go_num, Lib.hid m2, Lib.hid V2, Lib.hid S2, Lib.hid NX.out.symm⟩
        case measure => simp only [RowKit.intOf]; omega
    · have e : k = m := by omega
      subst e
      have EP := HP.out.trans HE.out
      have FIN : PostMd w0 W B v (spnsP sz l ⟨f, lk, b⟩ (its, nx)).1 (spnsP sz l ⟨f, lk, b⟩ (its, nx)).2 wr := by
        rw [← EP]
        exact ⟨v1, HM.out, HV.out⟩
      clear EP
      go_wp2_with fail
      go_end0
      exact ⟨rfl, FIN⟩
end Go.Proofs.YtfnkokfkhjdkfaaDoor

/-
  Contract of Make, of the package item.
-/
namespace Go.Proofs.YtfnkokfkhjdkfaaDoor
open Go.RowKit Go.Lib Go.Maps

/-- The slice v holds the items its; the call owns it. -/
def ItsAt (n₀ : Nat) (W : World) (v : Value) (its : List It) : Prop := W.ownsRow n₀ 42 9 v its.length (itR its)
theorem ItsAt.keep {n₀ : Nat} {W W' : World} {v : Value} {its : List It} (h : ItsAt n₀ W v its) (k : Keeps W W') : ItsAt n₀ W' v its := row_below h k
theorem ItsAt.form {n₀ : Nat} {W : World} {v : Value} {its : List It} (h : ItsAt n₀ W v its) : ∃ A cap, v = .slice A its.length cap ∧ its.length ≤ cap ∧ cap ≤ maxLen ∧ (0 < its.length → ∃ g, A = some ⟨g, 0, none⟩) := by
  rcases h.2 with ⟨rfl, h0⟩ | ⟨g, cap, cur, rfl, _, _, h1, h2, _⟩
  · exact ⟨none, 0, by rw [h0], by omega, Nat.zero_le _, fun q => by omega⟩
  · exact ⟨_, cap, rfl, h1, h2, fun _ => ⟨g, rfl⟩⟩
theorem ItsAt.cell {n₀ : Nat} {W : World} {its : List It} {g cap : Nat} (h : ItsAt n₀ W (.slice (some ⟨g, 0, none⟩) its.length cap) its) {i : Nat} (hi : i < its.length) (j : Nat) (hj : j < 9) : W.cell? ⟨g, i * 9 + j, none⟩ = (itC its[i])[j]? := by
  rw [← itR_at its i hi j hj]
  exact World.ownsRow.cellAt h _ (by omega)
/-- What Make tells. -/
def MakeP (w : World) (p : List It × Int) (e : Ending) (w' : World) : Prop := ∃ v, e = .returned (.tuple #[v, .int .i64 p.2]) ∧ ItsAt w.heap.size w' v p.1 ∧ Keeps w w'
set_option maxRecDepth 100000 in
set_option maxHeartbeats 8000000 in
theorem make_any (l : List St) (lv : Value) (f sz link : Int) (w : World) (hA : StAt w l lv) (hE : EnvI w) (h1 : 0 ≤ sz) (h2 : sz ≤ 2147483648) (hl : 2 * wL l ≤ 190000) (hn : 0 ≤ link) (hm : link + wL l ≤ 4611686018427387904) :
    Calls Tryd.prog 8 #[lv, .int .i64 f, .int .i64 sz, .int .i64 link] w (MakeP w (makeL l f sz link)) := by
  have M0 : Md w (w.alloc (.cells #[.slice none 0 0, .int .i64 link] 50)) w.heap.size (.slice none 0 0) [] link := ⟨Own.new w 50 [.int .i64 link] (Nat.le_refl _), (Keeps.refl w).alloc _⟩
  have CS := Lib.hid (spns_any _ sz l lv (Nat.le_refl _) h1 h2 hE hA ⟨f, 0, false⟩ _ _ _ _ _ M0 (by simpa using hl) hn hm)
  have HL := spns_len sz l ⟨f, 0, false⟩ ([], link)
  obtain ⟨A, cap, rfl, _, _, _⟩ := hA.slice
  clear M0 hA hE
  unfold makeL MakeP
  unfold styV at CS
  generalize spnsP sz l ⟨f, 0, false⟩ ([], link) = p at *
  obtain ⟨its, nx⟩ := p
  simp only at *
  go_enter Tryd.func8, Tryd.ntmps8
  go_wp2_with fail
  refine CS.out.mono ?_
  rintro e w1 ⟨rfl, v1, m1, q1⟩
  have CD := dropGlue_any m1 (by simp at HL; omega)
  clear q1 m1
  go_wp2_with fail
  refine CD.mono ?_
  rintro e w2 ⟨rfl, v2, m2, q2⟩
  have c0 := m2.own.box.cell 0 (v := v2) rfl
  have c1 := m2.own.box.cell 1 (v := .int .i64 nx) rfl
  obtain ⟨A2, cap2, rfl, _, _⟩ := row_form m2.own.row
  have FIN := Lib.hid (show ItsAt w.heap.size w2 (.slice A2 (dropG its).length cap2) (dropG its) from m2.own.row)
  have KK := Lib.hid m2.keep
  clear m2 q2
  go_wp2_with fail
  go_region
  go_wp2_with fail
  go_ret2
  exact ⟨_, rfl, FIN.out.keep (Keeps.refl _).drew, KK.out.drew⟩
end Go.Proofs.YtfnkokfkhjdkfaaDoor

/-
  Contract of the law's weight.
-/
namespace Go.Proofs.YtfnkokfkhjdkfaaDoor
open Go.RowKit Go.Lib Go.Maps

mutual
/-- How much spans are, as the law reckons. -/
def wH : St → Nat
  | .mk _ t _ _ ks => 10 + min t.length 2000 + wHs ks 0
def wHs : List St → Nat → Nat
  | [], n => n
  | x :: l, n => if n ≤ 2000 then wHs l (n + wH x) else n
end
mutual
theorem wH_le : ∀ x : St, wH x ≤ wS x
  | .mk _ t _ _ ks => by
    have := wHs_le ks 0
    rw [wH, wS]
    omega
theorem wHs_le : ∀ (l : List St) (n : Nat), wHs l n ≤ n + wL l
  | [], n => by rw [wHs, wL]; omega
  | x :: l, n => by
    have h1 := wH_le x
    have h2 := wHs_le l (n + wH x)
    rw [wHs, wL]
    split <;> omega
end
theorem wHs_ge : ∀ (l : List St) (n : Nat), n ≤ wHs l n
  | [], n => by rw [wHs]; exact Nat.le_refl _
  | x :: l, n => by
    have h2 := wHs_ge l (n + wH x)
    rw [wHs]
    split <;> omega
mutual
theorem wH_eq : ∀ x : St, wH x ≤ 2000 → wH x = wS x
  | .mk _ t _ _ ks, h => by
    rw [wH] at h ⊢
    have := wHs_eq ks 0 (by omega)
    rw [wS]
    omega
/-- Where it isn't much, nothing has been left out. -/
theorem wHs_eq : ∀ (l : List St) (n : Nat), wHs l n ≤ 2000 → wHs l n = n + wL l
  | [], n, _ => by rw [wHs, wL]; omega
  | x :: l, n, h => by
    rw [wHs] at h ⊢
    split at h
    · rename_i hn
      rw [if_pos hn]
      have h1 := wHs_ge l (n + wH x)
      have h2 := wH_eq x (by omega)
      have h3 := wHs_eq l (n + wH x) h
      rw [wL]
      omega
    · omega
end
theorem wHs_cat (l : List St) {i : Nat} (h : i < l.length) (n : Nat) : wHs (l.drop i) n = if n ≤ 2000 then wHs (l.drop (i + 1)) (n + wH l[i]) else n := by rw [List.drop_eq_getElem_cons h, wHs]
set_option maxRecDepth 100000 in
set_option maxHeartbeats 8000000 in
theorem weight19_any : ∀ (f : Nat) (l : List St) (W : World) (v : Value), SizeOf.sizeOf l ≤ f → StAt W l v → wL l ≤ 100000000 →
    Calls Tryd.prog 11 #[v] W fun e w' => e = .returned (.int .i64 (wHs l 0)) ∧ Keeps W w' := by
  intro f
  induction f with
  | zero =>
    intro l W v hf
    have : 0 < SizeOf.sizeOf l := by cases l <;> simp <;> omega
    omega
  | succ f ih =>
  intro l W v hf hA hw
  obtain ⟨A, cap, rfl, hc1, hc2, hg⟩ := hA.slice
  unfold maxLen at hc2
  have IH : Hid (∀ (i : Nat) (g o : Nat) (k : Int) (t d ti : List UInt8) (ks : List St), l[i]? = some (.mk k t d ti ks) → A = some ⟨g, o, none⟩ → ∃ kv, (∀ W1, Keeps W W1 → StC W1 g (o + i * 5) k t d ti kv) ∧ ∀ W1, Keeps W W1 → Calls Tryd.prog 11 #[kv] W1 fun e w' => e = .returned (.int .i64 (wHs ks 0)) ∧ Keeps W1 w') := by
    refine Lib.hid fun i g o k t d ti ks hx hAg => ?_
    have hwi := wL_at hx
    rw [wS_mk] at hwi
    subst hAg
    obtain ⟨kv, hc, hks⟩ := hA.at hx
    have hsz := size_st hx
    exact ⟨kv, fun W1 q => hc.keep q, fun W1 q => ih ks W1 kv (by omega) (hks.keep q) (by omega)⟩
  obtain ⟨m, hm0⟩ : ∃ m, l.length = m := ⟨_, rfl⟩
  have HM := Lib.hid hm0
  have HX : Hid (∀ i, i < m → ∃ k t d ti ks, l[i]? = some (St.mk k t d ti ks)) := Lib.hid fun i hi => by
    have h' : i < l.length := by omega
    rw [List.getElem?_eq_getElem h']
    cases l[i] with
    | mk k t d ti ks => exact ⟨k, t, d, ti, ks, rfl⟩
  have HW : Hid (∀ (i : Nat) (k : Int) (t d ti : List UInt8) (ks : List St), l[i]? = some (St.mk k t d ti ks) → ∀ n : Nat, wHs (l.drop i) n = if n ≤ 2000 then wHs (l.drop (i + 1)) (n + (10 + min t.length 2000 + wHs ks 0)) else n) := Lib.hid fun i k t d ti ks hx n => by
    obtain ⟨hi, e⟩ := List.getElem?_eq_some_iff.1 hx
    rw [wHs_cat l hi n, e, wH]
  have HK : Hid (∀ (i : Nat) (k : Int) (t d ti : List UInt8) (ks : List St), l[i]? = some (St.mk k t d ti ks) → wHs ks 0 ≤ 100000000) := Lib.hid fun i k t d ti ks hx => by
    have h1 := wL_at hx
    rw [wS_mk] at h1
    have h2 := wHs_le ks 0
    omega
  have Z0 : Hid (wHs (l.drop 0) 0 = wHs l 0) := Lib.hid rfl
  rw [hm0] at hc1 hg ⊢
  clear hA ih hf hm0
  go_enter Tryd.func11, Tryd.ntmps11
  go_wp2_with fail
  go_loopw [3, 4] (fun x y wr => ∃ (n i : Nat), i ≤ m ∧ x = .int .i64 n ∧ y = .int .i64 i ∧ n ≤ 200000000 ∧ Hid (Keeps W wr) ∧ Hid (wHs (l.drop i) n = wHs l 0)) (fun _ y _ => m - (RowKit.intOf y).toNat)
  case atStart => exact ⟨0, 0, Nat.zero_le _, rfl, rfl, by omega, Lib.hid (Keeps.refl _), Z0⟩
  case round =>
    obtain ⟨n, i, hi, rfl, rfl, hn, HR, HQ⟩ := hrel
    by_cases c : i < m
    · have b1 : decide ((i : Int) < (m : Int)) = true := decide_eq_true (by omega)
      by_cases c2 : n ≤ 2000
      · have b2 : decide ((n : Int) ≤ 2000) = true := decide_eq_true (by omega)
        obtain ⟨k, t, d, ti, ks, hx⟩ := HX.out i c
        obtain ⟨g, o, rfl⟩ := hg (by omega)
        obtain ⟨kv, hc, hcall⟩ := IH.out i g o k t d ti ks hx rfl
        have X := hc wr HR.out
        have x1 := X.c1
        have x4 := X.c4
        have CS := Lib.hid hcall
        have HN := HW.out i k t d ti ks hx n
        have HKK := HK.out i k t d ti ks hx
        rw [if_pos c2, HQ.out] at HN
        have HN2 := Lib.hid HN
        have hz : (⟨t.toArray⟩ : ByteArray).size = t.length := by show t.toArray.size = _; simp
        obtain ⟨tb, htb⟩ : ∃ tb : ByteArray, (⟨t.toArray⟩ : ByteArray) = tb := ⟨_, rfl⟩
        rw [htb] at x1 hz
        clear X hc hcall HN hx htb HQ
        generalize wHs ks 0 = q at *
        generalize hmn : min t.length 2000 = mn at *
        have hmi : (if (t.length : Int) < 2000 then (t.length : Int) else 2000) = (mn : Int) := by split <;> omega
        rw [← hz] at hmi
        obtain ⟨L, hL⟩ : ∃ L : List (Addr × Value), L = [(⟨g, o + i * 5 + 1, none⟩, .string tb), (⟨g, o + i * 5 + 4, none⟩, kv)] := ⟨_, rfl⟩
        have C0 : ∀ q ∈ L, wr.cell? q.1 = some q.2 := by rw [hL]; exact cells_cons x1 (cells_cons x4 (cells_nil _))
        have NE : Nonempty (InS (CellsK L wr)) := ⟨⟨_, CellsK.start C0⟩⟩
        have G1 : ∀ x : InS (CellsK L wr), x.w.cell? ⟨g, o + i * 5 + 1, none⟩ = some (.string tb) := fun x => x.ok.cells (_, _) (by rw [hL]; simp)
        have G2 : ∀ x : InS (CellsK L wr), x.w.cell? ⟨g, o + i * 5 + 4, none⟩ = some kv := fun x => x.ok.cells (_, _) (by rw [hL]; simp)
        have GO : Hid (∀ x : InS (CellsK L wr), Keeps W x.w) := Lib.hid (fun x => HR.out.trans x.ok.since)
        have hw1 : IntKind.i64.wrap ((n : Int) + 10) = (n : Int) + 10 := IntWalk.i64_in _ (by omega)
        have hw2 : IntKind.i64.wrap ((n : Int) + 10 + (mn : Int)) = (n : Int) + 10 + (mn : Int) := IntWalk.i64_in _ (by omega)
        have hw3 : IntKind.i64.wrap ((n : Int) + 10 + (mn : Int) + (q : Int)) = (n : Int) + 10 + (mn : Int) + (q : Int) := IntWalk.i64_in _ (by omega)
        have hi1 : (0 : Int) ≤ (i : Int) := by omega
        have hi2 : (i : Int) < (m : Int) := by omega
        clear hL x1 x4 hmn hz
        go_wp2_with fail
        refine wp_region_class (CellsK L wr) (by kernel_rfl) (by kernel_rfl) (CellsK.start C0) ?_
        repeat (go_big_quiet_step ((go_at_call 11; exact class_call (fun _ p k => p.keep k) (CS.out _ (GO.out _)))))
        refine wpQuiet_nil ?_
        rintro w5 ⟨⟨w6, h6⟩, rfl⟩
        have K6 := Lib.hid (HR.out.trans h6.since)
        clear NE G1 G2 GO C0 h6
        go_wp2_with fail
        go_roundw
        case rel => exact ⟨n + (10 + mn + q), i + 1, by omega, by go_num, by go_num, by omega, K6, Lib.hid HN2.out.symm⟩
        case measure => simp only [RowKit.intOf]; omega
      · have b2 : decide ((n : Int) ≤ 2000) = false := decide_eq_false (by omega)
        have hq : n = wHs l 0 := by
          obtain ⟨k, t, d, ti, ks, hx⟩ := HX.out i c
          have e := HW.out i k t d ti ks hx n
          rw [if_neg c2, HQ.out] at e
          exact e.symm
        have HF := Lib.hid hq
        clear hq HQ
        go_wp2_with fail
        go_ret
        exact ⟨ret_int (congrArg (fun x : Nat => (x : Int)) HF.out), HR.out⟩
    · have b1 : decide ((i : Int) < (m : Int)) = false := decide_eq_false (by omega)
      have e : i = m := by omega
      subst e
      have hq : n = wHs l 0 := by
        have e := HQ.out
        rw [List.drop_of_length_le (Nat.le_of_eq HM.out), wHs] at e
        exact e
      have HF := Lib.hid hq
      clear hq HQ
      go_wp2_with fail
      go_ret
      exact ⟨ret_int (congrArg (fun x : Nat => (x : Int)) HF.out), HR.out⟩
end Go.Proofs.YtfnkokfkhjdkfaaDoor


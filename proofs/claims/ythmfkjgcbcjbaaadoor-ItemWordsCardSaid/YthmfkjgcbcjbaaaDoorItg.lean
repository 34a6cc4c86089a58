/-
  Contract of text, of the package item.
-/
import Derived.Test.YthmfkjgcbcjbaaaDoorItf
namespace Go.Proofs.YthmfkjgcbcjbaaaDoor
open Go.RowKit Go.Lib Go.Maps

theorem txt_more {sz : Int} {s : Sty} {l : List UInt8} {j k : Nat} {its0 its : List It} (hk : k < l.length) (hj : j ≤ k) (hb : ¬ blankB l[k]) (h : txtP sz s ((l.take k).drop j) (l.drop k) its = its0) : txtP sz s ((l.take (k + 1)).drop j) (l.drop (k + 1)) its = its0 := by
  rw [List.drop_eq_getElem_cons hk, txtP, if_neg hb] at h
  rw [← h, List.take_succ_eq_append_getElem hk, List.drop_append_of_le_length (by rw [List.length_take]; omega)]
theorem txt_blank {sz : Int} {s : Sty} {l : List UInt8} {j k : Nat} {its0 its : List It} (hk : k < l.length) (hb : blankB l[k]) (h : txtP sz s ((l.take k).drop j) (l.drop k) its = its0) : txtP sz s ((l.take (k + 1)).drop (k + 1)) (l.drop (k + 1)) (glueP sz s (wordP sz s ((l.take k).drop j) its)) = its0 := by
  rw [List.drop_eq_getElem_cons hk, txtP, if_pos hb] at h
  rw [← h, List.drop_eq_nil_of_le (by rw [List.length_take]; omega)]
theorem txt_end {sz : Int} {s : Sty} {l : List UInt8} {j : Nat} {its0 its : List It} (h : txtP sz s ((l.take l.length).drop j) (l.drop l.length) its = its0) : wordP sz s (l.drop j) its = its0 := by
  rw [List.take_length, List.drop_length, txtP] at h
  exact h
/-- A block that the list's operations leave as it is. -/
structure Sd (B : Nat) (W : World) (v : Value) (b : Nat) (t : TypeId) (cs : Array Value) : Prop where
  blk : Blk W b t cs
  box : b ≠ B
  row : v.ownBlock ≠ some b
theorem Sd.moved {B : Nat} {W W' : World} {v v' : Value} {b : Nat} {t : TypeId} {cs : Array Value} (h : Sd B W v b t cs) (m : Mvd W W' B v v') : Sd B W' v' b t cs :=
  ⟨m.blk h.blk h.box h.row, h.box, by
    rcases m.lies with e | ⟨g, e, hg⟩
    · rw [e]; exact h.row
    · rw [e]; intro q; have := h.blk.lt; cases q; omega⟩
theorem Sd.keep {B : Nat} {W W' : World} {v : Value} {b : Nat} {t : TypeId} {cs : Array Value} (h : Sd B W v b t cs) (k : Keeps W W') : Sd B W' v b t cs := ⟨h.blk.keep k, h.box, h.row⟩
section
variable {w0 W : World} {B : Nat} {v : Value} {its : List It} {nx : Int}
theorem Sd.new (h : Md w0 W B v its nx) (t : TypeId) (cs : Array Value) : Sd B (W.alloc (.cells cs t)) v W.heap.size t cs :=
  ⟨Blk.new W t cs, fun e => by have := h.own.box.lt; omega, fun e => by have := (h.own.row.lt _ e).2; omega⟩
set_option maxRecDepth 100000 in
set_option maxHeartbeats 8000000 in
theorem text_any' (sz : Int) (s : Sty) (t : ByteArray) (h : Md w0 W B v its nx) (hl : its.length + 2 * t.size ≤ 999990) (h1 : 0 ≤ sz) (h2 : sz ≤ 2147483648) (hE : EnvI w0) (ht : t.size ≤ 100000) :
    Calls Tryd.prog 41 #[.pointer (some ⟨B, 0, none⟩), .string t, styV sz s] W fun e w' => e = .returned (.tuple #[]) ∧ PostMd w0 W B v (txtP sz s [] t.data.toList its) nx w' := by
  have HL := Lib.hid (bytes_len t)
  have H0 := Lib.hid (fun o => h.to ((Keeps.refl W).alloc o))
  have M0 := Lib.hid (fun o => Mvd.keep (B := B) (v := v) ((Keeps.refl W).alloc o))
  have S0 := Lib.hid (Sd.new h)
  have HW := Lib.hid (fun W1 v1 its1 (m : Md w0 W1 B v1 its1 nx) (x : ByteArray) (a : its1.length ≤ 999999) (b : x.size ≤ 100000) => word_any sz s x m a h1 h2 hE b)
  have HG := Lib.hid (fun W1 v1 its1 (m : Md w0 W1 B v1 its1 nx) (a : its1.length ≤ 999999) => mglue_any sz s m a h1 h2 hE.fnt)
  have WL := Lib.hid (fun x l => word_len sz s x l)
  have GL := Lib.hid (fun l => glue_len sz s l)
  have E0 : Hid (txtP sz s ((t.data.toList.take 0).drop 0) (t.data.toList.drop 0) its = txtP sz s [] t.data.toList its) := Lib.hid rfl
  have HIB := Lib.hid (fun b w => isBlank_any b w)
  have ES : Hid (∀ j k : Nat, k ≤ t.size → (t.extract j k).data.toList = (t.data.toList.take k).drop j) := Lib.hid (fun j k _ => by rw [Lib.extract_data, ← List.drop_take])
  clear h hE
  obtain ⟨f, l, b⟩ := s
  unfold styV at *
  simp only at *
  go_enter Tryd.func41, Tryd.ntmps41
  go_wp2_with fail
  go_loopw [6, 10] (fun x y wr => ∃ (j k : Nat) (v1 : Value) (its1 : List It), j ≤ k ∧ k ≤ t.size ∧ x = .int .i64 j ∧ y = .int .i64 k ∧ Hid (Md w0 wr B v1 its1 nx) ∧ Hid (Mvd W wr B v v1) ∧ Hid (Sd B wr v1 W.heap.size 50 #[.int .i64 f, .int .i64 sz, .int .i64 l, .bool b]) ∧ its1.length ≤ its.length + 2 * j ∧ Hid (txtP sz ⟨f, l, b⟩ ((t.data.toList.take k).drop j) (t.data.toList.drop k) its1 = txtP sz ⟨f, l, b⟩ [] t.data.toList its)) (fun _ y _ => t.size - (RowKit.intOf y).toNat)
  case atStart => exact ⟨0, 0, v, its, Nat.le_refl _, Nat.zero_le _, rfl, rfl, Lib.hid (H0.out _), Lib.hid (M0.out _), Lib.hid (S0.out _ _), by omega, E0⟩
  case round =>
    obtain ⟨j, k, v1, its1, hjk, hkn, rfl, rfl, HM, HV, HS, hln, HT⟩ := hrel
    have bs := HS.out.blk
    have s0 := bs.cell 0 (v := .int .i64 f) rfl
    have s1 := bs.cell 1 (v := .int .i64 sz) rfl
    have s2 := bs.cell 2 (v := .int .i64 l) rfl
    have s3 := bs.cell 3 (v := .bool b) rfl
    clear bs
    by_cases c : k < t.size
    · have hk' : k < t.data.toList.length := by rw [HL.out]; exact c
      have hg : t.data.toList[k] = t[k] := rfl
      have e1 : (0 : Int) ≤ (j : Int) := by omega
      have e2 : (j : Int) ≤ (k : Int) := by omega
      have e3 : (k : Int) ≤ (t.size : Int) := by omega
      by_cases hb : blankB t[k]
      · have IB := Lib.hid (fun w => HIB.out t[k] w)
        rw [decide_eq_true hb] at IB
        have HN := Lib.hid (txt_blank hk' (by rw [hg]; exact hb) HT.out)
        have CW := Lib.hid (HW.out _ _ _ (HM.out.to (Keeps.refl _).drew) (t.extract j k) (by omega) (by rw [ByteArray.size_extract]; omega))
        rw [ES.out j k (by omega)] at CW
        have hw2 := WL.out ((t.data.toList.take k).drop j) its1
        have hw3 := GL.out (wordP sz ⟨f, l, b⟩ ((t.data.toList.take k).drop j) its1)
        generalize wordP sz ⟨f, l, b⟩ ((t.data.toList.take k).drop j) its1 = its2 at *
        clear hb
        go_wp2_with fail
        refine (IB.out _).mono ?_
        rintro e w1 ⟨rfl, rfl⟩
        go_wp2_with fail
        go_region_law (go_simp; go_at_call 55; (with_reducible refine CW.out.mono ?_); rintro e w2 ⟨rfl, p2⟩)
        all_goals
          obtain ⟨v2, m2, q2⟩ := PostMd.from (Keeps.refl _).drew p2
          have S2 := HS.out.moved q2
          have bs := S2.blk
          have s0 := bs.cell 0 (v := .int .i64 f) rfl
          have s1 := bs.cell 1 (v := .int .i64 sz) rfl
          have s2 := bs.cell 2 (v := .int .i64 l) rfl
          have s3 := bs.cell 3 (v := .bool b) rfl
          have CG := HG.out _ _ _ m2 (by omega)
          have V2 := Lib.hid (HV.out.trans q2)
          clear bs m2 p2 q2
          go_wp2_with fail
          refine CG.mono ?_
          rintro e w3 ⟨rfl, v3, m3, q3⟩
          have S3 := S2.moved q3
          have V3 := V2.out.trans q3
          clear q3 S2 s0 s1 s2 s3
          go_wp2_with fail
          go_roundw
          case rel => exact ⟨k + 1, k + 1, v3, _, Nat.le_refl _, by omega, by go_num, by go_num, Lib.hid m3, Lib.hid V3, Lib.hid S3, by omega, HN⟩
          case measure => simp only [RowKit.intOf]; omega
      · have IB := Lib.hid (fun w => HIB.out t[k] w)
        rw [decide_eq_false hb] at IB
        have HN := Lib.hid (txt_more hk' hjk (by rw [hg]; exact hb) HT.out)
        clear hb
        go_wp2_with fail
        refine (IB.out _).mono ?_
        rintro e w1 ⟨rfl, rfl⟩
        go_wp2_with fail
        go_roundw
        case rel => exact ⟨j, k + 1, v1, its1, by omega, by omega, rfl, by go_num, HM, HV, HS, hln, HN⟩
        case measure => simp only [RowKit.intOf]; omega
    · have hkk : k = t.data.toList.length := by rw [HL.out]; omega
      have HT2 := HT.out
      rw [hkk] at HT2
      have HN := Lib.hid (txt_end HT2)
      have ex : (t.extract j t.size).data.toList = t.data.toList.drop j := by rw [ES.out j t.size (Nat.le_refl _), List.take_of_length_le (Nat.le_of_eq HL.out)]
      have CW := Lib.hid (HW.out _ _ _ (HM.out.to (Keeps.refl _).drew) (t.extract j t.size) (by omega) (by rw [ByteArray.size_extract]; omega))
      rw [ex, HN.out] at CW
      have e1 : (0 : Int) ≤ (j : Int) := by omega
      have e2 : (j : Int) ≤ (t.size : Int) := by omega
      clear hkk ex HT HT2
      go_wp2_with fail
      go_region_law (go_simp; go_at_call 55; (with_reducible refine CW.out.mono ?_); rintro e w2 ⟨rfl, p2⟩)
      all_goals
        obtain ⟨v2, m2, q2⟩ := PostMd.from (Keeps.refl _).drew p2
        have FIN : PostMd w0 W B v (txtP sz ⟨f, l, b⟩ [] t.data.toList its) nx w2 := ⟨v2, m2, HV.out.trans q2⟩
        go_end0
        exact ⟨rfl, FIN⟩
end
end Go.Proofs.YthmfkjgcbcjbaaaDoor

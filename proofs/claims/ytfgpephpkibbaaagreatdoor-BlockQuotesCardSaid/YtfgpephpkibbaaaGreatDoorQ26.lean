/-
  Texts of the proof, one behind the other: Srcm.
-/
import Derived.Test.YtfgpephpkibbaaaGreatDoorQ8
import Derived.Test.YtfgpephpkibbaaaGreatDoorQ20
import Derived.Test.YtfgpephpkibbaaaGreatDoorQ21
import Derived.Deep.DeepCutAuto
import Derived.Deep.CutBlock
/-
  Contract of Trim.
-/
namespace Go.Proofs.YtfgpephpkibbaaaGreatDoor
open Go.RowKit Go.Lib

/-- Where Trim's loop stands. -/
def TrimAt (l : List UInt8) (pos st en : Nat) : Prop :=
  (st = l.length ∧ (∀ b ∈ l.take pos, ws b = true) ∧ en = if pos = 0 then l.length else 0) ∨
  (∃ a m b, l.take pos = a ++ m ++ b ∧ (∀ x ∈ a, ws x = true) ∧ (∀ x ∈ b, ws x = true) ∧ m ≠ [] ∧ Core m ∧ st = a.length ∧ en = if b = [] then l.length else a.length + m.length)
theorem trimAt_bd {l : List UInt8} {pos st en : Nat} (h : TrimAt l pos st en) (hp : pos ≤ l.length) : st ≤ l.length ∧ en ≤ l.length := by
  rcases h with ⟨rfl, _, rfl⟩ | ⟨a, m, b, e, _, _, _, _, rfl, rfl⟩
  · exact ⟨Nat.le_refl _, by split <;> omega⟩
  · have := congrArg List.length e
    rw [List.length_take, List.length_append, List.length_append] at this
    exact ⟨by omega, by split <;> omega⟩
theorem core_chunk {c : List UInt8} (hn : c ≠ []) (h : ∀ x ∈ c, ws x = false) : Core c := by
  refine .inr ⟨?_, c.dropLast, c.getLast hn, (List.dropLast_concat_getLast hn).symm, h _ (List.getLast_mem hn)⟩
  cases c with
  | nil => exact absurd rfl hn
  | cons a t => exact ⟨a, t, rfl, h a (List.mem_cons_self ..)⟩
theorem core_join {m b c : List UInt8} (hm : Core m) (hmn : m ≠ []) (hn : c ≠ []) (h : ∀ x ∈ c, ws x = false) : Core (m ++ b ++ c) := by
  rcases hm with e | ⟨⟨a, t, rfl, wa⟩, _⟩
  · exact absurd e hmn
  · refine .inr ⟨⟨a, t ++ b ++ c, rfl, wa⟩, (a :: t) ++ b ++ c.dropLast, c.getLast hn, ?_, h _ (List.getLast_mem hn)⟩
    conv => lhs; rw [← List.dropLast_concat_getLast hn]
    simp
/-- A rune that is none of the three. -/
theorem trimAt_other {l : List UInt8} {pos st en n : Nat} {r : Int} (t : TrimAt l pos st en) (h : Step l pos r n) (hw : ∀ x ∈ (l.drop pos).take n, ws x = false) : TrimAt l (pos + n) (min pos st) l.length := by
  have h1 := h.one
  have h2 := h.room
  have hlen : ((l.drop pos).take n).length = n := by rw [List.length_take, List.length_drop]; omega
  have hne : (l.drop pos).take n ≠ [] := fun e => by rw [e] at hlen; simp at hlen; omega
  have htl : (l.take pos).length = pos := by rw [List.length_take]; omega
  rcases t with ⟨rfl, ha, _⟩ | ⟨a, m, b, e, ha, hb, hm, hc, rfl, _⟩
  · refine .inr ⟨l.take pos, (l.drop pos).take n, [], by rw [h.next, List.append_nil], ha, (fun _ h => by cases h), hne, core_chunk hne hw, by rw [htl]; omega, by rw [if_pos rfl]⟩
  · refine .inr ⟨a, m ++ b ++ (l.drop pos).take n, [], by rw [h.next, e]; simp, ha, (fun _ h => by cases h), by simp [hm], core_join hc hm hne hw, ?_, by rw [if_pos rfl]⟩
    have := congrArg List.length e
    rw [htl, List.length_append, List.length_append] at this
    omega
/-- A blank, a tab, an LF: the place is kept where there is none. -/
theorem trimAt_ws {l : List UInt8} {pos st en n : Nat} {r : Int} {c : UInt8} (t : TrimAt l pos st en) (h : Step l pos r n) (he : (l.drop pos).take n = [c]) (hw : ws c = true) : TrimAt l (pos + n) st (if en = l.length then pos else en) := by
  have h1 := h.one
  have h2 := h.room
  have htl : (l.take pos).length = pos := by rw [List.length_take]; omega
  rcases t with ⟨rfl, ha, rfl⟩ | ⟨a, m, b, e, ha, hb, hm, hc, rfl, rfl⟩
  · refine .inl ⟨rfl, fun b hb => ?_, ?_⟩
    · rw [h.next, he, List.mem_append, List.mem_singleton] at hb
      rcases hb with hb | rfl
      · exact ha b hb
      · exact hw
    · rw [if_neg (show ¬ pos + n = 0 by omega)]
      split
      · split at * <;> omega
      · split at * <;> omega
  · have hl := congrArg List.length e
    rw [htl, List.length_append, List.length_append] at hl
    refine .inr ⟨a, m, b ++ [c], by rw [h.next, he, e, List.append_assoc (a ++ m)], ha, fun x hx => ?_, hm, hc, rfl, ?_⟩
    · rcases List.mem_append.1 hx with hx | hx
      · exact hb x hx
      · rw [List.mem_singleton] at hx; subst hx; exact hw
    · rw [if_neg (show ¬ b ++ [c] = [] by simp)]
      by_cases hbn : b = []
      · rw [if_pos hbn, if_pos rfl, hl, hbn]; rfl
      · rw [if_neg hbn, if_neg]
        intro hh
        omega
/-- .. and at the end. -/
theorem trimAt_end {l : List UInt8} {pos st en : Nat} (t : TrimAt l pos st en) (hp : pos = l.length) : (st = l.length ∧ trimL l = []) ∨ (st < l.length ∧ st ≤ en ∧ en ≤ l.length ∧ (l.drop st).take (en - st) = trimL l) := by
  subst hp
  rcases t with ⟨h, ha, _⟩ | ⟨a, m, b, e, ha, hb, hm, hc, rfl, rfl⟩
  · rw [List.take_length] at ha
    exact .inl ⟨h, by simpa using trim_of (a := l) (m := []) (b := []) ha (fun _ h => by cases h) (.inl rfl)⟩
  · rw [List.take_length] at e
    have hl := congrArg List.length e
    rw [List.length_append, List.length_append] at hl
    have hmp : 0 < m.length := List.length_pos_iff.2 hm
    have hen : (if b = [] then l.length else a.length + m.length) = a.length + m.length := by
      split
      · next h => rw [hl, h]; rfl
      · rfl
    rw [hen]
    refine .inr ⟨by omega, by omega, by omega, ?_⟩
    have : trimL l = m := by rw [e]; exact trim_of ha hb hc
    rw [this, e, List.append_assoc, List.drop_left, show a.length + m.length - a.length = m.length by omega, List.take_left]
/-- What kind of rune it is. -/
theorem ws_of {l : List UInt8} {pos n : Nat} {r : Int} (h : Step l pos r n) :
    (∃ c, (l.drop pos).take n = [c] ∧ ws c = true ∧ (bl r = true ∨ (bl r = false ∧ r = 10))) ∨ ((∀ x ∈ (l.drop pos).take n, ws x = false) ∧ bl r = false ∧ ¬ r = 10) := by
  rcases h.kind with ⟨rfl, h2, b, h3, h4⟩ | ⟨h2, h3⟩
  · have e : bl r = isB b := by
      unfold bl isB
      rw [← h4]
      congr 1 <;> (rw [Bool.eq_iff_iff]; simp only [decide_eq_true_eq]; omega)
    by_cases hb : isB b = true
    · exact .inl ⟨b, h3, by unfold ws; rw [hb]; rfl, .inl (e.trans hb)⟩
    · have hb' : isB b = false := by simpa using hb
      by_cases h10 : b.toNat = 10
      · exact .inl ⟨b, h3, by unfold ws; rw [decide_eq_true h10]; simp, .inr ⟨e.trans hb', by omega⟩⟩
      · refine .inr ⟨fun x hx => ?_, e.trans hb', by omega⟩
        rw [h3, List.mem_singleton] at hx
        subst hx
        unfold ws; rw [hb', decide_eq_false h10]; rfl
  · refine .inr ⟨fun x hx => ws_big (h3 x hx), ?_, by omega⟩
    unfold bl; rw [decide_eq_false (by omega), decide_eq_false (by omega)]; rfl

set_option maxRecDepth 100000 in
set_option maxHeartbeats 1000000 in
theorem trim_any (s : ByteArray) (w : World) (hs : s.size ≤ 100000) :
    Calls Tryz.prog 96 #[.string s] w fun e w' => e = .returned (.string ⟨(trimL s.data.toList).toArray⟩) ∧ Keeps w w' := by
  have hl := Lib.hid (bytes_len s)
  have CL := Lib.hid (fun a W h => clone_any a W h)
  go_enter Tryz.func96, Tryz.ntmps96
  go_wp2_with fail
  go_loopw [3, 4] (fun x y wr => ∃ (pos st en : Nat), pos ≤ s.size ∧ st ≤ s.size ∧ en ≤ s.size ∧ Hid (TrimAt s.data.toList pos st en) ∧ Hid (wr.heap[w.heap.size]? = some (.stringIter s pos)) ∧ Hid (Keeps w wr) ∧ x = .int .i64 st ∧ y = .int .i64 en) (fun _ _ wr => s.size - wr.iterPos w.heap.size)
  case atStart => exact ⟨0, s.size, s.size, Nat.zero_le _, Nat.le_refl _, Nat.le_refl _, Lib.hid (.inl ⟨hl.out.symm, by simp, by rw [if_pos rfl]; exact hl.out.symm⟩), Lib.hid (World.iter_heap w s 0), Lib.hid ((Keeps.refl w).iter s 0), rfl, rfl⟩
  case round =>
    obtain ⟨pos, st, en, hp, hst0, hen0, HT, HI, HK, rfl, rfl⟩ := hrel
    by_cases c : pos < s.size
    · obtain ⟨r, n, hst, hnx⟩ := next_at (P := Tryz.prog) HI.out c
      have h0 := hst.low
      have h1 := hst.high
      have hn1 := hst.one
      have hroom : pos + n ≤ s.size := by have := hst.room; have := hl.out; omega
      have HI2 := Lib.hid (iterAt_heap wr w.heap.size s pos (pos + n) HI.out)
      have HK2 := Lib.hid (HK.out.iterAt (Nat.le_refl _) s (pos + n))
      have HS := Lib.hid hst
      have P1 := Lib.hid (pos_at HI.out)
      clear hst
      rcases ws_of HS.out with ⟨b, e1, e2, e3⟩ | ⟨e1, e2, e3⟩
      · have HT2 := trimAt_ws HT.out HS.out e1 e2
        rw [hl.out] at HT2
        by_cases ce : en = s.size
        · subst ce
          rw [if_pos rfl] at HT2
          have HT3 := Lib.hid HT2
          clear HT2 e1 e2
          rcases e3 with e3 | ⟨e3, e4⟩
          · have IB := Lib.hid (fun W => isBlank_yes r W e3)
            clear e3
            go_wp2_with fail
            refine (IB.out _).mono ?_
            rintro e w1 ⟨rfl, rfl⟩
            go_wp2_with fail
            go_roundw
            case rel => exact ⟨pos + n, st, pos, hroom, hst0, hp, HT3, HI2, HK2, rfl, rfl⟩
            case measure => rw [P1.out, pos_at HI2.out]; omega
          · have IB := Lib.hid (fun W => isBlank_no r W e3)
            subst e4
            clear e3
            go_wp2_with fail
            refine (IB.out _).mono ?_
            rintro e w1 ⟨rfl, rfl⟩
            go_wp2_with fail
            go_roundw
            case rel => exact ⟨pos + n, st, pos, hroom, hst0, hp, HT3, HI2, HK2, rfl, rfl⟩
            case measure => rw [P1.out, pos_at HI2.out]; omega
        · rw [if_neg ce] at HT2
          have HT3 := Lib.hid HT2
          have te : (en == s.size) = false := beq_eq_false_iff_ne.2 ce
          clear HT2 e1 e2 ce
          rcases e3 with e3 | ⟨e3, e4⟩
          · have IB := Lib.hid (fun W => isBlank_yes r W e3)
            clear e3
            go_wp2_with fail
            refine (IB.out _).mono ?_
            rintro e w1 ⟨rfl, rfl⟩
            go_wp2_with fail
            go_roundw
            case rel => exact ⟨pos + n, st, en, hroom, hst0, hen0, HT3, HI2, HK2, rfl, rfl⟩
            case measure => rw [P1.out, pos_at HI2.out]; omega
          · have IB := Lib.hid (fun W => isBlank_no r W e3)
            subst e4
            clear e3
            go_wp2_with fail
            refine (IB.out _).mono ?_
            rintro e w1 ⟨rfl, rfl⟩
            go_wp2_with fail
            go_roundw
            case rel => exact ⟨pos + n, st, en, hroom, hst0, hen0, HT3, HI2, HK2, rfl, rfl⟩
            case measure => rw [P1.out, pos_at HI2.out]; omega
      · have HT2 := trimAt_other HT.out HS.out e1
        rw [hl.out] at HT2
        have HT3 := Lib.hid HT2
        have IB := Lib.hid (fun W => isBlank_no r W e2)
        have t10 : (r != 10) = true := by simpa using e3
        have HM : Hid (min (st : Int) (pos : Int) = ((min pos st : Nat) : Int)) := by
          have : min (st : Int) (pos : Int) = ((min pos st : Nat) : Int) := by omega
          exact Lib.hid this
        have hm2 : min pos st ≤ s.size := by omega
        clear HT2 e1 e2 e3
        generalize min pos st = q at *
        go_wp2_with fail
        refine (IB.out _).mono ?_
        rintro e w1 ⟨rfl, rfl⟩
        go_wp2_with fail
        go_roundw
        case rel => exact ⟨pos + n, q, s.size, hroom, hm2, Nat.le_refl _, HT3, HI2, HK2, congrArg (Value.int .i64) HM.out, rfl⟩
        case measure => rw [P1.out, pos_at HI2.out]; omega
    · have hit := HI.out
      have hnx : ∀ ty, (Instr.next (.pointer (some ⟨w.heap.size, 0, none⟩)) true ty).run Tryz.prog wr = _ := fun ty => run_next_end_at wr w.heap.size s pos ty hit c
      clear hit
      rcases trimAt_end HT.out (by have := hl.out; omega) with ⟨e1, e2⟩ | ⟨e1, e2, e3, e4⟩
      · rw [hl.out] at e1
        subst e1
        have HE := Lib.hid e2
        clear e2
        go_wp2_with fail
        go_ret
        exact ⟨ret_bytes (bytes_eq (by rw [HE.out])), HK.out⟩
      · rw [hl.out] at e1 e3
        have te : (st == s.size) = false := beq_eq_false_iff_ne.2 (by omega)
        have HE := Lib.hid e4
        clear e4
        go_wp2_with fail
        refine (CL.out _ _ (by rw [ByteArray.size_extract]; omega)).mono ?_
        rintro e w2 ⟨rfl, k2⟩
        go_wp2_with fail
        go_ret
        exact ⟨ret_bytes (bytes_eq (by rw [Lib.extract_data, HE.out])), HK.out.trans k2⟩
end Go.Proofs.YtfgpephpkibbaaaGreatDoor


/-
  Contract of the package wrap: Breaks.
-/
import Derived.Test.YtjkkinccehfmoaaWcm
namespace Go.Proofs.Ytjkkinccehfmoaa
open Go.RowKit Go.Lib Go.Maps

set_option maxRecDepth 100000 in
set_option maxHeartbeats 8000000 in
theorem breaks_any (l : List It) (lv : Value) (wd : Int) (W : World) (hA : IsAt W l lv) (hl : l.length ≤ 1000) (hx : ∀ x ∈ l, itW x) (h1 : -1152921504606846976 ≤ wd) (h2 : wd ≤ 1152921504606846976) :
    Calls Try.prog 8 #[lv, .int .i64 wd] W fun e w' => ∃ (v : Value) (es : List Nat) (ok : Bool), e = .returned (.tuple #[v, .bool ok]) ∧ NsAt w' es v ∧ BrkOk l wd es ok ∧ Keeps W w' := by
  have PO := Lib.hid (placesOf_any l lv W hA hl hx)
  have HA := Lib.hid hA
  obtain ⟨A0, cp, hlv, hc1, hc2, _⟩ := hA
  unfold maxLen at hc2
  have HX := Lib.hid hx
  obtain ⟨n, hn⟩ : ∃ n, l.length = n := ⟨_, rfl⟩
  have HN := Lib.hid hn
  subst hlv
  rw [hn] at hl hc1 PO ⊢
  have HA2 : Hid (IsAt W l (.slice A0 n cp)) := Lib.hid (by have := HA.out; rwa [hn] at this)
  clear hx HA hn
  go_enter Try.func8, Try.ntmps8
  go_wp2_with fail
  refine PO.out.mono ?_
  rintro e w1 ⟨cs, rfl, hb1, hs1, ha1, hp1, k1⟩
  have K1 := Lib.hid k1
  have HE := Lib.hid (⟨HA2.out.keep k1, ⟨W.heap.size, cs, by rw [HN.out], hb1, by rw [HN.out]; exact ha1, hp1⟩, by rw [HN.out]; exact hl, HX.out, h1, h2⟩ : BrE w1 l (.slice A0 n cp) (.slice (some ⟨W.heap.size, 0, none⟩) (n + 1) (n + 1)) wd)
  have hM : BrM w1 (w1.alloc (.cells #[.slice A0 n cp, .slice (some ⟨W.heap.size, 0, none⟩) (n + 1) (n + 1), .int .i64 wd, .slice none 0 0, .int .i64 0] 41)) w1.heap.size (.slice A0 n cp) (.slice (some ⟨W.heap.size, 0, none⟩) (n + 1) (n + 1)) wd (.slice none 0 0) [] 0 :=
    ⟨Blk.new w1 _ _, Nat.le_refl _, World.ownsRow_nil _ _ _ _, (fun e => by cases e), (Keeps.refl w1).alloc _⟩
  obtain ⟨A8, c8, w8, ra, b8, h8⟩ := hM.made ⟨0, 0, -1⟩ (by simp)
  simp only at ra
  rw [show (((0 : Nat) : Int) - 1) = -1 by omega, show (w1.alloc (.cells #[.slice A0 n cp, .slice (some ⟨W.heap.size, 0, none⟩) (n + 1) (n + 1), .int .i64 wd, .slice none 0 0, .int .i64 0] 41)).heap.size = w1.heap.size + 1 by simp] at ra
  simp only [List.length_nil, Nat.zero_add, List.nil_append] at ra h8
  have q3 := b8.cell 3 (v := .slice none 0 0) rfl
  have q3f := b8.free 3
  have HM := Lib.hid h8
  clear hb1 hs1 ha1 hp1 k1 hM b8 h8
  go_wp2_with (at_builtin; refine wpList_append_run rfl (.tmp 14) (.tmp 16) _ _ rfl _ _ (by rfl) (by rfl) _ _ ra ?_)
  go_loopw [22] (fun y wr => ∃ i : Nat, i ≤ n + 1 ∧ y = .int .i64 i ∧ Hid (∃ (wv : Value) (ws : List Wy) (fi : Nat), BrM w1 wr w1.heap.size (.slice A0 n cp) (.slice (some ⟨W.heap.size, 0, none⟩) (n + 1) (n + 1)) wd wv ws fi ∧ WsOk l wd ws i ∧ FrOk l wd ws fi i)) (fun y _ => n + 1 - (RowKit.intOf y).toNat)
  case atStart => exact ⟨0, Nat.zero_le _, rfl, Lib.hid ⟨_, _, _, HM.out, WsOk.start l wd, FrOk.start l wd⟩⟩
  case round =>
    obtain ⟨i, hi, rfl, HR⟩ := hrel
    obtain ⟨wv, ws, fi, hm, hw, hf⟩ := HR.out
    by_cases c : i < n + 1
    · have tc : decide ((i : Int) < (n : Int) + 1) = true := decide_eq_true (by omega)
      have LG := Lib.hid (legal_any l (.slice A0 n cp) i wr (HA2.out.keep (K1.out.trans hm.keep)) (by rw [HN.out]; omega) (by rw [HN.out]; exact hl))
      cases hg : legP l i with
      | false =>
        rw [hg] at LG
        have NX := Lib.hid (⟨wv, ws, fi, hm, hw.skip hg, hf.skip (by rw [HN.out]; omega) hg⟩ : ∃ (wv : Value) (ws : List Wy) (fi : Nat), BrM w1 wr w1.heap.size (.slice A0 n cp) (.slice (some ⟨W.heap.size, 0, none⟩) (n + 1) (n + 1)) wd wv ws fi ∧ WsOk l wd ws (i + 1) ∧ FrOk l wd ws fi (i + 1))
        clear hm hw hf hg HR
        go_wp2_with fail
        refine LG.out.mono ?_
        rintro e w4 ⟨rfl, rfl⟩
        go_wp2_with fail
        go_roundw
        case rel => exact ⟨i + 1, by omega, by go_num, NX⟩
        case measure => simp only [RowKit.intOf]; omega
      | true =>
        rw [hg] at LG
        have RC := Lib.hid (reach_any i hm HE.out (by rw [HN.out]; omega) hg hw hf)
        clear hm hw hf hg HR
        go_wp2_with fail
        refine LG.out.mono ?_
        rintro e w4 ⟨rfl, rfl⟩
        go_wp2_with fail
        refine RC.out.mono ?_
        rintro e w5 ⟨rfl, NX⟩
        have NX := Lib.hid NX
        go_wp2_with fail
        go_roundw
        case rel => exact ⟨i + 1, by omega, by go_num, NX⟩
        case measure => simp only [RowKit.intOf]; omega
    · have e : i = n + 1 := by omega
      subst e
      have tc : decide (((n + 1 : Nat) : Int) < (n : Int) + 1) = false := decide_eq_false (by omega)
      have EN := Lib.hid (ends_any hm HE.out.its (by rw [HN.out]; exact hl) (by rw [HN.out]; exact hw))
      have KK := Lib.hid (K1.out.trans hm.keep)
      clear hm hw hf HR
      go_wp2_with fail
      refine EN.out.mono ?_
      rintro e w5 ⟨v, es, ok, rfl, hns, hbk, k5⟩
      go_wp2_with fail
      go_ret2
      exact ⟨v, es, ok, rfl, hns, hbk, KK.out.trans k5⟩
end Go.Proofs.Ytjkkinccehfmoaa

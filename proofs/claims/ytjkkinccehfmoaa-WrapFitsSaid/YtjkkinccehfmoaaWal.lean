/-
  Walk of the law WrapAlone.
-/
import Derived.Test.YtjkkinccehfmoaaWlr
namespace Go.Proofs.Ytjkkinccehfmoaa
open Go.RowKit Go.Lib Go.Maps

theorem cost_none {l : List It} {wd : Int} (h : canO l wd 0 l.length = none) : costP l wd 0 0 [l.length] = (0, false) := cost_can h
theorem cost_one {l : List It} {wd p : Int} (h : canO l wd 0 l.length = some p) : costP l wd 0 0 [l.length] = (p, true) := by
  have := (one_chain h).cost []
  rw [List.append_nil] at this
  rw [this, costP, if_pos rfl]
theorem cost_chain {l : List It} {wd : Int} {es : List Nat} {c : Int} (h : Chain l wd es (l.length + 1) c) : costP l wd 0 0 es = (c, true) := by
  have := h.cost []
  rw [List.append_nil] at this
  rw [this, costP, if_pos rfl]
theorem cost_nil (l : List It) (wd : Int) : costP l wd 0 0 [] = (0, false) := by rw [costP, if_neg (by omega)]
theorem chain_le {l : List It} {wd : Int} {es : List Nat} {f : Nat} {c : Int} (h : Chain l wd es f c) : ∀ e ∈ es, e ≤ l.length := by
  intro e he
  obtain ⟨i, hi, rfl⟩ := List.getElem_of_mem he
  obtain ⟨_, _, _, _, a3, _⟩ := h.at_ hi
  exact a3
set_option maxRecDepth 100000 in
set_option maxHeartbeats 8000000 in
theorem walone_any (l : List It) (lv : Value) (wd : Int) (W : World) (hA : IsAt W l lv) :
    Calls Try.prog 5 #[lv, .int .i64 wd] W fun e w' => e = .returned (.bool true) ∧ Keeps W w' := by
  have GR := Lib.hid (great_any l lv wd 60 W hA (by decide))
  have AW := Lib.hid (fun W1 => awake18_any W1)
  have HA := Lib.hid hA
  obtain ⟨A0, cp, rfl, hc1, hc2, _⟩ := hA
  unfold maxLen at hc2
  go_enter Try.func5, Try.ntmps5
  go_wp2_with fail
  refine GR.out.mono ?_
  rintro e w1 ⟨b, rfl, hb, k1⟩
  cases b with
  | true =>
    go_wp2_with fail
    refine (AW.out _).mono ?_
    rintro e w2 ⟨rfl, k2⟩
    go_wp2_with fail
    go_ret
    exact ⟨rfl, k1.trans k2⟩
  | false =>
    obtain ⟨hl, ⟨h1, h2⟩, hx⟩ := hb rfl
    have BK := Lib.hid (breaks_any l (.slice A0 l.length cp) wd w1 (HA.out.keep k1) (by omega) hx (by omega) (by omega))
    have CO := Lib.hid (fun es ev W1 (q : Keeps W W1) (hE : NsAt W1 es ev) (he : ∀ e ∈ es, e ≤ l.length) (hm : es.length ≤ 1000) => wcost_any l (.slice A0 l.length cp) es ev wd W1 (HA.out.keep q) hE he hm (by omega) hx (by omega) (by omega))
    have K1 := Lib.hid k1
    clear hx hb k1
    go_wp2_with fail
    refine BK.out.mono ?_
    rintro e w2 ⟨v, es, ok, rfl, hns, hbk, k2⟩
    have K2 := Lib.hid (K1.out.trans k2)
    have NS := Lib.hid hns
    have KA := Lib.hid (K2.out.alloc (.cells #[.int .i64 (l.length : Nat)] 3))
    have C1 := Lib.hid (CO.out [l.length] _ _ KA.out (NsAt.one w2 l.length 3) (fun e he => by rw [List.mem_singleton] at he; omega) (by simp))
    have NA := Lib.hid (fun w3 (q : Keeps (w2.alloc (.cells #[.int .i64 (l.length : Nat)] 3)) w3) => NS.out.keep (((Keeps.refl w2).alloc _).trans q))
    obtain ⟨A2, c2, rfl, g1, g2, _⟩ := hns
    unfold maxLen at g2
    clear k2
    cases hp : canO l wd 0 l.length with
    | none =>
      rw [cost_none hp] at C1
      rcases hbk with ⟨rfl, c, hc, hbest⟩ | ⟨rfl, rfl, hno⟩
      · have hf := hc.few
        have C2 := Lib.hid (fun w3 (q : Keeps (w2.alloc (.cells #[.int .i64 (l.length : Nat)] 3)) w3) => CO.out es _ w3 (KA.out.trans q) (NA.out w3 q) (chain_le hc) (by omega))
        rw [cost_chain hc] at C2
        clear hc hbest hp hf
        simp only at C1 C2
        go_wp2_with fail
        refine C1.out.mono ?_
        rintro e w3 ⟨rfl, k3⟩
        go_wp2_with fail
        refine (C2.out w3 k3).mono ?_
        rintro e w4 ⟨rfl, k4⟩
        go_wp2_with fail
        refine (AW.out _).mono ?_
        rintro e w5 ⟨rfl, k5⟩
        go_wp2_with fail
        go_ret
        exact ⟨rfl, KA.out.trans (k3.trans (k4.trans k5))⟩
      · have C2 := Lib.hid (fun w3 (q : Keeps (w2.alloc (.cells #[.int .i64 (l.length : Nat)] 3)) w3) => CO.out [] _ w3 (KA.out.trans q) (NA.out w3 q) (fun e he => by cases he) (by simp))
        rw [cost_nil] at C2
        simp only [List.length_nil] at C1 C2 g1 ⊢
        clear hno hp
        go_wp2_with fail
        refine C1.out.mono ?_
        rintro e w3 ⟨rfl, k3⟩
        go_wp2_with fail
        refine (C2.out w3 k3).mono ?_
        rintro e w4 ⟨rfl, k4⟩
        go_wp2_with fail
        refine (AW.out _).mono ?_
        rintro e w5 ⟨rfl, k5⟩
        go_wp2_with fail
        go_ret
        exact ⟨rfl, KA.out.trans (k3.trans (k4.trans k5))⟩
    | some p =>
      rw [cost_one hp] at C1
      rcases hbk with ⟨rfl, c, hc, hbest⟩ | ⟨rfl, rfl, hno⟩
      · have hle := hbest _ _ (one_chain hp)
        have hf := hc.few
        have tle : decide (c ≤ p) = true := decide_eq_true hle
        have C2 := Lib.hid (fun w3 (q : Keeps (w2.alloc (.cells #[.int .i64 (l.length : Nat)] 3)) w3) => CO.out es _ w3 (KA.out.trans q) (NA.out w3 q) (chain_le hc) (by omega))
        rw [cost_chain hc] at C2
        clear hc hbest hp hf
        simp only at C1 C2
        go_wp2_with fail
        refine C1.out.mono ?_
        rintro e w3 ⟨rfl, k3⟩
        go_wp2_with fail
        refine (C2.out w3 k3).mono ?_
        rintro e w4 ⟨rfl, k4⟩
        go_wp2_with fail
        refine (AW.out _).mono ?_
        rintro e w5 ⟨rfl, k5⟩
        go_wp2_with fail
        go_ret
        exact ⟨rfl, KA.out.trans (k3.trans (k4.trans k5))⟩
      · exact absurd (one_chain hp) (hno _ _)
end Go.Proofs.Ytjkkinccehfmoaa

/-
  Contract of the package wrap: Cost.
-/
import Derived.Test.YtjkkinccehfmoaaWce
namespace Go.Proofs.Ytjkkinccehfmoaa
open Go.RowKit Go.Lib Go.Maps

/-- The slice v holds these numbers. -/
def NsAt (W : World) (es : List Nat) (v : Value) : Prop := ∃ A cap, v = .slice A es.length cap ∧ es.length ≤ cap ∧ cap ≤ maxLen ∧ (0 < es.length → ∃ g o, A = some ⟨g, o, none⟩ ∧ ∀ i (h : i < es.length), W.cell? ⟨g, o + i, none⟩ = some (.int .i64 (es[i] : Nat)))
theorem NsAt.keep {W W' : World} {es : List Nat} {v : Value} (h : NsAt W es v) (k : Keeps W W') : NsAt W' es v := by
  obtain ⟨A, cap, h1, h2, h3, h4⟩ := h
  refine ⟨A, cap, h1, h2, h3, fun h0 => ?_⟩
  obtain ⟨g, o, e, hc⟩ := h4 h0
  exact ⟨g, o, e, fun i hi => k.cell2 (hc i hi)⟩
theorem NsAt.nil (W : World) : NsAt W [] (.slice none 0 0) := ⟨none, 0, rfl, Nat.le_refl _, by unfold maxLen; omega, fun h => absurd h (by simp)⟩
theorem NsAt.one (w : World) (n : Nat) (t : TypeId) : NsAt (w.alloc (.cells #[.int .i64 (n : Nat)] t)) [n] (.slice (some ⟨w.heap.size, 0, none⟩) 1 1) := by
  refine ⟨_, 1, rfl, Nat.le_refl _, by unfold maxLen; omega, fun _ => ⟨_, 0, rfl, fun i hi => ?_⟩⟩
  have : i = 0 := by simpa using hi
  subst this
  exact (Blk.new w t _).cell 0 rfl
set_option maxRecDepth 100000 in
set_option maxHeartbeats 4000000 in
theorem wcost_any (l : List It) (lv : Value) (es : List Nat) (ev : Value) (wd : Int) (W : World) (hA : IsAt W l lv) (hE : NsAt W es ev) (he : ∀ e ∈ es, e ≤ l.length) (hm : es.length ≤ 1000) (hl : l.length ≤ 1000) (hx : ∀ x ∈ l, itW x) (h1 : -1152921504606846976 ≤ wd) (h2 : wd ≤ 1152921504606846976) :
    Calls Try.prog 12 #[lv, ev, .int .i64 wd] W fun e w' => e = .returned (.tuple #[.int .i64 (costP l wd 0 0 es).1, .bool (costP l wd 0 0 es).2]) ∧ Keeps W w' := by
  have LG := Lib.hid (fun i (hi : i ≤ l.length) W1 (k : Keeps W W1) => legal_any l lv i W1 (hA.keep k) hi hl)
  have PR := Lib.hid (fun a b (hab : a ≤ b) (hb : b ≤ l.length) W1 (k : Keeps W W1) => wprice_any l lv a b wd W1 (hA.keep k) hab hb hl hx h1 h2)
  have HLe := Lib.hid (fun i (h : i < es.length) => he es[i] (List.getElem_mem h))
  obtain ⟨A, cap, rfl, c1, c2, _⟩ := hA
  obtain ⟨B, cap2, rfl, c3, c4, e4⟩ := hE
  have HEs : Hid (∀ i (h : i < es.length) (w1 : World), Keeps W w1 → ∃ g o, B = some ⟨g, o, none⟩ ∧ w1.cell? ⟨g, o + i, none⟩ = some (.int .i64 (es[i] : Nat))) := Lib.hid fun i h w1 k => by
    obtain ⟨g, o, e5, e6⟩ := e4 (by omega)
    exact ⟨g, o, e5, k.cell2 (e6 i h)⟩
  clear e4
  unfold maxLen at c2 c4
  obtain ⟨n, hn⟩ : ∃ n, l.length = n := ⟨_, rfl⟩
  have HN := Lib.hid hn
  obtain ⟨m, hmm⟩ : ∃ m, es.length = m := ⟨_, rfl⟩
  have HM := Lib.hid hmm
  rw [hn] at c1 hl LG PR ⊢
  rw [hmm] at c3 hm ⊢
  clear hx hn hmm he
  go_enter Try.func12, Try.ntmps12
  go_wp2_with fail
  go_loopw [8, 9, 16] (fun u v y wr => ∃ (k f : Nat) (c : Int), k ≤ m ∧ f ≤ n + 1 ∧ (-300000000 * (k : Int) ≤ c ∧ c ≤ 300000000 * (k : Int)) ∧ u = .int .i64 c ∧ v = .int .i64 f ∧ y = .int .i64 k ∧ Hid (costP l wd 0 0 es = costP l wd f c (es.drop k)) ∧ Hid (Keeps W wr)) (fun _ _ y _ => m - (RowKit.intOf y).toNat)
  case atStart => exact ⟨0, 0, 0, Nat.zero_le _, Nat.zero_le _, ⟨by omega, by omega⟩, rfl, rfl, rfl, Lib.hid rfl, Lib.hid (Keeps.refl _)⟩
  case round =>
    obtain ⟨k, f, c, hk, hf, ⟨hc1, hc2⟩, rfl, rfl, rfl, HC, HK⟩ := hrel
    by_cases cj : k < m
    · have hk' : k < es.length := by rw [HM.out]; exact cj
      obtain ⟨g, o, eA, hcell⟩ := HEs.out k hk' wr HK.out
      cases eA
      have hle := HLe.out k hk'
      rw [HN.out] at hle
      have HD := HC.out
      rw [List.drop_eq_getElem_cons hk'] at HD
      generalize es[k] = e at *
      have t1 : decide ((k : Int) < (m : Int)) = true := decide_eq_true (by omega)
      have i0 : (0 : Int) ≤ (k : Int) := by omega
      have i1 : (k : Int) < (m : Int) := by omega
      by_cases q : e < f
      · have tq : decide ((e : Int) < (f : Int)) = true := decide_eq_true (by omega)
        have HR : Hid (costP l wd 0 0 es = (0, false)) := Lib.hid (by rw [HD, cost_low q])
        clear HD
        go_wp2_with fail
        go_ret2
        exact ⟨by rw [HR.out]; rfl, HK.out⟩
      · have tq : decide ((e : Int) < (f : Int)) = false := decide_eq_false (by omega)
        have LE := Lib.hid (LG.out e hle wr HK.out)
        cases hg : legP l e with
        | false =>
          rw [hg] at LE
          have HR : Hid (costP l wd 0 0 es = (0, false)) := Lib.hid (by rw [HD, cost_leg hg])
          clear HD hg
          go_wp2_with fail
          refine LE.out.mono ?_
          rintro e1 w1 ⟨rfl, rfl⟩
          go_wp2_with fail
          go_ret2
          exact ⟨by rw [HR.out]; rfl, HK.out⟩
        | true =>
          rw [hg] at LE
          have PE := Lib.hid (PR.out f e (by omega) hle wr HK.out)
          cases hp : canO l wd f e with
          | none =>
            rw [hp] at PE
            unfold pcV at PE
            simp only at PE
            have HR : Hid (costP l wd 0 0 es = (0, false)) := Lib.hid (by rw [HD, cost_can hp])
            clear HD hg hp
            go_wp2_with fail
            refine LE.out.mono ?_
            rintro e1 w1 ⟨rfl, rfl⟩
            go_wp2_with fail
            refine PE.out.mono ?_
            rintro e1 w2 ⟨rfl, k2⟩
            go_wp2_with fail
            go_ret2
            exact ⟨by rw [HR.out]; rfl, HK.out.trans k2⟩
          | some p =>
            rw [hp] at PE
            unfold pcV at PE
            simp only at PE
            obtain ⟨⟨p1, p2⟩, _⟩ := can_bd hp
            have HR : Hid (costP l wd 0 0 es = costP l wd (e + 1) (c + p) (es.drop (k + 1))) := Lib.hid (by rw [HD, cost_cons (by omega) hg hp])
            clear HD hg hp
            go_wp2_with fail
            refine LE.out.mono ?_
            rintro e1 w1 ⟨rfl, rfl⟩
            go_wp2_with fail
            refine PE.out.mono ?_
            rintro e1 w2 ⟨rfl, k2⟩
            have KN := Lib.hid (HK.out.trans k2)
            go_wp2_with fail
            go_roundw
            case rel => exact ⟨k + 1, e + 1, c + p, by omega, by omega, ⟨by omega, by omega⟩, rfl, by go_num, by go_num, HR, KN⟩
            case measure => simp only [RowKit.intOf]; omega
    · have e : k = m := by omega
      have HD := HC.out
      rw [List.drop_of_length_le (by rw [HM.out]; omega), costP, HN.out] at HD
      have t1 : decide ((k : Int) < (m : Int)) = false := decide_eq_false (by omega)
      by_cases q : f = n + 1
      · rw [if_pos q] at HD
        have HR := Lib.hid HD
        have tq : ((f : Int) == (n : Int) + 1) = true := beqT (by omega)
        subst q
        clear HD
        go_wp2_with fail
        go_ret2
        exact ⟨by rw [HR.out]; rfl, HK.out⟩
      · rw [if_neg q] at HD
        have HR := Lib.hid HD
        have tq : ((f : Int) == (n : Int) + 1) = false := beqF (by omega)
        clear HD
        go_wp2_with fail
        go_ret2
        exact ⟨by rw [HR.out]; rfl, HK.out⟩
end Go.Proofs.Ytjkkinccehfmoaa

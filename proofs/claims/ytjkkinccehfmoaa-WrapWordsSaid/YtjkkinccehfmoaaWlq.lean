/-
  Contracts of compositorlaw18's box, glue, great, awake.
-/
import Derived.Test.YtjkkinccehfmoaaWcn
import Derived.Test.YtjkkinccehfmoaaWpd
namespace Go.Proofs.Ytjkkinccehfmoaa
open Go.RowKit Go.Lib Go.Maps

theorem isAt_blk {W : World} {b : Nat} {t : TypeId} {L : List It} (h : Blk W b t (itR L).toArray) (hm : L.length ≤ 1000000) : IsAt W L (.slice (some ⟨b, 0, none⟩) L.length L.length) := by
  refine ⟨_, L.length, rfl, Nat.le_refl _, by unfold maxLen; omega, fun _ => ⟨b, 0, rfl, fun i hi j u hj => ?_⟩⟩
  have hj9 : j < 9 := by
    have := (List.getElem?_eq_some_iff.1 hj).1
    rwa [itC_len] at this
  rw [Nat.zero_add]
  refine h.cell _ ?_
  rw [List.getElem?_toArray, itR_at L i hi j hj9]
  exact hj
set_option maxRecDepth 100000 in
theorem wbox_any (w : Int) (W : World) : Calls Try.prog 11 #[.int .i64 w] W fun e w' => e = .returned (.agg #[.int .i64 1, .int .i64 w, .int .i64 0, .int .i64 0, .int .i64 0, .string ⟨#[120]⟩, .int .i64 0, .int .i64 0, .int .i64 0]) ∧ Keeps W w' := by
  go_enter Try.func11, Try.ntmps11
  go_wp2_with fail
  exact ret_blk rfl rfl rfl (Blk.new _ _ _) Try.underlying32 (by kernel_rfl) ⟨rfl, (Keeps.refl W).alloc _⟩
set_option maxRecDepth 100000 in
theorem wglue_any (W : World) : Calls Try.prog 13 #[.int .i64 12] W fun e w' => e = .returned (.agg #[.int .i64 2, .int .i64 12, .int .i64 6, .int .i64 4, .int .i64 0, .string ⟨#[]⟩, .int .i64 0, .int .i64 0, .int .i64 0]) ∧ Keeps W w' := by
  go_enter Try.func13, Try.ntmps13
  go_wp2_with fail
  exact ret_blk rfl rfl rfl (Blk.new _ _ _) Try.underlying32 (by kernel_rfl) ⟨rfl, (Keeps.refl W).alloc _⟩
/-- What great tells. -/
def GrP (l : List It) (wd : Int) (m n : Nat) (W : World) (e : Ending) (w' : World) : Prop := ∃ b, e = .returned (.bool b) ∧ (b = false → n ≤ m ∧ (-1099511627776 ≤ wd ∧ wd ≤ 1099511627776) ∧ ∀ x ∈ l, itW x) ∧ Keeps W w'
set_option maxRecDepth 100000 in
set_option maxHeartbeats 8000000 in
theorem great_any (l : List It) (lv : Value) (wd : Int) (m : Nat) (W : World) (hA : IsAt W l lv) (hm : m ≤ 1000) :
    Calls Try.prog 6 #[lv, .int .i64 wd, .int .i64 m] W (GrP l wd m l.length W) := by
  obtain ⟨A, cap, rfl, c1, c2, h3⟩ := hA
  unfold maxLen at c2
  have HC : Hid (∀ i, i < l.length → ∃ (g o : Nat) (x : It), A = some ⟨g, o, none⟩ ∧ l[i]? = some x ∧ W.rangeAt g (o + i * 9) (itC x)) := Lib.hid fun i hi => by
    obtain ⟨g, o, e, hc⟩ := h3 (by omega)
    exact ⟨g, o, l[i], e, List.getElem?_eq_getElem hi, hc i hi⟩
  clear h3
  obtain ⟨n, hn⟩ : ∃ n, l.length = n := ⟨_, rfl⟩
  have HN := Lib.hid hn
  rw [hn] at c1 ⊢
  clear hn
  by_cases q1 : m < n
  · have t1 : decide ((m : Int) < (n : Int)) = true := decide_eq_true (by omega)
    go_enter Try.func6, Try.ntmps6
    go_wp2_with fail
    go_ret
    exact ⟨true, rfl, (fun e => by cases e), Keeps.refl _⟩
  · have t1 : decide ((m : Int) < (n : Int)) = false := decide_eq_false (by omega)
    by_cases q2 : 1099511627776 < wd
    · have t2 : decide ((1099511627776 : Int) < wd) = true := decide_eq_true q2
      go_enter Try.func6, Try.ntmps6
      go_wp2_with fail
      go_ret
      exact ⟨true, rfl, (fun e => by cases e), Keeps.refl _⟩
    · have t2 : decide ((1099511627776 : Int) < wd) = false := decide_eq_false q2
      by_cases q3 : wd < -1099511627776
      · have t3 : decide (wd < (-1099511627776 : Int)) = true := decide_eq_true q3
        go_enter Try.func6, Try.ntmps6
        go_wp2_with fail
        go_ret
        exact ⟨true, rfl, (fun e => by cases e), Keeps.refl _⟩
      · have t3 : decide (wd < (-1099511627776 : Int)) = false := decide_eq_false q3
        go_enter Try.func6, Try.ntmps6
        go_wp2_with fail
        go_loopw [7] (fun y wr => ∃ k : Nat, k ≤ n ∧ y = .int .i64 k ∧ Hid (∀ j x, j < k → l[j]? = some x → itW x) ∧ Hid (Keeps W wr)) (fun y _ => n - (RowKit.intOf y).toNat)
        case atStart => exact ⟨0, Nat.zero_le _, rfl, Lib.hid (fun j x h => by omega), Lib.hid (Keeps.refl _)⟩
        case round =>
          obtain ⟨k, hk, rfl, HQ, HK⟩ := hrel
          by_cases c : k < n
          · have tc : decide ((k : Int) < (n : Int)) = true := decide_eq_true (by omega)
            obtain ⟨g, o, x, eA, hx, hr⟩ := HC.out k (by rw [HN.out]; exact c)
            cases eA
            have hlt := range_lt hr (by rw [itC_len]; decide)
            have hr2 := range_same hr (HK.out.block g hlt)
            have HXE := Lib.hid hx
            obtain ⟨xk, xw, xg, xs, xc, xcs, xf, xz, xl⟩ := x
            obtain ⟨cs, hcs⟩ : ∃ cs : ByteArray, cs = ⟨xcs.toArray⟩ := ⟨_, rfl⟩
            unfold itC at hr2
            simp only at hr2
            rw [← hcs] at hr2
            have y0 : wr.cell? ⟨g, o + k * 9, none⟩ = some (.int .i64 xk) := hr2 0 _ rfl
            have y1 : wr.cell? ⟨g, o + k * 9 + 1, none⟩ = some (.int .i64 xw) := hr2 1 _ rfl
            have y2 : wr.cell? ⟨g, o + k * 9 + 2, none⟩ = some (.int .i64 xg) := hr2 2 _ rfl
            have y3 : wr.cell? ⟨g, o + k * 9 + 3, none⟩ = some (.int .i64 xs) := hr2 3 _ rfl
            have y4 : wr.cell? ⟨g, o + k * 9 + 4, none⟩ = some (.int .i64 xc) := hr2 4 _ rfl
            have y5 : wr.cell? ⟨g, o + k * 9 + 5, none⟩ = some (.string cs) := hr2 5 _ rfl
            have y6 : wr.cell? ⟨g, o + k * 9 + 6, none⟩ = some (.int .i64 xf) := hr2 6 _ rfl
            have y7 : wr.cell? ⟨g, o + k * 9 + 7, none⟩ = some (.int .i64 xz) := hr2 7 _ rfl
            have y8 : wr.cell? ⟨g, o + k * 9 + 8, none⟩ = some (.int .i64 xl) := hr2 8 _ rfl
            have i0 : (0 : Int) ≤ (k : Int) := by omega
            have i1 : (k : Int) < (n : Int) := by omega
            have KA := Lib.hid (HK.out.alloc (.cells #[.int .i64 xk, .int .i64 xw, .int .i64 xg, .int .i64 xs, .int .i64 xc, .string cs, .int .i64 xf, .int .i64 xz, .int .i64 xl] 32))
            clear hr hr2 hx hcs
            by_cases w : (1099511627776 < xw ∨ xw < -1099511627776) ∨ (1099511627776 < xg ∨ xg < -1099511627776) ∨ (1099511627776 < xs ∨ xs < -1099511627776)
            · by_cases v0 : 1099511627776 < xw
              · have s1 : decide ((1099511627776 : Int) < xw) = true := decide_eq_true v0
                clear w
                go_wp2_with fail
                go_ret
                exact ⟨true, rfl, (fun e => by cases e), KA.out⟩
              · have s1 : decide ((1099511627776 : Int) < xw) = false := decide_eq_false v0
                by_cases v1 : xw < -1099511627776
                · have s2 : decide (xw < (-1099511627776 : Int)) = true := decide_eq_true v1
                  clear w
                  go_wp2_with fail
                  go_ret
                  exact ⟨true, rfl, (fun e => by cases e), KA.out⟩
                · have s2 : decide (xw < (-1099511627776 : Int)) = false := decide_eq_false v1
                  by_cases v2 : 1099511627776 < xg
                  · have s3 : decide ((1099511627776 : Int) < xg) = true := decide_eq_true v2
                    clear w
                    go_wp2_with fail
                    go_ret
                    exact ⟨true, rfl, (fun e => by cases e), KA.out⟩
                  · have s3 : decide ((1099511627776 : Int) < xg) = false := decide_eq_false v2
                    by_cases v3 : xg < -1099511627776
                    · have s4 : decide (xg < (-1099511627776 : Int)) = true := decide_eq_true v3
                      clear w
                      go_wp2_with fail
                      go_ret
                      exact ⟨true, rfl, (fun e => by cases e), KA.out⟩
                    · have s4 : decide (xg < (-1099511627776 : Int)) = false := decide_eq_false v3
                      by_cases v4 : 1099511627776 < xs
                      · have s5 : decide ((1099511627776 : Int) < xs) = true := decide_eq_true v4
                        clear w
                        go_wp2_with fail
                        go_ret
                        exact ⟨true, rfl, (fun e => by cases e), KA.out⟩
                      · have s5 : decide ((1099511627776 : Int) < xs) = false := decide_eq_false v4
                        have s6 : decide (xs < (-1099511627776 : Int)) = true := decide_eq_true (by omega)
                        clear w
                        go_wp2_with fail
                        go_ret
                        exact ⟨true, rfl, (fun e => by cases e), KA.out⟩
            · have HOK : Hid (∀ j x, j < k + 1 → l[j]? = some x → itW x) := Lib.hid (fun j x hj hx => by
                by_cases e : j = k
                · subst e
                  rw [HXE.out] at hx
                  injection hx with hx
                  subst hx
                  unfold itW
                  simp only
                  omega
                · exact HQ.out j x (by omega) hx)
              have s1 : decide ((1099511627776 : Int) < xw) = false := decide_eq_false (by omega)
              have s2 : decide (xw < (-1099511627776 : Int)) = false := decide_eq_false (by omega)
              have s3 : decide ((1099511627776 : Int) < xg) = false := decide_eq_false (by omega)
              have s4 : decide (xg < (-1099511627776 : Int)) = false := decide_eq_false (by omega)
              have s5 : decide ((1099511627776 : Int) < xs) = false := decide_eq_false (by omega)
              have s6 : decide (xs < (-1099511627776 : Int)) = false := decide_eq_false (by omega)
              clear w
              go_wp2_with fail
              go_roundw
              case rel => exact ⟨k + 1, by omega, by go_num, HOK, KA⟩
              case measure => simp only [RowKit.intOf]; omega
          · have e : k = n := by omega
            subst e
            have tc : decide ((k : Int) < (k : Int)) = false := decide_eq_false (by omega)
            have FIN : Hid (false = false → k ≤ m ∧ (-1099511627776 ≤ wd ∧ wd ≤ 1099511627776) ∧ ∀ x ∈ l, itW x) := Lib.hid (fun _ => ⟨by omega, ⟨by omega, by omega⟩, fun x hx => by
              obtain ⟨j, hj, hje⟩ := List.getElem_of_mem hx
              exact HQ.out j x (by have := HN.out; omega) (by rw [List.getElem?_eq_getElem hj, hje])⟩)
            go_wp2_with fail
            go_ret
            exact ⟨false, rfl, (fun _ => FIN.out trivial), HK.out⟩
end Go.Proofs.Ytjkkinccehfmoaa

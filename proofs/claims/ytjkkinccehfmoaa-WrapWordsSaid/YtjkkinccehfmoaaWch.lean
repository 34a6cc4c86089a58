/-
  The breaker of the package wrap in memory; contracts of past and between.
-/
import Derived.Test.YtjkkinccehfmoaaWcg
namespace Go.Proofs.Ytjkkinccehfmoaa
open Go.RowKit Go.Lib Go.Maps

def wyC (w : Wy) : List Value := [.int .i64 ((w.f : Int) - 1), .int .i64 w.c, .int .i64 w.a]
def wyR (ws : List Wy) : List Value := ws.flatMap wyC
theorem wyC_len (w : Wy) : (wyC w).length = 3 := rfl
theorem wyC_one (x : Wy) : ∀ u ∈ wyC x, u.oneCell' = true := by
  intro u hu
  simp only [wyC, List.mem_cons, List.not_mem_nil, or_false] at hu
  rcases hu with rfl | rfl | rfl <;> rfl
theorem wyR_len (L : List Wy) : (wyR L).length = L.length * 3 := by
  unfold wyR
  induction L with
  | nil => rfl
  | cons x L ih => rw [List.flatMap_cons, List.length_append, ih, wyC_len, List.length_cons]; omega
theorem wyR_app (a b : List Wy) : wyR (a ++ b) = wyR a ++ wyR b := List.flatMap_append
theorem wyR_at : ∀ (L : List Wy) (k : Nat) (w : Wy), L[k]? = some w → ∀ j, j < 3 → (wyR L)[k * 3 + j]? = (wyC w)[j]?
  | [], k, w, h, j, _ => by simp at h
  | x :: L, 0, w, h, j, hj => by
    injection h with h
    subst h
    unfold wyR
    rw [List.flatMap_cons, Nat.zero_mul, Nat.zero_add, List.getElem?_append_left (by rw [wyC_len]; exact hj)]
  | x :: L, k + 1, w, h, j, hj => by
    unfold wyR
    rw [List.flatMap_cons, List.getElem?_append_right (by rw [wyC_len]; omega), wyC_len, show (k + 1) * 3 + j - 3 = k * 3 + j by omega]
    exact wyR_at L k w (by simpa using h) j hj
/-- Items, what is known of their places, and the width, as a breaker reads them. -/
structure BrE (w1 : World) (l : List It) (lv pv : Value) (wd : Int) : Prop where
  its : IsAt w1 l lv
  plc : ∃ (P : Nat) (cs : Array Value), pv = .slice (some ⟨P, 0, none⟩) (l.length + 1) (l.length + 1) ∧ Blk w1 P 51 cs ∧ PlA l cs l.length ∧ PlB l cs 0
  few : l.length ≤ 1000
  itw : ∀ x ∈ l, itW x
  wd0 : -1152921504606846976 ≤ wd
  wd1 : wd ≤ 1152921504606846976
/-- The breaker at block B, made since w1. -/
structure BrM (w1 W : World) (B : Nat) (lv pv : Value) (wd : Int) (wv : Value) (ws : List Wy) (first : Nat) : Prop where
  box : Blk W B 41 #[lv, pv, .int .i64 wd, wv, .int .i64 first]
  low : w1.heap.size ≤ B
  row : W.ownsRow w1.heap.size 43 3 wv ws.length (wyR ws)
  ne : wv.ownBlock ≠ some B
  keep : Keeps w1 W
section
variable {w1 W : World} {B : Nat} {l : List It} {lv pv wv : Value} {wd : Int} {ws : List Wy} {first : Nat}
theorem BrM.to {W' : World} (h : BrM w1 W B lv pv wd wv ws first) (k : Keeps W W') : BrM w1 W' B lv pv wd wv ws first := ⟨h.box.keep k, h.low, row_below h.row k, h.ne, h.keep.trans k⟩
theorem BrE.place (h : BrE w1 l lv pv wd) : ∃ P : Nat, pv = .slice (some ⟨P, 0, none⟩) (l.length + 1) (l.length + 1) ∧ P < w1.heap.size ∧ ∀ (W : World), Keeps w1 W → ∀ k, k ≤ l.length → W.cell? ⟨P, k * 6, none⟩ = some (.int .i64 (preM l k).w) ∧ W.cell? ⟨P, k * 6 + 1, none⟩ = some (.int .i64 (preM l k).g) ∧ W.cell? ⟨P, k * 6 + 2, none⟩ = some (.int .i64 (preM l k).s) ∧ W.cell? ⟨P, k * 6 + 3, none⟩ = some (.int .i64 (lnP l k)) ∧ W.cell? ⟨P, k * 6 + 4, none⟩ = some (.int .i64 (spP l k)) ∧ W.cell? ⟨P, k * 6 + 5, none⟩ = some (.int .i64 (bxP l k : Nat)) := by
  obtain ⟨P, cs, e, hb, hA, hB⟩ := h.plc
  refine ⟨P, e, hb.lt, fun W q k hk => ?_⟩
  obtain ⟨a1, a2, a3, a4⟩ := hA k hk
  obtain ⟨b1, b2⟩ := hB k (Nat.zero_le _) hk
  have hb' := hb.keep q
  exact ⟨hb'.cell _ a1, hb'.cell _ a2, hb'.cell _ a3, hb'.cell _ a4, hb'.cell _ b1, hb'.cell _ b2⟩
set_option maxRecDepth 100000 in
set_option maxHeartbeats 8000000 in
theorem past_any (w : Wy) (i : Nat) (h : BrM w1 W B lv pv wd wv ws first) (hE : BrE w1 l lv pv wd) (hf : w.f ≤ l.length) (hi : i ≤ l.length) :
    Calls Try.prog 27 #[.pointer (some ⟨B, 0, none⟩), .agg (wyC w).toArray, .int .i64 i] W fun e w' => e = .returned (.bool (decide (wd < lnP l i - lnP l (bxP l w.f) - spP l i))) ∧ Keeps W w' := by
  obtain ⟨P, rfl, hP, hC⟩ := hE.place
  have hPW : P < W.heap.size := Nat.lt_of_lt_of_le hP h.keep.size
  have e0 := lnP_bd hE.itw i
  have e1 := lnP_bd hE.itw (bxP l w.f)
  have e2 := spP_bd hE.itw i
  have e3 := bxP_le hf
  have e4 := hE.few
  have c5 := (hC W h.keep w.f hf).2.2.2.2.2
  obtain ⟨x0, x1, x2, x3, x4, x5⟩ := hC W h.keep (bxP l w.f) e3
  obtain ⟨y0, y1, y2, y3, y4, y5⟩ := hC W h.keep i hi
  have d1 := hE.wd0
  have d2 := hE.wd1
  have b1 := h.box.cell 1 (v := .slice (some ⟨P, 0, none⟩) (l.length + 1) (l.length + 1)) rfl
  have b2 := h.box.cell 2 (v := .int .i64 wd) rfl
  have hBl := h.box.lt
  obtain ⟨f, c, a⟩ := w
  unfold wyC
  simp only at *
  generalize bxP l f = bx at *
  generalize lnP l bx = lb at *
  generalize lnP l i = li at *
  generalize spP l i = si at *
  generalize (bxP l bx) = bb at *
  generalize (bxP l i) = bi at *
  generalize (preM l bx) = mb at *
  generalize (preM l i) = mi at *
  generalize spP l bx = sb at *
  generalize l.length = n at *
  have i0 : (0 : Int) ≤ (f : Int) := by omega
  have i1 : (f : Int) < (n : Int) + 1 := by omega
  have i2 : (0 : Int) ≤ (bx : Int) := by omega
  have i3 : (bx : Int) < (n : Int) + 1 := by omega
  have i4 : (0 : Int) ≤ (i : Int) := by omega
  have i5 : (i : Int) < (n : Int) + 1 := by omega
  have c2 : (((W.alloc (.cells #[.int .i64 ((f : Int) - 1), .int .i64 c, .int .i64 a] 43)).alloc (.cells #[.int .i64 mb.w, .int .i64 mb.g, .int .i64 mb.s, .int .i64 lb, .int .i64 sb, .int .i64 (bb : Nat)] 51)).alloc (.cells #[.int .i64 mi.w, .int .i64 mi.g, .int .i64 mi.s, .int .i64 li, .int .i64 si, .int .i64 (bi : Nat)] 51)).cell? ⟨B, 2, none⟩ = some (.int .i64 wd) := Keeps.cell2 (((Keeps.refl W).alloc _).alloc _ |>.alloc _) b2
  have KA := Lib.hid ((((Keeps.refl W).alloc (.cells #[.int .i64 ((f : Int) - 1), .int .i64 c, .int .i64 a] 43)).alloc (.cells #[.int .i64 mb.w, .int .i64 mb.g, .int .i64 mb.s, .int .i64 lb, .int .i64 sb, .int .i64 (bb : Nat)] 51)).alloc (.cells #[.int .i64 mi.w, .int .i64 mi.g, .int .i64 mi.s, .int .i64 li, .int .i64 si, .int .i64 (bi : Nat)] 51))
  have hw : IntKind.i64.wrap ((f : Int) - 1 + 1) = (f : Int) := by rw [IntWalk.i64_in _ (by omega)]; omega
  clear hC h hE
  go_enter Try.func27, Try.ntmps27
  go_wp2_with fail
  go_region
  go_wp2_with fail
  go_region
  go_wp2_with fail
  go_ret
  exact ⟨rfl, KA.out.drew.drew⟩
end
end Go.Proofs.Ytjkkinccehfmoaa

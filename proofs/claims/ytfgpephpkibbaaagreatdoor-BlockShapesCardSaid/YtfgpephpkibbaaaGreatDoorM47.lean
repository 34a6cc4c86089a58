/-
  Texts of the proof, one behind the other: Bsa, Bsb, Bsc.
-/
import Derived.Test.YtfgpephpkibbaaaGreatDoorM45
import Derived.Test.YtfgpephpkibbaaaGreatDoorM46
import Derived.Test.YtfgpephpkibbaaaGreatDoorM11
/-
  What holds what, plainly: blocks are such as blocks must be, whatever the lines are. No program in sight.
-/
namespace Go.Proofs.YtfgpephpkibbaaaGreatDoor
open Go Go.Lib

/-- Nothing leads to a block. -/
def Dead (l : List Nd) (i : Nat) : Prop := (∀ j, (gN l j).last ≠ (i : Int)) ∧ ∀ j, (gN l j).ahead ≠ (i : Int)
/-- Blocks hold what they may; x: a list that has no item yet. -/
structure Shp (l : List Nd) (t x : Nat) : Prop where
  hold : ∀ i, 0 < i → i < l.length → holdsB (gN l (gN l i).up.toNat).kind (gN l i).kind = true ∧ (gN l i).kind ≠ 1
  head : ∀ i, (gN l i).kind = 6 → 1 ≤ (gN l i).level ∧ (gN l i).level ≤ 6
  list : ∀ i, (gN l i).kind = 3 → i ≠ x → (gN l i).last ≠ -1
  para : ∀ i, (gN l i).kind = 5 → ¬ On l t i → (gN l i).text ≠ [] ∨ Dead l i
  ahead : ∀ j y : Nat, (gN l j).ahead = (y : Int) → ¬ On l t y
  dep : ∀ i, 0 < i → i < l.length → (gN l i).depth = (gN l (gN l i).up.toNat).depth + 1
  dep0 : (gN l 0).depth = 0
theorem holds_more {a b : Nat} (h : holdsB a b = true) (hb : b ≠ 4) : ∀ c, c ≠ 4 → holdsB a c = true := by
  intro c hc
  unfold holdsB at h ⊢
  split at h
  · next q => rw [if_pos q]; simp [hc]
  · next q =>
    split at h
    · simp at h; exact absurd h hb
    · cases h
theorem holds_para {b : Nat} : holdsB 5 b = false := by unfold holdsB; rw [if_neg (by omega), if_neg (by omega)]
theorem Sk.dead {l l' : List Nd} (k : Sk l l') {i : Nat} (h : Dead l i) : Dead l' i := ⟨fun j => by rw [(k.2 j).2.1]; exact h.1 j, fun j => by rw [(k.2 j).2.2.1]; exact h.2 j⟩
theorem Sk.on {l l' : List Nd} (k : Sk l l') {t a : Nat} (h : On l' t a) : On l t a := On.same (fun i => ((k.2 i).1).symm) h
theorem Shp.set {l : List Nd} {t x : Nat} (h : Shp l t x) (_ : Wf l t) (i : Nat) (n : Nd) (e : n.up = (gN l i).up ∧ n.last = (gN l i).last ∧ n.ahead = (gN l i).ahead ∧ n.depth = (gN l i).depth)
    (hk : n.kind = (gN l i).kind ∨ ((gN l i).kind = 5 ∧ n.kind = 6)) (hh : n.kind = 6 → 1 ≤ n.level ∧ n.level ≤ 6) (ht : n.kind = 5 → On l t i ∨ n.text = (gN l i).text) : Shp (l.set i n) t x := by
  have k := Sk.set l i n e
  have kk : ∀ j, (gN (l.set i n) j).kind = (gN l j).kind ∨ ((gN l j).kind = 5 ∧ (gN (l.set i n) j).kind = 6) := fun j => by
    rw [gN_set]
    split
    · next c => rw [c.1]; exact hk
    · exact .inl rfl
  refine ⟨fun j h0 hl => ?_, fun j hj => ?_, fun j hj hx => ?_, fun j hj hn => ?_, fun j y q o => ?_, fun j h0 hl => ?_, by rw [(k.2 0).2.2.2]; exact h.dep0⟩
  · rw [k.1] at hl
    obtain ⟨a, b⟩ := h.hold j h0 hl
    rw [(k.2 j).1]
    have hp : (gN (l.set i n) (gN l j).up.toNat).kind = (gN l (gN l j).up.toNat).kind := by
      rcases kk (gN l j).up.toNat with q | ⟨q, _⟩
      · exact q
      · rw [q, holds_para] at a; cases a
    rw [hp]
    rcases kk j with q | ⟨q1, q2⟩
    · rw [q]; exact ⟨a, b⟩
    · rw [q2]
      rw [q1] at a
      exact ⟨holds_more a (by decide) 6 (by decide), by decide⟩
  · rw [gN_set] at hj ⊢
    split
    · next c => rw [if_pos c] at hj; exact hh hj
    · next c => rw [if_neg c] at hj; exact h.head j hj
  · have hj' : (gN l j).kind = 3 := by
      rcases kk j with q | ⟨_, q⟩
      · rw [← q]; exact hj
      · rw [q] at hj; cases hj
    rw [(k.2 j).2.1]
    exact h.list j hj' hx
  · have hj' : (gN l j).kind = 5 := by
      rcases kk j with q | ⟨_, q⟩
      · rw [← q]; exact hj
      · rw [q] at hj; cases hj
    have hn' : ¬ On l t j := fun o => hn (On.same (fun i => (k.2 i).1) o)
    have hd := h.para j hj' hn'
    rcases hd with q | q
    · left
      rw [gN_set] at hj ⊢
      split
      · next c =>
        rw [if_pos c] at hj
        rcases ht hj with o | o
        · rw [c.1] at hn'; exact absurd o hn'
        · rw [o, ← c.1]; exact q
      · exact q
    · exact .inr (k.dead q)
  · rw [(k.2 j).2.2.1] at q
    exact h.ahead j y q (k.on o)
  · rw [k.1] at hl
    rw [(k.2 j).1, (k.2 j).2.2.2, (k.2 _).2.2.2]
    exact h.dep j h0 hl
theorem On.up_of {l : List Nd} {t y : Nat} (h : On l (gN l t).up.toNat y) (h0 : t ≠ 0) : On l t y := .step (by omega) h
/-- The tip goes: its block, if a paragraph, has a text. -/
theorem Shp.fewer {l : List Nd} {t x : Nat} (h : Shp l t x) (h0 : t ≠ 0) (hp : (gN l t).kind = 5 → (gN l t).text ≠ []) : Shp l (gN l t).up.toNat x :=
  ⟨h.hold, h.head, h.list, fun i hi hn => by
    by_cases e : i = t
    · subst e; exact .inl (hp hi)
    · refine h.para i hi fun o => hn ?_
      cases o with
      | refl => exact absurd rfl e
      | step _ k => exact k, fun j y q o => h.ahead j y q (o.up_of h0), h.dep, h.dep0⟩
/-- .. or nothing leads to it any more. -/
theorem Shp.drop {l : List Nd} {t x : Nat} (h : Shp l t x) (w : Wf l t) (k : Kin l) (h0 : t ≠ 0) (h5 : (gN l t).kind = 5) : Shp (l.set (gN l t).up.toNat { gN l (gN l t).up.toNat with last := (gN l t).ahead }) (gN l t).up.toNat x := by
  have hu := w.up t (by omega) w.tip
  have hut : (gN l t).up = ((gN l t).up.toNat : Int) := (Int.toNat_of_nonneg hu.1).symm
  have hta := w.ahead t w.tip
  have hold := (h.hold t (by omega) w.tip).1
  rw [h5] at hold
  have hdt : On l t t := .refl t
  have htl := w.tip
  generalize hue : (gN l t).up.toNat = u at *
  have old : ∀ j, (gN (l.set u { gN l u with last := (gN l t).ahead }) j).up = (gN l j).up ∧ (gN (l.set u { gN l u with last := (gN l t).ahead }) j).ahead = (gN l j).ahead ∧ (gN (l.set u { gN l u with last := (gN l t).ahead }) j).kind = (gN l j).kind ∧ (gN (l.set u { gN l u with last := (gN l t).ahead }) j).text = (gN l j).text ∧ (gN (l.set u { gN l u with last := (gN l t).ahead }) j).level = (gN l j).level ∧ (gN (l.set u { gN l u with last := (gN l t).ahead }) j).depth = (gN l j).depth := fun j => by
    rw [gN_set]
    split
    · next c => rw [c.1]; exact ⟨rfl, rfl, rfl, rfl, rfl, rfl⟩
    · exact ⟨rfl, rfl, rfl, rfl, rfl, rfl⟩
  have lst : ∀ j, (gN (l.set u { gN l u with last := (gN l t).ahead }) j).last = (gN l t).ahead ∧ j = u ∨ (gN (l.set u { gN l u with last := (gN l t).ahead }) j).last = (gN l j).last ∧ j ≠ u := fun j => by
    rw [gN_set]
    by_cases c : j = u
    · rw [if_pos ⟨c, by omega⟩]; exact .inl ⟨rfl, c⟩
    · rw [if_neg (fun q => c q.1)]; exact .inr ⟨rfl, c⟩
  have onb : ∀ a b, On (l.set u { gN l u with last := (gN l t).ahead }) a b → On l a b := fun a b o => On.same (fun i => ((old i).1).symm) o
  have onf : ∀ a b, On l a b → On (l.set u { gN l u with last := (gN l t).ahead }) a b := fun a b o => On.same (fun i => (old i).1) o
  refine ⟨fun j h1 hl => ?_, fun j hj => ?_, fun j hj hx => ?_, fun j hj hn => ?_, fun j y q o => ?_, fun j h1 hl => ?_, by rw [(old 0).2.2.2.2.2]; exact h.dep0⟩
  · rw [(old j).1, (old _).2.2.1, (old j).2.2.1]
    exact h.hold j h1 (by simpa using hl)
  · rw [(old j).2.2.1] at hj
    rw [(old j).2.2.2.2.1]
    exact h.head j hj
  · rw [(old j).2.2.1] at hj
    rcases lst j with ⟨_, c⟩ | ⟨c, _⟩
    · rw [c] at hj
      rw [hj] at hold
      exact absurd hold (by decide)
    · rw [c]; exact h.list j hj hx
  · rw [(old j).2.2.1] at hj
    rw [(old j).2.2.2.1]
    have hn' : ¬ On l u j := fun o => hn (onf _ _ o)
    by_cases e : j = t
    · subst e
      refine .inr ⟨fun i => ?_, fun i => ?_⟩
      · rcases lst i with ⟨c, _⟩ | ⟨c, c2⟩
        · rw [c]; omega
        · rw [c]
          intro q
          have := k.last i j q
          omega
      · rw [(old i).2.1]
        exact fun q => h.ahead i j q hdt
    · rcases h.para j hj (fun o => hn' (by
        cases o with
        | refl => exact absurd rfl e
        | step _ q => rw [hue] at q; exact q)) with q | q
      · exact .inl q
      · refine .inr ⟨fun i => ?_, fun i => ?_⟩
        · rcases lst i with ⟨c, _⟩ | ⟨c, _⟩
          · rw [c]; exact q.2 t
          · rw [c]; exact q.1 i
        · rw [(old i).2.1]; exact q.2 i
  · rw [(old j).2.1] at q
    exact h.ahead j y q (.step (by omega) (by rw [hue]; exact onb _ _ o))
  · rw [(old j).1, (old j).2.2.2.2.2, (old _).2.2.2.2.2]
    exact h.dep j h1 (by simpa using hl)
/-- None is too deep, or that is known. -/
def Dp (s : St) : Prop := s.deep = true ∨ ∀ i, (gN s.list i).depth ≤ 100
structure Sg (s : St) (x : Nat) : Prop where
  kin : Kin s.list
  shp : Shp s.list s.tip x
  dp : Dp s
theorem Sg.atL {s : St} {x : Nat} (h : Sg s x) (l : Ln) : Sg (s.atL l) x := ⟨h.kin, h.shp, h.dp⟩
theorem Sg.set {s : St} {x : Nat} (h : Sg s x) (w : Wf s.list s.tip) (i : Nat) (n : Nd) (s' : St) (e1 : s'.list = s.list.set i n) (e2 : s'.tip = s.tip) (e3 : s'.deep = s.deep) (e : n.up = (s.nd i).up ∧ n.last = (s.nd i).last ∧ n.ahead = (s.nd i).ahead ∧ n.depth = (s.nd i).depth)
    (hk : n.kind = (s.nd i).kind ∨ ((s.nd i).kind = 5 ∧ n.kind = 6)) (hh : n.kind = 6 → 1 ≤ n.level ∧ n.level ≤ 6) (ht : n.kind = 5 → On s.list s.tip i ∨ n.text = (s.nd i).text) : Sg s' x := by
  refine ⟨by rw [e1]; exact h.kin.set i n e, by rw [e1, e2]; exact h.shp.set w i n e hk hh ht, ?_⟩
  rcases h.dp with q | q
  · exact .inl (e3.trans q)
  · refine .inr fun j => ?_
    rw [e1, ((Sk.set s.list i n e).2 j).2.2.2]
    exact q j
theorem sg_define {s : St} {x : Nat} (h : Sg s x) (w : Wf s.list s.tip) (i : Nat) (o : On s.list s.tip i) : Sg (defineM s i) x :=
  h.set w i { s.nd i with text := trimL (dfrL (s.nd i).text) } (defineM s i) rfl rfl rfl ⟨rfl, rfl, rfl, rfl⟩ (.inl rfl) (fun q => h.shp.head i q) (fun _ => .inl o)
theorem sg_fewer {s s' : St} {x : Nat} (h : Sg s x) (h0 : s.tip ≠ 0) (e1 : s'.list = s.list) (e2 : s'.tip = (s.nd s.tip).up.toNat) (e3 : s'.deep = s.deep) (hp : (s.nd s.tip).kind = 5 → (s.nd s.tip).text ≠ []) : Sg s' x := by
  refine ⟨by rw [e1]; exact h.kin, by rw [e1, e2]; exact h.shp.fewer h0 hp, ?_⟩
  rcases h.dp with q | q
  · exact .inl (e3.trans q)
  · exact .inr fun j => by rw [e1]; exact q j
theorem sg_close {s : St} {x : Nat} (h : Sg s x) (w : Wf s.list s.tip) (h0 : s.tip ≠ 0) : Sg (closeM s) x := by
  have o : On s.list s.tip s.tip := .refl _
  have plain : ∀ s1 : St, Sg s1 x → s1.tip = s.tip → (s1.nd s.tip).up = (s.nd s.tip).up → ((s1.nd s.tip).kind = 5 → (s1.nd s.tip).text ≠ []) → Sg { s1 with tip := (s.nd s.tip).up.toNat } x := fun s1 q e1 e2 e3 =>
    sg_fewer q (by rw [e1]; exact h0) rfl (by rw [e1, e2]) rfl (by rw [e1]; exact e3)
  have txt : ∀ (a : List UInt8) (c : Bool), (s.nd s.tip).kind ≠ 5 → Sg { (s.put s.tip { s.nd s.tip with text := a, tight := c }) with tip := (s.nd s.tip).up.toNat } x := fun a c h5 => by
    have q : Sg (s.put s.tip { s.nd s.tip with text := a, tight := c }) x := h.set w s.tip { s.nd s.tip with text := a, tight := c } _ rfl rfl rfl ⟨rfl, rfl, rfl, rfl⟩ (.inl rfl) (fun q => h.shp.head _ q) (fun _ => .inl o)
    refine plain _ q rfl (set_up rfl) (fun e => absurd e ?_)
    have e : ((s.put s.tip { s.nd s.tip with text := a, tight := c }).nd s.tip) = { s.nd s.tip with text := a, tight := c } := gN_at w.tip _
    rw [e]
    exact h5
  unfold closeM closedM
  split
  · next h5 =>
    unfold closeParaM
    have hd : Wf (defineM s s.tip).list s.tip := w.text s.tip _ _
    have qd := sg_define h w s.tip o
    have eu : ((defineM s s.tip).nd s.tip).up = (s.nd s.tip).up := set_up rfl
    have ek : ((defineM s s.tip).nd s.tip).kind = 5 := by
      have : (defineM s s.tip).nd s.tip = { s.nd s.tip with text := trimL (dfrL (s.nd s.tip).text) } := gN_at w.tip _
      rw [this]; exact h5
    split
    · have hs := qd.shp.drop hd qd.kin h0 ek
      have hk := qd.kin.drop hd h0
      refine ⟨hk, ?_, ?_⟩
      · show Shp (((defineM s s.tip).put _ _).list) (s.nd s.tip).up.toNat x
        rw [← eu]
        exact hs
      · rcases qd.dp with q | q
        · exact .inl q
        · refine .inr fun j => ?_
          show (gN ((defineM s s.tip).list.set _ _) j).depth ≤ 100
          rw [gN_set]
          split
          · exact q _
          · exact q j
    · next ht => exact plain _ qd rfl eu (fun _ => ht)
  · next h5 =>
    split
    · split
      · exact txt _ _ h5
      · exact plain s h rfl rfl (fun e => absurd e h5)
    · split
      · exact txt _ _ h5
      · split
        · exact txt _ _ h5
        · exact plain s h rfl rfl (fun e => absurd e h5)
theorem sg_cwGo : ∀ (n : Nat) (s : St) (i x : Nat), Wf s.list s.tip → On s.list s.tip i → Sg s x → Sg (cwGo n s i) x
  | 0, _, _, _, _, _, h => h
  | n + 1, s, i, x, w, o, h => by
    unfold cwGo
    split
    · exact h
    · next e =>
      have h0 : s.tip ≠ 0 := fun e0 => by have := o.le w; omega
      exact sg_cwGo n (closeM s) i x (w.close h0) (o.closed e) (sg_close h w h0)
theorem sg_cw {s : St} {i x : Nat} (w : Wf s.list s.tip) (o : On s.list s.tip i) (h : Sg s x) : Sg (cwM s i) x := sg_cwGo _ s i x w o h
theorem sg_addGo : ∀ (n : Nat) (s : St) (k x : Nat), Wf s.list s.tip → (k ≠ 4 ∨ holdsB (s.nd s.tip).kind k = true) → Sg s x → Sg (addGo n s k) x
  | 0, _, _, _, _, _, h => h
  | n + 1, s, k, x, w, hk, h => by
    unfold addGo
    split
    · exact h
    · next e =>
      have hk4 : k ≠ 4 := hk.resolve_right e
      have h0 : s.tip ≠ 0 := fun e0 => e (doc_holds w e0 hk4)
      exact sg_addGo n (closeM s) k x (w.close h0) (.inl hk4) (sg_close h w h0)
theorem sg_push {s : St} {x x' : Nat} (w : Wf s.list s.tip) (h : Sg s x) (b : Nd) (hb : holdsB (s.nd s.tip).kind b.kind = true) (h1 : b.kind ≠ 1) (h6 : b.kind = 6 → 1 ≤ b.level ∧ b.level ≤ 6) (h3 : b.kind = 3 → x' = s.list.length)
    (hx : ∀ i, i < s.list.length → (gN s.list i).kind = 3 → i ≠ s.tip → i ≠ x' → i ≠ x) : Sg (pushM s b) x' := by
  have ht := w.tip
  have hn : (pushM s b).list = s.list.set s.tip { s.nd s.tip with last := s.list.length } ++ [{ b with up := s.tip, last := -1, ahead := (s.nd s.tip).last, depth := (s.nd s.tip).depth + 1 }] := rfl
  have htp : (pushM s b).tip = s.list.length := rfl
  have at_old : ∀ j, j < s.list.length → gN (pushM s b).list j = if j = s.tip then { s.nd s.tip with last := s.list.length } else gN s.list j := fun j hj => by
    rw [hn, gN_app (by rw [List.length_set]; exact hj), gN_set]
    by_cases e : j = s.tip
    · rw [if_pos ⟨e, w.tip⟩, if_pos e]
    · rw [if_neg (fun q => e q.1), if_neg e]
  have at_new : gN (pushM s b).list s.list.length = { b with up := s.tip, last := -1, ahead := (s.nd s.tip).last, depth := (s.nd s.tip).depth + 1 } := by
    have := gN_new (s.list.set s.tip { s.nd s.tip with last := s.list.length }) { b with up := s.tip, last := -1, ahead := (s.nd s.tip).last, depth := (s.nd s.tip).depth + 1 }
    rw [List.length_set] at this
    rw [hn]; exact this
  have at_out : ∀ j, s.list.length < j → gN (pushM s b).list j = blkN 1 := fun j hj => gN_out (by rw [push_len]; omega)
  have old : ∀ j, j < s.list.length → (gN (pushM s b).list j).up = (gN s.list j).up ∧ (gN (pushM s b).list j).ahead = (gN s.list j).ahead ∧ (gN (pushM s b).list j).kind = (gN s.list j).kind ∧ (gN (pushM s b).list j).text = (gN s.list j).text ∧ (gN (pushM s b).list j).level = (gN s.list j).level ∧ (gN (pushM s b).list j).depth = (gN s.list j).depth := fun j hj => by
    rw [at_old j hj]
    split
    · next e => subst e; exact ⟨rfl, rfl, rfl, rfl, rfl, rfl⟩
    · exact ⟨rfl, rfl, rfl, rfl, rfl, rfl⟩
  have lst : ∀ j, j < s.list.length → j ≠ s.tip → (gN (pushM s b).list j).last = (gN s.list j).last := fun j hj e => by rw [at_old j hj, if_neg e]
  have lt : (gN (pushM s b).list s.tip).last = (s.list.length : Int) := by rw [at_old _ ht, if_pos rfl]
  have upl : ∀ j, 0 < j → j < s.list.length → (gN s.list j).up.toNat < s.list.length := fun j h0 hj => by have := w.up j h0 hj; omega
  have onold : ∀ a c, a < s.list.length → On (pushM s b).list a c → On s.list a c := by
    intro a c hlt k
    induction k with
    | refl t => exact .refl t
    | @step t a h0 _ ih =>
      have e := (old t hlt).1
      refine .step h0 ?_
      rw [← e]
      exact ih (by rw [e]; exact upl t h0 hlt)
  have onfw : ∀ a c, a < s.list.length → On s.list a c → On (pushM s b).list a c := by
    intro a c hlt k
    induction k with
    | refl t => exact .refl t
    | @step t a h0 _ ih =>
      refine .step h0 ?_
      rw [(old t hlt).1]
      exact ih (upl t h0 hlt)
  have ontip : ∀ c, c < s.list.length → On (pushM s b).list s.list.length c → On s.list s.tip c := by
    intro c hc k
    cases k with
    | refl => omega
    | step _ k =>
      rw [at_new] at k
      exact onold _ _ ht k
  have ontip2 : ∀ c, On s.list s.tip c → On (pushM s b).list s.list.length c := fun c o => .step (by omega) (by rw [at_new]; exact onfw _ _ ht o)
  have hls := w.last s.tip ht
  refine ⟨kin_push w h.kin b, ⟨fun j h0 hl => ?_, fun j hj => ?_, fun j hj hjx => ?_, fun j hj hno => ?_, fun j y q o => ?_, fun j h0 hl => ?_, ?_⟩, ?_⟩
  · rw [push_len] at hl
    by_cases e : j = s.list.length
    · subst e
      rw [at_new]
      show holdsB (gN (pushM s b).list (s.tip : Int).toNat).kind b.kind = true ∧ b.kind ≠ 1
      rw [Int.toNat_natCast, (old _ ht).2.2.1]
      exact ⟨hb, h1⟩
    · have hj : j < s.list.length := by omega
      rw [(old j hj).1, (old j hj).2.2.1, (old _ (upl j h0 hj)).2.2.1]
      exact h.shp.hold j h0 hj
  · by_cases e : j = s.list.length
    · subst e
      rw [at_new] at hj ⊢
      exact h6 hj
    · by_cases hl : j < s.list.length
      · rw [(old j hl).2.2.1] at hj
        rw [(old j hl).2.2.2.2.1]
        exact h.shp.head j hj
      · rw [at_out j (by omega)] at hj; cases hj
  · by_cases e : j = s.list.length
    · subst e
      rw [at_new] at hj
      exact absurd (h3 hj).symm hjx
    · by_cases hl : j < s.list.length
      · rw [(old j hl).2.2.1] at hj
        by_cases et : j = s.tip
        · rw [et, lt]; omega
        · rw [lst j hl et]
          exact h.shp.list j hj (hx j hl hj et hjx)
      · rw [at_out j (by omega)] at hj; cases hj
  · rw [htp] at hno
    by_cases e : j = s.list.length
    · subst e; exact absurd (.refl _) hno
    · by_cases hl : j < s.list.length
      · rw [(old j hl).2.2.1] at hj
        rw [(old j hl).2.2.2.1]
        rcases h.shp.para j hj (fun o => hno (ontip2 j o)) with q | q
        · exact .inl q
        · refine .inr ⟨fun i => ?_, fun i => ?_⟩
          · by_cases ei : i = s.list.length
            · subst ei; rw [at_new]; show (-1 : Int) ≠ _; omega
            · by_cases hil : i < s.list.length
              · by_cases et : i = s.tip
                · rw [et, lt]; omega
                · rw [lst i hil et]; exact q.1 i
              · rw [at_out i (by omega)]; show (-1 : Int) ≠ _; omega
          · by_cases ei : i = s.list.length
            · subst ei; rw [at_new]; exact q.1 s.tip
            · by_cases hil : i < s.list.length
              · rw [(old i hil).2.1]; exact q.2 i
              · rw [at_out i (by omega)]; show (-1 : Int) ≠ _; omega
      · rw [at_out j (by omega)] at hj; cases hj
  · rw [htp] at o
    by_cases e : j = s.list.length
    · subst e
      rw [at_new] at q
      have q' : (gN s.list s.tip).last = (y : Int) := q
      have hy : y < s.list.length := by omega
      have := (ontip y hy o).le w
      omega
    · by_cases hl : j < s.list.length
      · rw [(old j hl).2.1] at q
        have := w.ahead j hl
        exact h.shp.ahead j y q (ontip y (by omega) o)
      · rw [at_out j (by omega)] at q
        have : (blkN 1).ahead = -1 := rfl
        omega
  · rw [push_len] at hl
    by_cases e : j = s.list.length
    · subst e
      rw [at_new]
      show (gN s.list s.tip).depth + 1 = (gN (pushM s b).list (s.tip : Int).toNat).depth + 1
      rw [Int.toNat_natCast, (old _ ht).2.2.2.2.2]
    · have hj : j < s.list.length := by omega
      rw [(old j hj).1, (old j hj).2.2.2.2.2, (old _ (upl j h0 hj)).2.2.2.2.2]
      exact h.shp.dep j h0 hj
  · rw [(old 0 (by omega)).2.2.2.2.2]; exact h.shp.dep0
  · rcases h.dp with q | q
    · exact .inl (by show (s.deep || _) = true; rw [q]; rfl)
    · by_cases hd : 100 < (s.nd s.tip).depth + 1
      · exact .inl (by show (s.deep || decide _) = true; rw [decide_eq_true hd, Bool.or_true])
      · refine .inr fun j => ?_
        by_cases e : j = s.list.length
        · subst e; rw [at_new]; show (s.nd s.tip).depth + 1 ≤ 100; omega
        · by_cases hl : j < s.list.length
          · rw [(old j hl).2.2.2.2.2]; exact q j
          · rw [at_out j (by omega)]; show 0 ≤ 100; omega
theorem sg_add {s : St} (w : Wf s.list s.tip) (h : Sg s 0) (b : Nd) (hk : b.kind ≠ 4 ∨ holdsB (s.nd s.tip).kind b.kind = true) (h1 : b.kind ≠ 1) (h3 : b.kind ≠ 3) (h6 : b.kind = 6 → 1 ≤ b.level ∧ b.level ≤ 6) : Sg (addM s b) 0 := by
  obtain ⟨w1, hh, _⟩ := addGo_ok s.tip s b.kind (Nat.le_refl _) w hk
  exact sg_push w1 (sg_addGo _ s b.kind 0 w hk h) b hh h1 h6 (fun e => absurd e h3) (fun _ _ _ _ e => e)
theorem sg_addIn {s : St} {i : Nat} (w : Wf s.list s.tip) (o : On s.list s.tip i) (h : Sg s 0) (b : Nd) (h4 : b.kind ≠ 4) (h1 : b.kind ≠ 1) (h3 : b.kind ≠ 3) (h6 : b.kind = 6 → 1 ≤ b.level ∧ b.level ≤ 6) : Sg (addInM s i b) 0 :=
  sg_add (cw_wf w o) (sg_cw w o h) b (.inl h4) h1 h3 h6
theorem sg_put {s : St} {i : Nat} (w : Wf s.list s.tip) (o : On s.list s.tip i) (h : Sg s 0) : Sg (putM s i) 0 :=
  h.set w i { s.nd i with text := (s.nd i).text ++ lrestM s.line ++ [10] } (putM s i) rfl rfl rfl ⟨rfl, rfl, rfl, rfl⟩ (.inl rfl) (fun q => h.shp.head i q) (fun _ => .inl o)
theorem sg_be {s : St} (w : Wf s.list s.tip) (h : Sg s 0) (i : Nat) (b : Bool) (s' : St) (e1 : s'.list = s.list.set i { s.nd i with be := b }) (e2 : s'.tip = s.tip) (e3 : s'.deep = s.deep) : Sg s' 0 :=
  h.set w i { s.nd i with be := b } s' e1 e2 e3 ⟨rfl, rfl, rfl, rfl⟩ (.inl rfl) (fun q => h.shp.head i q) (fun _ => .inr rfl)
theorem sg_ebGo : ∀ (n : Nat) (s : St) (j : Int) (b : Bool), Wf s.list s.tip → Sg s 0 → Sg { s with list := ebGo n s.list j b } 0
  | 0, _, _, _, _, h => h
  | n + 1, s, j, b, w, h => by
    unfold ebGo
    split
    · exact h
    · have hs := sg_be w h j.toNat b { s with list := s.list.set j.toNat { gN s.list j.toNat with be := b } } rfl rfl rfl
      exact sg_ebGo n { s with list := s.list.set j.toNat { gN s.list j.toNat with be := b } } _ b (w.set j.toNat _ ⟨rfl, rfl, rfl, rfl⟩ (fun e => by show (gN s.list j.toNat).kind = 1; rw [e]; exact w.doc) (w.ind _)) hs
theorem sg_eb {s : St} (w : Wf s.list s.tip) (h : Sg s 0) (i : Nat) : Sg (endBlankM s i) 0 := by
  unfold endBlankM ebLast
  split
  · exact sg_ebGo _ { s with list := s.list.set (s.nd i).last.toNat { s.nd (s.nd i).last.toNat with be := true } } _ _ (w.set _ _ ⟨rfl, rfl, rfl, rfl⟩ (fun e => by show (gN s.list (s.nd i).last.toNat).kind = 1; rw [e]; exact w.doc) (w.ind _)) (sg_be w h _ true _ rfl rfl rfl)
  · exact sg_ebGo _ s _ _ w h
theorem sg_fill {s : St} {i : Nat} (w : Wf s.list s.tip) (o : On s.list s.tip i) (h8 : (s.nd i).kind = 8 → s.tip ≠ 0) (h : Sg s 0) : Sg (fillM s i) 0 := by
  unfold fillM
  split
  · exact sg_put w o h
  split
  · next e8 =>
    split
    · exact sg_close (s := putM s i) (sg_put w o h) (put_wf w i) (h8 e8)
    · exact sg_put w o h
  split
  · exact h
  · exact sg_put (s := addM s (blkN 5)) (add_wf w (blkN 5) (.inl (show (5 : Nat) ≠ 4 by decide)) (Nat.zero_le _)) (.refl _) (sg_add w h (blkN 5) (.inl (show (5 : Nat) ≠ 4 by decide)) (show (5 : Nat) ≠ 1 by decide) (show (5 : Nat) ≠ 3 by decide) (fun e => absurd e (show (5 : Nat) ≠ 6 by decide)))
theorem sg_rest {s : St} {i : Nat} (w : Wf s.list s.tip) (o : On s.list s.tip i) (h : Sg s 0) (what : Nat) : Sg (restM s i what) 0 := by
  have tail : ∀ s : St, Wf s.list s.tip → On s.list s.tip i → Sg s 0 → Sg (endBlankM (cwM s i) i) 0 ∧ Sg (fillM (endBlankM (cwM s i) i) i) 0 := by
    intro s w o h
    have hc := cw_ok w o
    have eb := endBlank_keep (cw_wf w o) i
    have kb := sg_eb (cw_wf w o) (sg_cw w o h) i
    refine ⟨kb, sg_fill (by rw [eb.2.2.2.2.1]; exact eb.1) (by rw [eb.2.2.2.2.1, hc.2.1]; exact .refl _) (fun q => ?_) kb⟩
    rw [eb.2.2.2.2.1, hc.2.1]
    intro e0
    rw [eb.2.2.2.1, (fun x => by rw [e0] : ∀ x : St, x.nd i = x.nd 0)] at q
    have := hc.1.doc
    unfold St.nd at q
    omega
  unfold restM
  split
  · split
    · exact sg_put (s := s.atL (skipBM s.line s.line.ind)) w (.refl _) (h.atL _)
    · exact (tail (s.atL (skipBM s.line s.line.ind)) w o (h.atL _)).2
  split
  · exact (tail s w o h).2
  · exact (tail s w o h).1
theorem head_lv {l : List UInt8} (h : headN l ≠ 0) : 1 ≤ headN l ∧ headN l ≤ 6 := by
  unfold headN at *
  split at h
  · exact absurd rfl h
  · next c => rw [if_neg c]; exact ⟨by omega, by omega⟩
theorem under_lv (l : List UInt8) : underL l ≤ 2 := by
  unfold underL
  split
  · omega
  split <;> omega
theorem sg_under {s : St} {i : Nat} (w : Wf s.list s.tip) (o : On s.list s.tip i) (h : Sg s 0) : Sg (bUnderM s i).1 0 := by
  unfold bUnderM
  split
  · exact h
  next c =>
  have hd := sg_define h w i o
  split
  · exact hd
  · have wd : Wf (defineM s i).list (defineM s i).tip := w.text i _ _
    have ek : ((defineM s i).nd i).kind = 5 := by
      have hlt : i < s.list.length := Nat.lt_of_le_of_lt (o.le w) w.tip
      have : (defineM s i).nd i = { s.nd i with text := trimL (dfrL (s.nd i).text) } := gN_at hlt _
      rw [this]
      exact Decidable.byContradiction fun q => c (.inr q)
    have hu := under_lv s.line.next
    exact hd.set wd i { (defineM s i).nd i with kind := 6, level := underL s.line.next } _ rfl rfl rfl ⟨rfl, rfl, rfl, rfl⟩ (.inr ⟨ek, rfl⟩) (fun _ => ⟨by show 1 ≤ underL s.line.next; omega, by show underL s.line.next ≤ 6; omega⟩) (fun e => by cases e)
theorem sg_inItem {s : St} (w : Wf s.list s.tip) (h : Sg s 0) (n : Nat) : Sg (inItemM s n) 0 :=
  h.set w s.tip { s.nd s.tip with indent := (pastMarkM s.line n).2 } (inItemM s n) rfl rfl rfl ⟨rfl, rfl, rfl, rfl⟩ (.inl rfl) (fun q => h.shp.head _ q) (fun _ => .inl (.refl _))
theorem sg_item {s : St} {i : Nat} (w : Wf s.list s.tip) (o : On s.list s.tip i) (h : Sg s 0) : Sg (bItemM s i).1 0 := by
  unfold bItemM
  split
  · have w1 := cw_wf w o
    have h1 := sg_cw w o h
    obtain ⟨w2, _, o2, _, _⟩ := list_ok w1 (lstL s.line.next) (a := (cwM s i).list.length) (b := phi (cwM s i)) ⟨Nat.le_refl _, Nat.le_refl _⟩
    have h2 : ∃ x, Sg (listM (cwM s i) (lstL s.line.next)) x ∧ (x = 0 ∨ x = (listM (cwM s i) (lstL s.line.next)).tip) := by
      unfold listM
      split
      · exact ⟨0, h1, .inl rfl⟩
      · obtain ⟨w3, hh, _⟩ := addGo_ok (cwM s i).tip (cwM s i) 3 (Nat.le_refl _) w1 (.inl (by decide))
        refine ⟨_, sg_push w3 (sg_addGo _ _ 3 0 w1 (.inl (by decide)) h1) _ hh (show (3 : Nat) ≠ 1 by decide) (fun e => absurd e (show (3 : Nat) ≠ 6 by decide)) (fun _ => rfl) (fun j _ hj _ _ e => ?_), .inr rfl⟩
        rw [e, w3.doc] at hj
        cases hj
    obtain ⟨x, h3, hx⟩ := h2
    generalize listM (cwM s i) (lstL s.line.next) = s2 at *
    have ea : addM s2 (blkN 4) = pushM s2 (blkN 4) := by unfold addM; rw [show (blkN 4).kind = 4 from rfl, add_stop o2]
    have wa : Wf (addM s2 (blkN 4)).list (addM s2 (blkN 4)).tip := add_wf w2 (blkN 4) (.inr o2) (Nat.zero_le _)
    have h4 : Sg (addM s2 (blkN 4)) 0 := by
      rw [ea]
      refine sg_push w2 h3 _ o2 (show (4 : Nat) ≠ 1 by decide) (fun e => absurd e (show (4 : Nat) ≠ 6 by decide)) (fun e => absurd e (show (4 : Nat) ≠ 3 by decide)) (fun j _ _ hjt hj0 => ?_)
      rcases hx with e | e
      · rw [e]; exact hj0
      · rw [e]; exact hjt
    exact sg_inItem wa h4 _
  · exact h
theorem sg_begin {s : St} {i : Nat} (k : Ok s i) (h : Sg s 0) : Sg (beginM s i).1 0 := by
  unfold beginM
  split
  · exact h
  split
  · unfold bCodeM
    split
    · exact h
    · exact sg_addIn (s := s.atL (skipBM s.line 4)) k.wf k.on (h.atL _) (blkN 7) (show (7 : Nat) ≠ 4 by decide) (show (7 : Nat) ≠ 1 by decide) (show (7 : Nat) ≠ 3 by decide) (fun e => absurd e (show (7 : Nat) ≠ 6 by decide))
  split
  · exact sg_addIn (s := s.atL (pastQuoteM s.line).1) k.wf k.on (h.atL _) (blkN 2) (show (2 : Nat) ≠ 4 by decide) (show (2 : Nat) ≠ 1 by decide) (show (2 : Nat) ≠ 3 by decide) (fun e => absurd e (show (2 : Nat) ≠ 6 by decide))
  split
  · next hh => exact sg_addIn k.wf k.on h _ (show (6 : Nat) ≠ 4 by decide) (show (6 : Nat) ≠ 1 by decide) (show (6 : Nat) ≠ 3 by decide) (fun _ => head_lv hh)
  split
  · exact sg_addIn k.wf k.on h _ (show (7 : Nat) ≠ 4 by decide) (show (7 : Nat) ≠ 1 by decide) (show (7 : Nat) ≠ 3 by decide) (fun e => absurd e (show (7 : Nat) ≠ 6 by decide))
  split
  · exact sg_addIn k.wf k.on h _ (show (8 : Nat) ≠ 4 by decide) (show (8 : Nat) ≠ 1 by decide) (show (8 : Nat) ≠ 3 by decide) (fun e => absurd e (show (8 : Nat) ≠ 6 by decide))
  split
  · exact sg_under k.wf k.on h
  · next hq =>
    have hq' : (bUnderM s i).2 = false := by revert hq; cases (bUnderM s i).2 <;> simp
    have k1 := (k.under hq').1
    have h1 := sg_under k.wf k.on h
    unfold bRestM
    split
    · exact sg_addIn k1.wf k1.on h1 _ (show (9 : Nat) ≠ 4 by decide) (show (9 : Nat) ≠ 1 by decide) (show (9 : Nat) ≠ 3 by decide) (fun e => absurd e (show (9 : Nat) ≠ 6 by decide))
    split
    · exact sg_item k1.wf k1.on h1
    · exact h1
theorem sg_begunGo : ∀ (f : Nat) (s : St) (i : Nat) {z : Nat}, Ok s i → Lw z s.line → z ≤ 10000 → s.list.length + 2 * s.line.rem.length ≤ 79000 → Sg s 0 → Sg (begunGo f s i).1 0
  | 0, _, _, _, _, _, _, _, h => h
  | f + 1, s, i, z, k, hz, hz2, ha, h => by
    have g := begin_bg k (a := s.list.length) (b := phi s) ⟨Nat.le_refl _, Nat.le_refl _⟩ hz hz2
    have kb := sg_begin k h
    unfold begunGo
    split
    · exact kb
    split
    · exact kb
    · next h0 h1 =>
      have e1 : (beginM s i).2 = 1 := Decidable.byContradiction fun q => h1 (.inl q)
      obtain ⟨h2, h3⟩ := g.one e1
      have h4 := h2 z hz
      have h5 := h3.len
      have h6 := h3.txt
      have h7 := k.phi
      exact sg_begunGo f (beginM s i).1 (beginM s i).1.tip ⟨g.wf, .refl _, by omega, by omega⟩ (g.lw z hz) hz2 (by omega) kb
theorem sg_line {s : St} {z : Nat} (w : Wf s.list s.tip) (h : Sg s 0) (hz : Lw z s.line) (hz2 : z ≤ 10000) (ha : s.list.length + 2 * z ≤ 79000) (hb : phi s ≤ 80000) : Sg (lineM s) 0 := by
  have m := matched_mt w hz
  unfold lineM
  split
  · next e =>
    obtain ⟨l, h1, h2, h3⟩ := m.yes e
    rw [h1]
    exact sg_close (s := s.atL l) (h.atL l) w h2
  · next e =>
    obtain ⟨l, h1, h2, h3, h4⟩ := m.no (by revert e; cases (matchedM s).2.2 <;> simp)
    have hr := hz.rem
    rw [h1]
    have k : Ok (s.atL l) (matchedM s).2.1 := ⟨w, h2, hb, by show s.list.length ≤ _; omega⟩
    have hl : (s.atL l).list.length + 2 * (s.atL l).line.rem.length ≤ 79000 := by show s.list.length + 2 * l.rem.length ≤ _; omega
    have g := begun_bn k (a := 79000) (b := 80000) h3 hz2 hl (show phi s ≤ _ from hb) (Nat.le_refl _) (Nat.le_refl _)
    refine sg_rest g.wf g.on ?_ _
    unfold begunM
    split
    · exact h.atL l
    · exact sg_begunGo _ _ _ k h3 hz2 hl (h.atL l)
theorem sg_take {s : St} {t : List UInt8} (w : Wf s.list s.tip) (h : Sg s 0) (ht : t.length ≤ 10000) (ha : s.list.length + 2 * t.length ≤ 79000) (hb : phi s ≤ 80000) : Sg (takeM s t) 0 :=
  sg_line (s := startM s t) w ⟨h.kin, h.shp, h.dp⟩ (Lw.start t) ht ha hb
theorem sg_st0 : Sg st0 0 := by
  have e : ∀ j, gN st0.list j = blkN 1 := fun j => by
    cases j with
    | zero => rfl
    | succ j => exact gN_out (by show 1 ≤ j + 1; omega)
  refine ⟨⟨fun i y q => ?_, fun y z q => ?_⟩, ⟨fun i h0 hl => ?_, fun i q => ?_, fun i q => ?_, fun i q => ?_, fun j y q => ?_, fun i h0 hl => ?_, by rw [e]; rfl⟩, .inr fun i => by rw [e]; exact Nat.zero_le _⟩
  · rw [e] at q; exact absurd q (by show (-1 : Int) ≠ _; omega)
  · rw [e] at q; exact absurd q (by show (-1 : Int) ≠ _; omega)
  · have : i < 1 := hl
    omega
  · rw [e] at q; cases q
  · rw [e] at q; cases q
  · rw [e] at q; cases q
  · rw [e] at q; exact absurd q (by show (-1 : Int) ≠ _; omega)
  · have : i < 1 := hl
    omega
end Go.Proofs.YtfgpephpkibbaaaGreatDoor

/-
  What the parser tells is such as blocks must be.
-/
namespace Go.Proofs.YtfgpephpkibbaaaGreatDoor
open Go Go.Lib

def kindT : Tr → Nat
  | .mk k _ _ _ _ _ _ _ _ => k
def hldB (a b : Nat) : Bool := if a = 1 ∨ a = 2 ∨ a = 4 then !decide (b = 4) && !decide (b = 1) else if a = 3 then decide (b = 4) else false
def ownB (k l : Nat) (t : List UInt8) (n : Nat) : Bool := !(decide (k = 6) && (decide (l < 1) || decide (6 < l))) && !(decide (k = 5) && decide (t = [])) && !(decide (k = 3) && decide (n = 0))
mutual
/-- Such as blocks must be. -/
def shT : Tr → Bool
  | .mk k l _ _ _ _ _ t ks => ownB k l t ks.length && shL k ks
def shL : Nat → List Tr → Bool
  | _, [] => true
  | k, x :: xs => hldB k (kindT x) && shT x && shL k xs
end
mutual
/-- How deep. -/
def dpT : Tr → Nat
  | .mk _ _ _ _ _ _ _ _ ks => dpL ks + 1
def dpL : List Tr → Nat
  | [] => 0
  | x :: xs => max (dpT x) (dpL xs)
end
theorem shL_app : ∀ (k : Nat) (a b : List Tr), shL k (a ++ b) = (shL k a && shL k b)
  | k, [], b => by rw [List.nil_append, shL, Bool.true_and]
  | k, x :: a, b => by rw [List.cons_append, shL, shL, shL_app k a b]; simp only [Bool.and_assoc]
theorem dpL_app : ∀ a b : List Tr, dpL (a ++ b) = max (dpL a) (dpL b)
  | [], b => by rw [List.nil_append, dpL]; omega
  | x :: a, b => by rw [List.cons_append, dpL, dpL, dpL_app a b]; omega
theorem shL_all {k : Nat} : ∀ {l : List Tr}, (∀ x ∈ l, hldB k (kindT x) = true ∧ shT x = true) → shL k l = true
  | [], _ => by rw [shL]
  | x :: l, h => by
    obtain ⟨a, b⟩ := h x (List.mem_cons_self ..)
    rw [shL, a, b, shL_all fun y hy => h y (List.mem_cons_of_mem _ hy)]; rfl
theorem dpL_all {n : Nat} : ∀ {l : List Tr}, (∀ x ∈ l, dpT x ≤ n) → dpL l ≤ n
  | [], _ => by rw [dpL]; omega
  | x :: l, h => by
    have a := h x (List.mem_cons_self ..)
    have b := dpL_all fun y hy => h y (List.mem_cons_of_mem _ hy)
    rw [dpL]; omega
theorem chGo_live {l : List Nd} {t : Nat} (w : Wf l t) (k : Kin l) {i : Nat} : ∀ (f : Nat) (j : Int), -1 ≤ j → (∀ y : Nat, j = (y : Int) → (gN l y).up = (i : Int) ∧ y < l.length ∧ ¬ Dead l y) → ∀ c ∈ chGo f l j, (gN l c).up = (i : Int) ∧ c < l.length ∧ ¬ Dead l c
  | 0, _, _, _, c, hc => by cases hc
  | f + 1, j, hm, h, c, hc => by
    unfold chGo at hc
    split at hc
    · cases hc
    · next hj =>
      obtain ⟨h1, h2, h3⟩ := h j.toNat (by omega)
      have hpos : 0 < j.toNat := by
        refine Nat.pos_of_ne_zero fun e => ?_
        rw [e, w.up0] at h1
        omega
      have hu := w.up j.toNat hpos h2
      have ha := w.ahead j.toNat h2
      rcases List.mem_cons.1 hc with e | e
      · subst e; exact ⟨h1, h2, h3⟩
      · refine chGo_live w k f (gN l j.toNat).ahead (by omega) (fun y hy => ?_) c e
        exact ⟨(k.ahead _ _ hy).trans h1, by omega, fun q => q.2 _ hy⟩
theorem ch_live {l : List Nd} {t : Nat} (w : Wf l t) (k : Kin l) {i : Nat} (hi : i < l.length) : ∀ c ∈ chM l (gN l i).last, (gN l c).up = (i : Int) ∧ c < l.length ∧ ¬ Dead l c := by
  have hl := w.last i hi
  exact chGo_live w k l.length (gN l i).last (by omega) fun y hy => ⟨k.last i y hy, by omega, fun q => q.1 _ hy⟩
theorem hold_law {a b : Nat} (h : holdsB a b = true) (h1 : b ≠ 1) : hldB a b = true := by
  unfold holdsB at h
  unfold hldB
  split at h
  · next q => rw [if_pos q, h, decide_eq_false h1]; rfl
  · next q =>
    split at h
    · next q3 => rw [if_neg q, if_pos q3]; exact h
    · cases h
theorem told_shape {l : List Nd} (w : Wf l 0) (k : Kin l) (h : Shp l 0 0) (hd : ∀ i, (gN l i).depth ≤ 100) : ∀ (d i : Nat), i < l.length → l.length ≤ i + d → ((gN l i).kind = 5 → (gN l i).text ≠ []) → kindT (toldM l i) = (gN l i).kind ∧ shT (toldM l i) = true ∧ dpT (toldM l i) + (gN l i).depth ≤ 101
  | 0, i, hi, hl, _ => by omega
  | d + 1, i, hi, hl, hp => by
    have kid : ∀ c ∈ chM l (gN l i).last, hldB (gN l i).kind (kindT (toldM l c)) = true ∧ shT (toldM l c) = true ∧ dpT (toldM l c) + (gN l i).depth ≤ 100 := fun c hc => by
      obtain ⟨h1, h2, h3⟩ := ch_live w k hi c hc
      have h0 : 0 < c := by
        refine Nat.pos_of_ne_zero fun e => ?_
        rw [e, w.up0] at h1
        omega
      have hu := w.up c h0 h2
      have hic : i < c := by omega
      have eu : (gN l c).up.toNat = i := by rw [h1]; rfl
      obtain ⟨a1, a2⟩ := h.hold c h0 h2
      have a3 := h.dep c h0 h2
      rw [eu] at a1 a3
      have hn : ¬ On l 0 c := fun o => by have := o.le w; omega
      obtain ⟨r1, r2, r3⟩ := told_shape w k h hd d c h2 (by omega) (fun e => (h.para c e hn).resolve_right h3)
      rw [r1]
      exact ⟨hold_law a1 a2, r2, by omega⟩
    have hdi := hd i
    have hlen : (gN l i).kind = 3 → ((chM l (gN l i).last).map (toldM l)).reverse.length ≠ 0 := fun e => by
      have hne : i ≠ 0 := fun e0 => by rw [e0, w.doc] at e; cases e
      have h1 := h.list i e hne
      have h2 := w.last i hi
      obtain ⟨y, hy⟩ : ∃ y : Nat, (gN l i).last = (y : Int) := ⟨(gN l i).last.toNat, by omega⟩
      rw [hy, ch_step w (by omega)]
      simp
    rw [told_eq w k hi]
    refine ⟨rfl, ?_, ?_⟩
    · rw [shT]
      have e1 : ownB (gN l i).kind (gN l i).level (gN l i).text ((chM l (gN l i).last).map (toldM l)).reverse.length = true := by
        unfold ownB
        by_cases k6 : (gN l i).kind = 6
        · obtain ⟨b1, b2⟩ := h.head i k6
          rw [k6, decide_eq_false (show ¬ (gN l i).level < 1 by omega), decide_eq_false (show ¬ 6 < (gN l i).level by omega)]; rfl
        · rw [decide_eq_false k6]
          by_cases k5 : (gN l i).kind = 5
          · rw [k5, decide_eq_false (hp k5)]; rfl
          · rw [decide_eq_false k5]
            by_cases k3 : (gN l i).kind = 3
            · rw [decide_eq_false (hlen k3), Bool.and_false]; rfl
            · rw [decide_eq_false k3]; rfl
      rw [e1, Bool.true_and]
      refine shL_all fun x hx => ?_
      obtain ⟨c, hc, rfl⟩ := List.mem_map.1 (List.mem_reverse.1 hx)
      exact ⟨(kid c hc).1, (kid c hc).2.1⟩
    · rw [dpT]
      have : dpL ((chM l (gN l i).last).map (toldM l)).reverse ≤ 100 - (gN l i).depth := dpL_all fun x hx => by
        obtain ⟨c, hc, rfl⟩ := List.mem_map.1 (List.mem_reverse.1 hx)
        have := (kid c hc).2.2
        omega
      omega
theorem run_shape : ∀ (ls : List (List UInt8)) (s s' : St) (a b : Nat), Wf s.list s.tip → Sg s 0 → Cap s a b → (∀ t ∈ ls, t.length ≤ 5000) → a + pot ls ≤ 60000 → b + pot ls ≤ 60000 → s.deep = false → runBM ls s = some s' → Wf s'.list s'.tip ∧ Sg s' 0 ∧ s'.deep = false
  | [], s, s', a, b, w, h, _, _, _, _, hd, e => by
    rw [runBM] at e
    obtain rfl := Option.some.inj e
    exact ⟨w, h, hd⟩
  | t :: ls, s, s', a, b, w, h, c, ht, ha, hb, hd, e => by
    have h5 := ht t (List.mem_cons_self ..)
    have ep : pot (t :: ls) = (2 * t.length + 4) + pot ls := rfl
    have c1 := c.len
    have c2 := c.txt
    obtain ⟨w2, c3⟩ := take_ok (t := t) w c (Nat.le_refl _) (by omega) (by omega) (by omega)
    have h2 := sg_take (t := t) w h (by omega) (by omega) (by omega)
    rw [runBM] at e
    by_cases dp : (takeM s t).deep = true
    · rw [if_pos dp] at e; cases e
    · rw [if_neg dp] at e
      exact run_shape ls _ s' _ _ w2 h2 c3 (fun x hx => ht x (List.mem_cons_of_mem _ hx)) (by omega) (by omega) (by revert dp; cases (takeM s t).deep <;> simp) e
/-- WHAT IS TOLD. -/
theorem parse_shape {t : List UInt8} (ht : t.length ≤ 5000) {x : Tr} {rs : List Rf} (h : parseM t = some (x, rs)) : kindT x = 1 ∧ shT x = true ∧ dpT x ≤ 101 := by
  unfold parseM at h
  have hp := pot_lines t
  cases er : runBM (linesL t) st0 with
  | none => rw [er] at h; cases h
  | some s =>
    rw [er] at h
    have e := Option.some.inj h
    obtain ⟨w, g, hd⟩ := run_shape (linesL t) st0 s 1 0 wf0 sg_st0 ⟨Nat.le_refl _, Nat.zero_le _⟩ (fun y hy => by have := line_le hy; omega) (by omega) (by omega) rfl er
    have o := on_doc w
    obtain ⟨w0, t0, _, _, _, d0⟩ := cw_ok w o
    have g0 := sg_cw w o g
    have hs := g0.shp
    rw [t0] at hs
    have hdp : ∀ i, (gN (cwM s 0).list i).depth ≤ 100 := by
      rcases g0.dp with q | q
      · rw [d0, hd] at q; cases q
      · exact q
    obtain ⟨r1, r2, r3⟩ := told_shape w0 g0.kin hs hdp _ 0 w0.tip (Nat.le_of_eq (Nat.zero_add _).symm) (fun q => by rw [w0.doc] at q; cases q)
    have ex : toldM (cwM s 0).list 0 = x := (Prod.mk.inj e).1
    rw [ex] at r1 r2 r3
    exact ⟨r1.trans w0.doc, r2, by omega⟩
end Go.Proofs.YtfgpephpkibbaaaGreatDoor

/-
  Contracts of the law's deepest, holds, shaped, over trees in memory.
-/
namespace Go.Proofs.YtfgpephpkibbaaaGreatDoor
open Go.RowKit Go.Lib Go.Maps

theorem TreeAt.form {W : World} {lo hi : Nat} {k l : Nat} {o : Bool} {st mk : Nat} {ti : Bool} {info text : List UInt8} {kids : List Tr} {c : Ten} (h : TreeAt W lo hi (.mk k l o st mk ti info text kids) c) : ∃ kv, c.1 = blkT k l o st mk ti info text kv ∧ Kids W lo hi kids kv := by
  cases h with
  | mk _ _ _ _ _ _ _ _ _ kv cs c hc hr hg hl hk => exact ⟨kv, hc, cs, hr, hg, hl, hk⟩
/-- The block at a place of a list. -/
theorem Kids.tree {W : World} {lo hi : Nat} {kids : List Tr} {g cap : Nat} (h : Kids W lo hi kids (.slice (some ⟨g, 0, none⟩) kids.length cap)) {i : Nat} (hil : i < kids.length) :
    ∃ c : Ten, TreeAt W lo hi kids[i] c ∧ ∀ j, j < 10 → W.cell? ⟨g, i * 10 + j, none⟩ = c.1[j]? := by
  obtain ⟨cs, h1, h2, h3, h4⟩ := h
  refine ⟨cs[i]'(by omega), h4 i hil (by omega), fun j hj => ?_⟩
  have hr : W.ownsRow lo 26 10 (.slice (some ⟨g, 0, none⟩) cs.length cap) cs.length (flat10 cs) := by rw [← h3] at h1; exact h1
  rw [hr.cellAt _ (by omega), flat10_get cs _ (by omega)]
  have e1 : (i * 10 + j) / 10 = i := by omega
  have e2 : (i * 10 + j) % 10 = j := by omega
  rw [e1, e2, List.getElem?_eq_getElem (by omega)]; rfl
theorem dpL_get : ∀ (l : List Tr) (i : Nat) (h : i < l.length), dpT l[i] ≤ dpL l
  | d :: l, 0, _ => by rw [dpL]; exact Nat.le_max_left _ _
  | d :: l, i + 1, h => by
    have := dpL_get l i (by simpa using h)
    rw [dpL, List.getElem_cons_succ]; omega
theorem shL_get {k : Nat} : ∀ (l : List Tr) (i : Nat) (h : i < l.length), shL k l = true → hldB k (kindT l[i]) = true ∧ shT l[i] = true
  | d :: l, 0, _, e => by
    rw [shL, Bool.and_eq_true, Bool.and_eq_true] at e
    exact e.1
  | d :: l, i + 1, h, e => by
    rw [shL, Bool.and_eq_true] at e
    exact shL_get l i (by simpa using h) e.2
theorem dp_pos (t : Tr) : 0 < dpT t := by cases t; rw [dpT]; omega
theorem arrB_of {C : Array Value} {l : List Value} (h : C.toList = l) : C = l.toArray := by subst h; simp
set_option maxRecDepth 100000 in
set_option maxHeartbeats 4000000 in
theorem deepest_any : ∀ (f : Nat) (t : Tr) (W : World) (lo hi : Nat) (c : Ten) (C : Array Value), dpT t ≤ f → f ≤ 1000 → TreeAt W lo hi t c → C.toList = c.1 → hi ≤ W.heap.size →
    Calls Tryz.prog 10 #[.agg C] W fun e w' => e = .returned (.int .i64 (dpT t : Nat)) ∧ Keeps W w' := by
  intro f
  induction f with
  | zero => intro t W lo hi c C h; have := dp_pos t; omega
  | succ f ih =>
  intro t W lo hi c C hf hm hd hC hP
  cases t with
  | mk k l o st mk ti info text kids =>
  obtain ⟨kv, hc, hk⟩ := hd.form
  obtain ⟨A, cap, rfl, n1, n2, n3⟩ := hk.slice
  rw [hc] at hC
  have eC := arrB_of hC
  unfold blkT at eC
  subst eC
  clear hC hc hd
  rw [dpT] at hf
  obtain ⟨x6, hx6⟩ : ∃ x : ByteArray, (⟨info.toArray⟩ : ByteArray) = x := ⟨_, rfl⟩
  obtain ⟨x7, hx7⟩ : ∃ x : ByteArray, (⟨text.toArray⟩ : ByteArray) = x := ⟨_, rfl⟩
  rw [hx6, hx7]
  clear hx6 hx7
  have IH := Lib.hid ih
  have HK := Lib.hid hk
  have HP := Lib.hid hP
  have HN := Lib.hid n3
  have HM := Lib.hid (show dpL kids ≤ f ∧ f ≤ 1000 by omega)
  have HDE : Hid (dpT (.mk k l o st mk ti info text kids) = dpL kids + 1) := Lib.hid (by rw [dpT])
  have KA := Lib.hid ((Keeps.refl W).alloc (.cells #[.int .i64 k, .int .i64 l, .bool o, .int .i64 st, .int .u8 mk, .bool ti, .string x6, .string x7, .slice A kids.length cap, .slice none 0 0] 26))
  have BA := Lib.hid (Blk.new W 26 #[.int .i64 k, .int .i64 l, .bool o, .int .i64 st, .int .u8 mk, .bool ti, .string x6, .string x7, .slice A kids.length cap, .slice none 0 0])
  rw [HDE.out]
  clear ih hk hP n3 hf hm HDE
  simp only [List.toArray] at *
  unfold maxLen at n2
  have D0 : Hid (dpL (kids.take 0) = 0) := Lib.hid (by rw [List.take_zero, dpL])
  go_enter Tryz.func10, Tryz.ntmps10
  go_wp2_with fail
  generalize W.alloc (.cells #[.int .i64 k, .int .i64 l, .bool o, .int .i64 st, .int .u8 mk, .bool ti, .string x6, .string x7, .slice A kids.length cap, .slice none 0 0] 26) = w1 at *
  obtain ⟨bx, hbx⟩ : ∃ bx, W.heap.size = bx := ⟨_, rfl⟩
  rw [hbx] at BA ⊢
  clear hbx
  go_loopw [3, 4] (fun v i wr => ∃ (j D : Nat), j ≤ kids.length ∧ i = .int .i64 j ∧ v = .int .i64 D ∧ D ≤ 1000 ∧ Hid (dpL (kids.take j) = D) ∧ Hid (Keeps w1 wr)) (fun _ i _ => kids.length - (RowKit.intOf i).toNat)
  case atStart => exact ⟨0, 0, Nat.zero_le _, rfl, rfl, by omega, D0, Lib.hid (Keeps.refl _)⟩
  case round =>
    obtain ⟨j, D, hj, rfl, rfl, hD, HD, HW1⟩ := hrel
    have HW := Lib.hid (KA.out.trans HW1.out)
    have z8 := (BA.out.keep HW1.out).cell 8 (v := .slice A kids.length cap) rfl
    by_cases c1 : j < kids.length
    · obtain ⟨g, rfl⟩ := HN.out (by omega)
      have hkw := HK.out.keep HP.out HW.out
      obtain ⟨c', hd', hcell⟩ := hkw.tree c1
      have hjl := dpL_get kids j c1
      have HS : Hid (dpL (kids.take (j + 1)) = max D (dpT kids[j])) := Lib.hid (by
        rw [List.take_succ_eq_append_getElem c1, dpL_app, HD.out, dpL, dpL, Nat.max_zero])
      have CL := Lib.hid (fun W' (q : Keeps wr W') (C : Array Value) (hC : C.toList = c'.1) => IH.out kids[j] W' lo hi c' C (by have := HM.out.1; omega) HM.out.2 (hd'.keep (Nat.le_trans HP.out HW.out.size) q) hC (Nat.le_trans HP.out (Nat.le_trans HW.out.size q.size)))
      generalize hkj : kids[j] = dj at *
      obtain ⟨k', l', o', st', mk', ti', info', text', kids'⟩ := dj
      obtain ⟨kv', hc', hk'⟩ := hd'.form
      obtain ⟨A', cap', rfl, -, -, -⟩ := hk'.slice
      rw [hc'] at CL hcell
      unfold blkT at CL hcell
      have q0 : wr.cell? ⟨g, j * 10, none⟩ = some (.int .i64 k') := hcell 0 (by decide)
      have q1 : wr.cell? ⟨g, j * 10 + 1, none⟩ = some (.int .i64 l') := hcell 1 (by decide)
      have q2 : wr.cell? ⟨g, j * 10 + 2, none⟩ = some (.bool o') := hcell 2 (by decide)
      have q3 : wr.cell? ⟨g, j * 10 + 3, none⟩ = some (.int .i64 st') := hcell 3 (by decide)
      have q4 : wr.cell? ⟨g, j * 10 + 4, none⟩ = some (.int .u8 mk') := hcell 4 (by decide)
      have q5 : wr.cell? ⟨g, j * 10 + 5, none⟩ = some (.bool ti') := hcell 5 (by decide)
      have q6 := hcell 6 (by decide)
      have q7 := hcell 7 (by decide)
      have q8 : wr.cell? ⟨g, j * 10 + 8, none⟩ = some (.slice A' kids'.length cap') := hcell 8 (by decide)
      have q9 : wr.cell? ⟨g, j * 10 + 9, none⟩ = some (.slice none 0 0) := hcell 9 (by decide)
      simp only [List.getElem?_cons_succ, List.getElem?_cons_zero] at q6 q7
      obtain ⟨y6, hy6⟩ : ∃ x : ByteArray, (⟨info'.toArray⟩ : ByteArray) = x := ⟨_, rfl⟩
      obtain ⟨y7, hy7⟩ : ∃ x : ByteArray, (⟨text'.toArray⟩ : ByteArray) = x := ⟨_, rfl⟩
      rw [hy6] at q6 CL
      rw [hy7] at q7 CL
      obtain ⟨E, hE⟩ : ∃ E, dpT (.mk k' l' o' st' mk' ti' info' text' kids') = E := ⟨_, rfl⟩
      rw [hE] at CL HS hjl
      have CL2 := Lib.hid (CL.out (wr.alloc (.cells #[.int .i64 k', .int .i64 l', .bool o', .int .i64 st', .int .u8 mk', .bool ti', .string y6, .string y7, .slice A' kids'.length cap', .slice none 0 0] 26)) ((Keeps.refl wr).alloc _) #[.int .i64 k', .int .i64 l', .bool o', .int .i64 st', .int .u8 mk', .bool ti', .string y6, .string y7, .slice A' kids'.length cap', .slice none 0 0] rfl)
      have KW := Lib.hid (HW1.out.alloc (.cells #[.int .i64 k', .int .i64 l', .bool o', .int .i64 st', .int .u8 mk', .bool ti', .string y6, .string y7, .slice A' kids'.length cap', .slice none 0 0] 26))
      have CL3 := Lib.hid (CL.out wr (Keeps.refl wr) #[.int .i64 k', .int .i64 l', .bool o', .int .i64 st', .int .u8 mk', .bool ti', .string y6, .string y7, .slice A' kids'.length cap', .slice none 0 0] rfl)
      have hE2 : E ≤ 1000 := by have := HM.out; omega
      have hjj : (j : Int) < (kids.length : Int) := by omega
      clear hkw hcell hd' hc' hk' CL hjl hE hy6 hy7 hkj HD
      go_wp2_with fail
      first
        | (with_reducible refine CL3.out.mono ?_
           rintro e w2 ⟨rfl, k2⟩
           have K2 := Lib.hid (HW1.out.trans k2)
           clear CL2 CL3 k2 q0 q1 q2 q3 q4 q5 q6 q7 q8 q9
           go_wp2_with fail
           go_roundw
           case rel => exact ⟨j + 1, max D E, by omega, by go_num, congrArg (Value.int .i64) (by omega), by omega, HS, K2⟩
           case measure => simp [RowKit.intOf]; omega)
        | (with_reducible refine CL2.out.mono ?_
           rintro e w2 ⟨rfl, k2⟩
           have K2 := Lib.hid (KW.out.trans k2)
           clear CL2 CL3 k2 q0 q1 q2 q3 q4 q5 q6 q7 q8 q9
           go_wp2_with fail
           go_roundw
           case rel => exact ⟨j + 1, max D E, by omega, by go_num, congrArg (Value.int .i64) (by omega), by omega, HS, K2⟩
           case measure => simp [RowKit.intOf]; omega)
    · have ej : j = kids.length := by omega
      have HE2 : Hid (dpL kids = D) := Lib.hid (by have := HD.out; rw [ej, List.take_length] at this; exact this)
      have hjj : ¬ (j : Int) < (kids.length : Int) := by omega
      have KR := HW.out
      clear HK HM HN HD D0
      go_wp2_with fail
      go_ret
      exact ⟨congrArg (fun x : Int => Ending.returned (.int .i64 x)) (by have := HE2.out; omega), KR⟩
theorem hld_facts {a b : Nat} (h : hldB a b = true) : (a = 1 ∨ a = 2 ∨ a = 4) ∧ b ≠ 4 ∧ b ≠ 1 ∨ a = 3 ∧ b = 4 := by
  unfold hldB at h
  split at h
  · next q =>
    simp only [Bool.and_eq_true, Bool.not_eq_true', decide_eq_false_iff_not] at h
    exact .inl ⟨q, h⟩
  · split at h
    · next q => exact .inr ⟨q, by simpa using h⟩
    · cases h
set_option maxRecDepth 100000 in
set_option maxHeartbeats 2000000 in
theorem lawHolds_any (a b : Nat) (w : World) (h : hldB a b = true) :
    Calls Tryz.prog 23 #[.int .i64 (a : Nat), .int .i64 (b : Nat)] w fun e w' => e = .returned (.bool true) ∧ w = w' := by
  rcases hld_facts h with ⟨q, h4, h1⟩ | ⟨rfl, rfl⟩
  · have t4 : ((b : Int) != 4) = true := by rw [bne_iff_ne]; omega
    have t1 : ((b : Int) != 1) = true := by rw [bne_iff_ne]; omega
    clear h h4 h1
    rcases q with rfl | rfl | rfl
    all_goals
      go_enter Tryz.func23, Tryz.ntmps23
      go_wp2_with fail
      go_ret
      exact ⟨rfl, rfl⟩
  · clear h
    go_enter Tryz.func23, Tryz.ntmps23
    go_wp2_with fail
    go_ret
    exact ⟨rfl, rfl⟩
theorem own_facts {k l : Nat} {t : List UInt8} {n : Nat} (h : ownB k l t n = true) : (k = 6 ∧ 1 ≤ l ∧ l ≤ 6) ∨ (k = 5 ∧ t ≠ []) ∨ (k = 3 ∧ 0 < n) ∨ (k ≠ 6 ∧ k ≠ 5 ∧ k ≠ 3) := by
  unfold ownB at h
  by_cases k6 : k = 6
  · left
    subst k6
    simp at h
    omega
  · by_cases k5 : k = 5
    · right; left
      subst k5
      simp at h
      exact ⟨rfl, h⟩
    · by_cases k3 : k = 3
      · right; right; left
        subst k3
        simp at h
        omega
      · exact .inr (.inr (.inr ⟨k6, k5, k3⟩))
end Go.Proofs.YtfgpephpkibbaaaGreatDoor


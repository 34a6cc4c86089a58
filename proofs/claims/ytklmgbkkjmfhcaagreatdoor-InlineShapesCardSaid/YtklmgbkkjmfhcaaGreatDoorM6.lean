/-
  Texts of the proof, one behind the other: Isb.
-/
import Derived.Test.YtklmgbkkjmfhcaaGreatDoorM5
/-
  The shape of what the parser tells, plainly: no empty texts, no two side by side, spans only where they may be, no link in a link. No program in sight.
-/
namespace Go.Proofs.YtklmgbkkjmfhcaaGreatDoor
open Go Go.RowKit Go.Lib

def Sp.kind : Sp → Nat
  | .mk k _ _ _ _ => k
mutual
/-- Is a span such as it must be, in a link or not, behind a text or not? -/
def shS (link prev : Bool) : Sp → Bool
  | .mk k t _ _ ks => decide (1 ≤ k) && decide (k ≤ 9) && (decide (5 ≤ k ∧ k ≤ 8) || ks.isEmpty) && !(decide (k = 1) && (t.isEmpty || prev)) && !(decide (k = 7) && link) && shL (link || decide (k = 7)) false ks
def shL (link prev : Bool) : List Sp → Bool
  | [] => true
  | x :: l => shS link prev x && shL link (decide (x.kind = 1)) l
end
/-- A piece's kind, and what is in it. -/
def G (link : Bool) (e : Nat × List Sp) : Prop := 1 ≤ e.1 ∧ e.1 ≤ 9 ∧ ((5 ≤ e.1 ∧ e.1 ≤ 8) ∨ e.2 = []) ∧ (e.1 = 7 → link = false) ∧ shL (link || decide (e.1 = 7)) false e.2 = true
def pr (x : Pc) : Nat × List Sp := (x.kind, x.kids)
theorem sh_of {link : Bool} {x : Pc} (h : G link (pr x)) (h1 : x.kind ≠ 1) (prev : Bool) : shS link prev x.sp = true := by
  obtain ⟨a, b, c, d, e⟩ := h
  unfold pr at a b c d e
  unfold Pc.sp
  rw [shS]
  dsimp only at a b c d e
  have hc : (decide (5 ≤ x.kind ∧ x.kind ≤ 8) || x.kids.isEmpty) = true := by
    rcases c with c | c
    · simp [c]
    · simp [c]
  have hd : (decide (x.kind = 7) && link) = false := by
    by_cases h7 : x.kind = 7
    · rw [d h7]; simp
    · simp [h7]
  rw [hc, hd, e]
  simp [a, b, h1]
theorem sh_one {link : Bool} {t : List UInt8} (ht : t ≠ []) : shS link false (txtS t) = true := by
  unfold txtS
  rw [shS, shL]
  simp [ht]
theorem kind_sp (x : Pc) : x.sp.kind = x.kind := rfl
theorem sh_spGo {link : Bool} : ∀ (l : List Pc) (t : List UInt8), (∀ x ∈ l, G link (pr x)) → shL link false (spGo t l) = true
  | [], t, _ => by
    rw [spGo]
    unfold oneT
    split
    · rw [shL]
    · next h => rw [shL, sh_one h, shL]; rfl
  | x :: l, t, h => by
    have hx := h x (List.mem_cons_self ..)
    have hl : ∀ y ∈ l, G link (pr y) := fun y hy => h y (List.mem_cons_of_mem _ hy)
    by_cases h1 : x.kind = 1
    · rw [spGo_yes t l h1]; exact sh_spGo l _ hl
    · rw [spGo_no t l h1]
      have hr := sh_spGo l [] hl
      have tail : ∀ prev, shL link prev (x.sp :: spGo [] l) = true := fun prev => by
        rw [shL, sh_of hx h1 prev, kind_sp, decide_eq_false h1, hr]; rfl
      unfold oneT
      split
      · exact tail false
      · next ht =>
        rw [List.singleton_append, shL, sh_one ht]
        exact tail _
theorem sh_spans {link : Bool} {l : List Pc} (h : ∀ x ∈ l, G link (pr x)) : shL link false (spansM l) = true := sh_spGo l [] h
theorem G_text (link : Bool) : G link (1, []) := ⟨by decide, by decide, .inr rfl, fun h => absurd h (by decide), by rw [shL]⟩
theorem G_mk (link : Bool) (k : Nat) (ks : List Sp) (h1 : 1 ≤ k) (h2 : k ≤ 9) (hc : (5 ≤ k ∧ k ≤ 8) ∨ ks = []) (h7 : k = 7 → link = false) (hs : shL (link || decide (k = 7)) false ks = true) : G link (k, ks) := ⟨h1, h2, hc, h7, hs⟩
theorem G_plain (link : Bool) {k : Nat} (h1 : 1 ≤ k) (h2 : k ≤ 9) (h7 : k ≠ 7) : G link (k, []) := ⟨h1, h2, .inr rfl, fun h => absurd h h7, by rw [shL]⟩

/-! ### Emphasis -/
theorem G_em {link : Bool} {k : Nat} (hk : k = 5 ∨ k = 6) {ks : List Sp} (h : shL link false ks = true) : G link (k, ks) := by
  have h7 : k ≠ 7 := by omega
  refine ⟨?_, ?_, .inl ?_, fun h => absurd h h7, ?_⟩
  · show 1 ≤ k; omega
  · show k ≤ 9; omega
  · show 5 ≤ k ∧ k ≤ 8; omega
  · show shL (link || decide (k = 7)) false ks = true
    rw [decide_eq_false h7, Bool.or_false]; exact h
theorem getD_G {link : Bool} {l : List Pc} (h : ∀ x ∈ l, G link (pr x)) {o : Nat} (ho : o < l.length) : G link (pr (l.getD o default)) := by
  rw [List.getD_eq_getElem?_getD, List.getElem?_eq_getElem ho]
  exact h _ (List.getElem_mem ho)
theorem pair_G {link : Bool} {l : List Pc} (h : ∀ x ∈ l, G link (pr x)) {o : Nat} (ho : o < l.length) (x : Pc) : ∀ y ∈ pairL l o x, G link (pr y) := fun y hy => by
  unfold pairL at hy
  rcases List.mem_append.1 hy with hy | hy
  · exact h y (List.mem_of_mem_take hy)
  · rcases List.mem_cons.1 hy with rfl | hy
    · exact getD_G h ho
    · rw [List.mem_singleton.1 hy]
      refine G_em (by unfold pairK; split; exact .inr rfl; exact .inl rfl) (sh_spans fun z hz => h z (List.mem_of_mem_drop hz))
theorem emGo_G {link : Bool} : ∀ (f : Nat) (e : Em) (x : Pc), (∀ y ∈ e.done, G link (pr y)) → G link (pr x) → (∀ y ∈ (emGo f e x).1.done, G link (pr y)) ∧ G link (pr (emGo f e x).2)
  | 0, e, x, h, hx => ⟨h, hx⟩
  | f + 1, e, x, h, hx => by
    unfold emGo
    split
    · cases ho : opnM e.done (e.wo.getD (clsM x) 0) x with
      | none => exact ⟨h, hx⟩
      | some o => exact emGo_G f _ _ (pair_G h (opn_facts ho).1 x) hx
    · exact ⟨h, hx⟩
theorem em_G {link : Bool} {l : List Pc} (h : ∀ x ∈ l, G link (pr x)) : ∀ x ∈ emM l, G link (pr x) := by
  have key : ∀ (l : List Pc) (e : Em), (∀ x ∈ l, G link (pr x)) → (∀ y ∈ e.done, G link (pr y)) → ∀ y ∈ (l.foldl emStep e).done, G link (pr y) := by
    intro l
    induction l with
    | nil => intro e _ he; exact he
    | cons x l ih =>
      intro e hl he
      rw [List.foldl_cons]
      refine ih _ (fun y hy => hl y (List.mem_cons_of_mem _ hy)) fun y hy => ?_
      have := emGo_G x.text.length e x he (hl x (List.mem_cons_self ..))
      rcases List.mem_append.1 hy with hy | hy
      · exact this.1 y hy
      · rw [List.mem_singleton.1 hy]; exact this.2
  exact key l Em.zero h fun y hy => by cases hy
theorem sh_em {link : Bool} {l : List Pc} (h : ∀ x ∈ l, G link (pr x)) : shL link false (spansM (emM l)) = true := sh_spans (em_G h)

/-! ### The parser -/
/-- What stands in the list, and behind the brackets that aren't dead. -/
structure Shp (p : Ps) : Prop where
  all : ∀ e ∈ p.list.map pr, G false e
  place : ∀ (k : Nat) (b : Br), p.br[k]? = some b → b.place ≤ p.list.length
  order : ∀ (i j : Nat) (a b : Br), p.br[i]? = some a → p.br[j]? = some b → i < j → a.place ≤ b.place
  free : ∀ (k : Nat) (b : Br), p.br[k]? = some b → b.image = false → p.dead ≤ k → ∀ e ∈ (p.list.map pr).drop b.place, G true e
theorem mem_drop_snoc {α : Type} {l : List α} {n : Nat} {e x : α} (h : x ∈ (l ++ [e]).drop n) : x ∈ l.drop n ∨ x = e := by
  rw [List.drop_append] at h
  rcases List.mem_append.1 h with h | h
  · exact .inl h
  · exact .inr (List.mem_singleton.1 (List.mem_of_mem_drop h))
theorem Shp.zero : Shp Ps.zero := ⟨fun e he => (by cases he), fun k b h => (by cases h), fun i j a b h => (by cases h), fun k b h => (by cases h)⟩
/-- Another list with the same kinds, the same brackets. -/
theorem Shp.same {p q : Ps} (h : Shp p) (e : q.list.map pr = p.list.map pr) (eb : q.br = p.br) (ed : q.dead = p.dead) : Shp q := by
  have el : q.list.length = p.list.length := by have := congrArg List.length e; simpa using this
  refine ⟨by rw [e]; exact h.all, fun k b hb => ?_, fun i j a b ha hb => ?_, fun k b hb hi hd => ?_⟩
  · rw [el]; rw [eb] at hb; exact h.place k b hb
  · rw [eb] at ha hb; exact h.order i j a b ha hb
  · rw [e]; rw [eb] at hb; rw [ed] at hd; exact h.free k b hb hi hd
/-- One piece more, without a link. -/
theorem Shp.put {p q : Ps} (h : Shp p) {e : Nat × List Sp} (he : q.list.map pr = p.list.map pr ++ [e]) (eb : q.br = p.br) (ed : q.dead = p.dead) (g : G true e) (g' : G false e) : Shp q := by
  have el : q.list.length = p.list.length + 1 := by have := congrArg List.length he; simpa using this
  refine ⟨fun x hx => ?_, fun k b hb => ?_, fun i j a b ha hb => ?_, fun k b hb hi hd x hx => ?_⟩
  · rw [he] at hx
    rcases List.mem_append.1 hx with hx | hx
    · exact h.all x hx
    · rw [List.mem_singleton.1 hx]; exact g'
  · rw [eb] at hb; have := h.place k b hb; omega
  · rw [eb] at ha hb; exact h.order i j a b ha hb
  · rw [he] at hx
    rw [eb] at hb; rw [ed] at hd
    rcases mem_drop_snoc hx with hx | rfl
    · exact h.free k b hb hi hd x hx
    · exact g
theorem Shp.drop {p : Ps} (h : Shp p) : Shp { p with br := p.br.dropLast, dead := min p.dead (p.br.length - 1) } := by
  have hb' : ∀ k b, p.br.dropLast[k]? = some b → p.br[k]? = some b ∧ k < p.br.length - 1 := fun k b hb => by
    have hk : k < p.br.dropLast.length := (List.getElem?_eq_some_iff.1 hb).1
    rw [List.length_dropLast] at hk
    rw [List.getElem?_dropLast, if_pos hk] at hb
    exact ⟨hb, hk⟩
  exact ⟨h.all, fun k b hb => h.place k b (hb' k b hb).1, fun i j a b ha hb => h.order i j a b (hb' i a ha).1 (hb' j b hb).1, fun k b hb hi hd => h.free k b (hb' k b hb).1 hi (by
    have := (hb' k b hb).2
    have hd : min p.dead (p.br.length - 1) ≤ k := hd
    omega)⟩
theorem map_dropLast_set {l : List Pc} {x : Pc} (h : l.getLast? = some x) (t : List UInt8) : (l.dropLast ++ [x.set t]).map pr = l.map pr := by
  obtain ⟨ys, rfl⟩ := List.getLast?_eq_some_iff.1 h
  simp [Pc.set, pr]
theorem shp_byte {s : List UInt8} {p : Ps} (h : Shp p) : Shp (byteM s p) := by
  unfold byteM
  have new : Shp { p with list := p.list ++ [⟨1, (s.drop p.pos).take 1, [], [], [], 0, false, false, true⟩], pos := p.pos + 1 } := h.put (e := (1, [])) (by simp [pr]) rfl rfl (G_text _) (G_text _)
  split
  · next x hx =>
    split
    · exact h.same (map_dropLast_set hx _) rfl rfl
    · exact new
  · exact new
theorem shp_skip {s : List UInt8} {p : Ps} (h : Shp p) : Shp (skipM s p) := h.same rfl rfl rfl
theorem shp_put {p : Ps} (h : Shp p) {x : Pc} {n : Nat} (g : ∀ link, G link (pr x)) : Shp (p.put x n) := h.put (e := pr x) (by unfold Ps.put; simp) rfl rfl (g _) (g _)
theorem shp_brk {s : List UInt8} {p : Ps} (h : Shp p) : Shp (brkM s p) := by
  unfold brkM
  have e : (brkL p.list).map pr = p.list.map pr := by
    unfold brkL
    split
    · next x hx =>
      split
      · exact map_dropLast_set hx _
      · rfl
    · rfl
  have hk : brkK p.list = 3 ∨ brkK p.list = 2 := by
    unfold brkK
    split
    · split <;> simp
    · simp
  have g : ∀ link, G link (brkK p.list, []) := fun link => G_plain link (by omega) (by omega) (by omega)
  refine shp_skip (h.put (e := (brkK p.list, [])) ?_ rfl rfl (g _) (g _))
  rw [List.map_append, e]; rfl
theorem shp_run {s : List UInt8} {p : Ps} (h : Shp p) (c : UInt8) : Shp (runM s p c) := h.put (e := (1, [])) (by unfold runM; simp [pr]) rfl rfl (G_text _) (G_text _)
theorem shp_bkt {s : List UInt8} {p : Ps} (h : Shp p) (img : Bool) : Shp (bktM s p img) := by
  unfold bktM
  split
  · refine ⟨fun x hx => ?_, fun k b hb => ?_, fun i j a b ha hb hij => ?_, fun k b hb hi hd x hx => ?_⟩
    · rw [List.map_append] at hx
      rcases List.mem_append.1 hx with hx | hx
      · exact h.all x hx
      · rw [List.mem_singleton.1 hx]; exact G_text _
    · rw [List.length_append, List.length_singleton]
      rw [List.getElem?_append] at hb
      split at hb
      · have := h.place k b hb; omega
      · have hb' := List.mem_of_getElem? hb
        rw [List.mem_singleton.1 hb']
        exact Nat.le_succ _
    · rw [List.getElem?_append] at ha hb
      split at hb
      · next hj =>
        rw [if_pos (by omega)] at ha
        exact h.order i j a b ha hb hij
      · have hb' := List.mem_of_getElem? hb
        rw [List.mem_singleton.1 hb']
        split at ha
        · exact h.place i a ha
        · next hi =>
          rw [List.getElem?_eq_none (by rw [List.length_singleton]; have := (List.getElem?_eq_some_iff.1 hb).1; rw [List.length_singleton] at this; omega)] at ha
          cases ha
    · rw [List.map_append] at hx
      rw [List.getElem?_append] at hb
      split at hb
      · rcases mem_drop_snoc hx with hx | rfl
        · exact h.free k b hb hi hd x hx
        · exact G_text _
      · have hb' := List.mem_of_getElem? hb
        rw [List.mem_singleton.1 hb'] at hx
        rcases mem_drop_snoc hx with hx | rfl
        · rw [List.drop_eq_nil_of_le (by simp)] at hx; cases hx
        · exact G_text _
  · exact shp_byte h
theorem shp_end {s : List UInt8} {rs : List Rf} {p : Ps} (h : Shp p) : Shp (endM s rs p) := by
  unfold endM
  split
  · exact shp_byte h
  · next b hb =>
    split
    · next hal =>
      split
      · exact shp_byte h.drop
      · obtain ⟨ys, hys⟩ := List.getLast?_eq_some_iff.1 hb
        have hlen : p.br.length = ys.length + 1 := by rw [hys, List.length_append]; rfl
        have hn : p.br[ys.length]? = some b := by rw [hys, List.getElem?_append_right (Nat.le_refl _), Nat.sub_self]; rfl
        have hdl : p.br.dropLast = ys := by rw [hys, List.dropLast_concat]
        have hpl := h.place _ b hn
        have sub : ∀ (link : Bool) (m : Nat), m ≤ b.place + 1 → (∀ e ∈ (p.list.map pr).drop m, G link e) → shL link false (spansM (emM (p.list.drop (b.place + 1)))) = true := fun link m hm hg => sh_em fun x hx => hg _ (by
          rw [← List.map_drop]
          refine List.mem_map_of_mem ?_
          have : p.list.drop (b.place + 1) = (p.list.drop m).drop (b.place + 1 - m) := by rw [List.drop_drop]; congr 1; omega
          rw [this] at hx
          exact List.mem_of_mem_drop hx)
        have hall : shL false false (spansM (emM (p.list.drop (b.place + 1)))) = true := sub false 0 (Nat.zero_le _) h.all
        have hbr : ∀ k c, ys[k]? = some c → p.br[k]? = some c ∧ k < ys.length := fun k c hc => by
          have hk := (List.getElem?_eq_some_iff.1 hc).1
          exact ⟨by rw [hys, List.getElem?_append_left hk]; exact hc, hk⟩
        have memt : ∀ {x e : Nat × List Sp} {m : Nat}, x ∈ ((p.list.take b.place).map pr ++ [e]).drop m → x ∈ (p.list.map pr).drop m ∨ x = e := fun {x e m} hx => by
          rcases mem_drop_snoc hx with hx | hx
          · rw [List.map_take, List.drop_take] at hx
            exact .inl (List.mem_of_mem_take hx)
          · exact .inr hx
        cases hi : b.image with
        | true =>
          have g : ∀ link, shL link false (spansM (emM (p.list.drop (b.place + 1)))) = true → G link (8, spansM (emM (p.list.drop (b.place + 1)))) := fun link hs => G_mk link 8 _ (by decide) (by decide) (.inl (by decide)) (fun h => absurd h (by decide)) (by simpa using hs)
          simp only [if_true]
          refine ⟨fun x hx => ?_, fun k c hc => ?_, fun i j a c ha hc => ?_, fun k c hc hci hd x hx => ?_⟩
          · rw [List.map_append] at hx
            rcases List.mem_append.1 hx with hx | hx
            · exact h.all x (by rw [List.map_take] at hx; exact List.mem_of_mem_take hx)
            · rw [List.mem_singleton.1 hx]; exact g _ hall
          · rw [hdl] at hc
            have := h.order k ys.length c b (hbr k c hc).1 hn (hbr k c hc).2
            rw [List.length_append, List.length_take, List.length_singleton]; omega
          · rw [hdl] at ha hc
            exact h.order i j a c (hbr i a ha).1 (hbr j c hc).1
          · rw [hdl] at hc
            rw [List.map_append] at hx
            have hk := hbr k c hc
            have hfr := h.free k c hk.1 hci (by have hd : min p.dead (p.br.length - 1) ≤ k := hd; omega)
            rcases memt hx with hx | rfl
            · exact hfr x hx
            · exact g _ (sub true c.place (by have := h.order k ys.length c b hk.1 hn hk.2; omega) hfr)
        | false =>
          have hd0 : p.dead ≤ p.br.length - 1 := by
            rcases hal with hal | hal
            · rw [hi] at hal; cases hal
            · exact hal
          have hfr := h.free ys.length b hn hi (by omega)
          have hs := sub true b.place (Nat.le_succ _) hfr
          have g : G false (7, spansM (emM (p.list.drop (b.place + 1)))) := G_mk false 7 _ (by decide) (by decide) (.inl (by decide)) (fun _ => rfl) (by simpa using hs)
          simp only [Bool.false_eq_true, if_false]
          refine ⟨fun x hx => ?_, fun k c hc => ?_, fun i j a c ha hc => ?_, fun k c hc hci hd x hx => ?_⟩
          · rw [List.map_append] at hx
            rcases List.mem_append.1 hx with hx | hx
            · exact h.all x (by rw [List.map_take] at hx; exact List.mem_of_mem_take hx)
            · rw [List.mem_singleton.1 hx]; exact g
          · rw [hdl] at hc
            have := h.order k ys.length c b (hbr k c hc).1 hn (hbr k c hc).2
            rw [List.length_append, List.length_take, List.length_singleton]; omega
          · rw [hdl] at ha hc
            exact h.order i j a c (hbr i a ha).1 (hbr j c hc).1
          · rw [hdl] at hc
            have hk := hbr k c hc
            have hd : p.br.length - 1 ≤ k := hd
            omega
    · exact shp_byte h.drop
theorem shp_take {s : List UInt8} {rs : List Rf} {p : Ps} (h : Shp p) (hn : (s.drop p.pos).headD 0 ≠ 60) : Shp (takeI s rs p) := by
  unfold takeI
  split
  · unfold hidM
    repeat' split
    · exact shp_put h fun link => G_text link
    · exact shp_skip (shp_put h fun link => G_plain link (k := 3) (by decide) (by decide) (by decide))
    · exact shp_byte h
  · unfold codM
    split
    · exact shp_put h fun link => G_text link
    · exact shp_put h fun link => G_plain link (k := 4) (by decide) (by decide) (by decide)
  · unfold refM
    split
    · exact shp_byte h
    · exact shp_put h fun link => G_text link
  · next e => exact absurd e hn
  · exact shp_bkt h true
  · exact shp_bkt h false
  · exact shp_end h
  · exact shp_run h 42
  · exact shp_run h 95
  · exact shp_brk h
  · exact shp_byte h
theorem shp_go {s : List UInt8} {rs : List Rf} (hs : ∀ c ∈ s, c ≠ 60) : ∀ (f : Nat) {p : Ps}, Shp p → Shp (goI f s rs p)
  | 0, _, h => h
  | f + 1, p, h => by
    unfold goI
    split
    · next hp =>
      refine shp_go hs f (shp_take h ?_)
      have : s.drop p.pos = s[p.pos] :: s.drop (p.pos + 1) := List.drop_eq_getElem_cons hp
      rw [this]
      exact hs _ (List.getElem_mem hp)
    · exact h
/-- Of a text without < the parser's spans have the shape that they must have. -/
theorem parse_shape {s : List UInt8} {rs : List Rf} (hs : ∀ c ∈ s, c ≠ 60) : shL false false (parseI s rs) = true := by
  have h := shp_go (rs := rs) hs s.length Shp.zero
  exact sh_em fun x hx => h.all _ (List.mem_map_of_mem hx)
end Go.Proofs.YtklmgbkkjmfhcaaGreatDoor


/-
  Items of spans have these traits. Plain lists; no program in sight.
-/
import Derived.Test.YthmfkjgcbcjbaaaDoorIg1
namespace Go.Proofs.YthmfkjgcbcjbaaaDoor
open Go Go.Lib

theorem dec_blank (l : List UInt8) (h : (decodeL l).1 = 32) : (l.getD 0 0).toNat = 32 := by
  rw [decodeL_N] at h
  unfold decodeN at h
  repeat' split at h
  all_goals first
    | exact h
    | (exfalso; simp only at h; omega)
theorem runes_blank : ∀ (n : Nat) (l : List UInt8), (32 : Int) ∈ runesGo n l → (32 : UInt8) ∈ l
  | 0, l, h => by simp [runesGo] at h
  | n + 1, l, h => by
    unfold runesGo at h
    split at h
    · cases h
    · rename_i hne
      rcases List.mem_cons.1 h with e | e
      · have h32 := dec_blank l (by omega)
        cases l with
        | nil => exact absurd rfl hne
        | cons b t =>
          have : b.toNat = 32 := by simpa using h32
          have hb : b = 32 := UInt8.toNat.inj this
          subst hb
          exact List.mem_cons_self ..
      · exact List.mem_of_mem_drop (runes_blank n _ e)
theorem c8_blank {r : Int} (h : c8 r = 32) : r = 32 := by
  have e : (toN r).1 = 32 := by rw [← c8_nat, h]; rfl
  rcases toN_cases r with ⟨ho, e1⟩ | ⟨k, hk, _, _, _, e1⟩ | ⟨_, _, e1⟩
  · rw [e1] at e
    rw [own_iff] at ho
    simp only at e
    omega
  · rw [e1] at e; simp only at e; omega
  · rw [e1] at e; simp only at e; omega
theorem codes_blank {t : List UInt8} (h : ∀ b ∈ t, ¬ blankB b) : ∀ b ∈ codesL t, b ≠ 32 := by
  intro b hb e
  subst e
  unfold codesL at hb
  obtain ⟨r, hr, e⟩ := List.mem_map.1 hb
  have := c8_blank e
  subst this
  exact h 32 (runes_blank _ _ hr) (by unfold blankB; decide)
theorem codes_some {t : List UInt8} (h : t ≠ []) : codesL t ≠ [] := by rw [codesL_step t h]; simp
theorem Gd.word {sz : Int} {s : Sty} {t : List UInt8} {l : List It} (h : Gd l) (ht : ∀ b ∈ t, ¬ blankB b) : Gd (wordP sz s t l) := by
  unfold wordP
  split
  · exact h
  · rename_i hn
    exact h.snoc (.inl rfl) (.inl rfl) (fun q => by cases q) (fun _ => ⟨codes_some hn, codes_blank ht⟩)
theorem Gd.txt {sz : Int} {s : Sty} (h1 : 4000 ≤ sz) (h2 : sz ≤ 2147483648) : ∀ (t cur : List UInt8) {l : List It}, Gd l → (∀ b ∈ cur, ¬ blankB b) → Gd (txtP sz s cur t l)
  | [], cur, l, h, hc => by rw [txtP]; exact h.word hc
  | b :: t, cur, l, h, hc => by
    rw [txtP]
    split
    · exact Gd.txt h1 h2 t [] ((h.word hc).glue h1 h2) (fun x hx => by cases hx)
    · rename_i hb
      exact Gd.txt h1 h2 t (cur ++ [b]) h (fun x hx => by
        rcases List.mem_append.1 hx with hx | hx
        · exact hc x hx
        · rw [List.mem_singleton] at hx; subst hx; exact hb)
mutual
theorem Gd.spn {sz : Int} (h1 : 4000 ≤ sz) (h2 : sz ≤ 2147483648) : ∀ (x : St) (s : Sty) (p : List It × Int), Gd p.1 → Gd (spnP sz x s p).1
  | .mk k t _ _ ks, s, p, h => by
    rw [spnP]
    repeat' split
    all_goals first
      | exact Gd.txt h1 h2 t [] h (fun x hx => by cases hx)
      | exact h.glue h1 h2
      | exact h.brk
      | exact Gd.spns h1 h2 ks _ _ h
      | exact h
theorem Gd.spns {sz : Int} (h1 : 4000 ≤ sz) (h2 : sz ≤ 2147483648) : ∀ (l : List St) (s : Sty) (p : List It × Int), Gd p.1 → Gd (spnsP sz l s p).1
  | [], s, p, h => by rw [spnsP]; exact h
  | x :: l, s, p, h => by
    rw [spnsP]
    exact Gd.spns h1 h2 l s _ (Gd.spn h1 h2 x s p h)
end
theorem Gd.make {sz f lk : Int} (h1 : 4000 ≤ sz) (h2 : sz ≤ 2147483648) (l : List St) : Gd (makeL l f sz lk).1 := by
  unfold makeL
  exact (Gd.spns h1 h2 l _ _ Gd.nil).dropG
/-- No item has more codes than so many. -/
def Sh (M : Nat) (l : List It) : Prop := ∀ x ∈ l, x.codes.length ≤ M
theorem Sh.snoc {M : Nat} {l : List It} {x : It} (h : Sh M l) (hx : x.codes.length ≤ M) : Sh M (l ++ [x]) := fun y hy => by
  rcases List.mem_append.1 hy with hy | hy
  · exact h y hy
  · rw [List.mem_singleton] at hy; subst hy; exact hx
theorem Sh.dropG {M : Nat} {l : List It} (h : Sh M l) : Sh M (dropG l) := by
  unfold Go.Proofs.YthmfkjgcbcjbaaaDoor.dropG
  split
  · exact fun y hy => h y (List.dropLast_subset l hy)
  · exact h
theorem Sh.glue {M : Nat} {sz : Int} {s : Sty} {l : List It} (h : Sh M l) : Sh M (glueP sz s l) := by
  unfold glueP
  split
  · exact h.snoc (Nat.zero_le _)
  · exact h
theorem Sh.brk {M : Nat} {l : List It} (h : Sh M l) : Sh M (brkP l) := by
  unfold brkP
  split
  · exact h.dropG.snoc (Nat.zero_le _)
  · exact h.dropG
theorem codes_le (t : List UInt8) : (codesL t).length ≤ t.length := Nat.le_trans (Nat.le_of_eq (codesL_len t)) (runesGo_len _ _)
theorem Sh.word {M : Nat} {sz : Int} {s : Sty} {t : List UInt8} {l : List It} (h : Sh M l) (ht : t.length ≤ M) : Sh M (wordP sz s t l) := by
  unfold wordP
  split
  · exact h
  · exact h.snoc (Nat.le_trans (codes_le t) ht)
theorem Sh.txt {M : Nat} {sz : Int} {s : Sty} : ∀ (t cur : List UInt8) {l : List It}, Sh M l → cur.length + t.length ≤ M → Sh M (txtP sz s cur t l)
  | [], cur, l, h, hc => by rw [txtP]; exact h.word (by simpa using hc)
  | b :: t, cur, l, h, hc => by
    rw [List.length_cons] at hc
    rw [txtP]
    split
    · exact Sh.txt t [] (h.word (by omega)).glue (by simp; omega)
    · exact Sh.txt t (cur ++ [b]) h (by simp; omega)
mutual
theorem Sh.spn {M : Nat} {sz : Int} : ∀ (x : St) (s : Sty) (p : List It × Int), Sh M p.1 → wS x ≤ M → Sh M (spnP sz x s p).1
  | .mk k t _ _ ks, s, p, h, hM => by
    rw [wS] at hM
    rw [spnP]
    repeat' split
    all_goals first
      | exact Sh.txt t [] h (by simp; omega)
      | exact h.glue
      | exact h.brk
      | exact Sh.spns ks _ _ h (by omega)
      | exact h
theorem Sh.spns {M : Nat} {sz : Int} : ∀ (l : List St) (s : Sty) (p : List It × Int), Sh M p.1 → wL l ≤ M → Sh M (spnsP sz l s p).1
  | [], s, p, h, _ => by rw [spnsP]; exact h
  | x :: l, s, p, h, hM => by
    rw [wL] at hM
    rw [spnsP]
    exact Sh.spns l s _ (Sh.spn x s p h (by omega)) (by omega)
end
theorem Sh.make {M : Nat} {sz f lk : Int} (l : List St) (h : wL l ≤ M) : Sh M (makeL l f sz lk).1 := by
  unfold makeL
  exact (Sh.spns l _ _ (fun x hx => by cases hx) h).dropG
/-- No glue stands last. -/
theorem drop_ends (l : List It) (h : Gd l) : endsK 2 (dropG l) = false := by
  unfold dropG
  split
  · rename_i e
    cases e2 : endsK 2 l.dropLast with
    | false => rfl
    | true =>
      obtain ⟨y, hy, ky⟩ := ends_some e
      have hl := ends_len e
      have hd := ends_len e2
      obtain ⟨z, hz, kz⟩ := ends_some e2
      rw [List.length_dropLast] at hd hz
      rw [List.getElem?_dropLast, if_pos (by omega)] at hz
      obtain ⟨hi, ey⟩ := List.getElem?_eq_some_iff.1 hy
      obtain ⟨_, q, hq, kq⟩ := h.back (l.length - 1) hi (by rw [ey, ky]; decide)
      rw [hz] at hq
      injection hq with hq
      subst hq
      rw [kz] at kq
      cases kq
  · rename_i e
    simpa using e
end Go.Proofs.YthmfkjgcbcjbaaaDoor

/-
  Texts of the proof, one behind the other: Lbr, Lbv.
-/
import Derived.Test.YtdelaanaohjnkaaGreatDoorM25
import Derived.Maps.AppendAt
import Derived.OwnWalk
import Derived.OneCell
import Derived.Laws.OwnMore
import Derived.Laws.AppendOwnNone
import Derived.Lib.SmallJoins
/-
  Lists of definitions in memory: a slice of structs of three texts that the call owns. Contract of Defined, of the package label, for texts of at most 100,000 bytes.
-/
namespace Go.Proofs.YtdelaanaohjnkaaGreatDoor
open Go.RowKit Go.Lib

theorem infoRf : (Tryz.prog.info? 45).map (fun i => (i.zero, i.size, i.bytes)) = some (some (.agg #[.string ⟨#[]⟩, .string ⟨#[]⟩, .string ⟨#[]⟩]), 3, 48) := by kernel_rfl
def refC (r : Rf) : List Value := [.string ⟨r.1.toArray⟩, .string ⟨r.2.1.toArray⟩, .string ⟨r.2.2.toArray⟩]
/-- The slice v is the call's own, and holds the definitions rs. -/
def Refs (n₀ : Nat) (W : World) (v : Value) (rs : List Rf) : Prop := W.ownsRow n₀ 45 3 v rs.length (rs.flatMap refC)
theorem row_below {W W' : World} {n₀ n z : Nat} {e : TypeId} {v : Value} {vs : List Value} (h : W.ownsRow n₀ e z v n vs) (b : Below W.heap.size W W') : W'.ownsRow n₀ e z v n vs := by
  refine ⟨h.1, ?_⟩
  rcases h.2 with hn | ⟨g, cap, cur, rfl, hb, hgg, rest⟩
  · exact .inl hn
  · exact .inr ⟨g, cap, cur, rfl, hb, (b.block g (Array.getElem?_eq_some_iff.1 hgg).1).trans hgg, rest⟩
theorem Refs.keep {W W' : World} {n₀ : Nat} {v : Value} {rs : List Rf} (h : Refs n₀ W v rs) (k : Keeps W W') : Refs n₀ W' v rs := row_below h k
theorem rows_grown {w W W' : World} {n z : Nat} {e : TypeId} {v : Value} {vs : List Value} (h : W.ownsRow w.heap.size e z v n vs) (k : Keeps w W) (g : W.grownBy W' v.ownBlock) : Keeps w W' :=
  Below.grown k g k.size (fun i hi => (h.lt i hi).1)
theorem cell_three_new (w : World) (x y z : Value) (t : TypeId) : ∀ j u, [x, y, z][j]? = some u → (w.alloc (.cells #[x, y, z] t)).cell? ((⟨w.heap.size, 0, none⟩ : Addr).add j) = some u := by
  intro j u hj
  have hb := Blk.new w t #[x, y, z]
  match j, hj with
  | 0, hj => simp at hj; subst hj; exact hb.cell 0 rfl
  | 1, hj => simp at hj; subst hj; exact hb.cell 1 rfl
  | 2, hj => simp at hj; subst hj; exact hb.cell 2 rfl
theorem refs_snoc {n₀ : Nat} {W : World} {v : Value} {rs : List Rf} {r : Rf} (h : W.ownsRow n₀ 45 3 v (rs.length + 1) (rs.flatMap refC ++ refC r)) : Refs n₀ W v (rs ++ [r]) := by
  unfold Refs
  rw [List.length_append, List.flatMap_append]
  simpa using h
/-- Where Defined's loop stands. -/
def DefAt (l t : List UInt8) (rs : List Rf) : Prop := rs ++ dfsL t = dfsL l ∧ dfrL t = dfrL l
theorem defAt_step {l t : List UInt8} {rs : List Rf} (h : DefAt l t rs) (hn : dfN t ≠ 0) : DefAt l (t.drop (dfN t)) (rs ++ [(dfL t, dfD t, dfT t)]) := by
  obtain ⟨h1, h2⟩ := h
  obtain ⟨e1, e2⟩ := dfs_step hn
  exact ⟨by rw [← h1, e1, List.append_assoc]; rfl, by rw [← h2, e2]⟩
theorem defAt_end {l t : List UInt8} {rs : List Rf} (h : DefAt l t rs) (hn : dfN t = 0) : rs = dfsL l ∧ t = dfrL l := by
  obtain ⟨h1, h2⟩ := h
  obtain ⟨e1, e2⟩ := dfs_stop hn
  exact ⟨by rw [← h1, e1, List.append_nil], by rw [← h2, e2]⟩
theorem ret_vs {v : Value} {a b : ByteArray} (h : a = b) : Ending.returned (.tuple #[v, .string a]) = .returned (.tuple #[v, .string b]) := by rw [h]
set_option maxRecDepth 100000 in
set_option maxHeartbeats 2000000 in
theorem defined_any (s : ByteArray) (w : World) (hs : s.size ≤ 100000) (hO : Lis w) :
    Calls Tryz.prog 101 #[.string s] w fun e w' => ∃ v, e = .returned (.tuple #[v, .string ⟨(dfrL s.data.toList).toArray⟩]) ∧ Refs w.heap.size w' v (dfsL s.data.toList) ∧ Keeps w w' := by
  have HO := Lib.hid hO
  have DF := Lib.hid (fun a W h k => define_any a W h k)
  have CL := Lib.hid (fun a W h => clone_any a W h)
  obtain ⟨i0, hi, hz0, hz1, hz2⟩ := info_parts infoRf
  clear hO
  go_enter Tryz.func101, Tryz.ntmps101
  go_wp2_with fail
  go_loopw [0, 4] (fun x v wr => ∃ (t : ByteArray) (rs : List Rf), x = .string t ∧ t.size ≤ s.size ∧ rs.length + t.size ≤ s.size ∧ Hid (Refs w.heap.size wr v rs) ∧ Hid (Keeps w wr) ∧ Hid (DefAt s.data.toList t.data.toList rs) ∧ w.heap.size ≤ wr.heap.size) (fun x _ _ => sizeOfS x)
  case atStart => exact ⟨s, [], rfl, Nat.le_refl _, by simp, Lib.hid (World.ownsRow_nil _ _ _ _), Lib.hid (Keeps.refl w), Lib.hid ⟨rfl, rfl⟩, Nat.le_refl _⟩
  case round =>
    obtain ⟨t, rs, rfl, htz, hrl, HX, HK, HD, hsz⟩ := hrel
    have D1 := Lib.hid (DF.out t wr (by omega) (HO.out.keep HK.out))
    unfold DfnV refV at D1
    have hn := df_le t.data.toList
    rw [bytes_len] at hn
    by_cases n0 : dfN t.data.toList = 0
    · obtain ⟨E1, E2⟩ := defAt_end HD.out n0
      have HE1 := Lib.hid E1
      have HE2 : Hid (t = ⟨(dfrL s.data.toList).toArray⟩) := Lib.hid (bytes_eq E2)
      have C1 := Lib.hid (fun W => CL.out t W (by omega))
      rw [n0] at D1
      clear E1 E2 n0 HD
      generalize dfL t.data.toList = a1 at *
      generalize dfD t.data.toList = a2 at *
      generalize dfT t.data.toList = a3 at *
      go_wp2_with fail
      refine D1.out.mono ?_
      rintro e w1 ⟨rfl, k1⟩
      have HX1 := Lib.hid (Refs.keep (HX.out.keep k1) ((Keeps.refl w1).alloc (.cells #[.string ⟨a1.toArray⟩, .string ⟨a2.toArray⟩, .string ⟨a3.toArray⟩] 45)))
      have HK1 := Lib.hid ((HK.out.trans k1).alloc (.cells #[.string ⟨a1.toArray⟩, .string ⟨a2.toArray⟩, .string ⟨a3.toArray⟩] 45))
      clear k1 HX HK
      go_wp2_with fail
      refine (C1.out _).mono ?_
      rintro e w2 ⟨rfl, k2⟩
      have HX2 := Lib.hid (HX1.out.keep k2)
      have HK2 := Lib.hid (HK1.out.trans k2)
      clear k2 HX1 HK1
      go_wp2_with fail
      go_ret2
      exact ⟨_, ret_vs HE2.out, by rw [← HE1.out]; exact HX2.out, HK2.out⟩
    · have HD2 := Lib.hid (defAt_step HD.out n0)
      have hx : (t.extract (dfN t.data.toList) t.size).data.toList = t.data.toList.drop (dfN t.data.toList) := Lib.extract_to_end t _
      rw [← hx] at HD2
      have HZ : (t.extract (dfN t.data.toList) t.size).size = t.size - dfN t.data.toList := by rw [ByteArray.size_extract]; omega
      clear hx HD
      generalize dfN t.data.toList = n at *
      have t0 := beqF (show ¬ (n : Int) = 0 by omega)
      generalize dfL t.data.toList = a1 at *
      generalize dfD t.data.toList = a2 at *
      generalize dfT t.data.toList = a3 at *
      go_wp2_with fail
      refine D1.out.mono ?_
      rintro e w1 ⟨rfl, k1⟩
      have HX1 := Lib.hid (Refs.keep (HX.out.keep k1) ((Keeps.refl w1).alloc (.cells #[.string ⟨a1.toArray⟩, .string ⟨a2.toArray⟩, .string ⟨a3.toArray⟩] 45)))
      have HK1 := Lib.hid ((HK.out.trans k1).alloc (.cells #[.string ⟨a1.toArray⟩, .string ⟨a2.toArray⟩, .string ⟨a3.toArray⟩] 45))
      have hsz1 := k1.size
      clear k1 HX HK
      have hown := row_below HX1.out ((Keeps.refl _).alloc (.cells #[.string ⟨a1.toArray⟩, .string ⟨a2.toArray⟩, .string ⟨a3.toArray⟩] 45))
      have HKA := Lib.hid (HK1.out.alloc (.cells #[.string ⟨a1.toArray⟩, .string ⟨a2.toArray⟩, .string ⟨a3.toArray⟩] 45))
      have hnw : ∀ j u, [Value.string ⟨a1.toArray⟩, .string ⟨a2.toArray⟩, .string ⟨a3.toArray⟩][j]? = some u → ((w1.alloc (.cells #[.string ⟨a1.toArray⟩, .string ⟨a2.toArray⟩, .string ⟨a3.toArray⟩] 45)).alloc (.cells #[.string ⟨a1.toArray⟩, .string ⟨a2.toArray⟩, .string ⟨a3.toArray⟩] 45)).cell? ((⟨w1.heap.size + 1, 0, none⟩ : Addr).add j) = some u := by
        have := cell_three_new (w1.alloc (.cells #[.string ⟨a1.toArray⟩, .string ⟨a2.toArray⟩, .string ⟨a3.toArray⟩] 45)) (.string ⟨a1.toArray⟩) (.string ⟨a2.toArray⟩) (.string ⟨a3.toArray⟩) 45
        rwa [show (w1.alloc (.cells #[.string ⟨a1.toArray⟩, .string ⟨a2.toArray⟩, .string ⟨a3.toArray⟩] 45)).heap.size = w1.heap.size + 1 by simp] at this
      go_wp2_with (at_builtin; go_loud (
        refine wpList_append_own _ rfl _ _ 27 rfl w.heap.size 45 i0 (.agg #[.string ⟨#[]⟩, .string ⟨#[]⟩, .string ⟨#[]⟩]) 3 48 Tryz.underlying27 hi hz0 hz1 hz2 rfl (by decide) _ _ _ rfl hown ⟨w1.heap.size + 1, 0, none⟩ 1 1 [.string ⟨a1.toArray⟩, .string ⟨a2.toArray⟩, .string ⟨a3.toArray⟩] rfl rfl hnw (by simp [Value.oneCell']) (by simp only [maxLen]; omega) (by omega) (by simp; omega) ?_
        intro v' w2 hown' hgrow _
        have HKB := Lib.hid (rows_grown hown HKA.out hgrow)
        have HXB := Lib.hid (refs_snoc (r := (a1, a2, a3)) hown')
        clear hown hown' hgrow hnw))
      go_roundw
      case rel => exact ⟨t.extract n t.size, rs ++ [(a1, a2, a3)], rfl, by omega, by rw [List.length_append, List.length_singleton]; omega, HXB, HKB, HD2, HKB.out.size⟩
      case measure => show (t.extract n t.size).size < t.size; omega
end Go.Proofs.YtdelaanaohjnkaaGreatDoor

/-
  Lists of definitions in memory, their form and their cells.
-/
namespace Go.Proofs.YtdelaanaohjnkaaGreatDoor
open Go.RowKit Go.Lib

theorem refs_form {W : World} {n₀ : Nat} {v : Value} {rs : List Rf} (h : Refs n₀ W v rs) : ∃ ao cap, v = .slice ao rs.length cap ∧ rs.length ≤ cap ∧ cap ≤ maxLen := by
  rcases h.2 with ⟨rfl, h0⟩ | ⟨g, cap, cur, rfl, _, _, hn, hm, _⟩
  · exact ⟨none, 0, by rw [h0], by omega, by simp [maxLen]⟩
  · exact ⟨_, cap, rfl, hn, hm⟩
theorem refC_at (rs : List Rf) : ∀ (k : Nat) (h : k < rs.length) (j : Nat), j < 3 → (rs.flatMap refC)[k * 3 + j]? = (refC rs[k])[j]? := by
  induction rs with
  | nil => intro k h; simp at h
  | cons r rs ih =>
    intro k h j hj
    rw [List.flatMap_cons]
    cases k with
    | zero =>
      rw [Nat.zero_mul, Nat.zero_add, List.getElem?_append_left (by simp only [refC, List.length_cons, List.length_nil]; omega)]
      rfl
    | succ k =>
      rw [List.getElem?_append_right (by simp only [refC, List.length_cons, List.length_nil]; omega), show (k + 1) * 3 + j - (refC r).length = k * 3 + j by simp only [refC, List.length_cons, List.length_nil]; omega]
      exact ih k (by simpa using h) j hj
theorem refs_cell {W : World} {n₀ : Nat} {ao : Option Addr} {n cap : Nat} {rs : List Rf} (h : Refs n₀ W (.slice ao n cap) rs) (hn : 0 < rs.length) :
    ∃ g, ao = some ⟨g, 0, none⟩ ∧ ∀ k (hk : k < rs.length), W.cell? ⟨g, k * 3, none⟩ = some (.string ⟨rs[k].1.toArray⟩) ∧ W.cell? ⟨g, k * 3 + 1, none⟩ = some (.string ⟨rs[k].2.1.toArray⟩) ∧ W.cell? ⟨g, k * 3 + 2, none⟩ = some (.string ⟨rs[k].2.2.toArray⟩) := by
  unfold Refs at h
  rcases h.2 with ⟨_, h0⟩ | ⟨g, c, cur, hv, _⟩
  · omega
  · cases hv
    refine ⟨g, rfl, fun k hk => ?_⟩
    have hc := h.cells (g := g) rfl
    have e : ∀ j, (⟨g, 0, none⟩ : Addr).add j = ⟨g, j, none⟩ := fun j => by
      unfold Addr.add
      split
      · next h => rw [h]
      · simp
    refine ⟨?_, ?_, ?_⟩
    · have := hc (k * 3) _ (by have := refC_at rs k hk 0 (by decide); rw [Nat.add_zero] at this; exact this)
      rwa [e] at this
    · have := hc (k * 3 + 1) _ (refC_at rs k hk 1 (by decide))
      rwa [e] at this
    · have := hc (k * 3 + 2) _ (refC_at rs k hk 2 (by decide))
      rwa [e] at this
end Go.Proofs.YtdelaanaohjnkaaGreatDoor


/-
  Contract of Make, of the package item.
-/
import Derived.Test.YthmfkjgcbcjbaaaDoorItk
namespace Go.Proofs.YthmfkjgcbcjbaaaDoor
open Go.RowKit Go.Lib Go.Maps

/-- The slice v holds the items its; the call owns it. -/
def ItsAt (n₀ : Nat) (W : World) (v : Value) (its : List It) : Prop := W.ownsRow n₀ 35 9 v its.length (itR its)
theorem ItsAt.keep {n₀ : Nat} {W W' : World} {v : Value} {its : List It} (h : ItsAt n₀ W v its) (k : Keeps W W') : ItsAt n₀ W' v its := row_below h k
theorem ItsAt.form {n₀ : Nat} {W : World} {v : Value} {its : List It} (h : ItsAt n₀ W v its) : ∃ A cap, v = .slice A its.length cap ∧ its.length ≤ cap ∧ cap ≤ maxLen ∧ (0 < its.length → ∃ g, A = some ⟨g, 0, none⟩) := by
  rcases h.2 with ⟨rfl, h0⟩ | ⟨g, cap, cur, rfl, _, _, h1, h2, _⟩
  · exact ⟨none, 0, by rw [h0], by omega, Nat.zero_le _, fun q => by omega⟩
  · exact ⟨_, cap, rfl, h1, h2, fun _ => ⟨g, rfl⟩⟩
theorem ItsAt.cell {n₀ : Nat} {W : World} {its : List It} {g cap : Nat} (h : ItsAt n₀ W (.slice (some ⟨g, 0, none⟩) its.length cap) its) {i : Nat} (hi : i < its.length) (j : Nat) (hj : j < 9) : W.cell? ⟨g, i * 9 + j, none⟩ = (itC its[i])[j]? := by
  rw [← itR_at its i hi j hj]
  exact World.ownsRow.cellAt h _ (by omega)
/-- What Make tells. -/
def MakeP (w : World) (p : List It × Int) (e : Ending) (w' : World) : Prop := ∃ v, e = .returned (.tuple #[v, .int .i64 p.2]) ∧ ItsAt w.heap.size w' v p.1 ∧ Keeps w w'
set_option maxRecDepth 100000 in
set_option maxHeartbeats 8000000 in
theorem make_any (l : List St) (lv : Value) (f sz link : Int) (w : World) (hA : StAt w l lv) (hE : EnvI w) (h1 : 0 ≤ sz) (h2 : sz ≤ 2147483648) (hl : 2 * wL l ≤ 190000) (hn : 0 ≤ link) (hm : link + wL l ≤ 4611686018427387904) :
    Calls Tryd.prog 11 #[lv, .int .i64 f, .int .i64 sz, .int .i64 link] w (MakeP w (makeL l f sz link)) := by
  have M0 : Md w (w.alloc (.cells #[.slice none 0 0, .int .i64 link] 47)) w.heap.size (.slice none 0 0) [] link := ⟨Own.new w 47 [.int .i64 link] (Nat.le_refl _), (Keeps.refl w).alloc _⟩
  have CS := Lib.hid (spns_any _ sz l lv (Nat.le_refl _) h1 h2 hE hA ⟨f, 0, false⟩ _ _ _ _ _ M0 (by simpa using hl) hn hm)
  have HL := spns_len sz l ⟨f, 0, false⟩ ([], link)
  obtain ⟨A, cap, rfl, _, _, _⟩ := hA.slice
  clear M0 hA hE
  unfold makeL MakeP
  unfold styV at CS
  generalize spnsP sz l ⟨f, 0, false⟩ ([], link) = p at *
  obtain ⟨its, nx⟩ := p
  simp only at *
  go_enter Tryd.func11, Tryd.ntmps11
  go_wp2_with fail
  refine CS.out.mono ?_
  rintro e w1 ⟨rfl, v1, m1, q1⟩
  have CD := dropGlue_any m1 (by simp at HL; omega)
  clear q1 m1
  go_wp2_with fail
  refine CD.mono ?_
  rintro e w2 ⟨rfl, v2, m2, q2⟩
  have c0 := m2.own.box.cell 0 (v := v2) rfl
  have c1 := m2.own.box.cell 1 (v := .int .i64 nx) rfl
  obtain ⟨A2, cap2, rfl, _, _⟩ := row_form m2.own.row
  have FIN := Lib.hid (show ItsAt w.heap.size w2 (.slice A2 (dropG its).length cap2) (dropG its) from m2.own.row)
  have KK := Lib.hid m2.keep
  clear m2 q2
  go_wp2_with fail
  go_region
  go_wp2_with fail
  go_ret2
  exact ⟨_, rfl, FIN.out.keep (Keeps.refl _).drew, KK.out.drew⟩
end Go.Proofs.YthmfkjgcbcjbaaaDoor

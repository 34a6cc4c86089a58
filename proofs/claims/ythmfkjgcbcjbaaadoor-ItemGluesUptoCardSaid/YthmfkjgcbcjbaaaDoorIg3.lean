/-
  Walk of the law ItemGlues.
-/
import Derived.Test.YthmfkjgcbcjbaaaDoorIg2
import Derived.Test.YthmfkjgcbcjbaaaDoorIsm
import Derived.Test.YthmfkjgcbcjbaaaDoorIty
namespace Go.Proofs.YthmfkjgcbcjbaaaDoor
open Go.RowKit Go.Lib Go.Maps

/-- What stands around a glue. -/
theorem Gd.around {l : List It} (h : Gd l) (he : endsK 2 l = false) {i : Nat} (hi : i < l.length) (hk : l[i].kind = 2) : ∃ j p, i = j + 1 ∧ p = i + 1 ∧ ∃ h1 : j < l.length, ∃ h2 : p < l.length, l[j].kind = 1 ∧ l[p].kind = 1 ∧ 3 ≤ l[i].width := by
  obtain ⟨h0, y, hy, ky⟩ := h.back i hi (by rw [hk]; decide)
  obtain ⟨hj, ey⟩ := List.getElem?_eq_some_iff.1 hy
  obtain ⟨j, rfl⟩ : ∃ j, i = j + 1 := ⟨i - 1, by omega⟩
  have hlast : j + 1 + 1 < l.length := by
    rcases Nat.lt_or_ge (j + 1 + 1) l.length with q | q
    · exact q
    · exfalso
      have e : l.length - 1 = j + 1 := by omega
      unfold endsK at he
      rw [List.getLast?_eq_getElem?, e, List.getElem?_eq_getElem hi] at he
      simp only [hk] at he
      exact absurd he (by decide)
  have e1 : l[j].kind = 1 := (congrArg It.kind ey).trans ky
  refine ⟨j, j + 1 + 1, rfl, rfl, by omega, hlast, e1, ?_, h.wide _ (List.getElem_mem hi) hk⟩
  rcases h.kind _ (List.getElem_mem hlast) with q | q | q
  · exact q
  · obtain ⟨_, z, hz, kz⟩ := h.back (j + 1 + 1) hlast (by rw [q]; decide)
    obtain ⟨_, ez⟩ := List.getElem?_eq_some_iff.1 hz
    have : l[j + 1].kind = 1 := by rw [← kz, ← ez]; rfl
    rw [hk] at this
    cases this
  · obtain ⟨_, z, hz, kz⟩ := h.back (j + 1 + 1) hlast (by rw [q]; decide)
    obtain ⟨_, ez⟩ := List.getElem?_eq_some_iff.1 hz
    have : l[j + 1].kind = 1 := by rw [← kz, ← ez]; rfl
    rw [hk] at this
    cases this
set_option maxRecDepth 100000 in
set_option maxHeartbeats 16000000 in
theorem glues_any (l : List St) (lv : Value) (f sz : Nat) (hf : f < 256) (hs : sz < 65536) (w : World) (hA : StAt w l lv) (hw : wL l ≤ 100000000) (hE : EnvI w) :
    Calls Tryd.prog 5 #[lv, .int .u8 f, .int .u16 sz] w fun e w' => e = .returned (.bool true) ∧ Keeps w w' := by
  have SM := Lib.hid (small_any l w lv hA hw)
  have AW := Lib.hid (fun W (k : Keeps w W) => awake17_any W (hE.keep k))
  by_cases hsm : wGs l 0 ≤ 3000
  · rw [decide_eq_true hsm] at SM
    have hwl : wL l ≤ 3000 := by have := wGs_eq l 0 hsm; omega
    obtain ⟨m, hm⟩ : ∃ m : Nat, ((f : Int) % 5) = (m : Int) := ⟨f % 5, by omega⟩
    have MK := Lib.hid (fun W (k : Keeps w W) => make_any l lv (m : Int) (4000 + (sz : Int)) 1 W (hA.keep k) (hE.keep k) (by omega) (by omega) (by omega) (by omega) (by omega))
    have GD := Lib.hid (Gd.make (sz := 4000 + (sz : Int)) (f := (m : Int)) (lk := 1) (by omega) (by omega) l)
    have GE : Hid (endsK 2 (makeL l (m : Int) (4000 + (sz : Int)) 1).1 = false) := Lib.hid (drop_ends _ (Gd.spns (by omega) (by omega) l _ _ Gd.nil))
    have SH := Lib.hid (Sh.make (sz := 4000 + (sz : Int)) (f := (m : Int)) (lk := 1) l hwl)
    have hln : (makeL l (m : Int) (4000 + (sz : Int)) 1).1.length ≤ 10000 := by
      have h1 := (spns_len (4000 + (sz : Int)) l ⟨(m : Int), 0, false⟩ ([], 1)).1
      have h2 := drop_len (spnsP (4000 + (sz : Int)) l ⟨(m : Int), 0, false⟩ ([], 1)).1
      unfold makeL
      simp only [List.length_nil] at h1 ⊢
      omega
    unfold MakeP at MK
    generalize makeL l (m : Int) (4000 + (sz : Int)) 1 = p at *
    obtain ⟨its, nx⟩ := p
    simp only at *
    obtain ⟨A, cap, rfl, _, _, _⟩ := hA.slice
    clear hA hE hsm
    go_enter Tryd.func5, Tryd.ntmps5
    go_wp2_with fail
    refine SM.out.mono ?_
    rintro e w0 ⟨rfl, k0⟩
    have MK2 := Lib.hid (MK.out w0 k0)
    clear MK SM
    go_wp2_with fail
    refine MK2.out.mono ?_
    rintro e w1 ⟨v1, rfl, I1, k1⟩
    have K1 := Lib.hid (k0.trans k1)
    clear MK2 k0 k1
    obtain ⟨A1, c1, rfl, h1, h2, h3⟩ := I1.form
    have HC : Hid (∀ g, A1 = some ⟨g, 0, none⟩ → ∀ i (h : i < its.length) j, j < 9 → w1.cell? ⟨g, i * 9 + j, none⟩ = (itC its[i])[j]?) := Lib.hid fun g e i h j hj => by
      subst e
      exact ItsAt.cell I1 h j hj
    have HF := Lib.hid h3
    clear I1 h3 hm
    obtain ⟨nl, hnl⟩ : ∃ nl, its.length = nl := ⟨_, rfl⟩
    have HNL := Lib.hid hnl
    rw [hnl] at h1 hln ⊢
    clear hnl
    unfold maxLen at h2
    go_wp2_with fail
    go_loop [9] (fun y => ∃ i : Nat, i ≤ nl ∧ y = .int .i64 i) (fun y => nl - (RowKit.intOf y).toNat)
    case atStart => exact ⟨0, Nat.zero_le _, rfl⟩
    case round =>
      obtain ⟨i, hi, rfl⟩ := hrel
      by_cases ci : i < nl
      · have hi' : i < its.length := by rw [HNL.out]; exact ci
        obtain ⟨g, rfl⟩ := HF.out (by rw [HNL.out]; omega)
        have c0 : w1.cell? ⟨g, i * 9, none⟩ = some (.int .i64 its[i].kind) := HC.out g rfl i hi' 0 (by decide)
        have ci1 : (i : Int) < (nl : Int) := by omega
        rcases GD.out.kind _ (List.getElem_mem hi') with q | q | q
        · rw [q] at c0
          obtain ⟨hne, hbl⟩ := GD.out.full _ (List.getElem_mem hi') q
          have c5 : w1.cell? ⟨g, i * 9 + 5, none⟩ = some (.string ⟨(its[i]).codes.toArray⟩) := HC.out g rfl i hi' 5 (by decide)
          obtain ⟨cb, hcb⟩ : ∃ cb : ByteArray, (⟨(its[i]).codes.toArray⟩ : ByteArray) = cb := ⟨_, rfl⟩
          have hcl : cb.data.toList = (its[i]).codes := by rw [← hcb]
          have hcz : cb.size ≤ 3000 := by have := SH.out _ (List.getElem_mem hi'); rw [← bytes_len, hcl]; exact this
          have te : cb.toList.isEmpty = false := by rw [List.isEmpty_eq_false_iff, Lib.toList_data, hcl]; exact hne
          have HB : Hid (∀ k (h : k < cb.size), ((cb[k].toNat : Int) == 32) = false) := Lib.hid fun k h => beqF (fun e => by
            have hk : cb.data.toList[k]'(by rw [bytes_len]; exact h) = cb[k] := rfl
            have hm : cb[k] ∈ (its[i]).codes := by rw [← hcl, ← hk]; exact List.getElem_mem _
            exact hbl _ hm (UInt8.toNat.inj (by show cb[k].toNat = 32; omega)))
          rw [hcb] at c5
          clear hne hbl hcb hcl q
          go_wp2_with fail
          go_loop [10] (fun y => ∃ k : Nat, k ≤ cb.size ∧ y = .int .i64 k) (fun y => cb.size - (RowKit.intOf y).toNat)
          case atStart => exact ⟨0, Nat.zero_le _, rfl⟩
          case round =>
            obtain ⟨k, hk, rfl⟩ := hrel
            by_cases ck : k < cb.size
            · have tb := HB.out k ck
              have hb := cb[k].toNat_lt
              go_wp2_with fail
              go_round
              case rel => exact ⟨k + 1, by omega, by go_num⟩
              case measure => simp only [RowKit.intOf]; omega
            · have e : k = cb.size := by omega
              subst e
              go_wp2_with fail
              go_round
              case rel => exact ⟨i + 1, by omega, by go_num⟩
              case measure => simp only [RowKit.intOf]; omega
        · rw [q] at c0
          obtain ⟨j, p, hij, hpi, hj1, hj2, e1, e2, e3⟩ := GD.out.around GE.out hi' q
          have cm : w1.cell? ⟨g, j * 9, none⟩ = some (.int .i64 1) := by have := HC.out g rfl j hj1 0 (by decide); rw [← e1]; exact this
          have cp : w1.cell? ⟨g, p * 9, none⟩ = some (.int .i64 1) := by have := HC.out g rfl p hj2 0 (by decide); rw [← e2]; exact this
          have cw : w1.cell? ⟨g, i * 9 + 1, none⟩ = some (.int .i64 (its[i]).width) := HC.out g rfl i hi' 1 (by decide)
          have hj3 : p < nl := by rw [← HNL.out]; exact hj2
          generalize (its[i]).width = wd at *
          have t0 : ((i : Int) == 0) = false := beqF (by omega)
          have t1 : ((i : Int) == (nl : Int) - 1) = false := beqF (by omega)
          have hw1 : IntKind.i64.wrap ((i : Int) - 1) = (j : Int) := by rw [IntWalk.i64_in _ (by omega)]; omega
          have hw2 : IntKind.i64.wrap ((i : Int) + 1) = (p : Int) := by rw [IntWalk.i64_in _ (by omega)]; omega
          have hw3 : IntKind.i64.wrap ((nl : Int) - 1) = (nl : Int) - 1 := IntWalk.i64_in _ (by omega)
          have t3 : ¬ wd < 3 := by omega
          have hj4 : j < nl := by omega
          have HIJ := Lib.hid hij
          have HPI := Lib.hid hpi
          clear q e1 e2 hij hpi
          go_wp2_with fail
          go_round
          case rel => exact ⟨i + 1, by omega, by have := HPI.out; subst this; go_num⟩
          case measure => have := HPI.out; simp only [RowKit.intOf]; omega
        · rw [q] at c0
          go_wp2_with fail
          go_round
          case rel => exact ⟨i + 1, by omega, by go_num⟩
          case measure => simp only [RowKit.intOf]; omega
      · have e : i = nl := by omega
        subst e
        have AW2 := Lib.hid (AW.out _ K1.out)
        go_wp2_with fail
        refine AW2.out.mono ?_
        rintro e w2 ⟨rfl, k2⟩
        have K2 := K1.out.trans k2
        go_wp2_with fail
        go_ret
        exact ⟨rfl, K2⟩
  · rw [decide_eq_false hsm] at SM
    obtain ⟨A, cap, rfl, _, _, _⟩ := hA.slice
    clear hA hE hsm
    go_enter Tryd.func5, Tryd.ntmps5
    go_wp2_with fail
    refine SM.out.mono ?_
    rintro e w0 ⟨rfl, k0⟩
    have AW2 := Lib.hid (AW.out _ k0)
    go_wp2_with fail
    refine AW2.out.mono ?_
    rintro e w2 ⟨rfl, k2⟩
    have K2 := k0.trans k2
    go_wp2_with fail
    go_ret
    exact ⟨rfl, K2⟩
end Go.Proofs.YthmfkjgcbcjbaaaDoor

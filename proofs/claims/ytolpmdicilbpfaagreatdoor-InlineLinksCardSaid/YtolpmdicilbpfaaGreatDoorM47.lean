/-
  Texts of the proof, one behind the other: IqZ.
-/
import Derived.Test.YtolpmdicilbpfaaGreatDoorM42
/-
  SameSpans, where both are the same.
-/
namespace Go.Proofs.YtolpmdicilbpfaaGreatDoor
open Go.RowKit Go.Lib Go.Maps

theorem size_kids {l : List Sp} {k : Nat} {kd : Nat} {t d ti : List UInt8} {ks : List Sp} (e : l[k]? = some (.mk kd t d ti ks)) : SizeOf.sizeOf ks < SizeOf.sizeOf l := by
  have h1 := List.sizeOf_lt_of_mem (List.mem_of_getElem? e)
  have h2 : SizeOf.sizeOf (Sp.mk kd t d ti ks) = 1 + SizeOf.sizeOf kd + SizeOf.sizeOf t + SizeOf.sizeOf d + SizeOf.sizeOf ti + SizeOf.sizeOf ks := by simp
  omega
theorem size_pos (l : List Sp) : 0 < SizeOf.sizeOf l := by
  cases l <;> simp <;> omega
theorem SAt.keep {W W' : World} {g o k : Nat} {t d ti : List UInt8} {kv : Value} (h : SAt W g o k t d ti kv) (q : Keeps W W') : SAt W' g o k t d ti kv :=
  ⟨q.cell2 h.c0, q.cell2 h.c1, q.cell2 h.c2, q.cell2 h.c3, q.cell2 h.c4⟩
set_option maxRecDepth 100000 in
set_option maxHeartbeats 16000000 in
theorem sames_any : ∀ (f : Nat) (l : List Sp) (W : World) (v v' : Value) (P P' : Nat → Prop), SizeOf.sizeOf l ≤ f → SpsAt W P l v → SpsAt W P' l v' → (∀ b, P b → b < W.heap.size) → (∀ b, P' b → b < W.heap.size) →
    Calls Tryz.prog 12 #[v, v'] W fun e w' => e = .returned (.bool true) ∧ Keeps W w' := by
  intro f
  induction f with
  | zero => intro l W v v' P P' hf; have := size_pos l; omega
  | succ f ih =>
  intro l W v v' P P' hf h1 h2 hP hP'
  obtain ⟨A, cap, rfl, hc1, hc2, hg⟩ := h1.slice
  obtain ⟨A', cap', rfl, hc1', hc2', hg'⟩ := h2.slice
  have H1 := Lib.hid h1
  have H2 := Lib.hid h2
  have HG := Lib.hid hg
  have HG' := Lib.hid hg'
  have IH := Lib.hid ih
  have HF := Lib.hid hf
  have HP := Lib.hid hP
  have HP' := Lib.hid hP'
  unfold maxLen at hc2 hc2'
  obtain ⟨n, hn⟩ : ∃ n, l.length = n := ⟨_, rfl⟩
  have HN := Lib.hid hn
  rw [hn] at hc1 hc1'
  rw [hn]
  clear h1 h2 hg hg' ih hf hP hP' hn
  go_enter Tryz.func12, Tryz.ntmps12
  go_wp2_with fail
  go_loopw [5] (fun i wr => ∃ k : Nat, k ≤ n ∧ i = .int .i64 k ∧ Hid (Keeps W wr)) (fun i _ => n - (RowKit.intOf i).toNat)
  case atStart => exact ⟨0, Nat.zero_le _, rfl, Lib.hid (Keeps.refl _)⟩
  case round =>
    obtain ⟨k, hk, rfl, HR⟩ := hrel
    by_cases c0 : k < n
    · obtain ⟨g, rfl⟩ := HG.out (by rw [HN.out]; omega)
      obtain ⟨g', rfl⟩ := HG'.out (by rw [HN.out]; omega)
      have hk' : k < l.length := by rw [HN.out]; exact c0
      obtain ⟨kd, t, d, ti, ks, ex⟩ : ∃ kd t d ti ks, l[k]? = some (.mk kd t d ti ks) := by
        rw [List.getElem?_eq_getElem hk']
        cases l[k] with
        | mk kd t d ti ks => exact ⟨kd, t, d, ti, ks, rfl⟩
      have e1 := H1.out
      have e2 := H2.out
      rw [HN.out] at e1 e2
      rw [← HN.out] at e1 e2
      obtain ⟨kv, a1, s1⟩ := e1.at ex
      obtain ⟨kv', a2, s2⟩ := e2.at ex
      have CL := Lib.hid (fun W' (q : Keeps W W') => IH.out ks W' kv kv' P P' (by have := size_kids ex; have := HF.out; omega) (s1.keep HP.out q) (s2.keep HP'.out q) (fun b hb => Nat.lt_of_lt_of_le (HP.out b hb) q.size) (fun b hb => Nat.lt_of_lt_of_le (HP'.out b hb) q.size))
      have KR := HR.out
      have KD := KR.drew
      have NS : ∀ w', Keeps W w' → Keeps W w' ∧ w'.cell? ⟨g, k * 5, none⟩ = some (.int .i64 kd) ∧ w'.cell? ⟨g, k * 5 + 1, none⟩ = some (.string ⟨t.toArray⟩) ∧ w'.cell? ⟨g, k * 5 + 2, none⟩ = some (.string ⟨d.toArray⟩) ∧ w'.cell? ⟨g, k * 5 + 3, none⟩ = some (.string ⟨ti.toArray⟩) ∧ w'.cell? ⟨g, k * 5 + 4, none⟩ = some (kv) ∧ w'.cell? ⟨g', k * 5, none⟩ = some (.int .i64 kd) ∧ w'.cell? ⟨g', k * 5 + 1, none⟩ = some (.string ⟨t.toArray⟩) ∧ w'.cell? ⟨g', k * 5 + 2, none⟩ = some (.string ⟨d.toArray⟩) ∧ w'.cell? ⟨g', k * 5 + 3, none⟩ = some (.string ⟨ti.toArray⟩) ∧ w'.cell? ⟨g', k * 5 + 4, none⟩ = some (kv') := fun w' q => ⟨q, (a1.keep q).c0, (a1.keep q).c1, (a1.keep q).c2, (a1.keep q).c3, (a1.keep q).c4, (a2.keep q).c0, (a2.keep q).c1, (a2.keep q).c2, (a2.keep q).c3, (a2.keep q).c4⟩
      clear e1 e2 s1 s2 ex hk'
      have hk0 : (0 : Int) ≤ (k : Int) := by omega
      have hk1 : (k : Int) < (n : Int) := by omega
      go_upto_region 6 with fail
      obtain ⟨t0, ht0⟩ : ∃ x : ByteArray, (⟨t.toArray⟩ : ByteArray) = x := ⟨_, rfl⟩
      obtain ⟨d0, hd0⟩ : ∃ x : ByteArray, (⟨d.toArray⟩ : ByteArray) = x := ⟨_, rfl⟩
      obtain ⟨i0, hi0⟩ : ∃ x : ByteArray, (⟨ti.toArray⟩ : ByteArray) = x := ⟨_, rfl⟩
      rw [ht0, hd0, hi0] at NS
      clear ht0 hd0 hi0 a1 a2
      go_region_held3 (fun w' => Keeps W w' ∧ w'.cell? ⟨g, k * 5, none⟩ = some (.int .i64 kd) ∧ w'.cell? ⟨g, k * 5 + 1, none⟩ = some (.string t0) ∧ w'.cell? ⟨g, k * 5 + 2, none⟩ = some (.string d0) ∧ w'.cell? ⟨g, k * 5 + 3, none⟩ = some (.string i0) ∧ w'.cell? ⟨g, k * 5 + 4, none⟩ = some (kv) ∧ w'.cell? ⟨g', k * 5, none⟩ = some (.int .i64 kd) ∧ w'.cell? ⟨g', k * 5 + 1, none⟩ = some (.string t0) ∧ w'.cell? ⟨g', k * 5 + 2, none⟩ = some (.string d0) ∧ w'.cell? ⟨g', k * 5 + 3, none⟩ = some (.string i0) ∧ w'.cell? ⟨g', k * 5 + 4, none⟩ = some (kv'))
        (first | (with_reducible exact NS _ KD) | (with_reducible exact NS _ kb) | (with_reducible assumption))
        (first | (go_at_call 12; (with_reducible refine (CL.out _ KD).mono ?_); rintro e w1 ⟨rfl, k1⟩; have kb := KD.trans k1))
      all_goals
        go_wp2_with fail
        go_roundw
        case rel => exact ⟨k + 1, by omega, by go_num, Lib.hid kb⟩
        case measure => simp [RowKit.intOf]; omega
    · have hkn : ¬ (k : Int) < (n : Int) := by omega
      have KR := HR.out
      go_wp2_with fail
      go_ret
      exact ⟨rfl, KR⟩
end Go.Proofs.YtolpmdicilbpfaaGreatDoor


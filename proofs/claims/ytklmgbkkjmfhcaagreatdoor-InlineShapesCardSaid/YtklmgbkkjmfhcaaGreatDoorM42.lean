/-
  Texts of the proof, one behind the other: Ise.
-/
import Derived.Test.YtklmgbkkjmfhcaaGreatDoorM41
/-
  Contract of the law's shaped.
-/
namespace Go.Proofs.YtklmgbkkjmfhcaaGreatDoor
open Go.RowKit Go.Lib Go.Maps

theorem SAt.keep {W W' : World} {g o k : Nat} {t d ti : List UInt8} {kv : Value} (h : SAt W g o k t d ti kv) (K : Keeps W W') : SAt W' g o k t d ti kv := ⟨K.cell2 h.c0, K.cell2 h.c1, K.cell2 h.c2, K.cell2 h.c3, K.cell2 h.c4⟩
theorem shS_kd {link p : Bool} {kd : Nat} {t d ti : List UInt8} {ks : List Sp} : shS link p (.mk kd t d ti ks) = (decide (1 ≤ kd) && decide (kd ≤ 9) && (decide (5 ≤ kd ∧ kd ≤ 8) || ks.isEmpty) && !(decide (kd = 1) && (t.isEmpty || p)) && !(decide (kd = 7) && link) && shL (link || decide (kd = 7)) false ks) := by rw [shS]
set_option maxRecDepth 100000 in
set_option maxHeartbeats 16000000 in
theorem shaped_any : ∀ (f : Nat) (l : List Sp) (W : World) (v : Value) (P : Nat → Prop) (link : Bool), SizeOf.sizeOf l ≤ f → SpsAt W P l v → (∀ b, P b → b < W.heap.size) →
    Calls Tryz.prog 5 #[v, .bool link] W fun e w' => e = .returned (.bool (shL link false l)) ∧ Keeps W w' := by
  intro f
  induction f with
  | zero =>
    intro l W v P link hf
    have : 0 < SizeOf.sizeOf l := by cases l <;> simp <;> omega
    omega
  | succ f ih =>
  intro l W v P link hf h1 hP
  obtain ⟨A, cap, rfl, hc1, hc2, hg⟩ := h1.slice
  have H1 := Lib.hid h1
  have HG := Lib.hid hg
  have IH := Lib.hid ih
  have HF := Lib.hid hf
  have HP := Lib.hid hP
  unfold maxLen at hc2
  obtain ⟨n, hn⟩ : ∃ n, l.length = n := ⟨_, rfl⟩
  have HN := Lib.hid hn
  rw [hn] at hc1
  rw [hn]
  have S0 : Hid (shL link false l = shL link (pvT l 0) (l.drop 0)) := Lib.hid rfl
  clear h1 hg ih hf hP hn
  go_enter Tryz.func5, Tryz.ntmps5
  go_wp2_with fail
  go_loopw [5] (fun i wr => ∃ k : Nat, k ≤ n ∧ i = .int .i64 k ∧ Hid (Keeps W wr) ∧ Hid (shL link false l = shL link (pvT l k) (l.drop k))) (fun i _ => n - (RowKit.intOf i).toNat)
  case atStart => exact ⟨0, Nat.zero_le _, rfl, Lib.hid (Keeps.refl _), S0⟩
  case round =>
    obtain ⟨k, hk, rfl, HR, HS⟩ := hrel
    by_cases c0 : k < n
    · obtain ⟨g, rfl⟩ := HG.out (by rw [HN.out]; omega)
      have hk' : k < l.length := by rw [HN.out]; exact c0
      obtain ⟨kd, t, d, ti, ks, ex⟩ : ∃ kd t d ti ks, l[k]? = some (.mk kd t d ti ks) := by
        rw [List.getElem?_eq_getElem hk']
        cases l[k] with
        | mk kd t d ti ks => exact ⟨kd, t, d, ti, ks, rfl⟩
      have e1 := H1.out
      obtain ⟨kv, a1, s1⟩ := e1.at ex
      have KR := HR.out
      have a2 := a1.keep KR
      obtain ⟨kA, kc, rfl, kc1, kc2, _⟩ := s1.slice
      unfold maxLen at kc2
      have CL := Lib.hid (fun W' (q : Keeps W W') lk => IH.out ks W' _ P lk (by have := size_sp ex; have := HF.out; omega) (s1.keep HP.out q) (fun b hb => Nat.lt_of_lt_of_le (HP.out b hb) q.size))
      have NX : Hid (shL link false l = (shS link (pvT l k) (.mk kd t d ti ks) && shL link (pvT l (k + 1)) (l.drop (k + 1)))) := Lib.hid (by rw [HS.out, sh_next ex])
      have PV : k = 0 ∨ ∃ m pk, k = m + 1 ∧ wr.cell? ⟨g, m * 5, none⟩ = some (.int .i64 (pk : Nat)) ∧ pvT l k = decide (pk = 1) := by
        cases k with
        | zero => exact .inl rfl
        | succ m =>
          obtain ⟨pk, pt, pd, pti, pks, ep⟩ : ∃ kd t d ti ks, l[m]? = some (.mk kd t d ti ks) := by
            rw [List.getElem?_eq_getElem (show m < l.length by omega)]
            cases l[m] with
            | mk kd t d ti ks => exact ⟨kd, t, d, ti, ks, rfl⟩
          obtain ⟨_, b1, _⟩ := e1.at ep
          exact .inr ⟨m, pk, rfl, (b1.keep KR).c0, pvT_next ep⟩
      have q0 := a2.c0
      have q1 := a2.c1
      have q2 := a2.c2
      have q3 := a2.c3
      have q4 := a2.c4
      have hk0 : (0 : Int) ≤ (k : Int) := by omega
      have hk1 : (k : Int) < (n : Int) := by omega
      have KA := Lib.hid (fun o => KR.alloc o)
      obtain ⟨p, hp⟩ : ∃ p, pvT l k = p := ⟨_, rfl⟩
      rw [hp] at NX
      rw [shS_kd] at NX
      clear e1 s1 ex hk' a1 a2 HS
      obtain ⟨t0, ht0⟩ : ∃ x : ByteArray, (⟨t.toArray⟩ : ByteArray) = x := ⟨_, rfl⟩
      obtain ⟨d0, hd0⟩ : ∃ x : ByteArray, (⟨d.toArray⟩ : ByteArray) = x := ⟨_, rfl⟩
      obtain ⟨i0, hi0⟩ : ∃ x : ByteArray, (⟨ti.toArray⟩ : ByteArray) = x := ⟨_, rfl⟩
      have ht1 : t0.data.toList = t := by rw [← ht0]
      rw [ht0] at q1
      rw [hd0] at q2
      rw [hi0] at q3
      clear ht0 hd0 hi0
      obtain ⟨kn, hkn⟩ : ∃ x, ks.length = x := ⟨_, rfl⟩
      rw [hkn] at q4 CL kc1
      have HKN := Lib.hid hkn
      clear hkn
      have g5 : (5 : Int) ≤ (kd : Int) ∨ ¬ (5 : Int) ≤ (kd : Int) := Classical.em _
      have NF : ∀ {b : Bool}, shL link false l = b → b = false → shL link false l = false := fun h e => h.trans e
      by_cases z0 : kd = 0
      · clear g5
        have u5 : ¬ (5 : Int) ≤ (kd : Int) := by omega
        have u1 : (kd : Int) < 1 := by omega
        have HB : Hid (shL link false l = false) := Lib.hid (by rw [NX.out]; simp [show ¬ 1 ≤ kd by omega])
        clear NX CL
        go_wp2_with fail
        go_ret
        exact ⟨congrArg (fun b => Ending.returned (.bool b)) HB.out.symm, KA.out _⟩
      by_cases z9 : 9 < kd
      · clear g5
        have u5 : (5 : Int) ≤ (kd : Int) := by omega
        have u8 : ¬ (kd : Int) ≤ 8 := by omega
        have u1 : ¬ (kd : Int) < 1 := by omega
        have u9 : (9 : Int) < (kd : Int) := by omega
        have HB : Hid (shL link false l = false) := Lib.hid (by rw [NX.out]; simp [show ¬ kd ≤ 9 by omega])
        clear NX CL
        go_wp2_with fail
        go_ret
        exact ⟨congrArg (fun b => Ending.returned (.bool b)) HB.out.symm, KA.out _⟩
      by_cases z1 : kd = 1
      · clear g5
        have u5 : ¬ (5 : Int) ≤ (kd : Int) := by omega
        have u1 : ¬ (kd : Int) < 1 := by omega
        have u9 : ¬ (9 : Int) < (kd : Int) := by omega
        have v1 : ((kd : Int) == 1) = true := beqT (by omega)
        have v7 : ((kd : Int) == 7) = false := beqF (by omega)
        by_cases hks : ks = []
        · have uk : kn = 0 := by have h := HKN.out; rw [hks] at h; exact h.symm
          subst uk
          have HKS := Lib.hid hks
          by_cases htx : t = []
          · have te : t0.toList = [] := by rw [Lib.toList_data, ht1, htx]
            have HTX := Lib.hid htx
            have tb : t0.toList.isEmpty = true := by rw [te]; rfl
            clear hks htx
            have HB : Hid (shL link false l = false) := Lib.hid (by rw [NX.out]; simp [HTX.out, z1])
            clear NX CL
            go_wp2_with fail
            go_ret
            exact ⟨congrArg (fun b => Ending.returned (.bool b)) HB.out.symm, KA.out _⟩
          · have HTB := Lib.hid (List.isEmpty_eq_false_iff.2 htx)
            have te : t0.toList ≠ [] := by rw [Lib.toList_data, ht1]; exact htx
            have HTX := Lib.hid htx
            have tb : t0.toList.isEmpty = false := by rw [List.isEmpty_eq_false_iff]; exact te
            clear hks htx
            rcases PV with hz | ⟨m, pk, hm, cp, hpk⟩
            · have uz : ¬ (0 : Int) < (k : Int) := by omega
              have hpf : p = false := by rw [← hp, hz]; rfl
              have HPF := Lib.hid hpf
              clear hz hpf hp
              cases link with
              | true =>
                have NG : Hid (shL true false l = (shL true false ks && shL true (pvT l (k + 1)) (l.drop (k + 1)))) := Lib.hid (by rw [NX.out]; rw [HPF.out]; simp [HTB.out, HKS.out, z1])
                clear NX
                obtain ⟨r, hr⟩ : ∃ r, shL true false ks = r := ⟨_, rfl⟩
                have CL2 := Lib.hid (fun W' (q : Keeps W W') => CL.out W' q true)
                rw [hr] at CL2 NG
                clear CL hr
                go_wp2_with fail
                refine (CL2.out _ (KA.out _)).mono ?_
                rintro e w2 ⟨rfl, k2⟩
                have K2 := Lib.hid ((KA.out _).trans k2)
                cases r with
                | false =>
                  have HB : Hid (shL true false l = false) := Lib.hid NG.out
                  clear NG CL2 k2
                  go_wp2_with fail
                  go_ret
                  exact ⟨congrArg (fun b => Ending.returned (.bool b)) HB.out.symm, K2.out⟩
                | true =>
                  have HS2 : Hid (shL true false l = shL true (pvT l (k + 1)) (l.drop (k + 1))) := Lib.hid NG.out
                  clear NG CL2 k2
                  go_wp2_with fail
                  go_roundw
                  case rel => exact ⟨k + 1, by omega, by go_num, K2, HS2⟩
                  case measure => simp [RowKit.intOf]; omega
              | false =>
                have NG : Hid (shL false false l = (shL false false ks && shL false (pvT l (k + 1)) (l.drop (k + 1)))) := Lib.hid (by rw [NX.out]; rw [HPF.out]; simp [HTB.out, HKS.out, z1])
                clear NX
                obtain ⟨r, hr⟩ : ∃ r, shL false false ks = r := ⟨_, rfl⟩
                have CL2 := Lib.hid (fun W' (q : Keeps W W') => CL.out W' q false)
                rw [hr] at CL2 NG
                clear CL hr
                go_wp2_with fail
                refine (CL2.out _ (KA.out _)).mono ?_
                rintro e w2 ⟨rfl, k2⟩
                have K2 := Lib.hid ((KA.out _).trans k2)
                cases r with
                | false =>
                  have HB : Hid (shL false false l = false) := Lib.hid NG.out
                  clear NG CL2 k2
                  go_wp2_with fail
                  go_ret
                  exact ⟨congrArg (fun b => Ending.returned (.bool b)) HB.out.symm, K2.out⟩
                | true =>
                  have HS2 : Hid (shL false false l = shL false (pvT l (k + 1)) (l.drop (k + 1))) := Lib.hid NG.out
                  clear NG CL2 k2
                  go_wp2_with fail
                  go_roundw
                  case rel => exact ⟨k + 1, by omega, by go_num, K2, HS2⟩
                  case measure => simp [RowKit.intOf]; omega
            · have uz : (0 : Int) < (k : Int) := by omega
              have um : (k : Int) - 1 = (m : Int) := by omega
              have um0 : (0 : Int) ≤ (m : Int) := by omega
              have um1 : (m : Int) < (n : Int) := by omega
              have HPP := Lib.hid (hp.symm.trans hpk)
              clear hp hpk hm
              have cpA : (wr.alloc (.cells #[.int .i64 1, .string t0, .string d0, .string i0, .slice kA 0 kc] 31)).cell? ⟨g, m * 5, none⟩ = some (.int .i64 (pk : Nat)) := ((Keeps.refl wr).alloc _).cell2 cp
              by_cases h1p : pk = 1
              · have vp : ((pk : Int) == 1) = true := beqT (by omega)
                have HP1 := Lib.hid h1p
                clear h1p
                have HB : Hid (shL link false l = false) := Lib.hid (by rw [NX.out]; rw [HPP.out]; simp [HP1.out, z1])
                clear NX CL
                go_wp2_with fail
                go_ret
                exact ⟨congrArg (fun b => Ending.returned (.bool b)) HB.out.symm, KA.out _⟩
              · have vp : ((pk : Int) == 1) = false := beqF (by omega)
                have HP1 := Lib.hid h1p
                clear h1p
                cases link with
                | true =>
                  have NG : Hid (shL true false l = (shL true false ks && shL true (pvT l (k + 1)) (l.drop (k + 1)))) := Lib.hid (by rw [NX.out]; rw [HPP.out]; simp [HTB.out, HKS.out, HP1.out, z1])
                  clear NX
                  obtain ⟨r, hr⟩ : ∃ r, shL true false ks = r := ⟨_, rfl⟩
                  have CL2 := Lib.hid (fun W' (q : Keeps W W') => CL.out W' q true)
                  rw [hr] at CL2 NG
                  clear CL hr
                  go_wp2_with fail
                  refine (CL2.out _ (KA.out _)).mono ?_
                  rintro e w2 ⟨rfl, k2⟩
                  have K2 := Lib.hid ((KA.out _).trans k2)
                  cases r with
                  | false =>
                    have HB : Hid (shL true false l = false) := Lib.hid NG.out
                    clear NG CL2 k2
                    go_wp2_with fail
                    go_ret
                    exact ⟨congrArg (fun b => Ending.returned (.bool b)) HB.out.symm, K2.out⟩
                  | true =>
                    have HS2 : Hid (shL true false l = shL true (pvT l (k + 1)) (l.drop (k + 1))) := Lib.hid NG.out
                    clear NG CL2 k2
                    go_wp2_with fail
                    go_roundw
                    case rel => exact ⟨k + 1, by omega, by go_num, K2, HS2⟩
                    case measure => simp [RowKit.intOf]; omega
                | false =>
                  have NG : Hid (shL false false l = (shL false false ks && shL false (pvT l (k + 1)) (l.drop (k + 1)))) := Lib.hid (by rw [NX.out]; rw [HPP.out]; simp [HTB.out, HKS.out, HP1.out, z1])
                  clear NX
                  obtain ⟨r, hr⟩ : ∃ r, shL false false ks = r := ⟨_, rfl⟩
                  have CL2 := Lib.hid (fun W' (q : Keeps W W') => CL.out W' q false)
                  rw [hr] at CL2 NG
                  clear CL hr
                  go_wp2_with fail
                  refine (CL2.out _ (KA.out _)).mono ?_
                  rintro e w2 ⟨rfl, k2⟩
                  have K2 := Lib.hid ((KA.out _).trans k2)
                  cases r with
                  | false =>
                    have HB : Hid (shL false false l = false) := Lib.hid NG.out
                    clear NG CL2 k2
                    go_wp2_with fail
                    go_ret
                    exact ⟨congrArg (fun b => Ending.returned (.bool b)) HB.out.symm, K2.out⟩
                  | true =>
                    have HS2 : Hid (shL false false l = shL false (pvT l (k + 1)) (l.drop (k + 1))) := Lib.hid NG.out
                    clear NG CL2 k2
                    go_wp2_with fail
                    go_roundw
                    case rel => exact ⟨k + 1, by omega, by go_num, K2, HS2⟩
                    case measure => simp [RowKit.intOf]; omega
        · have uk : (0 : Int) < (kn : Int) := by have := List.length_pos_iff.2 hks; have := HKN.out; omega
          have HKS := Lib.hid hks
          clear hks
          have HB : Hid (shL link false l = false) := Lib.hid (by rw [NX.out]; simp [HKS.out, z1])
          clear NX CL
          go_wp2_with fail
          go_ret
          exact ⟨congrArg (fun b => Ending.returned (.bool b)) HB.out.symm, KA.out _⟩
      by_cases z5 : kd < 5
      · clear g5
        have u5 : ¬ (5 : Int) ≤ (kd : Int) := by omega
        have u1 : ¬ (kd : Int) < 1 := by omega
        have u9 : ¬ (9 : Int) < (kd : Int) := by omega
        have v1 : ((kd : Int) == 1) = false := beqF (by omega)
        have v7 : ((kd : Int) == 7) = false := beqF (by omega)
        by_cases hks : ks = []
        · have uk : kn = 0 := by have h := HKN.out; rw [hks] at h; exact h.symm
          subst uk
          have HKS := Lib.hid hks
          clear hks
          cases link with
          | true =>
            have NG : Hid (shL true false l = (shL true false ks && shL true (pvT l (k + 1)) (l.drop (k + 1)))) := Lib.hid (by rw [NX.out]; simp [HKS.out, show ¬ kd = 7 by omega, show ¬ kd = 1 by omega, show 1 ≤ kd by omega, show kd ≤ 9 by omega])
            clear NX
            obtain ⟨r, hr⟩ : ∃ r, shL true false ks = r := ⟨_, rfl⟩
            have CL2 := Lib.hid (fun W' (q : Keeps W W') => CL.out W' q true)
            rw [hr] at CL2 NG
            clear CL hr
            go_wp2_with fail
            refine (CL2.out _ (KA.out _)).mono ?_
            rintro e w2 ⟨rfl, k2⟩
            have K2 := Lib.hid ((KA.out _).trans k2)
            cases r with
            | false =>
              have HB : Hid (shL true false l = false) := Lib.hid NG.out
              clear NG CL2 k2
              go_wp2_with fail
              go_ret
              exact ⟨congrArg (fun b => Ending.returned (.bool b)) HB.out.symm, K2.out⟩
            | true =>
              have HS2 : Hid (shL true false l = shL true (pvT l (k + 1)) (l.drop (k + 1))) := Lib.hid NG.out
              clear NG CL2 k2
              go_wp2_with fail
              go_roundw
              case rel => exact ⟨k + 1, by omega, by go_num, K2, HS2⟩
              case measure => simp [RowKit.intOf]; omega
          | false =>
            have NG : Hid (shL false false l = (shL false false ks && shL false (pvT l (k + 1)) (l.drop (k + 1)))) := Lib.hid (by rw [NX.out]; simp [HKS.out, show ¬ kd = 7 by omega, show ¬ kd = 1 by omega, show 1 ≤ kd by omega, show kd ≤ 9 by omega])
            clear NX
            obtain ⟨r, hr⟩ : ∃ r, shL false false ks = r := ⟨_, rfl⟩
            have CL2 := Lib.hid (fun W' (q : Keeps W W') => CL.out W' q false)
            rw [hr] at CL2 NG
            clear CL hr
            go_wp2_with fail
            refine (CL2.out _ (KA.out _)).mono ?_
            rintro e w2 ⟨rfl, k2⟩
            have K2 := Lib.hid ((KA.out _).trans k2)
            cases r with
            | false =>
              have HB : Hid (shL false false l = false) := Lib.hid NG.out
              clear NG CL2 k2
              go_wp2_with fail
              go_ret
              exact ⟨congrArg (fun b => Ending.returned (.bool b)) HB.out.symm, K2.out⟩
            | true =>
              have HS2 : Hid (shL false false l = shL false (pvT l (k + 1)) (l.drop (k + 1))) := Lib.hid NG.out
              clear NG CL2 k2
              go_wp2_with fail
              go_roundw
              case rel => exact ⟨k + 1, by omega, by go_num, K2, HS2⟩
              case measure => simp [RowKit.intOf]; omega
        · have uk : (0 : Int) < (kn : Int) := by have := List.length_pos_iff.2 hks; have := HKN.out; omega
          have HKS := Lib.hid hks
          clear hks
          have HB : Hid (shL link false l = false) := Lib.hid (by rw [NX.out]; simp [HKS.out, show ¬ (5 ≤ kd ∧ kd ≤ 8) by omega])
          clear NX CL
          go_wp2_with fail
          go_ret
          exact ⟨congrArg (fun b => Ending.returned (.bool b)) HB.out.symm, KA.out _⟩
      by_cases z9b : kd = 9
      · clear g5
        have u5 : (5 : Int) ≤ (kd : Int) := by omega
        have u8 : ¬ (kd : Int) ≤ 8 := by omega
        have u1 : ¬ (kd : Int) < 1 := by omega
        have u9 : ¬ (9 : Int) < (kd : Int) := by omega
        have v1 : ((kd : Int) == 1) = false := beqF (by omega)
        have v7 : ((kd : Int) == 7) = false := beqF (by omega)
        by_cases hks : ks = []
        · have uk : kn = 0 := by have h := HKN.out; rw [hks] at h; exact h.symm
          subst uk
          have HKS := Lib.hid hks
          clear hks
          cases link with
          | true =>
            have NG : Hid (shL true false l = (shL true false ks && shL true (pvT l (k + 1)) (l.drop (k + 1)))) := Lib.hid (by rw [NX.out]; simp [HKS.out, show ¬ kd = 7 by omega, show ¬ kd = 1 by omega, show 1 ≤ kd by omega, show kd ≤ 9 by omega])
            clear NX
            obtain ⟨r, hr⟩ : ∃ r, shL true false ks = r := ⟨_, rfl⟩
            have CL2 := Lib.hid (fun W' (q : Keeps W W') => CL.out W' q true)
            rw [hr] at CL2 NG
            clear CL hr
            go_wp2_with fail
            refine (CL2.out _ (KA.out _)).mono ?_
            rintro e w2 ⟨rfl, k2⟩
            have K2 := Lib.hid ((KA.out _).trans k2)
            cases r with
            | false =>
              have HB : Hid (shL true false l = false) := Lib.hid NG.out
              clear NG CL2 k2
              go_wp2_with fail
              go_ret
              exact ⟨congrArg (fun b => Ending.returned (.bool b)) HB.out.symm, K2.out⟩
            | true =>
              have HS2 : Hid (shL true false l = shL true (pvT l (k + 1)) (l.drop (k + 1))) := Lib.hid NG.out
              clear NG CL2 k2
              go_wp2_with fail
              go_roundw
              case rel => exact ⟨k + 1, by omega, by go_num, K2, HS2⟩
              case measure => simp [RowKit.intOf]; omega
          | false =>
            have NG : Hid (shL false false l = (shL false false ks && shL false (pvT l (k + 1)) (l.drop (k + 1)))) := Lib.hid (by rw [NX.out]; simp [HKS.out, show ¬ kd = 7 by omega, show ¬ kd = 1 by omega, show 1 ≤ kd by omega, show kd ≤ 9 by omega])
            clear NX
            obtain ⟨r, hr⟩ : ∃ r, shL false false ks = r := ⟨_, rfl⟩
            have CL2 := Lib.hid (fun W' (q : Keeps W W') => CL.out W' q false)
            rw [hr] at CL2 NG
            clear CL hr
            go_wp2_with fail
            refine (CL2.out _ (KA.out _)).mono ?_
            rintro e w2 ⟨rfl, k2⟩
            have K2 := Lib.hid ((KA.out _).trans k2)
            cases r with
            | false =>
              have HB : Hid (shL false false l = false) := Lib.hid NG.out
              clear NG CL2 k2
              go_wp2_with fail
              go_ret
              exact ⟨congrArg (fun b => Ending.returned (.bool b)) HB.out.symm, K2.out⟩
            | true =>
              have HS2 : Hid (shL false false l = shL false (pvT l (k + 1)) (l.drop (k + 1))) := Lib.hid NG.out
              clear NG CL2 k2
              go_wp2_with fail
              go_roundw
              case rel => exact ⟨k + 1, by omega, by go_num, K2, HS2⟩
              case measure => simp [RowKit.intOf]; omega
        · have uk : (0 : Int) < (kn : Int) := by have := List.length_pos_iff.2 hks; have := HKN.out; omega
          have HKS := Lib.hid hks
          clear hks
          have HB : Hid (shL link false l = false) := Lib.hid (by rw [NX.out]; simp [HKS.out, show ¬ (5 ≤ kd ∧ kd ≤ 8) by omega])
          clear NX CL
          go_wp2_with fail
          go_ret
          exact ⟨congrArg (fun b => Ending.returned (.bool b)) HB.out.symm, KA.out _⟩
      by_cases z7 : kd = 7
      · clear g5
        have u5 : (5 : Int) ≤ (kd : Int) := by omega
        have u8 : (kd : Int) ≤ 8 := by omega
        have u1 : ¬ (kd : Int) < 1 := by omega
        have u9 : ¬ (9 : Int) < (kd : Int) := by omega
        have v1 : ((kd : Int) == 1) = false := beqF (by omega)
        have v7 : ((kd : Int) == 7) = true := beqT (by omega)
        cases link with
        | true =>
          have HB : Hid (shL true false l = false) := Lib.hid (by rw [NX.out]; simp [z7])
          clear NX CL
          go_wp2_with fail
          go_ret
          exact ⟨congrArg (fun b => Ending.returned (.bool b)) HB.out.symm, KA.out _⟩
        | false =>
          have NG : Hid (shL false false l = (shL true false ks && shL false (pvT l (k + 1)) (l.drop (k + 1)))) := Lib.hid (by rw [NX.out]; simp [z7])
          clear NX
          obtain ⟨r, hr⟩ : ∃ r, shL true false ks = r := ⟨_, rfl⟩
          have CL2 := Lib.hid (fun W' (q : Keeps W W') => CL.out W' q true)
          rw [hr] at CL2 NG
          clear CL hr
          go_wp2_with fail
          refine (CL2.out _ (KA.out _)).mono ?_
          rintro e w2 ⟨rfl, k2⟩
          have K2 := Lib.hid ((KA.out _).trans k2)
          cases r with
          | false =>
            have HB : Hid (shL false false l = false) := Lib.hid NG.out
            clear NG CL2 k2
            go_wp2_with fail
            go_ret
            exact ⟨congrArg (fun b => Ending.returned (.bool b)) HB.out.symm, K2.out⟩
          | true =>
            have HS2 : Hid (shL false false l = shL false (pvT l (k + 1)) (l.drop (k + 1))) := Lib.hid NG.out
            clear NG CL2 k2
            go_wp2_with fail
            go_roundw
            case rel => exact ⟨k + 1, by omega, by go_num, K2, HS2⟩
            case measure => simp [RowKit.intOf]; omega
      clear g5
      have u5 : (5 : Int) ≤ (kd : Int) := by omega
      have u8 : (kd : Int) ≤ 8 := by omega
      have u1 : ¬ (kd : Int) < 1 := by omega
      have u9 : ¬ (9 : Int) < (kd : Int) := by omega
      have v1 : ((kd : Int) == 1) = false := beqF (by omega)
      have v7 : ((kd : Int) == 7) = false := beqF (by omega)
      cases link with
      | true =>
        have NG : Hid (shL true false l = (shL true false ks && shL true (pvT l (k + 1)) (l.drop (k + 1)))) := Lib.hid (by rw [NX.out]; simp [z7, show ¬ kd = 1 by omega, show 1 ≤ kd by omega, show kd ≤ 9 by omega, show 5 ≤ kd ∧ kd ≤ 8 by omega])
        clear NX
        obtain ⟨r, hr⟩ : ∃ r, shL true false ks = r := ⟨_, rfl⟩
        have CL2 := Lib.hid (fun W' (q : Keeps W W') => CL.out W' q true)
        rw [hr] at CL2 NG
        clear CL hr
        go_wp2_with fail
        refine (CL2.out _ (KA.out _)).mono ?_
        rintro e w2 ⟨rfl, k2⟩
        have K2 := Lib.hid ((KA.out _).trans k2)
        cases r with
        | false =>
          have HB : Hid (shL true false l = false) := Lib.hid NG.out
          clear NG CL2 k2
          go_wp2_with fail
          go_ret
          exact ⟨congrArg (fun b => Ending.returned (.bool b)) HB.out.symm, K2.out⟩
        | true =>
          have HS2 : Hid (shL true false l = shL true (pvT l (k + 1)) (l.drop (k + 1))) := Lib.hid NG.out
          clear NG CL2 k2
          go_wp2_with fail
          go_roundw
          case rel => exact ⟨k + 1, by omega, by go_num, K2, HS2⟩
          case measure => simp [RowKit.intOf]; omega
      | false =>
        have NG : Hid (shL false false l = (shL false false ks && shL false (pvT l (k + 1)) (l.drop (k + 1)))) := Lib.hid (by rw [NX.out]; simp [z7, show ¬ kd = 1 by omega, show 1 ≤ kd by omega, show kd ≤ 9 by omega, show 5 ≤ kd ∧ kd ≤ 8 by omega])
        clear NX
        obtain ⟨r, hr⟩ : ∃ r, shL false false ks = r := ⟨_, rfl⟩
        have CL2 := Lib.hid (fun W' (q : Keeps W W') => CL.out W' q false)
        rw [hr] at CL2 NG
        clear CL hr
        go_wp2_with fail
        refine (CL2.out _ (KA.out _)).mono ?_
        rintro e w2 ⟨rfl, k2⟩
        have K2 := Lib.hid ((KA.out _).trans k2)
        cases r with
        | false =>
          have HB : Hid (shL false false l = false) := Lib.hid NG.out
          clear NG CL2 k2
          go_wp2_with fail
          go_ret
          exact ⟨congrArg (fun b => Ending.returned (.bool b)) HB.out.symm, K2.out⟩
        | true =>
          have HS2 : Hid (shL false false l = shL false (pvT l (k + 1)) (l.drop (k + 1))) := Lib.hid NG.out
          clear NG CL2 k2
          go_wp2_with fail
          go_roundw
          case rel => exact ⟨k + 1, by omega, by go_num, K2, HS2⟩
          case measure => simp [RowKit.intOf]; omega
    · have HE : Hid (shL link false l = true) := Lib.hid (by rw [HS.out, List.drop_eq_nil_of_le (by rw [HN.out]; omega), shL])
      have hkn : ¬ (k : Int) < (n : Int) := by omega
      have KR := HR.out
      go_wp2_with fail
      go_ret
      exact ⟨congrArg (fun b => Ending.returned (.bool b)) HE.out.symm, KR⟩
end Go.Proofs.YtklmgbkkjmfhcaaGreatDoor


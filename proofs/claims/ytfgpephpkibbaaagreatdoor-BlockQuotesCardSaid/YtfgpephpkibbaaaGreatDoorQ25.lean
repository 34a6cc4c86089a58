/-
  Texts of the proof, one behind the other: Mke, Mkf.
-/
import Derived.Test.YtfgpephpkibbaaaGreatDoorQ19
import Derived.Test.YtfgpephpkibbaaaGreatDoorQ10
import Derived.Test.YtfgpephpkibbaaaGreatDoorQ1
import Derived.Deep.RegionHeld3
import Derived.LoopTactic
/-
  Contracts of nameOf, hasRawText, isBlock, beginsRaw, declares, beginsElement, Html, endsRaw, HtmlEnd, of the package, for texts of at most 100,000 bytes.
-/
namespace Go.Proofs.YtfgpephpkibbaaaGreatDoor
open Go.RowKit Go.Lib

theorem contains_any (s sub : ByteArray) (w : World) (hs : s.size ≤ 100000) (h : Mxl w) :
    Calls Tryz.prog 93 #[.string s, .string sub] w fun e w' => e = .returned (.bool (contains s.data.toList sub.data.toList)) ∧ w' = w := by
  obtain ⟨m, hm⟩ := h
  exact Tryz.strings_Contains s sub m w (by omega) hm
theorem cutEnd_any (s : ByteArray) (w : World) (hs : s.size ≤ 100000) (h : Mxl w) :
    Calls Tryz.prog 122 #[.string s, .string ⟨#[60, 47]⟩] w fun e w' => e = .returned (.tuple #[.string ⟨(cut s.data.toList [60, 47]).1.toArray⟩, .string ⟨(cut s.data.toList [60, 47]).2.1.toArray⟩, .bool (cut s.data.toList [60, 47]).2.2]) ∧ ∃ n, w' = w.drewN n := by
  obtain ⟨m, hm⟩ := h
  exact Tryz.strings_Cut s ⟨#[60, 47]⟩ m w (by omega) hm

set_option maxHeartbeats 1000000 in
set_option maxRecDepth 100000 in
theorem nameOf_any (s : ByteArray) (w : World) (hs : s.size ≤ 100000) :
    Calls Tryz.prog 123 #[.string s] w fun e w' => e = .returned (.tuple #[.string ⟨(nmL s.data.toList).toArray⟩, .string ⟨(nmR s.data.toList).toArray⟩]) ∧ Keeps w w' := by
  have hl := Lib.hid (bytes_len s)
  have LT := Lib.hid (fun b W => mletter_any b W)
  have DG := Lib.hid (fun b W => mdigit_any b W)
  have TL := Lib.hid (fun W => Tryz.strings_ToLower_ascii (s.extract 0 (nmC s.data.toList)) W (by rw [ByteArray.size_extract]; omega) (fun j b hb => nm_ascii s.data.toList b (by
    have := List.mem_of_getElem? hb
    rw [ext_take] at this
    simpa using this)))
  rw [show (s.extract 0 (nmC s.data.toList)).data.toList = s.data.toList.take (nmC s.data.toList) by rw [ext_take]] at TL
  have HR : Hid ((⟨(nmR s.data.toList).toArray⟩ : ByteArray) = s.extract (nmC s.data.toList) s.size) := Lib.hid (by rw [ext_drop]; rfl)
  rw [HR.out]
  unfold nmL
  clear HR
  generalize toLowerA (s.data.toList.take (nmC s.data.toList)) = z at *
  have hn := nmC_le s.data.toList
  rw [bytes_len] at hn
  go_enter Tryz.func123, Tryz.ntmps123
  go_wp2_with fail
  go_loop [4] (fun i => ∃ k : Nat, k ≤ s.size ∧ Hid (nmC s.data.toList = k + nmC (s.data.toList.drop k)) ∧ i = .int .i64 k) (fun i => s.size - (RowKit.intOf i).toNat)
  case atStart => exact ⟨0, Nat.zero_le _, Lib.hid (by rw [List.drop_zero, Nat.zero_add]), rfl⟩
  case round =>
    obtain ⟨k, hk, HC, rfl⟩ := hrel
    by_cases h : k < s.size
    · have L1 := Lib.hid (LT.out s[k])
      have D1 := Lib.hid (DG.out s[k])
      cases e1 : ltrB s[k] with
      | true =>
        rw [e1] at L1
        have HN : Hid (nmC s.data.toList = k + 1 + nmC (s.data.toList.drop (k + 1))) := Lib.hid (nm_more HC.out (by rw [hl.out]; exact h) (by show anB s[k] = true; unfold anB; rw [e1]; rfl))
        clear e1 D1
        go_wp2_with fail
        refine (L1.out _).mono ?_
        rintro e w1 ⟨rfl, rfl⟩
        go_wp2_with fail
        go_round
        case rel => exact ⟨k + 1, h, HN, by go_num⟩
        case measure => simp [RowKit.intOf]; omega
      | false =>
        rw [e1] at L1
        cases e2 : dgB s[k] with
        | true =>
          rw [e2] at D1
          have HN : Hid (nmC s.data.toList = k + 1 + nmC (s.data.toList.drop (k + 1))) := Lib.hid (nm_more HC.out (by rw [hl.out]; exact h) (by show anB s[k] = true; unfold anB; rw [e1, e2]; rfl))
          clear e1 e2
          go_wp2_with fail
          refine (L1.out _).mono ?_
          rintro e w1 ⟨rfl, rfl⟩
          go_wp2_with fail
          refine (D1.out _).mono ?_
          rintro e w1 ⟨rfl, rfl⟩
          go_wp2_with fail
          go_round
          case rel => exact ⟨k + 1, h, HN, by go_num⟩
          case measure => simp [RowKit.intOf]; omega
        | false =>
          rw [e2] at D1
          have HN : nmC s.data.toList = k := nm_stop HC.out (by rw [hl.out]; exact h) (by show anB s[k] = false; unfold anB; rw [e1, e2]; rfl)
          rw [HN] at TL hn
          have HN2 := Lib.hid HN
          clear e1 e2 HN HC
          go_wp2_with fail
          refine (L1.out _).mono ?_
          rintro e w1 ⟨rfl, rfl⟩
          go_wp2_with fail
          refine (D1.out _).mono ?_
          rintro e w1 ⟨rfl, rfl⟩
          go_wp2_with fail
          go_region_held3 (fun _ => True) (trivial) (first | (go_at_call 149; refine (TL.out _).mono ?_; rintro e w1 ⟨rfl, k1⟩))
          go_wp2_with fail
          go_ret2
          exact ⟨by rw [HN2.out]; rfl, (Keeps.refl w).drew.trans k1⟩
    · have HN : nmC s.data.toList = k := nm_end HC.out (by rw [hl.out]; omega)
      rw [HN] at TL hn
      have HN2 := Lib.hid HN
      clear HN HC
      go_wp2_with fail
      go_region_held3 (fun _ => True) (trivial) (first | (go_at_call 149; refine (TL.out _).mono ?_; rintro e w1 ⟨rfl, k1⟩))
      go_wp2_with fail
      go_ret2
      exact ⟨by rw [HN2.out]; rfl, (Keeps.refl w).drew.trans k1⟩
set_option maxRecDepth 100000 in
theorem rawText_any (s : ByteArray) (w : World) :
    Calls Tryz.prog 124 #[.string s] w fun e w' => e = .returned (.bool (rawN s.data.toList)) ∧ w = w' := by
  rw [← Lib.toList_data]
  go_enter Tryz.func124, Tryz.ntmps124
  go_wp2
  all_goals
    go_ret
    refine ⟨ret_bool ?_, rfl⟩
    first
      | (simp only [rawN, sName, pName, yName, tName, *, Bool.true_or, Bool.or_true, Bool.or_false]; done)
      | (simp_all; done)
      | (simp_all [rawN, sName, pName, yName, tName]; done)
set_option maxHeartbeats 4000000 in
set_option maxRecDepth 100000 in
theorem isBlock_any (s : ByteArray) (w : World) :
    Calls Tryz.prog 140 #[.string s] w fun e w' => e = .returned (.bool (blockN s.data.toList)) ∧ w = w' := by
  rw [← Lib.toList_data]
  go_enter Tryz.func140, Tryz.ntmps140
  go_wp2
  all_goals
    go_ret
    refine ⟨ret_bool ?_, rfl⟩
    first
      | (simp only [blockN, *, Bool.true_or, Bool.or_true, Bool.or_false]; done)
      | (simp_all; done)
      | (simp_all [blockN]; done)
end Go.Proofs.YtfgpephpkibbaaaGreatDoor

/-
  Contracts of beginsRaw, declares, beginsElement, Html, endsRaw, HtmlEnd, of the package, for texts of at most 100,000 bytes.
-/
namespace Go.Proofs.YtfgpephpkibbaaaGreatDoor
open Go.RowKit Go.Lib

theorem mk_list (l : List UInt8) : (⟨l.toArray⟩ : ByteArray).data.toList = l := by simp
theorem mk_sz (l : List UInt8) : (⟨l.toArray⟩ : ByteArray).size = l.length := by show l.toArray.size = _; simp
theorem rawText_l (l : List UInt8) (w : World) : Calls Tryz.prog 124 #[.string ⟨l.toArray⟩] w fun e w' => e = .returned (.bool (rawN l)) ∧ w = w' := by
  have := rawText_any ⟨l.toArray⟩ w
  rw [mk_list] at this
  exact this
theorem isBlock_l (l : List UInt8) (w : World) : Calls Tryz.prog 140 #[.string ⟨l.toArray⟩] w fun e w' => e = .returned (.bool (blockN l)) ∧ w = w' := by
  have := isBlock_any ⟨l.toArray⟩ w
  rw [mk_list] at this
  exact this
theorem apart_l (l : List UInt8) (w : World) : Calls Tryz.prog 110 #[.string ⟨l.toArray⟩] w fun e w' => e = .returned (.bool (apartL l)) ∧ w = w' := by
  have := apart_any ⟨l.toArray⟩ w
  rw [mk_list] at this
  exact this
theorem pre_l (l p : List UInt8) (w : World) : Calls Tryz.prog 76 #[.string ⟨l.toArray⟩, .string ⟨p.toArray⟩] w fun e w' => e = .returned (.bool (hasPrefix l p)) ∧ w' = w := by
  have := Tryz.strings_HasPrefix ⟨l.toArray⟩ ⟨p.toArray⟩ w
  rw [mk_list, mk_list] at this
  exact this
theorem nmR_len (l : List UInt8) : (nmR l).length ≤ l.length := by unfold nmR; rw [List.length_drop]; omega
set_option maxHeartbeats 800000 in
set_option maxRecDepth 100000 in
theorem beginsRaw_any (s : ByteArray) (w : World) (hs : s.size ≤ 100000) :
    Calls Tryz.prog 115 #[.string s] w fun e w' => e = .returned (.bool (beginRaw s.data.toList)) ∧ Keeps w w' := by
  have NM := Lib.hid (fun W => nameOf_any s W hs)
  have RT := Lib.hid (fun W => rawText_l (nmL s.data.toList) W)
  have AP := Lib.hid (fun W => apart_l (nmR s.data.toList) W)
  have HP := Lib.hid (fun W => pre_l (nmR s.data.toList) [62] W)
  unfold beginRaw
  generalize nmL s.data.toList = N at *
  generalize nmR s.data.toList = R at *
  generalize rawN N = a at *
  generalize apartL R = b at *
  generalize hasPrefix R [62] = c at *
  cases a with
  | false =>
    go_enter Tryz.func115, Tryz.ntmps115
    go_wp2_with fail
    refine (NM.out _).mono ?_
    rintro e w1 ⟨rfl, k1⟩
    go_wp2_with fail
    refine (RT.out _).mono ?_
    rintro e w2 ⟨rfl, rfl⟩
    go_wp2_with fail
    go_ret
    exact ⟨rfl, k1⟩
  | true =>
    cases b with
    | true =>
      go_enter Tryz.func115, Tryz.ntmps115
      go_wp2_with fail
      refine (NM.out _).mono ?_
      rintro e w1 ⟨rfl, k1⟩
      go_wp2_with fail
      refine (RT.out _).mono ?_
      rintro e w2 ⟨rfl, rfl⟩
      go_wp2_with fail
      refine (AP.out _).mono ?_
      rintro e w3 ⟨rfl, rfl⟩
      go_wp2_with fail
      go_ret
      exact ⟨rfl, k1⟩
    | false =>
      go_enter Tryz.func115, Tryz.ntmps115
      go_wp2_with fail
      refine (NM.out _).mono ?_
      rintro e w1 ⟨rfl, k1⟩
      go_wp2_with fail
      refine (RT.out _).mono ?_
      rintro e w2 ⟨rfl, rfl⟩
      go_wp2_with fail
      refine (AP.out _).mono ?_
      rintro e w3 ⟨rfl, rfl⟩
      go_wp2_with fail
      refine (HP.out _).mono ?_
      rintro e w4 ⟨rfl, rfl⟩
      go_wp2_with fail
      go_ret
      exact ⟨rfl, k1⟩
set_option maxHeartbeats 800000 in
set_option maxRecDepth 100000 in
theorem beginsElement_any (s : ByteArray) (w : World) (hs : s.size ≤ 100000) :
    Calls Tryz.prog 117 #[.string s] w fun e w' => e = .returned (.bool (beginElem s.data.toList)) ∧ Keeps w w' := by
  have NM := Lib.hid (fun W => nameOf_any s W hs)
  have RT := Lib.hid (fun W => isBlock_l (nmL s.data.toList) W)
  have AP := Lib.hid (fun W => apart_l (nmR s.data.toList) W)
  have HP := Lib.hid (fun W => pre_l (nmR s.data.toList) [62] W)
  have HQ := Lib.hid (fun W => pre_l (nmR s.data.toList) [47, 62] W)
  unfold beginElem
  generalize nmL s.data.toList = N at *
  generalize nmR s.data.toList = R at *
  generalize blockN N = a at *
  generalize apartL R = b at *
  generalize hasPrefix R [62] = c at *
  generalize hasPrefix R [47, 62] = d at *
  cases a with
  | false =>
    go_enter Tryz.func117, Tryz.ntmps117
    go_wp2_with fail
    refine (NM.out _).mono ?_
    rintro e w1 ⟨rfl, k1⟩
    go_wp2_with fail
    refine (RT.out _).mono ?_
    rintro e w2 ⟨rfl, rfl⟩
    go_wp2_with fail
    go_ret
    exact ⟨rfl, k1⟩
  | true =>
    cases b with
    | true =>
      go_enter Tryz.func117, Tryz.ntmps117
      go_wp2_with fail
      refine (NM.out _).mono ?_
      rintro e w1 ⟨rfl, k1⟩
      go_wp2_with fail
      refine (RT.out _).mono ?_
      rintro e w2 ⟨rfl, rfl⟩
      go_wp2_with fail
      refine (AP.out _).mono ?_
      rintro e w3 ⟨rfl, rfl⟩
      go_wp2_with fail
      go_ret
      exact ⟨rfl, k1⟩
    | false =>
      cases c with
      | true =>
        go_enter Tryz.func117, Tryz.ntmps117
        go_wp2_with fail
        refine (NM.out _).mono ?_
        rintro e w1 ⟨rfl, k1⟩
        go_wp2_with fail
        refine (RT.out _).mono ?_
        rintro e w2 ⟨rfl, rfl⟩
        go_wp2_with fail
        refine (AP.out _).mono ?_
        rintro e w3 ⟨rfl, rfl⟩
        go_wp2_with fail
        (with_reducible refine (HP.out _).mono ?_)
        rintro e w4 ⟨rfl, rfl⟩
        go_wp2_with fail
        go_ret
        exact ⟨rfl, k1⟩
      | false =>
        go_enter Tryz.func117, Tryz.ntmps117
        go_wp2_with fail
        refine (NM.out _).mono ?_
        rintro e w1 ⟨rfl, k1⟩
        go_wp2_with fail
        refine (RT.out _).mono ?_
        rintro e w2 ⟨rfl, rfl⟩
        go_wp2_with fail
        refine (AP.out _).mono ?_
        rintro e w3 ⟨rfl, rfl⟩
        go_wp2_with fail
        (with_reducible refine (HP.out _).mono ?_)
        rintro e w4 ⟨rfl, rfl⟩
        go_wp2_with fail
        (with_reducible refine (HQ.out _).mono ?_)
        rintro e w5 ⟨rfl, rfl⟩
        go_wp2_with fail
        go_ret
        exact ⟨rfl, k1⟩
theorem letFirst_mk (l : List UInt8) : letFirst l = if h : 0 < (⟨l.toArray⟩ : ByteArray).size then ltrB ((⟨l.toArray⟩ : ByteArray)[0]) else false := by
  cases l with
  | nil => rfl
  | cons b t => rw [dif_pos (by rw [mk_sz, List.length_cons]; omega)]; rfl
set_option maxHeartbeats 800000 in
set_option maxRecDepth 100000 in
theorem declares_any (s : ByteArray) (w : World) :
    Calls Tryz.prog 116 #[.string s] w fun e w' => e = .returned (.bool (declL s.data.toList)) ∧ w = w' := by
  have CP := Lib.hid (fun W => Tryz.strings_CutPrefix s ⟨#[33]⟩ W)
  rw [show (⟨#[33]⟩ : ByteArray).data.toList = [33] from rfl] at CP
  unfold declL
  rw [letFirst_mk]
  generalize hasPrefix s.data.toList [33] = a at *
  generalize (⟨(trimPrefix s.data.toList [33]).toArray⟩ : ByteArray) = t at *
  cases a with
  | false =>
    rw [Bool.false_and]
    go_enter Tryz.func116, Tryz.ntmps116
    go_wp2_with fail
    refine (CP.out _).mono ?_
    rintro e w1 ⟨rfl, rfl⟩
    go_wp2_with fail
    go_ret
    exact ⟨rfl, rfl⟩
  | true =>
    by_cases h : 0 < t.size
    · rw [dif_pos h]
      have LT := Lib.hid (fun W => mletter_any t[0] W)
      have hi := tl_empty h
      have hn := tl_ne h
      generalize ltrB t[0] = z at *
      go_enter Tryz.func116, Tryz.ntmps116
      go_wp2_with fail
      refine (CP.out _).mono ?_
      rintro e w1 ⟨rfl, rfl⟩
      go_wp2_with fail
      refine (LT.out _).mono ?_
      rintro e w2 ⟨rfl, rfl⟩
      go_wp2_with fail
      go_ret
      exact ⟨rfl, rfl⟩
    · rw [dif_neg h]
      have hz : t = ⟨#[]⟩ := bytes_eq (by rw [List.eq_nil_of_length_eq_zero (show t.data.toList.length = 0 by rw [bytes_len]; omega)])
      subst hz
      clear h
      go_enter Tryz.func116, Tryz.ntmps116
      go_wp2_with fail
      refine (CP.out _).mono ?_
      rintro e w1 ⟨rfl, rfl⟩
      go_wp2_with fail
      go_ret
      exact ⟨rfl, rfl⟩
theorem trimPre_len (l p : List UInt8) : (trimPrefix l p).length ≤ l.length := by
  unfold trimPrefix
  split
  · rw [List.length_drop]; omega
  · exact Nat.le_refl _
set_option maxHeartbeats 4000000 in
set_option maxRecDepth 100000 in
theorem html_any (s : ByteArray) (w : World) (hs : s.size ≤ 100000) :
    Calls Tryz.prog 82 #[.string s] w fun e w' => e = .returned (.int .i64 (htmlL s.data.toList : Nat)) ∧ Keeps w w' := by
  have CP := Lib.hid (fun W => Tryz.strings_CutPrefix s ⟨#[60]⟩ W)
  rw [show (⟨#[60]⟩ : ByteArray).data.toList = [60] from rfl] at CP
  have hl := trimPre_len s.data.toList [60]
  rw [bytes_len] at hl
  unfold htmlL htmlIn
  generalize trimPrefix s.data.toList [60] = i at *
  have hl2 := trimPre_len i [47]
  have BR := Lib.hid (fun W => beginsRaw_any ⟨i.toArray⟩ W (by rw [mk_sz]; omega))
  have P2 := Lib.hid (fun W => pre_l i [33, 45, 45] W)
  have P3 := Lib.hid (fun W => pre_l i [63] W)
  have P5 := Lib.hid (fun W => pre_l i [33, 91, 67, 68, 65, 84, 65, 91] W)
  have DC := Lib.hid (fun W => declares_any ⟨i.toArray⟩ W)
  have TP := Lib.hid (fun W => Tryz.strings_TrimPrefix ⟨i.toArray⟩ ⟨#[47]⟩ W)
  have BE := Lib.hid (fun W => beginsElement_any ⟨(trimPrefix i [47]).toArray⟩ W (by rw [mk_sz]; omega))
  rw [mk_list] at BR DC BE
  rw [mk_list, show (⟨#[47]⟩ : ByteArray).data.toList = [47] from rfl] at TP
  generalize hasPrefix s.data.toList [60] = a0 at *
  generalize beginRaw i = a1 at *
  generalize hasPrefix i [33, 45, 45] = a2 at *
  generalize hasPrefix i [63] = a3 at *
  generalize hasPrefix i [33, 91, 67, 68, 65, 84, 65, 91] = a5 at *
  generalize declL i = a4 at *
  generalize beginElem (trimPrefix i [47]) = a6 at *
  generalize trimPrefix i [47] = t at *
  clear hl hl2 hs
  go_enter Tryz.func82, Tryz.ntmps82
  go_wp2_with fail
  (with_reducible refine (CP.out _).mono ?_)
  rintro e w1 ⟨rfl, rfl⟩
  cases a0 with
  | false =>
    go_wp2_with fail
    go_ret
    exact ⟨rfl, Keeps.refl _⟩
  | true =>
    go_wp2_with fail
    (with_reducible refine (BR.out _).mono ?_)
    rintro e w2 ⟨rfl, k2⟩
    cases a1 with
    | true =>
      go_wp2_with fail
      go_ret
      exact ⟨rfl, k2⟩
    | false =>
      go_wp2_with fail
      (with_reducible refine (P2.out _).mono ?_)
      rintro e w3 ⟨rfl, rfl⟩
      cases a2 with
      | true =>
        go_wp2_with fail
        go_ret
        exact ⟨rfl, k2⟩
      | false =>
        go_wp2_with fail
        (with_reducible refine (P3.out _).mono ?_)
        rintro e w4 ⟨rfl, rfl⟩
        cases a3 with
        | true =>
          go_wp2_with fail
          go_ret
          exact ⟨rfl, k2⟩
        | false =>
          go_wp2_with fail
          (with_reducible refine (P5.out _).mono ?_)
          rintro e w5 ⟨rfl, rfl⟩
          cases a5 with
          | true =>
            go_wp2_with fail
            go_ret
            exact ⟨rfl, k2⟩
          | false =>
            go_wp2_with fail
            (with_reducible refine (DC.out _).mono ?_)
            rintro e w6 ⟨rfl, rfl⟩
            cases a4 with
            | true =>
              go_wp2_with fail
              go_ret
              exact ⟨rfl, k2⟩
            | false =>
              go_wp2_with fail
              (with_reducible refine (TP.out _).mono ?_)
              rintro e w7 ⟨rfl, rfl⟩
              go_wp2_with fail
              (with_reducible refine (BE.out _).mono ?_)
              rintro e w8 ⟨rfl, k8⟩
              cases a6 with
              | true =>
                go_wp2_with fail
                go_ret
                exact ⟨rfl, k2.trans k8⟩
              | false =>
                go_wp2_with fail
                go_ret
                exact ⟨rfl, k2.trans k8⟩

/-! Ends. -/
theorem cut_miss {l : List UInt8} (h : index l [60, 47] = -1) : cut l [60, 47] = (l, [], false) := by unfold cut; rw [h, if_neg (by omega)]
theorem cut_hit {l : List UInt8} {i : Nat} (h : index l [60, 47] = i) : cut l [60, 47] = (l.take i, l.drop (i + 2), true) := by unfold cut; rw [h, if_pos (by omega)]; rfl
def szOf : Value → Nat
  | .string s => s.size
  | _ => 0
set_option maxHeartbeats 2000000 in
set_option maxRecDepth 100000 in
theorem endsRaw_any (s : ByteArray) (w : World) (hs : s.size ≤ 100000) (hm : Mxl w) :
    Calls Tryz.prog 92 #[.string s] w fun e w' => e = .returned (.bool (rawEndL s.data.toList)) ∧ Keeps w w' := by
  have HM := Lib.hid hm
  clear hm
  have CT := Lib.hid (fun t W a b => cutEnd_any t W a b)
  have NM := Lib.hid (fun t W h => nameOf_any t W h)
  have RT := Lib.hid (fun l W => rawText_l l W)
  have HP := Lib.hid (fun l W => pre_l l [62] W)
  go_enter Tryz.func92, Tryz.ntmps92
  go_wp2_with fail
  go_loopw [0] (fun v wr => ∃ t : ByteArray, v = .string t ∧ t.size ≤ s.size ∧ Hid (rawEndL t.data.toList = rawEndL s.data.toList) ∧ Hid (Keeps w wr)) (fun v _ => szOf v)
  case atStart => exact ⟨s, rfl, Nat.le_refl _, Lib.hid rfl, Lib.hid (Keeps.refl w)⟩
  case round =>
    obtain ⟨t, rfl, ht, HR, HK⟩ := hrel
    have C1 := Lib.hid (CT.out t wr (by omega) (Mxl.keep HM.out HK.out))
    rcases index_spec t.data.toList [60, 47] with ⟨hi, _⟩ | ⟨i, hi, _, ho, _⟩
    · rw [cut_miss hi] at C1
      have HX : Hid (rawEndL s.data.toList = false) := Lib.hid (by rw [← HR.out]; exact raw_none hi)
      clear hi
      go_wp2_with fail
      (with_reducible refine C1.out.mono ?_)
      rintro e w1 ⟨rfl, n1, rfl⟩
      go_wp2_with fail
      go_ret
      exact ⟨ret_bool HX.out.symm, HK.out.drewN n1⟩
    · rw [cut_hit hi] at C1
      dsimp only at C1
      have hroom := index_room t.data.toList [60, 47] (by omega)
      rw [hi, bytes_len] at hroom
      have HX := Lib.hid (raw_some hi)
      have hd : (t.data.toList.drop (i + 2)).length + 2 ≤ t.size := by
        rw [List.length_drop, bytes_len]
        have : ([60, 47] : List UInt8).length = 2 := rfl
        omega
      clear hi ho hroom
      generalize t.data.toList.drop (i + 2) = r at *
      have N1 := Lib.hid (fun W => NM.out ⟨r.toArray⟩ W (by rw [mk_sz]; omega))
      rw [mk_list] at N1
      have R1 := Lib.hid (RT.out (nmL r))
      have H1 := Lib.hid (HP.out (nmR r))
      have hnr := nmR_len r
      have HI : Hid (rawIn r = (rawN (nmL r) && hasPrefix (nmR r) [62])) := Lib.hid rfl
      generalize nmL r = N at *
      generalize nmR r = R at *
      generalize rawN N = a at *
      generalize hasPrefix R [62] = b at *
      cases a with
      | false =>
        have HE : Hid (rawEndL (⟨R.toArray⟩ : ByteArray).data.toList = rawEndL s.data.toList) := Lib.hid (by rw [← HR.out, HX.out, HI.out, mk_list]; rfl)
        clear HX HI HR
        go_wp2_with fail
        (with_reducible refine C1.out.mono ?_)
        rintro e w1 ⟨rfl, n1, rfl⟩
        go_wp2_with fail
        (with_reducible refine (N1.out _).mono ?_)
        rintro e w2 ⟨rfl, k2⟩
        have K2 := Lib.hid ((HK.out.drewN n1).trans k2)
        clear k2
        go_wp2_with fail
        (with_reducible refine (R1.out _).mono ?_)
        rintro e w3 ⟨rfl, rfl⟩
        go_wp2_with fail
        go_roundw
        case rel => exact ⟨⟨R.toArray⟩, rfl, by rw [mk_sz]; omega, HE, K2⟩
        case measure => show (⟨R.toArray⟩ : ByteArray).size < t.size; rw [mk_sz]; omega
      | true =>
        cases b with
        | false =>
          have HE : Hid (rawEndL (⟨R.toArray⟩ : ByteArray).data.toList = rawEndL s.data.toList) := Lib.hid (by rw [← HR.out, HX.out, HI.out, mk_list]; rfl)
          clear HX HI HR
          go_wp2_with fail
          (with_reducible refine C1.out.mono ?_)
          rintro e w1 ⟨rfl, n1, rfl⟩
          go_wp2_with fail
          (with_reducible refine (N1.out _).mono ?_)
          rintro e w2 ⟨rfl, k2⟩
          have K2 := Lib.hid ((HK.out.drewN n1).trans k2)
          clear k2
          go_wp2_with fail
          (with_reducible refine (R1.out _).mono ?_)
          rintro e w3 ⟨rfl, rfl⟩
          go_wp2_with fail
          (with_reducible refine (H1.out _).mono ?_)
          rintro e w4 ⟨rfl, rfl⟩
          go_wp2_with fail
          go_roundw
          case rel => exact ⟨⟨R.toArray⟩, rfl, by rw [mk_sz]; omega, HE, K2⟩
          case measure => show (⟨R.toArray⟩ : ByteArray).size < t.size; rw [mk_sz]; omega
        | true =>
          have HE : Hid (rawEndL s.data.toList = true) := Lib.hid (by rw [← HR.out, HX.out, HI.out]; rfl)
          clear HX HI HR
          go_wp2_with fail
          (with_reducible refine C1.out.mono ?_)
          rintro e w1 ⟨rfl, n1, rfl⟩
          go_wp2_with fail
          (with_reducible refine (N1.out _).mono ?_)
          rintro e w2 ⟨rfl, k2⟩
          have K2 := Lib.hid ((HK.out.drewN n1).trans k2)
          clear k2
          go_wp2_with fail
          (with_reducible refine (R1.out _).mono ?_)
          rintro e w3 ⟨rfl, rfl⟩
          go_wp2_with fail
          (with_reducible refine (H1.out _).mono ?_)
          rintro e w4 ⟨rfl, rfl⟩
          go_wp2_with fail
          go_ret
          exact ⟨ret_bool HE.out.symm, K2.out⟩
set_option maxHeartbeats 2000000 in
set_option maxRecDepth 100000 in
theorem htmlEndM_any (s : ByteArray) (k : Int) (w : World) (hs : s.size ≤ 100000) (hm : Mxl w) :
    Calls Tryz.prog 67 #[.string s, .int .i64 k] w fun e w' => e = .returned (.bool (htmlEndL k s.data.toList)) ∧ Keeps w w' := by
  have ER := Lib.hid (endsRaw_any s w hs hm)
  have C2 := Lib.hid (contains_any s ⟨#[45, 45, 62]⟩ w hs hm)
  have C3 := Lib.hid (contains_any s ⟨#[63, 62]⟩ w hs hm)
  have C4 := Lib.hid (contains_any s ⟨#[62]⟩ w hs hm)
  have C5 := Lib.hid (contains_any s ⟨#[93, 93, 62]⟩ w hs hm)
  rw [show (⟨#[45, 45, 62]⟩ : ByteArray).data.toList = [45, 45, 62] from rfl] at C2
  rw [show (⟨#[63, 62]⟩ : ByteArray).data.toList = [63, 62] from rfl] at C3
  rw [show (⟨#[62]⟩ : ByteArray).data.toList = [62] from rfl] at C4
  rw [show (⟨#[93, 93, 62]⟩ : ByteArray).data.toList = [93, 93, 62] from rfl] at C5
  unfold htmlEndL
  generalize rawEndL s.data.toList = a1 at *
  generalize contains s.data.toList [45, 45, 62] = a2 at *
  generalize contains s.data.toList [63, 62] = a3 at *
  generalize contains s.data.toList [62] = a4 at *
  generalize contains s.data.toList [93, 93, 62] = a5 at *
  clear hm hs
  by_cases k1 : k = 1
  · rw [if_pos k1]
    subst k1
    go_enter Tryz.func67, Tryz.ntmps67
    go_wp2_with fail
    (with_reducible refine ER.out.mono ?_)
    rintro e w1 ⟨rfl, k1⟩
    go_wp2_with fail
    go_ret
    exact ⟨rfl, k1⟩
  · rw [if_neg k1]
    have t1 : (k == 1) = false := beq_eq_false_iff_ne.2 k1
    clear k1
    by_cases k2 : k = 2
    · rw [if_pos k2]
      subst k2
      clear t1
      go_enter Tryz.func67, Tryz.ntmps67
      go_wp2_with fail
      (with_reducible refine C2.out.mono ?_)
      rintro e w1 ⟨rfl, rfl⟩
      go_wp2_with fail
      go_ret
      exact ⟨rfl, Keeps.refl _⟩
    · rw [if_neg k2]
      have t2 : (k == 2) = false := beq_eq_false_iff_ne.2 k2
      clear k2
      by_cases k3 : k = 3
      · rw [if_pos k3]
        subst k3
        clear t1 t2
        go_enter Tryz.func67, Tryz.ntmps67
        go_wp2_with fail
        (with_reducible refine C3.out.mono ?_)
        rintro e w1 ⟨rfl, rfl⟩
        go_wp2_with fail
        go_ret
        exact ⟨rfl, Keeps.refl _⟩
      · rw [if_neg k3]
        have t3 : (k == 3) = false := beq_eq_false_iff_ne.2 k3
        clear k3
        by_cases k4 : k = 4
        · rw [if_pos k4]
          subst k4
          clear t1 t2 t3
          go_enter Tryz.func67, Tryz.ntmps67
          go_wp2_with fail
          (with_reducible refine C4.out.mono ?_)
          rintro e w1 ⟨rfl, rfl⟩
          go_wp2_with fail
          go_ret
          exact ⟨rfl, Keeps.refl _⟩
        · rw [if_neg k4]
          have t4 : (k == 4) = false := beq_eq_false_iff_ne.2 k4
          clear k4
          by_cases k5 : k = 5
          · rw [if_pos k5]
            subst k5
            clear t1 t2 t3 t4
            go_enter Tryz.func67, Tryz.ntmps67
            go_wp2_with fail
            (with_reducible refine C5.out.mono ?_)
            rintro e w1 ⟨rfl, rfl⟩
            go_wp2_with fail
            go_ret
            exact ⟨rfl, Keeps.refl _⟩
          · rw [if_neg k5]
            have t5 : (k == 5) = false := beq_eq_false_iff_ne.2 k5
            clear k5
            go_enter Tryz.func67, Tryz.ntmps67
            go_wp2_with fail
            go_ret
            exact ⟨rfl, Keeps.refl _⟩
end Go.Proofs.YtfgpephpkibbaaaGreatDoor


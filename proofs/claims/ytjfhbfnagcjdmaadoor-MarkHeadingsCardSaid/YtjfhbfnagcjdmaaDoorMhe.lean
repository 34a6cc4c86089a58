/-
  MarkHeadings returns true of any text and number.
-/
import Derived.Test.YtjfhbfnagcjdmaaDoorMun
namespace Go.Proofs.YtjfhbfnagcjdmaaDoor
open Go.RowKit Go.Lib

theorem lastB_snoc (t : List UInt8) (z : UInt8) : lastB (t ++ [z]) = isB z := by
  unfold lastB
  rw [List.getLast?_append]
  rfl
theorem ws_isB {z : UInt8} (h : ws z = false) : isB z = false := by
  unfold ws at h
  rw [Bool.or_eq_false_iff] at h
  exact h.1
/-- A text that begins with no blank, and ends with none, nor with a #. -/
def Fine (l : List UInt8) : Prop := (∃ a t, l = a :: t ∧ ws a = false) ∧ ∃ t z, l = t ++ [z] ∧ ws z = false ∧ z ≠ 35
theorem Fine.core {l : List UInt8} (h : Fine l) : Core l := by
  obtain ⟨h1, t, z, h2, h3, _⟩ := h
  exact .inr ⟨h1, t, z, h2, h3⟩
theorem text_a {l : List UInt8} (h : Fine l) : headTextL (32 :: l) = l := by
  have e1 : trimL (32 :: l) = l := by
    have := trim_of (a := [32]) (m := l) (b := []) (by decide) (fun _ h => by cases h) h.core
    simpa using this
  obtain ⟨_, t, z, e2, w2, hz⟩ := h
  have e3 : trimRightB l 35 = l := by rw [e2]; exact trimRight_snoc hz
  have e4 : lastB l = false := by rw [e2, lastB_snoc]; exact ws_isB w2
  unfold headTextL
  rw [e1, e3, e4]; rfl
theorem text_b {l : List UInt8} (h : Fine l) : headTextL (32 :: 32 :: (l ++ [32, 35, 35, 35, 32, 32])) = l := by
  have hc : Core (l ++ [32, 35, 35, 35]) := by
    obtain ⟨⟨a, t, e, w⟩, _⟩ := h
    exact .inr ⟨⟨a, t ++ [32, 35, 35, 35], by rw [e]; rfl, w⟩, l ++ [32, 35, 35], 35, by simp, by decide⟩
  have e1 : trimL (32 :: 32 :: (l ++ [32, 35, 35, 35, 32, 32])) = l ++ [32, 35, 35, 35] := by
    have := trim_of (a := [32, 32]) (m := l ++ [32, 35, 35, 35]) (b := [32, 32]) (by decide) (by decide) hc
    simpa using this
  have e2 : trimRightB (l ++ [32, 35, 35, 35]) 35 = l ++ [32] := by
    have := trimRight_rep (l ++ [32]) 35 3
    rw [show (l ++ [32]) ++ List.replicate 3 35 = l ++ [32, 35, 35, 35] by simp [List.replicate]] at this
    rw [this]
    exact trimRight_snoc (by decide)
  have e3 : trimL (l ++ [32]) = l := by
    have := trim_of (a := []) (m := l) (b := [32]) (fun _ h => by cases h) (by decide) h.core
    simpa using this
  unfold headTextL
  rw [e1, e2, lastB_snoc, e3]
  rfl
theorem hd_of {K : Nat} {r : List UInt8} (h1 : 1 ≤ K) (h6 : K ≤ 6) (t : UInt8) (ht : isB t = true) (hn : t ≠ 35) : headN (List.replicate K 35 ++ t :: r) = K ∧ headL (List.replicate K 35 ++ t :: r) = headTextL (t :: r) := by
  have hc : cntL 35 (List.replicate K 35 ++ t :: r) = K := by rw [cnt_rep, cnt_other hn]; rfl
  have := head_some2 (l := List.replicate K 35 ++ t :: r) (by omega) (by omega) (by rw [hc, drop_rep]; exact ht)
  rw [hc, drop_rep] at this
  exact this
theorem hd_big {K : Nat} (h6 : 6 < K) (r : List UInt8) : headN (List.replicate K 35 ++ r) = 0 := (head_none2 (.inr (.inl (by rw [cnt_rep]; omega)))).1
theorem hd_c {K : Nat} {l : List UInt8} (h : Fine l) (hn : l.headD 0 ≠ 35) : headN (List.replicate K 35 ++ l) = 0 := by
  obtain ⟨⟨a, t, rfl, w⟩, _⟩ := h
  have hn : a ≠ 35 := hn
  refine (head_none2 (.inr (.inr ?_))).1
  rw [cnt_rep, cnt_other hn, Nat.add_zero, drop_rep]
  exact ws_isB w

theorem ws_or {b : UInt8} : ws b = (decide (b.toNat = 32) || decide (b.toNat = 9) || decide (b.toNat = 10)) := rfl
theorem ws_cases {b : UInt8} (h : ws b = true) : b.toNat = 32 ∨ b.toNat = 9 ∨ b.toNat = 10 := by
  rw [ws_or] at h
  simp only [Bool.or_eq_true, decide_eq_true_eq] at h
  omega
theorem ws_none {b : UInt8} (h : ws b = false) : ¬ b.toNat = 32 ∧ ¬ b.toNat = 9 ∧ ¬ b.toNat = 10 := by
  rw [ws_or] at h
  simp only [Bool.or_eq_false_iff, decide_eq_false_iff_not] at h
  exact ⟨h.1.1, h.1.2, h.2⟩
/-- Blanks at the end away. -/
def endTrim (l : List UInt8) : List UInt8 := (l.reverse.dropWhile ws).reverse
theorem endTrim_snoc (l : List UInt8) (b : UInt8) : endTrim (l ++ [b]) = if ws b then endTrim l else l ++ [b] := by
  unfold endTrim
  rw [List.reverse_append, List.reverse_singleton, List.singleton_append, List.dropWhile_cons]
  split
  · rfl
  · rw [List.reverse_cons, List.reverse_reverse]
theorem last_split (s : ByteArray) (h : 0 < s.size) : s.data.toList = (s.extract 0 (s.size - 1)).data.toList ++ [s[s.size - 1]'(by omega)] := by
  rw [ext_take]
  have := takeB_get s (s.size - 1) (by omega)
  rw [show s.size - 1 + 1 = s.size by omega, List.take_of_length_le (by rw [bytes_len]; omega)] at this
  exact this
theorem first_split (s : ByteArray) (h : 0 < s.size) : s.data.toList = s[0] :: (s.extract 1 s.size).data.toList := by
  rw [Lib.extract_to_end]
  have := drop_cons s.data.toList 0 (by rw [bytes_len]; exact h)
  rw [List.drop_zero] at this
  exact this
theorem empty_of {t : ByteArray} (h : ¬ 0 < t.size) : t = ⟨#[]⟩ := bytes_eq (by rw [List.eq_nil_of_length_eq_zero (show t.data.toList.length = 0 by rw [bytes_len]; omega)])
set_option maxHeartbeats 4000000 in
set_option maxRecDepth 100000 in
theorem trimmed_any (s : ByteArray) (w : World) (hs : s.size ≤ 200) :
    Calls Tryd.prog 8 #[.string s] w fun e w' => e = .returned (.string ⟨(trimL s.data.toList).toArray⟩) ∧ w = w' := by
  go_enter Tryd.func8, Tryd.ntmps8
  go_wp2_with fail
  go_loop [0] (fun v => ∃ t : ByteArray, v = .string t ∧ t.size ≤ s.size ∧ Hid (t.data.toList.dropWhile ws = s.data.toList.dropWhile ws)) (fun v => szOf v)
  case atStart => exact ⟨s, rfl, Nat.le_refl _, Lib.hid rfl⟩
  case round =>
    obtain ⟨t, rfl, ht, HT⟩ := hrel
    by_cases hgo : ∃ h : 0 < t.size, ws t[0] = true
    · obtain ⟨h, hw⟩ := hgo
      have hi := tl_empty h
      have hn := tl_ne h
      have HN : Hid ((t.extract 1 t.size).data.toList.dropWhile ws = s.data.toList.dropWhile ws) := Lib.hid (by
        rw [← HT.out, first_split t h, List.dropWhile_cons, if_pos hw])
      have hsz : (t.extract 1 t.size).size = t.size - 1 := by rw [ByteArray.size_extract]; omega
      rcases ws_cases hw with c | c | c
      · have t1 : ((t[0].toNat : Int) == 32) = true := by rw [c]; rfl
        clear c hw
        go_wp2_with fail
        go_round
        case rel => exact ⟨t.extract 1 t.size, rfl, by omega, HN⟩
        case measure => show (t.extract 1 t.size).size < t.size; omega
      · have t1 : ((t[0].toNat : Int) == 32) = false := by rw [c]; rfl
        have t2 : ((t[0].toNat : Int) == 9) = true := by rw [c]; rfl
        clear c hw
        go_wp2_with fail
        go_round
        case rel => exact ⟨t.extract 1 t.size, rfl, by omega, HN⟩
        case measure => show (t.extract 1 t.size).size < t.size; omega
      · have t1 : ((t[0].toNat : Int) == 32) = false := by rw [c]; rfl
        have t2 : ((t[0].toNat : Int) == 9) = false := by rw [c]; rfl
        have t3 : ((t[0].toNat : Int) == 10) = true := by rw [c]; rfl
        clear c hw
        go_wp2_with fail
        go_round
        case rel => exact ⟨t.extract 1 t.size, rfl, by omega, HN⟩
        case measure => show (t.extract 1 t.size).size < t.size; omega
    · have HE : Hid (endTrim t.data.toList = trimL s.data.toList) := Lib.hid (by
        unfold trimL endTrim
        rw [← HT.out]
        by_cases h : 0 < t.size
        · have hw : ws t[0] = false := by
            cases hw : ws t[0] with
            | false => rfl
            | true => exact absurd ⟨h, hw⟩ hgo
          rw [first_split t h, List.dropWhile_cons, hw]
          simp
        · rw [empty_of h]; rfl)
      clear HT
      have hway : (∃ h : 0 < t.size, ws t[0] = false) ∨ t = ⟨#[]⟩ := by
        by_cases h : 0 < t.size
        · refine .inl ⟨h, ?_⟩
          cases hw : ws t[0] with
          | false => rfl
          | true => exact absurd ⟨h, hw⟩ hgo
        · exact .inr (empty_of h)
      clear hgo
      rcases hway with ⟨h, hw⟩ | h
      · obtain ⟨c1, c2, c3⟩ := ws_none hw
        have hi := tl_empty h
        have hn := tl_ne h
        have t1 : ((t[0].toNat : Int) == 32) = false := beq_eq_false_iff_ne.2 (by omega)
        have t2 : ((t[0].toNat : Int) == 9) = false := beq_eq_false_iff_ne.2 (by omega)
        have t3 : ((t[0].toNat : Int) == 10) = false := beq_eq_false_iff_ne.2 (by omega)
        clear hw c1 c2 c3
        go_wp2_with fail
        clear hi hn t1 t2 t3
        go_loop [0] (fun v => ∃ t : ByteArray, v = .string t ∧ t.size ≤ s.size ∧ Hid (endTrim t.data.toList = trimL s.data.toList)) (fun v => szOf v)
        case atStart => exact ⟨t, rfl, ht, HE⟩
        case round =>
          clear HE ht
          obtain ⟨t, rfl, ht, HE⟩ := hrel
          by_cases hgo : ∃ h : 0 < t.size, ws (t[t.size - 1]'(by omega)) = true
          · obtain ⟨h, hw⟩ := hgo
            have hi := tl_empty h
            have hn := tl_ne h
            have q1 : ((t.size : Int) - 1).toNat = t.size - 1 := by omega
            have q2 : 0 ≤ (t.size : Int) - 1 := by omega
            have q3 : (t.size : Int) - 1 < t.size := by omega
            have q4 : t.size - 1 < t.size := by omega
            have HN : Hid (endTrim (t.extract 0 (t.size - 1)).data.toList = trimL s.data.toList) := Lib.hid (by
              rw [← HE.out, last_split t h, endTrim_snoc, if_pos hw])
            have hsz : (t.extract 0 (t.size - 1)).size = t.size - 1 := by rw [ByteArray.size_extract]; omega
            rcases ws_cases hw with c | c | c
            · have t1 : (((t[t.size - 1]'(by omega)).toNat : Int) == 32) = true := by rw [c]; rfl
              clear c hw
              go_wp2_with fail
              go_round
              case rel => exact ⟨t.extract 0 (t.size - 1), rfl, by omega, HN⟩
              case measure => show (t.extract 0 (t.size - 1)).size < t.size; omega
            · have t1 : (((t[t.size - 1]'(by omega)).toNat : Int) == 32) = false := by rw [c]; rfl
              have t2 : (((t[t.size - 1]'(by omega)).toNat : Int) == 9) = true := by rw [c]; rfl
              clear c hw
              go_wp2_with fail
              go_round
              case rel => exact ⟨t.extract 0 (t.size - 1), rfl, by omega, HN⟩
              case measure => show (t.extract 0 (t.size - 1)).size < t.size; omega
            · have t1 : (((t[t.size - 1]'(by omega)).toNat : Int) == 32) = false := by rw [c]; rfl
              have t2 : (((t[t.size - 1]'(by omega)).toNat : Int) == 9) = false := by rw [c]; rfl
              have t3 : (((t[t.size - 1]'(by omega)).toNat : Int) == 10) = true := by rw [c]; rfl
              clear c hw
              go_wp2_with fail
              go_round
              case rel => exact ⟨t.extract 0 (t.size - 1), rfl, by omega, HN⟩
              case measure => show (t.extract 0 (t.size - 1)).size < t.size; omega
          · by_cases h : 0 < t.size
            · have hw : ws (t[t.size - 1]'(by omega)) = false := by
                cases hw : ws (t[t.size - 1]'(by omega)) with
                | false => rfl
                | true => exact absurd ⟨h, hw⟩ hgo
              have HX : Hid ((⟨(trimL s.data.toList).toArray⟩ : ByteArray) = t) := Lib.hid (by
                rw [← HE.out, last_split t h, endTrim_snoc, if_neg (by rw [hw]; simp), ← last_split t h, bytes_mk])
              obtain ⟨c1, c2, c3⟩ := ws_none hw
              have hi := tl_empty h
              have hn := tl_ne h
              have q1 : ((t.size : Int) - 1).toNat = t.size - 1 := by omega
              have q2 : 0 ≤ (t.size : Int) - 1 := by omega
              have q3 : (t.size : Int) - 1 < t.size := by omega
              have q4 : t.size - 1 < t.size := by omega
              have t1 : (((t[t.size - 1]'(by omega)).toNat : Int) == 32) = false := beq_eq_false_iff_ne.2 (by omega)
              have t2 : (((t[t.size - 1]'(by omega)).toNat : Int) == 9) = false := beq_eq_false_iff_ne.2 (by omega)
              have t3 : (((t[t.size - 1]'(by omega)).toNat : Int) == 10) = false := beq_eq_false_iff_ne.2 (by omega)
              clear hw c1 c2 c3 hgo
              go_wp2_with fail
              go_ret
              exact ⟨ret_bytes HX.out.symm, rfl⟩
            · have he := empty_of h
              subst he
              have HX : Hid ((⟨(trimL s.data.toList).toArray⟩ : ByteArray) = ⟨#[]⟩) := Lib.hid (by rw [← HE.out]; rfl)
              clear h hgo
              go_wp2_with fail
              go_ret
              exact ⟨ret_bytes HX.out.symm, rfl⟩
      · subst h
        have HX : Hid ((⟨(trimL s.data.toList).toArray⟩ : ByteArray) = ⟨#[]⟩) := Lib.hid (by rw [← HE.out]; rfl)
        go_wp2_with fail
        go_loop [0] (fun v => v = .string ⟨#[]⟩) (fun _ => 0)
        case atStart => rfl
        case round =>
          obtain rfl := hrel
          go_wp2_with fail
          go_ret
          exact ⟨ret_bytes HX.out.symm, rfl⟩
end Go.Proofs.YtjfhbfnagcjdmaaDoor

/-
  Contract of host, of the document's answer of layer 11, for texts of at most 100,000 bytes. (Written by wip/tools/rawref4.py.)
-/
import Derived.Test.YtggeknhggpdpkaaGreatDoorRxa
import Derived.Test.YtggeknhggpdpkaaGreatDoorRwy
namespace Go.Proofs.YtggeknhggpdpkaaGreatDoor
open Go.RowKit Go.Lib

/-- The bytes since the last point. -/
def curL (L : List UInt8) (n i : Nat) : List UInt8 := (L.take i).drop (i - n)
theorem cur_len {L : List UInt8} {n i : Nat} (h : n ≤ i) (hi : i ≤ L.length) : (curL L n i).length = n := by
  unfold curL
  rw [List.length_drop, List.length_take]
  omega
theorem cur_nil (L : List UInt8) (i : Nat) : curL L 0 i = [] := by
  unfold curL
  exact List.drop_eq_nil_of_le (by rw [List.length_take]; omega)
theorem cur_next {L : List UInt8} {n i : Nat} (h : n ≤ i) (hi : i < L.length) : curL L (n + 1) (i + 1) = curL L n i ++ [L[i]] := by
  unfold curL
  rw [List.take_succ_eq_append_getElem hi, show i + 1 - (n + 1) = i - n by omega, List.drop_append_of_le_length (by rw [List.length_take]; omega)]
theorem cur_get {L : List UInt8} {n i j : Nat} (hj : j < n) (h : n ≤ i) (_hi : i ≤ L.length) : (curL L n i)[j]? = L[i - n + j]? := by
  unfold curL
  rw [List.getElem?_drop, List.getElem?_take_of_lt (by omega)]
/-- Where host's loop stands. -/
def HstAt (L : List UInt8) (n i : Nat) : Prop := n ≤ i ∧ (i ≤ L.length → (∀ b ∈ curL L n i, rNam b = true) ∧ (prtL L).all hstB = hsG (curL L n i) (L.drop i)) ∧ (i = L.length + 1 → (prtL L).all hstB = true)
theorem hst_start (L : List UInt8) : HstAt L 0 0 := ⟨Nat.le_refl _, fun _ => ⟨fun b hb => (by rw [cur_nil] at hb; cases hb), by rw [cur_nil, List.drop_zero, prt_hs]⟩, fun h => absurd h (by omega)⟩
theorem hst_end {L : List UInt8} {n i : Nat} (h : HstAt L n i) (hi : i = L.length) : (prtL L).all hstB = hstB (curL L n i) := by
  rw [(h.2.1 (by omega)).2, List.drop_eq_nil_of_le (by omega)]
  rfl
theorem hst_point {L : List UInt8} {n i : Nat} (h : HstAt L n i) (hi : i < L.length) (c : L[i].toNat = 46) : (prtL L).all hstB = (hstB (curL L n i) && hsG [] (L.drop (i + 1))) := by
  rw [(h.2.1 (by omega)).2, List.drop_eq_getElem_cons hi, hsG, if_pos c]
theorem hst_nam {L : List UInt8} {n i : Nat} (h : HstAt L n i) (hi : i < L.length) (c : ¬ L[i].toNat = 46) (d : rNam L[i] = true) : HstAt L (n + 1) (i + 1) := by
  refine ⟨by have := h.1; omega, fun _ => ⟨fun b hb => ?_, ?_⟩, fun e => by omega⟩
  · rw [cur_next h.1 hi] at hb
    rcases List.mem_append.1 hb with hb | hb
    · exact (h.2.1 (by omega)).1 b hb
    · rw [List.mem_singleton.1 hb]; exact d
  · rw [cur_next h.1 hi, (h.2.1 (by omega)).2, List.drop_eq_getElem_cons hi, hsG, if_neg c, if_pos d]
theorem hst_bad_sign {L : List UInt8} {n i : Nat} (h : HstAt L n i) (hi : i < L.length) (c : ¬ L[i].toNat = 46) (d : rNam L[i] = false) : (prtL L).all hstB = false := by
  rw [(h.2.1 (by omega)).2, List.drop_eq_getElem_cons hi, hsG, if_neg c, if_neg (by rw [d]; decide)]
/-- A part is over, and may be. -/
theorem hst_next {L : List UInt8} {n i : Nat} (h : HstAt L n i) (_hi : i ≤ L.length) (hp : i = L.length ∨ ∃ g : i < L.length, L[i].toNat = 46) (ok : hstB (curL L n i) = true) : HstAt L 0 (i + 1) := by
  refine ⟨by omega, fun hl => ⟨fun b hb => (by rw [cur_nil] at hb; cases hb), ?_⟩, fun e => ?_⟩
  · rcases hp with e | ⟨g, c⟩
    · omega
    · rw [hst_point h g c, ok, cur_nil]
      rfl
  · rw [hst_end h (by omega)]
    exact ok
theorem hst_over {L : List UInt8} {n i : Nat} (h : HstAt L n i) (_hi : i ≤ L.length) (hp : i = L.length ∨ ∃ g : i < L.length, L[i].toNat = 46) (no : hstB (curL L n i) = false) : (prtL L).all hstB = false := by
  rcases hp with e | ⟨g, c⟩
  · rw [hst_end h e]; exact no
  · rw [hst_point h g c, no]; rfl
theorem hstB_none (L : List UInt8) (i : Nat) : hstB (curL L 0 i) = false := by rw [cur_nil]; rfl
theorem hstB_long {L : List UInt8} {n i : Nat} (h : n ≤ i) (hi : i ≤ L.length) (hn : 63 < n) : hstB (curL L n i) = false := by
  unfold hstB
  rw [cur_len h hi, decide_eq_false (show ¬ n ≤ 63 by omega)]
  simp
theorem suf_last {l : List UInt8} {c : UInt8} (h : 0 < l.length) : hasSuffix l [c] = true ↔ l[l.length - 1]? = some c := by
  have e : hasSuffix l [c] = true ↔ [c] <:+ l := List.isSuffixOf_iff_suffix
  rw [e]
  constructor
  · rintro ⟨t, rfl⟩
    rw [List.length_append, List.getElem?_append_right (by simp), show t.length + ([c] : List UInt8).length - 1 - t.length = 0 by simp]
    rfl
  · intro hc
    have h1 : l.length - 1 < l.length := by omega
    rw [List.getElem?_eq_getElem h1] at hc
    refine ⟨l.take (l.length - 1), ?_⟩
    have := List.take_append_drop (l.length - 1) l
    rw [List.drop_eq_getElem_cons h1, Option.some.inj hc, List.drop_eq_nil_of_le (by omega)] at this
    exact this
theorem pre_head {l : List UInt8} {c : UInt8} : hasPrefix l [c] = true ↔ l[0]? = some c := by
  cases l with
  | nil => exact ⟨fun h => (by cases h), fun h => (by cases h)⟩
  | cons b l =>
    have e : hasPrefix (b :: l) [c] = (c == b && List.isPrefixOf [] l) := rfl
    rw [e, show List.isPrefixOf [] l = true from by cases l <;> rfl, Bool.and_true, beq_iff_eq]
    exact ⟨fun h => by rw [h]; rfl, fun h => (Option.some.inj h).symm⟩
theorem hstB_last {L : List UInt8} {n i : Nat} (h : n ≤ i) (hi : i ≤ L.length) (h0 : 0 < n) (c : L[i - 1]? = some 45) : hstB (curL L n i) = false := by
  have e : hasSuffix (curL L n i) [45] = true := (suf_last (by rw [cur_len h hi]; exact h0)).2 (by
    rw [cur_len h hi, cur_get (by omega) h hi, show i - n + (n - 1) = i - 1 by omega]
    exact c)
  unfold hstB
  rw [e]
  simp
theorem hstB_first {L : List UInt8} {n i : Nat} (h : n ≤ i) (hi : i ≤ L.length) (h0 : 0 < n) (c : L[i - n]? = some 45) : hstB (curL L n i) = false := by
  have e : hasPrefix (curL L n i) [45] = true := pre_head.2 (by
    rw [cur_get h0 h hi, Nat.add_zero]
    exact c)
  unfold hstB
  rw [e]
  simp
theorem hstB_ok {L : List UInt8} {n i : Nat} (a : ∀ b ∈ curL L n i, rNam b = true) (h : n ≤ i) (hi : i ≤ L.length) (h0 : 0 < n) (h1 : n ≤ 63) (c : ¬ L[i - 1]? = some 45) (d : ¬ L[i - n]? = some 45) : hstB (curL L n i) = true := by
  have e1 : hasSuffix (curL L n i) [45] = false := by
    cases e : hasSuffix (curL L n i) [45] with
    | false => rfl
    | true =>
      have := (suf_last (by rw [cur_len h hi]; exact h0)).1 e
      rw [cur_len h hi, cur_get (by omega) h hi, show i - n + (n - 1) = i - 1 by omega] at this
      exact absurd this c
  have e2 : hasPrefix (curL L n i) [45] = false := by
    cases e : hasPrefix (curL L n i) [45] with
    | false => rfl
    | true =>
      have := pre_head.1 e
      rw [cur_get h0 h hi, Nat.add_zero] at this
      exact absurd this d
  have e3 : (curL L n i).isEmpty = false := by
    cases e : curL L n i with
    | nil =>
      have := cur_len h hi
      rw [e] at this
      simp at this
      omega
    | cons b l => rfl
  have e4 : cntP rNam (curL L n i) = (curL L n i).length := by
    have := cntP_app (p := rNam) (a := curL L n i) [] a
    rwa [List.append_nil, show cntP rNam [] = 0 from rfl, Nat.add_zero] at this
  unfold hstB
  rw [e1, e2, e3, e4, cur_len h hi, decide_eq_true h1, decide_eq_true rfl]
  rfl
theorem get_byte {s : ByteArray} {k : Nat} (h : k < s.size) : s.data.toList[k]? = some s[k] := by
  rw [List.getElem?_eq_getElem (by rw [bytes_len]; exact h)]
  rfl
theorem some_byte {s : ByteArray} {k : Nat} (h : k < s.size) (c : s[k].toNat = 45) : s.data.toList[k]? = some 45 := by rw [get_byte h, show s[k] = 45 from UInt8.toNat_inj.1 c]
theorem some_not {s : ByteArray} {k : Nat} (h : k < s.size) (c : ¬ s[k].toNat = 45) : ¬ s.data.toList[k]? = some 45 := by
  rw [get_byte h]
  exact fun e => c (by rw [Option.some.inj e]; rfl)

set_option maxRecDepth 100000 in
set_option maxHeartbeats 4000000 in
theorem dhost_any (s : ByteArray) (w : World) (hs : s.size ≤ 100000) :
    Calls Tryz.prog 49 #[.string s] w fun e w' => e = .returned (.bool ((prtL s.data.toList).all hstB)) ∧ w = w' := by
  have hl := Lib.hid (bytes_len s)
  have LT := Lib.hid (fun b W => dletter_any b W)
  have DG := Lib.hid (fun b W => ddigit_any b W)
  go_enter Tryz.func49, Tryz.ntmps49
  go_wp2_with fail
  go_loop [3, 4] (fun a v => ∃ n i : Nat, n ≤ i ∧ i ≤ s.size + 1 ∧ a = .int .i64 n ∧ v = .int .i64 i ∧ Hid (HstAt s.data.toList n i)) (fun _ v => s.size + 2 - (RowKit.intOf v).toNat)
  case atStart => exact ⟨0, 0, Nat.le_refl _, by omega, rfl, rfl, Lib.hid (hst_start _)⟩
  case round =>
    obtain ⟨n, i, hni, hi, rfl, rfl, HC⟩ := hrel
    by_cases h : i ≤ s.size
    · have q0 : decide (i ≤ s.size) = true := decide_eq_true h
      have hL : i ≤ s.data.toList.length := by rw [hl.out]; exact h
      by_cases e : i = s.size
      · have q1 := beqT (show (i : Int) = (s.size : Int) by omega)
        have HP : Hid (i = s.data.toList.length ∨ ∃ g : i < s.data.toList.length, s.data.toList[i].toNat = 46) := Lib.hid (.inl (by rw [hl.out]; exact e))
        clear e
        by_cases n0 : n = 0
        · have p0 := beqT (show (n : Int) = 0 by omega)
          have HN := Lib.hid (hst_over HC.out hL HP.out (by rw [n0]; exact hstB_none _ _))
          clear HC HP hL 
          go_wp2_with fail
          go_ret
          exact ⟨ret_bool (by rw [HN.out]), rfl⟩
        · have p0 := beqF (show ¬ (n : Int) = 0 by omega)
          by_cases n1 : 63 < n
          · have p1 : decide ((63 : Int) < (n : Int)) = true := decide_eq_true (by omega)
            have HN := Lib.hid (hst_over HC.out hL HP.out (hstB_long hni hL n1))
            clear HC HP hL 
            go_wp2_with fail
            go_ret
            exact ⟨ret_bool (by rw [HN.out]), rfl⟩
          · have p1 : decide ((63 : Int) < (n : Int)) = false := decide_eq_false (by omega)
            obtain ⟨u, hu⟩ : ∃ u, i - 1 = u := ⟨_, rfl⟩
            have hu1 : (i : Int) - 1 = (u : Int) := by omega
            have hu2 : u < s.size := by omega
            obtain ⟨v, hv⟩ : ∃ v, i - n = v := ⟨_, rfl⟩
            have hv1 : (i : Int) - (n : Int) = (v : Int) := by omega
            have hv2 : v < s.size := by omega
            have hbu := s[u].toNat_lt
            have hbv := s[v].toNat_lt
            by_cases n2 : s[u].toNat = 45
            · have p2 := beqT (show (s[u].toNat : Int) = 45 by omega)
              have HN := Lib.hid (hst_over HC.out hL HP.out (hstB_last hni hL (by omega) (by rw [hu]; exact some_byte hu2 n2)))
              clear HC HP hL hu hv n2
              go_wp2_with fail
              go_ret
              exact ⟨ret_bool (by rw [HN.out]), rfl⟩
            · have p2 := beqF (show ¬ (s[u].toNat : Int) = 45 by omega)
              by_cases n3 : s[v].toNat = 45
              · have p3 := beqT (show (s[v].toNat : Int) = 45 by omega)
                have HN := Lib.hid (hst_over HC.out hL HP.out (hstB_first hni hL (by omega) (by rw [hv]; exact some_byte hv2 n3)))
                clear HC HP hL hu hv n2 n3
                go_wp2_with fail
                go_ret
                exact ⟨ret_bool (by rw [HN.out]), rfl⟩
              · have p3 := beqF (show ¬ (s[v].toNat : Int) = 45 by omega)
                have HN := Lib.hid (hst_next HC.out hL HP.out (hstB_ok (HC.out.2.1 hL).1 hni hL (by omega) (by omega) (by rw [hu]; exact some_not hu2 n2) (by rw [hv]; exact some_not hv2 n3)))
                clear HC HP hL hu hv n2 n3 
                go_wp2_with fail
                go_round
                case rel => exact ⟨0, i + 1, by omega, by omega, rfl, by go_num, HN⟩
                case measure => simp [RowKit.intOf]; omega
      · have q1 := beqF (show ¬ (i : Int) = (s.size : Int) by omega)
        have g : i < s.size := by omega
        have gL : i < s.data.toList.length := by rw [hl.out]; exact g
        have hb := s[i].toNat_lt
        have eL : s.data.toList[i] = s[i] := rfl
        by_cases c : s[i].toNat = 46
        · have q2 := beqT (show (s[i].toNat : Int) = 46 by omega)
          have HP : Hid (i = s.data.toList.length ∨ ∃ g : i < s.data.toList.length, s.data.toList[i].toNat = 46) := Lib.hid (.inr ⟨gL, c⟩)
          by_cases n0 : n = 0
          · have p0 := beqT (show (n : Int) = 0 by omega)
            have HN := Lib.hid (hst_over HC.out hL HP.out (by rw [n0]; exact hstB_none _ _))
            clear HC HP hL c eL
            go_wp2_with fail
            go_ret
            exact ⟨ret_bool (by rw [HN.out]), rfl⟩
          · have p0 := beqF (show ¬ (n : Int) = 0 by omega)
            by_cases n1 : 63 < n
            · have p1 : decide ((63 : Int) < (n : Int)) = true := decide_eq_true (by omega)
              have HN := Lib.hid (hst_over HC.out hL HP.out (hstB_long hni hL n1))
              clear HC HP hL c eL
              go_wp2_with fail
              go_ret
              exact ⟨ret_bool (by rw [HN.out]), rfl⟩
            · have p1 : decide ((63 : Int) < (n : Int)) = false := decide_eq_false (by omega)
              obtain ⟨u, hu⟩ : ∃ u, i - 1 = u := ⟨_, rfl⟩
              have hu1 : (i : Int) - 1 = (u : Int) := by omega
              have hu2 : u < s.size := by omega
              obtain ⟨v, hv⟩ : ∃ v, i - n = v := ⟨_, rfl⟩
              have hv1 : (i : Int) - (n : Int) = (v : Int) := by omega
              have hv2 : v < s.size := by omega
              have hbu := s[u].toNat_lt
              have hbv := s[v].toNat_lt
              by_cases n2 : s[u].toNat = 45
              · have p2 := beqT (show (s[u].toNat : Int) = 45 by omega)
                have HN := Lib.hid (hst_over HC.out hL HP.out (hstB_last hni hL (by omega) (by rw [hu]; exact some_byte hu2 n2)))
                clear HC HP hL c eL hu hv n2
                go_wp2_with fail
                go_ret
                exact ⟨ret_bool (by rw [HN.out]), rfl⟩
              · have p2 := beqF (show ¬ (s[u].toNat : Int) = 45 by omega)
                by_cases n3 : s[v].toNat = 45
                · have p3 := beqT (show (s[v].toNat : Int) = 45 by omega)
                  have HN := Lib.hid (hst_over HC.out hL HP.out (hstB_first hni hL (by omega) (by rw [hv]; exact some_byte hv2 n3)))
                  clear HC HP hL c eL hu hv n2 n3
                  go_wp2_with fail
                  go_ret
                  exact ⟨ret_bool (by rw [HN.out]), rfl⟩
                · have p3 := beqF (show ¬ (s[v].toNat : Int) = 45 by omega)
                  have HN := Lib.hid (hst_next HC.out hL HP.out (hstB_ok (HC.out.2.1 hL).1 hni hL (by omega) (by omega) (by rw [hu]; exact some_not hu2 n2) (by rw [hv]; exact some_not hv2 n3)))
                  clear HC HP hL hu hv n2 n3 c eL
                  go_wp2_with fail
                  go_round
                  case rel => exact ⟨0, i + 1, by omega, by omega, rfl, by go_num, HN⟩
                  case measure => simp [RowKit.intOf]; omega
        · have q2 := beqF (show ¬ (s[i].toNat : Int) = 46 by omega)
          have L1 := Lib.hid (fun W => LT.out s[i] W)
          have D1 := Lib.hid (fun W => DG.out s[i] W)
          cases c0 : rLet s[i] with
          | true =>
            rw [c0] at L1
            have HN := Lib.hid (hst_nam HC.out gL c (by show rNam s[i] = true; simp [rNam, c0]))
            clear HC hL c eL c0
            go_wp2_with fail
            refine (L1.out _).mono ?_
            rintro e w9 ⟨rfl, rfl⟩
            go_wp2_with fail
            go_round
            case rel => exact ⟨n + 1, i + 1, by omega, by omega, by go_num, by go_num, HN⟩
            case measure => simp [RowKit.intOf]; omega
          | false =>
            rw [c0] at L1
            cases c1 : rDig s[i] with
            | true =>
              rw [c1] at D1
              have HN := Lib.hid (hst_nam HC.out gL c (by show rNam s[i] = true; simp [rNam, c1]))
              clear HC hL c eL c0 c1
              go_wp2_with fail
              refine (L1.out _).mono ?_
              rintro e w9 ⟨rfl, rfl⟩
              go_wp2_with fail
              refine (D1.out _).mono ?_
              rintro e w9 ⟨rfl, rfl⟩
              go_wp2_with fail
              go_round
              case rel => exact ⟨n + 1, i + 1, by omega, by omega, by go_num, by go_num, HN⟩
              case measure => simp [RowKit.intOf]; omega
            | false =>
              rw [c1] at D1
              by_cases c2 : s[i].toNat = 45
              · have q3 := bneF (show (s[i].toNat : Int) = 45 by omega)
                have HN := Lib.hid (hst_nam HC.out gL c (by show rNam s[i] = true; simp [rNam, c2]))
                clear HC hL c eL c0 c1 c2
                go_wp2_with fail
                refine (L1.out _).mono ?_
                rintro e w9 ⟨rfl, rfl⟩
                go_wp2_with fail
                refine (D1.out _).mono ?_
                rintro e w9 ⟨rfl, rfl⟩
                go_wp2_with fail
                go_round
                case rel => exact ⟨n + 1, i + 1, by omega, by omega, by go_num, by go_num, HN⟩
                case measure => simp [RowKit.intOf]; omega
              · have q3 := bneT (show ¬ (s[i].toNat : Int) = 45 by omega)
                have HN := Lib.hid (hst_bad_sign HC.out gL c (by show rNam s[i] = false; simp [rNam, c0, c1, c2]))
                clear HC hL c eL c0 c1 c2
                go_wp2_with fail
                refine (L1.out _).mono ?_
                rintro e w9 ⟨rfl, rfl⟩
                go_wp2_with fail
                refine (D1.out _).mono ?_
                rintro e w9 ⟨rfl, rfl⟩
                go_wp2_with fail
                go_ret
                exact ⟨ret_bool (by rw [HN.out]), rfl⟩
    · have q0 : decide (i ≤ s.size) = false := decide_eq_false h
      have HN := Lib.hid (HC.out.2.2 (by rw [hl.out]; omega))
      clear HC
      go_wp2_with fail
      go_ret
      exact ⟨ret_bool (by rw [HN.out]), rfl⟩
end Go.Proofs.YtggeknhggpdpkaaGreatDoor

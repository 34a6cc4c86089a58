/-
  The document's Parse reads what Parse's promise says, of every text of 1000 bytes at most.
-/
import Derived.Test.YtfpfjaedoafnpaaDoorFixf
import Derived.Test.YtfpfjaedoafnpaaDoorRefm
import Derived.Deep.DeepCutAuto
import Derived.Deep.CutBlock
namespace Go.Proofs.YtfpfjaedoafnpaaDoor
open Go.RowKit Go.Shelf Go.Lib

theorem drop_get (s : ByteArray) (a k : Nat) (h : k < (s.data.toList.drop a).length) (h' : a + k < s.size) : (s.data.toList.drop a)[k] = s[a + k] := by
  rw [List.getElem_drop]; rfl
theorem drop_len (s : ByteArray) (a : Nat) : (s.data.toList.drop a).length = s.size - a := by rw [List.length_drop]; simp
theorem pre_byte (s : ByteArray) (h : 0 < s.size) (c : UInt8) : Lib.hasPrefix s.data.toList [c] = (c == s[0]) := by
  have hl : s.data.toList.length = s.size := by simp
  have e : s.data.toList = s[0] :: s.data.toList.drop 1 := by
    conv => lhs; rw [← List.drop_zero (l := s.data.toList)]
    rw [List.drop_eq_getElem_cons (by omega)]
    rfl
  rw [e, pre_cons]
theorem pre_none (s : ByteArray) (h : ¬ 0 < s.size) (c : UInt8) : Lib.hasPrefix s.data.toList [c] = false := by
  have hl : s.data.toList = [] := List.length_eq_zero_iff.1 (by simpa using (show s.size = 0 by omega))
  rw [hl]; rfl

theorem decs_short (s : ByteArray) (p : Nat) (h : ¬ p + 1 < s.size) : decs (s.data.toList.drop p) = [] := by
  have := decs_len (s.data.toList.drop p)
  rw [drop_len] at this
  exact List.length_eq_zero_iff.1 (by omega)
theorem drop_cons (s : ByteArray) (p : Nat) (h : p < s.size) : s.data.toList.drop p = s[p] :: s.data.toList.drop (p + 1) := by
  have hl : s.data.toList.length = s.size := by simp
  rw [List.drop_eq_getElem_cons (by omega)]
  rfl
theorem decs_other (s : ByteArray) (p : Nat) (h : p < s.size) (hb : ¬ s[p].toNat = 46) : decs (s.data.toList.drop p) = [] := by
  unfold decs
  rw [drop_cons s p h, pre_cons, if_neg]
  intro k
  exact hb (by rw [← beq_iff_eq.1 k]; rfl)
theorem decs_point (s : ByteArray) (p : Nat) (h : p < s.size) (hb : s[p].toNat = 46) : decs (s.data.toList.drop p) = digs (s.data.toList.drop (p + 1)) 3 := by
  have e : s[p] = 46 := UInt8.toNat_inj.1 hb
  unfold decs
  rw [drop_cons s p h, pre_cons, if_pos (by rw [e]; rfl)]
  rfl
theorem digs_none (s : ByteArray) (q : Nat) (h : q < s.size) (hb : isD s[q] = false) : digs (s.data.toList.drop q) 3 = [] := by
  unfold digs
  rw [drop_cons s q h, List.take_succ_cons, List.takeWhile_cons, hb]; rfl
theorem digs_some (s : ByteArray) (q : Nat) (h : q < s.size) (hb : isD s[q] = true) : digs (s.data.toList.drop q) 3 ≠ [] := by
  unfold digs
  rw [drop_cons s q h, List.take_succ_cons, List.takeWhile_cons, hb]
  simp
/-- Is there a rest: the test ahead of the second loop. -/
def hasRest (s : ByteArray) (p : Nat) : Bool := !(decs (s.data.toList.drop p)).isEmpty
theorem hasRest_no {s : ByteArray} {p : Nat} (h : decs (s.data.toList.drop p) = []) : hasRest s p = false := by unfold hasRest; rw [h]; rfl
theorem hasRest_yes {s : ByteArray} {p : Nat} (h : decs (s.data.toList.drop p) ≠ []) : hasRest s p = true := by unfold hasRest; simpa using h
theorem hasRest_of {s : ByteArray} {p : Nat} (h : hasRest s p = true) : decs (s.data.toList.drop p) ≠ [] ∧ decs (s.data.toList.drop p) = digs (s.data.toList.drop (p + 1)) 3 ∧ p + 1 < s.size := by
  have h1 : decs (s.data.toList.drop p) ≠ [] := by unfold hasRest at h; simpa using h
  have h2 : p + 1 < s.size := by
    rcases Nat.lt_or_ge (p + 1) s.size with k | k
    · exact k
    · exact absurd (decs_short s p (by omega)) h1
  have h3 : s[p].toNat = 46 := by
    by_cases k : s[p].toNat = 46
    · exact k
    · exact absurd (decs_other s p (by omega) k) h1
  exact ⟨h1, decs_point s p (by omega) h3, h2⟩
theorem hasRest_not {s : ByteArray} {p : Nat} (h : hasRest s p = false) : decs (s.data.toList.drop p) = [] := by unfold hasRest at h; simpa using h

/-- What Parse answers once its digits are known. -/
theorem ends_with (s : ByteArray) (neg : Bool) (st k : Nat) (v : Int) (hn : Lib.hasPrefix s.data.toList [45] = neg) (hs : sgn s.data.toList = st)
    (hk : (digs (s.data.toList.drop st) 15).length = k) (hk0 : k ≠ 0) (hv : v = (val (digs (s.data.toList.drop st) 15) : Int)) :
    parseN s.data.toList = (if neg then -(1000 * v + (val (decs (s.data.toList.drop (st + k))) * 10 ^ (3 - (decs (s.data.toList.drop (st + k))).length) : Nat)) else 1000 * v + (val (decs (s.data.toList.drop (st + k))) * 10 ^ (3 - (decs (s.data.toList.drop (st + k))).length) : Nat)) ∧
    parseK s.data.toList = st + k + (if decs (s.data.toList.drop (st + k)) = [] then 0 else 1 + (decs (s.data.toList.drop (st + k))).length) := by
  have hw : wholeOf s.data.toList = digs (s.data.toList.drop st) 15 := by unfold wholeOf; rw [hs]
  have hw0 : wholeOf s.data.toList ≠ [] := by
    rw [hw]; intro e; rw [e] at hk; exact hk0 hk.symm
  have hr : restOf s.data.toList = decs (s.data.toList.drop (st + k)) := by unfold restOf; rw [hs, hw, hk]
  have hnum : (numOf s.data.toList : Int) = 1000 * v + (val (decs (s.data.toList.drop (st + k))) * 10 ^ (3 - (decs (s.data.toList.drop (st + k))).length) : Nat) := by
    unfold numOf
    rw [hr, hw, pad3 _ _ (decs_len _).1, hv]
    generalize val (decs (s.data.toList.drop (st + k))) * 10 ^ (3 - (decs (s.data.toList.drop (st + k))).length) = x
    omega
  refine ⟨?_, ?_⟩
  · unfold parseN
    rw [if_neg hw0, hn, hnum]
  · unfold parseK
    rw [if_neg hw0, hs, hw, hk, hr]

/-- Behind the second loop. -/
def Left2 (s : ByteArray) (st k : Nat) (v : Int) (a n : Value) : Prop := ∃ (q : Nat) (m : Int), 0 ≤ m ∧ m ≤ 1000000000000001000 ∧
  Hid (q = st + k + (if decs (s.data.toList.drop (st + k)) = [] then 0 else 1 + (decs (s.data.toList.drop (st + k))).length)) ∧
  Hid (m = 1000 * v + (val (decs (s.data.toList.drop (st + k))) * 10 ^ (3 - (decs (s.data.toList.drop (st + k))).length) : Nat)) ∧ a = .int .i64 q ∧ n = .int .i64 m
/-- Behind the first loop. -/
def Left1 (s : ByteArray) (st : Nat) (a n d : Value) : Prop := ∃ (p k : Nat) (v : Int), p ≤ s.size ∧ k ≤ 15 ∧ 0 ≤ v ∧ v ≤ 999999999999999 ∧ Hid (p = st + k) ∧ Hid ((digs (s.data.toList.drop st) 15).length = k) ∧ Hid (v = (val (digs (s.data.toList.drop st) 15) : Int)) ∧
  a = .int .i64 p ∧ n = .int .i64 v ∧ d = .int .i64 k
set_option maxRecDepth 100000 in
set_option maxHeartbeats 2000000 in
theorem rparse_any (s : ByteArray) (w : World) (hs : s.size ≤ 1000) :
    Calls Tryd.prog 9 #[.string s] w fun e w' => e = .returned (.tuple #[.int .i64 (parseN s.data.toList), .int .i64 (parseK s.data.toList)]) ∧ w = w' := by
  obtain ⟨neg, Hneg⟩ : ∃ b, Hid (Lib.hasPrefix s.data.toList [45] = b) := ⟨_, rfl⟩
  obtain ⟨st, Hst⟩ : ∃ k, Hid (sgn s.data.toList = k) := ⟨_, rfl⟩
  have st1 : st ≤ 1 := by have := Hst.out; unfold sgn at this; split at this <;> omega
  have st2 : st ≤ s.size := by
    have h1 := Hst.out
    have h2 := Hneg.out
    unfold sgn at h1
    cases neg
    · rw [h2] at h1; simp at h1; omega
    · have := prefix_size h2; omega
  go_enter Tryd.func9, Tryd.ntmps9
  go_upto_region 2 with fail
  go_cut [7] (fun s7 wx => s7 = .bool neg ∧ wx = w)
  case first =>
    by_cases h0 : 0 < s.size
    · by_cases h1 : s[0].toNat = 45
      · have tz : ((s[0].toNat : Int) == 45) = true := beq_iff_eq.2 (by omega)
        have hb : neg = true := by
          rw [← Hneg.out, pre_byte s h0]
          exact beq_iff_eq.2 (UInt8.toNat_inj.1 h1.symm)
        clear h1
        subst hb
        go_wp2_with fail
        go_meet
        case rel => exact ⟨rfl, rfl⟩
      · have tz : ((s[0].toNat : Int) == 45) = false := beq_eq_false_iff_ne.2 (by omega)
        have hb : neg = false := by
          rw [← Hneg.out, pre_byte s h0]
          exact beq_eq_false_iff_ne.2 (fun k => h1 (by rw [← k]; rfl))
        subst hb
        go_wp2_with fail
        go_meet
        case rel => exact ⟨rfl, rfl⟩
    · have hb : neg = false := by rw [← Hneg.out]; exact pre_none s h0 45
      subst hb
      go_wp2_with fail
      go_meet
      case rel => exact ⟨rfl, rfl⟩
  case rest =>
    obtain ⟨rfl, rfl⟩ := hcut
    go_upto_if 17 with fail
    go_cut [4] (fun s4 wx => s4 = .int .i64 st ∧ wx = wc)
    case first =>
      cases neg
      · have e : st = 0 := by rw [← Hst.out]; unfold sgn; rw [Hneg.out]; rfl
        subst e
        go_wp2_with fail
        go_meet
        case rel => exact ⟨rfl, rfl⟩
      · have e : st = 1 := by rw [← Hst.out]; unfold sgn; rw [Hneg.out]; rfl
        subst e
        go_wp2_with fail
        go_meet
        case rel => exact ⟨rfl, rfl⟩
    case rest =>
      obtain ⟨rfl, rfl⟩ := hcut
      go_upto_block 0 with fail
      go_cut [4, 5, 6] (fun s4 s5 s6 wx => Left1 s st s4 s5 s6 ∧ wx = wc)
      case first =>
        go_wp2_with fail
        go_loop [4, 5, 6] (fun a n d => ∃ (p k : Nat) (v : Int), p ≤ s.size ∧ Hid (p = st + k) ∧ Run (s.data.toList.drop st) 15 k v ∧ a = .int .i64 p ∧ n = .int .i64 v ∧ d = .int .i64 k) (fun a _ _ => s.size - (RowKit.intOf a).toNat)
        case atStart => exact ⟨st, 0, 0, st2, rfl, run_start _ _, rfl, rfl, rfl⟩
        case round =>
          obtain ⟨p, k, v, hp, HP, hr, rfl, rfl, rfl⟩ := hrel
          have hlen := drop_len s st
          obtain ⟨v0, v1⟩ := run_bd hr
          have k15 := hr.lim
          have v2 := run_le15 hr k15
          have hget : ∀ (h : p < s.size) (h' : k < (s.data.toList.drop st).length), (s.data.toList.drop st)[k] = s[p] := fun h h' => by
            have e := HP.out
            subst e
            exact drop_get s st k h' h
          have leave : (k = 15 ∨ ∀ (h : k < (s.data.toList.drop st).length), isD (s.data.toList.drop st)[k] = false) → Left1 s st (.int .i64 p) (.int .i64 v) (.int .i64 k) := fun h =>
            ⟨p, k, v, hp, k15, v0, v2, HP, (run_stop hr h).2.1, (run_stop hr h).2.2, rfl, rfl, rfl⟩
          have LV := Lib.hid leave
          clear leave v1
          by_cases c1 : p < s.size
          · have hk : k < (s.data.toList.drop st).length := by have := HP.out; omega
            have hg := hget c1 hk
            have HL := Lib.hid hlen
            clear hget hlen
            by_cases c2 : 48 ≤ s[p].toNat
            · by_cases c3 : s[p].toNat ≤ 57
              · by_cases c4 : k < 15
                · have hn := run_next hr hk c4 (by rw [hg]; exact isD_yes c2 c3)
                  rw [hg] at hn
                  have v3 := run_le14 hr (by omega)
                  have HP' : Hid (p + 1 = st + (k + 1)) := by have := HP.out; exact (show p + 1 = st + (k + 1) by omega)
                  clear hg hr
                  go_wp2_with fail
                  go_round
                  case rel => exact ⟨p + 1, k + 1, _, by omega, HP', hn, by go_num, rfl, by go_num⟩
                  case measure => simp [RowKit.intOf]; omega
                · have h := LV.out (.inl (by omega))
                  clear hg hr
                  have H := Lib.hid h
                  clear h
                  go_wp2_with fail
                  go_meet
                  case rel => exact ⟨H.out, rfl⟩
              · have H := Lib.hid (LV.out (.inr fun _ => by rw [hg]; exact isD_hi c3))
                clear hg hr
                go_wp2_with fail
                go_meet
                case rel => exact ⟨H.out, rfl⟩
            · have H := Lib.hid (LV.out (.inr fun _ => by rw [hg]; exact isD_lo c2))
              clear hg hr
              go_wp2_with fail
              go_meet
              case rel => exact ⟨H.out, rfl⟩
          · have H := Lib.hid (LV.out (.inr fun h => absurd h (by have := HP.out; omega)))
            clear hget hlen hr
            go_wp2_with fail
            go_meet
            case rel => exact ⟨H.out, rfl⟩
      case rest =>
        obtain ⟨⟨p, k, v, hp, k15, v0, v2, HP, HK, HV, rfl, rfl, rfl⟩, rfl⟩ := hcut
        by_cases hk : k = 0
        · subst hk
          go_wp2_with fail
          go_ret2
          exact ⟨ret_two (by
            unfold parseN
            rw [if_pos (by unfold wholeOf; rw [Hst.out]; exact List.length_eq_zero_iff.1 HK.out)]) (by
            unfold parseK
            rw [if_pos (by unfold wholeOf; rw [Hst.out]; exact List.length_eq_zero_iff.1 HK.out)]; rfl), rfl⟩
        · have tk : ((k : Int) == 0) = false := beq_eq_false_iff_ne.2 (by omega)
          obtain ⟨E1, E2⟩ := ends_with s neg st k v Hneg.out Hst.out HK.out hk HV.out
          have EN := Lib.hid E1
          have EK := Lib.hid E2
          clear E1 E2 hk
          go_upto_region 12 with fail
          go_cut [78] (fun s78 wx => s78 = .bool (hasRest s p) ∧ wx = wc)
          case first =>
            by_cases c1 : p + 1 < s.size
            · by_cases c2 : s[p].toNat = 46
              · have tz : ((s[p].toNat : Int) == 46) = true := beq_iff_eq.2 (by omega)
                have HP2 := Lib.hid (decs_point s p (by omega) c2)
                clear c2
                by_cases c3 : 48 ≤ s[p + 1].toNat
                · by_cases c4 : s[p + 1].toNat ≤ 57
                  · have H := Lib.hid (hasRest_yes (s := s) (p := p) (by rw [HP2.out]; exact digs_some s (p + 1) c1 (isD_yes c3 c4)))
                    go_wp2_with fail
                    go_meet
                    case rel => exact ⟨congrArg Value.bool (by rw [H.out]; exact decide_eq_true (by omega)), rfl⟩
                  · have H := Lib.hid (hasRest_no (s := s) (p := p) (by rw [HP2.out]; exact digs_none s (p + 1) c1 (isD_hi c4)))
                    go_wp2_with fail
                    go_meet
                    case rel => exact ⟨congrArg Value.bool (by simp [H.out]; omega), rfl⟩
                · have H := Lib.hid (hasRest_no (s := s) (p := p) (by rw [HP2.out]; exact digs_none s (p + 1) c1 (isD_lo c3)))
                  go_wp2_with fail
                  go_meet
                  case rel => exact ⟨congrArg Value.bool H.out.symm, rfl⟩
              · have tz : ((s[p].toNat : Int) == 46) = false := beq_eq_false_iff_ne.2 (by omega)
                have H := Lib.hid (hasRest_no (decs_other s p (by omega) c2))
                go_wp2_with fail
                go_meet
                case rel => exact ⟨congrArg Value.bool H.out.symm, rfl⟩
            · have H := Lib.hid (hasRest_no (decs_short s p c1))
              go_wp2_with fail
              go_meet
              case rel => exact ⟨congrArg Value.bool H.out.symm, rfl⟩
          case rest =>
            obtain ⟨rfl, rfl⟩ := hcut
            go_upto_if 78 with fail
            go_cut [4, 5] (fun s4 s5 wx => Left2 s st k v s4 s5 ∧ wx = wc)
            case first =>
              cases hR : hasRest s p with
              | false =>
                have hd := hasRest_not hR
                rw [HP.out] at hd
                have L : Left2 s st k v (.int .i64 p) (.int .i64 (1000 * v)) := ⟨p, 1000 * v, by omega, by omega, by
                  show p = _
                  rw [if_pos hd]; exact HP.out, by
                  show 1000 * v = _
                  rw [hd]; show 1000 * v = 1000 * v + ((0 * 10 ^ 3 : Nat) : Int); omega, rfl, rfl⟩
                have HL := Lib.hid L
                clear L hd
                go_wp2_with fail
                go_meet
                case rel => exact ⟨HL.out, rfl⟩
              | true =>
                obtain ⟨hd1, hd2, hd3⟩ := hasRest_of hR
                have HD1 := Lib.hid hd1
                have HD2 := Lib.hid hd2
                clear hd1 hd2
                have st3 : 1000 * v < 1000000000000000000 := by omega
                go_wp2_with fail
                go_loop [4, 5, 8] (fun a n c => ∃ (q j : Nat) (m x : Int), q ≤ s.size ∧ Hid (q = p + 1 + j) ∧ Run2 (1000 * v) (s.data.toList.drop (p + 1)) j m x ∧ a = .int .i64 q ∧ n = .int .i64 m ∧ c = .int .i64 x) (fun a _ _ => s.size - (RowKit.intOf a).toNat)
                case atStart => exact ⟨p + 1, 0, _, _, by omega, rfl, run2_start _ _, by go_num, rfl, rfl⟩
                case round =>
                  obtain ⟨q, j, m, x, hq, HJ, hr, rfl, rfl, rfl⟩ := hrel
                  have hlen := drop_len s (p + 1)
                  obtain ⟨m0, m1, x0, x1, j3, jl⟩ := run2_bd hr ⟨by omega, st3⟩
                  have hget : ∀ (h : q < s.size) (h' : j < (s.data.toList.drop (p + 1)).length), (s.data.toList.drop (p + 1))[j] = s[q] := fun h h' => by
                    have e := HJ.out
                    subst e
                    exact drop_get s (p + 1) j h' h
                  have leave : (¬ 0 < x ∨ ∀ (h : j < (s.data.toList.drop (p + 1)).length), isD (s.data.toList.drop (p + 1))[j] = false) → Left2 s st k v (.int .i64 q) (.int .i64 m) := fun h => by
                    obtain ⟨e1, e2⟩ := run2_stop hr h
                    rw [← HD2.out] at e1 e2
                    rw [HP.out] at e1 e2
                    have hne := HD1.out
                    rw [HP.out] at hne
                    refine ⟨q, m, m0, by omega, ?_, e2, rfl, rfl⟩
                    show q = _
                    rw [if_neg hne, e1, HJ.out, HP.out]
                    omega
                  have LV := Lib.hid leave
                  clear leave
                  by_cases c1 : q < s.size
                  · have hk : j < (s.data.toList.drop (p + 1)).length := by have := HJ.out; omega
                    have hg := hget c1 hk
                    have HL := Lib.hid hlen
                    clear hget hlen jl
                    by_cases c2 : 48 ≤ s[q].toNat
                    · by_cases c3 : s[q].toNat ≤ 57
                      · by_cases c4 : 0 < x
                        · have hn := run2_next hr hk c4 (by rw [hg]; exact isD_yes c2 c3)
                          rw [hg] at hn
                          have HJ' : Hid (q + 1 = p + 1 + (j + 1)) := by have := HJ.out; exact (show q + 1 = p + 1 + (j + 1) by omega)
                          have b1 : 0 ≤ x * ((s[q].toNat : Int) - 48) := Int.mul_nonneg (by omega) (by omega)
                          have b2 : x * ((s[q].toNat : Int) - 48) ≤ 900 := by
                            have := Int.mul_le_mul x1 (show (s[q].toNat : Int) - 48 ≤ 9 by omega) (by omega) (by omega)
                            omega
                          clear hg hr
                          go_wp2_with fail
                          go_round
                          case rel => exact ⟨q + 1, j + 1, _, _, by omega, HJ', hn, by go_num, rfl, rfl⟩
                          case measure => simp [RowKit.intOf]; omega
                        · have H := Lib.hid (LV.out (.inl c4))
                          clear hg hr
                          go_wp2_with fail
                          go_meet
                          case rel => exact ⟨H.out, rfl⟩
                      · have H := Lib.hid (LV.out (.inr fun _ => by rw [hg]; exact isD_hi c3))
                        clear hg hr
                        go_wp2_with fail
                        go_meet
                        case rel => exact ⟨H.out, rfl⟩
                    · have H := Lib.hid (LV.out (.inr fun _ => by rw [hg]; exact isD_lo c2))
                      clear hg hr
                      go_wp2_with fail
                      go_meet
                      case rel => exact ⟨H.out, rfl⟩
                  · have H := Lib.hid (LV.out (.inr fun h => absurd h (by have := HJ.out; omega)))
                    clear hget hlen hr jl
                    go_wp2_with fail
                    go_meet
                    case rel => exact ⟨H.out, rfl⟩
            case rest =>
              obtain ⟨⟨q, m, m0, m1, HQ, HM, rfl, rfl⟩, rfl⟩ := hcut
              cases neg
              · go_wp2_with fail
                go_ret2
                exact ⟨ret_two (by rw [EN.out, HM.out]; rfl) (by rw [EK.out, HQ.out]), rfl⟩
              · go_wp2_with fail
                go_ret2
                exact ⟨ret_two (by rw [EN.out, HM.out]; rfl) (by rw [EK.out, HQ.out]), rfl⟩
end Go.Proofs.YtfpfjaedoafnpaaDoor

/-
  The document's Trim gives what Trim gives.
-/
import Derived.Test.YtbnoiakhpmgeaaaSrcm
namespace Go.Proofs.Ytbnoiakhpmgeaaa
open Go.RowKit Go.Lib

def lenOf : Value → Nat
  | .string s => s.size
  | _ => 0
/-- Behind the first loop. -/
def Front (l : List UInt8) (n : Nat) (v : Value) : Prop := ∃ t : ByteArray, v = .string t ∧ t.size ≤ n ∧ Hid (t.data.toList = l.dropWhile ws)
theorem tl_empty {t : ByteArray} (h : 0 < t.size) : t.toList.isEmpty = false := by
  rw [Lib.toList_data]
  have := bytes_len t
  cases e : t.data.toList with
  | nil => rw [e] at this; simp at this; omega
  | cons a b => rfl
theorem tl_ne {t : ByteArray} (h : 0 < t.size) : ¬ t.toList = [] := fun e => by have := tl_empty h; rw [e] at this; cases this
theorem tl_cons {t : ByteArray} (h : 0 < t.size) : t.data.toList = t[0] :: (t.extract 1 t.size).data.toList := by
  rw [Lib.extract_to_end]
  have := drop_cons t.data.toList 0 (by rw [bytes_len]; exact h)
  rw [List.drop_zero] at this
  exact this
theorem tl_snoc {t : ByteArray} (h : 0 < t.size) : t.data.toList = (t.extract 0 (t.size - 1)).data.toList ++ [t[t.size - 1]] := by
  have hlen := bytes_len t
  rw [Lib.extract_data, List.drop_zero, Nat.sub_zero]
  have e := List.take_succ_eq_append_getElem (l := t.data.toList) (i := t.size - 1) (by omega)
  rw [show t.size - 1 + 1 = t.size by omega, List.take_of_length_le (by omega)] at e
  exact e
theorem front_more {t : ByteArray} (h : 0 < t.size) (hw : ws t[0] = true) : (t.extract 1 t.size).data.toList.dropWhile ws = t.data.toList.dropWhile ws := by
  conv => rhs; rw [tl_cons h, List.dropWhile_cons, hw]
  rfl
theorem front_end {t : ByteArray} (h : 0 < t.size) (hw : ws t[0] = false) : t.data.toList.dropWhile ws = t.data.toList := by
  rw [tl_cons h, List.dropWhile_cons, hw]
  rfl
def backT (l : List UInt8) : List UInt8 := (l.reverse.dropWhile ws).reverse
theorem back_more {t : ByteArray} (h : 0 < t.size) (hw : ws t[t.size - 1] = true) : backT (t.extract 0 (t.size - 1)).data.toList = backT t.data.toList := by
  conv => rhs; rw [tl_snoc h]
  unfold backT
  rw [List.reverse_append, List.reverse_singleton, List.singleton_append, List.dropWhile_cons, hw]
  rfl
theorem back_end {t : ByteArray} (h : 0 < t.size) (hw : ws t[t.size - 1] = false) : backT t.data.toList = t.data.toList := by
  have e := tl_snoc h
  generalize t[t.size - 1] = b at *
  unfold backT
  rw [e, List.reverse_append, List.reverse_singleton, List.singleton_append, List.dropWhile_cons, hw]
  simp
theorem ws_32 {b : UInt8} (h : b.toNat = 32) : ws b = true := by unfold ws isB; rw [decide_eq_true h]; rfl
theorem ws_9 {b : UInt8} (h : b.toNat = 9) : ws b = true := by unfold ws isB; rw [decide_eq_true h, Bool.or_true]; rfl
theorem ws_10 {b : UInt8} (h : b.toNat = 10) : ws b = true := by unfold ws; rw [decide_eq_true h, Bool.or_true]
theorem ws_not {b : UInt8} (h1 : ¬ b.toNat = 32) (h2 : ¬ b.toNat = 9) (h3 : ¬ b.toNat = 10) : ws b = false := by unfold ws isB; rw [decide_eq_false h1, decide_eq_false h2, decide_eq_false h3]; rfl

set_option maxHeartbeats 2000000 in
theorem rtrim_any (s : ByteArray) (w : World) (hs : s.size ≤ 100000) :
    Calls Try.prog 17 #[.string s] w fun e w' => e = .returned (.string ⟨(trimL s.data.toList).toArray⟩) ∧ w = w' := by
  go_enter Try.func17, Try.ntmps17
  go_upto_block 0 with fail
  go_cut [0] (fun v wx => Front s.data.toList s.size v ∧ wx = w)
  case first =>
    go_wp2_with fail
    go_loop [0] (fun v => ∃ t : ByteArray, t.size ≤ s.size ∧ Hid (t.data.toList.dropWhile ws = s.data.toList.dropWhile ws) ∧ v = .string t) (fun v => lenOf v)
    case atStart => exact ⟨s, Nat.le_refl _, Lib.hid rfl, rfl⟩
    case round =>
      obtain ⟨t, ht, HT, rfl⟩ := hrel
      by_cases h0 : 0 < t.size
      · have n1 := tl_empty h0
        have n2 := tl_ne h0
        by_cases c0 : t[0].toNat = 32
        · have q0 : ((t[0].toNat : Int) == 32) = true := beq_iff_eq.2 (by omega)
          have HN := Lib.hid ((front_more h0 (ws_32 c0)).trans HT.out)
          have hsz : (t.extract 1 t.size).size < t.size := by rw [ByteArray.size_extract]; omega
          clear c0
          go_wp2_with fail
          go_round
          case rel => exact ⟨_, by omega, HN, rfl⟩
          case measure => exact hsz
        · by_cases c1 : t[0].toNat = 9
          · have q0 : ((t[0].toNat : Int) == 32) = false := beq_eq_false_iff_ne.2 (by omega)
            have q1 : ((t[0].toNat : Int) == 9) = true := beq_iff_eq.2 (by omega)
            have HN := Lib.hid ((front_more h0 (ws_9 c1)).trans HT.out)
            have hsz : (t.extract 1 t.size).size < t.size := by rw [ByteArray.size_extract]; omega
            clear c0 c1
            go_wp2_with fail
            go_round
            case rel => exact ⟨_, by omega, HN, rfl⟩
            case measure => exact hsz
          · by_cases c2 : t[0].toNat = 10
            · have q0 : ((t[0].toNat : Int) == 32) = false := beq_eq_false_iff_ne.2 (by omega)
              have q1 : ((t[0].toNat : Int) == 9) = false := beq_eq_false_iff_ne.2 (by omega)
              have q2 : ((t[0].toNat : Int) == 10) = true := beq_iff_eq.2 (by omega)
              have HN := Lib.hid ((front_more h0 (ws_10 c2)).trans HT.out)
              have hsz : (t.extract 1 t.size).size < t.size := by rw [ByteArray.size_extract]; omega
              clear c0 c1 c2
              go_wp2_with fail
              go_round
              case rel => exact ⟨_, by omega, HN, rfl⟩
              case measure => exact hsz
            · have q0 : ((t[0].toNat : Int) == 32) = false := beq_eq_false_iff_ne.2 (by omega)
              have q1 : ((t[0].toNat : Int) == 9) = false := beq_eq_false_iff_ne.2 (by omega)
              have q2 : ((t[0].toNat : Int) == 10) = false := beq_eq_false_iff_ne.2 (by omega)
              have HX : Hid (Front s.data.toList s.size (.string t)) := by
                have : Front s.data.toList s.size (.string t) := ⟨t, rfl, ht, Lib.hid ((front_end h0 (ws_not c0 c1 c2)).symm.trans HT.out)⟩
                exact Lib.hid this
              clear c0 c1 c2
              go_wp2_with fail
              go_meet
              case rel => exact ⟨HX.out, rfl⟩
      · obtain rfl : t = ⟨#[]⟩ := bytes_eq (List.length_eq_zero_iff.1 (by rw [bytes_len]; omega))
        have HX : Hid (Front s.data.toList s.size (.string ⟨#[]⟩)) := by
          have : Front s.data.toList s.size (.string ⟨#[]⟩) := ⟨_, rfl, ht, HT.out⟩
          exact Lib.hid this
        go_wp2_with fail
        go_meet
        case rel => exact ⟨HX.out, rfl⟩
  case rest =>
    obtain ⟨⟨t0, rfl, ht0, HF⟩, rfl⟩ := hcut
    go_wp2_with fail
    go_loop [0] (fun v => ∃ t : ByteArray, t.size ≤ s.size ∧ Hid (backT t.data.toList = trimL s.data.toList) ∧ v = .string t) (fun v => lenOf v)
    case atStart => exact ⟨t0, ht0, Lib.hid (by unfold backT trimL; rw [HF.out]), rfl⟩
    case round =>
      obtain ⟨t, ht, HT, rfl⟩ := hrel
      by_cases h0 : 0 < t.size
      · have n1 := tl_empty h0
        have n2 := tl_ne h0
        by_cases c0 : t[t.size - 1].toNat = 32
        · have q0 : ((t[t.size - 1].toNat : Int) == 32) = true := beq_iff_eq.2 (by omega)
          have HN := Lib.hid ((back_more h0 (ws_32 c0)).trans HT.out)
          have hsz : (t.extract 0 (t.size - 1)).size < t.size := by rw [ByteArray.size_extract]; omega
          clear c0
          go_wp2_with fail
          go_round
          case rel => exact ⟨_, by omega, HN, rfl⟩
          case measure => exact hsz
        · by_cases c1 : t[t.size - 1].toNat = 9
          · have q0 : ((t[t.size - 1].toNat : Int) == 32) = false := beq_eq_false_iff_ne.2 (by omega)
            have q1 : ((t[t.size - 1].toNat : Int) == 9) = true := beq_iff_eq.2 (by omega)
            have HN := Lib.hid ((back_more h0 (ws_9 c1)).trans HT.out)
            have hsz : (t.extract 0 (t.size - 1)).size < t.size := by rw [ByteArray.size_extract]; omega
            clear c0 c1
            go_wp2_with fail
            go_round
            case rel => exact ⟨_, by omega, HN, rfl⟩
            case measure => exact hsz
          · by_cases c2 : t[t.size - 1].toNat = 10
            · have q0 : ((t[t.size - 1].toNat : Int) == 32) = false := beq_eq_false_iff_ne.2 (by omega)
              have q1 : ((t[t.size - 1].toNat : Int) == 9) = false := beq_eq_false_iff_ne.2 (by omega)
              have q2 : ((t[t.size - 1].toNat : Int) == 10) = true := beq_iff_eq.2 (by omega)
              have HN := Lib.hid ((back_more h0 (ws_10 c2)).trans HT.out)
              have hsz : (t.extract 0 (t.size - 1)).size < t.size := by rw [ByteArray.size_extract]; omega
              clear c0 c1 c2
              go_wp2_with fail
              go_round
              case rel => exact ⟨_, by omega, HN, rfl⟩
              case measure => exact hsz
            · have q0 : ((t[t.size - 1].toNat : Int) == 32) = false := beq_eq_false_iff_ne.2 (by omega)
              have q1 : ((t[t.size - 1].toNat : Int) == 9) = false := beq_eq_false_iff_ne.2 (by omega)
              have q2 : ((t[t.size - 1].toNat : Int) == 10) = false := beq_eq_false_iff_ne.2 (by omega)
              have HX := Lib.hid ((back_end h0 (ws_not c0 c1 c2)).symm.trans HT.out)
              clear c0 c1 c2
              go_wp2_with fail
              go_ret
              exact ⟨ret_bytes (bytes_eq HX.out), rfl⟩
      · obtain rfl : t = ⟨#[]⟩ := bytes_eq (List.length_eq_zero_iff.1 (by rw [bytes_len]; omega))
        have HX := Lib.hid HT.out
        go_wp2_with fail
        go_ret
        exact ⟨ret_bytes (bytes_eq HX.out), rfl⟩
end Go.Proofs.Ytbnoiakhpmgeaaa

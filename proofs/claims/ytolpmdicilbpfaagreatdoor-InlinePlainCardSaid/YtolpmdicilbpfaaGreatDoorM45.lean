/-
  Texts of the proof, one behind the other: IqX, IqY.
-/
import Derived.Test.YtolpmdicilbpfaaGreatDoorM42
import Derived.Lib.SlBytesConst
/-
  InlinePlain is true of any text.
-/
namespace Go.Proofs.YtolpmdicilbpfaaGreatDoor
open Go.RowKit Go.Lib Go.Maps

/-- The signs that mean something, as the law lists them. -/
def spcV : List UInt8 := [92, 38, 60, 91, 93, 33, 42, 95, 10, 96]
theorem spc_mem (c : UInt8) : spcI c = true ↔ c ∈ spcV := by
  unfold spcI spcV
  simp only [Bool.or_eq_true, decide_eq_true_eq, List.mem_cons, List.not_mem_nil, or_false]
  constructor
  · rintro (((((((((h | h) | h) | h) | h) | h) | h) | h) | h) | h) <;> simp [h]
  · rintro (h | h | h | h | h | h | h | h | h | h) <;> simp [h]
set_option maxRecDepth 100000 in
set_option maxHeartbeats 8000000 in
theorem special_any (c : UInt8) (w : World) :
    Calls Tryz.prog 16 #[.int .u8 (c.toNat : Nat)] w fun e w' => e = .returned (.bool (spcI c)) ∧ Keeps w w' := by
  obtain ⟨W1, hW1⟩ : ∃ W1, w.alloc (.cells #[.int .u8 92, .int .u8 38, .int .u8 60, .int .u8 91, .int .u8 93, .int .u8 33, .int .u8 42, .int .u8 95, .int .u8 10, .int .u8 96] 5 (10, 11)) = W1 := ⟨_, rfl⟩
  have HK : Hid (Keeps w W1) := Lib.hid (by rw [← hW1]; exact (Keeps.refl w).alloc _)
  have HX : Hid (∀ (k : Nat) (h : k < 10), W1.cell? ⟨w.heap.size, k, none⟩ = some (.int .u8 ((spcV[k]'h).toNat : Nat))) := Lib.hid (fun k h => by
    have e := heap_alloc_new w (.cells #[.int .u8 92, .int .u8 38, .int .u8 60, .int .u8 91, .int .u8 93, .int .u8 33, .int .u8 42, .int .u8 95, .int .u8 10, .int .u8 96] 5 (10, 11))
    rw [hW1] at e
    unfold World.cell?
    rw [e]
    match k, h with
    | 0, _ => rfl | 1, _ => rfl | 2, _ => rfl | 3, _ => rfl | 4, _ => rfl | 5, _ => rfl | 6, _ => rfl | 7, _ => rfl | 8, _ => rfl | 9, _ => rfl)
  have kc : (convert 60 60 (.slice (some ⟨w.heap.size, 0, none⟩) 10 10)).run Tryz.prog (w.alloc (.cells #[.int .u8 92, .int .u8 38, .int .u8 60, .int .u8 91, .int .u8 93, .int .u8 33, .int .u8 42, .int .u8 95, .int .u8 10, .int .u8 96] 5)) = .ok (.slice (some ⟨w.heap.size, 0, none⟩) 10 10) W1 := by
    rw [← hW1]
    exact Lib.run_convert_bytes_const (P := Tryz.prog) w 60 5 #[.int .u8 92, .int .u8 38, .int .u8 60, .int .u8 91, .int .u8 93, .int .u8 33, .int .u8 42, .int .u8 95, .int .u8 10, .int .u8 96] 10 10 Tryz.underlying60 Tryz.underlying5
  clear hW1
  go_enter Tryz.func16, Tryz.ntmps16
  go_wp2_with fail
  clear kc
  go_loop [8] (fun i => ∃ k : Nat, k ≤ 10 ∧ i = .int .i64 k ∧ Hid (∀ j (h : j < 10), j < k → spcV[j]'h ≠ c)) (fun i => 10 - (RowKit.intOf i).toNat)
  case atStart => exact ⟨0, Nat.zero_le _, rfl, Lib.hid (fun j _ h => absurd h (Nat.not_lt_zero _))⟩
  case round =>
    obtain ⟨k, hk, rfl, HC⟩ := hrel
    by_cases c0 : k < 10
    · have cx := HX.out k c0
      obtain ⟨x, hx⟩ : ∃ x, spcV[k]'c0 = x := ⟨_, rfl⟩
      rw [hx] at cx
      have ck : (k : Int) < 10 := by omega
      by_cases e : c = x
      · have HS : Hid (spcI c = true) := Lib.hid ((spc_mem c).2 (by rw [e, ← hx]; exact List.getElem_mem _))
        have q : ((c.toNat : Int) == (x.toNat : Int)) = true := by rw [e]; exact beqT rfl
        clear HC hx
        go_wp2_with fail
        go_ret
        exact ⟨ret_bool (by rw [← e]; exact HS.out.symm), HK.out⟩
      · have q : ((c.toNat : Int) == (x.toNat : Int)) = false := beqF (fun h => e (UInt8.toNat_inj.1 (by omega)))
        have HN : Hid (∀ j (h : j < 10), j < k + 1 → spcV[j]'h ≠ c) := Lib.hid (fun j h hj => by
          by_cases ej : j = k
          · subst ej; rw [hx]; exact fun q => e q.symm
          · exact HC.out j h (by omega))
        clear HC hx
        go_wp2_with fail
        go_round
        case rel => exact ⟨k + 1, by omega, by go_num, HN⟩
        case measure => simp [RowKit.intOf]; omega
    · have ck : ¬ (k : Int) < 10 := by omega
      have HS : Hid (spcI c = false) := Lib.hid (by
        rw [← Bool.not_eq_true, spc_mem]
        intro hm
        obtain ⟨j, hj, e⟩ := List.getElem_of_mem hm
        exact HC.out j hj (by have : spcV.length = 10 := rfl; omega) e)
      clear HC
      go_wp2_with fail
      go_ret
      exact ⟨ret_bool HS.out.symm, HK.out⟩
end Go.Proofs.YtolpmdicilbpfaaGreatDoor

/-
  InlinePlain is true of any text.
-/
namespace Go.Proofs.YtolpmdicilbpfaaGreatDoor
open Go.RowKit Go.Lib Go.Maps

theorem ext_sole {s : ByteArray} {k : Nat} (h : k < s.size) : (s.extract k (k + 1)).data.toList = [s[k]] := by
  have hl : k < s.data.toList.length := by rw [bytes_len]; exact h
  rw [ByteArray.data_extract, Array.toList_extract, List.extract_eq_take_drop, Nat.add_sub_cancel_left, List.drop_eq_getElem_cons hl]
  rfl
theorem hide_more {l : List UInt8} {k : Nat} (h : k < l.length) : (l.take (k + 1)).flatMap hideI = (l.take k).flatMap hideI ++ hideI l[k] := by
  rw [List.take_succ_eq_append_getElem h, List.flatMap_append, List.flatMap_cons, List.flatMap_nil, List.append_nil]
set_option maxRecDepth 100000 in
set_option maxHeartbeats 8000000 in
theorem plain_some (s : ByteArray) (w : World) (h1 : s.size ≤ 500) (h2 : 0 < s.size) (hO : Lis w) (hM : Mxl w) :
    Calls Tryz.prog 5 #[.string s] w fun e w' => e = .returned (.bool true) ∧ Keeps w w' := by
  have AW := Lib.hid (fun W' (q : Keeps w W') => awake14_any W' (hO.keep q) (hM.keep q))
  have PA := Lib.hid (fun t (h : t.size ≤ 20000) W' (q : Keeps w W') => parse_none t W' (hO.keep q) (hM.keep q) h)
  have hl := Lib.hid (bytes_len s)
  have t0 : s.toList.isEmpty = false := tl_empty h2
  have t1 : ¬ s.toList = [] := tl_ne h2
  have c500 : ¬ (500 : Int) < (s.size : Int) := by omega
  clear hO hM
  go_enter Tryz.func5, Tryz.ntmps5
  go_wp2_with fail
  clear t0 t1 c500
  go_loopw [3, 4] (fun x i wr => ∃ (k : Nat) (tb : ByteArray), k ≤ s.size ∧ i = .int .i64 k ∧ x = .string tb ∧ tb.size ≤ 2 * k ∧ Hid (tb.data.toList = (s.data.toList.take k).flatMap hideI) ∧ Hid (∀ c ∈ s.data.toList.take k, c ≠ 10) ∧ Hid (Keeps w wr)) (fun _ i _ => s.size - (RowKit.intOf i).toNat)
  case atStart => exact ⟨0, ⟨#[]⟩, Nat.zero_le _, rfl, rfl, by decide, Lib.hid rfl, Lib.hid (fun c h => by cases h), Lib.hid (Keeps.refl _)⟩
  case round =>
    obtain ⟨k, tb, hk, rfl, rfl, hsz, HT, HC, HR⟩ := hrel
    by_cases c0 : k < s.size
    · have ck : (k : Int) < (s.size : Int) := by omega
      by_cases c1 : s[k] = 10
      · have q : ((s[k].toNat : Int) == 10) = true := by rw [c1]; rfl
        have AX := Lib.hid (AW.out _ HR.out)
        clear c1 HT HC
        go_wp2_with fail
        refine AX.out.mono ?_
        rintro e w1 ⟨rfl, k1⟩
        have K1 := Lib.hid (HR.out.trans k1)
        clear k1
        go_wp2_with fail
        go_ret
        exact ⟨rfl, K1.out⟩
      · have q : ((s[k].toNat : Int) == 10) = false := beqF (fun h => c1 (UInt8.toNat_inj.1 (by show s[k].toNat = 10; omega)))
        have SP := Lib.hid (special_any s[k] wr)
        have HC2 : Hid (∀ c ∈ s.data.toList.take (k + 1), c ≠ 10) := Lib.hid (fun c hc => by
          rw [List.take_succ_eq_append_getElem (by rw [hl.out]; exact c0)] at hc
          rcases List.mem_append.1 hc with hc | hc
          · exact HC.out c hc
          · rw [List.mem_singleton.1 hc]; exact c1)
        have HM := Lib.hid (hide_more (l := s.data.toList) (k := k) (by rw [hl.out]; exact c0))
        have hk0 : (0 : Int) ≤ (k : Int) := by omega
        have hk1 : (k : Int) ≤ (k : Int) + 1 := by omega
        have hk2 : (k : Int) + 1 ≤ (s.size : Int) := by omega
        have hkw : IntKind.i64.wrap ((k : Int) + 1) = (k : Int) + 1 := IntWalk.i64_in _ (by omega)
        have hkt : ((k : Int) + 1).toNat = k + 1 := by omega
        cases hsp : spcI s[k] with
        | true =>
          rw [hsp] at SP
          have HT2 : Hid ((tb ++ (⟨#[92]⟩ : ByteArray) ++ s.extract k (k + 1)).data.toList = (s.data.toList.take (k + 1)).flatMap hideI) := Lib.hid (by
            rw [HM.out, bytes_app, bytes_app, HT.out, ext_sole c0, List.append_assoc]
            congr 1
            show _ = hideI s[k]
            unfold hideI
            rw [if_pos hsp]; rfl)
          have hs2 : (tb ++ (⟨#[92]⟩ : ByteArray) ++ s.extract k (k + 1)).size ≤ 2 * (k + 1) := by
            rw [← bytes_len, bytes_app, bytes_app, ext_sole c0, List.length_append, List.length_append, bytes_len]
            show tb.size + 1 + 1 ≤ _
            omega
          clear c1 HT HC hsp HM
          go_wp2_with fail
          refine SP.out.mono ?_
          rintro e w1 ⟨rfl, k1⟩
          have K1 := Lib.hid (HR.out.trans k1)
          clear k1
          go_wp2_with fail
          go_roundw
          case rel => exact ⟨k + 1, _, by omega, by go_num, rfl, hs2, HT2, HC2, K1⟩
          case measure => simp [RowKit.intOf]; omega
        | false =>
          rw [hsp] at SP
          have HT2 : Hid ((tb ++ s.extract k (k + 1)).data.toList = (s.data.toList.take (k + 1)).flatMap hideI) := Lib.hid (by
            rw [HM.out, bytes_app, HT.out, ext_sole c0]
            congr 1
            show _ = hideI s[k]
            unfold hideI
            rw [if_neg (by rw [hsp]; decide)])
          have hs2 : (tb ++ s.extract k (k + 1)).size ≤ 2 * (k + 1) := by
            rw [← bytes_len, bytes_app, ext_sole c0, List.length_append, bytes_len]
            show tb.size + 1 ≤ _
            omega
          clear c1 HT HC hsp HM
          go_wp2_with fail
          refine SP.out.mono ?_
          rintro e w1 ⟨rfl, k1⟩
          have K1 := Lib.hid (HR.out.trans k1)
          clear k1
          go_wp2_with fail
          go_roundw
          case rel => exact ⟨k + 1, _, by omega, by go_num, rfl, hs2, HT2, HC2, K1⟩
          case measure => simp [RowKit.intOf]; omega
    · have ck : ¬ (k : Int) < (s.size : Int) := by omega
      have hks : k = s.size := by omega
      have PX := Lib.hid (PA.out tb (by omega) wr HR.out)
      have e0 := HT.out
      have e1 := HC.out
      rw [List.take_of_length_le (by rw [hl.out]; omega)] at e0 e1
      rw [e0, plain_parse (fun e => by have := hl.out; rw [e] at this; simp at this; omega) e1] at PX
      clear HT HC e0 e1 hks PA
      go_upto_region 12 with fail
      go_cut [5] (fun x wx => ∃ w1, w1 = wx ∧ Hid (SpsAt w1 (fun b => b < w1.heap.size) [txtS s.data.toList] x) ∧ Keeps wr w1)
      case first =>
        go_wp2_with (first | (go_at_call 13; (with_reducible refine PX.out.mono ?_); rintro e w1 ⟨v, rfl, hv, k1⟩))
        go_meet
        case rel => exact ⟨_, rfl, Lib.hid hv, k1⟩
      case rest =>
      obtain ⟨w1, rfl, HV, k1⟩ := hcut
      have AX := Lib.hid (AW.out w1 (HR.out.trans k1))
      clear PX
      go_wp2_with fail
      refine AX.out.mono ?_
      rintro e w3 ⟨rfl, k3⟩
      have K3 := Lib.hid ((HR.out.trans k1).trans k3)
      obtain ⟨g, cap, kv, rfl, b0, _⟩ := (HV.out.keep (fun b h => h) k3).only
      have d0 := b0.c0
      have d1 := b0.c1
      rw [bytes_same] at d1
      simp only [Nat.reduceAdd] at d0 d1
      clear AX k3 k1 b0 HV
      go_wp2_with fail
      go_ret
      exact ⟨rfl, K3.out⟩
set_option maxRecDepth 100000 in
set_option maxHeartbeats 4000000 in
/-- InlinePlain is true of any input. -/
theorem iplain_any (s : ByteArray) (w : World) (hs : s.size ≤ maxLen) (hO : Lis w) (hM : Mxl w) :
    Calls Tryz.prog 5 #[.string s] w fun e w' => e = .returned (.bool true) ∧ Keeps w w' := by
  by_cases c1 : s.size ≤ 500
  · by_cases c2 : 0 < s.size
    · exact plain_some s w c1 c2 hO hM
    · have AW := Lib.hid (awake14_any w hO hM)
      have e0 : s = ⟨#[]⟩ := by
        apply ByteArray.ext
        apply Array.ext'
        exact List.eq_nil_of_length_eq_zero (by rw [bytes_len]; omega)
      subst e0
      clear hO hM hs
      go_enter Tryz.func5, Tryz.ntmps5
      go_wp2_with fail
      refine AW.out.mono ?_
      rintro e w1 ⟨rfl, k1⟩
      go_wp2_with fail
      go_ret
      exact ⟨rfl, k1⟩
  · have AW := Lib.hid (awake14_any w hO hM)
    have c500 : (500 : Int) < (s.size : Int) := by omega
    unfold maxLen at hs
    clear hO hM
    go_enter Tryz.func5, Tryz.ntmps5
    go_wp2_with fail
    refine AW.out.mono ?_
    rintro e w1 ⟨rfl, k1⟩
    go_wp2_with fail
    go_ret
    exact ⟨rfl, k1⟩
end Go.Proofs.YtolpmdicilbpfaaGreatDoor


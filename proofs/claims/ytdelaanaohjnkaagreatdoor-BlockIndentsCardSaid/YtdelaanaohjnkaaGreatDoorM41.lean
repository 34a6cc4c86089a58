/-
  Texts of the proof, one behind the other: Bdp, Bit.
-/
import Derived.Test.YtdelaanaohjnkaaGreatDoorM40
/-
  BlockDeep is true of any number of quotes.
-/
namespace Go.Proofs.YtdelaanaohjnkaaGreatDoor
open Go.RowKit Go.Lib

theorem Kids.over {W W' : World} {lo hi : Nat} {kids : List Tr} {kv : Value} (h : Kids W lo hi kids kv) (hb : ∀ b, b < hi → W'.heap[b]? = W.heap[b]?) : Kids W' lo hi kids kv := by
  obtain ⟨cs, h1, h2, h3, h4⟩ := h
  exact ⟨cs, row_same h1 fun g e => hb g (h2 g e), h2, h3, fun i a b => (h4 i a b).same (Nat.le_refl _) (Nat.le_refl _) fun x _ hx => hb x hx⟩
theorem At.keep {W W' : World} {g o k l : Nat} {od : Bool} {st mk : Nat} {ti : Bool} {info text : List UInt8} {kv : Value} (h : At W g o k l od st mk ti info text kv) (q : Keeps W W') : At W' g o k l od st mk ti info text kv :=
  ⟨keep_cell h.c0 q, keep_cell h.c1 q, keep_cell h.c2 q, keep_cell h.c3 q, keep_cell h.c4 q, keep_cell h.c5 q, keep_cell h.c6 q, keep_cell h.c7 q, keep_cell h.c8 q, keep_cell h.c9 q⟩
theorem rep_snoc (j : Nat) : List.replicate j (62 : UInt8) ++ [62] = List.replicate (j + 1) 62 := by
  rw [show ([62] : List UInt8) = List.replicate 1 62 from rfl, List.replicate_append_replicate]
def endA : ByteArray := ⟨#[32, 97, 10]⟩
set_option maxRecDepth 100000 in
set_option maxHeartbeats 8000000 in
theorem bdeep_any (n : Nat) (hn : n < 256) (w : World) (hO : Lis w) (hM : Mxl w) :
    Calls Tryz.prog 8 #[.int .u8 (n : Nat)] w fun e w' => e = .returned (.bool true) ∧ Keeps w w' := by
  have PA := Lib.hid (fun t (h : t.size ≤ 5000) => parse_any t w h hO hM)
  have AW := Lib.hid (fun W' (q : Keeps w W') => awake12_any W' (hO.keep q) (hM.keep q))
  clear hO hM
  go_enter Tryz.func8, Tryz.ntmps8
  go_wp2_with fail
  go_loop [4, 5] (fun x i => ∃ (j : Nat) (acc : ByteArray), j ≤ n ∧ i = .int .i64 j ∧ x = .string acc ∧ acc.size ≤ 255 ∧ Hid (acc.data.toList = List.replicate j 62)) (fun _ i => n - (RowKit.intOf i).toNat)
  case atStart => exact ⟨0, ⟨#[]⟩, Nat.zero_le _, rfl, rfl, by decide, Lib.hid rfl⟩
  case round =>
    obtain ⟨j, acc, hj, rfl, rfl, hsz, HA⟩ := hrel
    by_cases c : j < n
    · have HA2 : Hid ((acc ++ (⟨#[62]⟩ : ByteArray)).data.toList = List.replicate (j + 1) 62) := Lib.hid (by rw [bytes_app, HA.out]; exact rep_snoc j)
      have hs2 : (acc ++ (⟨#[62]⟩ : ByteArray)).size ≤ 255 := by rw [← bytes_len, HA2.out, List.length_replicate]; omega
      have hjn : (j : Int) < (n : Int) := by omega
      go_wp2_with fail
      go_round
      case rel => exact ⟨j + 1, acc ++ ⟨#[62]⟩, by omega, by go_num, rfl, hs2, HA2⟩
      case measure => simp [RowKit.intOf]; omega
    · have hjn : j = n := by omega
      subst hjn
      obtain ⟨X, hX⟩ : ∃ X, acc ++ endA = X := ⟨_, rfl⟩
      have HX : Hid (X.data.toList = deepL j) := Lib.hid (by rw [← hX, bytes_app, HA.out]; rfl)
      have hXs : X.size ≤ 5000 := by rw [← bytes_len, HX.out]; unfold deepL; simp; omega
      have PX := Lib.hid (PA.out X hXs)
      rw [HX.out] at PX
      unfold endA at hX
      clear PA HX HA
      go_wp2_with fail
      refine PX.out.mono ?_
      rintro e w1 ⟨kk, hp⟩
      by_cases hd : 99 < j
      · have e1 := hp.deep (deep_none hd)
        subst e1
        have ev : blkV 0 0 false 0 0 false [] [] (.slice none 0 0) = .agg #[.int .i64 0, .int .i64 0, .bool false, .int .i64 0, .int .u8 0, .bool false, .string ⟨#[]⟩, .string ⟨#[]⟩, (.slice none 0 0), .slice none 0 0] := rfl
        rw [ev]
        have KA := Lib.hid (kk.alloc (.cells #[.int .i64 0, .int .i64 0, .bool false, .int .i64 0, .int .u8 0, .bool false, .string ⟨#[]⟩, .string ⟨#[]⟩, (.slice none 0 0), .slice none 0 0] 26))
        have AX := Lib.hid (AW.out _ KA.out)
        have hd2 : decide ((99 : Int) < (j : Int)) = true := decide_eq_true (by omega)
        clear hp PX kk hd ev
        go_wp2_with fail
        refine AX.out.mono ?_
        rintro e w2 ⟨rfl, k2⟩
        have K2 := Lib.hid (KA.out.trans k2)
        clear k2
        go_wp2_with fail
        go_ret
        exact ⟨rfl, K2.out⟩
      · have hd2 : decide ((99 : Int) < (j : Int)) = false := decide_eq_false (by omega)
        obtain ⟨kv, v, rfl, hk, _, _⟩ := hp.open (deep_low (by omega))
        obtain ⟨ao0, cap0, ekv0, _, _, _⟩ := hk.slice
        have ekv1 : kv = .slice ao0 1 cap0 := ekv0
        subst ekv1
        clear ekv0
        have ev : blkV 1 0 false 0 0 false [] [] (.slice ao0 1 cap0) = .agg #[.int .i64 1, .int .i64 0, .bool false, .int .i64 0, .int .u8 0, .bool false, .string ⟨#[]⟩, .string ⟨#[]⟩, .slice ao0 1 cap0, .slice none 0 0] := rfl
        rw [ev]
        have KA := Lib.hid (kk.alloc (.cells #[.int .i64 1, .int .i64 0, .bool false, .int .i64 0, .int .u8 0, .bool false, .string ⟨#[]⟩, .string ⟨#[]⟩, .slice ao0 1 cap0, .slice none 0 0] 26))
        have HK := Lib.hid (hk.keep (Nat.le_refl _) ((Keeps.refl w1).alloc (.cells #[.int .i64 1, .int .i64 0, .bool false, .int .i64 0, .int .u8 0, .bool false, .string ⟨#[]⟩, .string ⟨#[]⟩, .slice ao0 1 cap0, .slice none 0 0] 26)))
        have HB := Lib.hid (Blk.new w1 26 #[.int .i64 1, .int .i64 0, .bool false, .int .i64 0, .int .u8 0, .bool false, .string ⟨#[]⟩, .string ⟨#[]⟩, .slice ao0 1 cap0, .slice none 0 0])
        have HS := Lib.hid kk.size
        clear hp PX kk hk ev
        go_wp2_with fail
        generalize w1.alloc (.cells #[.int .i64 1, .int .i64 0, .bool false, .int .i64 0, .int .u8 0, .bool false, .string ⟨#[]⟩, .string ⟨#[]⟩, .slice ao0 1 cap0, .slice none 0 0] 26) = w2 at *
        obtain ⟨bb, hbb⟩ : ∃ bb, w1.heap.size = bb := ⟨_, rfl⟩
        rw [hbb] at HB HK HS ⊢
        clear hbb
        go_loopw [9] (fun x wr => ∃ (m : Nat) (q : Int) (kv : Value), x = .int .i64 m ∧ m ≤ j ∧ Hid (Blk wr bb 26 #[.int .i64 q, .int .i64 0, .bool false, .int .i64 0, .int .u8 0, .bool false, .string ⟨#[]⟩, .string ⟨#[]⟩, kv, .slice none 0 0]) ∧ Hid (Kids wr w.heap.size bb [deepT (j - m)] kv) ∧ Hid (Keeps w wr)) (fun x _ => j - (RowKit.intOf x).toNat)
        case atStart => exact ⟨0, 1, .slice ao0 1 cap0, rfl, Nat.zero_le _, HB, HK, KA⟩
        case round =>
          obtain ⟨m, q, kv, rfl, hm, HB, HK, HW⟩ := hrel
          obtain ⟨ao, cap, ekv, hc1, hc2, hg⟩ := HK.out.slice
          obtain ⟨g, rfl⟩ := hg Nat.one_pos
          have ekv2 : kv = .slice (some ⟨g, 0, none⟩) 1 cap := ekv
          subst ekv2
          have x8 : wr.cell? ⟨bb, 8, none⟩ = some (.slice (some ⟨g, 0, none⟩) 1 cap) := HB.out.cell 8 rfl
          by_cases c : m < j
          · have hjm : (m : Int) < (j : Int) := by omega
            have hdp : deepT (j - m) = .mk 2 0 false 0 0 false [] [] [deepT (j - (m + 1))] := by
              rw [show j - m = (j - (m + 1)) + 1 by omega]; rfl
            obtain ⟨kv2, a, hk2⟩ := HK.out.at (i := 0) (by rw [hdp]; rfl)
            have q0 : wr.cell? ⟨g, 0, none⟩ = some (.int .i64 2) := a.c0
            have q1 : wr.cell? ⟨g, 1, none⟩ = some (.int .i64 0) := a.c1
            have q2 : wr.cell? ⟨g, 2, none⟩ = some (.bool false) := a.c2
            have q3 : wr.cell? ⟨g, 3, none⟩ = some (.int .i64 0) := a.c3
            have q4 : wr.cell? ⟨g, 4, none⟩ = some (.int .u8 0) := a.c4
            have q5 : wr.cell? ⟨g, 5, none⟩ = some (.bool false) := a.c5
            have q6 : wr.cell? ⟨g, 6, none⟩ = some (.string ⟨#[]⟩) := a.c6
            have q7 : wr.cell? ⟨g, 7, none⟩ = some (.string ⟨#[]⟩) := a.c7
            have q8 : wr.cell? ⟨g, 8, none⟩ = some kv2 := a.c8
            have q9 : wr.cell? ⟨g, 9, none⟩ = some (.slice none 0 0) := a.c9
            obtain ⟨ao2, cap2, ekv2, _, _, _⟩ := hk2.slice
            have hone : kv2.oneCell' = true := by rw [ekv2]; rfl
            obtain ⟨C, hC⟩ : ∃ C : Array Value, (#[.int .i64 2, .int .i64 0, .bool false, .int .i64 0, .int .u8 0, .bool false, .string ⟨#[]⟩, .string ⟨#[]⟩, kv2, .slice none 0 0] : Array Value) = C := ⟨_, rfl⟩
            have hCs : C.size = 10 := by rw [← hC]; rfl
            have hst := store_ten (C := C) HB.out rfl hCs (by rw [← hC]; exact (blkT_one 2 0 false 0 0 false [] [] hone).2)
            have B2 := setRow_heap wr bb _ C _ _ HB.out
            have HB2 : Hid (Blk (wr.setRow bb C) bb 26 #[.int .i64 2, .int .i64 0, .bool false, .int .i64 0, .int .u8 0, .bool false, .string ⟨#[]⟩, .string ⟨#[]⟩, kv2, .slice none 0 0]) := Lib.hid (by rw [hC]; exact B2)
            have HK2 := Lib.hid (hk2.over (W' := wr.setRow bb C) (fun b hb => setRow_other wr bb b C (by omega)))
            have HW2 := Lib.hid (below_setRow HW.out HS.out C)
            clear ekv ekv2 hk2 a B2 hdp HK HB HW hg
            go_wp2_with fail
            generalize wr.setRow bb C = w3 at *
            clear hst hC hCs q0 q1 q2 q3 q4 q5 q6 q7 q8 q9 x8
            go_roundw
            case rel => exact ⟨m + 1, 2, kv2, by go_num, by omega, HB2, HK2, HW2⟩
            case measure => simp [RowKit.intOf]; omega
          · have hjm : m = j := by omega
            subst hjm
            have hdp : deepT (m - m) = .mk 5 0 false 0 0 false [] [97] [] := by rw [Nat.sub_self]; rfl
            obtain ⟨kv2, a, hk2⟩ := HK.out.at (i := 0) (by rw [hdp]; rfl)
            have HA := Lib.hid a
            have AX := Lib.hid (AW.out _ HW.out)
            clear a hk2 hdp ekv hg
            go_wp2_with fail
            refine AX.out.mono ?_
            rintro e w3 ⟨rfl, k3⟩
            have K3 := Lib.hid (HW.out.trans k3)
            have q0 : w3.cell? ⟨g, 0, none⟩ = some (.int .i64 5) := (HA.out.keep k3).c0
            have q7 : w3.cell? ⟨g, 7, none⟩ = some (.string ⟨#[97]⟩) := (HA.out.keep k3).c7
            have x8' := keep_cell x8 k3
            clear k3 AX HA x8
            go_wp2_with fail
            go_ret
            exact ⟨rfl, K3.out⟩
end Go.Proofs.YtdelaanaohjnkaaGreatDoor

/-
  BlockItems is true of any number of items, tight and loose, with numbers and without.
-/
namespace Go.Proofs.YtdelaanaohjnkaaGreatDoor
open Go.RowKit Go.Lib

set_option maxRecDepth 100000 in
set_option maxHeartbeats 8000000 in
theorem bitems_ff (n : Nat) (hn : n < 256) (w : World) (hO : Lis w) (hM : Mxl w) :
    Calls Tryz.prog 7 #[.int .u8 (n : Nat), .bool false, .bool false] w fun e w' => e = .returned (.bool true) ∧ Keeps w w' := by
  have PA := Lib.hid (fun t (h : t.size ≤ 5000) => parse_any t w h hO hM)
  have AW := Lib.hid (fun W' (q : Keeps w W') => awake12_any W' (hO.keep q) (hM.keep q))
  clear hO hM
  obtain ⟨u, hu⟩ : ∃ u : Nat, (n : Int).tmod 20 = (u : Int) ∧ u < 20 := ⟨n % 20, by rw [Int.tmod_eq_emod_of_nonneg (by omega)]; omega, by omega⟩
  obtain ⟨hu1, hu2⟩ := hu
  obtain ⟨k, hk⟩ : ∃ k : Nat, k = 2 + u := ⟨_, rfl⟩
  have hk1 : (2 : Int) + (u : Int) = (k : Int) := by omega
  have hk2 : 2 ≤ k ∧ k ≤ 21 := by omega
  clear hk hn
  go_enter Tryz.func7, Tryz.ntmps7
  go_wp2_with fail
  clear hu1 hu2
  obtain ⟨hk3, hk4⟩ := hk2
  go_loop [8, 9] (fun x i => ∃ (j : Nat) (acc : ByteArray), j ≤ k ∧ i = .int .i64 j ∧ x = .string acc ∧ acc.size ≤ 9 * j ∧ Hid (acc.data.toList = itmsL j false false)) (fun _ i => k - (RowKit.intOf i).toNat)
  case atStart => exact ⟨0, ⟨#[]⟩, Nat.zero_le _, rfl, rfl, by decide, Lib.hid rfl⟩
  case round =>
    obtain ⟨j, acc, hj, rfl, rfl, hsz, HA⟩ := hrel
    by_cases c : j < k
    · have HA2 : Hid (((acc ++ (⟨#[45, 32, 119, 111, 114, 100, 10]⟩ : ByteArray))).data.toList = itmsL (j + 1) false false) := Lib.hid (by
        rw [itmsL, ← HA.out]
        simp [oneL, wrdL])
      have hs2 : ((acc ++ (⟨#[45, 32, 119, 111, 114, 100, 10]⟩ : ByteArray))).size ≤ 9 * (j + 1) := by
        rw [ByteArray.size_append]
        have z1 : (⟨#[45, 32, 119, 111, 114, 100, 10]⟩ : ByteArray).size = 7 := rfl
        omega
      have hjn : (j : Int) < (k : Int) := by omega
      go_wp2_with fail
      go_round
      case rel => exact ⟨j + 1, (acc ++ (⟨#[45, 32, 119, 111, 114, 100, 10]⟩ : ByteArray)), by omega, by go_num, rfl, hs2, HA2⟩
      case measure => simp [RowKit.intOf]; omega
    · have hjn : j = k := by omega
      subst hjn
      have PX := Lib.hid (PA.out acc (by omega))
      rw [HA.out, itms_parse hk3 hk4] at PX
      clear PA HA
      go_wp2_with fail
      refine PX.out.mono ?_
      rintro e w1 ⟨kk, hp⟩
      obtain ⟨kv, v, rfl, hk, _, _⟩ := hp.open rfl
      obtain ⟨ao0, cap0, ekv0, _, _, hg0⟩ := hk.slice
      obtain ⟨g, rfl⟩ := hg0 Nat.one_pos
      have ekv1 : kv = .slice (some ⟨g, 0, none⟩) 1 cap0 := ekv0
      subst ekv1
      have ev : blkV 1 0 false 0 0 false [] [] (.slice (some ⟨g, 0, none⟩) 1 cap0) = .agg #[.int .i64 1, .int .i64 0, .bool false, .int .i64 0, .int .u8 0, .bool false, .string ⟨#[]⟩, .string ⟨#[]⟩, (.slice (some ⟨g, 0, none⟩) 1 cap0), .slice none 0 0] := rfl
      rw [ev]
      have KA := (Keeps.refl w1).alloc (.cells #[.int .i64 1, .int .i64 0, .bool false, .int .i64 0, .int .u8 0, .bool false, .string ⟨#[]⟩, .string ⟨#[]⟩, (.slice (some ⟨g, 0, none⟩) 1 cap0), .slice none 0 0] 26)
      have KE := Lib.hid (kk.trans KA)
      have hk := hk.keep (Nat.le_refl _) KA
      have hhi := (show w1.heap.size ≤ (w1.alloc (.cells #[.int .i64 1, .int .i64 0, .bool false, .int .i64 0, .int .u8 0, .bool false, .string ⟨#[]⟩, .string ⟨#[]⟩, (.slice (some ⟨g, 0, none⟩) 1 cap0), .slice none 0 0] 26)).heap.size from KA.size)
      have x8 := (Blk.new w1 26 #[.int .i64 1, .int .i64 0, .bool false, .int .i64 0, .int .u8 0, .bool false, .string ⟨#[]⟩, .string ⟨#[]⟩, (.slice (some ⟨g, 0, none⟩) 1 cap0), .slice none 0 0]).cell 8 (v := .slice (some ⟨g, 0, none⟩) 1 cap0) rfl
      obtain ⟨kv2, a, hk2⟩ := hk.at (i := 0) rfl
      obtain ⟨ao2, cap2, ekv2, hc2, hm2, hg2⟩ := hk2.slice
      rw [List.length_replicate] at ekv2 hc2 hg2
      obtain ⟨g2, rfl⟩ := hg2 (by omega)
      subst ekv2
      have q0 : (w1.alloc (.cells #[.int .i64 1, .int .i64 0, .bool false, .int .i64 0, .int .u8 0, .bool false, .string ⟨#[]⟩, .string ⟨#[]⟩, (.slice (some ⟨g, 0, none⟩) 1 cap0), .slice none 0 0] 26)).cell? ⟨g, 0, none⟩ = some (.int .i64 3) := a.c0
      have q2 : (w1.alloc (.cells #[.int .i64 1, .int .i64 0, .bool false, .int .i64 0, .int .u8 0, .bool false, .string ⟨#[]⟩, .string ⟨#[]⟩, (.slice (some ⟨g, 0, none⟩) 1 cap0), .slice none 0 0] 26)).cell? ⟨g, 2, none⟩ = some (.bool false) := a.c2
      have q5 : (w1.alloc (.cells #[.int .i64 1, .int .i64 0, .bool false, .int .i64 0, .int .u8 0, .bool false, .string ⟨#[]⟩, .string ⟨#[]⟩, (.slice (some ⟨g, 0, none⟩) 1 cap0), .slice none 0 0] 26)).cell? ⟨g, 5, none⟩ = some (.bool true) := a.c5
      have q8 : (w1.alloc (.cells #[.int .i64 1, .int .i64 0, .bool false, .int .i64 0, .int .u8 0, .bool false, .string ⟨#[]⟩, .string ⟨#[]⟩, (.slice (some ⟨g, 0, none⟩) 1 cap0), .slice none 0 0] 26)).cell? ⟨g, 8, none⟩ = some (.slice (some ⟨g2, 0, none⟩) j cap2) := a.c8
      have t1 : ((j : Int) != (j : Int)) = false := by rw [bne, beq_self_eq_true]; rfl
      have HK2 : Hid (Kids (w1.alloc (.cells #[.int .i64 1, .int .i64 0, .bool false, .int .i64 0, .int .u8 0, .bool false, .string ⟨#[]⟩, .string ⟨#[]⟩, (.slice (some ⟨g, 0, none⟩) 1 cap0), .slice none 0 0] 26)) w.heap.size w1.heap.size (List.replicate j (itmT [parT wrdL])) (.slice (some ⟨g2, 0, none⟩) (List.replicate j (itmT [parT wrdL])).length cap2)) := Lib.hid (by rw [List.length_replicate]; exact hk2)
      have HHI := Lib.hid hhi
      obtain ⟨bb, hbb⟩ : ∃ bb, w1.heap.size = bb := ⟨_, rfl⟩
      clear hp PX kk hk KA ev hg0 hg2 ekv0 hk2 hhi a
      go_wp2_with fail
      generalize w1.alloc (.cells #[.int .i64 1, .int .i64 0, .bool false, .int .i64 0, .int .u8 0, .bool false, .string ⟨#[]⟩, .string ⟨#[]⟩, (.slice (some ⟨g, 0, none⟩) 1 cap0), .slice none 0 0] 26) = w2 at *
      rw [hbb] at x8 HK2 HHI
      clear hbb q0 q2 q5 t1
      go_loopw [13] (fun x wr => ∃ (m : Nat), x = .int .i64 m ∧ m ≤ j ∧ Hid (Keeps w2 wr)) (fun x _ => j - (RowKit.intOf x).toNat)
      case atStart => exact ⟨0, rfl, Nat.zero_le _, Lib.hid (Keeps.refl _)⟩
      case round =>
        obtain ⟨m, rfl, hm, HW⟩ := hrel
        by_cases c : m < j
        · have y8 := keep_cell x8 HW.out
          have z8 := keep_cell q8 HW.out
          have hkw := HK2.out.keep HHI.out HW.out
          obtain ⟨kv3, a3, hk3'⟩ := hkw.at (i := m) (by rw [List.getElem?_replicate, if_pos c]; rfl)
          obtain ⟨ao3, cap3, ekv3, _, _, hg3⟩ := hk3'.slice
          obtain ⟨g3, rfl⟩ := hg3 Nat.one_pos
          have ekv4 : kv3 = .slice (some ⟨g3, 0, none⟩) 1 cap3 := ekv3
          subst ekv4
          have r0 : wr.cell? ⟨g2, m * 10, none⟩ = some (.int .i64 4) := a3.c0
          have r1 : wr.cell? ⟨g2, m * 10 + 1, none⟩ = some (.int .i64 0) := a3.c1
          have r2 : wr.cell? ⟨g2, m * 10 + 2, none⟩ = some (.bool false) := a3.c2
          have r3 : wr.cell? ⟨g2, m * 10 + 3, none⟩ = some (.int .i64 0) := a3.c3
          have r4 : wr.cell? ⟨g2, m * 10 + 4, none⟩ = some (.int .u8 0) := a3.c4
          have r5 : wr.cell? ⟨g2, m * 10 + 5, none⟩ = some (.bool false) := a3.c5
          have r6 : wr.cell? ⟨g2, m * 10 + 6, none⟩ = some (.string ⟨#[]⟩) := a3.c6
          have r7 : wr.cell? ⟨g2, m * 10 + 7, none⟩ = some (.string ⟨#[]⟩) := a3.c7
          have r8 : wr.cell? ⟨g2, m * 10 + 8, none⟩ = some (.slice (some ⟨g3, 0, none⟩) 1 cap3) := a3.c8
          have r9 : wr.cell? ⟨g2, m * 10 + 9, none⟩ = some (.slice none 0 0) := a3.c9
          have KB := HW.out.alloc (.cells #[.int .i64 4, .int .i64 0, .bool false, .int .i64 0, .int .u8 0, .bool false, .string ⟨#[]⟩, .string ⟨#[]⟩, (.slice (some ⟨g3, 0, none⟩) 1 cap3), .slice none 0 0] 26)
          have KB1 := (Keeps.refl wr).alloc (.cells #[.int .i64 4, .int .i64 0, .bool false, .int .i64 0, .int .u8 0, .bool false, .string ⟨#[]⟩, .string ⟨#[]⟩, (.slice (some ⟨g3, 0, none⟩) 1 cap3), .slice none 0 0] 26)
          have w8 := (Blk.new wr 26 #[.int .i64 4, .int .i64 0, .bool false, .int .i64 0, .int .u8 0, .bool false, .string ⟨#[]⟩, .string ⟨#[]⟩, (.slice (some ⟨g3, 0, none⟩) 1 cap3), .slice none 0 0]).cell 8 (v := .slice (some ⟨g3, 0, none⟩) 1 cap3) rfl
          obtain ⟨kv5, a5, _⟩ := (hk3'.keep (Nat.le_trans HHI.out HW.out.size) KB1).at (i := 0) rfl
          have p0 : (wr.alloc (.cells #[.int .i64 4, .int .i64 0, .bool false, .int .i64 0, .int .u8 0, .bool false, .string ⟨#[]⟩, .string ⟨#[]⟩, (.slice (some ⟨g3, 0, none⟩) 1 cap3), .slice none 0 0] 26)).cell? ⟨g3, 0, none⟩ = some (.int .i64 5) := a5.c0
          have p7 : (wr.alloc (.cells #[.int .i64 4, .int .i64 0, .bool false, .int .i64 0, .int .u8 0, .bool false, .string ⟨#[]⟩, .string ⟨#[]⟩, (.slice (some ⟨g3, 0, none⟩) 1 cap3), .slice none 0 0] 26)).cell? ⟨g3, 7, none⟩ = some (.string ⟨#[119, 111, 114, 100]⟩) := a5.c7
          have HB := Lib.hid KB
          have hmj : (m : Int) < (j : Int) := by omega
          clear KB KB1 a3 a5 hkw hk3' hg3 ekv3 HK2 q8 x8
          go_wp2_with fail
          go_roundw
          case rel => exact ⟨m + 1, by go_num, by omega, HB⟩
          case measure => simp [RowKit.intOf]; omega
        · have hjm : m = j := by omega
          subst hjm
          have AX := Lib.hid (AW.out _ (KE.out.trans HW.out))
          have HW2 := Lib.hid (KE.out.trans HW.out)
          clear HK2 q8 x8
          go_wp2_with fail
          refine AX.out.mono ?_
          rintro e w3 ⟨rfl, k3⟩
          have K3 := Lib.hid (HW2.out.trans k3)
          clear k3 AX
          go_wp2_with fail
          go_ret
          exact ⟨rfl, K3.out⟩

set_option maxRecDepth 100000 in
set_option maxHeartbeats 8000000 in
theorem bitems_ft (n : Nat) (hn : n < 256) (w : World) (hO : Lis w) (hM : Mxl w) :
    Calls Tryz.prog 7 #[.int .u8 (n : Nat), .bool false, .bool true] w fun e w' => e = .returned (.bool true) ∧ Keeps w w' := by
  have PA := Lib.hid (fun t (h : t.size ≤ 5000) => parse_any t w h hO hM)
  have AW := Lib.hid (fun W' (q : Keeps w W') => awake12_any W' (hO.keep q) (hM.keep q))
  clear hO hM
  obtain ⟨u, hu⟩ : ∃ u : Nat, (n : Int).tmod 20 = (u : Int) ∧ u < 20 := ⟨n % 20, by rw [Int.tmod_eq_emod_of_nonneg (by omega)]; omega, by omega⟩
  obtain ⟨hu1, hu2⟩ := hu
  obtain ⟨k, hk⟩ : ∃ k : Nat, k = 2 + u := ⟨_, rfl⟩
  have hk1 : (2 : Int) + (u : Int) = (k : Int) := by omega
  have hk2 : 2 ≤ k ∧ k ≤ 21 := by omega
  clear hk hn
  go_enter Tryz.func7, Tryz.ntmps7
  go_wp2_with fail
  clear hu1 hu2
  obtain ⟨hk3, hk4⟩ := hk2
  go_loop [8, 9] (fun x i => ∃ (j : Nat) (acc : ByteArray), j ≤ k ∧ i = .int .i64 j ∧ x = .string acc ∧ acc.size ≤ 9 * j ∧ Hid (acc.data.toList = itmsL j false true)) (fun _ i => k - (RowKit.intOf i).toNat)
  case atStart => exact ⟨0, ⟨#[]⟩, Nat.zero_le _, rfl, rfl, by decide, Lib.hid rfl⟩
  case round =>
    obtain ⟨j, acc, hj, rfl, rfl, hsz, HA⟩ := hrel
    by_cases c : j < k
    · have HA2 : Hid (((acc ++ (⟨#[49, 46, 32, 119, 111, 114, 100, 10]⟩ : ByteArray))).data.toList = itmsL (j + 1) false true) := Lib.hid (by
        rw [itmsL, ← HA.out]
        simp [oneL, wrdL])
      have hs2 : ((acc ++ (⟨#[49, 46, 32, 119, 111, 114, 100, 10]⟩ : ByteArray))).size ≤ 9 * (j + 1) := by
        rw [ByteArray.size_append]
        have z1 : (⟨#[49, 46, 32, 119, 111, 114, 100, 10]⟩ : ByteArray).size = 8 := rfl
        omega
      have hjn : (j : Int) < (k : Int) := by omega
      go_wp2_with fail
      go_round
      case rel => exact ⟨j + 1, (acc ++ (⟨#[49, 46, 32, 119, 111, 114, 100, 10]⟩ : ByteArray)), by omega, by go_num, rfl, hs2, HA2⟩
      case measure => simp [RowKit.intOf]; omega
    · have hjn : j = k := by omega
      subst hjn
      have PX := Lib.hid (PA.out acc (by omega))
      rw [HA.out, itms_parse hk3 hk4] at PX
      clear PA HA
      go_wp2_with fail
      refine PX.out.mono ?_
      rintro e w1 ⟨kk, hp⟩
      obtain ⟨kv, v, rfl, hk, _, _⟩ := hp.open rfl
      obtain ⟨ao0, cap0, ekv0, _, _, hg0⟩ := hk.slice
      obtain ⟨g, rfl⟩ := hg0 Nat.one_pos
      have ekv1 : kv = .slice (some ⟨g, 0, none⟩) 1 cap0 := ekv0
      subst ekv1
      have ev : blkV 1 0 false 0 0 false [] [] (.slice (some ⟨g, 0, none⟩) 1 cap0) = .agg #[.int .i64 1, .int .i64 0, .bool false, .int .i64 0, .int .u8 0, .bool false, .string ⟨#[]⟩, .string ⟨#[]⟩, (.slice (some ⟨g, 0, none⟩) 1 cap0), .slice none 0 0] := rfl
      rw [ev]
      have KA := (Keeps.refl w1).alloc (.cells #[.int .i64 1, .int .i64 0, .bool false, .int .i64 0, .int .u8 0, .bool false, .string ⟨#[]⟩, .string ⟨#[]⟩, (.slice (some ⟨g, 0, none⟩) 1 cap0), .slice none 0 0] 26)
      have KE := Lib.hid (kk.trans KA)
      have hk := hk.keep (Nat.le_refl _) KA
      have hhi := (show w1.heap.size ≤ (w1.alloc (.cells #[.int .i64 1, .int .i64 0, .bool false, .int .i64 0, .int .u8 0, .bool false, .string ⟨#[]⟩, .string ⟨#[]⟩, (.slice (some ⟨g, 0, none⟩) 1 cap0), .slice none 0 0] 26)).heap.size from KA.size)
      have x8 := (Blk.new w1 26 #[.int .i64 1, .int .i64 0, .bool false, .int .i64 0, .int .u8 0, .bool false, .string ⟨#[]⟩, .string ⟨#[]⟩, (.slice (some ⟨g, 0, none⟩) 1 cap0), .slice none 0 0]).cell 8 (v := .slice (some ⟨g, 0, none⟩) 1 cap0) rfl
      obtain ⟨kv2, a, hk2⟩ := hk.at (i := 0) rfl
      obtain ⟨ao2, cap2, ekv2, hc2, hm2, hg2⟩ := hk2.slice
      rw [List.length_replicate] at ekv2 hc2 hg2
      obtain ⟨g2, rfl⟩ := hg2 (by omega)
      subst ekv2
      have q0 : (w1.alloc (.cells #[.int .i64 1, .int .i64 0, .bool false, .int .i64 0, .int .u8 0, .bool false, .string ⟨#[]⟩, .string ⟨#[]⟩, (.slice (some ⟨g, 0, none⟩) 1 cap0), .slice none 0 0] 26)).cell? ⟨g, 0, none⟩ = some (.int .i64 3) := a.c0
      have q2 : (w1.alloc (.cells #[.int .i64 1, .int .i64 0, .bool false, .int .i64 0, .int .u8 0, .bool false, .string ⟨#[]⟩, .string ⟨#[]⟩, (.slice (some ⟨g, 0, none⟩) 1 cap0), .slice none 0 0] 26)).cell? ⟨g, 2, none⟩ = some (.bool true) := a.c2
      have q5 : (w1.alloc (.cells #[.int .i64 1, .int .i64 0, .bool false, .int .i64 0, .int .u8 0, .bool false, .string ⟨#[]⟩, .string ⟨#[]⟩, (.slice (some ⟨g, 0, none⟩) 1 cap0), .slice none 0 0] 26)).cell? ⟨g, 5, none⟩ = some (.bool true) := a.c5
      have q8 : (w1.alloc (.cells #[.int .i64 1, .int .i64 0, .bool false, .int .i64 0, .int .u8 0, .bool false, .string ⟨#[]⟩, .string ⟨#[]⟩, (.slice (some ⟨g, 0, none⟩) 1 cap0), .slice none 0 0] 26)).cell? ⟨g, 8, none⟩ = some (.slice (some ⟨g2, 0, none⟩) j cap2) := a.c8
      have t1 : ((j : Int) != (j : Int)) = false := by rw [bne, beq_self_eq_true]; rfl
      have HK2 : Hid (Kids (w1.alloc (.cells #[.int .i64 1, .int .i64 0, .bool false, .int .i64 0, .int .u8 0, .bool false, .string ⟨#[]⟩, .string ⟨#[]⟩, (.slice (some ⟨g, 0, none⟩) 1 cap0), .slice none 0 0] 26)) w.heap.size w1.heap.size (List.replicate j (itmT [parT wrdL])) (.slice (some ⟨g2, 0, none⟩) (List.replicate j (itmT [parT wrdL])).length cap2)) := Lib.hid (by rw [List.length_replicate]; exact hk2)
      have HHI := Lib.hid hhi
      obtain ⟨bb, hbb⟩ : ∃ bb, w1.heap.size = bb := ⟨_, rfl⟩
      clear hp PX kk hk KA ev hg0 hg2 ekv0 hk2 hhi a
      go_wp2_with fail
      generalize w1.alloc (.cells #[.int .i64 1, .int .i64 0, .bool false, .int .i64 0, .int .u8 0, .bool false, .string ⟨#[]⟩, .string ⟨#[]⟩, (.slice (some ⟨g, 0, none⟩) 1 cap0), .slice none 0 0] 26) = w2 at *
      rw [hbb] at x8 HK2 HHI
      clear hbb q0 q2 q5 t1
      go_loopw [13] (fun x wr => ∃ (m : Nat), x = .int .i64 m ∧ m ≤ j ∧ Hid (Keeps w2 wr)) (fun x _ => j - (RowKit.intOf x).toNat)
      case atStart => exact ⟨0, rfl, Nat.zero_le _, Lib.hid (Keeps.refl _)⟩
      case round =>
        obtain ⟨m, rfl, hm, HW⟩ := hrel
        by_cases c : m < j
        · have y8 := keep_cell x8 HW.out
          have z8 := keep_cell q8 HW.out
          have hkw := HK2.out.keep HHI.out HW.out
          obtain ⟨kv3, a3, hk3'⟩ := hkw.at (i := m) (by rw [List.getElem?_replicate, if_pos c]; rfl)
          obtain ⟨ao3, cap3, ekv3, _, _, hg3⟩ := hk3'.slice
          obtain ⟨g3, rfl⟩ := hg3 Nat.one_pos
          have ekv4 : kv3 = .slice (some ⟨g3, 0, none⟩) 1 cap3 := ekv3
          subst ekv4
          have r0 : wr.cell? ⟨g2, m * 10, none⟩ = some (.int .i64 4) := a3.c0
          have r1 : wr.cell? ⟨g2, m * 10 + 1, none⟩ = some (.int .i64 0) := a3.c1
          have r2 : wr.cell? ⟨g2, m * 10 + 2, none⟩ = some (.bool false) := a3.c2
          have r3 : wr.cell? ⟨g2, m * 10 + 3, none⟩ = some (.int .i64 0) := a3.c3
          have r4 : wr.cell? ⟨g2, m * 10 + 4, none⟩ = some (.int .u8 0) := a3.c4
          have r5 : wr.cell? ⟨g2, m * 10 + 5, none⟩ = some (.bool false) := a3.c5
          have r6 : wr.cell? ⟨g2, m * 10 + 6, none⟩ = some (.string ⟨#[]⟩) := a3.c6
          have r7 : wr.cell? ⟨g2, m * 10 + 7, none⟩ = some (.string ⟨#[]⟩) := a3.c7
          have r8 : wr.cell? ⟨g2, m * 10 + 8, none⟩ = some (.slice (some ⟨g3, 0, none⟩) 1 cap3) := a3.c8
          have r9 : wr.cell? ⟨g2, m * 10 + 9, none⟩ = some (.slice none 0 0) := a3.c9
          have KB := HW.out.alloc (.cells #[.int .i64 4, .int .i64 0, .bool false, .int .i64 0, .int .u8 0, .bool false, .string ⟨#[]⟩, .string ⟨#[]⟩, (.slice (some ⟨g3, 0, none⟩) 1 cap3), .slice none 0 0] 26)
          have KB1 := (Keeps.refl wr).alloc (.cells #[.int .i64 4, .int .i64 0, .bool false, .int .i64 0, .int .u8 0, .bool false, .string ⟨#[]⟩, .string ⟨#[]⟩, (.slice (some ⟨g3, 0, none⟩) 1 cap3), .slice none 0 0] 26)
          have w8 := (Blk.new wr 26 #[.int .i64 4, .int .i64 0, .bool false, .int .i64 0, .int .u8 0, .bool false, .string ⟨#[]⟩, .string ⟨#[]⟩, (.slice (some ⟨g3, 0, none⟩) 1 cap3), .slice none 0 0]).cell 8 (v := .slice (some ⟨g3, 0, none⟩) 1 cap3) rfl
          obtain ⟨kv5, a5, _⟩ := (hk3'.keep (Nat.le_trans HHI.out HW.out.size) KB1).at (i := 0) rfl
          have p0 : (wr.alloc (.cells #[.int .i64 4, .int .i64 0, .bool false, .int .i64 0, .int .u8 0, .bool false, .string ⟨#[]⟩, .string ⟨#[]⟩, (.slice (some ⟨g3, 0, none⟩) 1 cap3), .slice none 0 0] 26)).cell? ⟨g3, 0, none⟩ = some (.int .i64 5) := a5.c0
          have p7 : (wr.alloc (.cells #[.int .i64 4, .int .i64 0, .bool false, .int .i64 0, .int .u8 0, .bool false, .string ⟨#[]⟩, .string ⟨#[]⟩, (.slice (some ⟨g3, 0, none⟩) 1 cap3), .slice none 0 0] 26)).cell? ⟨g3, 7, none⟩ = some (.string ⟨#[119, 111, 114, 100]⟩) := a5.c7
          have HB := Lib.hid KB
          have hmj : (m : Int) < (j : Int) := by omega
          clear KB KB1 a3 a5 hkw hk3' hg3 ekv3 HK2 q8 x8
          go_wp2_with fail
          go_roundw
          case rel => exact ⟨m + 1, by go_num, by omega, HB⟩
          case measure => simp [RowKit.intOf]; omega
        · have hjm : m = j := by omega
          subst hjm
          have AX := Lib.hid (AW.out _ (KE.out.trans HW.out))
          have HW2 := Lib.hid (KE.out.trans HW.out)
          clear HK2 q8 x8
          go_wp2_with fail
          refine AX.out.mono ?_
          rintro e w3 ⟨rfl, k3⟩
          have K3 := Lib.hid (HW2.out.trans k3)
          clear k3 AX
          go_wp2_with fail
          go_ret
          exact ⟨rfl, K3.out⟩

set_option maxRecDepth 100000 in
set_option maxHeartbeats 8000000 in
theorem bitems_tf (n : Nat) (hn : n < 256) (w : World) (hO : Lis w) (hM : Mxl w) :
    Calls Tryz.prog 7 #[.int .u8 (n : Nat), .bool true, .bool false] w fun e w' => e = .returned (.bool true) ∧ Keeps w w' := by
  have PA := Lib.hid (fun t (h : t.size ≤ 5000) => parse_any t w h hO hM)
  have AW := Lib.hid (fun W' (q : Keeps w W') => awake12_any W' (hO.keep q) (hM.keep q))
  clear hO hM
  obtain ⟨u, hu⟩ : ∃ u : Nat, (n : Int).tmod 20 = (u : Int) ∧ u < 20 := ⟨n % 20, by rw [Int.tmod_eq_emod_of_nonneg (by omega)]; omega, by omega⟩
  obtain ⟨hu1, hu2⟩ := hu
  obtain ⟨k, hk⟩ : ∃ k : Nat, k = 2 + u := ⟨_, rfl⟩
  have hk1 : (2 : Int) + (u : Int) = (k : Int) := by omega
  have hk2 : 2 ≤ k ∧ k ≤ 21 := by omega
  clear hk hn
  go_enter Tryz.func7, Tryz.ntmps7
  go_wp2_with fail
  clear hu1 hu2
  obtain ⟨hk3, hk4⟩ := hk2
  go_loop [8, 9] (fun x i => ∃ (j : Nat) (acc : ByteArray), j ≤ k ∧ i = .int .i64 j ∧ x = .string acc ∧ acc.size ≤ 9 * j ∧ Hid (acc.data.toList = itmsL j true false)) (fun _ i => k - (RowKit.intOf i).toNat)
  case atStart => exact ⟨0, ⟨#[]⟩, Nat.zero_le _, rfl, rfl, by decide, Lib.hid rfl⟩
  case round =>
    obtain ⟨j, acc, hj, rfl, rfl, hsz, HA⟩ := hrel
    by_cases c : j < k
    · have HA2 : Hid (((acc ++ (⟨#[45, 32, 119, 111, 114, 100, 10]⟩ : ByteArray)) ++ (⟨#[10]⟩ : ByteArray)).data.toList = itmsL (j + 1) true false) := Lib.hid (by
        rw [itmsL, ← HA.out]
        simp [oneL, wrdL])
      have hs2 : ((acc ++ (⟨#[45, 32, 119, 111, 114, 100, 10]⟩ : ByteArray)) ++ (⟨#[10]⟩ : ByteArray)).size ≤ 9 * (j + 1) := by
        rw [ByteArray.size_append, ByteArray.size_append]
        have z1 : (⟨#[45, 32, 119, 111, 114, 100, 10]⟩ : ByteArray).size = 7 := rfl
        have z2 : (⟨#[10]⟩ : ByteArray).size = 1 := rfl
        omega
      have hjn : (j : Int) < (k : Int) := by omega
      go_wp2_with fail
      go_round
      case rel => exact ⟨j + 1, (acc ++ (⟨#[45, 32, 119, 111, 114, 100, 10]⟩ : ByteArray)) ++ (⟨#[10]⟩ : ByteArray), by omega, by go_num, rfl, hs2, HA2⟩
      case measure => simp [RowKit.intOf]; omega
    · have hjn : j = k := by omega
      subst hjn
      have PX := Lib.hid (PA.out acc (by omega))
      rw [HA.out, itms_parse hk3 hk4] at PX
      clear PA HA
      go_wp2_with fail
      refine PX.out.mono ?_
      rintro e w1 ⟨kk, hp⟩
      obtain ⟨kv, v, rfl, hk, _, _⟩ := hp.open rfl
      obtain ⟨ao0, cap0, ekv0, _, _, hg0⟩ := hk.slice
      obtain ⟨g, rfl⟩ := hg0 Nat.one_pos
      have ekv1 : kv = .slice (some ⟨g, 0, none⟩) 1 cap0 := ekv0
      subst ekv1
      have ev : blkV 1 0 false 0 0 false [] [] (.slice (some ⟨g, 0, none⟩) 1 cap0) = .agg #[.int .i64 1, .int .i64 0, .bool false, .int .i64 0, .int .u8 0, .bool false, .string ⟨#[]⟩, .string ⟨#[]⟩, (.slice (some ⟨g, 0, none⟩) 1 cap0), .slice none 0 0] := rfl
      rw [ev]
      have KA := (Keeps.refl w1).alloc (.cells #[.int .i64 1, .int .i64 0, .bool false, .int .i64 0, .int .u8 0, .bool false, .string ⟨#[]⟩, .string ⟨#[]⟩, (.slice (some ⟨g, 0, none⟩) 1 cap0), .slice none 0 0] 26)
      have KE := Lib.hid (kk.trans KA)
      have hk := hk.keep (Nat.le_refl _) KA
      have hhi := (show w1.heap.size ≤ (w1.alloc (.cells #[.int .i64 1, .int .i64 0, .bool false, .int .i64 0, .int .u8 0, .bool false, .string ⟨#[]⟩, .string ⟨#[]⟩, (.slice (some ⟨g, 0, none⟩) 1 cap0), .slice none 0 0] 26)).heap.size from KA.size)
      have x8 := (Blk.new w1 26 #[.int .i64 1, .int .i64 0, .bool false, .int .i64 0, .int .u8 0, .bool false, .string ⟨#[]⟩, .string ⟨#[]⟩, (.slice (some ⟨g, 0, none⟩) 1 cap0), .slice none 0 0]).cell 8 (v := .slice (some ⟨g, 0, none⟩) 1 cap0) rfl
      obtain ⟨kv2, a, hk2⟩ := hk.at (i := 0) rfl
      obtain ⟨ao2, cap2, ekv2, hc2, hm2, hg2⟩ := hk2.slice
      rw [List.length_replicate] at ekv2 hc2 hg2
      obtain ⟨g2, rfl⟩ := hg2 (by omega)
      subst ekv2
      have q0 : (w1.alloc (.cells #[.int .i64 1, .int .i64 0, .bool false, .int .i64 0, .int .u8 0, .bool false, .string ⟨#[]⟩, .string ⟨#[]⟩, (.slice (some ⟨g, 0, none⟩) 1 cap0), .slice none 0 0] 26)).cell? ⟨g, 0, none⟩ = some (.int .i64 3) := a.c0
      have q2 : (w1.alloc (.cells #[.int .i64 1, .int .i64 0, .bool false, .int .i64 0, .int .u8 0, .bool false, .string ⟨#[]⟩, .string ⟨#[]⟩, (.slice (some ⟨g, 0, none⟩) 1 cap0), .slice none 0 0] 26)).cell? ⟨g, 2, none⟩ = some (.bool false) := a.c2
      have q5 : (w1.alloc (.cells #[.int .i64 1, .int .i64 0, .bool false, .int .i64 0, .int .u8 0, .bool false, .string ⟨#[]⟩, .string ⟨#[]⟩, (.slice (some ⟨g, 0, none⟩) 1 cap0), .slice none 0 0] 26)).cell? ⟨g, 5, none⟩ = some (.bool false) := a.c5
      have q8 : (w1.alloc (.cells #[.int .i64 1, .int .i64 0, .bool false, .int .i64 0, .int .u8 0, .bool false, .string ⟨#[]⟩, .string ⟨#[]⟩, (.slice (some ⟨g, 0, none⟩) 1 cap0), .slice none 0 0] 26)).cell? ⟨g, 8, none⟩ = some (.slice (some ⟨g2, 0, none⟩) j cap2) := a.c8
      have t1 : ((j : Int) != (j : Int)) = false := by rw [bne, beq_self_eq_true]; rfl
      have HK2 : Hid (Kids (w1.alloc (.cells #[.int .i64 1, .int .i64 0, .bool false, .int .i64 0, .int .u8 0, .bool false, .string ⟨#[]⟩, .string ⟨#[]⟩, (.slice (some ⟨g, 0, none⟩) 1 cap0), .slice none 0 0] 26)) w.heap.size w1.heap.size (List.replicate j (itmT [parT wrdL])) (.slice (some ⟨g2, 0, none⟩) (List.replicate j (itmT [parT wrdL])).length cap2)) := Lib.hid (by rw [List.length_replicate]; exact hk2)
      have HHI := Lib.hid hhi
      obtain ⟨bb, hbb⟩ : ∃ bb, w1.heap.size = bb := ⟨_, rfl⟩
      clear hp PX kk hk KA ev hg0 hg2 ekv0 hk2 hhi a
      go_wp2_with fail
      generalize w1.alloc (.cells #[.int .i64 1, .int .i64 0, .bool false, .int .i64 0, .int .u8 0, .bool false, .string ⟨#[]⟩, .string ⟨#[]⟩, (.slice (some ⟨g, 0, none⟩) 1 cap0), .slice none 0 0] 26) = w2 at *
      rw [hbb] at x8 HK2 HHI
      clear hbb q0 q2 q5 t1
      go_loopw [13] (fun x wr => ∃ (m : Nat), x = .int .i64 m ∧ m ≤ j ∧ Hid (Keeps w2 wr)) (fun x _ => j - (RowKit.intOf x).toNat)
      case atStart => exact ⟨0, rfl, Nat.zero_le _, Lib.hid (Keeps.refl _)⟩
      case round =>
        obtain ⟨m, rfl, hm, HW⟩ := hrel
        by_cases c : m < j
        · have y8 := keep_cell x8 HW.out
          have z8 := keep_cell q8 HW.out
          have hkw := HK2.out.keep HHI.out HW.out
          obtain ⟨kv3, a3, hk3'⟩ := hkw.at (i := m) (by rw [List.getElem?_replicate, if_pos c]; rfl)
          obtain ⟨ao3, cap3, ekv3, _, _, hg3⟩ := hk3'.slice
          obtain ⟨g3, rfl⟩ := hg3 Nat.one_pos
          have ekv4 : kv3 = .slice (some ⟨g3, 0, none⟩) 1 cap3 := ekv3
          subst ekv4
          have r0 : wr.cell? ⟨g2, m * 10, none⟩ = some (.int .i64 4) := a3.c0
          have r1 : wr.cell? ⟨g2, m * 10 + 1, none⟩ = some (.int .i64 0) := a3.c1
          have r2 : wr.cell? ⟨g2, m * 10 + 2, none⟩ = some (.bool false) := a3.c2
          have r3 : wr.cell? ⟨g2, m * 10 + 3, none⟩ = some (.int .i64 0) := a3.c3
          have r4 : wr.cell? ⟨g2, m * 10 + 4, none⟩ = some (.int .u8 0) := a3.c4
          have r5 : wr.cell? ⟨g2, m * 10 + 5, none⟩ = some (.bool false) := a3.c5
          have r6 : wr.cell? ⟨g2, m * 10 + 6, none⟩ = some (.string ⟨#[]⟩) := a3.c6
          have r7 : wr.cell? ⟨g2, m * 10 + 7, none⟩ = some (.string ⟨#[]⟩) := a3.c7
          have r8 : wr.cell? ⟨g2, m * 10 + 8, none⟩ = some (.slice (some ⟨g3, 0, none⟩) 1 cap3) := a3.c8
          have r9 : wr.cell? ⟨g2, m * 10 + 9, none⟩ = some (.slice none 0 0) := a3.c9
          have KB := HW.out.alloc (.cells #[.int .i64 4, .int .i64 0, .bool false, .int .i64 0, .int .u8 0, .bool false, .string ⟨#[]⟩, .string ⟨#[]⟩, (.slice (some ⟨g3, 0, none⟩) 1 cap3), .slice none 0 0] 26)
          have KB1 := (Keeps.refl wr).alloc (.cells #[.int .i64 4, .int .i64 0, .bool false, .int .i64 0, .int .u8 0, .bool false, .string ⟨#[]⟩, .string ⟨#[]⟩, (.slice (some ⟨g3, 0, none⟩) 1 cap3), .slice none 0 0] 26)
          have w8 := (Blk.new wr 26 #[.int .i64 4, .int .i64 0, .bool false, .int .i64 0, .int .u8 0, .bool false, .string ⟨#[]⟩, .string ⟨#[]⟩, (.slice (some ⟨g3, 0, none⟩) 1 cap3), .slice none 0 0]).cell 8 (v := .slice (some ⟨g3, 0, none⟩) 1 cap3) rfl
          obtain ⟨kv5, a5, _⟩ := (hk3'.keep (Nat.le_trans HHI.out HW.out.size) KB1).at (i := 0) rfl
          have p0 : (wr.alloc (.cells #[.int .i64 4, .int .i64 0, .bool false, .int .i64 0, .int .u8 0, .bool false, .string ⟨#[]⟩, .string ⟨#[]⟩, (.slice (some ⟨g3, 0, none⟩) 1 cap3), .slice none 0 0] 26)).cell? ⟨g3, 0, none⟩ = some (.int .i64 5) := a5.c0
          have p7 : (wr.alloc (.cells #[.int .i64 4, .int .i64 0, .bool false, .int .i64 0, .int .u8 0, .bool false, .string ⟨#[]⟩, .string ⟨#[]⟩, (.slice (some ⟨g3, 0, none⟩) 1 cap3), .slice none 0 0] 26)).cell? ⟨g3, 7, none⟩ = some (.string ⟨#[119, 111, 114, 100]⟩) := a5.c7
          have HB := Lib.hid KB
          have hmj : (m : Int) < (j : Int) := by omega
          clear KB KB1 a3 a5 hkw hk3' hg3 ekv3 HK2 q8 x8
          go_wp2_with fail
          go_roundw
          case rel => exact ⟨m + 1, by go_num, by omega, HB⟩
          case measure => simp [RowKit.intOf]; omega
        · have hjm : m = j := by omega
          subst hjm
          have AX := Lib.hid (AW.out _ (KE.out.trans HW.out))
          have HW2 := Lib.hid (KE.out.trans HW.out)
          clear HK2 q8 x8
          go_wp2_with fail
          refine AX.out.mono ?_
          rintro e w3 ⟨rfl, k3⟩
          have K3 := Lib.hid (HW2.out.trans k3)
          clear k3 AX
          go_wp2_with fail
          go_ret
          exact ⟨rfl, K3.out⟩

set_option maxRecDepth 100000 in
set_option maxHeartbeats 8000000 in
theorem bitems_tt (n : Nat) (hn : n < 256) (w : World) (hO : Lis w) (hM : Mxl w) :
    Calls Tryz.prog 7 #[.int .u8 (n : Nat), .bool true, .bool true] w fun e w' => e = .returned (.bool true) ∧ Keeps w w' := by
  have PA := Lib.hid (fun t (h : t.size ≤ 5000) => parse_any t w h hO hM)
  have AW := Lib.hid (fun W' (q : Keeps w W') => awake12_any W' (hO.keep q) (hM.keep q))
  clear hO hM
  obtain ⟨u, hu⟩ : ∃ u : Nat, (n : Int).tmod 20 = (u : Int) ∧ u < 20 := ⟨n % 20, by rw [Int.tmod_eq_emod_of_nonneg (by omega)]; omega, by omega⟩
  obtain ⟨hu1, hu2⟩ := hu
  obtain ⟨k, hk⟩ : ∃ k : Nat, k = 2 + u := ⟨_, rfl⟩
  have hk1 : (2 : Int) + (u : Int) = (k : Int) := by omega
  have hk2 : 2 ≤ k ∧ k ≤ 21 := by omega
  clear hk hn
  go_enter Tryz.func7, Tryz.ntmps7
  go_wp2_with fail
  clear hu1 hu2
  obtain ⟨hk3, hk4⟩ := hk2
  go_loop [8, 9] (fun x i => ∃ (j : Nat) (acc : ByteArray), j ≤ k ∧ i = .int .i64 j ∧ x = .string acc ∧ acc.size ≤ 9 * j ∧ Hid (acc.data.toList = itmsL j true true)) (fun _ i => k - (RowKit.intOf i).toNat)
  case atStart => exact ⟨0, ⟨#[]⟩, Nat.zero_le _, rfl, rfl, by decide, Lib.hid rfl⟩
  case round =>
    obtain ⟨j, acc, hj, rfl, rfl, hsz, HA⟩ := hrel
    by_cases c : j < k
    · have HA2 : Hid (((acc ++ (⟨#[49, 46, 32, 119, 111, 114, 100, 10]⟩ : ByteArray)) ++ (⟨#[10]⟩ : ByteArray)).data.toList = itmsL (j + 1) true true) := Lib.hid (by
        rw [itmsL, ← HA.out]
        simp [oneL, wrdL])
      have hs2 : ((acc ++ (⟨#[49, 46, 32, 119, 111, 114, 100, 10]⟩ : ByteArray)) ++ (⟨#[10]⟩ : ByteArray)).size ≤ 9 * (j + 1) := by
        rw [ByteArray.size_append, ByteArray.size_append]
        have z1 : (⟨#[49, 46, 32, 119, 111, 114, 100, 10]⟩ : ByteArray).size = 8 := rfl
        have z2 : (⟨#[10]⟩ : ByteArray).size = 1 := rfl
        omega
      have hjn : (j : Int) < (k : Int) := by omega
      go_wp2_with fail
      go_round
      case rel => exact ⟨j + 1, (acc ++ (⟨#[49, 46, 32, 119, 111, 114, 100, 10]⟩ : ByteArray)) ++ (⟨#[10]⟩ : ByteArray), by omega, by go_num, rfl, hs2, HA2⟩
      case measure => simp [RowKit.intOf]; omega
    · have hjn : j = k := by omega
      subst hjn
      have PX := Lib.hid (PA.out acc (by omega))
      rw [HA.out, itms_parse hk3 hk4] at PX
      clear PA HA
      go_wp2_with fail
      refine PX.out.mono ?_
      rintro e w1 ⟨kk, hp⟩
      obtain ⟨kv, v, rfl, hk, _, _⟩ := hp.open rfl
      obtain ⟨ao0, cap0, ekv0, _, _, hg0⟩ := hk.slice
      obtain ⟨g, rfl⟩ := hg0 Nat.one_pos
      have ekv1 : kv = .slice (some ⟨g, 0, none⟩) 1 cap0 := ekv0
      subst ekv1
      have ev : blkV 1 0 false 0 0 false [] [] (.slice (some ⟨g, 0, none⟩) 1 cap0) = .agg #[.int .i64 1, .int .i64 0, .bool false, .int .i64 0, .int .u8 0, .bool false, .string ⟨#[]⟩, .string ⟨#[]⟩, (.slice (some ⟨g, 0, none⟩) 1 cap0), .slice none 0 0] := rfl
      rw [ev]
      have KA := (Keeps.refl w1).alloc (.cells #[.int .i64 1, .int .i64 0, .bool false, .int .i64 0, .int .u8 0, .bool false, .string ⟨#[]⟩, .string ⟨#[]⟩, (.slice (some ⟨g, 0, none⟩) 1 cap0), .slice none 0 0] 26)
      have KE := Lib.hid (kk.trans KA)
      have hk := hk.keep (Nat.le_refl _) KA
      have hhi := (show w1.heap.size ≤ (w1.alloc (.cells #[.int .i64 1, .int .i64 0, .bool false, .int .i64 0, .int .u8 0, .bool false, .string ⟨#[]⟩, .string ⟨#[]⟩, (.slice (some ⟨g, 0, none⟩) 1 cap0), .slice none 0 0] 26)).heap.size from KA.size)
      have x8 := (Blk.new w1 26 #[.int .i64 1, .int .i64 0, .bool false, .int .i64 0, .int .u8 0, .bool false, .string ⟨#[]⟩, .string ⟨#[]⟩, (.slice (some ⟨g, 0, none⟩) 1 cap0), .slice none 0 0]).cell 8 (v := .slice (some ⟨g, 0, none⟩) 1 cap0) rfl
      obtain ⟨kv2, a, hk2⟩ := hk.at (i := 0) rfl
      obtain ⟨ao2, cap2, ekv2, hc2, hm2, hg2⟩ := hk2.slice
      rw [List.length_replicate] at ekv2 hc2 hg2
      obtain ⟨g2, rfl⟩ := hg2 (by omega)
      subst ekv2
      have q0 : (w1.alloc (.cells #[.int .i64 1, .int .i64 0, .bool false, .int .i64 0, .int .u8 0, .bool false, .string ⟨#[]⟩, .string ⟨#[]⟩, (.slice (some ⟨g, 0, none⟩) 1 cap0), .slice none 0 0] 26)).cell? ⟨g, 0, none⟩ = some (.int .i64 3) := a.c0
      have q2 : (w1.alloc (.cells #[.int .i64 1, .int .i64 0, .bool false, .int .i64 0, .int .u8 0, .bool false, .string ⟨#[]⟩, .string ⟨#[]⟩, (.slice (some ⟨g, 0, none⟩) 1 cap0), .slice none 0 0] 26)).cell? ⟨g, 2, none⟩ = some (.bool true) := a.c2
      have q5 : (w1.alloc (.cells #[.int .i64 1, .int .i64 0, .bool false, .int .i64 0, .int .u8 0, .bool false, .string ⟨#[]⟩, .string ⟨#[]⟩, (.slice (some ⟨g, 0, none⟩) 1 cap0), .slice none 0 0] 26)).cell? ⟨g, 5, none⟩ = some (.bool false) := a.c5
      have q8 : (w1.alloc (.cells #[.int .i64 1, .int .i64 0, .bool false, .int .i64 0, .int .u8 0, .bool false, .string ⟨#[]⟩, .string ⟨#[]⟩, (.slice (some ⟨g, 0, none⟩) 1 cap0), .slice none 0 0] 26)).cell? ⟨g, 8, none⟩ = some (.slice (some ⟨g2, 0, none⟩) j cap2) := a.c8
      have t1 : ((j : Int) != (j : Int)) = false := by rw [bne, beq_self_eq_true]; rfl
      have HK2 : Hid (Kids (w1.alloc (.cells #[.int .i64 1, .int .i64 0, .bool false, .int .i64 0, .int .u8 0, .bool false, .string ⟨#[]⟩, .string ⟨#[]⟩, (.slice (some ⟨g, 0, none⟩) 1 cap0), .slice none 0 0] 26)) w.heap.size w1.heap.size (List.replicate j (itmT [parT wrdL])) (.slice (some ⟨g2, 0, none⟩) (List.replicate j (itmT [parT wrdL])).length cap2)) := Lib.hid (by rw [List.length_replicate]; exact hk2)
      have HHI := Lib.hid hhi
      obtain ⟨bb, hbb⟩ : ∃ bb, w1.heap.size = bb := ⟨_, rfl⟩
      clear hp PX kk hk KA ev hg0 hg2 ekv0 hk2 hhi a
      go_wp2_with fail
      generalize w1.alloc (.cells #[.int .i64 1, .int .i64 0, .bool false, .int .i64 0, .int .u8 0, .bool false, .string ⟨#[]⟩, .string ⟨#[]⟩, (.slice (some ⟨g, 0, none⟩) 1 cap0), .slice none 0 0] 26) = w2 at *
      rw [hbb] at x8 HK2 HHI
      clear hbb q0 q2 q5 t1
      go_loopw [13] (fun x wr => ∃ (m : Nat), x = .int .i64 m ∧ m ≤ j ∧ Hid (Keeps w2 wr)) (fun x _ => j - (RowKit.intOf x).toNat)
      case atStart => exact ⟨0, rfl, Nat.zero_le _, Lib.hid (Keeps.refl _)⟩
      case round =>
        obtain ⟨m, rfl, hm, HW⟩ := hrel
        by_cases c : m < j
        · have y8 := keep_cell x8 HW.out
          have z8 := keep_cell q8 HW.out
          have hkw := HK2.out.keep HHI.out HW.out
          obtain ⟨kv3, a3, hk3'⟩ := hkw.at (i := m) (by rw [List.getElem?_replicate, if_pos c]; rfl)
          obtain ⟨ao3, cap3, ekv3, _, _, hg3⟩ := hk3'.slice
          obtain ⟨g3, rfl⟩ := hg3 Nat.one_pos
          have ekv4 : kv3 = .slice (some ⟨g3, 0, none⟩) 1 cap3 := ekv3
          subst ekv4
          have r0 : wr.cell? ⟨g2, m * 10, none⟩ = some (.int .i64 4) := a3.c0
          have r1 : wr.cell? ⟨g2, m * 10 + 1, none⟩ = some (.int .i64 0) := a3.c1
          have r2 : wr.cell? ⟨g2, m * 10 + 2, none⟩ = some (.bool false) := a3.c2
          have r3 : wr.cell? ⟨g2, m * 10 + 3, none⟩ = some (.int .i64 0) := a3.c3
          have r4 : wr.cell? ⟨g2, m * 10 + 4, none⟩ = some (.int .u8 0) := a3.c4
          have r5 : wr.cell? ⟨g2, m * 10 + 5, none⟩ = some (.bool false) := a3.c5
          have r6 : wr.cell? ⟨g2, m * 10 + 6, none⟩ = some (.string ⟨#[]⟩) := a3.c6
          have r7 : wr.cell? ⟨g2, m * 10 + 7, none⟩ = some (.string ⟨#[]⟩) := a3.c7
          have r8 : wr.cell? ⟨g2, m * 10 + 8, none⟩ = some (.slice (some ⟨g3, 0, none⟩) 1 cap3) := a3.c8
          have r9 : wr.cell? ⟨g2, m * 10 + 9, none⟩ = some (.slice none 0 0) := a3.c9
          have KB := HW.out.alloc (.cells #[.int .i64 4, .int .i64 0, .bool false, .int .i64 0, .int .u8 0, .bool false, .string ⟨#[]⟩, .string ⟨#[]⟩, (.slice (some ⟨g3, 0, none⟩) 1 cap3), .slice none 0 0] 26)
          have KB1 := (Keeps.refl wr).alloc (.cells #[.int .i64 4, .int .i64 0, .bool false, .int .i64 0, .int .u8 0, .bool false, .string ⟨#[]⟩, .string ⟨#[]⟩, (.slice (some ⟨g3, 0, none⟩) 1 cap3), .slice none 0 0] 26)
          have w8 := (Blk.new wr 26 #[.int .i64 4, .int .i64 0, .bool false, .int .i64 0, .int .u8 0, .bool false, .string ⟨#[]⟩, .string ⟨#[]⟩, (.slice (some ⟨g3, 0, none⟩) 1 cap3), .slice none 0 0]).cell 8 (v := .slice (some ⟨g3, 0, none⟩) 1 cap3) rfl
          obtain ⟨kv5, a5, _⟩ := (hk3'.keep (Nat.le_trans HHI.out HW.out.size) KB1).at (i := 0) rfl
          have p0 : (wr.alloc (.cells #[.int .i64 4, .int .i64 0, .bool false, .int .i64 0, .int .u8 0, .bool false, .string ⟨#[]⟩, .string ⟨#[]⟩, (.slice (some ⟨g3, 0, none⟩) 1 cap3), .slice none 0 0] 26)).cell? ⟨g3, 0, none⟩ = some (.int .i64 5) := a5.c0
          have p7 : (wr.alloc (.cells #[.int .i64 4, .int .i64 0, .bool false, .int .i64 0, .int .u8 0, .bool false, .string ⟨#[]⟩, .string ⟨#[]⟩, (.slice (some ⟨g3, 0, none⟩) 1 cap3), .slice none 0 0] 26)).cell? ⟨g3, 7, none⟩ = some (.string ⟨#[119, 111, 114, 100]⟩) := a5.c7
          have HB := Lib.hid KB
          have hmj : (m : Int) < (j : Int) := by omega
          clear KB KB1 a3 a5 hkw hk3' hg3 ekv3 HK2 q8 x8
          go_wp2_with fail
          go_roundw
          case rel => exact ⟨m + 1, by go_num, by omega, HB⟩
          case measure => simp [RowKit.intOf]; omega
        · have hjm : m = j := by omega
          subst hjm
          have AX := Lib.hid (AW.out _ (KE.out.trans HW.out))
          have HW2 := Lib.hid (KE.out.trans HW.out)
          clear HK2 q8 x8
          go_wp2_with fail
          refine AX.out.mono ?_
          rintro e w3 ⟨rfl, k3⟩
          have K3 := Lib.hid (HW2.out.trans k3)
          clear k3 AX
          go_wp2_with fail
          go_ret
          exact ⟨rfl, K3.out⟩
theorem bitems_any (n : Nat) (hn : n < 256) (lo od : Bool) (w : World) (hO : Lis w) (hM : Mxl w) :
    Calls Tryz.prog 7 #[.int .u8 (n : Nat), .bool lo, .bool od] w fun e w' => e = .returned (.bool true) ∧ Keeps w w' := by
  cases lo <;> cases od
  · exact bitems_ff n hn w hO hM
  · exact bitems_ft n hn w hO hM
  · exact bitems_tf n hn w hO hM
  · exact bitems_tt n hn w hO hM
end Go.Proofs.YtdelaanaohjnkaaGreatDoor


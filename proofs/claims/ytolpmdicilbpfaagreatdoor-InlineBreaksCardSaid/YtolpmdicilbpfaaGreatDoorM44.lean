/-
  Texts of the proof, one behind the other: IqU, IqV, IqW.
-/
import Derived.Test.YtolpmdicilbpfaaGreatDoorM42
import Derived.Test.YtolpmdicilbpfaaGreatDoorM41
/-
  InlineCodes is true of any word and number.
-/
namespace Go.Proofs.YtolpmdicilbpfaaGreatDoor
open Go.RowKit Go.Lib Go.Maps

def codZ : List UInt8 := [42, 32, 38, 97, 109, 112, 59, 32, 91, 120, 93, 40, 121, 41]
theorem ct_still {t : List UInt8} (h : ∀ x ∈ t, x ≠ 10) (h2 : hasPrefix t [32] = false) : ctT t = t := by
  have e : ctU t = t := by
    unfold ctU
    conv => rhs; rw [← List.map_id t]
    exact List.map_congr_left fun x hx => by unfold lfB; rw [if_neg (h x hx)]; rfl
  unfold ctT ctK
  rw [e, h2]
  rfl
theorem codes_parse {k : Nat} {w : List UInt8} (hk : 0 < k) (hw : ∀ x ∈ w, ldB x = true) :
    parseI ([97, 32] ++ (List.replicate k 96 ++ (([42] ++ (w ++ codZ)) ++ (List.replicate k 96 ++ [32, 98])))) [] = [txtS [97, 32], .mk 4 ([42] ++ (w ++ codZ)) [] [] [], txtS [32, 98]] := by
  have hn : ∀ x ∈ ([42] ++ (w ++ codZ) : List UInt8), rTik x = false ∧ x ≠ 10 := fun x hx => by
    rcases List.mem_append.1 hx with h | h
    · rw [List.mem_singleton.1 h]; decide
    · rcases List.mem_append.1 h with h | h
      · have h1 := hw x h
        have h2 : x ≠ 96 := ld_ne h1 (by decide)
        refine ⟨?_, ld_ne h1 (by decide)⟩
        unfold rTik
        exact decide_eq_false (fun e => h2 (UInt8.toNat_inj.1 e))
      · exact (show ∀ x ∈ codZ, rTik x = false ∧ x ≠ 10 by decide) x h
  refine code_parse hk (by decide) (by decide) (fun x hx => (hn x hx).1) (by simp) (ct_still (fun x hx => (hn x hx).2) rfl) (by decide) (by decide)
set_option maxRecDepth 100000 in
set_option maxHeartbeats 8000000 in
theorem codes_not (s : ByteArray) (n : Nat) (w : World) (hs : s.size ≤ maxLen) (hO : Lis w) (hM : Mxl w) (hw : wdB s.data.toList = false) :
    Calls Tryz.prog 9 #[.string s, .int .u8 (n : Nat)] w fun e w' => e = .returned (.bool true) ∧ Keeps w w' := by
  have WS := Lib.hid (word14_any s w hs)
  rw [hw] at WS
  have AW := Lib.hid (awake14_any w hO hM)
  clear hO hM hw
  go_enter Tryz.func9, Tryz.ntmps9
  go_wp2_with fail
  refine WS.out.mono ?_
  rintro e w1 ⟨rfl, rfl⟩
  go_wp2_with fail
  refine AW.out.mono ?_
  rintro e w1 ⟨rfl, k1⟩
  go_wp2_with fail
  go_ret
  exact ⟨rfl, k1⟩
set_option maxRecDepth 100000 in
set_option maxHeartbeats 8000000 in
theorem codes_word (s : ByteArray) (n : Nat) (hn : n < 256) (w : World) (hs : s.size ≤ maxLen) (hO : Lis w) (hM : Mxl w) (hw : wdB s.data.toList = true) :
    Calls Tryz.prog 9 #[.string s, .int .u8 (n : Nat)] w fun e w' => e = .returned (.bool true) ∧ Keeps w w' := by
  have WS := Lib.hid (word14_any s w hs)
  rw [hw] at WS
  have AW := Lib.hid (fun W' (q : Keeps w W') => awake14_any W' (hO.keep q) (hM.keep q))
  have PA := Lib.hid (fun t (h : t.size ≤ 20000) => parse_none t w hO hM h)
  obtain ⟨h1, h2, h3⟩ := wd_all hw
  have H1 := Lib.hid h1
  have hsz : s.size ≤ 100 := by rw [← bytes_len]; exact h3
  clear hO hM hw h1 h2 h3
  go_enter Tryz.func9, Tryz.ntmps9
  go_wp2_with fail
  refine WS.out.mono ?_
  rintro e w1 ⟨rfl, rfl⟩
  go_wp2_with fail
  go_loop [5, 6] (fun x i => ∃ (j : Nat) (acc : ByteArray), j ≤ n % 5 + 1 ∧ i = .int .i64 j ∧ x = .string acc ∧ acc.size ≤ 5 ∧ Hid (acc.data.toList = List.replicate j 96)) (fun _ i => n % 5 + 1 - (RowKit.intOf i).toNat)
  case atStart => exact ⟨0, ⟨#[]⟩, Nat.zero_le _, rfl, rfl, by decide, Lib.hid rfl⟩
  case round =>
    obtain ⟨j, acc, hj, rfl, rfl, hsz2, HA⟩ := hrel
    by_cases cj : j ≤ n % 5
    · have hjn : (j : Int) ≤ (n : Int) % 5 := by omega
      have HA2 : Hid ((acc ++ (⟨#[96]⟩ : ByteArray)).data.toList = List.replicate (j + 1) 96) := Lib.hid (by rw [bytes_app, HA.out]; exact rep_more j)
      have hs2 : (acc ++ (⟨#[96]⟩ : ByteArray)).size ≤ 5 := by rw [mul_of HA2.out]; omega
      go_wp2_with fail
      go_round
      case rel => exact ⟨j + 1, acc ++ ⟨#[96]⟩, by omega, by go_num, rfl, hs2, HA2⟩
      case measure => simp [RowKit.intOf]; omega
    · have hjn : ¬ (j : Int) ≤ (n : Int) % 5 := by omega
      obtain ⟨X, hX⟩ : ∃ X, (⟨#[97, 32]⟩ : ByteArray) ++ acc ++ ⟨#[42]⟩ ++ s ++ ⟨#[42, 32, 38, 97, 109, 112, 59, 32, 91, 120, 93, 40, 121, 41]⟩ ++ acc ++ ⟨#[32, 98]⟩ = X := ⟨_, rfl⟩
      have HX : X.data.toList = [97, 32] ++ (List.replicate j 96 ++ (([42] ++ (s.data.toList ++ codZ)) ++ (List.replicate j 96 ++ [32, 98]))) := by
        rw [← hX, bytes_app, bytes_app, bytes_app, bytes_app, bytes_app, bytes_app, HA.out]
        simp only [List.append_assoc]
        rfl
      have hXs : X.size ≤ 20000 := by
        rw [← bytes_len, HX]
        simp only [List.length_append, List.length_replicate, bytes_len, codZ, List.length_cons, List.length_nil]
        omega
      have PX := Lib.hid (PA.out X hXs)
      rw [HX, codes_parse (by omega) H1.out] at PX
      have HT : Hid ((⟨([42] ++ (s.data.toList ++ codZ)).toArray⟩ : ByteArray) = ⟨#[42]⟩ ++ s ++ ⟨#[42, 32, 38, 97, 109, 112, 59, 32, 91, 120, 93, 40, 121, 41]⟩) := Lib.hid (bytes_eq (by rw [bytes_app, bytes_app, List.append_assoc]; simp [codZ]))
      clear PA HX HA H1 WS hXs
      go_upto_region 8 with fail
      go_cut [7] (fun x wx => ∃ w1, w1 = wx ∧ Hid (SpsAt w1 (fun b => b < w1.heap.size) [txtS [97, 32], .mk 4 ([42] ++ (s.data.toList ++ codZ)) [] [] [], txtS [32, 98]] x) ∧ Keeps w w1)
      case first =>
        go_wp2_with (first | (go_at_call 13; (with_reducible refine PX.out.mono ?_); rintro e w1 ⟨v, rfl, hv, k1⟩))
        go_meet
        case rel => exact ⟨_, rfl, Lib.hid hv, k1⟩
      case rest =>
      obtain ⟨w1, rfl, HV, k1⟩ := hcut
      have AX := Lib.hid (AW.out w1 k1)
      clear PX hX
      go_wp2_with fail
      refine AX.out.mono ?_
      rintro e w3 ⟨rfl, k3⟩
      have K3 := Lib.hid (k1.trans k3)
      have hv := HV.out.keep (fun b h => h) k3
      obtain ⟨A, cap, ev, _, _, hg⟩ := hv.slice
      obtain ⟨g, rfl⟩ := hg (by simp)
      have ev2 : u7 = Value.slice (some ⟨g, 0, none⟩) 3 cap := ev
      subst ev2
      obtain ⟨_, b0, _⟩ := hv.at (i := 0) rfl
      obtain ⟨_, b1, _⟩ := hv.at (i := 1) rfl
      obtain ⟨_, b2, _⟩ := hv.at (i := 2) rfl
      have d0 := b0.c1
      have d1 := b1.c0
      have d2 := b1.c1
      have d3 := b2.c1
      rw [HT.out] at d2
      simp only [Nat.reduceAdd, Nat.reduceMul] at d0 d1 d2 d3
      clear AX k3 k1 b0 b1 b2 hv HV hg ev HT
      go_wp2_with fail
      go_ret
      exact ⟨rfl, K3.out⟩
/-- InlineCodes is true of any input. -/
theorem icodes_any (s : ByteArray) (n : Nat) (hn : n < 256) (w : World) (hs : s.size ≤ maxLen) (hO : Lis w) (hM : Mxl w) :
    Calls Tryz.prog 9 #[.string s, .int .u8 (n : Nat)] w fun e w' => e = .returned (.bool true) ∧ Keeps w w' := by
  cases hw : wdB s.data.toList with
  | true => exact codes_word s n hn w hs hO hM hw
  | false => exact codes_not s n w hs hO hM hw
end Go.Proofs.YtolpmdicilbpfaaGreatDoor

/-
  InlineLoose is true of any words and number.
-/
namespace Go.Proofs.YtolpmdicilbpfaaGreatDoor
open Go.RowKit Go.Lib Go.Maps

set_option maxRecDepth 100000 in
set_option maxHeartbeats 8000000 in
theorem loose_not (a b : ByteArray) (n : Nat) (w : World) (ha : a.size ≤ maxLen) (hb : b.size ≤ maxLen) (hO : Lis w) (hM : Mxl w) (hw : wdB a.data.toList = false ∨ (wdB a.data.toList = true ∧ wdB b.data.toList = false)) :
    Calls Tryz.prog 10 #[.string a, .string b, .int .u8 (n : Nat)] w fun e w' => e = .returned (.bool true) ∧ Keeps w w' := by
  have WA := Lib.hid (word14_any a w ha)
  have WB := Lib.hid (word14_any b w hb)
  have AW := Lib.hid (awake14_any w hO hM)
  clear hO hM
  rcases hw with hw | ⟨hw, hw2⟩
  · rw [hw] at WA
    clear hw
    go_enter Tryz.func10, Tryz.ntmps10
    go_wp2_with fail
    refine WA.out.mono ?_
    rintro e w1 ⟨rfl, rfl⟩
    go_wp2_with fail
    refine AW.out.mono ?_
    rintro e w1 ⟨rfl, k1⟩
    go_wp2_with fail
    go_ret
    exact ⟨rfl, k1⟩
  · rw [hw] at WA
    rw [hw2] at WB
    clear hw hw2
    go_enter Tryz.func10, Tryz.ntmps10
    go_wp2_with fail
    refine WA.out.mono ?_
    rintro e w1 ⟨rfl, rfl⟩
    go_wp2_with fail
    refine WB.out.mono ?_
    rintro e w1 ⟨rfl, rfl⟩
    go_wp2_with fail
    refine AW.out.mono ?_
    rintro e w1 ⟨rfl, k1⟩
    go_wp2_with fail
    go_ret
    exact ⟨rfl, k1⟩
set_option maxRecDepth 100000 in
set_option maxHeartbeats 8000000 in
theorem loose_word (a b : ByteArray) (n : Nat) (hn : n < 256) (w : World) (ha : a.size ≤ maxLen) (hb : b.size ≤ maxLen) (hO : Lis w) (hM : Mxl w) (hwa : wdB a.data.toList = true) (hwb : wdB b.data.toList = true) :
    Calls Tryz.prog 10 #[.string a, .string b, .int .u8 (n : Nat)] w fun e w' => e = .returned (.bool true) ∧ Keeps w w' := by
  have WA := Lib.hid (word14_any a w ha)
  have WB := Lib.hid (word14_any b w hb)
  rw [hwa] at WA
  rw [hwb] at WB
  have AW := Lib.hid (fun W' (q : Keeps w W') => awake14_any W' (hO.keep q) (hM.keep q))
  have PA := Lib.hid (fun t (h : t.size ≤ 20000) W' (q : Keeps w W') => parse_none t W' (hO.keep q) (hM.keep q) h)
  obtain ⟨h1, h2, h3⟩ := wd_all hwa
  obtain ⟨h4, h5, h6⟩ := wd_all hwb
  have H1 := Lib.hid h1
  have H2 := Lib.hid h2
  have H4 := Lib.hid h4
  have H5 := Lib.hid h5
  have hsa : a.size ≤ 100 := by rw [← bytes_len]; exact h3
  have hsb : b.size ≤ 100 := by rw [← bytes_len]; exact h6
  clear hO hM hwa hwb h1 h2 h3 h4 h5 h6
  go_enter Tryz.func10, Tryz.ntmps10
  go_wp2_with fail
  refine WA.out.mono ?_
  rintro e w1 ⟨rfl, rfl⟩
  go_wp2_with fail
  refine WB.out.mono ?_
  rintro e w1 ⟨rfl, rfl⟩
  go_wp2_with fail
  go_loop [7, 8, 9] (fun x y i => ∃ (j : Nat) (sx sy : ByteArray), j ≤ n % 5 + 1 ∧ i = .int .i64 j ∧ x = .string sx ∧ y = .string sy ∧ sx.size ≤ 5 ∧ sy.size ≤ 5 ∧ Hid (sx.data.toList = List.replicate j 42) ∧ Hid (sy.data.toList = List.replicate j 95)) (fun _ _ i => n % 5 + 1 - (RowKit.intOf i).toNat)
  case atStart => exact ⟨0, ⟨#[]⟩, ⟨#[]⟩, Nat.zero_le _, rfl, rfl, rfl, by decide, by decide, Lib.hid rfl, Lib.hid rfl⟩
  case round =>
    obtain ⟨j, sx, sy, hj, rfl, rfl, rfl, hsz2, hsz3, HA, HB⟩ := hrel
    by_cases cj : j ≤ n % 5
    · have hjn : (j : Int) ≤ (n : Int) % 5 := by omega
      have HA2 : Hid ((sx ++ (⟨#[42]⟩ : ByteArray)).data.toList = List.replicate (j + 1) 42) := Lib.hid (by rw [bytes_app, HA.out]; exact rep_more j)
      have HB2 : Hid ((sy ++ (⟨#[95]⟩ : ByteArray)).data.toList = List.replicate (j + 1) 95) := Lib.hid (by rw [bytes_app, HB.out]; exact rep_more j)
      have hs2 : (sx ++ (⟨#[42]⟩ : ByteArray)).size ≤ 5 := by rw [mul_of HA2.out]; omega
      have hs3 : (sy ++ (⟨#[95]⟩ : ByteArray)).size ≤ 5 := by rw [mul_of HB2.out]; omega
      go_wp2_with fail
      go_round
      case rel => exact ⟨j + 1, sx ++ ⟨#[42]⟩, sy ++ ⟨#[95]⟩, by omega, by go_num, rfl, rfl, hs2, hs3, HA2, HB2⟩
      case measure => simp [RowKit.intOf]; omega
    · have hjn : ¬ (j : Int) ≤ (n : Int) % 5 := by omega
      obtain ⟨X, hX⟩ : ∃ X, a ++ (⟨#[32]⟩ : ByteArray) ++ sx ++ ⟨#[32]⟩ ++ b = X := ⟨_, rfl⟩
      have HX : X.data.toList = (a.data.toList ++ [32]) ++ (List.replicate j 42 ++ (32 :: b.data.toList)) := by
        rw [← hX, bytes_app, bytes_app, bytes_app, bytes_app, HA.out]
        simp only [List.append_assoc]
        rfl
      obtain ⟨Y, hY⟩ : ∃ Y, a ++ sy ++ b ++ sy ++ a = Y := ⟨_, rfl⟩
      have HY : Y.data.toList = a.data.toList ++ (List.replicate j 95 ++ (b.data.toList ++ (List.replicate j 95 ++ a.data.toList))) := by
        rw [← hY, bytes_app, bytes_app, bytes_app, bytes_app, HB.out]
        simp only [List.append_assoc]
      have hXs : X.size ≤ 20000 := by
        rw [← bytes_len, HX]
        simp only [List.length_append, List.length_replicate, bytes_len, List.length_cons, List.length_nil]
        omega
      have hYs : Y.size ≤ 20000 := by
        rw [← bytes_len, HY]
        simp only [List.length_append, List.length_replicate, bytes_len]
        omega
      have PX := Lib.hid (PA.out X hXs w (Keeps.refl w))
      have PY := Lib.hid (PA.out Y hYs)
      rw [HX, loose_star (by omega) H1.out H4.out, ← HX] at PX
      rw [HY, loose_under (by omega) H1.out H2.out H4.out H5.out, ← HY] at PY
      clear PA HX HY HA HB H1 H2 H4 H5 WA WB hXs hYs
      go_upto_region 8 with fail
      go_cut [10] (fun x wx => ∃ w1, w1 = wx ∧ Hid (SpsAt w1 (fun b => b < w1.heap.size) [txtS X.data.toList] x) ∧ Keeps w w1)
      case first =>
        go_wp2_with (first | (go_at_call 13; (with_reducible refine PX.out.mono ?_); rintro e w1 ⟨v, rfl, hv, k1⟩))
        go_meet
        case rel => exact ⟨_, rfl, Lib.hid hv, k1⟩
      case rest =>
      obtain ⟨w1, rfl, HV, k1⟩ := hcut
      have PZ := Lib.hid (PY.out w1 k1)
      clear PX PY
      go_upto_region 9 with fail
      go_cut [11] (fun x wx => ∃ w2, w2 = wx ∧ Hid (SpsAt w2 (fun b => b < w2.heap.size) [txtS Y.data.toList] x) ∧ Keeps w1 w2)
      case first =>
        go_wp2_with (first | (go_at_call 13; (with_reducible refine PZ.out.mono ?_); rintro e w2 ⟨v, rfl, hv, k2⟩))
        go_meet
        case rel => exact ⟨_, rfl, Lib.hid hv, k2⟩
      case rest =>
      obtain ⟨w2, rfl, HU, k2⟩ := hcut
      have AX := Lib.hid (AW.out w2 (k1.trans k2))
      clear PZ
      go_wp2_with fail
      refine AX.out.mono ?_
      rintro e w3 ⟨rfl, k3⟩
      have K3 := Lib.hid ((k1.trans k2).trans k3)
      obtain ⟨g, cap, kv, rfl, b0, _⟩ := (HV.out.keep (fun b h => h) (k2.trans k3)).only
      obtain ⟨g2, cap2, kv2, rfl, b1, _⟩ := (HU.out.keep (fun b h => h) k3).only
      have d0 := b0.c0
      have d1 := b0.c1
      have d2 := b1.c0
      have d3 := b1.c1
      rw [bytes_same] at d1 d3
      simp only [Nat.reduceAdd] at d0 d1 d2 d3
      clear AX k3 k1 k2 b0 b1 HV HU
      go_wp2_with fail
      go_ret
      exact ⟨rfl, K3.out⟩
/-- InlineLoose is true of any input. -/
theorem iloose_any (a b : ByteArray) (n : Nat) (hn : n < 256) (w : World) (ha : a.size ≤ maxLen) (hb : b.size ≤ maxLen) (hO : Lis w) (hM : Mxl w) :
    Calls Tryz.prog 10 #[.string a, .string b, .int .u8 (n : Nat)] w fun e w' => e = .returned (.bool true) ∧ Keeps w w' := by
  cases hwa : wdB a.data.toList with
  | false => exact loose_not a b n w ha hb hO hM (.inl hwa)
  | true =>
    cases hwb : wdB b.data.toList with
    | false => exact loose_not a b n w ha hb hO hM (.inr ⟨hwa, hwb⟩)
    | true => exact loose_word a b n hn w ha hb hO hM hwa hwb
end Go.Proofs.YtolpmdicilbpfaaGreatDoor

/-
  InlineBreaks is true of any words and numbers.
-/
namespace Go.Proofs.YtolpmdicilbpfaaGreatDoor
open Go.RowKit Go.Lib Go.Maps

set_option maxRecDepth 100000 in
set_option maxHeartbeats 8000000 in
theorem breaks_not (a b : ByteArray) (n m : Nat) (w : World) (ha : a.size ≤ maxLen) (hb : b.size ≤ maxLen) (hO : Lis w) (hM : Mxl w) (hw : wdB a.data.toList = false ∨ (wdB a.data.toList = true ∧ wdB b.data.toList = false)) :
    Calls Tryz.prog 8 #[.string a, .string b, .agg #[.int .u8 (n : Nat), .int .u8 (m : Nat)]] w fun e w' => e = .returned (.bool true) ∧ Keeps w w' := by
  have WA := Lib.hid (fun W => word14_any a W ha)
  have WB := Lib.hid (fun W => word14_any b W hb)
  have AW := Lib.hid (fun W' (q : Keeps w W') => awake14_any W' (hO.keep q) (hM.keep q))
  have KW : Keeps w ((w.alloc (.cells #[.int .u8 (n : Nat), .int .u8 (m : Nat)] 37)).drew) := ((Keeps.refl w).alloc _).drew
  have BW := Blk.new w 37 #[.int .u8 (n : Nat), .int .u8 (m : Nat)]
  have x0 := BW.cell 0 (v := .int .u8 (n : Nat)) rfl
  have x1 := BW.cell 1 (v := .int .u8 (m : Nat)) rfl
  have HW := Lib.hid hw
  clear hO hM BW hw
  go_enter Tryz.func8, Tryz.ntmps8
  go_upto_region 1 with fail
  go_cut [7, 8] (fun x y wx => ∃ w1, w1 = wx ∧ x = .int .u8 (n : Nat) ∧ y = .int .u8 (m : Nat) ∧ Keeps w w1)
  case first =>
    go_region
    all_goals
      go_wp2_with fail
      go_meet
      case rel => exact ⟨_, rfl, rfl, rfl, KW⟩
  case rest =>
  obtain ⟨w1, rfl, rfl, rfl, k1⟩ := hcut
  clear x0 x1 KW
  have AX := Lib.hid (AW.out w1 k1)
  rcases HW.out with hw | ⟨hw, hw2⟩
  · rw [hw] at WA
    clear hw HW
    go_wp2_with fail
    refine (WA.out _).mono ?_
    rintro e w2 ⟨rfl, rfl⟩
    go_wp2_with fail
    refine AX.out.mono ?_
    rintro e w2 ⟨rfl, k2⟩
    go_wp2_with fail
    go_ret
    exact ⟨rfl, k1.trans k2⟩
  · rw [hw] at WA
    rw [hw2] at WB
    clear hw hw2 HW
    go_wp2_with fail
    refine (WA.out _).mono ?_
    rintro e w2 ⟨rfl, rfl⟩
    go_wp2_with fail
    refine (WB.out _).mono ?_
    rintro e w2 ⟨rfl, rfl⟩
    go_wp2_with fail
    refine AX.out.mono ?_
    rintro e w2 ⟨rfl, k2⟩
    go_wp2_with fail
    go_ret
    exact ⟨rfl, k1.trans k2⟩
set_option maxRecDepth 100000 in
set_option maxHeartbeats 8000000 in
theorem breaks_word (a b : ByteArray) (n m : Nat) (hn : n < 256) (hm : m < 256) (w : World) (ha : a.size ≤ maxLen) (hb : b.size ≤ maxLen) (hO : Lis w) (hM : Mxl w) (hwa : wdB a.data.toList = true) (hwb : wdB b.data.toList = true) :
    Calls Tryz.prog 8 #[.string a, .string b, .agg #[.int .u8 (n : Nat), .int .u8 (m : Nat)]] w fun e w' => e = .returned (.bool true) ∧ Keeps w w' := by
  have WA := Lib.hid (fun W => word14_any a W ha)
  have WB := Lib.hid (fun W => word14_any b W hb)
  rw [hwa] at WA
  rw [hwb] at WB
  have AW := Lib.hid (fun W' (q : Keeps w W') => awake14_any W' (hO.keep q) (hM.keep q))
  have PA := Lib.hid (fun t (h : t.size ≤ 20000) W' (q : Keeps w W') => parse_none t W' (hO.keep q) (hM.keep q) h)
  obtain ⟨h1, h2, h3⟩ := wd_all hwa
  obtain ⟨h4, h5, h6⟩ := wd_all hwb
  have H1 := Lib.hid h1
  have H2 := Lib.hid h2
  have H4 := Lib.hid h4
  have H5 := Lib.hid h5
  have hsa : a.size ≤ 100 := by rw [← bytes_len]; exact h3
  have hsb : b.size ≤ 100 := by rw [← bytes_len]; exact h6
  have KW : Keeps w ((w.alloc (.cells #[.int .u8 (n : Nat), .int .u8 (m : Nat)] 37)).drew) := ((Keeps.refl w).alloc _).drew
  have BW := Blk.new w 37 #[.int .u8 (n : Nat), .int .u8 (m : Nat)]
  have x0 := BW.cell 0 (v := .int .u8 (n : Nat)) rfl
  have x1 := BW.cell 1 (v := .int .u8 (m : Nat)) rfl
  clear hO hM hwa hwb h1 h2 h3 h4 h5 h6 BW
  go_enter Tryz.func8, Tryz.ntmps8
  go_upto_region 1 with fail
  go_cut [7, 8] (fun x y wx => ∃ w1, w1 = wx ∧ x = .int .u8 (n : Nat) ∧ y = .int .u8 (m : Nat) ∧ Keeps w w1)
  case first =>
    go_region
    all_goals
      go_wp2_with fail
      go_meet
      case rel => exact ⟨_, rfl, rfl, rfl, KW⟩
  case rest =>
  obtain ⟨w1, rfl, rfl, rfl, k1⟩ := hcut
  clear x0 x1 KW
  go_wp2_with fail
  refine (WA.out _).mono ?_
  rintro e w2 ⟨rfl, rfl⟩
  go_wp2_with fail
  refine (WB.out _).mono ?_
  rintro e w2 ⟨rfl, rfl⟩
  go_wp2_with fail
  go_loop [9, 11] (fun x i => ∃ (j : Nat) (sx : ByteArray), j ≤ n % 5 ∧ i = .int .i64 j ∧ x = .string sx ∧ sx.size ≤ 5 ∧ Hid (sx.data.toList = List.replicate j 32)) (fun _ i => n % 5 - (RowKit.intOf i).toNat)
  case atStart => exact ⟨0, ⟨#[]⟩, Nat.zero_le _, rfl, rfl, by decide, Lib.hid rfl⟩
  case round =>
    obtain ⟨j, sx, hj, rfl, rfl, hsz2, HA⟩ := hrel
    by_cases cj : j < n % 5
    · have hjn : (j : Int) < (n : Int) % 5 := by omega
      have HA2 : Hid ((sx ++ (⟨#[32]⟩ : ByteArray)).data.toList = List.replicate (j + 1) 32) := Lib.hid (by rw [bytes_app, HA.out]; exact rep_more j)
      have hs2 : (sx ++ (⟨#[32]⟩ : ByteArray)).size ≤ 5 := by rw [mul_of HA2.out]; omega
      go_wp2_with fail
      go_round
      case rel => exact ⟨j + 1, sx ++ ⟨#[32]⟩, by omega, by go_num, rfl, hs2, HA2⟩
      case measure => simp [RowKit.intOf]; omega
    · have hjn : ¬ (j : Int) < (n : Int) % 5 := by omega
      have hjn2 : j = n % 5 := by omega
      go_wp2_with fail
      clear hjn
      go_loop [10, 12] (fun x i => ∃ (k : Nat) (sy : ByteArray), k ≤ m % 5 ∧ i = .int .i64 k ∧ x = .string sy ∧ sy.size ≤ 5 ∧ Hid (sy.data.toList = List.replicate k 32)) (fun _ i => m % 5 - (RowKit.intOf i).toNat)
      case atStart => exact ⟨0, ⟨#[]⟩, Nat.zero_le _, rfl, rfl, by decide, Lib.hid rfl⟩
      case round =>
        obtain ⟨k, sy, hk, rfl, rfl, hsz3, HB⟩ := hrel
        by_cases ck : k < m % 5
        · have hkn : (k : Int) < (m : Int) % 5 := by omega
          have HB2 : Hid ((sy ++ (⟨#[32]⟩ : ByteArray)).data.toList = List.replicate (k + 1) 32) := Lib.hid (by rw [bytes_app, HB.out]; exact rep_more k)
          have hs2 : (sy ++ (⟨#[32]⟩ : ByteArray)).size ≤ 5 := by rw [mul_of HB2.out]; omega
          go_wp2_with fail
          go_round
          case rel => exact ⟨k + 1, sy ++ ⟨#[32]⟩, by omega, by go_num, rfl, hs2, HB2⟩
          case measure => simp [RowKit.intOf]; omega
        · have hkn : ¬ (k : Int) < (m : Int) % 5 := by omega
          obtain ⟨X, hX⟩ : ∃ X, a ++ sx ++ (⟨#[10]⟩ : ByteArray) ++ sy ++ b = X := ⟨_, rfl⟩
          have HX : X.data.toList = (a.data.toList ++ List.replicate j 32) ++ (10 :: (List.replicate k 32 ++ b.data.toList)) := by
            rw [← hX, bytes_app, bytes_app, bytes_app, bytes_app, HA.out, HB.out]
            simp only [List.append_assoc]
            rfl
          obtain ⟨Y, hY⟩ : ∃ Y, a ++ (⟨#[92, 10]⟩ : ByteArray) ++ sy ++ b = Y := ⟨_, rfl⟩
          have HY : Y.data.toList = a.data.toList ++ (92 :: 10 :: (List.replicate k 32 ++ b.data.toList)) := by
            rw [← hY, bytes_app, bytes_app, bytes_app, HB.out]
            simp only [List.append_assoc]
            rfl
          have hj5 : j < 5 := by omega
          have hk5 : k < 5 := by omega
          have hXs : X.size ≤ 20000 := by
            rw [← bytes_len, HX]
            simp only [List.length_append, List.length_replicate, bytes_len, List.length_cons]
            omega
          have hYs : Y.size ≤ 20000 := by
            rw [← bytes_len, HY]
            simp only [List.length_append, List.length_replicate, bytes_len, List.length_cons]
            omega
          have PX := Lib.hid (PA.out X hXs w1 k1)
          have PY := Lib.hid (PA.out Y hYs)
          rw [HX, break_soft H1.out H2.out H4.out H5.out] at PX
          rw [HY, break_hard H1.out H2.out H4.out H5.out] at PY
          clear PA HX HY HA HB H1 H2 H4 H5 WA WB hXs hYs
          go_upto_region 13 with fail
          go_cut [13] (fun x wx => ∃ w2, w2 = wx ∧ Hid (SpsAt w2 (fun b => b < w2.heap.size) [txtS a.data.toList, brkS (if 2 ≤ j then 3 else 2), txtS b.data.toList] x) ∧ Keeps w1 w2)
          case first =>
            go_wp2_with (first | (go_at_call 13; (with_reducible refine PX.out.mono ?_); rintro e w2 ⟨v, rfl, hv, k2⟩))
            go_meet
            case rel => exact ⟨_, rfl, Lib.hid hv, k2⟩
          case rest =>
          obtain ⟨w2, rfl, HV, k2⟩ := hcut
          have PZ := Lib.hid (PY.out w2 (k1.trans k2))
          clear PX PY
          go_upto_region 14 with fail
          go_cut [14] (fun x wx => ∃ w3, w3 = wx ∧ Hid (SpsAt w3 (fun b => b < w3.heap.size) [txtS a.data.toList, brkS 3, txtS b.data.toList] x) ∧ Keeps w2 w3)
          case first =>
            go_wp2_with (first | (go_at_call 13; (with_reducible refine PZ.out.mono ?_); rintro e w3 ⟨v, rfl, hv, k3⟩))
            go_meet
            case rel => exact ⟨_, rfl, Lib.hid hv, k3⟩
          case rest =>
          obtain ⟨w3, rfl, HU, k3⟩ := hcut
          have AX := Lib.hid (AW.out w3 ((k1.trans k2).trans k3))
          clear PZ hX hY
          by_cases c2 : 2 ≤ j
          · have hk0 : (if 2 ≤ j then 3 else 2 : Nat) = 3 := if_pos c2
            rw [hk0] at HV
            have q1 : decide ((2 : Int) ≤ (n : Int) % 5) = true := decide_eq_true (by omega)
            have q2 : decide ((n : Int) % 5 < 2) = false := decide_eq_false (by omega)
            clear hk0
            go_wp2_with fail
            refine AX.out.mono ?_
            rintro e w4 ⟨rfl, k4⟩
            have K4 := Lib.hid (((k1.trans k2).trans k3).trans k4)
            have hv := HV.out.keep (fun b h => h) (k3.trans k4)
            have hu := HU.out.keep (fun b h => h) k4
            obtain ⟨A, cap, ev, _, _, hg⟩ := hv.slice
            obtain ⟨g, rfl⟩ := hg (by simp)
            obtain ⟨A2, cap2, eu, _, _, hg2⟩ := hu.slice
            obtain ⟨g2, rfl⟩ := hg2 (by simp)
            have ev2 : u13 = Value.slice (some ⟨g, 0, none⟩) 3 cap := ev
            have eu2 : u14 = Value.slice (some ⟨g2, 0, none⟩) 3 cap2 := eu
            subst ev2 eu2
            obtain ⟨_, b0, _⟩ := hv.at (i := 0) rfl
            obtain ⟨_, b1, _⟩ := hv.at (i := 1) rfl
            obtain ⟨_, b2, _⟩ := hv.at (i := 2) rfl
            obtain ⟨_, c0, _⟩ := hu.at (i := 0) rfl
            obtain ⟨_, c1, _⟩ := hu.at (i := 1) rfl
            obtain ⟨_, cc, _⟩ := hu.at (i := 2) rfl
            have d0 := b0.c1
            have d1 := b1.c0
            have d2 := b2.c1
            have e0 := c0.c1
            have e1 := c1.c0
            have e2 := cc.c1
            rw [bytes_same] at d0 d2 e0 e2
            simp only [Nat.reduceAdd, Nat.reduceMul] at d0 d1 d2 e0 e1 e2
            clear AX k4 k3 k2 k1 b0 b1 b2 c0 c1 cc hv hu HV HU hg hg2 ev eu
            go_wp2_with fail
            go_ret
            exact ⟨rfl, K4.out⟩
          · have hk0 : (if 2 ≤ j then 3 else 2 : Nat) = 2 := if_neg c2
            rw [hk0] at HV
            have q1 : decide ((2 : Int) ≤ (n : Int) % 5) = false := decide_eq_false (by omega)
            have q2 : decide ((n : Int) % 5 < 2) = true := decide_eq_true (by omega)
            clear hk0
            go_wp2_with fail
            refine AX.out.mono ?_
            rintro e w4 ⟨rfl, k4⟩
            have K4 := Lib.hid (((k1.trans k2).trans k3).trans k4)
            have hv := HV.out.keep (fun b h => h) (k3.trans k4)
            have hu := HU.out.keep (fun b h => h) k4
            obtain ⟨A, cap, ev, _, _, hg⟩ := hv.slice
            obtain ⟨g, rfl⟩ := hg (by simp)
            obtain ⟨A2, cap2, eu, _, _, hg2⟩ := hu.slice
            obtain ⟨g2, rfl⟩ := hg2 (by simp)
            have ev2 : u13 = Value.slice (some ⟨g, 0, none⟩) 3 cap := ev
            have eu2 : u14 = Value.slice (some ⟨g2, 0, none⟩) 3 cap2 := eu
            subst ev2 eu2
            obtain ⟨_, b0, _⟩ := hv.at (i := 0) rfl
            obtain ⟨_, b1, _⟩ := hv.at (i := 1) rfl
            obtain ⟨_, b2, _⟩ := hv.at (i := 2) rfl
            obtain ⟨_, c0, _⟩ := hu.at (i := 0) rfl
            obtain ⟨_, c1, _⟩ := hu.at (i := 1) rfl
            obtain ⟨_, cc, _⟩ := hu.at (i := 2) rfl
            have d0 := b0.c1
            have d1 := b1.c0
            have d2 := b2.c1
            have e0 := c0.c1
            have e1 := c1.c0
            have e2 := cc.c1
            rw [bytes_same] at d0 d2 e0 e2
            simp only [Nat.reduceAdd, Nat.reduceMul] at d0 d1 d2 e0 e1 e2
            clear AX k4 k3 k2 k1 b0 b1 b2 c0 c1 cc hv hu HV HU hg hg2 ev eu
            go_wp2_with fail
            go_ret
            exact ⟨rfl, K4.out⟩
/-- InlineBreaks is true of any input. -/
theorem ibreaks_any (a b : ByteArray) (n m : Int) (hn : 0 ≤ n ∧ n ≤ 255) (hm : 0 ≤ m ∧ m ≤ 255) (w : World) (ha : a.size ≤ maxLen) (hb : b.size ≤ maxLen) (hO : Lis w) (hM : Mxl w) :
    Calls Tryz.prog 8 #[.string a, .string b, .agg #[.int .u8 n, .int .u8 m]] w fun e w' => e = .returned (.bool true) ∧ Keeps w w' := by
  obtain ⟨n, rfl⟩ : ∃ x : Nat, n = (x : Int) := ⟨n.toNat, by omega⟩
  obtain ⟨m, rfl⟩ : ∃ x : Nat, m = (x : Int) := ⟨m.toNat, by omega⟩
  cases hwa : wdB a.data.toList with
  | false => exact breaks_not a b n m w ha hb hO hM (.inl hwa)
  | true =>
    cases hwb : wdB b.data.toList with
    | false => exact breaks_not a b n m w ha hb hO hM (.inr ⟨hwa, hwb⟩)
    | true => exact breaks_word a b n m (by omega) (by omega) w ha hb hO hM hwa hwb
end Go.Proofs.YtolpmdicilbpfaaGreatDoor


/-
  Texts of the proof, one behind the other: IrA, IrB.
-/
import Derived.Test.YtolpmdicilbpfaaGreatDoorM47
import Derived.Test.YtolpmdicilbpfaaGreatDoorM46
/-
  InlineLinks is true of any words.
-/
namespace Go.Proofs.YtolpmdicilbpfaaGreatDoor
open Go.RowKit Go.Lib Go.Maps

theorem sps_one {W : World} {g k : Nat} {t d ti : List UInt8} {kids : List Sp} {kv : Value} {P : Nat → Prop} (h : Blk W g 31 #[.int .i64 k, .string ⟨t.toArray⟩, .string ⟨d.toArray⟩, .string ⟨ti.toArray⟩, kv]) (hk : SpsAt W P kids kv) (hp : P g) : SpsAt W P [.mk k t d ti kids] (.slice (some ⟨g, 0, none⟩) 1 1) :=
  SpsAt.mk [(.mk k t d ti kids, kv)] _ ⟨rfl, .inr ⟨g, 1, _, rfl, Nat.zero_le _, h, Nat.le_refl _, by simp [maxLen], rfl, rfl⟩⟩ (fun b e => by cases e; exact hp) (fun x hx => by rw [List.mem_singleton.1 hx]; exact hk)
theorem want_at (a d : ByteArray) (k : Nat) (K : Int) (hK : K = (k : Int)) (w : World) : SpsAt ((w.alloc (.cells #[.int .i64 1, .string a, .string ⟨#[]⟩, .string ⟨#[]⟩, .slice none 0 0] 31)).alloc (.cells #[.int .i64 K, .string ⟨#[]⟩, .string d, .string ⟨#[]⟩, .slice (some ⟨w.heap.size, 0, none⟩) 1 1] 31)) (fun b => b < w.heap.size + 2) [.mk k [] d.data.toList [] [txtS a.data.toList]] (.slice (some ⟨w.heap.size + 1, 0, none⟩) 1 1) := by
  subst hK
  have hz : (w.alloc (.cells #[.int .i64 1, .string a, .string ⟨#[]⟩, .string ⟨#[]⟩, .slice none 0 0] 31)).heap.size = w.heap.size + 1 := World.size_alloc _ _
  have b1 := Blk.new w 31 #[.int .i64 1, .string a, .string ⟨#[]⟩, .string ⟨#[]⟩, .slice none 0 0]
  have b2 := Blk.new (w.alloc (.cells #[.int .i64 1, .string a, .string ⟨#[]⟩, .string ⟨#[]⟩, .slice none 0 0] 31)) 31 #[.int .i64 k, .string ⟨#[]⟩, .string d, .string ⟨#[]⟩, .slice (some ⟨w.heap.size, 0, none⟩) 1 1]
  rw [hz] at b2
  refine sps_one (t := []) (ti := []) (by rw [bytes_same]; exact b2) (sps_one (t := a.data.toList) (d := []) (ti := []) (k := 1) (by rw [bytes_same]; exact b1.alloc _) (SpsAt.nil _ _) (by show w.heap.size < w.heap.size + 2; omega)) (by omega)
set_option maxRecDepth 100000 in
set_option maxHeartbeats 16000000 in
theorem links_word (a d lb : ByteArray) (w : World) (ha : a.size ≤ maxLen) (hd : d.size ≤ maxLen) (hlb : lb.size ≤ maxLen) (hO : Lis w) (hM : Mxl w) (hwa : wdB a.data.toList = true) (hwd : wdB d.data.toList = true) (hwl : wdB lb.data.toList = true) :
    Calls Tryz.prog 7 #[.string a, .string d, .string lb] w fun e w' => e = .returned (.bool true) ∧ Keeps w w' := by
  have WA := Lib.hid (fun W => word14_any a W ha)
  have WD := Lib.hid (fun W => word14_any d W hd)
  have WL := Lib.hid (fun W => word14_any lb W hlb)
  rw [hwa] at WA
  rw [hwd] at WD
  rw [hwl] at WL
  have AW := Lib.hid (fun W' (q : Keeps w W') => awake14_any W' (hO.keep q) (hM.keep q))
  obtain ⟨a1, a2, a3⟩ := wd_all hwa
  obtain ⟨d1, _, d3⟩ := wd_all hwd
  obtain ⟨l1, l2, l3⟩ := wd_all hwl
  have sa : a.size ≤ 100 := by rw [← bytes_len]; exact a3
  have sd : d.size ≤ 100 := by rw [← bytes_len]; exact d3
  have sl : lb.size ≤ 100 := by rw [← bytes_len]; exact l3
  obtain ⟨XA, hXA⟩ : ∃ X, (⟨#[91]⟩ : ByteArray) ++ a ++ ⟨#[93, 40]⟩ ++ d ++ ⟨#[41]⟩ = X := ⟨_, rfl⟩
  obtain ⟨XB, hXB⟩ : ∃ X, (⟨#[91]⟩ : ByteArray) ++ a ++ ⟨#[93, 91]⟩ ++ lb ++ ⟨#[93]⟩ = X := ⟨_, rfl⟩
  obtain ⟨XC, hXC⟩ : ∃ X, (⟨#[33, 91]⟩ : ByteArray) ++ a ++ ⟨#[93, 91]⟩ ++ lb ++ ⟨#[93]⟩ = X := ⟨_, rfl⟩
  obtain ⟨XE, hXE⟩ : ∃ X, (⟨#[91]⟩ : ByteArray) ++ lb ++ ⟨#[93]⟩ = X := ⟨_, rfl⟩
  have tA : XA.data.toList = 91 :: (a.data.toList ++ 93 :: 40 :: (d.data.toList ++ [41])) := by rw [← hXA]; simp only [bytes_app, List.append_assoc]; rfl
  have tB : XB.data.toList = 91 :: (a.data.toList ++ 93 :: 91 :: (lb.data.toList ++ [93])) := by rw [← hXB]; simp only [bytes_app, List.append_assoc]; rfl
  have tC : XC.data.toList = 33 :: 91 :: (a.data.toList ++ 93 :: 91 :: (lb.data.toList ++ [93])) := by rw [← hXC]; simp only [bytes_app, List.append_assoc]; rfl
  have tE : XE.data.toList = 91 :: (lb.data.toList ++ [93]) := by rw [← hXE]; simp only [bytes_app, List.append_assoc]; rfl
  have zA : XA.size ≤ 20000 := by rw [← bytes_len, tA]; simp only [List.length_append, List.length_cons, List.length_nil, bytes_len]; omega
  have zB : XB.size ≤ 20000 := by rw [← bytes_len, tB]; simp only [List.length_append, List.length_cons, List.length_nil, bytes_len]; omega
  have zC : XC.size ≤ 20000 := by rw [← bytes_len, tC]; simp only [List.length_append, List.length_cons, List.length_nil, bytes_len]; omega
  have zE : XE.size ≤ 20000 := by rw [← bytes_len, tE]; simp only [List.length_append, List.length_cons, List.length_nil, bytes_len]; omega
  have PA := Lib.hid (fun W' (q : Keeps w W') => parse_none XA W' (hO.keep q) (hM.keep q) zA)
  rw [tA, link_a a1 a2 d1] at PA
  have PB := Lib.hid (fun W' (q : Keeps w W') g (h : Blk W' g 35 #[.string ⟨lb.data.toList.toArray⟩, .string ⟨d.data.toList.toArray⟩, .string ⟨([] : List UInt8).toArray⟩]) => parse_one XB h (by omega) (hO.keep q) (hM.keep q) zB)
  rw [tB, link_b a1 a2 l1 l2 (by omega), bytes_same, bytes_same] at PB
  have PC := Lib.hid (fun W' (q : Keeps w W') g (h : Blk W' g 35 #[.string ⟨lb.data.toList.toArray⟩, .string ⟨d.data.toList.toArray⟩, .string ⟨([] : List UInt8).toArray⟩]) => parse_one XC h (by omega) (hO.keep q) (hM.keep q) zC)
  rw [tC, link_c a1 a2 l1 l2 (by omega), bytes_same, bytes_same] at PC
  have PD := Lib.hid (fun W' (q : Keeps w W') => parse_none XB W' (hO.keep q) (hM.keep q) zB)
  rw [tB, link_d a1 a2 l1 l2, ← tB] at PD
  have PE := Lib.hid (fun W' (q : Keeps w W') g (h : Blk W' g 35 #[.string ⟨lb.data.toList.toArray⟩, .string ⟨d.data.toList.toArray⟩, .string ⟨([] : List UInt8).toArray⟩]) => parse_one XE h (by omega) (hO.keep q) (hM.keep q) zE)
  rw [tE, link_e l1 l2 (by omega), bytes_same, bytes_same] at PE
  have HXD := Lib.hid hXB
  clear hO hM hwa hwd hwl a1 a2 a3 d1 d3 l1 l2 l3 tA tB tC tE zA zB zC zE
  go_enter Tryz.func7, Tryz.ntmps7
  go_wp2_with fail
  refine (WA.out _).mono ?_
  rintro e w0 ⟨rfl, rfl⟩
  go_wp2_with fail
  refine (WD.out _).mono ?_
  rintro e w0 ⟨rfl, rfl⟩
  go_wp2_with fail
  refine (WL.out _).mono ?_
  rintro e w0 ⟨rfl, rfl⟩
  clear WA WD WL
  go_upto_region 3 with fail
  go_cut [7] (fun x wx => ∃ w1 g, w1 = wx ∧ x = .slice (some ⟨g, 0, none⟩) 1 1 ∧ Keeps w w1 ∧ Hid (Blk w1 g 35 #[.string lb, .string d, .string ⟨#[]⟩]))
  case first =>
    go_wp2_with fail
    go_meet
    case rel => exact ⟨_, _, rfl, rfl, (Keeps.refl w).alloc _, Lib.hid (Blk.new w _ _)⟩
  case rest =>
  obtain ⟨w1, gr, rfl, rfl, k1, BR⟩ := hcut
  go_upto_region 4 with fail
  go_cut [8] (fun x wx => ∃ w2, w2 = wx ∧ Keeps w1 w2 ∧ Hid (SpsAt w2 (fun b => b < w1.heap.size + 2) [.mk 7 [] d.data.toList [] [txtS a.data.toList]] x) ∧ w1.heap.size + 2 ≤ w2.heap.size)
  case first =>
    go_wp2_with fail
    go_meet
    case rel => exact ⟨_, rfl, ((Keeps.refl w1).alloc _).alloc _, Lib.hid (want_at a d 7 7 rfl w1), by rw [World.size_alloc, World.size_alloc]; exact Nat.le_refl _⟩
  case rest =>
  obtain ⟨w2, rfl, k2, S2, z2⟩ := hcut
  go_upto_region 5 with fail
  go_cut [9] (fun x wx => ∃ w3, w3 = wx ∧ Keeps w2 w3 ∧ Hid (SpsAt w3 (fun b => b < w2.heap.size + 2) [.mk 8 [] d.data.toList [] [txtS a.data.toList]] x) ∧ w2.heap.size + 2 ≤ w3.heap.size)
  case first =>
    go_wp2_with fail
    go_meet
    case rel => exact ⟨_, rfl, ((Keeps.refl w2).alloc _).alloc _, Lib.hid (want_at a d 8 8 rfl w2), by rw [World.size_alloc, World.size_alloc]; exact Nat.le_refl _⟩
  case rest =>
  obtain ⟨w3, rfl, k3, S3, z3⟩ := hcut
  have q3 := (k1.trans k2).trans k3
  have C4 := Lib.hid (PA.out w3 q3)
  go_upto_region 6 with fail
  go_cut [10] (fun x wx => ∃ w4, w4 = wx ∧ Keeps w3 w4 ∧ Hid (SpsAt w4 (fun b => b < w4.heap.size) [.mk 7 [] d.data.toList [] [txtS a.data.toList]] x))
  case first =>
    go_wp2_with (first | (go_at_call 13; (with_reducible refine C4.out.mono ?_); rintro e w4 ⟨v, rfl, hv, k⟩))
    go_meet
    case rel => exact ⟨_, rfl, k, Lib.hid hv⟩
  case rest =>
  obtain ⟨w4, rfl, k4, S4⟩ := hcut
  have q4 := q3.trans k4
  have r4 : Keeps w1 w4 := (k2.trans k3).trans k4
  clear C4 PA
  have C5 := Lib.hid (PB.out w4 q4 gr (BR.out.keep r4))
  go_upto_region 7 with fail
  go_cut [11] (fun x wx => ∃ w5, w5 = wx ∧ Keeps w4 w5 ∧ Hid (SpsAt w5 (fun b => b < w5.heap.size) [.mk 7 [] d.data.toList [] [txtS a.data.toList]] x))
  case first =>
    go_wp2_with (first | (go_at_call 13; (with_reducible refine C5.out.mono ?_); rintro e w5 ⟨v, rfl, hv, k⟩))
    go_meet
    case rel => exact ⟨_, rfl, k, Lib.hid hv⟩
  case rest =>
  obtain ⟨w5, rfl, k5, S5⟩ := hcut
  have q5 := q4.trans k5
  have r5 : Keeps w1 w5 := r4.trans k5
  clear C5 PB
  have C6 := Lib.hid (PC.out w5 q5 gr (BR.out.keep r5))
  go_upto_region 8 with fail
  go_cut [12] (fun x wx => ∃ w6, w6 = wx ∧ Keeps w5 w6 ∧ Hid (SpsAt w6 (fun b => b < w6.heap.size) [.mk 8 [] d.data.toList [] [txtS a.data.toList]] x))
  case first =>
    go_wp2_with (first | (go_at_call 13; (with_reducible refine C6.out.mono ?_); rintro e w6 ⟨v, rfl, hv, k⟩))
    go_meet
    case rel => exact ⟨_, rfl, k, Lib.hid hv⟩
  case rest =>
  obtain ⟨w6, rfl, k6, S6⟩ := hcut
  have q6 := q5.trans k6
  have r6 : Keeps w1 w6 := r5.trans k6
  clear C6 PC
  have C7 := Lib.hid (PD.out w6 q6)
  go_upto_region 9 with fail
  go_cut [13] (fun x wx => ∃ w7, w7 = wx ∧ Keeps w6 w7 ∧ Hid (SpsAt w7 (fun b => b < w7.heap.size) [txtS XB.data.toList] x))
  case first =>
    go_wp2_with (first | (go_at_call 13; (with_reducible refine C7.out.mono ?_); rintro e w7 ⟨v, rfl, hv, k⟩))
    go_meet
    case rel => exact ⟨_, rfl, k, Lib.hid hv⟩
  case rest =>
  obtain ⟨w7, rfl, k7, S7⟩ := hcut
  have q7 := q6.trans k7
  have r7 : Keeps w1 w7 := r6.trans k7
  clear C7 PD
  have C8 := Lib.hid (PE.out w7 q7 gr (BR.out.keep r7))
  go_upto_region 10 with fail
  go_cut [14] (fun x wx => ∃ w8, w8 = wx ∧ Keeps w7 w8 ∧ Hid (SpsAt w8 (fun b => b < w8.heap.size) [.mk 7 [] d.data.toList [] [txtS lb.data.toList]] x))
  case first =>
    go_wp2_with (first | (go_at_call 13; (with_reducible refine C8.out.mono ?_); rintro e w8 ⟨v, rfl, hv, k⟩))
    go_meet
    case rel => exact ⟨_, rfl, k, Lib.hid hv⟩
  case rest =>
  obtain ⟨w8, rfl, k8, S8⟩ := hcut
  have q8 := q7.trans k8
  have r8 : Keeps w1 w8 := r7.trans k8
  clear C8 PE
  have AX := Lib.hid (AW.out w8 q8)
  clear BR hXA hXB hXC hXE
  go_upto_region 11 with fail
  go_wp2_with fail
  refine AX.out.mono ?_
  rintro e w9 ⟨rfl, k9⟩
  have T2 := Lib.hid ((S2.out.keep (fun b h => Nat.lt_of_lt_of_le h z2) ((((((k3.trans k4).trans k5).trans k6).trans k7).trans k8).trans k9)))
  have T3 := Lib.hid ((S3.out.keep (fun b h => Nat.lt_of_lt_of_le h z3) (((((k4.trans k5).trans k6).trans k7).trans k8).trans k9)))
  have T4 := Lib.hid (S4.out.keep (fun b h => h) ((((k5.trans k6).trans k7).trans k8).trans k9))
  have T5 := Lib.hid (S5.out.keep (fun b h => h) (((k6.trans k7).trans k8).trans k9))
  have T6 := Lib.hid (S6.out.keep (fun b h => h) ((k7.trans k8).trans k9))
  have T7 := Lib.hid (S7.out.keep (fun b h => h) (k8.trans k9))
  have T8 := Lib.hid (S8.out.keep (fun b h => h) k9)
  have K9 := Lib.hid (q8.trans k9)
  have L2 : w1.heap.size + 2 ≤ w9.heap.size := Nat.le_trans z2 ((((((k3.trans k4).trans k5).trans k6).trans k7).trans k8).trans k9).size
  have L3 : w2.heap.size + 2 ≤ w9.heap.size := Nat.le_trans z3 (((((k4.trans k5).trans k6).trans k7).trans k8).trans k9).size
  have L4 := ((((k5.trans k6).trans k7).trans k8).trans k9).size
  have L5 := (((k6.trans k7).trans k8).trans k9).size
  have L6 := ((k7.trans k8).trans k9).size
  have L7 := (k8.trans k9).size
  have L8 := k9.size
  clear S2 S3 S4 S5 S6 S7 S8 AX
  go_wp2_with fail
  refine (sames_any _ _ w9 _ _ _ _ (Nat.le_refl _) T4.out T2.out (fun b h => by omega) (fun b h => by omega)).mono ?_
  rintro e wa ⟨rfl, ka⟩
  have M1 := ka.size
  go_wp2_with fail
  refine (sames_any _ _ wa _ _ _ _ (Nat.le_refl _) (T5.out.keep (fun b h => by omega) ka) (T2.out.keep (fun b h => by omega) ka) (fun b h => by omega) (fun b h => by omega)).mono ?_
  rintro e wb ⟨rfl, kb⟩
  have M2 := kb.size
  go_wp2_with fail
  refine (sames_any _ _ wb _ _ _ _ (Nat.le_refl _) (T6.out.keep (fun b h => by omega) (ka.trans kb)) (T3.out.keep (fun b h => by omega) (ka.trans kb)) (fun b h => by omega) (fun b h => by omega)).mono ?_
  rintro e wc ⟨rfl, kc⟩
  have KC := (ka.trans kb).trans kc
  obtain ⟨g7, c7, v7, rfl, b7, _⟩ := (T7.out.keep (fun b h => by omega) KC).only
  obtain ⟨g8, c8, v8, rfl, b8, _⟩ := (T8.out.keep (fun b h => by omega) KC).only
  have KF := Lib.hid (K9.out.trans KC)
  have x0 := b7.c0
  have x1 := b7.c1
  have y0 := b8.c0
  have y2 := b8.c2
  rw [bytes_same] at x1 y2
  simp only [Nat.reduceAdd] at x0 x1 y0 y2
  have HXD := HXD.out
  clear T2 T3 T4 T5 T6 T7 T8 b7 b8 KC ka kb kc M1 M2 L2 L3 L4 L5 L6 L7 L8
  go_wp2_with fail
  go_ret
  exact ⟨rfl, KF.out⟩
end Go.Proofs.YtolpmdicilbpfaaGreatDoor

/-
  InlineLinks is true of any texts.
-/
namespace Go.Proofs.YtolpmdicilbpfaaGreatDoor
open Go.RowKit Go.Lib Go.Maps

set_option maxRecDepth 100000 in
set_option maxHeartbeats 8000000 in
theorem links_not (a d lb : ByteArray) (w : World) (ha : a.size ≤ maxLen) (hd : d.size ≤ maxLen) (hlb : lb.size ≤ maxLen) (hO : Lis w) (hM : Mxl w) (hw : wdB a.data.toList = false ∨ (wdB a.data.toList = true ∧ wdB d.data.toList = false) ∨ (wdB a.data.toList = true ∧ wdB d.data.toList = true ∧ wdB lb.data.toList = false)) :
    Calls Tryz.prog 7 #[.string a, .string d, .string lb] w fun e w' => e = .returned (.bool true) ∧ Keeps w w' := by
  have WA := Lib.hid (fun W => word14_any a W ha)
  have WD := Lib.hid (fun W => word14_any d W hd)
  have WL := Lib.hid (fun W => word14_any lb W hlb)
  have AW := Lib.hid (awake14_any w hO hM)
  clear hO hM
  rcases hw with hw | ⟨hw, hw2⟩ | ⟨hw, hw2, hw3⟩
  · rw [hw] at WA
    clear hw
    go_enter Tryz.func7, Tryz.ntmps7
    go_wp2_with fail
    refine (WA.out _).mono ?_
    rintro e w1 ⟨rfl, rfl⟩
    go_wp2_with fail
    refine AW.out.mono ?_
    rintro e w1 ⟨rfl, k1⟩
    go_wp2_with fail
    go_ret
    exact ⟨rfl, k1⟩
  · rw [hw] at WA
    rw [hw2] at WD
    clear hw hw2
    go_enter Tryz.func7, Tryz.ntmps7
    go_wp2_with fail
    refine (WA.out _).mono ?_
    rintro e w1 ⟨rfl, rfl⟩
    go_wp2_with fail
    refine (WD.out _).mono ?_
    rintro e w1 ⟨rfl, rfl⟩
    go_wp2_with fail
    refine AW.out.mono ?_
    rintro e w1 ⟨rfl, k1⟩
    go_wp2_with fail
    go_ret
    exact ⟨rfl, k1⟩
  · rw [hw] at WA
    rw [hw2] at WD
    rw [hw3] at WL
    clear hw hw2 hw3
    go_enter Tryz.func7, Tryz.ntmps7
    go_wp2_with fail
    refine (WA.out _).mono ?_
    rintro e w1 ⟨rfl, rfl⟩
    go_wp2_with fail
    refine (WD.out _).mono ?_
    rintro e w1 ⟨rfl, rfl⟩
    go_wp2_with fail
    refine (WL.out _).mono ?_
    rintro e w1 ⟨rfl, rfl⟩
    go_wp2_with fail
    refine AW.out.mono ?_
    rintro e w1 ⟨rfl, k1⟩
    go_wp2_with fail
    go_ret
    exact ⟨rfl, k1⟩
/-- InlineLinks is true of any input. -/
theorem ilinks_any (a d lb : ByteArray) (w : World) (ha : a.size ≤ maxLen) (hd : d.size ≤ maxLen) (hlb : lb.size ≤ maxLen) (hO : Lis w) (hM : Mxl w) :
    Calls Tryz.prog 7 #[.string a, .string d, .string lb] w fun e w' => e = .returned (.bool true) ∧ Keeps w w' := by
  cases hwa : wdB a.data.toList with
  | false => exact links_not a d lb w ha hd hlb hO hM (.inl hwa)
  | true =>
    cases hwd : wdB d.data.toList with
    | false => exact links_not a d lb w ha hd hlb hO hM (.inr (.inl ⟨hwa, hwd⟩))
    | true =>
      cases hwl : wdB lb.data.toList with
      | false => exact links_not a d lb w ha hd hlb hO hM (.inr (.inr ⟨hwa, hwd, hwl⟩))
      | true => exact links_word a d lb w ha hd hlb hO hM hwa hwd hwl
end Go.Proofs.YtolpmdicilbpfaaGreatDoor


/-
  Texts of the proof, one behind the other: Bwf, Bwg.
-/
import Derived.Test.YtdelaanaohjnkaaGreatDoorM42
import Derived.Test.YtdelaanaohjnkaaGreatDoorM41
/-
  Texts of a word, a heading and a word, and of words with lines under them: what the parser makes of them. The contract of the law's word.
-/
namespace Go.Proofs.YtdelaanaohjnkaaGreatDoor
open Go.RowKit Go.Lib

theorem lines_cut {a l : List UInt8} (h : ∀ b ∈ a, b ≠ 10) : linesL (a ++ 10 :: l) = a :: linesL l := by
  unfold linesL
  rw [linesFrom_run a [] _ h, linesFrom, if_pos rfl, List.nil_append]
theorem hdl {k : Nat} (h : 1 ≤ k ∧ k ≤ 6) {s : List UInt8} (hs : Wrd s) : Hdl (List.replicate k 35 ++ 32 :: s) k s := by
  have hc : k = 1 ∨ k = 2 ∨ k = 3 ∨ k = 4 ∨ k = 5 ∨ k = 6 := by omega
  rcases hc with rfl | rfl | rfl | rfl | rfl | rfl <;> exact ⟨rfl, ⟨35, _, rfl⟩, rfl, rfl, by decide, hs.htext⟩
theorem unl1 : Unl [61, 61, 61] 1 := ⟨rfl, ⟨_, _, rfl⟩, rfl, rfl, rfl, rfl, rfl, rfl, by decide⟩
theorem unl2 : Unl [45, 45, 45] 2 := ⟨rfl, ⟨_, _, rfl⟩, rfl, rfl, rfl, rfl, rfl, rfl, by decide⟩
theorem hdl_lf {k : Nat} {s : List UInt8} (hs : Wrd s) : ∀ b ∈ List.replicate k 35 ++ 32 :: s, b ≠ 10 := by
  intro b hb
  rcases List.mem_append.1 hb with h | h
  · rw [(List.mem_replicate.1 h).2]; decide
  · rcases List.mem_cons.1 h with rfl | h
    · decide
    · exact hs.lf b h
def hedT (k : Nat) (s : List UInt8) : Tr := .mk 6 k false 0 0 false [] s []
theorem heads1 {b s : List UInt8} {k : Nat} (hb : Wrd b) (hs : Wrd s) (hk : 1 ≤ k ∧ k ≤ 6) :
    parseM (b ++ [10] ++ List.replicate k 35 ++ [32] ++ s ++ [10] ++ b ++ [10]) = some (docT [parT b, hedT k s, parT b], []) := by
  have e : b ++ [10] ++ List.replicate k 35 ++ [32] ++ s ++ [10] ++ b ++ [10] = b ++ 10 :: ((List.replicate k 35 ++ 32 :: s) ++ 10 :: (b ++ 10 :: [])) := by simp
  have el : linesL (b ++ [10] ++ List.replicate k 35 ++ [32] ++ s ++ [10] ++ b ++ [10]) = [b, List.replicate k 35 ++ 32 :: s, b] := by
    rw [e, lines_cut hb.lf, lines_cut (hdl_lf hs), lines_cut hb.lf]; rfl
  have er : runM [b, List.replicate k 35 ++ 32 :: s, b] st0 = some (S3 b s k) := by
    rw [runM, take_first hb, if_neg (by exact Bool.false_ne_true), runM, take_head hb (hdl hk hs), if_neg (by exact Bool.false_ne_true), runM, take_after hb, if_neg (by exact Bool.false_ne_true), runM]
  have ec : cwM (S3 b s k) 0 = { closedM (S3 b s k) 3 with tip := 0 } := rfl
  unfold parseM
  rw [el, er, Option.map_some, ec, close_para (S3 b s k) 3 (hb.defs (q := [10])) hb.trim rfl rfl (by show 3 < 4; decide) hb.1]
  rfl
theorem heads2 {b s : List UInt8} (hb : Wrd b) (hs : Wrd s) :
    parseM (s ++ [10, 61, 61, 61, 10] ++ b ++ [10, 45, 45, 45, 10]) = some (docT [hedT 1 s, hedT 2 b], []) := by
  have e : s ++ [10, 61, 61, 61, 10] ++ b ++ [10, 45, 45, 45, 10] = s ++ 10 :: ([61, 61, 61] ++ 10 :: (b ++ 10 :: ([45, 45, 45] ++ 10 :: []))) := by simp
  have el : linesL (s ++ [10, 61, 61, 61, 10] ++ b ++ [10, 45, 45, 45, 10]) = [s, [61, 61, 61], b, [45, 45, 45]] := by
    rw [e, lines_cut hs.lf, lines_cut (by decide), lines_cut hb.lf, lines_cut (by decide)]; rfl
  have er : runM [s, [61, 61, 61], b, [45, 45, 45]] st0 = some (U3 s b [45, 45, 45]) := by
    rw [runM, take_first hs, if_neg (by exact Bool.false_ne_true), runM, take_u1 hs unl1, if_neg (by exact Bool.false_ne_true), runM, take_u2 hb, if_neg (by exact Bool.false_ne_true), runM, take_u3 hb unl2, if_neg (by exact Bool.false_ne_true), runM]
  unfold parseM
  rw [el, er]
  rfl

/-! The law's word. -/
def ltB (b : UInt8) : Bool := decide (97 ≤ b.toNat) && decide (b.toNat ≤ 122)
def wrdB (l : List UInt8) : Bool := l.all ltB && (!decide (l = []) && decide (l.length ≤ 40))
theorem ltB_yes {b : UInt8} (h : ltB b = true) : ltr b := by
  unfold ltB at h
  simp only [Bool.and_eq_true, decide_eq_true_eq] at h
  exact h
theorem wrdB_yes {l : List UInt8} (h : wrdB l = true) : Wrd l ∧ l.length ≤ 40 := by
  unfold wrdB at h
  simp only [Bool.and_eq_true, Bool.not_eq_true', decide_eq_true_eq, decide_eq_false_iff_not, List.all_eq_true] at h
  exact ⟨⟨h.2.1, fun b hb => ltB_yes (h.1 b hb)⟩, h.2.2⟩
theorem all_next {l : List UInt8} {k : Nat} (h : (l.take k).all ltB = true) (hk : k < l.length) (hb : ltB l[k] = true) : (l.take (k + 1)).all ltB = true := by
  rw [List.take_succ_eq_append_getElem hk, List.all_append, h, List.all_cons, hb]; rfl
theorem wrdB_no {l : List UInt8} {k : Nat} (hk : k < l.length) (hb : ltB l[k] = false) : wrdB l = false := by
  have : l.all ltB = false := by
    rw [← Bool.not_eq_true, List.all_eq_true]
    intro h
    rw [h _ (List.getElem_mem hk)] at hb
    cases hb
  unfold wrdB
  rw [this]; rfl
set_option maxRecDepth 100000 in
set_option maxHeartbeats 2000000 in
theorem word_any (s : ByteArray) (w : World) (hs : s.size ≤ maxLen) :
    Calls Tryz.prog 23 #[.string s] w fun e w' => e = .returned (.bool (wrdB s.data.toList)) ∧ w = w' := by
  have hl := Lib.hid (bytes_len s)
  unfold maxLen at hs
  go_enter Tryz.func23, Tryz.ntmps23
  go_wp2_with fail
  go_loop [3] (fun i => ∃ k : Nat, k ≤ s.size ∧ i = .int .i64 k ∧ Hid ((s.data.toList.take k).all ltB = true)) (fun i => s.size - (RowKit.intOf i).toNat)
  case atStart => exact ⟨0, Nat.zero_le _, rfl, Lib.hid rfl⟩
  case round =>
    obtain ⟨k, hk, rfl, HC⟩ := hrel
    by_cases c : k < s.size
    · by_cases c1 : 97 ≤ s[k].toNat
      · by_cases c2 : s[k].toNat ≤ 122
        · have HN : Hid ((s.data.toList.take (k + 1)).all ltB = true) := Lib.hid (all_next HC.out (by rw [hl.out]; exact c) (by
            show ltB s[k] = true
            unfold ltB; rw [decide_eq_true c1, decide_eq_true c2]; rfl))
          clear HC
          go_wp2_with fail
          go_round
          case rel => exact ⟨k + 1, by omega, by go_num, HN⟩
          case measure => simp [RowKit.intOf]; omega
        · have HN : Hid (wrdB s.data.toList = false) := Lib.hid (wrdB_no (k := k) (by rw [hl.out]; exact c) (by
            show ltB s[k] = false
            unfold ltB; rw [decide_eq_false c2, Bool.and_false]))
          clear HC
          go_wp2_with fail
          go_ret
          exact ⟨ret_bool HN.out.symm, rfl⟩
      · have HN : Hid (wrdB s.data.toList = false) := Lib.hid (wrdB_no (k := k) (by rw [hl.out]; exact c) (by
          show ltB s[k] = false
          unfold ltB; rw [decide_eq_false c1]; rfl))
        clear HC
        go_wp2_with fail
        go_ret
        exact ⟨ret_bool HN.out.symm, rfl⟩
    · have HA : Hid (s.data.toList.all ltB = true) := Lib.hid (by
        have := HC.out
        rw [List.take_of_length_le (by rw [hl.out]; omega)] at this
        exact this)
      clear HC
      by_cases c0 : s.size = 0
      · have e0 : s = ⟨#[]⟩ := by
          apply ByteArray.ext
          apply Array.ext'
          exact List.eq_nil_of_length_eq_zero (by rw [hl.out, c0])
        subst e0
        go_wp2_with fail
        go_ret
        exact ⟨rfl, rfl⟩
      · have t0 : ¬ s.toList = [] := tl_ne (by omega)
        have HN : Hid ((!s.toList.isEmpty && decide ((s.size : Int) ≤ 40)) = wrdB s.data.toList) := Lib.hid (by
          unfold wrdB
          have e0 : decide (s.data.toList = []) = false := decide_eq_false (fun e => c0 (by rw [← hl.out, e]; rfl))
          rw [HA.out, hl.out, tl_empty (by omega), e0]
          show decide ((s.size : Int) ≤ 40) = decide (s.size ≤ 40)
          exact decide_eq_decide.2 (by omega))
        clear HA
        go_wp2_with fail
        go_ret
        exact ⟨ret_bool HN.out, rfl⟩
end Go.Proofs.YtdelaanaohjnkaaGreatDoor

/-
  BlockHeads is true of any words and any number.
-/
namespace Go.Proofs.YtdelaanaohjnkaaGreatDoor
open Go.RowKit Go.Lib

theorem same_b (s : ByteArray) : (⟨s.data.toList.toArray⟩ : ByteArray) = s := by cases s; rfl
theorem six_list {k : Nat} (h : k ≤ 6) : ((⟨#[35, 35, 35, 35, 35, 35]⟩ : ByteArray).extract 0 k).data.toList = List.replicate k 35 := by
  have hc : k = 0 ∨ k = 1 ∨ k = 2 ∨ k = 3 ∨ k = 4 ∨ k = 5 ∨ k = 6 := by omega
  rcases hc with rfl | rfl | rfl | rfl | rfl | rfl | rfl <;> rw [Lib.extract_data] <;> rfl
set_option maxRecDepth 100000 in
set_option maxHeartbeats 8000000 in
theorem bheads_word (s : ByteArray) (n : Nat) (hn : n < 256) (b : ByteArray) (hs0 : s.size ≤ maxLen) (hb0 : b.size ≤ maxLen) (w : World) (hO : Lis w) (hM : Mxl w) (hs : wrdB s.data.toList = true) (hb : wrdB b.data.toList = true) :
    Calls Tryz.prog 10 #[.string s, .int .u8 (n : Nat), .string b] w fun e w' => e = .returned (.bool true) ∧ Keeps w w' := by
  have WS := Lib.hid (fun W => word_any s W hs0)
  have WB := Lib.hid (fun W => word_any b W hb0)
  rw [hs] at WS
  rw [hb] at WB
  have HS := Lib.hid (wrdB_yes hs)
  have HB := Lib.hid (wrdB_yes hb)
  have ss : s.size ≤ 40 := by have := HS.out.2; rw [bytes_len] at this; exact this
  have sb : b.size ≤ 40 := by have := HB.out.2; rw [bytes_len] at this; exact this
  have PA := Lib.hid (fun t (h : t.size ≤ 5000) W (q : Keeps w W) => parse_any t W h (hO.keep q) (hM.keep q))
  have AW := Lib.hid (fun W' (q : Keeps w W') => awake12_any W' (hO.keep q) (hM.keep q))
  obtain ⟨u, hu⟩ : ∃ u : Nat, (n : Int).tmod 6 = (u : Int) ∧ u < 6 := ⟨n % 6, by rw [Int.tmod_eq_emod_of_nonneg (by omega)]; omega, by omega⟩
  obtain ⟨hu1, hu2⟩ := hu
  obtain ⟨k, hk⟩ : ∃ k : Nat, k = 1 + u := ⟨_, rfl⟩
  have hk1 : (1 : Int) + (u : Int) = (k : Int) := by omega
  have hk2 : 1 ≤ k ∧ k ≤ 6 := by omega
  obtain ⟨hk3, hk4⟩ := hk2
  clear hk hn hO hM hs hb hs0 hb0
  obtain ⟨H, hH⟩ : ∃ H, (⟨#[35, 35, 35, 35, 35, 35]⟩ : ByteArray).extract 0 k = H := ⟨_, rfl⟩
  have hHl : H.data.toList = List.replicate k 35 := by rw [← hH]; exact six_list hk4
  have hHs : H.size = k := by rw [← bytes_len, hHl, List.length_replicate]
  obtain ⟨X, hX⟩ : ∃ X, b ++ (⟨#[10]⟩ : ByteArray) ++ H ++ (⟨#[32]⟩ : ByteArray) ++ s ++ (⟨#[10]⟩ : ByteArray) ++ b ++ (⟨#[10]⟩ : ByteArray) = X := ⟨_, rfl⟩
  obtain ⟨Y, hY⟩ : ∃ Y, s ++ (⟨#[10, 61, 61, 61, 10]⟩ : ByteArray) ++ b ++ (⟨#[10, 45, 45, 45, 10]⟩ : ByteArray) = Y := ⟨_, rfl⟩
  have z1 : (⟨#[10]⟩ : ByteArray).size = 1 := rfl
  have z2 : (⟨#[32]⟩ : ByteArray).size = 1 := rfl
  have z3 : (⟨#[10, 61, 61, 61, 10]⟩ : ByteArray).size = 5 := rfl
  have z4 : (⟨#[10, 45, 45, 45, 10]⟩ : ByteArray).size = 5 := rfl
  have sX : X.size ≤ 5000 := by
    rw [← hX]; simp only [ByteArray.size_append]; omega
  have sY : Y.size ≤ 5000 := by
    rw [← hY]; simp only [ByteArray.size_append]; omega
  have PX : Hid (parseM X.data.toList = some (docT [parT b.data.toList, hedT k s.data.toList, parT b.data.toList], [])) := Lib.hid (by
    rw [← hX]
    simp only [bytes_app, hHl]
    exact heads1 HB.out.1 HS.out.1 ⟨hk3, hk4⟩)
  have PY : Hid (parseM Y.data.toList = some (docT [hedT 1 s.data.toList, hedT 2 b.data.toList], [])) := Lib.hid (by
    rw [← hY]
    simp only [bytes_app]
    exact heads2 HB.out.1 HS.out.1)
  have CX := Lib.hid (PA.out X sX w (Keeps.refl w))
  have CY := Lib.hid (PA.out Y sY)
  clear PA hHl HS HB z1 z2 z3 z4 sX sY
  go_enter Tryz.func10, Tryz.ntmps10
  go_wp2_with fail
  refine (WS.out _).mono ?_
  rintro e w1 ⟨rfl, rfl⟩
  go_wp2_with fail
  refine (WB.out _).mono ?_
  rintro e w1 ⟨rfl, rfl⟩
  clear WS WB
  go_wp2_with fail
  refine CX.out.mono ?_
  rintro e w1 ⟨kk, hp⟩
  obtain ⟨kv, v, rfl, hk, _, _⟩ := hp.open PX.out
  obtain ⟨ao, cap, ekv, _, _, hg⟩ := hk.slice
  obtain ⟨g, rfl⟩ := hg (Nat.succ_pos _)
  have ekv1 : kv = .slice (some ⟨g, 0, none⟩) 3 cap := ekv
  subst ekv1
  have ev : blkV 1 0 false 0 0 false [] [] (.slice (some ⟨g, 0, none⟩) 3 cap) = .agg #[.int .i64 1, .int .i64 0, .bool false, .int .i64 0, .int .u8 0, .bool false, .string ⟨#[]⟩, .string ⟨#[]⟩, (.slice (some ⟨g, 0, none⟩) 3 cap), .slice none 0 0] := rfl
  rw [ev]
  have KA := (Keeps.refl w1).alloc (.cells #[.int .i64 1, .int .i64 0, .bool false, .int .i64 0, .int .u8 0, .bool false, .string ⟨#[]⟩, .string ⟨#[]⟩, (.slice (some ⟨g, 0, none⟩) 3 cap), .slice none 0 0] 26)
  have KW := kk.trans KA
  have CZ := Lib.hid (CY.out _ KW)
  have KE := Lib.hid KW
  have HK := Lib.hid (hk.keep (Nat.le_refl _) KA)
  have hhi : Hid (w1.heap.size ≤ (w1.alloc (.cells #[.int .i64 1, .int .i64 0, .bool false, .int .i64 0, .int .u8 0, .bool false, .string ⟨#[]⟩, .string ⟨#[]⟩, (.slice (some ⟨g, 0, none⟩) 3 cap), .slice none 0 0] 26)).heap.size) := Lib.hid KA.size
  have HX8 := Lib.hid ((Blk.new w1 26 #[.int .i64 1, .int .i64 0, .bool false, .int .i64 0, .int .u8 0, .bool false, .string ⟨#[]⟩, .string ⟨#[]⟩, (.slice (some ⟨g, 0, none⟩) 3 cap), .slice none 0 0]).cell 8 (v := .slice (some ⟨g, 0, none⟩) 3 cap) rfl)
  obtain ⟨bb, hbb⟩ : ∃ bb, w1.heap.size = bb := ⟨_, rfl⟩
  rw [hbb] at HX8 HK hhi
  clear hp hk ev hg ekv KW KA kk CX CY PX hX
  go_wp2_with fail
  generalize w1.alloc (.cells #[.int .i64 1, .int .i64 0, .bool false, .int .i64 0, .int .u8 0, .bool false, .string ⟨#[]⟩, .string ⟨#[]⟩, (.slice (some ⟨g, 0, none⟩) 3 cap), .slice none 0 0] 26) = w2 at *
  refine CZ.out.mono ?_
  rintro e w3 ⟨kk, hp⟩
  obtain ⟨kv', v', rfl, hk', _, _⟩ := hp.open PY.out
  obtain ⟨ao', cbp, ekv', _, _, hg'⟩ := hk'.slice
  obtain ⟨h, rfl⟩ := hg' (Nat.succ_pos _)
  have ekv2 : kv' = .slice (some ⟨h, 0, none⟩) 2 cbp := ekv'
  subst ekv2
  have ev : blkV 1 0 false 0 0 false [] [] (.slice (some ⟨h, 0, none⟩) 2 cbp) = .agg #[.int .i64 1, .int .i64 0, .bool false, .int .i64 0, .int .u8 0, .bool false, .string ⟨#[]⟩, .string ⟨#[]⟩, (.slice (some ⟨h, 0, none⟩) 2 cbp), .slice none 0 0] := rfl
  rw [ev]
  have KB := (Keeps.refl w3).alloc (.cells #[.int .i64 1, .int .i64 0, .bool false, .int .i64 0, .int .u8 0, .bool false, .string ⟨#[]⟩, .string ⟨#[]⟩, (.slice (some ⟨h, 0, none⟩) 2 cbp), .slice none 0 0] 26)
  have KX := kk.trans KB
  have KF := Lib.hid (KE.out.trans KX)
  have x8 := keep_cell HX8.out KX
  have y8 := (Blk.new w3 26 #[.int .i64 1, .int .i64 0, .bool false, .int .i64 0, .int .u8 0, .bool false, .string ⟨#[]⟩, .string ⟨#[]⟩, (.slice (some ⟨h, 0, none⟩) 2 cbp), .slice none 0 0]).cell 8 (v := .slice (some ⟨h, 0, none⟩) 2 cbp) rfl
  have HKA := HK.out.keep hhi.out KX
  have HKB := hk'.keep (Nat.le_refl _) KB
  obtain ⟨_, a1, _⟩ := HKA.at (i := 1) rfl
  obtain ⟨_, a2, _⟩ := HKA.at (i := 2) rfl
  obtain ⟨_, b0, _⟩ := HKB.at (i := 0) rfl
  obtain ⟨_, b1, _⟩ := HKB.at (i := 1) rfl
  have AX := Lib.hid (AW.out _ KF.out)
  have A1 := Lib.hid a1
  have A2 := Lib.hid a2
  have B0 := Lib.hid b0
  have B1 := Lib.hid b1
  obtain ⟨bc, hbc⟩ : ∃ bc, w3.heap.size = bc := ⟨_, rfl⟩
  rw [hbc] at y8
  clear hp hk' ev hg' ekv' KX KB kk CZ PY hY a1 a2 b0 b1 HKA HKB HK hhi HX8 AW
  go_wp2_with fail
  generalize w3.alloc (.cells #[.int .i64 1, .int .i64 0, .bool false, .int .i64 0, .int .u8 0, .bool false, .string ⟨#[]⟩, .string ⟨#[]⟩, (.slice (some ⟨h, 0, none⟩) 2 cbp), .slice none 0 0] 26) = w4 at *
  refine AX.out.mono ?_
  rintro e w5 ⟨rfl, k5⟩
  have X8 := keep_cell x8 k5
  have Y8 := keep_cell y8 k5
  have q0 : w5.cell? ⟨g, 10, none⟩ = some (.int .i64 6) := (A1.out.keep k5).c0
  have q1 : w5.cell? ⟨g, 11, none⟩ = some (.int .i64 (k : Int)) := (A1.out.keep k5).c1
  have q7 : w5.cell? ⟨g, 17, none⟩ = some (.string s) := by have := (A1.out.keep k5).c7; rw [same_b] at this; exact this
  have q9 : w5.cell? ⟨g, 27, none⟩ = some (.string b) := by have := (A2.out.keep k5).c7; rw [same_b] at this; exact this
  have r0 : w5.cell? ⟨h, 0, none⟩ = some (.int .i64 6) := (B0.out.keep k5).c0
  have r1 : w5.cell? ⟨h, 1, none⟩ = some (.int .i64 1) := (B0.out.keep k5).c1
  have r7 : w5.cell? ⟨h, 7, none⟩ = some (.string s) := by have := (B0.out.keep k5).c7; rw [same_b] at this; exact this
  have r8 : w5.cell? ⟨h, 11, none⟩ = some (.int .i64 2) := (B1.out.keep k5).c1
  have r9 : w5.cell? ⟨h, 17, none⟩ = some (.string b) := by have := (B1.out.keep k5).c7; rw [same_b] at this; exact this
  have K5 := Lib.hid (KF.out.trans k5)
  clear k5 A1 A2 B0 B1 AX x8 y8
  go_wp2_with fail
  go_ret
  exact ⟨rfl, K5.out⟩
set_option maxRecDepth 100000 in
set_option maxHeartbeats 8000000 in
theorem bheads_any (s : ByteArray) (n : Nat) (hn : n < 256) (b : ByteArray) (hs0 : s.size ≤ maxLen) (hb0 : b.size ≤ maxLen) (w : World) (hO : Lis w) (hM : Mxl w) :
    Calls Tryz.prog 10 #[.string s, .int .u8 (n : Nat), .string b] w fun e w' => e = .returned (.bool true) ∧ Keeps w w' := by
  cases hs : wrdB s.data.toList with
  | true =>
    cases hb : wrdB b.data.toList with
    | true => exact bheads_word s n hn b hs0 hb0 w hO hM hs hb
    | false =>
      have WS := Lib.hid (fun W => word_any s W hs0)
      have WB := Lib.hid (fun W => word_any b W hb0)
      rw [hs] at WS
      rw [hb] at WB
      have AW := Lib.hid (awake12_any w hO hM)
      clear hn hO hM hs hb hs0 hb0
      go_enter Tryz.func10, Tryz.ntmps10
      go_wp2_with fail
      refine (WS.out _).mono ?_
      rintro e w1 ⟨rfl, rfl⟩
      go_wp2_with fail
      refine (WB.out _).mono ?_
      rintro e w1 ⟨rfl, rfl⟩
      clear WS WB
      go_wp2_with fail
      refine AW.out.mono ?_
      rintro e w1 ⟨rfl, k1⟩
      go_wp2_with fail
      go_ret
      exact ⟨rfl, k1⟩
  | false =>
    have WS := Lib.hid (fun W => word_any s W hs0)
    rw [hs] at WS
    have AW := Lib.hid (awake12_any w hO hM)
    clear hn hO hM hs hs0 hb0
    go_enter Tryz.func10, Tryz.ntmps10
    go_wp2_with fail
    refine (WS.out _).mono ?_
    rintro e w1 ⟨rfl, rfl⟩
    clear WS
    go_wp2_with fail
    refine AW.out.mono ?_
    rintro e w1 ⟨rfl, k1⟩
    go_wp2_with fail
    go_ret
    exact ⟨rfl, k1⟩
end Go.Proofs.YtdelaanaohjnkaaGreatDoor


/-
  Texts of the proof, one behind the other: Bpd.
-/
import Derived.Test.YtdelaanaohjnkaaGreatDoorM45
import Derived.Test.YtdelaanaohjnkaaGreatDoorM43
import Derived.BigQuiet
/-
  BlockPlain is true of any texts.
-/
namespace Go.Proofs.YtdelaanaohjnkaaGreatDoor
open Go.RowKit Go.Lib

/-- The lists of the texts' bytes. -/
def lsB (xs : List ByteArray) : List (List UInt8) := xs.map fun x => x.data.toList
theorem lsB_take {xs : List ByteArray} {k : Nat} (h : k < xs.length) : lsB (xs.take (k + 1)) = lsB (xs.take k) ++ [(xs.getD k ⟨#[]⟩).data.toList] := by
  unfold lsB
  rw [List.take_succ_eq_append_getElem h, List.map_append, List.getD_eq_getElem?_getD, List.getElem?_eq_getElem h]; rfl
theorem lsB_get {xs : List ByteArray} {m : Nat} (h : m < xs.length) (h' : m < (lsB xs).length) : (lsB xs)[m] = (xs.getD m ⟨#[]⟩).data.toList := by
  simp [lsB, List.getD_eq_getElem?_getD, List.getElem?_eq_getElem h]
theorem aL_snoc (ws : List (List UInt8)) (w : List UInt8) : aL (ws ++ [w]) = aL ws ++ w ++ [10] := by unfold aL; simp
theorem bL_snoc (ws : List (List UInt8)) (w : List UInt8) : bL (ws ++ [w]) = bL ws ++ w ++ [10, 10] := by unfold bL; simp
set_option maxRecDepth 100000 in
set_option maxHeartbeats 8000000 in
theorem bplain_some (xs : List ByteArray) (b off n c : Nat) (w : World) (hn : xs.length = n) (h1 : 0 < n) (h40 : n ≤ 40) (hs : ∀ x ∈ xs, x.size ≤ maxLen) (hc : ∀ k, k < n → w.cell? ⟨b, off + k, none⟩ = some (.string (xs.getD k ⟨#[]⟩))) (hO : Lis w) (hM : Mxl w) :
    Calls Tryz.prog 9 #[.slice (some ⟨b, off, none⟩) n c] w fun e w' => e = .returned (.bool true) ∧ Keeps w w' := by
  have WA := Lib.hid (fun (x : ByteArray) (h : x.size ≤ maxLen) W => word_any x W h)
  have PA := Lib.hid (fun t (h : t.size ≤ 5000) W (q : Keeps w W) => parse_any t W h (hO.keep q) (hM.keep q))
  have AW := Lib.hid (fun W' (q : Keeps w W') => awake12_any W' (hO.keep q) (hM.keep q))
  have HC := Lib.hid hc
  have HZ := Lib.hid hs
  have HL := Lib.hid hn
  clear hO hM hc hs hn
  go_enter Tryz.func9, Tryz.ntmps9
  have t0 : ((n : Int) == 0) = false := beq_eq_false_iff_ne.2 (by omega)
  go_wp2_with fail
  clear t0
  go_loopw [3, 4, 5, 6] (fun A B T i wr => ∃ (k : Nat) (a1 a2 a3 : ByteArray), k ≤ n ∧ i = .int .i64 k ∧ A = .string a1 ∧ B = .string a2 ∧ T = .string a3 ∧ a1.size ≤ 41 * k ∧ a2.size ≤ 42 * k ∧ a3.size ≤ 41 * k ∧ Hid (a1.data.toList = aL (lsB (xs.take k))) ∧ Hid (a2.data.toList = bL (lsB (xs.take k))) ∧ Hid (0 < k → a3.data.toList ++ [10] = aL (lsB (xs.take k))) ∧ Hid (∀ v ∈ lsB (xs.take k), Wrd v) ∧ Hid (k = 0 → a3 = ⟨#[]⟩) ∧ Hid (Keeps w wr)) (fun _ _ _ i _ => n - (RowKit.intOf i).toNat)
  case atStart => exact ⟨0, ⟨#[]⟩, ⟨#[]⟩, ⟨#[]⟩, Nat.zero_le _, rfl, rfl, rfl, rfl, by decide, by decide, by decide, Lib.hid rfl, Lib.hid rfl, Lib.hid (fun q => absurd q (by decide)), Lib.hid (fun v hv => by cases hv), Lib.hid (fun _ => rfl), Lib.hid (Keeps.refl w)⟩
  case round =>
    obtain ⟨k, a1, a2, a3, hk, rfl, rfl, rfl, rfl, s1, s2, s3, HA, HB, HT, HW, HE, HR⟩ := hrel
    by_cases c0 : k < n
    · have cx := keep_cell (HC.out k c0) HR.out
      have HN := Lib.hid (lsB_take (xs := xs) (k := k) (by rw [HL.out]; exact c0))
      have HQ := Lib.hid (HZ.out (xs.getD k ⟨#[]⟩) (by rw [List.getD_eq_getElem?_getD, List.getElem?_eq_getElem (by rw [HL.out]; exact c0)]; exact List.getElem_mem _))
      obtain ⟨x, hx⟩ : ∃ x, xs.getD k ⟨#[]⟩ = x := ⟨_, rfl⟩
      rw [hx] at cx HN HQ
      clear hx
      have WX := Lib.hid (fun W => WA.out x HQ.out W)
      have ckn : (k : Int) < (n : Int) := by omega
      cases hw : wrdB x.data.toList with
      | false =>
        rw [hw] at WX
        have AX := Lib.hid (AW.out wr HR.out)
        clear HA HB HT HW HN HQ HE hw
        go_wp2_with fail
        refine (WX.out _).mono ?_
        rintro e w1 ⟨rfl, rfl⟩
        go_wp2_with fail
        refine AX.out.mono ?_
        rintro e w1 ⟨rfl, k1⟩
        have K1 := Lib.hid (HR.out.trans k1)
        clear k1
        go_wp2_with fail
        go_ret
        exact ⟨rfl, K1.out⟩
      | true =>
        rw [hw] at WX
        have HX := Lib.hid (wrdB_yes hw).1
        have sx : x.size ≤ 40 := by have := (wrdB_yes hw).2; rw [bytes_len] at this; exact this
        clear hw HQ
        by_cases k0 : k = 0
        · obtain rfl : a3 = ⟨#[]⟩ := HE.out k0
          have k00 : ¬ (0 : Int) < (k : Int) := by omega
          have K0 := Lib.hid k0
          clear HE k0

          obtain ⟨A', hA'⟩ : ∃ A', a1 ++ x ++ (⟨#[10]⟩ : ByteArray) = A' := ⟨_, rfl⟩
          obtain ⟨B', hB'⟩ : ∃ B', a2 ++ x ++ (⟨#[10, 10]⟩ : ByteArray) = B' := ⟨_, rfl⟩
          obtain ⟨T', hT'⟩ : ∃ T', (⟨#[]⟩ : ByteArray) ++ x = T' := ⟨_, rfl⟩
          have z1 : (⟨#[10]⟩ : ByteArray).size = 1 := rfl
          have z2 : (⟨#[10, 10]⟩ : ByteArray).size = 2 := rfl
          have y1 : A'.size ≤ 41 * (k + 1) := by rw [← hA', ByteArray.size_append, ByteArray.size_append]; omega
          have y2 : B'.size ≤ 42 * (k + 1) := by rw [← hB', ByteArray.size_append, ByteArray.size_append]; omega
          have y3 : T'.size ≤ 41 * (k + 1) := by
            rw [← hT']
            simp only [ByteArray.size_append]
            have z3 : (⟨#[]⟩ : ByteArray).size = 0 := rfl
            omega
          have NA : Hid (A'.data.toList = aL (lsB (xs.take (k + 1)))) := Lib.hid (by rw [← hA', bytes_app, bytes_app, HA.out, HN.out, aL_snoc])
          have NB : Hid (B'.data.toList = bL (lsB (xs.take (k + 1)))) := Lib.hid (by rw [← hB', bytes_app, bytes_app, HB.out, HN.out, bL_snoc])
          have NT : Hid (T'.data.toList ++ [10] = aL (lsB (xs.take (k + 1)))) := Lib.hid (by
            rw [HN.out, aL_snoc, ← hT']
            rw [bytes_app, show aL (lsB (xs.take k)) = [] from by rw [K0.out]; rfl])
          have NW : Hid (∀ v ∈ lsB (xs.take (k + 1)), Wrd v) := Lib.hid (by
            rw [HN.out]
            intro v hv
            rcases List.mem_append.1 hv with q | q
            · exact HW.out v q
            · rw [List.mem_singleton.1 q]; exact HX.out)
          clear HA HB HT HW HN HX z1 z2
          go_wp2_with fail
          refine (WX.out _).mono ?_
          rintro e w1 ⟨rfl, rfl⟩
          clear WX
          go_wp2_with fail
          go_quiet (fail)
          go_wp2_with fail
          go_roundw
          case rel => exact ⟨k + 1, A', B', T', by omega, by go_num, rfl, rfl, rfl, y1, y2, y3, NA, NB, Lib.hid (fun _ => NT.out), NW, Lib.hid (fun q => absurd q (Nat.succ_ne_zero k)), Lib.hid (HR.out.drewN nq)⟩
          case measure => simp [RowKit.intOf]; omega
        · have k00 : (0 : Int) < (k : Int) := by omega
          clear HE

          obtain ⟨A', hA'⟩ : ∃ A', a1 ++ x ++ (⟨#[10]⟩ : ByteArray) = A' := ⟨_, rfl⟩
          obtain ⟨B', hB'⟩ : ∃ B', a2 ++ x ++ (⟨#[10, 10]⟩ : ByteArray) = B' := ⟨_, rfl⟩
          obtain ⟨T', hT'⟩ : ∃ T', a3 ++ (⟨#[10]⟩ : ByteArray) ++ x = T' := ⟨_, rfl⟩
          have z1 : (⟨#[10]⟩ : ByteArray).size = 1 := rfl
          have z2 : (⟨#[10, 10]⟩ : ByteArray).size = 2 := rfl
          have y1 : A'.size ≤ 41 * (k + 1) := by rw [← hA', ByteArray.size_append, ByteArray.size_append]; omega
          have y2 : B'.size ≤ 42 * (k + 1) := by rw [← hB', ByteArray.size_append, ByteArray.size_append]; omega
          have y3 : T'.size ≤ 41 * (k + 1) := by
            rw [← hT']
            simp only [ByteArray.size_append]
            skip
            omega
          have NA : Hid (A'.data.toList = aL (lsB (xs.take (k + 1)))) := Lib.hid (by rw [← hA', bytes_app, bytes_app, HA.out, HN.out, aL_snoc])
          have NB : Hid (B'.data.toList = bL (lsB (xs.take (k + 1)))) := Lib.hid (by rw [← hB', bytes_app, bytes_app, HB.out, HN.out, bL_snoc])
          have NT : Hid (T'.data.toList ++ [10] = aL (lsB (xs.take (k + 1)))) := Lib.hid (by
            rw [HN.out, aL_snoc, ← hT']
            rw [← (HT.out (by omega)), bytes_app, bytes_app])
          have NW : Hid (∀ v ∈ lsB (xs.take (k + 1)), Wrd v) := Lib.hid (by
            rw [HN.out]
            intro v hv
            rcases List.mem_append.1 hv with q | q
            · exact HW.out v q
            · rw [List.mem_singleton.1 q]; exact HX.out)
          clear HA HB HT HW HN HX z1 z2
          go_wp2_with fail
          refine (WX.out _).mono ?_
          rintro e w1 ⟨rfl, rfl⟩
          clear WX
          go_wp2_with fail
          go_quiet (fail)
          go_wp2_with fail
          go_roundw
          case rel => exact ⟨k + 1, A', B', T', by omega, by go_num, rfl, rfl, rfl, y1, y2, y3, NA, NB, Lib.hid (fun _ => NT.out), NW, Lib.hid (fun q => absurd q (Nat.succ_ne_zero k)), Lib.hid (HR.out.drewN nq)⟩
          case measure => simp [RowKit.intOf]; omega
    · have hkn : k = n := by omega
      subst hkn
      have hx : xs.take k = xs := List.take_of_length_le (by rw [HL.out]; exact Nat.le_refl _)
      rw [hx] at HA HB HT HW
      have hlen : (lsB xs).length = k := by unfold lsB; rw [List.length_map, HL.out]
      have PX : Hid (parseM a1.data.toList = some (docT [parT a3.data.toList], [])) := Lib.hid (by
        rw [HA.out]
        exact para_words HW.out (fun e => by rw [e] at hlen; simp at hlen; omega) (HT.out h1))
      have PY : Hid (parseM a2.data.toList = some (docT ((lsB xs).map parT), [])) := Lib.hid (by
        rw [HB.out]
        exact blank_words HW.out)
      have CX := Lib.hid (PA.out a1 (by omega) wr HR.out)
      have CY := Lib.hid (PA.out a2 (by omega))
      have HLN := Lib.hid hlen
      clear PA HA HB HT HW HE hx hlen WA
      go_wp2_with fail
      refine CX.out.mono ?_
      rintro e w1 ⟨kk, hp⟩
      obtain ⟨kv, v, rfl, hkk, _, _⟩ := hp.open PX.out
      obtain ⟨ao, cap, ekv, _, _, hg⟩ := hkk.slice
      obtain ⟨g, rfl⟩ := hg (Nat.succ_pos _)
      have ekv1 : kv = .slice (some ⟨g, 0, none⟩) 1 cap := ekv
      subst ekv1
      have ev : blkV 1 0 false 0 0 false [] [] (.slice (some ⟨g, 0, none⟩) 1 cap) = .agg #[.int .i64 1, .int .i64 0, .bool false, .int .i64 0, .int .u8 0, .bool false, .string ⟨#[]⟩, .string ⟨#[]⟩, (.slice (some ⟨g, 0, none⟩) 1 cap), .slice none 0 0] := rfl
      rw [ev]
      have KA := (Keeps.refl w1).alloc (.cells #[.int .i64 1, .int .i64 0, .bool false, .int .i64 0, .int .u8 0, .bool false, .string ⟨#[]⟩, .string ⟨#[]⟩, (.slice (some ⟨g, 0, none⟩) 1 cap), .slice none 0 0] 26)
      have KW := (HR.out.trans kk).trans KA
      have CZ := Lib.hid (CY.out _ KW)
      have KE := Lib.hid KW
      have HK := Lib.hid (hkk.keep (Nat.le_refl _) KA)
      have hhi : Hid (w1.heap.size ≤ (w1.alloc (.cells #[.int .i64 1, .int .i64 0, .bool false, .int .i64 0, .int .u8 0, .bool false, .string ⟨#[]⟩, .string ⟨#[]⟩, (.slice (some ⟨g, 0, none⟩) 1 cap), .slice none 0 0] 26)).heap.size) := Lib.hid KA.size
      have HX8 := Lib.hid ((Blk.new w1 26 #[.int .i64 1, .int .i64 0, .bool false, .int .i64 0, .int .u8 0, .bool false, .string ⟨#[]⟩, .string ⟨#[]⟩, (.slice (some ⟨g, 0, none⟩) 1 cap), .slice none 0 0]).cell 8 (v := .slice (some ⟨g, 0, none⟩) 1 cap) rfl)
      obtain ⟨bb, hbb⟩ : ∃ bb, w1.heap.size = bb := ⟨_, rfl⟩
      rw [hbb] at HX8 HK hhi
      clear hp hkk ev hg ekv KW KA kk CX CY PX
      go_wp2_with fail
      generalize w1.alloc (.cells #[.int .i64 1, .int .i64 0, .bool false, .int .i64 0, .int .u8 0, .bool false, .string ⟨#[]⟩, .string ⟨#[]⟩, (.slice (some ⟨g, 0, none⟩) 1 cap), .slice none 0 0] 26) = w2 at *
      refine CZ.out.mono ?_
      rintro e w3 ⟨kk, hp⟩
      obtain ⟨kv', v', rfl, hk', _, _⟩ := hp.open PY.out
      obtain ⟨ao', cbp, ekv', _, _, hg'⟩ := hk'.slice
      rw [List.length_map, HLN.out] at ekv' hg'
      obtain ⟨h, rfl⟩ := hg' h1
      subst ekv'
      obtain ⟨n, hnk⟩ : ∃ n, k = n := ⟨_, rfl⟩
      subst hnk
      have ev : blkV 1 0 false 0 0 false [] [] (.slice (some ⟨h, 0, none⟩) k cbp) = .agg #[.int .i64 1, .int .i64 0, .bool false, .int .i64 0, .int .u8 0, .bool false, .string ⟨#[]⟩, .string ⟨#[]⟩, (.slice (some ⟨h, 0, none⟩) k cbp), .slice none 0 0] := rfl
      rw [ev]
      have KB := (Keeps.refl w3).alloc (.cells #[.int .i64 1, .int .i64 0, .bool false, .int .i64 0, .int .u8 0, .bool false, .string ⟨#[]⟩, .string ⟨#[]⟩, (.slice (some ⟨h, 0, none⟩) k cbp), .slice none 0 0] 26)
      have KX := kk.trans KB
      have KF := Lib.hid (KE.out.trans KX)
      have x8 := keep_cell HX8.out KX
      have y8 := (Blk.new w3 26 #[.int .i64 1, .int .i64 0, .bool false, .int .i64 0, .int .u8 0, .bool false, .string ⟨#[]⟩, .string ⟨#[]⟩, (.slice (some ⟨h, 0, none⟩) k cbp), .slice none 0 0]).cell 8 (v := .slice (some ⟨h, 0, none⟩) k cbp) rfl
      have HKA := HK.out.keep hhi.out KX
      obtain ⟨_, a1', _⟩ := HKA.at (i := 0) rfl
      have q0 : (w3.alloc (.cells #[.int .i64 1, .int .i64 0, .bool false, .int .i64 0, .int .u8 0, .bool false, .string ⟨#[]⟩, .string ⟨#[]⟩, (.slice (some ⟨h, 0, none⟩) k cbp), .slice none 0 0] 26)).cell? ⟨g, 0, none⟩ = some (.int .i64 5) := a1'.c0
      have q7 : (w3.alloc (.cells #[.int .i64 1, .int .i64 0, .bool false, .int .i64 0, .int .u8 0, .bool false, .string ⟨#[]⟩, .string ⟨#[]⟩, (.slice (some ⟨h, 0, none⟩) k cbp), .slice none 0 0] 26)).cell? ⟨g, 7, none⟩ = some (.string a3) := by have := a1'.c7; rw [same_b] at this; exact this
      have HKB : Hid (Kids (w3.alloc (.cells #[.int .i64 1, .int .i64 0, .bool false, .int .i64 0, .int .u8 0, .bool false, .string ⟨#[]⟩, .string ⟨#[]⟩, (.slice (some ⟨h, 0, none⟩) k cbp), .slice none 0 0] 26)) w2.heap.size w3.heap.size ((lsB xs).map parT) (.slice (some ⟨h, 0, none⟩) ((lsB xs).map parT).length cbp)) := Lib.hid (by rw [List.length_map, HLN.out]; exact hk'.keep (Nat.le_refl _) KB)
      have t1 : ((k : Int) != (k : Int)) = false := by rw [bne, beq_self_eq_true]; rfl
      obtain ⟨bc, hbc⟩ : ∃ bc, w3.heap.size = bc := ⟨_, rfl⟩
      rw [hbc] at y8
      clear hp hk' ev hg' KX KB kk CZ PY a1' HKA HK hhi HX8
      go_wp2_with fail
      generalize w3.alloc (.cells #[.int .i64 1, .int .i64 0, .bool false, .int .i64 0, .int .u8 0, .bool false, .string ⟨#[]⟩, .string ⟨#[]⟩, (.slice (some ⟨h, 0, none⟩) k cbp), .slice none 0 0] 26) = w4 at *
      clear t1 q0 q7
      go_loopw [13] (fun i wr => ∃ m : Nat, m ≤ k ∧ i = .int .i64 m ∧ Hid (Keeps w4 wr)) (fun i _ => k - (RowKit.intOf i).toNat)
      case atStart => exact ⟨0, Nat.zero_le _, rfl, Lib.hid (Keeps.refl _)⟩
      case round =>
        obtain ⟨m, hm, rfl, HQ4⟩ := hrel
        by_cases cm : m < k
        · have cmk : (m : Int) < (k : Int) := by omega
          have dx := keep_cell (keep_cell (HC.out m cm) KF.out) HQ4.out
          have Y8 := keep_cell y8 HQ4.out
          have hmx : m < (lsB xs).length := by rw [HLN.out]; exact cm
          obtain ⟨_, am, _⟩ := HKB.out.at (i := m) (by rw [List.getElem?_map, List.getElem?_eq_getElem hmx]; rfl)
          have r0 : wr.cell? ⟨h, m * 10, none⟩ = some (.int .i64 5) := (am.keep HQ4.out).c0
          have r7 : wr.cell? ⟨h, m * 10 + 7, none⟩ = some (.string (xs.getD m ⟨#[]⟩)) := by
            have e := lsB_get (xs := xs) (m := m) (by rw [HL.out]; exact cm) hmx
            have := (am.keep HQ4.out).c7
            rw [e, same_b] at this
            exact this
          clear am
          generalize xs.getD m ⟨#[]⟩ = x at *
          go_wp2_with fail
          go_quiet (fail)
          go_wp2_with fail
          go_roundw
          case rel => exact ⟨m + 1, by omega, by go_num, Lib.hid (HQ4.out.drewN nq)⟩
          case measure => simp [RowKit.intOf]; omega
        · have hmk : m = k := by omega
          subst hmk
          have AX := Lib.hid (AW.out wr (KF.out.trans HQ4.out))
          clear HKB HC x8 y8
          go_wp2_with fail
          refine AX.out.mono ?_
          rintro e w5 ⟨rfl, k5⟩
          have K5 := Lib.hid ((KF.out.trans HQ4.out).trans k5)
          clear k5
          go_wp2_with fail
          go_ret
          exact ⟨rfl, K5.out⟩
set_option maxRecDepth 100000 in
set_option maxHeartbeats 8000000 in
theorem bplain_none (a : Option Addr) (n c : Nat) (w : World) (h : n = 0 ∨ 40 < n) (hm : n ≤ maxLen) (hO : Lis w) (hM : Mxl w) :
    Calls Tryz.prog 9 #[.slice a n c] w fun e w' => e = .returned (.bool true) ∧ Keeps w w' := by
  have AW := Lib.hid (awake12_any w hO hM)
  unfold maxLen at hm
  clear hO hM
  rcases h with rfl | h
  · go_enter Tryz.func9, Tryz.ntmps9
    go_wp2_with fail
    refine AW.out.mono ?_
    rintro e w1 ⟨rfl, k1⟩
    go_wp2_with fail
    go_ret
    exact ⟨rfl, k1⟩
  · go_enter Tryz.func9, Tryz.ntmps9
    have t0 : ((n : Int) == 0) = false := beq_eq_false_iff_ne.2 (by omega)
    have t1 : (40 : Int) < (n : Int) := by omega
    go_wp2_with fail
    refine AW.out.mono ?_
    rintro e w1 ⟨rfl, k1⟩
    go_wp2_with fail
    go_ret
    exact ⟨rfl, k1⟩
theorem bplain_any (a : Option Addr) (n c : Nat) (xs : List ByteArray) (w : World) (hn : xs.length = n) (hs : ∀ x ∈ xs, x.size ≤ maxLen) (hc : 0 < n → ∃ b off, a = some ⟨b, off, none⟩ ∧ ∀ k, k < n → w.cell? ⟨b, off + k, none⟩ = some (.string (xs.getD k ⟨#[]⟩))) (hm : n ≤ maxLen) (hO : Lis w) (hM : Mxl w) :
    Calls Tryz.prog 9 #[.slice a n c] w fun e w' => e = .returned (.bool true) ∧ Keeps w w' := by
  by_cases h : n = 0 ∨ 40 < n
  · exact bplain_none a n c w h hm hO hM
  · obtain ⟨b, off, rfl, hcell⟩ := hc (by omega)
    exact bplain_some xs b off n c w hn (by omega) (by omega) hs hcell hO hM
end Go.Proofs.YtdelaanaohjnkaaGreatDoor


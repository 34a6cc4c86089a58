/-
  Contracts of the document's same, FenceEnd, lower, inside, HtmlEnd, for texts of at most 100,000 bytes.
-/
import Derived.Test.YtjfhbfnagcjdmaaGreatDoorMrh
import Derived.Test.YtjfhbfnagcjdmaaGreatDoorMka
import Derived.Test.YtjfhbfnagcjdmaaGreatDoorSrbr
import Derived.Test.YtjfhbfnagcjdmaaGreatDoorBlk
import Derived.Lib.IndexBytes
import Derived.Laws.IdiomStrings
import Derived.LoopTactic
namespace Go.Proofs.YtjfhbfnagcjdmaaGreatDoor
open Go.RowKit Go.Lib

set_option maxHeartbeats 400000 in
set_option maxRecDepth 100000 in
theorem rsame_any (s : ByteArray) (c : UInt8) (w : World) (hs : s.size ≤ maxLen) :
    Calls Tryz.prog 16 #[.string s, .int .u8 (c.toNat : Nat)] w fun e w' => e = .returned (.int .i64 (cntL c s.data.toList : Nat)) ∧ w = w' := by
  have hl := Lib.hid (bytes_len s)
  unfold maxLen at hs
  go_enter Tryz.func16, Tryz.ntmps16
  go_wp2
  go_loop [5] (fun i => ∃ k : Nat, k ≤ s.size ∧ Hid (cntL c s.data.toList = k + cntL c (s.data.toList.drop k)) ∧ i = .int .i64 k) (fun i => s.size - (RowKit.intOf i).toNat)
  case atStart => exact ⟨0, Nat.zero_le _, Lib.hid (by rw [List.drop_zero, Nat.zero_add]), rfl⟩
  case round =>
    obtain ⟨k, hk, HC, rfl⟩ := hrel
    by_cases h : k < s.size
    · have HK : Hid (k < s.data.toList.length) := Lib.hid (by rw [hl.out]; exact h)
      by_cases e : s[k] = c
      · have t1 : (s[k].toNat == c.toNat) = true := by rw [e]; simp
        have t2 : ((s[k].toNat : Int) == (c.toNat : Int)) = true := by rw [e]; simp
        have HN : Hid (cntL c s.data.toList = k + 1 + cntL c (s.data.toList.drop (k + 1))) := Lib.hid (cnt_more HC.out HK.out e)
        go_wp2_with fail
        go_round
        case rel => exact ⟨k + 1, h, HN, by go_num⟩
        case measure => simp [RowKit.intOf]; omega
      · have hne : s[k].toNat ≠ c.toNat := fun x => e (UInt8.toNat_inj.1 x)
        have t1 : (s[k].toNat == c.toNat) = false := beq_eq_false_iff_ne.2 hne
        have t2 : ((s[k].toNat : Int) == (c.toNat : Int)) = false := beq_eq_false_iff_ne.2 (by omega)
        have HN : Hid (cntL c s.data.toList = k) := Lib.hid (cnt_stop HC.out HK.out e)
        clear hne
        go_wp2_with fail
        go_ret
        exact ⟨ret_int (by rw [HN.out]), rfl⟩
    · have HN : Hid (cntL c s.data.toList = k) := Lib.hid (cnt_end HC.out (by rw [hl.out]; omega))
      go_wp2_with fail
      go_ret
      exact ⟨ret_int (by rw [HN.out]), rfl⟩
set_option maxHeartbeats 400000 in
set_option maxRecDepth 100000 in
theorem rfenceEnd_any (s : ByteArray) (c : UInt8) (m : Int) (w : World) (hs : s.size ≤ 100000) :
    Calls Tryz.prog 6 #[.string s, .int .u8 (c.toNat : Nat), .int .i64 m] w fun e w' => e = .returned (.bool (stretchL c (max m 3) s.data.toList)) ∧ w = w' := by
  have CT := Lib.hid (fun W => rsame_any s c W (by unfold maxLen; omega))
  have hn := cnt_le c s.data.toList
  rw [bytes_len] at hn
  unfold stretchL
  have BK := Lib.hid (fun W => rblank_any (s.extract (cntL c s.data.toList) s.size) W (by rw [ByteArray.size_extract]; omega))
  rw [Lib.extract_to_end] at BK
  generalize cntL c s.data.toList = n at *
  generalize blankL (s.data.toList.drop n) = z at *
  by_cases h : m ≤ (n : Int)
  · by_cases h3 : 3 ≤ n
    · rw [decide_eq_true (show max m 3 ≤ (n : Int) by omega), Bool.true_and]
      go_enter Tryz.func6, Tryz.ntmps6
      go_wp2_with fail
      refine (CT.out _).mono ?_
      rintro e w1 ⟨rfl, rfl⟩
      go_wp2_with fail
      refine (BK.out _).mono ?_
      rintro e w2 ⟨rfl, rfl⟩
      go_wp2_with fail
      go_ret
      exact ⟨rfl, rfl⟩
    · rw [decide_eq_false (show ¬ max m 3 ≤ (n : Int) by omega), Bool.false_and]
      go_enter Tryz.func6, Tryz.ntmps6
      go_wp2_with fail
      refine (CT.out _).mono ?_
      rintro e w1 ⟨rfl, rfl⟩
      go_wp2_with fail
      go_ret
      exact ⟨rfl, rfl⟩
  · rw [decide_eq_false (show ¬ max m 3 ≤ (n : Int) by omega), Bool.false_and]
    go_enter Tryz.func6, Tryz.ntmps6
    go_wp2_with fail
    refine (CT.out _).mono ?_
    rintro e w1 ⟨rfl, rfl⟩
    go_wp2_with fail
    go_ret
    exact ⟨rfl, rfl⟩

/-! lower. -/
/-- The first k bytes of s are small in block B. -/
def LowAt (s : ByteArray) (B k : Nat) (W : World) : Prop := (∀ j (h : j < s.size), W.cell? ⟨B, j, none⟩ = some (.int .u8 (((if j < k then lowerB s[j] else s[j]).toNat : Nat) : Int))) ∧ ∀ j, j < s.size → W.frozen? ⟨B, j, none⟩ = false
theorem low_start (s : ByteArray) (w : World) (C : Nat) (e : TypeId) : LowAt s w.heap.size 0 (w.drew.alloc (.cells (bytesRow s C) e ((bytesRow s C).size, (bytesRow s C).size + 1))) := by
  have hb : (w.drew.alloc (.cells (bytesRow s C) e ((bytesRow s C).size, (bytesRow s C).size + 1))).heap[w.heap.size]? = some (.cells (bytesRow s C) e ((bytesRow s C).size, (bytesRow s C).size + 1)) := heap_alloc_new w.drew _
  have hsz : s.size ≤ (bytesRow s C).size := by
    unfold bytesRow
    rw [Array.size_append, Array.size_map]
    exact Nat.le_add_right _ _
  refine ⟨fun j h => ?_, fun j h => ?_⟩
  · have hc : (bytesRow s C)[j]? = some (.int .u8 (s[j].toNat : Nat)) := by
      unfold bytesRow
      rw [Array.getElem?_append_left (by rw [Array.size_map]; exact h), Array.getElem?_map, Array.getElem?_eq_getElem h]
      rfl
    rw [if_neg (Nat.not_lt_zero _)]
    unfold World.cell?
    dsimp only
    rw [hb]
    exact hc
  · unfold World.frozen?
    dsimp only
    rw [hb]
    simp
    omega
theorem low_keep {s : ByteArray} {B k : Nat} {W : World} (h : LowAt s B k W) (hk : k < s.size) (hl : lowerB s[k] = s[k]) : LowAt s B (k + 1) W := by
  refine ⟨fun j hj => ?_, h.2⟩
  rw [h.1 j hj]
  by_cases e : j = k
  · subst e
    rw [if_neg (by omega), if_pos (by omega), hl]
  · by_cases g : j < k
    · rw [if_pos g, if_pos (by omega)]
    · rw [if_neg g, if_neg (by omega)]
theorem low_set {s : ByteArray} {B k : Nat} {W : World} (h : LowAt s B k W) (hk : k < s.size) {v : Int} (hv : ((lowerB s[k]).toNat : Int) = v) : LowAt s B (k + 1) (W.setCell ⟨B, k, none⟩ (.int .u8 v)) := by
  refine ⟨fun j hj => ?_, fun j hj => by rw [World.frozen?_setCell]; exact h.2 j hj⟩
  by_cases e : j = k
  · subst e
    rw [World.cell?_setCell_same' W _ _ (by rw [h.1 j hj]; rfl), if_pos (by omega), hv]
  · rw [World.cell?_setCell_other (h := (fun x => e (congrArg Addr.off x).symm : (⟨B, k, none⟩ : Addr) ≠ ⟨B, j, none⟩)), h.1 j hj]
    by_cases g : j < k
    · rw [if_pos g, if_pos (by omega)]
    · rw [if_neg g, if_neg (by omega)]
theorem low_get (s : ByteArray) (j : Nat) (hj : j < (toLowerA s.data.toList).length) (h : j < s.size) : (toLowerA s.data.toList)[j] = lowerB s[j] := by
  have e : (toLowerA s.data.toList)[j]? = some (lowerB s[j]) := by
    unfold toLowerA
    rw [List.getElem?_map, List.getElem?_eq_getElem (by rw [bytes_len]; exact h)]
    rfl
  rw [List.getElem?_eq_getElem hj] at e
  exact Option.some.inj e
set_option maxHeartbeats 2000000 in
set_option maxRecDepth 100000 in
theorem lower_any (s : ByteArray) (w : World) (hs : s.size ≤ 100000) :
    Calls Tryz.prog 20 #[.string s] w fun e w' => e = .returned (.string ⟨(toLowerA s.data.toList).toArray⟩) ∧ Keeps w w' := by
  have hl := Lib.hid (bytes_len s)
  have kc := run_bytes_of_string (P := Tryz.prog) w 9 48 5 s Tryz.underlying9 Tryz.underlying48 Tryz.underlying5
  have L0 := Lib.hid (show LowAt s w.heap.size 0 (w.alloc (.cells (bytesRow s (grownCap w s.size 0 5)) 5 ((bytesRow s (grownCap w s.size 0 5)).size, (bytesRow s (grownCap w s.size 0 5)).size + 1))).drew from low_start s w (grownCap w s.size 0 5) 5)
  have K0 := Lib.hid (show Keeps w (w.alloc (.cells (bytesRow s (grownCap w s.size 0 5)) 5 ((bytesRow s (grownCap w s.size 0 5)).size, (bytesRow s (grownCap w s.size 0 5)).size + 1))).drew from ((Keeps.refl w).alloc _).drew)
  generalize grownCap w s.size 0 5 = C at *
  have HB : Hid (w.heap.size ≤ w.heap.size) := Lib.hid (Nat.le_refl _)
  go_enter Tryz.func20, Tryz.ntmps20
  go_wp2_with fail
  generalize (w.alloc (.cells (bytesRow s C) 5 ((bytesRow s C).size, (bytesRow s C).size + 1))).drew = w0 at *
  obtain ⟨B, hB⟩ : ∃ B, w.heap.size = B := ⟨_, rfl⟩
  have HB : Hid (w.heap.size ≤ B) := Lib.hid (by omega)
  rw [hB] at L0 ⊢
  clear hB kc
  go_loopw [4] (fun v wr => ∃ k : Nat, k ≤ s.size ∧ v = .int .i64 k ∧ Hid (LowAt s B k wr) ∧ Hid (Keeps w wr)) (fun v _ => s.size - (RowKit.intOf v).toNat)
  case atStart => exact ⟨0, Nat.zero_le _, rfl, L0, K0⟩
  case round =>
    obtain ⟨k, hk, rfl, HLo, HK⟩ := hrel
    by_cases h : k < s.size
    · have c0 : wr.cell? ⟨B, k, none⟩ = some (.int .u8 (s[k].toNat : Nat)) := by
        have := HLo.out.1 k h
        rw [if_neg (by omega)] at this
        exact this
      have f0 := HLo.out.2 k h
      have hb := s[k].toNat_lt
      have HI := Lib.hid (isUpperB_int s[k])
      by_cases u : 65 ≤ s[k].toNat ∧ s[k].toNat ≤ 90
      · have HU : Hid (isUpperB s[k] = true) := Lib.hid (by rw [HI.out, decide_eq_true (by omega), decide_eq_true (by omega)]; rfl)
        have HN := Lib.hid (low_set HLo.out h (lowerB_int s[k] HU.out))
        have HK2 := Lib.hid (fun v => HK.out.set HB.out k v)
        obtain ⟨u1, u2⟩ := u
        go_wp2_with fail
        go_roundw
        case rel => exact ⟨k + 1, h, by go_num, HN, Lib.hid (HK2.out _)⟩
        case measure => simp [RowKit.intOf]; omega
      · have HU : Hid (isUpperB s[k] = false) := Lib.hid (by
          rw [HI.out]
          by_cases g : 65 ≤ s[k].toNat
          · rw [decide_eq_false (show ¬ ((s[k].toNat : Int) ≤ 90) by omega), Bool.and_false]
          · rw [decide_eq_false (show ¬ ((65 : Int) ≤ (s[k].toNat : Int)) by omega)]; rfl)
        have HN := Lib.hid (low_keep HLo.out h (lowerB_of_not s[k] HU.out))
        by_cases g : 65 ≤ s[k].toNat
        · have g2 : ¬ s[k].toNat ≤ 90 := fun x => u ⟨g, x⟩
          clear u
          go_wp2_with fail
          go_roundw
          case rel => exact ⟨k + 1, h, by go_num, HN, HK⟩
          case measure => simp [RowKit.intOf]; omega
        · clear u
          go_wp2_with fail
          go_roundw
          case rel => exact ⟨k + 1, h, by go_num, HN, HK⟩
          case measure => simp [RowKit.intOf]; omega
    · have hk2 : k = s.size := by omega
      have kb := run_convert_bytes_back (P := Tryz.prog) wr 48 9 5 ⟨B, 0, none⟩ C (toLowerA s.data.toList) Tryz.underlying48 Tryz.underlying5 Tryz.underlying9 (fun j hj => by
        have hj2 : j < s.size := by unfold toLowerA at hj; rw [List.length_map, bytes_len] at hj; exact hj
        have := HLo.out.1 j hj2
        rw [if_pos (by omega)] at this
        have ha : (⟨B, 0, none⟩ : Addr).add j = ⟨B, j, none⟩ := by
          simp [Addr.add]
          intro h
          exact h.symm
        rw [ha, this, low_get s j hj hj2])
      rw [show (toLowerA s.data.toList).length = s.size by unfold toLowerA; rw [List.length_map, bytes_len]] at kb
      clear hk2
      go_wp2_with fail
      go_ret
      exact ⟨rfl, HK.out⟩

/-! inside. -/
set_option maxHeartbeats 1000000 in
set_option maxRecDepth 100000 in
theorem inside_any (s t : ByteArray) (w : World) (hs : s.size ≤ 100000) (h1 : 1 ≤ t.size) (h2 : t.size ≤ 100) :
    Calls Tryz.prog 21 #[.string s, .string t] w fun e w' => e = .returned (.bool (contains s.data.toList t.data.toList)) ∧ w = w' := by
  go_enter Tryz.func21, Tryz.ntmps21
  go_wp2
  go_loop [5] (fun v => ∃ i : Nat, i ≤ s.size + 1 ∧ v = .int .i64 i ∧ Hid (NoOcc s.data.toList t.data.toList i)) (fun v => s.size + 2 - (RowKit.intOf v).toNat)
  case atStart => exact ⟨0, Nat.zero_le _, rfl, Lib.hid (NoOcc.zero _ _)⟩
  case round =>
    obtain ⟨i, hi, rfl, HN⟩ := hrel
    by_cases c : i + t.size ≤ s.size
    · have HP := Lib.hid (occ_of_piece s t i c)
      cases o : occAt s.data.toList t.data.toList i with
      | true =>
        rw [o] at HP
        have t1 := HP.out.symm
        have HX : Hid (contains s.data.toList t.data.toList = true) := Lib.hid (by
          unfold contains
          rw [index_hit HN.out (by rw [bytes_len]; omega) o]
          exact decide_eq_true (by omega))
        clear o
        go_wp2_with fail
        go_ret
        exact ⟨ret_bool HX.out.symm, rfl⟩
      | false =>
        rw [o] at HP
        have t1 := HP.out.symm
        have HN2 := Lib.hid (NoOcc.succ HN.out o)
        clear o
        go_wp2_with fail
        go_round
        case rel => exact ⟨i + 1, by omega, by go_num, HN2⟩
        case measure => simp [RowKit.intOf]; omega
    · have HX : Hid (contains s.data.toList t.data.toList = false) := Lib.hid (by
        unfold contains
        rw [index_past (fun e => by have := bytes_len t; rw [e] at this; simp at this; omega) HN.out (by rw [bytes_len, bytes_len]; omega)]
        rfl)
      go_wp2_with fail
      go_ret
      exact ⟨ret_bool HX.out.symm, rfl⟩
theorem inside_l (s : ByteArray) (t : List UInt8) (w : World) (hs : s.size ≤ 100000) (h1 : 1 ≤ t.length) (h2 : t.length ≤ 100) :
    Calls Tryz.prog 21 #[.string s, .string ⟨t.toArray⟩] w fun e w' => e = .returned (.bool (contains s.data.toList t)) ∧ w = w' := by
  have hz : (⟨t.toArray⟩ : ByteArray).size = t.length := by show t.toArray.size = _; simp
  have := inside_any s ⟨t.toArray⟩ w hs (by omega) (by omega)
  rw [show (⟨t.toArray⟩ : ByteArray).data.toList = t by simp] at this
  exact this
set_option maxHeartbeats 4000000 in
set_option maxRecDepth 100000 in
theorem rhtmlEnd_any (s : ByteArray) (k : Int) (w : World) (hs : s.size ≤ 100000) :
    Calls Tryz.prog 8 #[.string s, .int .i64 k] w fun e w' => e = .returned (.bool (htmlEndL k s.data.toList)) ∧ Keeps w w' := by
  have LW := Lib.hid (lower_any s w hs)
  have hz : (⟨(toLowerA s.data.toList).toArray⟩ : ByteArray).size = s.size := by
    show (toLowerA s.data.toList).toArray.size = _
    unfold toLowerA
    simp
  have hd : (⟨(toLowerA s.data.toList).toArray⟩ : ByteArray).data.toList = toLowerA s.data.toList := by simp
  have I1 := Lib.hid (fun W => inside_l ⟨(toLowerA s.data.toList).toArray⟩ (endOf sName) W (by omega) (by decide) (by decide))
  have I2 := Lib.hid (fun W => inside_l ⟨(toLowerA s.data.toList).toArray⟩ (endOf pName) W (by omega) (by decide) (by decide))
  have I3 := Lib.hid (fun W => inside_l ⟨(toLowerA s.data.toList).toArray⟩ (endOf yName) W (by omega) (by decide) (by decide))
  have I4 := Lib.hid (fun W => inside_l ⟨(toLowerA s.data.toList).toArray⟩ (endOf tName) W (by omega) (by decide) (by decide))
  rw [hd, show (⟨(endOf sName).toArray⟩ : ByteArray) = ⟨#[60, 47, 115, 99, 114, 105, 112, 116, 62]⟩ from rfl] at I1
  rw [hd, show (⟨(endOf pName).toArray⟩ : ByteArray) = ⟨#[60, 47, 112, 114, 101, 62]⟩ from rfl] at I2
  rw [hd, show (⟨(endOf yName).toArray⟩ : ByteArray) = ⟨#[60, 47, 115, 116, 121, 108, 101, 62]⟩ from rfl] at I3
  rw [hd, show (⟨(endOf tName).toArray⟩ : ByteArray) = ⟨#[60, 47, 116, 101, 120, 116, 97, 114, 101, 97, 62]⟩ from rfl] at I4
  have C2 := Lib.hid (fun W => inside_l s [45, 45, 62] W hs (by decide) (by decide))
  have C3 := Lib.hid (fun W => inside_l s [63, 62] W hs (by decide) (by decide))
  have C4 := Lib.hid (fun W => inside_l s [62] W hs (by decide) (by decide))
  have C5 := Lib.hid (fun W => inside_l s [93, 93, 62] W hs (by decide) (by decide))
  unfold htmlEndL
  rw [rawEnd_eq]
  generalize contains (toLowerA s.data.toList) (endOf sName) = b1 at *
  generalize contains (toLowerA s.data.toList) (endOf pName) = b2 at *
  generalize contains (toLowerA s.data.toList) (endOf yName) = b3 at *
  generalize contains (toLowerA s.data.toList) (endOf tName) = b4 at *
  generalize contains s.data.toList [45, 45, 62] = a2 at *
  generalize contains s.data.toList [63, 62] = a3 at *
  generalize contains s.data.toList [62] = a4 at *
  generalize contains s.data.toList [93, 93, 62] = a5 at *
  generalize (⟨(toLowerA s.data.toList).toArray⟩ : ByteArray) = z at *
  clear hs hz hd
  by_cases k1 : k = 1
  · rw [if_pos k1]
    subst k1
    clear C2 C3 C4 C5
    go_enter Tryz.func8, Tryz.ntmps8
    go_wp2_with fail
    (with_reducible refine LW.out.mono ?_)
    rintro e w1 ⟨rfl, k1⟩
    go_wp2_with fail
    (with_reducible refine (I1.out _).mono ?_)
    rintro e w2 ⟨rfl, rfl⟩
    cases b1 with
    | true =>
      go_wp2_with fail
      go_ret
      exact ⟨rfl, k1⟩
    | false =>
      go_wp2_with fail
      (with_reducible refine (I2.out _).mono ?_)
      rintro e w3 ⟨rfl, rfl⟩
      cases b2 with
      | true =>
        go_wp2_with fail
        go_ret
        exact ⟨rfl, k1⟩
      | false =>
        go_wp2_with fail
        (with_reducible refine (I3.out _).mono ?_)
        rintro e w4 ⟨rfl, rfl⟩
        cases b3 with
        | true =>
          go_wp2_with fail
          go_ret
          exact ⟨rfl, k1⟩
        | false =>
          go_wp2_with fail
          (with_reducible refine (I4.out _).mono ?_)
          rintro e w5 ⟨rfl, rfl⟩
          go_wp2_with fail
          go_ret
          exact ⟨rfl, k1⟩
  · rw [if_neg k1]
    have t1 : (k == 1) = false := beq_eq_false_iff_ne.2 k1
    clear k1 I1 I2 I3 I4
    by_cases k2 : k = 2
    · rw [if_pos k2]
      subst k2
      clear t1
      go_enter Tryz.func8, Tryz.ntmps8
      go_wp2_with fail
      (with_reducible refine LW.out.mono ?_)
      rintro e w1 ⟨rfl, k1⟩
      go_wp2_with fail
      (with_reducible refine (C2.out _).mono ?_)
      rintro e w2 ⟨rfl, rfl⟩
      go_wp2_with fail
      go_ret
      exact ⟨rfl, k1⟩
    · rw [if_neg k2]
      have t2 : (k == 2) = false := beq_eq_false_iff_ne.2 k2
      clear k2
      by_cases k3 : k = 3
      · rw [if_pos k3]
        subst k3
        clear t1 t2
        go_enter Tryz.func8, Tryz.ntmps8
        go_wp2_with fail
        (with_reducible refine LW.out.mono ?_)
        rintro e w1 ⟨rfl, k1⟩
        go_wp2_with fail
        (with_reducible refine (C3.out _).mono ?_)
        rintro e w2 ⟨rfl, rfl⟩
        go_wp2_with fail
        go_ret
        exact ⟨rfl, k1⟩
      · rw [if_neg k3]
        have t3 : (k == 3) = false := beq_eq_false_iff_ne.2 k3
        clear k3
        by_cases k4 : k = 4
        · rw [if_pos k4]
          subst k4
          clear t1 t2 t3
          go_enter Tryz.func8, Tryz.ntmps8
          go_wp2_with fail
          (with_reducible refine LW.out.mono ?_)
          rintro e w1 ⟨rfl, k1⟩
          go_wp2_with fail
          (with_reducible refine (C4.out _).mono ?_)
          rintro e w2 ⟨rfl, rfl⟩
          go_wp2_with fail
          go_ret
          exact ⟨rfl, k1⟩
        · rw [if_neg k4]
          have t4 : (k == 4) = false := beq_eq_false_iff_ne.2 k4
          clear k4
          by_cases k5 : k = 5
          · rw [if_pos k5]
            subst k5
            clear t1 t2 t3 t4
            go_enter Tryz.func8, Tryz.ntmps8
            go_wp2_with fail
            (with_reducible refine LW.out.mono ?_)
            rintro e w1 ⟨rfl, k1⟩
            go_wp2_with fail
            (with_reducible refine (C5.out _).mono ?_)
            rintro e w2 ⟨rfl, rfl⟩
            go_wp2_with fail
            go_ret
            exact ⟨rfl, k1⟩
          · rw [if_neg k5]
            have t5 : (k == 5) = false := beq_eq_false_iff_ne.2 k5
            clear k5
            go_enter Tryz.func8, Tryz.ntmps8
            go_wp2_with fail
            (with_reducible refine LW.out.mono ?_)
            rintro e w1 ⟨rfl, k1⟩
            go_wp2_with fail
            go_ret
            exact ⟨rfl, k1⟩
end Go.Proofs.YtjfhbfnagcjdmaaGreatDoor

/-
  Contracts of nameOf, hasRawText, isBlock, beginsRaw, declares, beginsElement, Html, endsRaw, HtmlEnd, of the package, for texts of at most 100,000 bytes.
-/
import Derived.Test.YtjfhbfnagcjdmaaDoorMka
import Derived.Test.YtjfhbfnagcjdmaaDoorShelf
import Derived.Deep.RegionHeld3
import Derived.LoopTactic
namespace Go.Proofs.YtjfhbfnagcjdmaaDoor
open Go.RowKit Go.Lib

/-- internal/bytealg.MaxLen holds some number. -/
def Mxl (w : World) : Prop := ∃ m : Int, w.cell? ⟨0, 0, none⟩ = some (.int .i64 m)
theorem Mxl.of {w : World} (h : w.ShapedOpen Tryd.prog) : Mxl w := Tryd.laysM144.s1_3 w h
theorem cell_lt {w : World} {b i : Nat} {v : Value} (h : w.cell? ⟨b, i, none⟩ = some v) : b < w.heap.size := by
  refine Decidable.byContradiction fun k => ?_
  have e : w.heap[b]? = none := Array.getElem?_eq_none (by omega)
  simp [World.cell?, e] at h
theorem Mxl.keep {w w' : World} (h : Mxl w) (k : Keeps w w') : Mxl w' := by
  obtain ⟨m, hm⟩ := h
  exact ⟨m, by rw [k.cell (cell_lt hm)]; exact hm⟩
theorem contains_any (s sub : ByteArray) (w : World) (hs : s.size ≤ 100000) (h : Mxl w) :
    Calls Tryd.prog 33 #[.string s, .string sub] w fun e w' => e = .returned (.bool (contains s.data.toList sub.data.toList)) ∧ w' = w := by
  obtain ⟨m, hm⟩ := h
  exact Tryd.strings_Contains s sub m w (by omega) hm
theorem cutEnd_any (s : ByteArray) (w : World) (hs : s.size ≤ 100000) (h : Mxl w) :
    Calls Tryd.prog 52 #[.string s, .string ⟨#[60, 47]⟩] w fun e w' => e = .returned (.tuple #[.string ⟨(cut s.data.toList [60, 47]).1.toArray⟩, .string ⟨(cut s.data.toList [60, 47]).2.1.toArray⟩, .bool (cut s.data.toList [60, 47]).2.2]) ∧ ∃ n, w' = w.drewN n := by
  obtain ⟨m, hm⟩ := h
  exact Tryd.strings_Cut s ⟨#[60, 47]⟩ m w (by omega) hm

set_option maxHeartbeats 1000000 in
set_option maxRecDepth 100000 in
theorem nameOf_any (s : ByteArray) (w : World) (hs : s.size ≤ 100000) :
    Calls Tryd.prog 46 #[.string s] w fun e w' => e = .returned (.tuple #[.string ⟨(nmL s.data.toList).toArray⟩, .string ⟨(nmR s.data.toList).toArray⟩]) ∧ Keeps w w' := by
  have hl := Lib.hid (bytes_len s)
  have LT := Lib.hid (fun b W => mletter_any b W)
  have DG := Lib.hid (fun b W => mdigit_any b W)
  have TL := Lib.hid (fun W => Tryd.strings_ToLower_ascii (s.extract 0 (nmC s.data.toList)) W (by rw [ByteArray.size_extract]; omega) (fun j b hb => nm_ascii s.data.toList b (by
    have := List.mem_of_getElem? hb
    rw [ext_take] at this
    simpa using this)))
  rw [show (s.extract 0 (nmC s.data.toList)).data.toList = s.data.toList.take (nmC s.data.toList) by rw [ext_take]] at TL
  have HR : Hid ((⟨(nmR s.data.toList).toArray⟩ : ByteArray) = s.extract (nmC s.data.toList) s.size) := Lib.hid (by rw [ext_drop]; rfl)
  rw [HR.out]
  unfold nmL
  clear HR
  generalize toLowerA (s.data.toList.take (nmC s.data.toList)) = z at *
  have hn := nmC_le s.data.toList
  rw [bytes_len] at hn
  go_enter Tryd.func46, Tryd.ntmps46
  go_wp2_with fail
  go_loop [4] (fun i => ∃ k : Nat, k ≤ s.size ∧ Hid (nmC s.data.toList = k + nmC (s.data.toList.drop k)) ∧ i = .int .i64 k) (fun i => s.size - (RowKit.intOf i).toNat)
  case atStart => exact ⟨0, Nat.zero_le _, Lib.hid (by rw [List.drop_zero, Nat.zero_add]), rfl⟩
  case round =>
    obtain ⟨k, hk, HC, rfl⟩ := hrel
    by_cases h : k < s.size
    · have L1 := Lib.hid (LT.out s[k])
      have D1 := Lib.hid (DG.out s[k])
      cases e1 : ltrB s[k] with
      | true =>
        rw [e1] at L1
        have HN : Hid (nmC s.data.toList = k + 1 + nmC (s.data.toList.drop (k + 1))) := Lib.hid (nm_more HC.out (by rw [hl.out]; exact h) (by show anB s[k] = true; unfold anB; rw [e1]; rfl))
        clear e1 D1
        go_wp2_with fail
        refine (L1.out _).mono ?_
        rintro e w1 ⟨rfl, rfl⟩
        go_wp2_with fail
        go_round
        case rel => exact ⟨k + 1, h, HN, by go_num⟩
        case measure => simp [RowKit.intOf]; omega
      | false =>
        rw [e1] at L1
        cases e2 : dgB s[k] with
        | true =>
          rw [e2] at D1
          have HN : Hid (nmC s.data.toList = k + 1 + nmC (s.data.toList.drop (k + 1))) := Lib.hid (nm_more HC.out (by rw [hl.out]; exact h) (by show anB s[k] = true; unfold anB; rw [e1, e2]; rfl))
          clear e1 e2
          go_wp2_with fail
          refine (L1.out _).mono ?_
          rintro e w1 ⟨rfl, rfl⟩
          go_wp2_with fail
          refine (D1.out _).mono ?_
          rintro e w1 ⟨rfl, rfl⟩
          go_wp2_with fail
          go_round
          case rel => exact ⟨k + 1, h, HN, by go_num⟩
          case measure => simp [RowKit.intOf]; omega
        | false =>
          rw [e2] at D1
          have HN : nmC s.data.toList = k := nm_stop HC.out (by rw [hl.out]; exact h) (by show anB s[k] = false; unfold anB; rw [e1, e2]; rfl)
          rw [HN] at TL hn
          have HN2 := Lib.hid HN
          clear e1 e2 HN HC
          go_wp2_with fail
          refine (L1.out _).mono ?_
          rintro e w1 ⟨rfl, rfl⟩
          go_wp2_with fail
          refine (D1.out _).mono ?_
          rintro e w1 ⟨rfl, rfl⟩
          go_wp2_with fail
          go_region_held3 (fun _ => True) (trivial) (first | (go_at_call 65; refine (TL.out _).mono ?_; rintro e w1 ⟨rfl, k1⟩))
          go_wp2_with fail
          go_ret2
          exact ⟨by rw [HN2.out]; rfl, (Keeps.refl w).drew.trans k1⟩
    · have HN : nmC s.data.toList = k := nm_end HC.out (by rw [hl.out]; omega)
      rw [HN] at TL hn
      have HN2 := Lib.hid HN
      clear HN HC
      go_wp2_with fail
      go_region_held3 (fun _ => True) (trivial) (first | (go_at_call 65; refine (TL.out _).mono ?_; rintro e w1 ⟨rfl, k1⟩))
      go_wp2_with fail
      go_ret2
      exact ⟨by rw [HN2.out]; rfl, (Keeps.refl w).drew.trans k1⟩
set_option maxRecDepth 100000 in
theorem rawText_any (s : ByteArray) (w : World) :
    Calls Tryd.prog 47 #[.string s] w fun e w' => e = .returned (.bool (rawN s.data.toList)) ∧ w = w' := by
  rw [← Lib.toList_data]
  go_enter Tryd.func47, Tryd.ntmps47
  go_wp2
  all_goals
    go_ret
    refine ⟨ret_bool ?_, rfl⟩
    first
      | (simp only [rawN, sName, pName, yName, tName, *, Bool.true_or, Bool.or_true, Bool.or_false]; done)
      | (simp_all; done)
      | (simp_all [rawN, sName, pName, yName, tName]; done)
set_option maxHeartbeats 4000000 in
set_option maxRecDepth 100000 in
theorem isBlock_any (s : ByteArray) (w : World) :
    Calls Tryd.prog 50 #[.string s] w fun e w' => e = .returned (.bool (blockN s.data.toList)) ∧ w = w' := by
  rw [← Lib.toList_data]
  go_enter Tryd.func50, Tryd.ntmps50
  go_wp2
  all_goals
    go_ret
    refine ⟨ret_bool ?_, rfl⟩
    first
      | (simp only [blockN, *, Bool.true_or, Bool.or_true, Bool.or_false]; done)
      | (simp_all; done)
      | (simp_all [blockN]; done)
end Go.Proofs.YtjfhbfnagcjdmaaDoor

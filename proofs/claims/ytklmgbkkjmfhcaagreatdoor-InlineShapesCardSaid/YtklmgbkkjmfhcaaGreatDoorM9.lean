/-
  Texts of the proof, one behind the other: Bas, Wlk, Rna, Rnb, Sgn, Srcr, Srcp, Rnc.
-/
import Derived.Test.YtklmgbkkjmfhcaaGreatDoorChecked
import Derived.WalkKit
import Derived.WalkSpells
import Derived.WalkLawsBesides
import Derived.IntWalk
import Derived.Lib.Hide
import Derived.BigQuiet
import Derived.Deep.QuietTactic
import Derived.Deep.Draws
import Derived.Below
import Derived.Lib.Strings
import Derived.Lib.IndexBytes
import Derived.Test.YtklmgbkkjmfhcaaGreatDoorM2
import Derived.Lib.OthersKept
import Derived.Lib.SlBytesConst
import Derived.Laws.Cover4
import Derived.Laws.IdiomStrings
import Derived.Test.YtklmgbkkjmfhcaaGreatDoorM3
/-
  Small helpers of every walk: endings, frames of worlds, texts as lists of bytes.
-/
namespace Go.Proofs.YtklmgbkkjmfhcaaGreatDoor
open Go.RowKit Go.Lib

theorem ret_bool {a b : Bool} (h : a = b) : Ending.returned (.bool a) = .returned (.bool b) := by rw [h]
theorem ret_int {k : IntKind} {a b : Int} (h : a = b) : Ending.returned (.int k a) = .returned (.int k b) := by rw [h]
theorem ret_str {a b : List UInt8} (h : a = b) : Ending.returned (.string ⟨a.toArray⟩) = .returned (.string ⟨b.toArray⟩) := by rw [h]
theorem ret_bytes {a b : ByteArray} (h : a = b) : Ending.returned (.string a) = .returned (.string b) := by rw [h]
theorem ret_two {a b c d : Int} (h : a = b) (k : c = d) : Ending.returned (.tuple #[.int .i64 a, .int .i64 c]) = .returned (.tuple #[.int .i64 b, .int .i64 d]) := by rw [h, k]
theorem bytes_eq {a b : ByteArray} (h : a.data.toList = b.data.toList) : a = b := ByteArray.ext (Array.ext' h)
theorem bytes_mk (s : ByteArray) : (⟨s.data.toList.toArray⟩ : ByteArray) = s := bytes_eq (by simp)
theorem bytes_len (s : ByteArray) : s.data.toList.length = s.size := by simp

theorem bytes_app (a b : ByteArray) : (a ++ b).data.toList = a.data.toList ++ b.data.toList := by simp
/-- A text's head and tail, as lists. -/
theorem ext_take (s : ByteArray) (k : Nat) : s.extract 0 k = ⟨(s.data.toList.take k).toArray⟩ := bytes_eq (by rw [Lib.extract_data, List.drop_zero, Nat.sub_zero])
theorem ext_drop (s : ByteArray) (k : Nat) : s.extract k s.size = ⟨(s.data.toList.drop k).toArray⟩ := bytes_eq (by rw [Lib.extract_to_end])
/-- What a call may do to the world: new blocks, draws; all that was there is as it was. -/
def Keeps (w w' : World) : Prop := Below w.heap.size w w'
theorem Keeps.refl (w : World) : Keeps w w := Below.refl _ _
theorem Keeps.trans {a b c : World} (h : Keeps a b) (k : Keeps b c) : Keeps a c := Below.trans h (Below.mono k h.size)
theorem Keeps.drewN {a b : World} (h : Keeps a b) (n : Nat) : Keeps a (b.drewN n) := ⟨h.os, h.tape, h.output, h.size, h.block⟩
theorem Keeps.drew {a b : World} (h : Keeps a b) : Keeps a b.drew := ⟨h.os, h.tape, h.output, h.size, h.block⟩
theorem Keeps.alloc {a b : World} (h : Keeps a b) (o : Obj) : Keeps a (b.alloc o) := Below.alloc h h.size o
theorem drop_cons (l : List UInt8) (p : Nat) (h : p < l.length) : l.drop p = l[p] :: l.drop (p + 1) := List.drop_eq_getElem_cons h
/-- string([]byte{b}). -/
theorem one_byte {P : Program} (W : World) (src dst e : TypeId) (c : UInt8) (n : Int) (hn : n = (c.toNat : Int)) (hs : P.underlying src = some (.slice e)) (he : P.underlying e = some (.int .u8)) (hd : P.underlying dst = some .string) :
    (convert src dst (.slice (some ⟨W.heap.size, 0, none⟩) 1 1)).run P (W.alloc (.cells #[.int .u8 n] e)) = .ok (.string ⟨#[c]⟩) (W.alloc (.cells #[.int .u8 n] e)) := by
  subst hn
  refine run_convert_bytes_back _ src dst e ⟨W.heap.size, 0, none⟩ 1 [c] hs he hd (fun j hj => ?_)
  have : j = 0 := by simpa using hj
  subst this
  simp [Addr.add, World.cell?_alloc_new]
theorem tl_empty {t : ByteArray} (h : 0 < t.size) : t.toList.isEmpty = false := by
  rw [Lib.toList_data]
  have := bytes_len t
  cases e : t.data.toList with
  | nil => rw [e] at this; simp at this; omega
  | cons a b => rfl
theorem tl_ne {t : ByteArray} (h : 0 < t.size) : ¬ t.toList = [] := fun e => by have := tl_empty h; rw [e] at this; cases this
/-- A contract that leaves the world alone, wherever a quiet region calls it. -/
theorem quiet_in {P : Program} {f : FuncId} {args : Array Value} {W : World} {v : Value} {R : World → Prop} (h : Calls P f args W fun e w' => e = .returned v ∧ W = w') (hw : R W) :
    Calls P f args W fun e w' => e = .returned v ∧ R w' := h.mono fun _ _ ⟨he, hm⟩ => ⟨he, hm ▸ hw⟩
theorem take_next (s : ByteArray) (k : Nat) (h : k < s.size) : s.data.toList.take (k + 1) = s.data.toList.take k ++ [s[k]] := by
  rw [List.take_succ_eq_append_getElem (by rw [bytes_len]; exact h)]; rfl
end Go.Proofs.YtklmgbkkjmfhcaaGreatDoor

/-
  Helpers of every walk over texts: endings, frames of worlds, a text's iterator.
-/
namespace Go.Proofs.YtklmgbkkjmfhcaaGreatDoor
open Go.RowKit Go.Lib

theorem Keeps.iter {a b : World} (h : Keeps a b) (s : ByteArray) (p : Nat) : Keeps a (b.iter s p) := h.alloc _
theorem Keeps.iterAt {a b : World} (h : Keeps a b) {k : Nat} (hk : a.heap.size ≤ k) (s : ByteArray) (p : Nat) : Keeps a (b.iterAt k s p) := below_iterAt h hk s p

/-- A rune of a text at a place: the number, the bytes that it has. -/
structure Step (l : List UInt8) (pos : Nat) (r : Int) (n : Nat) : Prop where
  one : 1 ≤ n
  room : pos + n ≤ l.length
  low : 0 ≤ r
  high : r ≤ 2147483647
  dec : decodeL (l.drop pos) = (r.toNat, n)
  next : l.take (pos + n) = l.take pos ++ (l.drop pos).take n
  rest : l.drop pos = (l.drop pos).take n ++ l.drop (pos + n)
  kind : (n = 1 ∧ r < 128 ∧ ∃ b, (l.drop pos).take n = [b] ∧ (b.toNat : Int) = r) ∨ (128 ≤ r ∧ ∀ c ∈ (l.drop pos).take n, 128 ≤ c.toNat)

theorem step_at (s : ByteArray) (pos : Nat) (h : pos < s.size) : Step s.data.toList pos ((Utf8.decode s pos).1 : Nat) (Utf8.decode s pos).2 := by
  have hl := bytes_len s
  have e := decodeL_drop s pos
  have hc := chunk _ _ _ (drop_cons s.data.toList pos (by omega))
  have hle := decode_le s pos
  rw [e] at hc
  generalize Utf8.decode s pos = d at *
  obtain ⟨r, n⟩ := d
  dsimp only at *
  have hlen : (s.data.toList.drop pos).length = s.size - pos := by rw [List.length_drop, hl]
  have nx : s.data.toList.take (pos + n) = s.data.toList.take pos ++ (s.data.toList.drop pos).take n := List.take_add
  have rs : s.data.toList.drop pos = (s.data.toList.drop pos).take n ++ s.data.toList.drop (pos + n) := by
    rw [← List.drop_drop, List.take_append_drop]
  rcases hc with ⟨h1, h2⟩ | ⟨h1, h2, h3, h4, h5⟩
  · simp only [Prod.mk.injEq] at h2
    obtain ⟨rfl, rfl⟩ := h2
    refine ⟨Nat.le_refl _, by omega, by omega, by omega, by rw [e]; rfl, nx, rs, .inl ⟨rfl, by omega, s.data.toList[pos], ?_, rfl⟩⟩
    rw [drop_cons s.data.toList pos (by omega)]; rfl
  · exact ⟨h3, by omega, by omega, by omega, by rw [e]; rfl, nx, rs, .inr ⟨by omega, h5⟩⟩
/-- The next rune. -/
theorem next_at {P : Program} {w : World} {k : Nat} {s : ByteArray} {pos : Nat} (hk : w.heap[k]? = some (.stringIter s pos)) (h : pos < s.size) :
    ∃ (r : Int) (n : Nat), Step s.data.toList pos r n ∧ ∀ ty, (Instr.next (.pointer (some ⟨k, 0, none⟩)) true ty).run P w = .ok (.tuple #[.bool true, .int .i64 pos, .int .i32 r]) (w.iterAt k s (pos + n)) :=
  ⟨_, _, step_at s pos h, fun ty => run_next_any_at w k s pos ty hk h⟩
theorem iter_lt {w : World} {k : Nat} {o : Obj} (h : w.heap[k]? = some o) : k < w.heap.size := (Array.getElem?_eq_some_iff.1 h).1
/-- The iterator, moved on. -/
theorem pos_at {w : World} {k : Nat} {s : ByteArray} {p : Nat} (h : w.heap[k]? = some (.stringIter s p)) : w.iterPos k = p := by simp only [World.iterPos, h]

end Go.Proofs.YtklmgbkkjmfhcaaGreatDoor

/-
  Contracts of Class, leans, Flank, Fits, of the package run.
-/
namespace Go.Proofs.YtklmgbkkjmfhcaaGreatDoor
open Go.RowKit Go.Lib

set_option maxRecDepth 100000 in
theorem rnBlank_any (r : Int) (w : World) :
    Calls Tryz.prog 105 #[.int .i32 r] w fun e w' => e = .returned (.bool (decide (blankP r))) ∧ w = w' := by
  by_cases hb : blankP r
  · rw [decide_eq_true hb]
    unfold blankP at hb
    rcases hb with a | ⟨a, b⟩ | rfl | rfl | rfl | ⟨a, b⟩ | rfl | rfl | rfl
    all_goals
      go_enter Tryz.func105, Tryz.ntmps105
      go_wp2
      go_ret
      exact ⟨rfl, rfl⟩
  · rw [decide_eq_false hb]
    have hw : (1 ≤ r ∧ r ≤ 8) ∨ (14 ≤ r ∧ r ≤ 31) ∨ (33 ≤ r ∧ r ≤ 159) ∨ (161 ≤ r ∧ r ≤ 5759) ∨ (5761 ≤ r ∧ r ≤ 8191) ∨ (8203 ≤ r ∧ r ≤ 8238) ∨ (8240 ≤ r ∧ r ≤ 8286) ∨ (8288 ≤ r ∧ r ≤ 12287) ∨ 12289 ≤ r := by
      unfold blankP at hb; omega
    clear hb
    rcases hw with ⟨a, b⟩ | ⟨a, b⟩ | ⟨a, b⟩ | ⟨a, b⟩ | ⟨a, b⟩ | ⟨a, b⟩ | ⟨a, b⟩ | ⟨a, b⟩ | a
    all_goals
      go_enter Tryz.func105, Tryz.ntmps105
      go_wp2
      go_ret
      exact ⟨rfl, rfl⟩
def oddP (r : Int) : Prop := r = 170 ∨ r = 178 ∨ r = 179 ∨ r = 181 ∨ r = 185 ∨ r = 186 ∨ r = 188 ∨ r = 189 ∨ r = 190
instance (r : Int) : Decidable (oddP r) := by unfold oddP; infer_instance
set_option maxRecDepth 100000 in
theorem rnOdd_any (r : Int) (w : World) :
    Calls Tryz.prog 138 #[.int .i32 r] w fun e w' => e = .returned (.bool (decide (oddP r))) ∧ w = w' := by
  by_cases hb : oddP r
  · rw [decide_eq_true hb]
    unfold oddP at hb
    rcases hb with rfl | rfl | rfl | rfl | rfl | rfl | rfl | rfl | rfl
    all_goals
      go_enter Tryz.func138, Tryz.ntmps138
      go_wp2
      go_ret
      exact ⟨rfl, rfl⟩
  · rw [decide_eq_false hb]
    have hw : (r ≤ 169) ∨ (171 ≤ r ∧ r ≤ 177) ∨ r = 180 ∨ (182 ≤ r ∧ r ≤ 184) ∨ r = 187 ∨ 191 ≤ r := by
      unfold oddP at hb; omega
    clear hb
    rcases hw with a | ⟨a, b⟩ | rfl | ⟨a, b⟩ | rfl | a
    all_goals
      go_enter Tryz.func138, Tryz.ntmps138
      go_wp2
      go_ret
      exact ⟨rfl, rfl⟩
set_option maxHeartbeats 2000000 in
set_option maxRecDepth 100000 in
theorem rnPunct_any (r : Int) (w : World) :
    Calls Tryz.prog 106 #[.int .i32 r] w fun e w' => e = .returned (.bool (decide (punctP r))) ∧ w = w' := by
  have OD := Lib.hid (rnOdd_any r w)
  by_cases h1 : 161 ≤ r ∧ r ≤ 191
  · have e1 : (!decide (oddP r)) = decide (punctP r) := by
      rw [← decide_not, decide_eq_decide]
      unfold oddP punctP
      omega
    obtain ⟨a, b⟩ := h1
    rw [← e1]
    clear e1
    generalize decide (oddP r) = o at *
    go_enter Tryz.func106, Tryz.ntmps106
    go_wp2_with fail
    refine OD.out.mono ?_
    rintro e w1 ⟨rfl, rfl⟩
    go_wp2_with fail
    go_ret
    exact ⟨rfl, rfl⟩
  · clear OD
    by_cases hb : punctP r
    · rw [decide_eq_true hb]
      have hw : (33 ≤ r ∧ r ≤ 47) ∨ (58 ≤ r ∧ r ≤ 64) ∨ (91 ≤ r ∧ r ≤ 96) ∨ (123 ≤ r ∧ r ≤ 126) ∨ r = 215 ∨ r = 247 ∨ (8208 ≤ r ∧ r ≤ 8231) ∨ (8240 ≤ r ∧ r ≤ 8286) ∨ (8352 ≤ r ∧ r ≤ 8384) ∨ (8592 ≤ r ∧ r ≤ 9215) ∨ (9472 ≤ r ∧ r ≤ 10175) ∨ (12289 ≤ r ∧ r ≤ 12291) ∨ (12296 ≤ r ∧ r ≤ 12305) := by
        unfold punctP at hb; omega
      clear hb h1
      rcases hw with ⟨a, b⟩ | ⟨a, b⟩ | ⟨a, b⟩ | ⟨a, b⟩ | rfl | rfl | ⟨a, b⟩ | ⟨a, b⟩ | ⟨a, b⟩ | ⟨a, b⟩ | ⟨a, b⟩ | ⟨a, b⟩ | ⟨a, b⟩
      all_goals
        go_enter Tryz.func106, Tryz.ntmps106
        go_wp2
        go_ret
        exact ⟨rfl, rfl⟩
    · rw [decide_eq_false hb]
      have hw : r ≤ 32 ∨ (48 ≤ r ∧ r ≤ 57) ∨ (65 ≤ r ∧ r ≤ 90) ∨ (97 ≤ r ∧ r ≤ 122) ∨ (127 ≤ r ∧ r ≤ 160) ∨ (192 ≤ r ∧ r ≤ 214) ∨ (216 ≤ r ∧ r ≤ 246) ∨ (248 ≤ r ∧ r ≤ 8207) ∨ (8232 ≤ r ∧ r ≤ 8239) ∨ (8287 ≤ r ∧ r ≤ 8351) ∨ (8385 ≤ r ∧ r ≤ 8591) ∨ (9216 ≤ r ∧ r ≤ 9471) ∨ (10176 ≤ r ∧ r ≤ 12288) ∨ (12292 ≤ r ∧ r ≤ 12295) ∨ 12306 ≤ r := by
        unfold punctP at hb; omega
      clear hb h1
      rcases hw with a | ⟨a, b⟩ | ⟨a, b⟩ | ⟨a, b⟩ | ⟨a, b⟩ | ⟨a, b⟩ | ⟨a, b⟩ | ⟨a, b⟩ | ⟨a, b⟩ | ⟨a, b⟩ | ⟨a, b⟩ | ⟨a, b⟩ | ⟨a, b⟩ | ⟨a, b⟩ | a
      all_goals
        go_enter Tryz.func106, Tryz.ntmps106
        go_wp2
        go_ret
        exact ⟨rfl, rfl⟩
set_option maxRecDepth 100000 in
theorem class_any (r : Int) (w : World) :
    Calls Tryz.prog 68 #[.int .i32 r] w fun e w' => e = .returned (.int .i64 (clsR r)) ∧ w = w' := by
  have B := Lib.hid (rnBlank_any r w)
  have C := Lib.hid (rnPunct_any r w)
  by_cases h1 : blankP r
  · have e1 : clsR r = 1 := by unfold clsR; rw [if_pos h1]
    rw [e1]
    rw [decide_eq_true h1] at B
    clear h1 e1 C
    go_enter Tryz.func68, Tryz.ntmps68
    go_wp2_with fail
    refine B.out.mono ?_
    rintro e w1 ⟨rfl, rfl⟩
    go_wp2_with fail
    go_ret
    exact ⟨rfl, rfl⟩
  · rw [decide_eq_false h1] at B
    by_cases h2 : punctP r
    · have e1 : clsR r = 2 := by unfold clsR; rw [if_neg h1, if_pos h2]
      rw [e1]
      rw [decide_eq_true h2] at C
      clear h1 h2 e1
      go_enter Tryz.func68, Tryz.ntmps68
      go_wp2_with fail
      refine B.out.mono ?_
      rintro e w1 ⟨rfl, rfl⟩
      go_wp2_with fail
      refine C.out.mono ?_
      rintro e w1 ⟨rfl, rfl⟩
      go_wp2_with fail
      go_ret
      exact ⟨rfl, rfl⟩
    · have e1 : clsR r = 0 := by unfold clsR; rw [if_neg h1, if_neg h2]
      rw [e1]
      rw [decide_eq_false h2] at C
      clear h1 h2 e1
      go_enter Tryz.func68, Tryz.ntmps68
      go_wp2_with fail
      refine B.out.mono ?_
      rintro e w1 ⟨rfl, rfl⟩
      go_wp2_with fail
      refine C.out.mono ?_
      rintro e w1 ⟨rfl, rfl⟩
      go_wp2_with fail
      go_ret
      exact ⟨rfl, rfl⟩
set_option maxRecDepth 100000 in
theorem leans_any (near far : Int) (w : World) :
    Calls Tryz.prog 67 #[.int .i32 near, .int .i32 far] w fun e w' => e = .returned (.bool (leanB (clsR near) (clsR far))) ∧ w = w' := by
  have X := Lib.hid (class_any near w)
  have Y := Lib.hid (class_any far w)
  have hx := cls_three near
  have hy := cls_three far
  generalize clsR near = x at *
  generalize clsR far = y at *
  rcases hx with rfl | rfl | rfl
  · go_enter Tryz.func67, Tryz.ntmps67
    go_wp2_with fail
    refine X.out.mono ?_
    rintro e w1 ⟨rfl, rfl⟩
    go_wp2_with fail
    go_ret
    exact ⟨rfl, rfl⟩
  · go_enter Tryz.func67, Tryz.ntmps67
    go_wp2_with fail
    refine X.out.mono ?_
    rintro e w1 ⟨rfl, rfl⟩
    go_wp2_with fail
    go_ret
    exact ⟨rfl, rfl⟩
  · rcases hy with rfl | rfl | rfl
    all_goals
      go_enter Tryz.func67, Tryz.ntmps67
      go_wp2_with fail
      refine X.out.mono ?_
      rintro e w1 ⟨rfl, rfl⟩
      go_wp2_with fail
      refine Y.out.mono ?_
      rintro e w1 ⟨rfl, rfl⟩
      go_wp2_with fail
      go_ret
      exact ⟨rfl, rfl⟩
end Go.Proofs.YtklmgbkkjmfhcaaGreatDoor

/-
  Contracts of Flank, Fits, of the package run.
-/
namespace Go.Proofs.YtklmgbkkjmfhcaaGreatDoor
open Go.RowKit Go.Lib

set_option maxHeartbeats 2000000 in
set_option maxRecDepth 100000 in
theorem flank_star (a b : Int) (w : World) :
    Calls Tryz.prog 37 #[.int .i32 a, .int .i32 b, .int .u8 42] w fun e w' => e = .returned (.tuple #[.bool (leanB (clsR b) (clsR a)), .bool (leanB (clsR a) (clsR b))]) ∧ w = w' := by
  have L := Lib.hid (leans_any b a w)
  have R := Lib.hid (leans_any a b w)
  generalize leanB (clsR b) (clsR a) = l at *
  generalize leanB (clsR a) (clsR b) = r at *
  go_enter Tryz.func37, Tryz.ntmps37
  go_wp2_with fail
  refine L.out.mono ?_
  rintro e w1 ⟨rfl, rfl⟩
  go_wp2_with fail
  refine R.out.mono ?_
  rintro e w1 ⟨rfl, rfl⟩
  go_wp2_with fail
  go_ret2
  exact ⟨rfl, rfl⟩
def underO (l r : Bool) (x : Int) : Bool := l && (!r || x == 2)
set_option maxHeartbeats 2000000 in
set_option maxRecDepth 100000 in
theorem flank_under (a b : Int) (w : World) :
    Calls Tryz.prog 37 #[.int .i32 a, .int .i32 b, .int .u8 95] w fun e w' => e = .returned (.tuple #[.bool (underO (leanB (clsR b) (clsR a)) (leanB (clsR a) (clsR b)) (clsR a)), .bool (underO (leanB (clsR a) (clsR b)) (leanB (clsR b) (clsR a)) (clsR b))]) ∧ w = w' := by
  have L := Lib.hid (leans_any b a w)
  have R := Lib.hid (leans_any a b w)
  have X := Lib.hid (class_any a w)
  have Y := Lib.hid (class_any b w)
  generalize leanB (clsR b) (clsR a) = l at *
  generalize leanB (clsR a) (clsR b) = r at *
  generalize clsR a = x at *
  generalize clsR b = y at *
  cases l <;> cases r
  all_goals
    go_enter Tryz.func37, Tryz.ntmps37
    go_wp2_with fail
    refine L.out.mono ?_
    rintro e w1 ⟨rfl, rfl⟩
    go_wp2_with fail
    refine R.out.mono ?_
    rintro e w1 ⟨rfl, rfl⟩
    go_wp2_with fail
  · go_ret2
    exact ⟨rfl, rfl⟩
  · go_ret2
    exact ⟨rfl, rfl⟩
  · go_ret2
    exact ⟨rfl, rfl⟩
  · refine X.out.mono ?_
    rintro e w1 ⟨rfl, rfl⟩
    go_wp2_with fail
    refine Y.out.mono ?_
    rintro e w1 ⟨rfl, rfl⟩
    go_wp2_with fail
    go_ret2
    exact ⟨rfl, rfl⟩
set_option maxHeartbeats 4000000 in
set_option maxRecDepth 100000 in
theorem fits_any (x y p q : Int) (a b : Bool) (hx : x.tmod 3 = p) (hy : y.tmod 3 = q) (hp : p = 0 ∨ p = 1 ∨ p = 2) (hq : q = 0 ∨ q = 1 ∨ q = 2) (w : World) :
    Calls Tryz.prog 75 #[.int .i64 x, .int .i64 y, .bool a, .bool b] w fun e w' => e = .returned (.bool (fitsB p q a b)) ∧ w = w' := by
  cases a
  · cases b
    · have e1 : fitsB p q false false = true := rfl
      rw [e1]
      clear e1 hp hq hx hy
      go_enter Tryz.func75, Tryz.ntmps75
      go_wp2
      go_ret
      exact ⟨rfl, rfl⟩
    · rcases hp with rfl | rfl | rfl <;> rcases hq with rfl | rfl | rfl
      all_goals
        go_enter Tryz.func75, Tryz.ntmps75
        go_wp2
        go_ret
        exact ⟨rfl, rfl⟩
  · rcases hp with rfl | rfl | rfl <;> rcases hq with rfl | rfl | rfl
    all_goals
      go_enter Tryz.func75, Tryz.ntmps75
      go_wp2
      go_ret
      exact ⟨rfl, rfl⟩
end Go.Proofs.YtklmgbkkjmfhcaaGreatDoor

/-
  Contract of Sign, of the package named.
-/
namespace Go.Proofs.YtklmgbkkjmfhcaaGreatDoor
open Go.RowKit Go.Lib

set_option maxRecDepth 100000 in
theorem sign_go (x : Int) (w : World) (h0 : 0 ≤ x) (h1 : x < 256) :
    Calls Tryz.prog 45 #[.int .u8 x] w fun e w' => e = .returned (.bool (decide ((33 ≤ x ∧ x ≤ 47) ∨ (58 ≤ x ∧ x ≤ 64) ∨ (91 ≤ x ∧ x ≤ 96) ∨ (123 ≤ x ∧ x ≤ 126)))) ∧ w = w' := by
  have hw : ((33 ≤ x ∧ x ≤ 47) ∨ (58 ≤ x ∧ x ≤ 64) ∨ (91 ≤ x ∧ x ≤ 96) ∨ (123 ≤ x ∧ x ≤ 126)) ∨ (x < 33 ∨ (47 < x ∧ x < 58) ∨ (64 < x ∧ x < 91) ∨ (96 < x ∧ x < 123) ∨ 126 < x) := by omega
  rcases hw with hw | hw
  · rw [decide_eq_true hw]
    rcases hw with ⟨a, b⟩ | ⟨a, b⟩ | ⟨a, b⟩ | ⟨a, b⟩
    all_goals
      go_enter Tryz.func45, Tryz.ntmps45
      go_wp2
      go_ret
      exact ⟨rfl, rfl⟩
  · rw [decide_eq_false (by omega)]
    rcases hw with a | ⟨a, b⟩ | ⟨a, b⟩ | ⟨a, b⟩ | a
    all_goals
      go_enter Tryz.func45, Tryz.ntmps45
      go_wp2
      go_ret
      exact ⟨rfl, rfl⟩
theorem signB_int (b : UInt8) : signB b = decide ((33 ≤ (b.toNat : Int) ∧ (b.toNat : Int) ≤ 47) ∨ (58 ≤ (b.toNat : Int) ∧ (b.toNat : Int) ≤ 64) ∨ (91 ≤ (b.toNat : Int) ∧ (b.toNat : Int) ≤ 96) ∨ (123 ≤ (b.toNat : Int) ∧ (b.toNat : Int) ≤ 126)) := by
  unfold signB
  rw [Bool.eq_iff_iff]
  simp only [Bool.or_eq_true, Bool.and_eq_true, decide_eq_true_eq]
  omega
theorem sign_any (b : UInt8) (w : World) :
    Calls Tryz.prog 45 #[.int .u8 (b.toNat : Nat)] w fun e w' => e = .returned (.bool (signB b)) ∧ w = w' := by
  have hb := b.toNat_lt
  rw [signB_int]
  exact sign_go _ w (by omega) (by omega)
end Go.Proofs.YtklmgbkkjmfhcaaGreatDoor

/-
  Runes there and back: []rune(s), string(runes), where each rune may be written.
-/
namespace Go.Proofs.YtklmgbkkjmfhcaaGreatDoor
open Go.RowKit Go.Lib

theorem enc_eq (r : Int) (h : okR r) : (Utf8.encode r).data.toList = encodeRune r := by
  unfold okR at h
  have hv : Utf8.valid r = true := by
    unfold Utf8.valid
    rcases h with ⟨h1, h2⟩ | ⟨h1, h2⟩
    · rw [decide_eq_true (by omega : (0 : Int) ≤ r), decide_eq_true (by omega : r < 55296)]; rfl
    · rw [decide_eq_true (by omega : (57344 : Int) ≤ r), decide_eq_true (by omega : r ≤ 1114111)]; simp
  have e : ∀ (n : Nat) (x : Int), x.toNat = n → (UInt8.ofNat n : UInt8) = x.toNat.toUInt8 := fun n x h => by rw [h]
  unfold Utf8.encode
  simp only [hv, if_true]
  unfold encodeRune
  by_cases c1 : r ≤ 127
  · rw [if_pos (by omega), encodeRuneZ_one (by omega) c1]
    rfl
  · rw [if_neg (by omega)]
    by_cases c2 : r ≤ 2047
    · rw [if_pos (by omega), encodeRuneZ_two (by omega) c2]
      simp only [List.map_cons, List.map_nil]
      rw [e _ (192 + r / 64) (by omega), e _ (128 + r % 64) (by omega)]
    · rw [if_neg (by omega)]
      by_cases c3 : r ≤ 65535
      · rw [if_pos (by omega), encodeRuneZ_three (by omega)]
        simp only [List.map_cons, List.map_nil]
        rw [e _ (224 + r / 4096) (by omega), e _ (128 + r / 64 % 64) (by omega), e _ (128 + r % 64) (by omega)]
      · rw [if_neg (by omega), encodeRuneZ_four (by omega) (by omega)]
        simp only [List.map_cons, List.map_nil]
        rw [e _ (240 + r / 262144) (by omega), e _ (128 + r / 4096 % 64) (by omega), e _ (128 + r / 64 % 64) (by omega), e _ (128 + r % 64) (by omega)]
theorem fold_bytes : ∀ (rs : List Int) (a : ByteArray), (∀ r ∈ rs, okR r) → (rs.foldl (fun r n => r ++ Utf8.encode n) a).data.toList = a.data.toList ++ bytesR rs
  | [], a, _ => by simp [bytesR]
  | r :: rs, a, h => by
    rw [List.foldl_cons, fold_bytes rs _ (fun x hx => h x (List.mem_cons_of_mem _ hx)), bytesR_cons, ← enc_eq r (h r (List.mem_cons_self ..))]
    simp
theorem runesBytes_eq (rs : List Int) (h : ∀ r ∈ rs, okR r) : runesBytes rs = ⟨(bytesR rs).toArray⟩ := bytes_eq (by
  unfold runesBytes
  rw [fold_bytes rs _ h]
  rfl)
theorem runesFrom_eq (s : ByteArray) : ∀ (rs : List Int) (n i : Nat) (acc : Array Value), s.data.toList.drop i = bytesR rs → (∀ r ∈ rs, okR r) → rs.length ≤ n →
    (Conv.runesFrom s n i acc).toList = acc.toList ++ rs.map (Value.int .i32)
  | [], n, i, acc, h, _, _ => by
    have hi : ¬ i < s.size := by
      have := congrArg List.length h
      rw [List.length_drop, bytes_len] at this
      simp [bytesR] at this
      omega
    cases n with
    | zero => simp [Conv.runesFrom]
    | succ n => simp [Conv.runesFrom, hi]
  | r :: rs, n, i, acc, h, hr, hn => by
    obtain ⟨m, rfl⟩ : ∃ m, n = m + 1 := ⟨n - 1, by simp at hn; omega⟩
    have ho := hr r (List.mem_cons_self ..)
    have hd := dec_enc r ho (bytesR rs)
    rw [bytesR_cons] at h
    rw [← h, decodeL_drop] at hd
    have hi : i < s.size := by
      have h1 := congrArg List.length h
      have h2 := enc_len r
      rw [List.length_drop, bytes_len, List.length_append] at h1
      omega
    have hnext : s.data.toList.drop (i + (encodeRune r).length) = bytesR rs := by
      rw [← List.drop_drop, h, List.drop_left]
    have hc : Int.ofNat r.toNat = r := by unfold okR at ho; show ((r.toNat : Nat) : Int) = r; omega
    unfold Conv.runesFrom
    rw [if_pos hi, hd]
    dsimp only
    rw [hc, runesFrom_eq s rs m _ _ hnext (fun x hx => hr x (List.mem_cons_of_mem _ hx)) (by simp at hn; omega)]
    simp
theorem bytesR_len : ∀ rs : List Int, rs.length ≤ (bytesR rs).length
  | [] => Nat.le_refl _
  | r :: rs => by
    have h1 := enc_len r
    have h2 := bytesR_len rs
    rw [bytesR_cons, List.length_append, List.length_cons]; omega
/-- []rune(s) of a text of runes. -/
theorem runes_of (s : ByteArray) (rs : List Int) (h : s.data.toList = bytesR rs) (hr : ∀ r ∈ rs, okR r) : Conv.runesFrom s s.size 0 #[] = (rs.map (Value.int .i32)).toArray := by
  have := runesFrom_eq s rs s.size 0 #[] (by simpa using h) hr (by have h1 := bytesR_len rs; rw [← h, bytes_len] at h1; exact h1)
  apply Array.ext'
  simpa using this
end Go.Proofs.YtklmgbkkjmfhcaaGreatDoor

/-
  Blanks, as layer 3 asks for them.
-/
namespace Go.Proofs.YtklmgbkkjmfhcaaGreatDoor
open Go.RowKit Go.Lib

def bl (r : Int) : Bool := decide (r = 32) || decide (r = 9)
theorem bl_of {l : List UInt8} {pos n : Nat} {r : Int} (h : Step l pos r n) : (bl r = true ∧ ∃ b, (l.drop pos).take n = [b] ∧ isB b = true) ∨ (bl r = false ∧ ∃ b ∈ (l.drop pos).take n, isB b = false) := by
  rcases h.kind with ⟨rfl, h2, b, h3, h4⟩ | ⟨h2, h3⟩
  · have e : bl r = isB b := by
      unfold bl isB
      rw [← h4]
      congr 1 <;> (rw [Bool.eq_iff_iff]; simp only [decide_eq_true_eq]; omega)
    cases hb : isB b with
    | true => exact .inl ⟨e.trans hb, b, h3, hb⟩
    | false => exact .inr ⟨e.trans hb, b, by rw [h3]; simp, hb⟩
  · refine .inr ⟨?_, ?_⟩
    · unfold bl; rw [decide_eq_false (by omega), decide_eq_false (by omega)]; rfl
    · have hlen : ((l.drop pos).take n).length = n := by rw [List.length_take, List.length_drop]; have := h.room; omega
      have h1 := h.one
      cases hc : (l.drop pos).take n with
      | nil => rw [hc] at hlen; simp at hlen; omega
      | cons b t => exact ⟨b, List.mem_cons_self .., isB_big (h3 b (by rw [hc]; exact List.mem_cons_self ..))⟩

theorem isBlank_yes (r : Int) (w : World) (h : bl r = true) :
    Calls Tryz.prog 131 #[.int .i32 r] w fun e w' => e = .returned (.bool true) ∧ w = w' := by
  unfold bl at h
  by_cases c : r = 32
  · subst c
    clear h
    go_enter Tryz.func131, Tryz.ntmps131
    go_wp2
    go_ret
    exact ⟨rfl, rfl⟩
  · have c2 : r = 9 := by simpa [c] using h
    subst c2
    clear h c
    go_enter Tryz.func131, Tryz.ntmps131
    go_wp2
    go_ret
    exact ⟨rfl, rfl⟩
theorem isBlank_no (r : Int) (w : World) (h : bl r = false) :
    Calls Tryz.prog 131 #[.int .i32 r] w fun e w' => e = .returned (.bool false) ∧ w = w' := by
  have c1 : (r == 32) = false := by
    unfold bl at h
    simpa using (Bool.or_eq_false_iff.1 h).1
  have c2 : (r == 9) = false := by
    unfold bl at h
    simpa using (Bool.or_eq_false_iff.1 h).2
  clear h
  go_enter Tryz.func131, Tryz.ntmps131
  go_wp2
  go_ret
  exact ⟨rfl, rfl⟩
end Go.Proofs.YtklmgbkkjmfhcaaGreatDoor

/-
  Contracts of Before and After, of the package run and of the document's answer.
-/
namespace Go.Proofs.YtklmgbkkjmfhcaaGreatDoor
open Go.RowKit Go.Lib

set_option maxHeartbeats 2000000 in
set_option maxRecDepth 100000 in
theorem before_lo (s : ByteArray) (k : Nat) (w : World) (hs : s.size ≤ 100000) (hk : k ≤ s.size) (h4 : k < 4) :
    Calls Tryz.prog 38 #[.string s, .int .i64 (k : Nat)] w fun e w' => e = .returned (.int .i32 (befL s.data.toList (k : Nat))) ∧ Keeps w w' := by
  have hl := Lib.hid (bytes_len s)
  obtain ⟨T, hT⟩ : ∃ T, s.extract 0 k = T := ⟨_, rfl⟩
  have HTL : Hid (T.data.toList = (s.data.toList.drop 0).take (k - 0)) := Lib.hid (by rw [← hT, Lib.extract_data])
  have HE : Hid (befL s.data.toList (k : Nat) = lastR T.data.toList 0) := Lib.hid (by
    unfold befL
    rw [if_neg (by rw [hl.out]; omega), Int.toNat_natCast, HTL.out]
    rw [List.drop_zero, Nat.sub_zero])
  have hT1 : T.size ≤ 100000 := by rw [← bytes_len, HTL.out]; simp only [List.length_drop, List.length_take]; have := hl.out; omega
  have hTl := Lib.hid (bytes_len T)
  clear HTL
  go_enter Tryz.func38, Tryz.ntmps38
  go_wp2_with fail
  go_loopw [5] (fun o wr => ∃ (pos : Nat) (d : Int), pos ≤ T.size ∧ o = .int .i32 d ∧ Hid (wr.heap[w.heap.size]? = some (.stringIter T pos)) ∧ Hid (Keeps w wr) ∧ Hid (lastR (T.data.toList.drop pos) d = lastR T.data.toList 0)) (fun _ wr => T.size - wr.iterPos w.heap.size)
  case atStart => exact ⟨0, 0, Nat.zero_le _, rfl, Lib.hid (World.iter_heap w T 0), Lib.hid ((Keeps.refl w).iter T 0), Lib.hid rfl⟩
  case round =>
    obtain ⟨pos, d, hp, rfl, HI, HK, HA⟩ := hrel
    by_cases c : pos < T.size
    · obtain ⟨r, n, hst, hnx⟩ := next_at (P := Tryz.prog) HI.out c
      have h0 := hst.low
      have h1 := hst.high
      have hn1 := hst.one
      have hroom : pos + n ≤ T.size := by have := hst.room; have := hTl.out; omega
      have HI2 := Lib.hid (iterAt_heap wr w.heap.size T pos (pos + n) HI.out)
      have HK2 := Lib.hid (HK.out.iterAt (Nat.le_refl _) T (pos + n))
      have HN : Hid (lastR (T.data.toList.drop (pos + n)) r = lastR T.data.toList 0) := Lib.hid (by rw [← HA.out, lastR_next (by rw [hTl.out]; exact c) hst.dec h0 d])
      have P1 := Lib.hid (pos_at HI.out)
      clear hst
      go_wp2_with fail
      go_roundw
      case rel => exact ⟨pos + n, r, hroom, rfl, HI2, HK2, HN⟩
      case measure => rw [P1.out, pos_at HI2.out]; omega
    · have hit := HI.out
      have hnx : ∀ ty, (Instr.next (.pointer (some ⟨w.heap.size, 0, none⟩)) true ty).run Tryz.prog wr = _ := fun ty => run_next_end_at wr w.heap.size T pos ty hit c
      clear hit
      have HD : Hid (d = befL s.data.toList (k : Nat)) := Lib.hid (by
        rw [HE.out, ← HA.out, List.drop_eq_nil_of_le (by have := hTl.out; omega), lastR_nil])
      go_wp2_with fail
      go_ret
      exact ⟨by rw [← HD.out]; rfl, HK.out⟩

set_option maxHeartbeats 2000000 in
set_option maxRecDepth 100000 in
theorem before_hi (s : ByteArray) (k : Nat) (w : World) (hs : s.size ≤ 100000) (hk : k ≤ s.size) (h4 : 4 ≤ k) :
    Calls Tryz.prog 38 #[.string s, .int .i64 (k : Nat)] w fun e w' => e = .returned (.int .i32 (befL s.data.toList (k : Nat))) ∧ Keeps w w' := by
  have hl := Lib.hid (bytes_len s)
  obtain ⟨m, hm⟩ : ∃ m : Nat, m = ((k : Int) - 4).toNat := ⟨_, rfl⟩
  obtain ⟨T, hT⟩ : ∃ T, s.extract ((k : Int) - 4).toNat k = T := ⟨_, rfl⟩
  have HTL : Hid (T.data.toList = (s.data.toList.drop m).take (k - m)) := Lib.hid (by rw [← hT, Lib.extract_data, ← hm])
  have HE : Hid (befL s.data.toList (k : Nat) = lastR T.data.toList 0) := Lib.hid (by
    unfold befL
    rw [if_neg (by rw [hl.out]; omega), Int.toNat_natCast, HTL.out]
    rw [lastR_four _ _ (Nat.le_refl _), List.length_take, hl.out, Nat.min_eq_left hk, show m = k - 4 by omega, List.drop_take])
  have hT1 : T.size ≤ 100000 := by rw [← bytes_len, HTL.out]; simp only [List.length_drop, List.length_take]; have := hl.out; omega
  have hTl := Lib.hid (bytes_len T)
  clear HTL hm
  go_enter Tryz.func38, Tryz.ntmps38
  go_wp2_with fail
  go_loopw [5] (fun o wr => ∃ (pos : Nat) (d : Int), pos ≤ T.size ∧ o = .int .i32 d ∧ Hid (wr.heap[w.heap.size]? = some (.stringIter T pos)) ∧ Hid (Keeps w wr) ∧ Hid (lastR (T.data.toList.drop pos) d = lastR T.data.toList 0)) (fun _ wr => T.size - wr.iterPos w.heap.size)
  case atStart => exact ⟨0, 0, Nat.zero_le _, rfl, Lib.hid (World.iter_heap w T 0), Lib.hid ((Keeps.refl w).iter T 0), Lib.hid rfl⟩
  case round =>
    obtain ⟨pos, d, hp, rfl, HI, HK, HA⟩ := hrel
    by_cases c : pos < T.size
    · obtain ⟨r, n, hst, hnx⟩ := next_at (P := Tryz.prog) HI.out c
      have h0 := hst.low
      have h1 := hst.high
      have hn1 := hst.one
      have hroom : pos + n ≤ T.size := by have := hst.room; have := hTl.out; omega
      have HI2 := Lib.hid (iterAt_heap wr w.heap.size T pos (pos + n) HI.out)
      have HK2 := Lib.hid (HK.out.iterAt (Nat.le_refl _) T (pos + n))
      have HN : Hid (lastR (T.data.toList.drop (pos + n)) r = lastR T.data.toList 0) := Lib.hid (by rw [← HA.out, lastR_next (by rw [hTl.out]; exact c) hst.dec h0 d])
      have P1 := Lib.hid (pos_at HI.out)
      clear hst
      go_wp2_with fail
      go_roundw
      case rel => exact ⟨pos + n, r, hroom, rfl, HI2, HK2, HN⟩
      case measure => rw [P1.out, pos_at HI2.out]; omega
    · have hit := HI.out
      have hnx : ∀ ty, (Instr.next (.pointer (some ⟨w.heap.size, 0, none⟩)) true ty).run Tryz.prog wr = _ := fun ty => run_next_end_at wr w.heap.size T pos ty hit c
      clear hit
      have HD : Hid (d = befL s.data.toList (k : Nat)) := Lib.hid (by
        rw [HE.out, ← HA.out, List.drop_eq_nil_of_le (by have := hTl.out; omega), lastR_nil])
      go_wp2_with fail
      go_ret
      exact ⟨by rw [← HD.out]; rfl, HK.out⟩
set_option maxRecDepth 100000 in
theorem before_out (s : ByteArray) (k : Int) (w : World) (hs : s.size ≤ 100000) (hk : k < 0 ∨ (s.size : Int) < k) :
    Calls Tryz.prog 38 #[.string s, .int .i64 k] w fun e w' => e = .returned (.int .i32 (befL s.data.toList k)) ∧ Keeps w w' := by
  have e1 : befL s.data.toList k = 0 := by unfold befL; rw [if_pos (by rw [bytes_len]; exact hk)]
  rw [e1]
  clear e1
  rcases hk with hk | hk
  all_goals
    go_enter Tryz.func38, Tryz.ntmps38
    go_wp2_with fail
    go_ret
    exact ⟨rfl, Keeps.refl _⟩
theorem before_any (s : ByteArray) (k : Int) (w : World) (hs : s.size ≤ 100000) :
    Calls Tryz.prog 38 #[.string s, .int .i64 k] w fun e w' => e = .returned (.int .i32 (befL s.data.toList k)) ∧ Keeps w w' := by
  by_cases hk : k < 0 ∨ (s.size : Int) < k
  · exact before_out s k w hs hk
  · obtain ⟨m, rfl⟩ : ∃ m : Nat, k = (m : Int) := ⟨k.toNat, by omega⟩
    by_cases h4 : m < 4
    · exact before_lo s m w hs (by omega) h4
    · exact before_hi s m w hs (by omega) (by omega)

set_option maxHeartbeats 2000000 in
set_option maxRecDepth 100000 in
theorem after_in (s : ByteArray) (k : Nat) (w : World) (hs : s.size ≤ 100000) (hk : k ≤ s.size) :
    Calls Tryz.prog 39 #[.string s, .int .i64 (k : Nat)] w fun e w' => e = .returned (.int .i32 (aftL s.data.toList (k : Nat))) ∧ Keeps w w' := by
  have hl := Lib.hid (bytes_len s)
  obtain ⟨T, hT⟩ : ∃ T, s.extract k s.size = T := ⟨_, rfl⟩
  have HTL : Hid (T.data.toList = s.data.toList.drop k) := Lib.hid (by rw [← hT, Lib.extract_to_end])
  have HE : Hid (aftL s.data.toList (k : Nat) = if T.data.toList = [] then 0 else ((decodeL T.data.toList).1 : Int)) := Lib.hid (by
    unfold aftL
    rw [if_neg (by rw [hl.out]; omega), Int.toNat_natCast, HTL.out])
  have hT1 : T.size ≤ 100000 := by rw [← bytes_len, HTL.out]; simp only [List.length_drop]; have := hl.out; omega
  have hTl := Lib.hid (bytes_len T)
  clear HTL
  go_enter Tryz.func39, Tryz.ntmps39
  go_wp2_with fail
  go_loopw [] (fun wr => Hid (wr = w.iter T 0)) (fun wr => 0)
  case atStart => exact Lib.hid rfl
  case round =>
    have HI : Hid (wr.heap[w.heap.size]? = some (.stringIter T 0)) := Lib.hid (by rw [hrel.out]; exact World.iter_heap w T 0)
    have HK : Hid (Keeps w wr) := Lib.hid (by rw [hrel.out]; exact (Keeps.refl w).iter T 0)
    by_cases c : 0 < T.size
    · obtain ⟨r, n, hst, hnx⟩ := next_at (P := Tryz.prog) HI.out c
      have h0 := hst.low
      have h1 := hst.high
      have HR : Hid (aftL s.data.toList (k : Nat) = r) := Lib.hid (by
        have hd := hst.dec
        rw [List.drop_zero] at hd
        rw [HE.out, if_neg (fun e => by have := hTl.out; rw [e] at this; simp at this; omega), hd]
        dsimp only
        omega)
      have HK2 := Lib.hid (HK.out.iterAt (Nat.le_refl _) T n)
      clear hst
      go_wp2_with fail
      go_ret
      exact ⟨by rw [HR.out]; rfl, HK2.out⟩
    · have hit := HI.out
      have hnx : ∀ ty, (Instr.next (.pointer (some ⟨w.heap.size, 0, none⟩)) true ty).run Tryz.prog wr = _ := fun ty => run_next_end_at wr w.heap.size T 0 ty hit c
      clear hit
      have HR : Hid (aftL s.data.toList (k : Nat) = 0) := Lib.hid (by
        rw [HE.out, if_pos (List.eq_nil_of_length_eq_zero (by rw [hTl.out]; omega))])
      go_wp2_with fail
      go_ret
      exact ⟨by rw [HR.out]; rfl, HK.out⟩
set_option maxRecDepth 100000 in
theorem after_out (s : ByteArray) (k : Int) (w : World) (hs : s.size ≤ 100000) (hk : k < 0 ∨ (s.size : Int) < k) :
    Calls Tryz.prog 39 #[.string s, .int .i64 k] w fun e w' => e = .returned (.int .i32 (aftL s.data.toList k)) ∧ Keeps w w' := by
  have e1 : aftL s.data.toList k = 0 := by unfold aftL; rw [if_pos (by rw [bytes_len]; exact hk)]
  rw [e1]
  clear e1
  rcases hk with hk | hk
  all_goals
    go_enter Tryz.func39, Tryz.ntmps39
    go_wp2_with fail
    go_ret
    exact ⟨rfl, Keeps.refl _⟩
theorem after_any (s : ByteArray) (k : Int) (w : World) (hs : s.size ≤ 100000) :
    Calls Tryz.prog 39 #[.string s, .int .i64 k] w fun e w' => e = .returned (.int .i32 (aftL s.data.toList k)) ∧ Keeps w w' := by
  by_cases hk : k < 0 ∨ (s.size : Int) < k
  · exact after_out s k w hs hk
  · obtain ⟨m, rfl⟩ : ∃ m : Nat, k = (m : Int) := ⟨k.toNat, by omega⟩
    exact after_in s m w hs (by omega)

end Go.Proofs.YtklmgbkkjmfhcaaGreatDoor


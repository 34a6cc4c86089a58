/-
  Texts of the proof, one behind the other: Bas, Wlk.
-/
import Derived.Test.YtfnkokfkhjdkfaaDoorChecked
import Derived.WalkKit
import Derived.WalkSpells
import Derived.WalkLawsBesides
import Derived.IntWalk
import Derived.Lib.Hide
import Derived.BigQuiet
import Derived.Deep.QuietTactic
import Derived.Deep.Draws
import Derived.Below
import Derived.Lib.Strings
import Derived.Lib.IndexBytes
import Derived.Test.YtfnkokfkhjdkfaaDoorM2
import Derived.Lib.OthersKept
import Derived.Lib.SlBytesConst
/-
  Small helpers of every walk: endings, frames of worlds, texts as lists of bytes.
-/
namespace Go.Proofs.YtfnkokfkhjdkfaaDoor
open Go.RowKit Go.Lib

theorem ret_bool {a b : Bool} (h : a = b) : Ending.returned (.bool a) = .returned (.bool b) := by rw [h]
theorem ret_int {k : IntKind} {a b : Int} (h : a = b) : Ending.returned (.int k a) = .returned (.int k b) := by rw [h]
theorem ret_str {a b : List UInt8} (h : a = b) : Ending.returned (.string ⟨a.toArray⟩) = .returned (.string ⟨b.toArray⟩) := by rw [h]
theorem ret_bytes {a b : ByteArray} (h : a = b) : Ending.returned (.string a) = .returned (.string b) := by rw [h]
theorem ret_two {a b c d : Int} (h : a = b) (k : c = d) : Ending.returned (.tuple #[.int .i64 a, .int .i64 c]) = .returned (.tuple #[.int .i64 b, .int .i64 d]) := by rw [h, k]
theorem bytes_eq {a b : ByteArray} (h : a.data.toList = b.data.toList) : a = b := ByteArray.ext (Array.ext' h)
theorem bytes_mk (s : ByteArray) : (⟨s.data.toList.toArray⟩ : ByteArray) = s := bytes_eq (by simp)
theorem bytes_len (s : ByteArray) : s.data.toList.length = s.size := by simp

theorem bytes_app (a b : ByteArray) : (a ++ b).data.toList = a.data.toList ++ b.data.toList := by simp
/-- A text's head and tail, as lists. -/
theorem ext_take (s : ByteArray) (k : Nat) : s.extract 0 k = ⟨(s.data.toList.take k).toArray⟩ := bytes_eq (by rw [Lib.extract_data, List.drop_zero, Nat.sub_zero])
theorem ext_drop (s : ByteArray) (k : Nat) : s.extract k s.size = ⟨(s.data.toList.drop k).toArray⟩ := bytes_eq (by rw [Lib.extract_to_end])
/-- What a call may do to the world: new blocks, draws; all that was there is as it was. -/
def Keeps (w w' : World) : Prop := Below w.heap.size w w'
theorem Keeps.refl (w : World) : Keeps w w := Below.refl _ _
theorem Keeps.trans {a b c : World} (h : Keeps a b) (k : Keeps b c) : Keeps a c := Below.trans h (Below.mono k h.size)
theorem Keeps.drewN {a b : World} (h : Keeps a b) (n : Nat) : Keeps a (b.drewN n) := ⟨h.os, h.tape, h.output, h.size, h.block⟩
theorem Keeps.drew {a b : World} (h : Keeps a b) : Keeps a b.drew := ⟨h.os, h.tape, h.output, h.size, h.block⟩
theorem Keeps.alloc {a b : World} (h : Keeps a b) (o : Obj) : Keeps a (b.alloc o) := Below.alloc h h.size o
theorem drop_cons (l : List UInt8) (p : Nat) (h : p < l.length) : l.drop p = l[p] :: l.drop (p + 1) := List.drop_eq_getElem_cons h
/-- string([]byte{b}). -/
theorem one_byte {P : Program} (W : World) (src dst e : TypeId) (c : UInt8) (n : Int) (hn : n = (c.toNat : Int)) (hs : P.underlying src = some (.slice e)) (he : P.underlying e = some (.int .u8)) (hd : P.underlying dst = some .string) :
    (convert src dst (.slice (some ⟨W.heap.size, 0, none⟩) 1 1)).run P (W.alloc (.cells #[.int .u8 n] e)) = .ok (.string ⟨#[c]⟩) (W.alloc (.cells #[.int .u8 n] e)) := by
  subst hn
  refine run_convert_bytes_back _ src dst e ⟨W.heap.size, 0, none⟩ 1 [c] hs he hd (fun j hj => ?_)
  have : j = 0 := by simpa using hj
  subst this
  simp [Addr.add, World.cell?_alloc_new]
theorem tl_empty {t : ByteArray} (h : 0 < t.size) : t.toList.isEmpty = false := by
  rw [Lib.toList_data]
  have := bytes_len t
  cases e : t.data.toList with
  | nil => rw [e] at this; simp at this; omega
  | cons a b => rfl
theorem tl_ne {t : ByteArray} (h : 0 < t.size) : ¬ t.toList = [] := fun e => by have := tl_empty h; rw [e] at this; cases this
/-- A contract that leaves the world alone, wherever a quiet region calls it. -/
theorem quiet_in {P : Program} {f : FuncId} {args : Array Value} {W : World} {v : Value} {R : World → Prop} (h : Calls P f args W fun e w' => e = .returned v ∧ W = w') (hw : R W) :
    Calls P f args W fun e w' => e = .returned v ∧ R w' := h.mono fun _ _ ⟨he, hm⟩ => ⟨he, hm ▸ hw⟩
theorem take_next (s : ByteArray) (k : Nat) (h : k < s.size) : s.data.toList.take (k + 1) = s.data.toList.take k ++ [s[k]] := by
  rw [List.take_succ_eq_append_getElem (by rw [bytes_len]; exact h)]; rfl
end Go.Proofs.YtfnkokfkhjdkfaaDoor

/-
  Helpers of every walk over texts: endings, frames of worlds, a text's iterator.
-/
namespace Go.Proofs.YtfnkokfkhjdkfaaDoor
open Go.RowKit Go.Lib

theorem Keeps.iter {a b : World} (h : Keeps a b) (s : ByteArray) (p : Nat) : Keeps a (b.iter s p) := h.alloc _
theorem Keeps.iterAt {a b : World} (h : Keeps a b) {k : Nat} (hk : a.heap.size ≤ k) (s : ByteArray) (p : Nat) : Keeps a (b.iterAt k s p) := below_iterAt h hk s p

/-- A rune of a text at a place: the number, the bytes that it has. -/
structure Step (l : List UInt8) (pos : Nat) (r : Int) (n : Nat) : Prop where
  one : 1 ≤ n
  room : pos + n ≤ l.length
  low : 0 ≤ r
  high : r ≤ 2147483647
  dec : decodeL (l.drop pos) = (r.toNat, n)
  next : l.take (pos + n) = l.take pos ++ (l.drop pos).take n
  rest : l.drop pos = (l.drop pos).take n ++ l.drop (pos + n)
  kind : (n = 1 ∧ r < 128 ∧ ∃ b, (l.drop pos).take n = [b] ∧ (b.toNat : Int) = r) ∨ (128 ≤ r ∧ ∀ c ∈ (l.drop pos).take n, 128 ≤ c.toNat)

theorem step_at (s : ByteArray) (pos : Nat) (h : pos < s.size) : Step s.data.toList pos ((Utf8.decode s pos).1 : Nat) (Utf8.decode s pos).2 := by
  have hl := bytes_len s
  have e := decodeL_drop s pos
  have hc := chunk _ _ _ (drop_cons s.data.toList pos (by omega))
  have hle := decode_le s pos
  rw [e] at hc
  generalize Utf8.decode s pos = d at *
  obtain ⟨r, n⟩ := d
  dsimp only at *
  have hlen : (s.data.toList.drop pos).length = s.size - pos := by rw [List.length_drop, hl]
  have nx : s.data.toList.take (pos + n) = s.data.toList.take pos ++ (s.data.toList.drop pos).take n := List.take_add
  have rs : s.data.toList.drop pos = (s.data.toList.drop pos).take n ++ s.data.toList.drop (pos + n) := by
    rw [← List.drop_drop, List.take_append_drop]
  rcases hc with ⟨h1, h2⟩ | ⟨h1, h2, h3, h4, h5⟩
  · simp only [Prod.mk.injEq] at h2
    obtain ⟨rfl, rfl⟩ := h2
    refine ⟨Nat.le_refl _, by omega, by omega, by omega, by rw [e]; rfl, nx, rs, .inl ⟨rfl, by omega, s.data.toList[pos], ?_, rfl⟩⟩
    rw [drop_cons s.data.toList pos (by omega)]; rfl
  · exact ⟨h3, by omega, by omega, by omega, by rw [e]; rfl, nx, rs, .inr ⟨by omega, h5⟩⟩
/-- The next rune. -/
theorem next_at {P : Program} {w : World} {k : Nat} {s : ByteArray} {pos : Nat} (hk : w.heap[k]? = some (.stringIter s pos)) (h : pos < s.size) :
    ∃ (r : Int) (n : Nat), Step s.data.toList pos r n ∧ ∀ ty, (Instr.next (.pointer (some ⟨k, 0, none⟩)) true ty).run P w = .ok (.tuple #[.bool true, .int .i64 pos, .int .i32 r]) (w.iterAt k s (pos + n)) :=
  ⟨_, _, step_at s pos h, fun ty => run_next_any_at w k s pos ty hk h⟩
theorem iter_lt {w : World} {k : Nat} {o : Obj} (h : w.heap[k]? = some o) : k < w.heap.size := (Array.getElem?_eq_some_iff.1 h).1
/-- The iterator, moved on. -/
theorem pos_at {w : World} {k : Nat} {s : ByteArray} {p : Nat} (h : w.heap[k]? = some (.stringIter s p)) : w.iterPos k = p := by simp only [World.iterPos, h]

end Go.Proofs.YtfnkokfkhjdkfaaDoor


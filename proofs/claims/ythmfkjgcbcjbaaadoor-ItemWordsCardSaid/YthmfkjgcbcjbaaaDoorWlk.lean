/-
  Helpers of every walk over texts: endings, frames of worlds, a text's iterator.
-/
import Derived.Test.YthmfkjgcbcjbaaaDoorUtf
import Derived.Test.YthmfkjgcbcjbaaaDoorBas
import Derived.Lib.OthersKept
import Derived.Lib.SlBytesConst
namespace Go.Proofs.YthmfkjgcbcjbaaaDoor
open Go.RowKit Go.Lib

theorem Keeps.iter {a b : World} (h : Keeps a b) (s : ByteArray) (p : Nat) : Keeps a (b.iter s p) := h.alloc _
theorem Keeps.iterAt {a b : World} (h : Keeps a b) {k : Nat} (hk : a.heap.size ≤ k) (s : ByteArray) (p : Nat) : Keeps a (b.iterAt k s p) := below_iterAt h hk s p

/-- A rune of a text at a place: the number, the bytes that it has. -/
structure Step (l : List UInt8) (pos : Nat) (r : Int) (n : Nat) : Prop where
  one : 1 ≤ n
  room : pos + n ≤ l.length
  low : 0 ≤ r
  high : r ≤ 2147483647
  dec : decodeL (l.drop pos) = (r.toNat, n)
  next : l.take (pos + n) = l.take pos ++ (l.drop pos).take n
  rest : l.drop pos = (l.drop pos).take n ++ l.drop (pos + n)
  kind : (n = 1 ∧ r < 128 ∧ ∃ b, (l.drop pos).take n = [b] ∧ (b.toNat : Int) = r) ∨ (128 ≤ r ∧ ∀ c ∈ (l.drop pos).take n, 128 ≤ c.toNat)

theorem step_at (s : ByteArray) (pos : Nat) (h : pos < s.size) : Step s.data.toList pos ((Utf8.decode s pos).1 : Nat) (Utf8.decode s pos).2 := by
  have hl := bytes_len s
  have e := decodeL_drop s pos
  have hc := chunk _ _ _ (drop_cons s.data.toList pos (by omega))
  have hle := decode_le s pos
  rw [e] at hc
  generalize Utf8.decode s pos = d at *
  obtain ⟨r, n⟩ := d
  dsimp only at *
  have hlen : (s.data.toList.drop pos).length = s.size - pos := by rw [List.length_drop, hl]
  have nx : s.data.toList.take (pos + n) = s.data.toList.take pos ++ (s.data.toList.drop pos).take n := List.take_add
  have rs : s.data.toList.drop pos = (s.data.toList.drop pos).take n ++ s.data.toList.drop (pos + n) := by
    rw [← List.drop_drop, List.take_append_drop]
  rcases hc with ⟨h1, h2⟩ | ⟨h1, h2, h3, h4, h5⟩
  · simp only [Prod.mk.injEq] at h2
    obtain ⟨rfl, rfl⟩ := h2
    refine ⟨Nat.le_refl _, by omega, by omega, by omega, by rw [e]; rfl, nx, rs, .inl ⟨rfl, by omega, s.data.toList[pos], ?_, rfl⟩⟩
    rw [drop_cons s.data.toList pos (by omega)]; rfl
  · exact ⟨h3, by omega, by omega, by omega, by rw [e]; rfl, nx, rs, .inr ⟨by omega, h5⟩⟩
/-- The next rune. -/
theorem next_at {P : Program} {w : World} {k : Nat} {s : ByteArray} {pos : Nat} (hk : w.heap[k]? = some (.stringIter s pos)) (h : pos < s.size) :
    ∃ (r : Int) (n : Nat), Step s.data.toList pos r n ∧ ∀ ty, (Instr.next (.pointer (some ⟨k, 0, none⟩)) true ty).run P w = .ok (.tuple #[.bool true, .int .i64 pos, .int .i32 r]) (w.iterAt k s (pos + n)) :=
  ⟨_, _, step_at s pos h, fun ty => run_next_any_at w k s pos ty hk h⟩
theorem iter_lt {w : World} {k : Nat} {o : Obj} (h : w.heap[k]? = some o) : k < w.heap.size := (Array.getElem?_eq_some_iff.1 h).1
/-- The iterator, moved on. -/
theorem pos_at {w : World} {k : Nat} {s : ByteArray} {p : Nat} (h : w.heap[k]? = some (.stringIter s p)) : w.iterPos k = p := by simp only [World.iterPos, h]

end Go.Proofs.YthmfkjgcbcjbaaaDoor

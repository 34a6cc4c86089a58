/-
  Texts of the proof, one behind the other: Bas, Wlk, Srcp, Srcb, Srcr, Sgn.
-/
import Derived.Test.YtfgpephpkibbaaaGreatDoorChecked
import Derived.WalkKit
import Derived.WalkSpells
import Derived.WalkLawsBesides
import Derived.IntWalk
import Derived.Lib.Hide
import Derived.BigQuiet
import Derived.Deep.QuietTactic
import Derived.Deep.Draws
import Derived.Below
import Derived.Lib.Strings
import Derived.Lib.IndexBytes
import Derived.Test.YtfgpephpkibbaaaGreatDoorQ2
import Derived.Lib.OthersKept
import Derived.Lib.SlBytesConst
import Derived.Laws.Cover4
import Derived.Laws.IdiomStrings
import Derived.Test.YtfgpephpkibbaaaGreatDoorQ3
/-
  Small helpers of every walk: endings, frames of worlds, texts as lists of bytes.
-/
namespace Go.Proofs.YtfgpephpkibbaaaGreatDoor
open Go.RowKit Go.Lib

theorem ret_bool {a b : Bool} (h : a = b) : Ending.returned (.bool a) = .returned (.bool b) := by rw [h]
theorem ret_int {k : IntKind} {a b : Int} (h : a = b) : Ending.returned (.int k a) = .returned (.int k b) := by rw [h]
theorem ret_str {a b : List UInt8} (h : a = b) : Ending.returned (.string ⟨a.toArray⟩) = .returned (.string ⟨b.toArray⟩) := by rw [h]
theorem ret_bytes {a b : ByteArray} (h : a = b) : Ending.returned (.string a) = .returned (.string b) := by rw [h]
theorem ret_two {a b c d : Int} (h : a = b) (k : c = d) : Ending.returned (.tuple #[.int .i64 a, .int .i64 c]) = .returned (.tuple #[.int .i64 b, .int .i64 d]) := by rw [h, k]
theorem bytes_eq {a b : ByteArray} (h : a.data.toList = b.data.toList) : a = b := ByteArray.ext (Array.ext' h)
theorem bytes_mk (s : ByteArray) : (⟨s.data.toList.toArray⟩ : ByteArray) = s := bytes_eq (by simp)
theorem bytes_len (s : ByteArray) : s.data.toList.length = s.size := by simp

theorem bytes_app (a b : ByteArray) : (a ++ b).data.toList = a.data.toList ++ b.data.toList := by simp
/-- A text's head and tail, as lists. -/
theorem ext_take (s : ByteArray) (k : Nat) : s.extract 0 k = ⟨(s.data.toList.take k).toArray⟩ := bytes_eq (by rw [Lib.extract_data, List.drop_zero, Nat.sub_zero])
theorem ext_drop (s : ByteArray) (k : Nat) : s.extract k s.size = ⟨(s.data.toList.drop k).toArray⟩ := bytes_eq (by rw [Lib.extract_to_end])
/-- What a call may do to the world: new blocks, draws; all that was there is as it was. -/
def Keeps (w w' : World) : Prop := Below w.heap.size w w'
theorem Keeps.refl (w : World) : Keeps w w := Below.refl _ _
theorem Keeps.trans {a b c : World} (h : Keeps a b) (k : Keeps b c) : Keeps a c := Below.trans h (Below.mono k h.size)
theorem Keeps.drewN {a b : World} (h : Keeps a b) (n : Nat) : Keeps a (b.drewN n) := ⟨h.os, h.tape, h.output, h.size, h.block⟩
theorem Keeps.drew {a b : World} (h : Keeps a b) : Keeps a b.drew := ⟨h.os, h.tape, h.output, h.size, h.block⟩
theorem Keeps.alloc {a b : World} (h : Keeps a b) (o : Obj) : Keeps a (b.alloc o) := Below.alloc h h.size o
theorem drop_cons (l : List UInt8) (p : Nat) (h : p < l.length) : l.drop p = l[p] :: l.drop (p + 1) := List.drop_eq_getElem_cons h
/-- string([]byte{b}). -/
theorem one_byte {P : Program} (W : World) (src dst e : TypeId) (c : UInt8) (n : Int) (hn : n = (c.toNat : Int)) (hs : P.underlying src = some (.slice e)) (he : P.underlying e = some (.int .u8)) (hd : P.underlying dst = some .string) :
    (convert src dst (.slice (some ⟨W.heap.size, 0, none⟩) 1 1)).run P (W.alloc (.cells #[.int .u8 n] e)) = .ok (.string ⟨#[c]⟩) (W.alloc (.cells #[.int .u8 n] e)) := by
  subst hn
  refine run_convert_bytes_back _ src dst e ⟨W.heap.size, 0, none⟩ 1 [c] hs he hd (fun j hj => ?_)
  have : j = 0 := by simpa using hj
  subst this
  simp [Addr.add, World.cell?_alloc_new]
theorem tl_empty {t : ByteArray} (h : 0 < t.size) : t.toList.isEmpty = false := by
  rw [Lib.toList_data]
  have := bytes_len t
  cases e : t.data.toList with
  | nil => rw [e] at this; simp at this; omega
  | cons a b => rfl
theorem tl_ne {t : ByteArray} (h : 0 < t.size) : ¬ t.toList = [] := fun e => by have := tl_empty h; rw [e] at this; cases this
/-- A contract that leaves the world alone, wherever a quiet region calls it. -/
theorem quiet_in {P : Program} {f : FuncId} {args : Array Value} {W : World} {v : Value} {R : World → Prop} (h : Calls P f args W fun e w' => e = .returned v ∧ W = w') (hw : R W) :
    Calls P f args W fun e w' => e = .returned v ∧ R w' := h.mono fun _ _ ⟨he, hm⟩ => ⟨he, hm ▸ hw⟩
theorem take_next (s : ByteArray) (k : Nat) (h : k < s.size) : s.data.toList.take (k + 1) = s.data.toList.take k ++ [s[k]] := by
  rw [List.take_succ_eq_append_getElem (by rw [bytes_len]; exact h)]; rfl
end Go.Proofs.YtfgpephpkibbaaaGreatDoor

/-
  Helpers of every walk over texts: endings, frames of worlds, a text's iterator.
-/
namespace Go.Proofs.YtfgpephpkibbaaaGreatDoor
open Go.RowKit Go.Lib

theorem Keeps.iter {a b : World} (h : Keeps a b) (s : ByteArray) (p : Nat) : Keeps a (b.iter s p) := h.alloc _
theorem Keeps.iterAt {a b : World} (h : Keeps a b) {k : Nat} (hk : a.heap.size ≤ k) (s : ByteArray) (p : Nat) : Keeps a (b.iterAt k s p) := below_iterAt h hk s p

/-- A rune of a text at a place: the number, the bytes that it has. -/
structure Step (l : List UInt8) (pos : Nat) (r : Int) (n : Nat) : Prop where
  one : 1 ≤ n
  room : pos + n ≤ l.length
  low : 0 ≤ r
  high : r ≤ 2147483647
  dec : decodeL (l.drop pos) = (r.toNat, n)
  next : l.take (pos + n) = l.take pos ++ (l.drop pos).take n
  rest : l.drop pos = (l.drop pos).take n ++ l.drop (pos + n)
  kind : (n = 1 ∧ r < 128 ∧ ∃ b, (l.drop pos).take n = [b] ∧ (b.toNat : Int) = r) ∨ (128 ≤ r ∧ ∀ c ∈ (l.drop pos).take n, 128 ≤ c.toNat)

theorem step_at (s : ByteArray) (pos : Nat) (h : pos < s.size) : Step s.data.toList pos ((Utf8.decode s pos).1 : Nat) (Utf8.decode s pos).2 := by
  have hl := bytes_len s
  have e := decodeL_drop s pos
  have hc := chunk _ _ _ (drop_cons s.data.toList pos (by omega))
  have hle := decode_le s pos
  rw [e] at hc
  generalize Utf8.decode s pos = d at *
  obtain ⟨r, n⟩ := d
  dsimp only at *
  have hlen : (s.data.toList.drop pos).length = s.size - pos := by rw [List.length_drop, hl]
  have nx : s.data.toList.take (pos + n) = s.data.toList.take pos ++ (s.data.toList.drop pos).take n := List.take_add
  have rs : s.data.toList.drop pos = (s.data.toList.drop pos).take n ++ s.data.toList.drop (pos + n) := by
    rw [← List.drop_drop, List.take_append_drop]
  rcases hc with ⟨h1, h2⟩ | ⟨h1, h2, h3, h4, h5⟩
  · simp only [Prod.mk.injEq] at h2
    obtain ⟨rfl, rfl⟩ := h2
    refine ⟨Nat.le_refl _, by omega, by omega, by omega, by rw [e]; rfl, nx, rs, .inl ⟨rfl, by omega, s.data.toList[pos], ?_, rfl⟩⟩
    rw [drop_cons s.data.toList pos (by omega)]; rfl
  · exact ⟨h3, by omega, by omega, by omega, by rw [e]; rfl, nx, rs, .inr ⟨by omega, h5⟩⟩
/-- The next rune. -/
theorem next_at {P : Program} {w : World} {k : Nat} {s : ByteArray} {pos : Nat} (hk : w.heap[k]? = some (.stringIter s pos)) (h : pos < s.size) :
    ∃ (r : Int) (n : Nat), Step s.data.toList pos r n ∧ ∀ ty, (Instr.next (.pointer (some ⟨k, 0, none⟩)) true ty).run P w = .ok (.tuple #[.bool true, .int .i64 pos, .int .i32 r]) (w.iterAt k s (pos + n)) :=
  ⟨_, _, step_at s pos h, fun ty => run_next_any_at w k s pos ty hk h⟩
theorem iter_lt {w : World} {k : Nat} {o : Obj} (h : w.heap[k]? = some o) : k < w.heap.size := (Array.getElem?_eq_some_iff.1 h).1
/-- The iterator, moved on. -/
theorem pos_at {w : World} {k : Nat} {s : ByteArray} {p : Nat} (h : w.heap[k]? = some (.stringIter s p)) : w.iterPos k = p := by simp only [World.iterPos, h]

end Go.Proofs.YtfgpephpkibbaaaGreatDoor

/-
  Blanks, as layer 3 asks for them.
-/
namespace Go.Proofs.YtfgpephpkibbaaaGreatDoor
open Go.RowKit Go.Lib

def bl (r : Int) : Bool := decide (r = 32) || decide (r = 9)
theorem bl_of {l : List UInt8} {pos n : Nat} {r : Int} (h : Step l pos r n) : (bl r = true ∧ ∃ b, (l.drop pos).take n = [b] ∧ isB b = true) ∨ (bl r = false ∧ ∃ b ∈ (l.drop pos).take n, isB b = false) := by
  rcases h.kind with ⟨rfl, h2, b, h3, h4⟩ | ⟨h2, h3⟩
  · have e : bl r = isB b := by
      unfold bl isB
      rw [← h4]
      congr 1 <;> (rw [Bool.eq_iff_iff]; simp only [decide_eq_true_eq]; omega)
    cases hb : isB b with
    | true => exact .inl ⟨e.trans hb, b, h3, hb⟩
    | false => exact .inr ⟨e.trans hb, b, by rw [h3]; simp, hb⟩
  · refine .inr ⟨?_, ?_⟩
    · unfold bl; rw [decide_eq_false (by omega), decide_eq_false (by omega)]; rfl
    · have hlen : ((l.drop pos).take n).length = n := by rw [List.length_take, List.length_drop]; have := h.room; omega
      have h1 := h.one
      cases hc : (l.drop pos).take n with
      | nil => rw [hc] at hlen; simp at hlen; omega
      | cons b t => exact ⟨b, List.mem_cons_self .., isB_big (h3 b (by rw [hc]; exact List.mem_cons_self ..))⟩

theorem isBlank_yes (r : Int) (w : World) (h : bl r = true) :
    Calls Tryz.prog 127 #[.int .i32 r] w fun e w' => e = .returned (.bool true) ∧ w = w' := by
  unfold bl at h
  by_cases c : r = 32
  · subst c
    clear h
    go_enter Tryz.func127, Tryz.ntmps127
    go_wp2
    go_ret
    exact ⟨rfl, rfl⟩
  · have c2 : r = 9 := by simpa [c] using h
    subst c2
    clear h c
    go_enter Tryz.func127, Tryz.ntmps127
    go_wp2
    go_ret
    exact ⟨rfl, rfl⟩
theorem isBlank_no (r : Int) (w : World) (h : bl r = false) :
    Calls Tryz.prog 127 #[.int .i32 r] w fun e w' => e = .returned (.bool false) ∧ w = w' := by
  have c1 : (r == 32) = false := by
    unfold bl at h
    simpa using (Bool.or_eq_false_iff.1 h).1
  have c2 : (r == 9) = false := by
    unfold bl at h
    simpa using (Bool.or_eq_false_iff.1 h).2
  clear h
  go_enter Tryz.func127, Tryz.ntmps127
  go_wp2
  go_ret
  exact ⟨rfl, rfl⟩
end Go.Proofs.YtfgpephpkibbaaaGreatDoor

/-
  Contract of Blank, of the package.
-/
namespace Go.Proofs.YtfgpephpkibbaaaGreatDoor
open Go.RowKit Go.Lib

set_option maxHeartbeats 400000 in
theorem blank_any (s : ByteArray) (w : World) :
    Calls Tryz.prog 107 #[.string s] w fun e w' => e = .returned (.bool (blankL s.data.toList)) ∧ Keeps w w' := by
  have hl := Lib.hid (bytes_len s)
  go_enter Tryz.func107, Tryz.ntmps107
  go_wp2
  go_loopw [] (fun wr => ∃ pos : Nat, pos ≤ s.size ∧ blankL (s.data.toList.take pos) = true ∧ wr.heap[w.heap.size]? = some (.stringIter s pos) ∧ Keeps w wr) (fun wr => s.size - wr.iterPos w.heap.size)
  case atStart => exact ⟨0, Nat.zero_le _, rfl, World.iter_heap w s 0, (Keeps.refl w).iter s 0⟩
  case round =>
    obtain ⟨pos, hp, hb, hit, hk⟩ := hrel
    have HB := Lib.hid hb
    clear hb
    by_cases c : pos < s.size
    · obtain ⟨r, n, hst, hnx⟩ := next_at (P := Tryz.prog) hit c
      have h0 := hst.low
      have h1 := hst.high
      have hit2 := iterAt_heap wr w.heap.size s pos (pos + n) hit
      have hk2 := hk.iterAt (Nat.le_refl _) s (pos + n)
      have hpos := Lib.hid (pos_at hit)
      have hpos2 := Lib.hid (pos_at hit2)
      have HS := Lib.hid hst
      rcases bl_of hst with ⟨e1, b, e2, e3⟩ | ⟨e1, b, e2, e3⟩
      · have IB := Lib.hid (fun W => isBlank_yes r W e1)
        have HN : Hid (blankL (s.data.toList.take (pos + n)) = true) := by
          have : blankL (s.data.toList.take (pos + n)) = true := by rw [hst.next, e2, blank_snoc, HB.out, e3]; rfl
          exact Lib.hid this
        have HI := Lib.hid hit2
        clear e1 e2 e3 hst hit hit2
        go_wp2_with fail
        refine (IB.out _).mono ?_
        rintro e w1 ⟨rfl, rfl⟩
        go_wp2_with fail
        go_roundw
        case rel => exact ⟨pos + n, by have := HS.out.room; have := hl.out; omega, HN.out, HI.out, hk2⟩
        case measure => rw [hpos.out, hpos2.out]; have := HS.out.one; omega
      · have IB := Lib.hid (fun W => isBlank_no r W e1)
        have HN : Hid (blankL s.data.toList = false) := by
          have : blankL s.data.toList = false := blank_no (b := b) (List.mem_of_mem_drop (List.mem_of_mem_take e2)) e3
          exact Lib.hid this
        clear e1 e2 e3 hst hit hit2 hpos hpos2
        go_wp2_with fail
        refine (IB.out _).mono ?_
        rintro e w1 ⟨rfl, rfl⟩
        go_wp2_with fail
        go_ret
        exact ⟨ret_bool HN.out.symm, hk2⟩
    · have hnx : ∀ ty, (Instr.next (.pointer (some ⟨w.heap.size, 0, none⟩)) true ty).run Tryz.prog wr = _ := fun ty => run_next_end_at wr w.heap.size s pos ty hit c
      have HN : Hid (blankL s.data.toList = true) := by
        have e := HB.out
        rw [List.take_of_length_le (by have := hl.out; omega)] at e
        exact Lib.hid e
      clear hit
      go_wp2_with fail
      go_ret
      exact ⟨ret_bool HN.out.symm, hk⟩
end Go.Proofs.YtfgpephpkibbaaaGreatDoor

/-
  Runes there and back: []rune(s), string(runes), where each rune may be written.
-/
namespace Go.Proofs.YtfgpephpkibbaaaGreatDoor
open Go.RowKit Go.Lib

theorem enc_eq (r : Int) (h : okR r) : (Utf8.encode r).data.toList = encodeRune r := by
  unfold okR at h
  have hv : Utf8.valid r = true := by
    unfold Utf8.valid
    rcases h with ⟨h1, h2⟩ | ⟨h1, h2⟩
    · rw [decide_eq_true (by omega : (0 : Int) ≤ r), decide_eq_true (by omega : r < 55296)]; rfl
    · rw [decide_eq_true (by omega : (57344 : Int) ≤ r), decide_eq_true (by omega : r ≤ 1114111)]; simp
  have e : ∀ (n : Nat) (x : Int), x.toNat = n → (UInt8.ofNat n : UInt8) = x.toNat.toUInt8 := fun n x h => by rw [h]
  unfold Utf8.encode
  simp only [hv, if_true]
  unfold encodeRune
  by_cases c1 : r ≤ 127
  · rw [if_pos (by omega), encodeRuneZ_one (by omega) c1]
    rfl
  · rw [if_neg (by omega)]
    by_cases c2 : r ≤ 2047
    · rw [if_pos (by omega), encodeRuneZ_two (by omega) c2]
      simp only [List.map_cons, List.map_nil]
      rw [e _ (192 + r / 64) (by omega), e _ (128 + r % 64) (by omega)]
    · rw [if_neg (by omega)]
      by_cases c3 : r ≤ 65535
      · rw [if_pos (by omega), encodeRuneZ_three (by omega)]
        simp only [List.map_cons, List.map_nil]
        rw [e _ (224 + r / 4096) (by omega), e _ (128 + r / 64 % 64) (by omega), e _ (128 + r % 64) (by omega)]
      · rw [if_neg (by omega), encodeRuneZ_four (by omega) (by omega)]
        simp only [List.map_cons, List.map_nil]
        rw [e _ (240 + r / 262144) (by omega), e _ (128 + r / 4096 % 64) (by omega), e _ (128 + r / 64 % 64) (by omega), e _ (128 + r % 64) (by omega)]
theorem fold_bytes : ∀ (rs : List Int) (a : ByteArray), (∀ r ∈ rs, okR r) → (rs.foldl (fun r n => r ++ Utf8.encode n) a).data.toList = a.data.toList ++ bytesR rs
  | [], a, _ => by simp [bytesR]
  | r :: rs, a, h => by
    rw [List.foldl_cons, fold_bytes rs _ (fun x hx => h x (List.mem_cons_of_mem _ hx)), bytesR_cons, ← enc_eq r (h r (List.mem_cons_self ..))]
    simp
theorem runesBytes_eq (rs : List Int) (h : ∀ r ∈ rs, okR r) : runesBytes rs = ⟨(bytesR rs).toArray⟩ := bytes_eq (by
  unfold runesBytes
  rw [fold_bytes rs _ h]
  rfl)
theorem runesFrom_eq (s : ByteArray) : ∀ (rs : List Int) (n i : Nat) (acc : Array Value), s.data.toList.drop i = bytesR rs → (∀ r ∈ rs, okR r) → rs.length ≤ n →
    (Conv.runesFrom s n i acc).toList = acc.toList ++ rs.map (Value.int .i32)
  | [], n, i, acc, h, _, _ => by
    have hi : ¬ i < s.size := by
      have := congrArg List.length h
      rw [List.length_drop, bytes_len] at this
      simp [bytesR] at this
      omega
    cases n with
    | zero => simp [Conv.runesFrom]
    | succ n => simp [Conv.runesFrom, hi]
  | r :: rs, n, i, acc, h, hr, hn => by
    obtain ⟨m, rfl⟩ : ∃ m, n = m + 1 := ⟨n - 1, by simp at hn; omega⟩
    have ho := hr r (List.mem_cons_self ..)
    have hd := dec_enc r ho (bytesR rs)
    rw [bytesR_cons] at h
    rw [← h, decodeL_drop] at hd
    have hi : i < s.size := by
      have h1 := congrArg List.length h
      have h2 := enc_len r
      rw [List.length_drop, bytes_len, List.length_append] at h1
      omega
    have hnext : s.data.toList.drop (i + (encodeRune r).length) = bytesR rs := by
      rw [← List.drop_drop, h, List.drop_left]
    have hc : Int.ofNat r.toNat = r := by unfold okR at ho; show ((r.toNat : Nat) : Int) = r; omega
    unfold Conv.runesFrom
    rw [if_pos hi, hd]
    dsimp only
    rw [hc, runesFrom_eq s rs m _ _ hnext (fun x hx => hr x (List.mem_cons_of_mem _ hx)) (by simp at hn; omega)]
    simp
theorem bytesR_len : ∀ rs : List Int, rs.length ≤ (bytesR rs).length
  | [] => Nat.le_refl _
  | r :: rs => by
    have h1 := enc_len r
    have h2 := bytesR_len rs
    rw [bytesR_cons, List.length_append, List.length_cons]; omega
/-- []rune(s) of a text of runes. -/
theorem runes_of (s : ByteArray) (rs : List Int) (h : s.data.toList = bytesR rs) (hr : ∀ r ∈ rs, okR r) : Conv.runesFrom s s.size 0 #[] = (rs.map (Value.int .i32)).toArray := by
  have := runesFrom_eq s rs s.size 0 #[] (by simpa using h) hr (by have h1 := bytesR_len rs; rw [← h, bytes_len] at h1; exact h1)
  apply Array.ext'
  simpa using this
end Go.Proofs.YtfgpephpkibbaaaGreatDoor

/-
  Contract of Sign, of the package named.
-/
namespace Go.Proofs.YtfgpephpkibbaaaGreatDoor
open Go.RowKit Go.Lib

set_option maxRecDepth 100000 in
theorem sign_go (x : Int) (w : World) (h0 : 0 ≤ x) (h1 : x < 256) :
    Calls Tryz.prog 161 #[.int .u8 x] w fun e w' => e = .returned (.bool (decide ((33 ≤ x ∧ x ≤ 47) ∨ (58 ≤ x ∧ x ≤ 64) ∨ (91 ≤ x ∧ x ≤ 96) ∨ (123 ≤ x ∧ x ≤ 126)))) ∧ w = w' := by
  have hw : ((33 ≤ x ∧ x ≤ 47) ∨ (58 ≤ x ∧ x ≤ 64) ∨ (91 ≤ x ∧ x ≤ 96) ∨ (123 ≤ x ∧ x ≤ 126)) ∨ (x < 33 ∨ (47 < x ∧ x < 58) ∨ (64 < x ∧ x < 91) ∨ (96 < x ∧ x < 123) ∨ 126 < x) := by omega
  rcases hw with hw | hw
  · rw [decide_eq_true hw]
    rcases hw with ⟨a, b⟩ | ⟨a, b⟩ | ⟨a, b⟩ | ⟨a, b⟩
    all_goals
      go_enter Tryz.func161, Tryz.ntmps161
      go_wp2
      go_ret
      exact ⟨rfl, rfl⟩
  · rw [decide_eq_false (by omega)]
    rcases hw with a | ⟨a, b⟩ | ⟨a, b⟩ | ⟨a, b⟩ | a
    all_goals
      go_enter Tryz.func161, Tryz.ntmps161
      go_wp2
      go_ret
      exact ⟨rfl, rfl⟩
theorem signB_int (b : UInt8) : signB b = decide ((33 ≤ (b.toNat : Int) ∧ (b.toNat : Int) ≤ 47) ∨ (58 ≤ (b.toNat : Int) ∧ (b.toNat : Int) ≤ 64) ∨ (91 ≤ (b.toNat : Int) ∧ (b.toNat : Int) ≤ 96) ∨ (123 ≤ (b.toNat : Int) ∧ (b.toNat : Int) ≤ 126)) := by
  unfold signB
  rw [Bool.eq_iff_iff]
  simp only [Bool.or_eq_true, Bool.and_eq_true, decide_eq_true_eq]
  omega
theorem sign_any (b : UInt8) (w : World) :
    Calls Tryz.prog 161 #[.int .u8 (b.toNat : Nat)] w fun e w' => e = .returned (.bool (signB b)) ∧ w = w' := by
  have hb := b.toNat_lt
  rw [signB_int]
  exact sign_go _ w (by omega) (by omega)
end Go.Proofs.YtfgpephpkibbaaaGreatDoor


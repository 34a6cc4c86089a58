/-
  MarkLists returns true of any number, sign and text.
-/
import Derived.Test.YtjfhbfnagcjdmaaDoorMun
namespace Go.Proofs.YtjfhbfnagcjdmaaDoor
open Go.RowKit Go.Lib

/-- The number of digits, behind v. -/
def valF (v : Nat) (d : List UInt8) : Nat := d.foldl (fun a b => a * 10 + (b.toNat - 48)) v
/-- Where the loop stands that writes u: v is still to be written ahead of d. -/
def DigR (u v : Nat) (d : List UInt8) : Prop := (∀ b ∈ d, dgB b = true) ∧ valF v d = u ∧ d.length ≤ 9 ∧ v < 10 ^ (9 - d.length)
theorem digC {r : Nat} (h : r < 10) : (UInt8.ofNat (48 + r)).toNat = 48 + r := by
  rw [UInt8.toNat_ofNat']
  omega
theorem digR_next {u v : Nat} {d : List UInt8} (h : DigR u v d) (hv : 0 < v ∨ d = []) : DigR u (v / 10) ([UInt8.ofNat (48 + v % 10)] ++ d) := by
  obtain ⟨h1, h2, h3, h4⟩ := h
  have hr : v % 10 < 10 := Nat.mod_lt _ (by omega)
  have hl : d.length < 9 := by
    rcases hv with hv | hv
    · refine Decidable.byContradiction fun k => ?_
      rw [show 9 - d.length = 0 by omega] at h4
      omega
    · rw [hv]; simp
  refine ⟨fun b hb => ?_, ?_, ?_, ?_⟩
  · rcases List.mem_append.1 hb with hb | hb
    · rw [List.mem_singleton] at hb
      rw [hb]
      unfold dgB
      rw [digC hr, decide_eq_true (by omega), decide_eq_true (by omega)]; rfl
    · exact h1 b hb
  · show valF (v / 10 * 10 + ((UInt8.ofNat (48 + v % 10)).toNat - 48)) d = u
    rw [digC hr, show v / 10 * 10 + (48 + v % 10 - 48) = v by omega]
    exact h2
  · rw [List.length_append, List.length_singleton]; omega
  · rw [List.length_append, List.length_singleton]
    rw [show 9 - d.length = (9 - (1 + d.length)) + 1 by omega, Nat.pow_succ] at h4
    omega
theorem digR_lt {u v : Nat} {d : List UInt8} (h : DigR u v d) : v < 1000000000 := Nat.lt_of_lt_of_le h.2.2.2 (Nat.pow_le_pow_right (n := 10) (by omega) (by omega : 9 - d.length ≤ 9))
theorem lst_sign {d : List UInt8} (c t : UInt8) (r : List UInt8) (u : Nat) (h : DigR u 0 d) (hd : d ≠ []) (hc : c.toNat = 46 ∨ c.toNat = 41) :
    sgnL (d ++ c :: t :: r) = (true, u, c.toNat, d.length + 1) ∧ (d ++ c :: t :: r).drop (d.length + 1) = t :: r := by
  have hcn : dgB c = false := by
    unfold dgB
    rw [decide_eq_false (by omega : ¬ 48 ≤ c.toNat)]; rfl
  obtain ⟨e1, e2⟩ := dec_digits d 9 0 c (t :: r) h.1 hcn h.2.2.1
  have hp := List.length_pos_iff.2 hd
  have hdr : (d ++ c :: t :: r).drop d.length = c :: t :: r := List.drop_left ..
  refine ⟨?_, ?_⟩
  · unfold sgnL
    rw [e1, hdr, e2]
    dsimp only
    rw [if_neg (by omega), if_pos hc]
    have h2 := h.2.1
    unfold valF at h2
    rw [h2]
  · rw [← List.drop_drop, hdr]; rfl
theorem lst_yes {d : List UInt8} (c : UInt8) (r : List UInt8) (u : Nat) (h : DigR u 0 d) (hd : d ≠ []) (hc : c.toNat = 46 ∨ c.toNat = 41) : lstL (d ++ c :: 32 :: r) = (true, u, c.toNat, d.length + 1) ∧ lstB (d ++ c :: 32 :: r) = true := by
  obtain ⟨e1, e2⟩ := lst_sign c 32 r u h hd hc
  have e3 : lstB (d ++ c :: 32 :: r) = true := by
    unfold lstB
    rw [e1]
    dsimp only
    rw [e2]; simp [apartL]; decide
  refine ⟨?_, e3⟩
  unfold lstL
  rw [e3, e1]; rfl
theorem lst_not {d : List UInt8} (c : UInt8) (r : List UInt8) (u : Nat) (h : DigR u 0 d) (hd : d ≠ []) (hc : c.toNat = 46 ∨ c.toNat = 41) : lstL (d ++ c :: 120 :: r) = (false, 0, 0, 0) ∧ lstB (d ++ c :: 120 :: r) = false := by
  obtain ⟨e1, e2⟩ := lst_sign c 120 r u h hd hc
  have e3 : lstB (d ++ c :: 120 :: r) = false := by
    unfold lstB
    rw [e1]
    dsimp only
    rw [e2]; simp [apartL]; decide
  refine ⟨?_, e3⟩
  unfold lstL
  rw [e3]; rfl
theorem lst_ten (r : List UInt8) : lstL ([49, 50, 51, 52, 53, 54, 55, 56, 57, 48] ++ r) = (false, 0, 0, 0) ∧ lstB ([49, 50, 51, 52, 53, 54, 55, 56, 57, 48] ++ r) = false := by
  have e1 : sgnL ([49, 50, 51, 52, 53, 54, 55, 56, 57, 48] ++ r) = (false, 0, 0, 0) := rfl
  have e3 : lstB ([49, 50, 51, 52, 53, 54, 55, 56, 57, 48] ++ r) = false := by
    unfold lstB
    rw [e1]; rfl
  refine ⟨?_, e3⟩
  unfold lstL
  rw [e3]; rfl
def emp8 : Value → Nat
  | .string b => if b.size = 0 then 1 else 0
  | _ => 0
theorem emp8_cons (c : UInt8) (l : List UInt8) : emp8 (.string (⟨#[c]⟩ ++ ⟨l.toArray⟩)) = 0 := by
  show (if (({ data := #[c] } : ByteArray) ++ { data := l.toArray }).size = 0 then 1 else 0) = 0
  rw [ByteArray.size_append, if_neg]
  show ¬ 1 + _ = 0
  omega
set_option maxHeartbeats 400000 in
set_option maxRecDepth 100000 in
theorem mlists_long (x : Int) (p : Bool) (s : ByteArray) (w : World) (hs : s.size ≤ maxLen) (h : 200 < s.size) (hE : Env8 w) :
    Calls Tryd.prog 5 #[.int .u32 x, .bool p, .string s] w fun e w' => e = .returned (.bool true) ∧ Keeps w w' := by
  have AW := Lib.hid (awake8_any w hE)
  unfold maxLen at hs
  clear hE
  go_enter Tryd.func5, Tryd.ntmps5
  go_wp2_with fail
  refine AW.out.mono ?_
  rintro e w2 ⟨rfl, k2⟩
  go_wp2_with fail
  go_ret
  exact ⟨rfl, k2⟩
set_option maxHeartbeats 8000000 in
set_option maxRecDepth 100000 in
theorem mlists_go (x : Int) (hx0 : 0 ≤ x) (hx1 : x ≤ 4294967295) (p : Bool) (c : UInt8) (hp : (p = false ∧ c = 46) ∨ (p = true ∧ c = 41)) (s : ByteArray) (w : World) (hs : s.size ≤ 200) (hE : Env8 w) :
    Calls Tryd.prog 5 #[.int .u32 x, .bool p, .string s] w fun e w' => e = .returned (.bool true) ∧ Keeps w w' := by
  have AW := Lib.hid (fun W h => awake8_any W h)
  have HE := Lib.hid hE
  clear hE
  have hc : c.toNat = 46 ∨ c.toNat = 41 := by rcases hp with ⟨_, rfl⟩ | ⟨_, rfl⟩ <;> decide
  have kb := Lib.hid (fun W => one_byte W 27 9 5 c (c.toNat : Nat) rfl Tryd.underlying27 Tryd.underlying5 Tryd.underlying9)
  have kd := Lib.hid (fun (v : Nat) W => one_byte W 27 9 5 (UInt8.ofNat (48 + v % 10)) (48 + (v : Int) % 10) (by rw [digC (Nat.mod_lt _ (by omega))]; omega) Tryd.underlying27 Tryd.underlying5 Tryd.underlying9)
  have LA : Hid (∀ (D : ByteArray) u, DigR u 0 D.data.toList → 1 ≤ D.size → ∀ W, Calls Tryd.prog 13 #[.string (D ++ ⟨#[c]⟩ ++ ⟨#[32]⟩ ++ s)] W fun e w' => e = .returned (.tuple #[.agg #[.bool true, .int .i64 (u : Nat), .int .u8 (c.toNat : Nat), .int .i64 ((D.size : Int) + 1)], .bool true]) ∧ Keeps W w') := Lib.hid (fun D u h h1 W => by
    have hl := h.2.2.1
    rw [bytes_len] at hl
    have := mlist_any (D ++ ⟨#[c]⟩ ++ ⟨#[32]⟩ ++ s) W (by rw [ByteArray.size_append, size_snoc8, size_snoc8]; unfold maxLen; omega)
    have e : (D ++ ⟨#[c]⟩ ++ ⟨#[32]⟩ ++ s).data.toList = D.data.toList ++ c :: 32 :: s.data.toList := by rw [bytes_app, byte_snoc, byte_snoc]; simp
    obtain ⟨e1, e2⟩ := lst_yes c s.data.toList u h (fun e => by have := bytes_len D; rw [e] at this; simp at this; omega) hc
    rw [e, e1, e2, bytes_len] at this
    exact this)
  have LC : Hid (∀ (D : ByteArray) u, DigR u 0 D.data.toList → 1 ≤ D.size → ∀ W, Calls Tryd.prog 13 #[.string (D ++ ⟨#[c]⟩ ++ ⟨#[120]⟩ ++ s)] W fun e w' => e = .returned (.tuple #[.agg #[.bool false, .int .i64 0, .int .u8 0, .int .i64 0], .bool false]) ∧ Keeps W w') := Lib.hid (fun D u h h1 W => by
    have hl := h.2.2.1
    rw [bytes_len] at hl
    have := mlist_any (D ++ ⟨#[c]⟩ ++ ⟨#[120]⟩ ++ s) W (by rw [ByteArray.size_append, size_snoc8, size_snoc8]; unfold maxLen; omega)
    have e : (D ++ ⟨#[c]⟩ ++ ⟨#[120]⟩ ++ s).data.toList = D.data.toList ++ c :: 120 :: s.data.toList := by rw [bytes_app, byte_snoc, byte_snoc]; simp
    obtain ⟨e1, e2⟩ := lst_not c s.data.toList u h (fun e => by have := bytes_len D; rw [e] at this; simp at this; omega) hc
    rw [e, e1, e2] at this
    exact this)
  have LB : Hid (∀ W, Calls Tryd.prog 13 #[.string (⟨#[49, 50, 51, 52, 53, 54, 55, 56, 57, 48]⟩ ++ ⟨#[c]⟩ ++ ⟨#[32]⟩ ++ s)] W fun e w' => e = .returned (.tuple #[.agg #[.bool false, .int .i64 0, .int .u8 0, .int .i64 0], .bool false]) ∧ Keeps W w') := Lib.hid (fun W => by
    have := mlist_any (⟨#[49, 50, 51, 52, 53, 54, 55, 56, 57, 48]⟩ ++ ⟨#[c]⟩ ++ ⟨#[32]⟩ ++ s) W (by rw [ByteArray.size_append, size_snoc8, size_snoc8, show (⟨#[49, 50, 51, 52, 53, 54, 55, 56, 57, 48]⟩ : ByteArray).size = 10 from rfl]; unfold maxLen; omega)
    have e : (⟨#[49, 50, 51, 52, 53, 54, 55, 56, 57, 48]⟩ ++ ⟨#[c]⟩ ++ ⟨#[32]⟩ ++ s : ByteArray).data.toList = [49, 50, 51, 52, 53, 54, 55, 56, 57, 48] ++ c :: 32 :: s.data.toList := by rw [bytes_app, byte_snoc, byte_snoc]; simp
    obtain ⟨e1, e2⟩ := lst_ten (c :: 32 :: s.data.toList)
    rw [e, e1, e2] at this
    exact this)
  have e46 : (((46 : UInt8).toNat : Nat) : Int) = 46 := rfl
  have e41 : (((41 : UInt8).toNat : Nat) : Int) = 41 := rfl
  obtain ⟨u, hu⟩ : ∃ u : Nat, x % 1000000000 = (u : Int) := ⟨(x % 1000000000).toNat, by omega⟩
  have D0 : Hid (DigR u u []) := Lib.hid ⟨(fun _ h => by cases h), rfl, by simp, by show u < 10 ^ 9; omega⟩
  have hE8 := Lib.hid (emp8_cons)
  clear hc
  rcases hp with ⟨rfl, rfl⟩ | ⟨rfl, rfl⟩
  · rw [e46] at kb
    simp only [e46] at LA
    clear e46 e41
    go_enter Tryd.func5, Tryd.ntmps5
    go_wp2_with fail
    clear hu
    go_loopw [8, 9] (fun a n wr => ∃ (v : Nat) (l : List UInt8), Hid (DigR u v l) ∧ v < 1000000000 ∧ Hid (Keeps w wr) ∧ n = .int .i64 v ∧ a = .string ⟨l.toArray⟩) (fun a n _ => (RowKit.intOf n).toNat + emp8 a)
    case atStart => exact ⟨u, [], D0, digR_lt D0.out, Lib.hid (Keeps.refl _), rfl, rfl⟩
    case round =>
      obtain ⟨v, l, HD, hv, HK, rfl, rfl⟩ := hrel
      have kc := kd.out v wr
      have hl9 := HD.out.2.2.1
      by_cases c1 : 0 < v
      · have HN := Lib.hid (digR_next HD.out (.inl c1))
        have HK2 := Lib.hid (fun o => HK.out.alloc o)
        generalize UInt8.ofNat (48 + v % 10) = c at *
        go_wp2_with fail
        go_roundw
        case rel => exact ⟨v / 10, [c] ++ l, HN, by omega, Lib.hid (HK2.out _), by go_num, congrArg Value.string (bytes_eq (by simp))⟩
        case measure =>
          rw [hE8.out]
          simp [RowKit.intOf]; omega
      · have h0 : v = 0 := by omega
        subst h0
        by_cases hl0 : l = []
        · subst hl0
          have HN := Lib.hid (digR_next HD.out (.inr rfl))
          have HN' : Hid (DigR u 0 ([48] ++ [])) := HN
          have HK2 := Lib.hid (fun o => HK.out.alloc o)
          have kc2 := one_byte wr 27 9 5 48 48 rfl Tryd.underlying27 Tryd.underlying5 Tryd.underlying9
          clear kc HN
          go_wp2_with fail
          go_roundw
          case rel => exact ⟨0, [48] ++ [], HN', by omega, Lib.hid (HK2.out _), rfl, congrArg Value.string (bytes_eq (by simp))⟩
          case measure =>
            rw [hE8.out]
            simp [RowKit.intOf, emp8, ByteArray.size]
        · have tl : l.isEmpty = false := by simpa using hl0
          have hDl : Hid ((⟨l.toArray⟩ : ByteArray).data.toList = l) := Lib.hid (mk_list l)
          have hDs : Hid ((⟨l.toArray⟩ : ByteArray).size = l.length) := Lib.hid (mk_sz l)
          have hD9 := HD.out.2.2.1
          have hp := List.length_pos_iff.2 hl0
          have A1 := Lib.hid (LA.out ⟨l.toArray⟩ u (by rw [hDl.out]; exact HD.out) (by rw [hDs.out]; omega))
          have A2 := Lib.hid (LC.out ⟨l.toArray⟩ u (by rw [hDl.out]; exact HD.out) (by rw [hDs.out]; omega))
          have hsz : (⟨l.toArray⟩ : ByteArray).size ≤ 9 := by rw [hDs.out]; exact hD9
          clear kc HD hp hD9 hl0 LA LC kd hDs hDl hl9
          have h1 : 0 < (⟨l.toArray⟩ : ByteArray).size := by
            rw [mk_sz]
            cases l with
            | nil => cases tl
            | cons a t => rw [List.length_cons]; omega
          clear tl hE8 D0
          generalize (⟨l.toArray⟩ : ByteArray) = D at *
          have hi1 := tl_empty h1
          have hn1 := tl_ne h1
          have kc1 := kb.out wr
          have z1 : D.size + 1 ≤ 9223372036854775807 := by omega
          go_wp2_with fail
          (with_reducible refine (A1.out _).mono ?_)
          rintro e w1 ⟨rfl, k1⟩
          have K1 := Lib.hid (((HK.out.alloc _).trans k1).alloc (.cells #[.bool true, .int .i64 (u : Nat), .int .u8 46, .int .i64 ((D.size : Int) + 1)] 34))
          have B1 := Lib.hid (Blk.new w1 34 #[.bool true, .int .i64 (u : Nat), .int .u8 46, .int .i64 ((D.size : Int) + 1)])
          have kc2 := kb.out (w1.alloc (.cells #[.bool true, .int .i64 (u : Nat), .int .u8 46, .int .i64 ((D.size : Int) + 1)] 34))
          rw [show (w1.alloc (.cells #[.bool true, .int .i64 (u : Nat), .int .u8 46, .int .i64 ((D.size : Int) + 1)] 34)).heap.size = w1.heap.size + 1 by simp] at kc2
          clear k1 kc1
          go_wp2_with fail
          (with_reducible refine (LB.out _).mono ?_)
          rintro e w2 ⟨rfl, k2⟩
          have K2 := Lib.hid (((K1.out.alloc _).trans k2).alloc (.cells #[.bool false, .int .i64 0, .int .u8 0, .int .i64 0] 34))
          have B2 := Lib.hid (((B1.out.alloc _).keep k2).alloc (.cells #[.bool false, .int .i64 0, .int .u8 0, .int .i64 0] 34))
          have kc3 := kb.out (w2.alloc (.cells #[.bool false, .int .i64 0, .int .u8 0, .int .i64 0] 34))
          rw [show (w2.alloc (.cells #[.bool false, .int .i64 0, .int .u8 0, .int .i64 0] 34)).heap.size = w2.heap.size + 1 by simp] at kc3
          clear k2 kc2 K1 B1
          go_wp2_with fail
          (with_reducible refine (A2.out _).mono ?_)
          rintro e w3 ⟨rfl, k3⟩
          have K3 := Lib.hid (((K2.out.alloc _).trans k3).alloc (.cells #[.bool false, .int .i64 0, .int .u8 0, .int .i64 0] 34))
          have B3 := Lib.hid (((B2.out.alloc _).keep k3).alloc (.cells #[.bool false, .int .i64 0, .int .u8 0, .int .i64 0] 34))
          clear k3 kc3 K2 B2
          go_wp2_with fail
          (with_reducible refine (AW.out _ (Env8.keep HE.out K3.out)).mono ?_)
          rintro e w4 ⟨rfl, k4⟩
          have K4 := Lib.hid (K3.out.trans k4)
          have B4 := Lib.hid (B3.out.keep k4)
          clear k4 K3 B3
          generalize w1.heap.size = B at *
          have b0 : w4.cell? ⟨B, 0, none⟩ = some (.bool true) := B4.out.cell 0 rfl
          have b1 : w4.cell? ⟨B, 1, none⟩ = some (.int .i64 (u : Nat)) := B4.out.cell 1 rfl
          have b2 := B4.out.cell 2 rfl
          have b3 : w4.cell? ⟨B, 3, none⟩ = some (.int .i64 ((D.size : Int) + 1)) := B4.out.cell 3 rfl
          go_wp2_with fail
          go_ret
          exact ⟨rfl, K4.out⟩
  · rw [e41] at kb
    simp only [e41] at LA
    clear e46 e41
    go_enter Tryd.func5, Tryd.ntmps5
    go_wp2_with fail
    clear hu
    go_loopw [8, 9] (fun a n wr => ∃ (v : Nat) (l : List UInt8), Hid (DigR u v l) ∧ v < 1000000000 ∧ Hid (Keeps w wr) ∧ n = .int .i64 v ∧ a = .string ⟨l.toArray⟩) (fun a n _ => (RowKit.intOf n).toNat + emp8 a)
    case atStart => exact ⟨u, [], D0, digR_lt D0.out, Lib.hid (Keeps.refl _), rfl, rfl⟩
    case round =>
      obtain ⟨v, l, HD, hv, HK, rfl, rfl⟩ := hrel
      have kc := kd.out v wr
      have hl9 := HD.out.2.2.1
      by_cases c1 : 0 < v
      · have HN := Lib.hid (digR_next HD.out (.inl c1))
        have HK2 := Lib.hid (fun o => HK.out.alloc o)
        generalize UInt8.ofNat (48 + v % 10) = c at *
        go_wp2_with fail
        go_roundw
        case rel => exact ⟨v / 10, [c] ++ l, HN, by omega, Lib.hid (HK2.out _), by go_num, congrArg Value.string (bytes_eq (by simp))⟩
        case measure =>
          rw [hE8.out]
          simp [RowKit.intOf]; omega
      · have h0 : v = 0 := by omega
        subst h0
        by_cases hl0 : l = []
        · subst hl0
          have HN := Lib.hid (digR_next HD.out (.inr rfl))
          have HN' : Hid (DigR u 0 ([48] ++ [])) := HN
          have HK2 := Lib.hid (fun o => HK.out.alloc o)
          have kc2 := one_byte wr 27 9 5 48 48 rfl Tryd.underlying27 Tryd.underlying5 Tryd.underlying9
          clear kc HN
          go_wp2_with fail
          go_roundw
          case rel => exact ⟨0, [48] ++ [], HN', by omega, Lib.hid (HK2.out _), rfl, congrArg Value.string (bytes_eq (by simp))⟩
          case measure =>
            rw [hE8.out]
            simp [RowKit.intOf, emp8, ByteArray.size]
        · have tl : l.isEmpty = false := by simpa using hl0
          have hDl : Hid ((⟨l.toArray⟩ : ByteArray).data.toList = l) := Lib.hid (mk_list l)
          have hDs : Hid ((⟨l.toArray⟩ : ByteArray).size = l.length) := Lib.hid (mk_sz l)
          have hD9 := HD.out.2.2.1
          have hp := List.length_pos_iff.2 hl0
          have A1 := Lib.hid (LA.out ⟨l.toArray⟩ u (by rw [hDl.out]; exact HD.out) (by rw [hDs.out]; omega))
          have A2 := Lib.hid (LC.out ⟨l.toArray⟩ u (by rw [hDl.out]; exact HD.out) (by rw [hDs.out]; omega))
          have hsz : (⟨l.toArray⟩ : ByteArray).size ≤ 9 := by rw [hDs.out]; exact hD9
          clear kc HD hp hD9 hl0 LA LC kd hDs hDl hl9
          have h1 : 0 < (⟨l.toArray⟩ : ByteArray).size := by
            rw [mk_sz]
            cases l with
            | nil => cases tl
            | cons a t => rw [List.length_cons]; omega
          clear tl hE8 D0
          generalize (⟨l.toArray⟩ : ByteArray) = D at *
          have hi1 := tl_empty h1
          have hn1 := tl_ne h1
          have kc1 := kb.out wr
          have z1 : D.size + 1 ≤ 9223372036854775807 := by omega
          go_wp2_with fail
          (with_reducible refine (A1.out _).mono ?_)
          rintro e w1 ⟨rfl, k1⟩
          have K1 := Lib.hid (((HK.out.alloc _).trans k1).alloc (.cells #[.bool true, .int .i64 (u : Nat), .int .u8 41, .int .i64 ((D.size : Int) + 1)] 34))
          have B1 := Lib.hid (Blk.new w1 34 #[.bool true, .int .i64 (u : Nat), .int .u8 41, .int .i64 ((D.size : Int) + 1)])
          have kc2 := kb.out (w1.alloc (.cells #[.bool true, .int .i64 (u : Nat), .int .u8 41, .int .i64 ((D.size : Int) + 1)] 34))
          rw [show (w1.alloc (.cells #[.bool true, .int .i64 (u : Nat), .int .u8 41, .int .i64 ((D.size : Int) + 1)] 34)).heap.size = w1.heap.size + 1 by simp] at kc2
          clear k1 kc1
          go_wp2_with fail
          (with_reducible refine (LB.out _).mono ?_)
          rintro e w2 ⟨rfl, k2⟩
          have K2 := Lib.hid (((K1.out.alloc _).trans k2).alloc (.cells #[.bool false, .int .i64 0, .int .u8 0, .int .i64 0] 34))
          have B2 := Lib.hid (((B1.out.alloc _).keep k2).alloc (.cells #[.bool false, .int .i64 0, .int .u8 0, .int .i64 0] 34))
          have kc3 := kb.out (w2.alloc (.cells #[.bool false, .int .i64 0, .int .u8 0, .int .i64 0] 34))
          rw [show (w2.alloc (.cells #[.bool false, .int .i64 0, .int .u8 0, .int .i64 0] 34)).heap.size = w2.heap.size + 1 by simp] at kc3
          clear k2 kc2 K1 B1
          go_wp2_with fail
          (with_reducible refine (A2.out _).mono ?_)
          rintro e w3 ⟨rfl, k3⟩
          have K3 := Lib.hid (((K2.out.alloc _).trans k3).alloc (.cells #[.bool false, .int .i64 0, .int .u8 0, .int .i64 0] 34))
          have B3 := Lib.hid (((B2.out.alloc _).keep k3).alloc (.cells #[.bool false, .int .i64 0, .int .u8 0, .int .i64 0] 34))
          clear k3 kc3 K2 B2
          go_wp2_with fail
          (with_reducible refine (AW.out _ (Env8.keep HE.out K3.out)).mono ?_)
          rintro e w4 ⟨rfl, k4⟩
          have K4 := Lib.hid (K3.out.trans k4)
          have B4 := Lib.hid (B3.out.keep k4)
          clear k4 K3 B3
          generalize w1.heap.size = B at *
          have b0 : w4.cell? ⟨B, 0, none⟩ = some (.bool true) := B4.out.cell 0 rfl
          have b1 : w4.cell? ⟨B, 1, none⟩ = some (.int .i64 (u : Nat)) := B4.out.cell 1 rfl
          have b2 := B4.out.cell 2 rfl
          have b3 : w4.cell? ⟨B, 3, none⟩ = some (.int .i64 ((D.size : Int) + 1)) := B4.out.cell 3 rfl
          go_wp2_with fail
          go_ret
          exact ⟨rfl, K4.out⟩
theorem mlists_any (x : Int) (hx : 0 ≤ x ∧ x ≤ 4294967295) (p : Bool) (s : ByteArray) (w : World) (hs : s.size ≤ maxLen) (hE : Env8 w) :
    Calls Tryd.prog 5 #[.int .u32 x, .bool p, .string s] w fun e w' => e = .returned (.bool true) ∧ Keeps w w' := by
  by_cases h : s.size ≤ 200
  · cases p with
    | false => exact mlists_go x hx.1 hx.2 false 46 (.inl ⟨rfl, rfl⟩) s w h hE
    | true => exact mlists_go x hx.1 hx.2 true 41 (.inr ⟨rfl, rfl⟩) s w h hE
  · exact mlists_long x p s w hs (by omega) hE
end Go.Proofs.YtjfhbfnagcjdmaaDoor

/-
  Contracts of the document's answers of layer 1: size, digits, Whole, Print.
-/
import Derived.Test.YtfpfjaedoafnpaaDoorFixe
import Derived.Test.YtfpfjaedoafnpaaDoorBack
import Derived.Laws.IdiomStrings
namespace Go.Proofs.YtfpfjaedoafnpaaDoor
open Go.RowKit Go.Shelf Go.Lib

theorem rsize_any (n : Int) (w : World) (h1 : -9223372036854775808 ≤ n) (h2 : n ≤ 9223372036854775807) :
    Calls Tryd.prog 24 #[.int .i64 n] w fun e w' => e = .returned (.int .u64 n.natAbs) ∧ w = w' := by
  by_cases h : n < 0
  · go_enter Tryd.func24, Tryd.ntmps24
    go_wp2
    go_ret
    exact ⟨ret_int (by rw [IntKind.wrap_u64, IntKind.wrap_u64]; omega), rfl⟩
  · go_enter Tryd.func24, Tryd.ntmps24
    go_wp2
    go_ret
    exact ⟨ret_int (by omega), rfl⟩

theorem dd_step (u : Nat) : Lib.decDigits u = (if u / 10 = 0 then [] else Lib.decDigits (u / 10)) ++ [UInt8.ofNat (48 + u % 10)] := by
  by_cases h : u < 10
  · rw [dd_small h, if_pos (by omega), Nat.mod_eq_of_lt h]; rfl
  · rw [dd_big h, if_neg (by omega)]

/-- Where the loop over the digits stands. -/
def DigAt (u v : Nat) (l : List UInt8) : Prop := (l = [] ∧ v = u) ∨ (l ≠ [] ∧ Lib.decDigits u = (if v = 0 then [] else Lib.decDigits v) ++ l)
theorem digAt_next {u v : Nat} {l : List UInt8} (h : DigAt u v l) (hv : v ≠ 0 ∨ l = []) : DigAt u (v / 10) ([UInt8.ofNat (48 + v % 10)] ++ l) := by
  refine .inr ⟨by simp, ?_⟩
  rcases h with ⟨rfl, rfl⟩ | ⟨hl, he⟩
  · rw [List.append_nil]; exact dd_step v
  · have hv' : v ≠ 0 := hv.resolve_right hl
    rw [he, if_neg hv', dd_step v, List.append_assoc]
theorem digAt_end {u : Nat} {l : List UInt8} (h : DigAt u 0 l) (hl : l ≠ []) : l = Lib.decDigits u := by
  rcases h with ⟨h1, _⟩ | ⟨_, he⟩
  · exact absurd h1 hl
  · rw [he, if_pos rfl]; rfl
theorem digAt_len {u v : Nat} {l : List UInt8} (h : DigAt u v l) (hu : u < 18446744073709551616) : l.length ≤ 20 := by
  have h1 := dd_len 19 u (by omega)
  rcases h with ⟨rfl, rfl⟩ | ⟨_, he⟩
  · simp
  · rw [he, List.length_append] at h1
    omega
theorem one_byte {P : Program} (W : World) (src dst e : TypeId) (c : UInt8) (n : Int) (hn : n = (c.toNat : Int)) (hs : P.underlying src = some (.slice e)) (he : P.underlying e = some (.int .u8)) (hd : P.underlying dst = some .string) :
    (convert src dst (.slice (some ⟨W.heap.size, 0, none⟩) 1 1)).run P (W.alloc (.cells #[.int .u8 n] e)) = .ok (.string ⟨#[c]⟩) (W.alloc (.cells #[.int .u8 n] e)) := by
  subst hn
  refine run_convert_bytes_back _ src dst e ⟨W.heap.size, 0, none⟩ 1 [c] hs he hd (fun j hj => ?_)
  have : j = 0 := by simpa using hj
  subst this
  simp [Addr.add, World.cell?_alloc_new]
def emp : Value → Nat
  | .string b => if b.size = 0 then 1 else 0
  | _ => 0

set_option maxHeartbeats 400000 in
theorem rdigits_any (u : Nat) (w : World) (hu : u < 18446744073709551616) :
    Calls Tryd.prog 23 #[.int .u64 u] w fun e w' => e = .returned (.string ⟨(Lib.decDigits u).toArray⟩) ∧ Keeps w w' := by
  go_enter Tryd.func23, Tryd.ntmps23
  go_wp2
  go_loopw [0, 3] (fun a s wr => ∃ (v : Nat) (l : List UInt8), DigAt u v l ∧ v < 18446744073709551616 ∧ Keeps w wr ∧ a = .int .u64 v ∧ s = .string ⟨l.toArray⟩) (fun a s _ => (RowKit.intOf a).toNat + emp s)
  case atStart => exact ⟨u, [], .inl ⟨rfl, rfl⟩, hu, Keeps.refl _, rfl, rfl⟩
  case round =>
    obtain ⟨v, l, hd, hv, hk, rfl, rfl⟩ := hrel
    have ll := digAt_len hd hu
    have kc := one_byte wr 49 9 5 (UInt8.ofNat (48 + v % 10)) (48 + (v : Int) % 10) (by rw [of48 (Nat.mod_lt _ (by omega))]; omega) Tryd.underlying49 Tryd.underlying5 Tryd.underlying9
    have hne : ∀ c : UInt8, emp (.string ({ data := #[c] } ++ { data := l.toArray })) = 0 := fun c => by
      show (if (({ data := #[c] } : ByteArray) ++ { data := l.toArray }).size = 0 then 1 else 0) = 0
      rw [ByteArray.size_append, if_neg]
      show ¬ 1 + _ = 0
      omega
    by_cases c1 : 0 < v
    · have t1 : decide (0 < v) = true := decide_eq_true c1
      have HN := Lib.hid (digAt_next hd (.inl (by omega)))
      clear hd
      have HE := Lib.hid hne
      clear hne
      generalize UInt8.ofNat (48 + v % 10) = c at *
      go_wp2
      go_roundw
      case rel => exact ⟨v / 10, [c] ++ l, HN.out, by omega, hk.alloc _, rfl, congrArg Value.string (bytes_eq (by simp))⟩
      case measure =>
        rw [HE.out]
        simp [RowKit.intOf]; omega
    · have h0 : v = 0 := by omega
      subst h0
      by_cases hl : l = []
      · subst hl
        have HN := Lib.hid (digAt_next hd (.inr rfl))
        clear hd
        have HE := Lib.hid hne
        clear hne
        clear kc
        have kc := one_byte wr 49 9 5 48 48 rfl Tryd.underlying49 Tryd.underlying5 Tryd.underlying9
        have HN' : Hid (DigAt u 0 ([48] ++ [])) := HN.out
        clear HN
        go_wp2
        go_roundw
        case rel => exact ⟨0, [48] ++ [], HN'.out, by omega, hk.alloc _, rfl, congrArg Value.string (bytes_eq (by simp))⟩
        case measure =>
          rw [HE.out]
          simp [RowKit.intOf, emp, ByteArray.size]
      · have hf := digAt_end hd hl
        have HF := Lib.hid hf
        have tl : l.isEmpty = false := by simpa using hl
        clear hf hne kc
        go_wp2
        go_ret
        exact ⟨ret_str HF.out, hk⟩

theorem rwhole_any (n : Int) (w : World) (h1 : -9223372036854775808 ≤ n) (h2 : n ≤ 9223372036854775807) :
    Calls Tryd.prog 11 #[.int .i64 n] w fun e w' => e = .returned (.string ⟨(Lib.itoa n).toArray⟩) ∧ Keeps w w' := by
  have S := Lib.hid (fun W => rsize_any n W h1 h2)
  have D := Lib.hid (fun W => rdigits_any n.natAbs W (by omega))
  have ll := dd_len 19 n.natAbs (by omega)
  by_cases h : n < 0
  · have E := Lib.hid (show Lib.itoa n = 45 :: Lib.decDigits n.natAbs by unfold Lib.itoa; rw [if_pos h])
    generalize n.natAbs = u at *
    generalize Lib.decDigits u = l at *
    go_enter Tryd.func11, Tryd.ntmps11
    go_wp2_with fail
    refine (S.out _).mono ?_
    rintro e w1 ⟨rfl, rfl⟩
    go_wp2_with fail
    refine (D.out _).mono ?_
    rintro e w2 ⟨rfl, k1⟩
    go_wp2_with fail
    go_ret
    exact ⟨ret_bytes (by rw [E.out]; apply bytes_eq; simp), k1⟩
  · have E := Lib.hid (show Lib.itoa n = Lib.decDigits n.natAbs by unfold Lib.itoa; rw [if_neg h, show n.toNat = n.natAbs by omega])
    generalize n.natAbs = u at *
    generalize Lib.decDigits u = l at *
    go_enter Tryd.func11, Tryd.ntmps11
    go_wp2_with fail
    refine (S.out _).mono ?_
    rintro e w1 ⟨rfl, rfl⟩
    go_wp2_with fail
    refine (D.out _).mono ?_
    rintro e w2 ⟨rfl, k1⟩
    go_wp2_with fail
    go_ret
    exact ⟨ret_bytes (by rw [E.out]), k1⟩

theorem trim_snoc (l : List UInt8) (b c : UInt8) : Lib.trimRightB (l ++ [b]) c = if b = c then Lib.trimRightB l c else l ++ [b] := by
  unfold Lib.trimRightB
  rw [List.reverse_append, List.reverse_singleton, List.singleton_append, List.dropWhile_cons]
  by_cases h : b = c
  · rw [if_pos h, if_pos (by simpa using h)]
  · rw [if_neg h, if_neg (by simpa using h)]; simp
theorem split_last (s : ByteArray) (h : 0 < s.size) : s.data.toList = (s.extract 0 (s.size - 1)).data.toList ++ [s[s.size - 1]] := by
  have hlen : s.data.toList.length = s.size := by simp
  rw [Lib.extract_data, List.drop_zero, Nat.sub_zero]
  have e := List.take_succ_eq_append_getElem (l := s.data.toList) (i := s.size - 1) (by omega)
  rw [show s.size - 1 + 1 = s.size by omega, List.take_of_length_le (by omega)] at e
  exact e
theorem trim_zero (s : ByteArray) (h : 0 < s.size) (hb : s[s.size - 1].toNat = 48) : Lib.trimRightB (s.extract 0 (s.size - 1)).data.toList 48 = Lib.trimRightB s.data.toList 48 := by
  rw [split_last s h, trim_snoc, if_pos (UInt8.toNat_inj.1 hb)]
theorem trim_other (s : ByteArray) (h : 0 < s.size) (hb : ¬ s[s.size - 1].toNat = 48) : Lib.trimRightB s.data.toList 48 = s.data.toList := by
  have e := split_last s h
  generalize s[s.size - 1] = b at *
  rw [e, trim_snoc, if_neg (fun k => hb (by rw [k]; rfl))]

/-- The last loop of the document's Print, and what stands behind it, are walked with the rest. -/
def TrimAt (T : List UInt8) (s : ByteArray) : Prop := Lib.trimRightB s.data.toList 48 = T
theorem trimAt_size {T : List UInt8} {s : ByteArray} (h : TrimAt T s) (hT : T ≠ []) : 0 < s.size := by
  rcases Nat.eq_zero_or_pos s.size with k | k
  · have hl : s.data.toList = [] := List.length_eq_zero_iff.1 (by simpa using k)
    unfold TrimAt at h
    rw [hl] at h
    exact absurd h.symm hT
  · exact k

set_option maxHeartbeats 800000 in
theorem rprint_frac (n : Int) (w : World) (h1 : -9223372036854775808 ≤ n) (h2 : n ≤ 9223372036854775807) (hz : ¬ n.natAbs % 1000 = 0) :
    Calls Tryd.prog 13 #[.int .i64 n] w fun e w' => e = .returned (.string ⟨(printT n).toArray⟩) ∧ Keeps w w' := by
  have S := Lib.hid (fun W => rsize_any n W h1 h2)
  have D1 := Lib.hid (fun W => rdigits_any (n.natAbs / 1000) W (by omega))
  have D2 := Lib.hid (fun W => rdigits_any (1000 + n.natAbs % 1000) W (by omega))
  have l1 := dd_len 19 (n.natAbs / 1000) (by omega)
  have l2 := dd_len 19 (1000 + n.natAbs % 1000) (by omega)
  have l3 := dd_pos (1000 + n.natAbs % 1000)
  have hf := tri_all ⟨n.natAbs % 1000, Nat.mod_lt _ (by omega)⟩
  unfold triOk at hf
  simp only [Bool.and_eq_true, Bool.or_eq_true, decide_eq_true_eq, List.all_eq_true] at hf
  obtain ⟨⟨⟨⟨-, f2⟩, f3⟩, -⟩, -⟩ := hf
  have hT := f3.resolve_left hz
  have hd := tri_dd (n.natAbs % 1000) (Nat.mod_lt _ (by omega))
  have hP : printT n = (if n < 0 then [45] else []) ++ (Lib.decDigits (n.natAbs / 1000) ++ ([46] ++ Lib.trimRightB (tri (n.natAbs % 1000)) 48)) := by
    unfold printT printD; rw [if_neg hz, hd]
  have hub : n.natAbs ≤ 9223372036854775808 := by omega
  have d0 : decide (0 < (n.natAbs : Int) % 1000) = true := decide_eq_true (by omega)
  have eB : TrimAt (Lib.trimRightB (tri (n.natAbs % 1000)) 48) (({ data := (Lib.decDigits (1000 + n.natAbs % 1000)).toArray } : ByteArray).extract 1 (Lib.decDigits (1000 + n.natAbs % 1000)).length) := by
    unfold TrimAt
    rw [Lib.extract_data, ← hd]
    congr 1
    exact List.take_of_length_le (by rw [List.length_drop]; exact Nat.le_refl _)
  have eS : (({ data := (Lib.decDigits (1000 + n.natAbs % 1000)).toArray } : ByteArray).extract 1 (Lib.decDigits (1000 + n.natAbs % 1000)).length).size ≤ 20 := by
    rw [ByteArray.size_extract]; omega
  generalize Lib.decDigits (1000 + n.natAbs % 1000) = B at *
  generalize Lib.decDigits (n.natAbs / 1000) = A at *
  generalize Lib.trimRightB (tri (n.natAbs % 1000)) 48 = T at *
  clear hd f3
  have HZ := Lib.hid hz
  have HP := Lib.hid hP
  clear hz hP
  generalize n.natAbs = u at *
  go_enter Tryd.func13, Tryd.ntmps13
  go_wp2_with fail
  refine (S.out _).mono ?_
  rintro e w1 ⟨rfl, rfl⟩
  go_wp2_with fail
  refine (D1.out _).mono ?_
  rintro e w2 ⟨rfl, k1⟩
  go_wp2_with fail
  refine (D2.out _).mono ?_
  rintro e w3 ⟨rfl, k2⟩
  go_wp2_with fail
  go_loop [6] (fun t => ∃ s : ByteArray, TrimAt T s ∧ s.size ≤ 20 ∧ t = .string s) (fun t => match t with | .string s => s.size | _ => 0)
  case atStart => exact ⟨_, eB, eS, rfl⟩
  case round =>
    obtain ⟨s, ht, hs, rfl⟩ := hrel
    have hs0 := trimAt_size ht hT
    by_cases c : s[s.size - 1].toNat = 48
    · have tz : ((s[s.size - 1].toNat : Int) == 48) = true := beq_iff_eq.2 (by omega)
      have NX : Hid (TrimAt T (s.extract 0 (s.size - 1))) := (trim_zero s hs0 c).trans ht
      have NS : (s.extract 0 (s.size - 1)).size < s.size := by rw [ByteArray.size_extract]; omega
      clear c
      go_wp2_with fail
      go_round
      case rel => exact ⟨_, NX.out, by omega, rfl⟩
      case measure => exact NS
    · have tz : ((s[s.size - 1].toNat : Int) == 48) = false := beq_eq_false_iff_ne.2 (by omega)
      have hE : T = s.data.toList := ht.symm.trans (trim_other s hs0 c)
      have E := Lib.hid hE
      clear c ht hE
      by_cases hn : n < 0
      · rw [if_pos hn] at HP
        go_wp2_with fail
        go_ret
        exact ⟨ret_bytes (by rw [HP.out, E.out]; apply bytes_eq; simp), k1.trans k2⟩
      · rw [if_neg hn] at HP
        go_wp2_with fail
        go_ret
        exact ⟨ret_bytes (by rw [HP.out, E.out]; apply bytes_eq; simp), k1.trans k2⟩

set_option maxHeartbeats 400000 in
theorem rprint_even (n : Int) (w : World) (h1 : -9223372036854775808 ≤ n) (h2 : n ≤ 9223372036854775807) (hz : n.natAbs % 1000 = 0) :
    Calls Tryd.prog 13 #[.int .i64 n] w fun e w' => e = .returned (.string ⟨(printT n).toArray⟩) ∧ Keeps w w' := by
  have S := Lib.hid (fun W => rsize_any n W h1 h2)
  have D1 := Lib.hid (fun W => rdigits_any (n.natAbs / 1000) W (by omega))
  have l1 := dd_len 19 (n.natAbs / 1000) (by omega)
  have hP : printT n = (if n < 0 then [45] else []) ++ Lib.decDigits (n.natAbs / 1000) := by
    unfold printT printD; rw [if_pos hz, List.append_nil]
  have hub : n.natAbs ≤ 9223372036854775808 := by omega
  have d0 : decide (0 < (n.natAbs : Int) % 1000) = false := decide_eq_false (by omega)
  generalize Lib.decDigits (n.natAbs / 1000) = A at *
  have HP := Lib.hid hP
  clear hz hP
  generalize n.natAbs = u at *
  by_cases hn : n < 0
  · rw [if_pos hn] at HP
    go_enter Tryd.func13, Tryd.ntmps13
    go_wp2_with fail
    refine (S.out _).mono ?_
    rintro e w1 ⟨rfl, rfl⟩
    go_wp2_with fail
    refine (D1.out _).mono ?_
    rintro e w2 ⟨rfl, k1⟩
    go_wp2_with fail
    go_ret
    exact ⟨ret_bytes (by rw [HP.out]; apply bytes_eq; simp), k1⟩
  · rw [if_neg hn] at HP
    go_enter Tryd.func13, Tryd.ntmps13
    go_wp2_with fail
    refine (S.out _).mono ?_
    rintro e w1 ⟨rfl, rfl⟩
    go_wp2_with fail
    refine (D1.out _).mono ?_
    rintro e w2 ⟨rfl, k1⟩
    go_wp2_with fail
    go_ret
    exact ⟨ret_bytes (by rw [HP.out]; apply bytes_eq; simp), k1⟩
theorem rprint_any (n : Int) (w : World) (h1 : -9223372036854775808 ≤ n) (h2 : n ≤ 9223372036854775807) :
    Calls Tryd.prog 13 #[.int .i64 n] w fun e w' => e = .returned (.string ⟨(printT n).toArray⟩) ∧ Keeps w w' := by
  by_cases hz : n.natAbs % 1000 = 0
  · exact rprint_even n w h1 h2 hz
  · exact rprint_frac n w h1 h2 hz
end Go.Proofs.YtfpfjaedoafnpaaDoor

/-
  NamedNumbers returns true of any rune.
-/
import Derived.Test.YtmljngahlkhihaaDoorNaw
namespace Go.Proofs.YtmljngahlkhihaaDoor
open Go.RowKit Go.Lib

/-! Digits base sixteen, as they are written. -/
def hexC (d : Nat) : UInt8 := if d < 10 then UInt8.ofNat (48 + d) else UInt8.ofNat (87 + d)
def hexL (u : Nat) : List UInt8 := if _h : u < 16 then [hexC u] else hexL (u / 16) ++ [hexC (u % 16)]
theorem hexL_small {u : Nat} (h : u < 16) : hexL u = [hexC u] := by rw [hexL, dif_pos h]
theorem hexL_big {u : Nat} (h : ¬ u < 16) : hexL u = hexL (u / 16) ++ [hexC (u % 16)] := by rw [hexL, dif_neg h]
theorem hexC_all : ∀ d, d < 16 → hexD (hexC d) = d := by decide +kernel
theorem hexL_len : ∀ (k u : Nat), u < 16 ^ (k + 1) → (hexL u).length ≤ k + 1
  | 0, u, h => by rw [hexL_small (by omega)]; simp
  | k + 1, u, h => by
    by_cases hu : u < 16
    · rw [hexL_small hu]; simp
    · rw [hexL_big hu, List.length_append, List.length_singleton]
      have := hexL_len k (u / 16) (by rw [Nat.div_lt_iff_lt_mul (by omega), ← Nat.pow_succ]; exact h)
      omega
theorem hexL_pos (u : Nat) : 1 ≤ (hexL u).length := by
  by_cases hu : u < 16
  · rw [hexL_small hu]; simp
  · rw [hexL_big hu]; simp
theorem hexL_all (u : Nat) : ∀ b ∈ hexL u, isDig 16 b = true := by
  induction u using Nat.strongRecOn with
  | ind u ih =>
    intro b hb
    by_cases hu : u < 16
    · rw [hexL_small hu, List.mem_singleton] at hb
      subst hb
      exact dig_lt (by rw [hexC_all u hu]; exact hu)
    · rw [hexL_big hu, List.mem_append, List.mem_singleton] at hb
      rcases hb with hb | hb
      · exact ih (u / 16) (by omega) b hb
      · subst hb
        exact dig_lt (by rw [hexC_all _ (Nat.mod_lt u (by omega))]; exact Nat.mod_lt u (by omega))
theorem hexL_val (u : Nat) : numV 16 (hexL u) = u := by
  induction u using Nat.strongRecOn with
  | ind u ih =>
    by_cases hu : u < 16
    · rw [hexL_small hu]
      show 0 * 16 + hexD (hexC u) = u
      rw [hexC_all u hu]; omega
    · rw [hexL_big hu, numV_snoc, ih (u / 16) (by omega), hexC_all _ (Nat.mod_lt u (by omega))]
      omega
/-! Decimal digits. -/
theorem isD_hex {b : UInt8} (h : isD b = true) : hexD b = b.toNat - 48 ∧ hexD b < 10 := by
  obtain ⟨h1, h2⟩ := isD_of h
  have e : hexD b = b.toNat - 48 := by unfold hexD; rw [if_pos ⟨h1, h2⟩]
  exact ⟨e, by omega⟩
theorem numV_val (l : List UInt8) : (∀ b ∈ l, isD b = true) → numV 10 l = val l := by
  unfold numV val
  generalize 0 = a
  induction l generalizing a with
  | nil => intro _; rfl
  | cons b l ih =>
    intro h
    rw [List.foldl_cons, List.foldl_cons, (isD_hex (h b (List.mem_cons_self ..))).1]
    exact ih _ (fun x hx => h x (List.mem_cons_of_mem _ hx))
theorem dec_val (u : Nat) : numV 10 (Lib.decDigits u) = u := by rw [numV_val _ (dd_all u), dd_val]
theorem dec_all (u : Nat) : (Lib.decDigits u).all (isDig 10) = true := List.all_eq_true.2 fun b hb => dig_lt (isD_hex (dd_all u b hb)).2
theorem ne_of_pos {l : List UInt8} (h : 1 ≤ l.length) : l ≠ [] := fun e => by rw [e] at h; simp at h
/-- A rune's number is its reference's. -/
theorem ref_hex (u : Nat) (h : u < 16777216) : refL ([38, 35, 120] ++ hexL u ++ [59]) = (runeOf u, (hexL u).length + 4) := by
  have h1 : numL 16 6 (hexL u) = runeOf u := by
    rw [numL_yes (ne_of_pos (hexL_pos u)) (hexL_len 5 u h) (List.all_eq_true.2 (hexL_all u)), hexL_val]
  have ht : refT ([35, 120] ++ hexL u) = runeOf u := by
    unfold refT
    rw [if_pos (.inl ((pre_iff _ _).2 ⟨_, rfl⟩))]
    exact h1
  have := refL_yes (t := [35, 120] ++ hexL u) (by rw [ht]; exact (runeOf_ok u).1) []
  rw [ht] at this
  have e : [38, 35, 120] ++ hexL u ++ [59] = 38 :: ([35, 120] ++ hexL u ++ 59 :: []) := by simp
  rw [e, this]
  simp only [List.length_append, List.length_cons, List.length_nil, Prod.mk.injEq, true_and]; omega
theorem ref_dec (u : Nat) (h : (Lib.decDigits u).length ≤ 7) : refL ([38, 35] ++ Lib.decDigits u ++ [59]) = (runeOf u, (Lib.decDigits u).length + 3) := by
  have h1 : numL 10 7 (Lib.decDigits u) = runeOf u := by
    rw [numL_yes (ne_of_pos (dd_pos u)) h (dec_all u), dec_val]
  have hp : ∀ c : UInt8, 48 ≤ c.toNat ∧ c.toNat ≤ 57 ∨ hasPrefix (35 :: Lib.decDigits u) [35, c] = false := by
    intro c
    by_cases hc : 48 ≤ c.toNat ∧ c.toNat ≤ 57
    · exact .inl hc
    · right
      rw [Bool.eq_false_iff]
      intro k
      obtain ⟨z, e⟩ := (pre_iff _ _).1 k
      simp only [List.cons_append, List.nil_append, List.cons.injEq, true_and] at e
      exact hc (isD_of (dd_all u c (by rw [e]; exact List.mem_cons_self ..)))
  have ht : refT (35 :: Lib.decDigits u) = runeOf u := by
    unfold refT
    rw [if_neg, if_pos (by rw [pre1_cons]; rfl)]
    · exact h1
    · rintro (k | k)
      · rcases hp 120 with h | h
        · exact absurd h (by decide)
        · rw [h] at k; cases k
      · rcases hp 88 with h | h
        · exact absurd h (by decide)
        · rw [h] at k; cases k
  have := refL_yes (t := 35 :: Lib.decDigits u) (by rw [ht]; exact (runeOf_ok u).1) []
  rw [ht] at this
  have e : [38, 35] ++ Lib.decDigits u ++ [59] = 38 :: (35 :: Lib.decDigits u ++ 59 :: []) := by simp
  rw [e, this]
  simp only [List.length_cons]
/-! The loops that write a number. -/
def WrAt (D : Nat → List UInt8) (u v : Nat) (l : List UInt8) : Prop := (l = [] ∧ v = u) ∨ (l ≠ [] ∧ D u = (if v = 0 then [] else D v) ++ l)
theorem dec_step (u : Nat) : Lib.decDigits u = (if u / 10 = 0 then [] else Lib.decDigits (u / 10)) ++ [UInt8.ofNat (48 + u % 10)] := by
  by_cases h : u < 10
  · rw [dd_small h, if_pos (by omega), Nat.mod_eq_of_lt h]; rfl
  · rw [dd_big h, if_neg (by omega)]
theorem hex_step (u : Nat) : hexL u = (if u / 16 = 0 then [] else hexL (u / 16)) ++ [hexC (u % 16)] := by
  by_cases h : u < 16
  · rw [hexL_small h, if_pos (by omega), Nat.mod_eq_of_lt h]; rfl
  · rw [hexL_big h, if_neg (by omega)]
theorem wrAt_next {D : Nat → List UInt8} {B : Nat} {c : Nat → UInt8} (step : ∀ u, D u = (if u / B = 0 then [] else D (u / B)) ++ [c (u % B)]) {u v : Nat} {l : List UInt8} (h : WrAt D u v l) (hv : v ≠ 0 ∨ l = []) : WrAt D u (v / B) ([c (v % B)] ++ l) := by
  refine .inr ⟨by simp, ?_⟩
  rcases h with ⟨rfl, rfl⟩ | ⟨hl, he⟩
  · rw [List.append_nil]; exact step v
  · have hv' : v ≠ 0 := hv.resolve_right hl
    rw [he, if_neg hv', step v, List.append_assoc]
theorem wrAt_end {D : Nat → List UInt8} {u : Nat} {l : List UInt8} (h : WrAt D u 0 l) (hl : l ≠ []) : l = D u := by
  rcases h with ⟨h1, _⟩ | ⟨_, he⟩
  · exact absurd h1 hl
  · rw [he, if_pos rfl]; rfl
theorem wrAt_len {D : Nat → List UInt8} {u v m : Nat} {l : List UInt8} (h : WrAt D u v l) (hu : (D u).length ≤ m) : l.length ≤ m := by
  rcases h with ⟨rfl, rfl⟩ | ⟨_, he⟩
  · simp
  · rw [he, List.length_append] at hu
    omega
def empS : Value → Nat
  | .string b => if b.size = 0 then 1 else 0
  | _ => 0
theorem empS_cons (c : UInt8) (l : List UInt8) : empS (.string ({ data := #[c] } ++ { data := l.toArray })) = 0 := by
  show (if (({ data := #[c] } : ByteArray) ++ { data := l.toArray }).size = 0 then 1 else 0) = 0
  rw [ByteArray.size_append, if_neg]
  show ¬ 1 + _ = 0
  omega
theorem hex_at : ∀ d, d < 16 → (⟨#[48, 49, 50, 51, 52, 53, 54, 55, 56, 57, 97, 98, 99, 100, 101, 102]⟩ : ByteArray).extract d (d + 1) = ⟨#[hexC d]⟩ := by decide +kernel
/-- string([]rune{r}), of any number that isn't negative. -/
theorem enc_bad (r : Int) (h : ¬ okR r) : (Utf8.encode r).data.toList = encodeRune 65533 := by
  have hv : Utf8.valid r = false := by
    unfold Utf8.valid
    unfold okR at h
    simp only [Bool.or_eq_false_iff, Bool.and_eq_false_iff, decide_eq_false_iff_not]
    omega
  unfold Utf8.encode
  simp only [hv]
  have e : ((if false = true then r.toNat else Utf8.runeError) : Nat) = 65533 := rfl
  rw [e]
  decide +kernel
theorem rune_any (W : World) (u : Nat) (h : u ≠ 0) :
    (convert 32 9 (.slice (some ⟨W.heap.size, 0, none⟩) 1 1)).run Tryd.prog (W.alloc (.cells #[.int .i32 u] 21)) = .ok (.string ⟨(encodeRune (runeOf u : Nat)).toArray⟩) (W.alloc (.cells #[.int .i32 u] 21)) := by
  by_cases hk : okR (u : Int)
  · have e : runeOf u = u := by unfold runeOf; unfold okR at hk; rw [if_neg (by omega)]
    rw [e]
    exact one_rune W u hk
  · have e : runeOf u = 65533 := by unfold runeOf; unfold okR at hk; rw [if_pos (by omega)]
    rw [e, run_convert_runes _ 32 9 21 ⟨W.heap.size, 0, none⟩ 1 1 [(u : Int)] (Nat.le_refl _) Tryd.underlying32 Tryd.underlying21 Tryd.underlying9 (fun j hj => by
      have : j = 0 := by simpa using hj
      subst this
      simp [Addr.add, World.cell?_alloc_new])]
    rw [List.take_of_length_le (by simp)]
    have : runesBytes [(u : Int)] = ⟨(encodeRune ((65533 : Nat) : Int)).toArray⟩ := bytes_eq (by
      unfold runesBytes
      rw [List.foldl_cons, List.foldl_nil, bytes_app, enc_bad _ hk]
      rfl)
    rw [this]
theorem num_hex (u : Nat) (h : u < 16777216) (W : World) (hW : Lis W) :
    Calls Tryd.prog 10 #[.string ((⟨#[38, 35, 120]⟩ ++ ⟨(hexL u).toArray⟩) ++ ⟨#[59]⟩)] W fun e w' => e = .returned (.tuple #[.string ⟨(encodeRune (runeOf u : Nat)).toArray⟩, .int .i64 ((hexL u).length + 4 : Nat)]) ∧ W = w' := by
  have lh := hexL_len 5 u h
  have e1 := ref_hex u h
  generalize hexL u = B at *
  obtain ⟨X, hX⟩ : ∃ X : ByteArray, (⟨#[38, 35, 120]⟩ ++ ⟨B.toArray⟩) ++ ⟨#[59]⟩ = X := ⟨_, rfl⟩
  have hd : X.data.toList = [38, 35, 120] ++ B ++ [59] := by rw [← hX]; simp
  have hl := congrArg List.length hd
  simp only [List.length_append, List.length_cons, List.length_nil, bytes_len] at hl
  have := ref_any X W (by unfold maxLen; omega) hW
  rw [hd, refB_of e1 (by omega), e1] at this
  rw [hX]
  exact this
theorem num_dec (u : Nat) (h : u < 16777216) : ∃ (T : ByteArray) (m : Nat), m ≤ 10 ∧ (∀ W, Lis W → Calls Tryd.prog 10 #[.string ((⟨#[38, 35]⟩ ++ ⟨(Lib.decDigits u).toArray⟩) ++ ⟨#[59]⟩)] W fun e w' => e = .returned (.tuple #[.string T, .int .i64 m]) ∧ W = w') ∧
    ((Lib.decDigits u).length ≤ 7 → T = ⟨(encodeRune (runeOf u : Nat)).toArray⟩ ∧ m = (Lib.decDigits u).length + 3) := by
  have ld := dd_len 7 u (by omega)
  have e1 := ref_dec u
  generalize Lib.decDigits u = A at *
  obtain ⟨X, hX⟩ : ∃ X : ByteArray, (⟨#[38, 35]⟩ ++ ⟨A.toArray⟩) ++ ⟨#[59]⟩ = X := ⟨_, rfl⟩
  have hd : X.data.toList = [38, 35] ++ A ++ [59] := by rw [← hX]; simp
  have hl := congrArg List.length hd
  simp only [List.length_append, List.length_cons, List.length_nil, bytes_len] at hl
  rw [hX]
  refine ⟨⟨(refB X.data.toList).toArray⟩, (refL X.data.toList).2, ?_, fun W hW => ref_any X W (by unfold maxLen; omega) hW, fun h7 => ?_⟩
  · rcases refL_facts X.data.toList with e | e
    · rw [e]; exact Nat.zero_le _
    · exact e.2.1
  · rw [hd, refB_of (e1 h7) (by omega), e1 h7]
    exact ⟨rfl, rfl⟩
set_option maxHeartbeats 400000 in
theorem nnum_out (r : Int) (w : World) (h : r < 0 ∨ 16777215 < r) (hO : Lis w) :
    Calls Tryd.prog 5 #[.int .i32 r] w fun e w' => e = .returned (.bool true) ∧ Keeps w w' := by
  have AW := Lib.hid (awake6_any w hO)
  clear hO
  rcases h with h | h
  all_goals
    go_enter Tryd.func5, Tryd.ntmps5
    go_wp2_with fail
    refine AW.out.mono ?_
    rintro e w2 ⟨rfl, k2⟩
    go_wp2_with fail
    go_ret
    exact ⟨rfl, k2⟩
set_option maxHeartbeats 4000000 in
theorem nnum_in (u : Nat) (w : World) (h : u ≤ 16777215) (hO : Lis w) :
    Calls Tryd.prog 5 #[.int .i32 u] w fun e w' => e = .returned (.bool true) ∧ Keeps w w' := by
  have AW := Lib.hid (fun W h => awake6_any W h)
  have HO := Lib.hid hO
  have ld := dd_len 7 u (by omega)
  have lh := hexL_len 5 u (by omega)
  clear hO
  go_enter Tryd.func5, Tryd.ntmps5
  go_wp2_with fail
  go_loopw [3, 5] (fun a n wr => ∃ (v : Nat) (l : List UInt8), Hid (WrAt Lib.decDigits u v l) ∧ v ≤ 16777215 ∧ l.length ≤ 8 ∧ Hid (Keeps w wr) ∧ n = .int .i64 v ∧ a = .string ⟨l.toArray⟩) (fun a n _ => (RowKit.intOf n).toNat + empS a)
  case atStart => exact ⟨u, [], Lib.hid (.inl ⟨rfl, rfl⟩), h, by simp, Lib.hid (Keeps.refl _), rfl, rfl⟩
  case round =>
    obtain ⟨v, l, HD, hv, hl, HK, rfl, rfl⟩ := hrel
    have kc := one_byte wr 31 9 5 (UInt8.ofNat (48 + v % 10)) (48 + (v : Int) % 10) (by rw [of48 (Nat.mod_lt _ (by omega))]; omega) Tryd.underlying31 Tryd.underlying5 Tryd.underlying9
    have HE := Lib.hid (empS_cons)
    by_cases c1 : 0 < v
    · have HN := Lib.hid (wrAt_next (B := 10) (c := fun d => UInt8.ofNat (48 + d)) dec_step HD.out (.inl (by omega)))
      have hl2 := wrAt_len HN.out ld
      have HK2 := Lib.hid (HK.out.alloc (.cells #[.int .u8 (48 + (v : Int) % 10)] 5))
      generalize UInt8.ofNat (48 + v % 10) = c at *
      go_wp2_with fail
      go_roundw
      case rel => exact ⟨v / 10, [c] ++ l, HN, by omega, hl2, HK2, by go_num, congrArg Value.string (bytes_eq (by simp))⟩
      case measure =>
        rw [HE.out]
        simp [RowKit.intOf]; omega
    · have h0 : v = 0 := by omega
      subst h0
      by_cases hl0 : l = []
      · subst hl0
        have HN := Lib.hid (wrAt_next (B := 10) (c := fun d => UInt8.ofNat (48 + d)) dec_step HD.out (.inr rfl))
        have HK2 := Lib.hid (HK.out.alloc (.cells #[.int .u8 48] 5))
        clear kc
        have kc := one_byte wr 31 9 5 48 48 rfl Tryd.underlying31 Tryd.underlying5 Tryd.underlying9
        go_wp2_with fail
        go_roundw
        case rel => exact ⟨0, [48] ++ [], HN, by omega, by simp, HK2, rfl, congrArg Value.string (bytes_eq (by simp))⟩
        case measure =>
          rw [HE.out]
          simp [RowKit.intOf, empS, ByteArray.size]
      · have hl2e := wrAt_end HD.out hl0
        have tl : l.isEmpty = false := by simpa using hl0
        subst hl2e
        clear kc HD
        have hA0 := dd_pos u
        go_wp2_with fail
        go_loop [4, 6] (fun b n => ∃ (v : Nat) (l2 : List UInt8), Hid (WrAt hexL u v l2) ∧ v ≤ 16777215 ∧ l2.length ≤ 6 ∧ n = .int .i64 v ∧ b = .string ⟨l2.toArray⟩) (fun b n => (RowKit.intOf n).toNat + empS b)
        case atStart => exact ⟨u, [], Lib.hid (.inl ⟨rfl, rfl⟩), h, by simp, rfl, rfl⟩
        case round =>
          obtain ⟨v, l2, HD2, hv2, hl2, rfl, rfl⟩ := hrel
          by_cases c2 : 0 < v
          · have HN := Lib.hid (wrAt_next (B := 16) hex_step HD2.out (.inl (by omega)))
            have hl3 := wrAt_len HN.out lh
            have HX := hex_at (v % 16) (Nat.mod_lt _ (by omega))
            go_wp2_with fail
            go_round
            case rel => exact ⟨v / 16, [hexC (v % 16)] ++ l2, HN, by omega, hl3, by go_num, congrArg Value.string (bytes_eq (by simp))⟩
            case measure =>
              rw [HE.out]
              simp [RowKit.intOf]; omega
          · have h0 : v = 0 := by omega
            subst h0
            by_cases hl1 : l2 = []
            · subst hl1
              have HN := Lib.hid (wrAt_next (B := 16) hex_step HD2.out (.inr rfl))
              have HX : (⟨#[48, 49, 50, 51, 52, 53, 54, 55, 56, 57, 97, 98, 99, 100, 101, 102]⟩ : ByteArray).extract 0 1 = ⟨#[48]⟩ := by decide +kernel
              have HN' : Hid (WrAt hexL u 0 ([48] ++ [])) := HN
              clear HN
              go_wp2_with fail
              go_round
              case rel => exact ⟨0, [48] ++ [], HN', by omega, by simp, rfl, congrArg Value.string (bytes_eq (by simp))⟩
              case measure =>
                rw [HE.out]
                simp [RowKit.intOf, empS, ByteArray.size]
            · have hl2e := wrAt_end HD2.out hl1
              have tl2 : l2.isEmpty = false := by simpa using hl1
              subst hl2e
              clear HD2
              have hB0 := hexL_pos u
              have RX := Lib.hid (fun W hW => num_hex u (by omega) W hW)
              obtain ⟨T, m, hm, HRY, HHT⟩ := num_dec u (by omega)
              have RY := Lib.hid HRY
              have HT := Lib.hid HHT
              clear HRY HHT
              have RU := Lib.hid (fun W h => rune_any W u h)
              have RZ : Hid (u = 0 → encodeRune (runeOf u : Nat) = [239, 191, 189]) := Lib.hid fun e => by subst e; decide +kernel
              have KU : Hid (Keeps w (wr.alloc (.cells #[.int .i32 u] 21))) := Lib.hid (HK.out.alloc _)
              have LU := Lib.hid (HO.out.keep KU.out)
              clear HE
              generalize hexL u = B at *
              generalize Lib.decDigits u = A at *
              by_cases h0 : u = 0
              · rw [RZ.out h0] at RX HT
                subst h0
                have kz := one_rune wr 0 (.inl ⟨by omega, by omega⟩)
                rw [show encodeRune 0 = [0] by decide +kernel] at kz
                by_cases h7 : A.length ≤ 7
                · obtain ⟨rfl, rfl⟩ := HT.out h7
                  go_wp2_with fail
                  refine (RX.out _ LU.out).mono ?_
                  rintro e w2 ⟨rfl, rfl⟩
                  go_wp2_with fail
                  refine (RY.out _ LU.out).mono ?_
                  rintro e w2 ⟨rfl, rfl⟩
                  go_wp2_with fail
                  refine (AW.out _ LU.out).mono ?_
                  rintro e w2 ⟨rfl, k2⟩
                  go_wp2_with fail
                  go_ret
                  exact ⟨rfl, KU.out.trans k2⟩
                · go_wp2_with fail
                  refine (RX.out _ LU.out).mono ?_
                  rintro e w2 ⟨rfl, rfl⟩
                  go_wp2_with fail
                  refine (RY.out _ LU.out).mono ?_
                  rintro e w2 ⟨rfl, rfl⟩
                  go_wp2_with fail
                  refine (AW.out _ LU.out).mono ?_
                  rintro e w2 ⟨rfl, k2⟩
                  go_wp2_with fail
                  go_ret
                  exact ⟨rfl, KU.out.trans k2⟩
              · have ku := RU.out wr h0
                have t0 : ((u : Int) == 0) = false := beq_eq_false_iff_ne.2 (by omega)
                generalize encodeRune (runeOf u : Nat) = E at *
                by_cases h7 : A.length ≤ 7
                · obtain ⟨rfl, rfl⟩ := HT.out h7
                  go_wp2_with fail
                  refine (RX.out _ LU.out).mono ?_
                  rintro e w2 ⟨rfl, rfl⟩
                  go_wp2_with fail
                  refine (RY.out _ LU.out).mono ?_
                  rintro e w2 ⟨rfl, rfl⟩
                  go_wp2_with fail
                  refine (AW.out _ LU.out).mono ?_
                  rintro e w2 ⟨rfl, k2⟩
                  go_wp2_with fail
                  go_ret
                  exact ⟨rfl, KU.out.trans k2⟩
                · go_wp2_with fail
                  refine (RX.out _ LU.out).mono ?_
                  rintro e w2 ⟨rfl, rfl⟩
                  go_wp2_with fail
                  refine (RY.out _ LU.out).mono ?_
                  rintro e w2 ⟨rfl, rfl⟩
                  go_wp2_with fail
                  refine (AW.out _ LU.out).mono ?_
                  rintro e w2 ⟨rfl, k2⟩
                  go_wp2_with fail
                  go_ret
                  exact ⟨rfl, KU.out.trans k2⟩
theorem nnum_any (r : Int) (w : World) (hO : Lis w) :
    Calls Tryd.prog 5 #[.int .i32 r] w fun e w' => e = .returned (.bool true) ∧ Keeps w w' := by
  by_cases h : 0 ≤ r ∧ r ≤ 16777215
  · obtain ⟨u, rfl⟩ : ∃ u : Nat, r = u := ⟨r.toNat, by omega⟩
    exact nnum_in u w (by omega) hO
  · exact nnum_out r w (by omega) hO
end Go.Proofs.YtmljngahlkhihaaDoor

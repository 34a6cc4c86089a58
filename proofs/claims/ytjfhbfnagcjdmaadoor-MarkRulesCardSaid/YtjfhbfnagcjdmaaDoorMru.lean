/-
  MarkRules returns true of any number and gaps.
-/
import Derived.Test.YtjfhbfnagcjdmaaDoorMun
namespace Go.Proofs.YtjfhbfnagcjdmaaDoor
open Go.RowKit Go.Lib

/-- i of the sign c, and blanks behind the first of them. -/
def Mix (c : UInt8) (i : Nat) (l : List UInt8) : Prop := (∀ b ∈ l, b = c ∨ b = 32) ∧ ruleN l = i ∧ (l ≠ [] → l.headD 0 = c)
theorem mix_sign {c : UInt8} {i : Nat} {l : List UInt8} (h : Mix c i l) (hc : isB c = false) : Mix c (i + 1) (l ++ [c]) := by
  obtain ⟨h1, h2, h3⟩ := h
  refine ⟨fun b hb => ?_, ?_, fun _ => ?_⟩
  · rcases List.mem_append.1 hb with hb | hb
    · exact h1 b hb
    · exact .inl (by simpa using hb)
  · rw [ruleN_snoc, h2, hc]; rfl
  · cases l with
    | nil => rfl
    | cons a t => exact h3 (by simp)
theorem mix_blank {c : UInt8} {i : Nat} {l : List UInt8} (h : Mix c i l) (hl : l ≠ []) : Mix c i (l ++ [32]) := by
  obtain ⟨h1, h2, h3⟩ := h
  refine ⟨fun b hb => ?_, ?_, fun _ => ?_⟩
  · rcases List.mem_append.1 hb with hb | hb
    · exact h1 b hb
    · exact .inr (by simpa using hb)
  · rw [ruleN_snoc, h2]; rfl
  · cases l with
    | nil => exact absurd rfl hl
    | cons a t => exact h3 (by simp)
theorem mix_rule {c : UInt8} {i : Nat} {l : List UInt8} (h : Mix c i l) (hs : sgB c = true) : ruleL l = decide (3 ≤ i) := by
  obtain ⟨h1, h2, h3⟩ := h
  unfold ruleL
  rw [h2]
  have : l.all (okRule (l.headD 0)) = true := by
    rw [List.all_eq_true]
    intro b hb
    have hl : l ≠ [] := fun e => by rw [e] at hb; cases hb
    rw [h3 hl]
    unfold okRule
    rcases h1 b hb with rfl | rfl
    · rw [hs, decide_eq_true rfl]; simp
    · rfl
  rw [this]; rfl
theorem okRule_no (h : UInt8) {b : UInt8} (h1 : isB b = false) (h2 : sgB b = false) : okRule h b = false := by unfold okRule; rw [h1, h2]; rfl
set_option maxHeartbeats 4000000 in
set_option maxRecDepth 100000 in
theorem mrules_go (x : Int) (hx0 : 0 ≤ x) (hx1 : x ≤ 255) (c : UInt8) (hsg : (⟨#[42, 95, 45]⟩ : ByteArray).extract (x % 3).toNat (x % 3 + 1).toNat = ⟨#[c]⟩) (hc : sgB c = true) (hb : isB c = false)
    (a : Option Addr) (n cap : Nat) (zs : List Int) (w : World) (hn : n ≤ maxLen) (hz : ∀ z ∈ zs, 0 ≤ z ∧ z ≤ 255) (hl : zs.length = n) (hcell : ∀ k, k < n → ∃ b off, a = some ⟨b, off, none⟩ ∧ w.cell? ⟨b, off + k, none⟩ = some (.int .u8 (zs.getD k 0))) (hE : Env8 w) :
    Calls Tryd.prog 6 #[.int .u8 x, .slice a n cap] w fun e w' => e = .returned (.bool true) ∧ Keeps w w' := by
  have AW := Lib.hid (awake8_any w hE)
  have RU := Lib.hid (fun s W h => rule_any s W h)
  have HC := Lib.hid hcell
  have HZ := Lib.hid hz
  have HL := Lib.hid hl
  have HS := Lib.hid hc
  have HB := Lib.hid hb
  clear hE hcell hz hl hc hb
  unfold maxLen at hn
  have q1 : 0 ≤ x % 3 := by omega
  have q2 : x % 3 ≤ 2 := by omega
  have q3 : 0 ≤ x % 3 + 1 := by omega
  have q4 : x % 3 + 1 ≤ 3 := by omega
  go_enter Tryd.func6, Tryd.ntmps6
  go_wp2_with fail
  obtain ⟨K, hK⟩ : ∃ K : Nat, x / 3 % 9 = (K : Int) := ⟨(x / 3 % 9).toNat, by omega⟩
  have hK8 : K ≤ 8 := by omega
  rw [hK]
  clear hK hsg q1 q2 q3 q4
  have hone : (⟨#[c]⟩ : ByteArray).size = 1 := rfl
  go_loop [7, 8] (fun t v => ∃ (i : Nat) (S : ByteArray), i ≤ K ∧ v = .int .i64 i ∧ t = .string S ∧ S.size ≤ 5 * i ∧ Hid (Mix c i S.data.toList)) (fun _ v => K - (RowKit.intOf v).toNat)
  case atStart => exact ⟨0, ⟨#[]⟩, Nat.zero_le _, rfl, rfl, Nat.le_refl _, Lib.hid ⟨(fun _ h => by cases h), rfl, fun h => absurd rfl h⟩⟩
  case round =>
    obtain ⟨i, S, hi, rfl, rfl, h1, HM⟩ := hrel
    by_cases d : i < K
    · have z1 : S.size + 1 ≤ 9223372036854775807 := by omega
      have HM2 : Hid (Mix c (i + 1) (S ++ ⟨#[c]⟩ : ByteArray).data.toList) := Lib.hid (by rw [byte_snoc]; exact mix_sign HM.out HB.out)
      have hs2 : (S ++ ⟨#[c]⟩ : ByteArray).size ≤ 5 * i + 1 := by rw [size_snoc8]; omega
      have hs3 : 1 ≤ (S ++ ⟨#[c]⟩ : ByteArray).size := by rw [size_snoc8]; omega
      clear HM
      go_wp2_with fail
      generalize (S ++ ⟨#[c]⟩ : ByteArray) = S at *
      by_cases e : i < n
      · obtain ⟨b, off, ha, hcell⟩ := HC.out i e
        subst ha
        have hzi : 0 ≤ zs.getD i 0 ∧ zs.getD i 0 ≤ 255 := by
          have : i < zs.length := by rw [HL.out]; exact e
          rw [List.getD, List.getElem?_eq_getElem this]
          exact HZ.out _ (List.getElem_mem this)
        generalize zs.getD i 0 = z at *
        obtain ⟨hz0, hz1⟩ := hzi
        go_loop [7, 9] (fun t v => ∃ (j : Nat) (S : ByteArray), j ≤ 4 ∧ v = .int .i64 j ∧ t = .string S ∧ S.size ≤ 5 * i + 1 + j ∧ 1 ≤ S.size ∧ Hid (Mix c (i + 1) S.data.toList)) (fun _ v => 10 - (RowKit.intOf v).toNat)
        case atStart => exact ⟨0, S, by omega, rfl, rfl, by omega, hs3, HM2⟩
        case round =>
          obtain ⟨j, S, hj, rfl, rfl, h2, h3, HM⟩ := hrel
          by_cases f : (j : Int) < z % 4
          · go_wp2_with fail
            go_round
            case rel => exact ⟨j + 1, S ++ ⟨#[32]⟩, by omega, by go_num, rfl, by rw [size_snoc8]; omega, by rw [size_snoc8]; omega, Lib.hid (by rw [byte_snoc]; exact mix_blank HM.out (fun e => by have := bytes_len S; rw [e] at this; simp at this; omega))⟩
            case measure => simp [RowKit.intOf]; omega
          · go_wp2_with fail
            go_round
            case rel => exact ⟨i + 1, S, by omega, by go_num, rfl, by omega, HM⟩
            case measure => simp [RowKit.intOf]; omega
      · go_loop [7, 9] (fun t v => v = .int .i64 0 ∧ t = .string S) (fun _ _ => 0)
        case atStart => exact ⟨rfl, rfl⟩
        case round =>
          obtain ⟨rfl, rfl⟩ := hrel
          go_wp2_with fail
          go_round
          case rel => exact ⟨i + 1, S, by omega, by go_num, rfl, by omega, HM2⟩
          case measure => simp [RowKit.intOf]; omega
    · have hik : i = K := by omega
      have R1 := Lib.hid (fun W => RU.out S W (by unfold maxLen; omega))
      have R2 := Lib.hid (fun W => RU.out (S ++ ⟨#[43]⟩) W (by rw [size_snoc8]; unfold maxLen; omega))
      have R3 := Lib.hid (fun W => RU.out (⟨#[120]⟩ ++ S) W (by rw [ByteArray.size_append, show (⟨#[120]⟩ : ByteArray).size = 1 from rfl]; unfold maxLen; omega))
      rw [mix_rule HM.out HS.out, hik] at R1
      rw [byte_snoc, rule_no (b := 43) (by simp) (okRule_no _ (by decide) (by decide))] at R2
      rw [bytes_app, show (⟨#[120]⟩ : ByteArray).data.toList = [120] from rfl, rule_no (b := 120) (by simp) (okRule_no _ (by decide) (by decide))] at R3
      have z1 : S.size + 1 ≤ 9223372036854775807 := by omega
      have z2 : 1 + S.size ≤ 9223372036854775807 := by omega
      clear RU HM hik
      by_cases g : 3 ≤ K
      · rw [decide_eq_true g] at R1
        go_wp2_with fail
        (with_reducible refine AW.out.mono ?_)
        rintro e w1 ⟨rfl, k1⟩
        go_wp2_with fail
        (with_reducible refine (R1.out _).mono ?_)
        rintro e w2 ⟨rfl, rfl⟩
        go_wp2_with fail
        (with_reducible refine (R2.out _).mono ?_)
        rintro e w3 ⟨rfl, rfl⟩
        go_wp2_with fail
        (with_reducible refine (R3.out _).mono ?_)
        rintro e w4 ⟨rfl, rfl⟩
        go_wp2_with fail
        go_ret
        exact ⟨rfl, k1⟩
      · rw [decide_eq_false g] at R1
        go_wp2_with fail
        (with_reducible refine AW.out.mono ?_)
        rintro e w1 ⟨rfl, k1⟩
        go_wp2_with fail
        (with_reducible refine (R1.out _).mono ?_)
        rintro e w2 ⟨rfl, rfl⟩
        go_wp2_with fail
        (with_reducible refine (R2.out _).mono ?_)
        rintro e w3 ⟨rfl, rfl⟩
        go_wp2_with fail
        (with_reducible refine (R3.out _).mono ?_)
        rintro e w4 ⟨rfl, rfl⟩
        go_wp2_with fail
        go_ret
        exact ⟨ret_bool (by rw [decide_eq_false (by omega : ¬ (3 : Int) ≤ (K : Int))]; rfl), k1⟩
theorem mrules_any (x : Int) (hx : 0 ≤ x ∧ x ≤ 255) (a : Option Addr) (n cap : Nat) (zs : List Int) (w : World) (hm : n ≤ maxLen) (hz : ∀ z ∈ zs, (Lit.int .u8 z).wf = true) (hl : zs.length = n) (hc : ∀ k, k < n → ∃ b off, a = some ⟨b, off, none⟩ ∧ b < w.heap.size ∧ w.cell? ⟨b, off + k, none⟩ = some (.int .u8 (zs.getD k 0))) (hE : Env8 w) :
    Calls Tryd.prog 6 #[.int .u8 x, .slice a n cap] w fun e w' => e = .returned (.bool true) ∧ Keeps w w' := by
  have hz2 : ∀ z ∈ zs, 0 ≤ z ∧ z ≤ 255 := fun z k => by simpa [Lit.wf, IntKind.min, IntKind.max, IntKind.signed, IntKind.bits] using hz z k
  have hc2 : ∀ k, k < n → ∃ b off, a = some ⟨b, off, none⟩ ∧ w.cell? ⟨b, off + k, none⟩ = some (.int .u8 (zs.getD k 0)) := fun k hk => by
    obtain ⟨b, off, h1, _, h2⟩ := hc k hk
    exact ⟨b, off, h1, h2⟩
  have h3 : x % 3 = 0 ∨ x % 3 = 1 ∨ x % 3 = 2 := by omega
  rcases h3 with h | h | h
  · exact mrules_go x hx.1 hx.2 42 (by rw [h]; rfl) (by decide) (by decide) a n cap zs w hm hz2 hl hc2 hE
  · exact mrules_go x hx.1 hx.2 95 (by rw [h]; rfl) (by decide) (by decide) a n cap zs w hm hz2 hl hc2 hE
  · exact mrules_go x hx.1 hx.2 45 (by rw [h]; rfl) (by decide) (by decide) a n cap zs w hm hz2 hl hc2 hE
end Go.Proofs.YtjfhbfnagcjdmaaDoor

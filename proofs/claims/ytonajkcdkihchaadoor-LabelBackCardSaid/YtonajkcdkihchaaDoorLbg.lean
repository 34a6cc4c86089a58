/-
  LabelBack returns true of any three texts.
-/
import Derived.Test.YtonajkcdkihchaaDoorLbw
import Derived.Test.YtonajkcdkihchaaDoorLbk
namespace Go.Proofs.YtonajkcdkihchaaDoor
open Go.RowKit Go.Lib

/-- A text of 1 to 100 letters and digits. -/
structure Wrd (x : ByteArray) : Prop where
  pos : 0 < x.size
  most : x.size ≤ 100
  all : ∀ b ∈ x.data.toList, ldB b = true
theorem Wrd.ne {x : ByteArray} (h : Wrd x) : x.data.toList ≠ [] := fun e => by
  have := h.pos
  rw [← bytes_len, e] at this
  simp at this
theorem Wrd.len {x : ByteArray} (h : Wrd x) : x.data.toList.length ≤ 999 := by
  have := h.most
  rw [bytes_len]
  omega
/-- The first definition, as it is. -/
theorem lback_one (n d t X : ByteArray) (W : World) (hn : Wrd n) (hd : Wrd d) (ht : Wrd t) (hX : ⟨#[91]⟩ ++ n ++ ⟨#[93, 58, 32]⟩ ++ d ++ ⟨#[32, 39]⟩ ++ t ++ ⟨#[39, 10]⟩ = X) (hO : Lis W) :
    Calls Tryd.prog 7 #[.string X] W fun e w' => e = .returned (.tuple #[.agg #[.string n, .string d, .string t], .int .i64 (X.size : Nat)]) ∧ Keeps W w' := by
  have E : X.data.toList = 91 :: (n.data.toList ++ 93 :: 58 :: 32 :: (d.data.toList ++ 32 :: 39 :: (t.data.toList ++ 39 :: 10 :: []))) := by
    rw [← hX, bytes_app, bytes_app, bytes_app, bytes_app, bytes_app, bytes_app]
    simp
  have hz : X.size = n.size + d.size + t.size + 8 := by
    rw [← bytes_len, E]
    simp
    omega
  have := define_any X W (by have := hn.most; have := hd.most; have := ht.most; omega) hO
  obtain ⟨a1, a2, a3, a4⟩ := df_titled n.data.toList d.data.toList t.data.toList [] hn.all hd.all ht.all hn.ne hd.ne hn.len
  unfold DfnV refV at this
  rw [E, a1, a2, a3, a4, bytes_mk, bytes_mk, bytes_mk, bytes_len, bytes_len, bytes_len, ← hz] at this
  exact this
/-- The second one, without a title. -/
theorem lback_two (n d Y : ByteArray) (W : World) (hn : Wrd n) (hd : Wrd d) (hY : ⟨#[91]⟩ ++ n ++ ⟨#[93, 58, 10]⟩ ++ d ++ ⟨#[10, 114, 101, 115, 116]⟩ = Y) (hO : Lis W) :
    Calls Tryd.prog 7 #[.string Y] W fun e w' => e = .returned (.tuple #[.agg #[.string n, .string d, .string ⟨#[]⟩], .int .i64 ((n.size : Int) + d.size + 5)]) ∧ Keeps W w' := by
  have E : Y.data.toList = 91 :: (n.data.toList ++ 93 :: 58 :: 10 :: (d.data.toList ++ 10 :: 114 :: [101, 115, 116])) := by
    rw [← hY, bytes_app, bytes_app, bytes_app, bytes_app]
    simp
  have hz : Y.size = n.size + d.size + 9 := by
    rw [← bytes_len, E]
    simp
    omega
  have := define_any Y W (by have := hn.most; have := hd.most; omega) hO
  obtain ⟨a1, a2, a3, a4⟩ := df_alone n.data.toList d.data.toList [101, 115, 116] 10 114 hn.all hd.all hn.ne hd.ne hn.len (.inr rfl) (by decide)
  unfold DfnV refV at this
  rw [E, a1, a2, a3, a4, bytes_mk, bytes_mk, bytes_len, bytes_len, show ((n.size + d.size + 5 : Nat) : Int) = (n.size : Int) + d.size + 5 by omega] at this
  exact this
/-- Both, one behind the other. -/
theorem lback_all (n d t X Z : ByteArray) (W : World) (hn : Wrd n) (hd : Wrd d) (ht : Wrd t) (hX : ⟨#[91]⟩ ++ n ++ ⟨#[93, 58, 32]⟩ ++ d ++ ⟨#[32, 39]⟩ ++ t ++ ⟨#[39, 10]⟩ = X) (hZ : X ++ ⟨#[91]⟩ ++ n ++ ⟨#[93, 58, 32, 111, 116, 104, 101, 114, 10, 101, 110, 100]⟩ = Z) (hO : Lis W) :
    Calls Tryd.prog 8 #[.string Z] W fun e w' => ∃ v, e = .returned (.tuple #[v, .string ⟨#[101, 110, 100]⟩]) ∧ Refs W.heap.size w' v [(n.data.toList, d.data.toList, t.data.toList), (n.data.toList, [111, 116, 104, 101, 114], [])] ∧ Keeps W w' := by
  have E : Z.data.toList = 91 :: (n.data.toList ++ 93 :: 58 :: 32 :: (d.data.toList ++ 32 :: 39 :: (t.data.toList ++ 39 :: 10 :: 91 :: (n.data.toList ++ 93 :: 58 :: 32 :: ([111, 116, 104, 101, 114] ++ 10 :: 101 :: [110, 100]))))) := by
    rw [← hZ, ← hX]
    simp only [bytes_app]
    simp
  have hz : Z.size = n.size + d.size + t.size + n.size + 21 := by
    rw [← bytes_len, E]
    simp
    omega
  have := defined_any Z W (by have := hn.most; have := hd.most; have := ht.most; omega) hO
  obtain ⟨a1, a2⟩ := dfs_two n.data.toList d.data.toList t.data.toList hn.all hd.all ht.all hn.ne hd.ne hn.len
  rw [E, a1, a2] at this
  exact this
/-- .. and the first one is found. -/
theorem lback_find (n d t : ByteArray) (n₀ : Nat) (v : Value) (W : World) (hn : Wrd n) (h : Refs n₀ W v [(n.data.toList, d.data.toList, t.data.toList), (n.data.toList, [111, 116, 104, 101, 114], [])]) :
    Calls Tryd.prog 9 #[v, .string n] W fun e w' => e = .returned (.tuple #[.agg #[.string n, .string d, .string t], .bool true]) ∧ Keeps W w' := by
  have := find_any n₀ v _ n W h (by simp) (by have := hn.most; omega)
  rw [ldn_nrm hn.all, fnd_yes (r := (n.data.toList, d.data.toList, t.data.toList)) rfl] at this
  unfold refV at this
  rw [bytes_mk, bytes_mk, bytes_mk] at this
  exact this
/-- The three texts, by their place. -/
def tx3 (a b c : ByteArray) : Nat → ByteArray
  | 0 => a
  | 1 => b
  | _ => c
theorem tx3_index (a b c : ByteArray) (k : Nat) (hk : k < 3) (w : World) : (Instr.index 26 (.agg #[.string a, .string b, .string c]) (.int .i64 k)).run Tryd.prog w = .ok (.string (tx3 a b c k)) w := by
  have hn : (0 : Int) ≤ (k : Int) ∧ (k : Int) < ((3 : Nat) : Int) := ⟨by omega, by omega⟩
  have ha : ∀ w, (isAgg 9).run Tryd.prog w = .ok false w := fun _ => by kernel_rfl
  have hs : ∀ w, (sizeOf 9).run Tryd.prog w = .ok 1 w := fun _ => by kernel_rfl
  have hc : (#[Value.string a, .string b, .string c] : Array Value)[k]? = some (.string (tx3 a b c k)) := by
    match k, hk with
    | 0, _ => rfl
    | 1, _ => rfl
    | 2, _ => rfl
  generalize #[Value.string a, .string b, .string c] = T at *
  simp [Instr.index, run_underlying Tryd.underlying26, asIntOf, hn, hs, ha, part, hc, go_sem]
  intro h; omega
theorem eql_ref (a b c : ByteArray) (W : World) : (binOp .eql 28 (.agg #[.string a, .string b, .string c]) (.agg #[.string a, .string b, .string c])).run Tryd.prog W = .ok (.bool true) W := by
  rw [run_eql_struct, run_equalIn_agg _ _ _ _ _ (by kernel_rfl) Tryd.stoodInHeld28]
  simp [go_sem, Tryd.underlying28, Tryd.underlying9]
theorem ldl_next {l : List UInt8} {k : Nat} (h : ∀ b ∈ l.take k, ldB b = true) (hk : k < l.length) (hb : ldB l[k] = true) : ∀ b ∈ l.take (k + 1), ldB b = true := by
  rw [List.take_succ_eq_append_getElem hk]
  intro b hb2
  rcases List.mem_append.1 hb2 with h1 | h1
  · exact h b h1
  · rw [List.mem_singleton.1 h1]; exact hb
theorem ld_five (b : UInt8) : (ldB b = true ∧ (97 ≤ b.toNat ∧ b.toNat ≤ 122)) ∨ (ldB b = true ∧ (48 ≤ b.toNat ∧ b.toNat ≤ 57)) ∨ b.toNat < 48 ∨ (57 < b.toNat ∧ b.toNat < 97) ∨ 122 < b.toNat := by
  unfold ldB
  simp only [Bool.or_eq_true, Bool.and_eq_true, decide_eq_true_eq]
  omega
set_option maxRecDepth 100000 in
set_option maxHeartbeats 4000000 in
theorem lback_any (n d t : ByteArray) (w : World) (hn : n.size ≤ maxLen) (hd : d.size ≤ maxLen) (ht : t.size ≤ maxLen) (hO : Lis w) :
    Calls Tryd.prog 4 #[.string n, .string d, .string t] w fun e w' => e = .returned (.bool true) ∧ Keeps w w' := by
  have AW := Lib.hid (fun W h => awake10_any W h)
  have HO := Lib.hid hO
  have IX := Lib.hid (fun k hk W => tx3_index n d t k hk W)
  have TZ : Hid (∀ k, (tx3 n d t k).size ≤ maxLen) := Lib.hid (fun k => by match k with | 0 => exact hn | 1 => exact hd | _ + 2 => exact ht)
  clear hO hn hd ht
  go_enter Tryd.func4, Tryd.ntmps4
  go_wp2_with fail
  generalize (#[Value.string n, .string d, .string t] : Array Value) = T at *
  go_loop [25] (fun i => ∃ k : Nat, k ≤ 3 ∧ i = .int .i64 k ∧ Hid (∀ j, j < k → Wrd (tx3 n d t j))) (fun i => 3 - (RowKit.intOf i).toNat)
  case atStart => exact ⟨0, Nat.zero_le _, rfl, Lib.hid (fun j hj => absurd hj (Nat.not_lt_zero _))⟩
  case round =>
    obtain ⟨k, hk, rfl, HC⟩ := hrel
    by_cases c : k < 3
    · have hix := IX.out k c w
      have hz := TZ.out k
      have HK : Hid (Wrd (tx3 n d t k) → ∀ j, j < k + 1 → Wrd (tx3 n d t j)) := Lib.hid (fun h j hj => by
        by_cases e : j = k
        · rw [e]; exact h
        · exact HC.out j (by omega))
      obtain ⟨X, hX⟩ : ∃ X, tx3 n d t k = X := ⟨_, rfl⟩
      rw [hX] at hix hz HK
      unfold maxLen at hz
      clear hX HC IX TZ
      by_cases x0 : X.size = 0
      · obtain rfl : X = ⟨#[]⟩ := bytes_eq (List.eq_nil_of_length_eq_zero (by rw [bytes_len]; exact x0))
        clear x0 hz HK
        go_wp2_with fail
        refine (AW.out _ HO.out).mono ?_
        rintro e w1 ⟨rfl, k1⟩
        go_wp2_with fail
        go_ret
        exact ⟨rfl, k1⟩
      · have u0 := tl_ne (show 0 < X.size by omega)
        have u1 := tl_empty (show 0 < X.size by omega)
        by_cases x1 : 100 < X.size
        · clear HK
          go_wp2_with fail
          refine (AW.out _ HO.out).mono ?_
          rintro e w1 ⟨rfl, k1⟩
          go_wp2_with fail
          go_ret
          exact ⟨rfl, k1⟩
        · have hl := Lib.hid (bytes_len X)
          go_wp2_with fail
          go_loop [9] (fun i => ∃ j : Nat, j ≤ X.size ∧ i = .int .i64 j ∧ Hid (∀ b ∈ X.data.toList.take j, ldB b = true)) (fun i => X.size - (RowKit.intOf i).toNat)
          case atStart => exact ⟨0, Nat.zero_le _, rfl, Lib.hid (by rw [List.take_zero]; intro b hb; cases hb)⟩
          case round =>
            obtain ⟨j, hj, rfl, HJ⟩ := hrel
            by_cases cj : j < X.size
            · have hb := X[j].toNat_lt
              have NX : Hid (ldB X[j] = true → ∀ b ∈ X.data.toList.take (j + 1), ldB b = true) := Lib.hid (fun g => ldl_next HJ.out (by rw [hl.out]; exact cj) g)
              rcases ld_five X[j] with ⟨g, a1, a2⟩ | ⟨g, a1, a2⟩ | a | ⟨a1, a2⟩ | a
              · have HN := Lib.hid (NX.out g)
                have q1 : decide ((97 : Int) ≤ (X[j].toNat : Int)) = true := decide_eq_true (by omega)
                have q2 : decide ((X[j].toNat : Int) ≤ 122) = true := decide_eq_true (by omega)
                clear HJ NX g
                go_wp2_with fail
                go_round
                case rel => exact ⟨j + 1, by omega, by go_num, HN⟩
                case measure => simp [RowKit.intOf]; omega
              · have HN := Lib.hid (NX.out g)
                have q1 : decide ((97 : Int) ≤ (X[j].toNat : Int)) = false := decide_eq_false (by omega)
                have q2 : decide ((48 : Int) ≤ (X[j].toNat : Int)) = true := decide_eq_true (by omega)
                have q3 : decide ((X[j].toNat : Int) ≤ 57) = true := decide_eq_true (by omega)
                clear HJ NX g
                go_wp2_with fail
                go_round
                case rel => exact ⟨j + 1, by omega, by go_num, HN⟩
                case measure => simp [RowKit.intOf]; omega
              · have q1 : decide ((97 : Int) ≤ (X[j].toNat : Int)) = false := decide_eq_false (by omega)
                have q2 : decide ((48 : Int) ≤ (X[j].toNat : Int)) = false := decide_eq_false (by omega)
                clear HJ NX
                go_wp2_with fail
                refine (AW.out _ HO.out).mono ?_
                rintro e w1 ⟨rfl, k1⟩
                go_wp2_with fail
                go_ret
                exact ⟨rfl, k1⟩
              · have q1 : decide ((97 : Int) ≤ (X[j].toNat : Int)) = false := decide_eq_false (by omega)
                have q2 : decide ((48 : Int) ≤ (X[j].toNat : Int)) = true := decide_eq_true (by omega)
                have q3 : decide ((X[j].toNat : Int) ≤ 57) = false := decide_eq_false (by omega)
                clear HJ NX
                go_wp2_with fail
                refine (AW.out _ HO.out).mono ?_
                rintro e w1 ⟨rfl, k1⟩
                go_wp2_with fail
                go_ret
                exact ⟨rfl, k1⟩
              · have q1 : decide ((97 : Int) ≤ (X[j].toNat : Int)) = true := decide_eq_true (by omega)
                have q2 : decide ((X[j].toNat : Int) ≤ 122) = false := decide_eq_false (by omega)
                have q3 : decide ((48 : Int) ≤ (X[j].toNat : Int)) = true := decide_eq_true (by omega)
                have q4 : decide ((X[j].toNat : Int) ≤ 57) = false := decide_eq_false (by omega)
                clear HJ NX
                go_wp2_with fail
                refine (AW.out _ HO.out).mono ?_
                rintro e w1 ⟨rfl, k1⟩
                go_wp2_with fail
                go_ret
                exact ⟨rfl, k1⟩
            · have HW := Lib.hid (HK.out ⟨by omega, by omega, by
                have := HJ.out
                rw [List.take_of_length_le (by rw [hl.out]; omega)] at this
                exact this⟩)
              clear HJ HK
              go_wp2_with fail
              go_round
              case rel => exact ⟨k + 1, by omega, by go_num, HW⟩
              case measure => simp [RowKit.intOf]; omega
    · have hk3 : k = 3 := by omega
      have N := HC.out 0 (by omega)
      have D := HC.out 1 (by omega)
      have S := HC.out 2 (by omega)
      have N' : Wrd n := N
      have D' : Wrd d := D
      have S' : Wrd t := S
      have nz := N'.most
      have dz := D'.most
      have tz := S'.most
      obtain ⟨X, hX⟩ : ∃ X, (⟨#[91]⟩ ++ n ++ ⟨#[93, 58, 32]⟩ ++ d ++ ⟨#[32, 39]⟩ ++ t ++ ⟨#[39, 10]⟩ : ByteArray) = X := ⟨_, rfl⟩
      obtain ⟨Y, hY⟩ : ∃ Y, (⟨#[91]⟩ ++ n ++ ⟨#[93, 58, 10]⟩ ++ d ++ ⟨#[10, 114, 101, 115, 116]⟩ : ByteArray) = Y := ⟨_, rfl⟩
      obtain ⟨Z, hZ⟩ : ∃ Z, (X ++ ⟨#[91]⟩ ++ n ++ ⟨#[93, 58, 32, 111, 116, 104, 101, 114, 10, 101, 110, 100]⟩ : ByteArray) = Z := ⟨_, rfl⟩
      have D1 := Lib.hid (fun W h => lback_one n d t X W N' D' S' hX h)
      have D2 := Lib.hid (fun W h => lback_two n d Y W N' D' hY h)
      have D3 := Lib.hid (fun W h => lback_all n d t X Z W N' D' S' hX hZ h)
      have D4 := Lib.hid (fun n₀ v W h => lback_find n d t n₀ v W N' h)
      have xz : X.size ≤ 400 := by
        rw [← hX]
        simp only [ByteArray.size_append]
        show 1 + n.size + 3 + d.size + 2 + t.size + 2 ≤ 400
        omega
      have EQ1 := fun W => eql_ref n d t W
      have EQ2 := fun W => eql_ref n d ⟨#[]⟩ W
      clear N D S N' D' S' HC IX TZ hk3
      go_wp2_with fail
      refine (D1.out _ HO.out).mono ?_
      rintro e w1 ⟨rfl, k1⟩
      have X1 := Lib.hid (Blk.new w1 28 #[.string n, .string d, .string t])
      have K1 := Lib.hid (k1.alloc (.cells #[.string n, .string d, .string t] 28))
      clear k1 D1
      go_wp2_with fail
      refine (D2.out _ (HO.out.keep K1.out)).mono ?_
      rintro e w2 ⟨rfl, k2⟩
      have X2 := Lib.hid ((X1.out.keep k2).alloc (.cells #[.string n, .string d, .string ⟨#[]⟩] 28))
      have Y2 := Lib.hid (Blk.new w2 28 #[.string n, .string d, .string ⟨#[]⟩])
      have K2 := Lib.hid ((K1.out.trans k2).alloc (.cells #[.string n, .string d, .string ⟨#[]⟩] 28))
      clear k2 D2 K1 X1 hY
      go_wp2_with fail
      refine (D3.out _ (HO.out.keep K2.out)).mono ?_
      rintro e w3 ⟨v, rfl, hr, k3⟩
      obtain ⟨ao, ca, rfl, _, _⟩ := refs_form hr
      have R3 := Lib.hid hr
      have X3 := Lib.hid (X2.out.keep k3)
      have Y3 := Lib.hid (Y2.out.keep k3)
      have K3 := Lib.hid (K2.out.trans k3)
      clear k3 D3 K2 X2 Y2 hr hX hZ
      go_wp2_with fail
      refine (D4.out _ _ _ R3.out).mono ?_
      rintro e w4 ⟨rfl, k4⟩
      have X4 := Lib.hid (((X3.out.keep k4).alloc (.cells #[.string n, .string d, .string t] 28)).alloc (.cells #[.string n, .string d, .string t] 28))
      have Y4 := Lib.hid (((Y3.out.keep k4).alloc (.cells #[.string n, .string d, .string t] 28)).alloc (.cells #[.string n, .string d, .string t] 28))
      have Z4 := Lib.hid ((Blk.new w4 28 #[.string n, .string d, .string t]).alloc (.cells #[.string n, .string d, .string t] 28))
      have V4 : Hid (Blk ((w4.alloc (.cells #[.string n, .string d, .string t] 28)).alloc (.cells #[.string n, .string d, .string t] 28)) (w4.heap.size + 1) 28 #[.string n, .string d, .string t]) := Lib.hid (by
        have := Blk.new (w4.alloc (.cells #[.string n, .string d, .string t] 28)) 28 #[.string n, .string d, .string t]
        rwa [show (w4.alloc (.cells #[.string n, .string d, .string t] 28)).heap.size = w4.heap.size + 1 by simp] at this)
      have K4 := Lib.hid (((K3.out.trans k4).alloc (.cells #[.string n, .string d, .string t] 28)).alloc (.cells #[.string n, .string d, .string t] 28))
      clear k4 D4 K3 X3 Y3 R3
      go_wp2_with fail
      refine (AW.out _ (HO.out.keep K4.out)).mono ?_
      rintro e w5 ⟨rfl, k5⟩
      have X5 := Lib.hid (X4.out.keep k5)
      have Y5 := Lib.hid (Y4.out.keep k5)
      have Z5 := Lib.hid (Z4.out.keep k5)
      have V5 := Lib.hid (V4.out.keep k5)
      have K5 := Lib.hid (K4.out.trans k5)
      have x0 := X5.out.cell 0 (v := .string n) rfl
      have x1 := X5.out.cell 1 (v := .string d) rfl
      have x2 := X5.out.cell 2 (v := .string t) rfl
      have y0 := Y5.out.cell 0 (v := .string n) rfl
      have y1 := Y5.out.cell 1 (v := .string d) rfl
      have y2 := Y5.out.cell 2 (v := .string ⟨#[]⟩) rfl
      have z0 := Z5.out.cell 0 (v := .string n) rfl
      have z1 := Z5.out.cell 1 (v := .string d) rfl
      have z2 := Z5.out.cell 2 (v := .string t) rfl
      have v0 := V5.out.cell 0 (v := .string n) rfl
      have v1 := V5.out.cell 1 (v := .string d) rfl
      have v2 := V5.out.cell 2 (v := .string t) rfl
      clear k5 K4 X4 Y4 Z4 V4 AW
      go_wp2_with fail
      go_ret
      exact ⟨rfl, K5.out⟩
end Go.Proofs.YtonajkcdkihchaaDoor

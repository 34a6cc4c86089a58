/-
  CursorTabs returns true of any numbers.
-/
import Derived.Test.YtcaphoonjkjlhaaDoorCparts
namespace Go.Proofs.YtcaphoonjkjlhaaDoor
open Go.RowKit Go.Lib

theorem bytes_snoc (S : ByteArray) (b : UInt8) : (S ++ ⟨#[b]⟩).data.toList = S.data.toList ++ [b] := bytes_app S ⟨#[b]⟩
theorem size_snoc (S : ByteArray) (b : UInt8) : (S ++ ⟨#[b]⟩).size = S.size + 1 := by rw [ByteArray.size_append]; rfl
set_option maxHeartbeats 400000 in
theorem ctabs_long (a : Option Addr) (n cap : Nat) (w : World) (hn : n ≤ maxLen) (h : 50 < n) :
    Calls Tryd.prog 5 #[.slice a n cap] w fun e w' => e = .returned (.bool true) ∧ Keeps w w' := by
  have AW := Lib.hid (awake7_any w)
  unfold maxLen at hn
  go_enter Tryd.func5, Tryd.ntmps5
  go_wp2_with fail
  refine AW.out.mono ?_
  rintro e w2 ⟨rfl, k2⟩
  go_wp2_with fail
  go_ret
  exact ⟨rfl, k2⟩
set_option maxHeartbeats 4000000 in
theorem ctabs_short (a : Option Addr) (n cap : Nat) (zs : List Int) (w : World) (hn : n ≤ 50) (hz : ∀ z ∈ zs, 0 ≤ z ∧ z ≤ 255) (hl : zs.length = n) (hc : ∀ k, k < n → ∃ b off, a = some ⟨b, off, none⟩ ∧ w.cell? ⟨b, off + k, none⟩ = some (.int .u8 (zs.getD k 0))) :
    Calls Tryd.prog 5 #[.slice a n cap] w fun e w' => e = .returned (.bool true) ∧ Keeps w w' := by
  have AW := Lib.hid (fun W => awake7_any W)
  have NW := Lib.hid (fun s W => new_any s W)
  have HC := Lib.hid hc
  have HZ := Lib.hid hz
  have HL := Lib.hid hl
  clear hc hz hl
  go_enter Tryd.func5, Tryd.ntmps5
  go_wp2_with fail
  go_loop [3, 4, 5] (fun t c v => ∃ (i col : Nat) (S : ByteArray), i ≤ n ∧ v = .int .i64 i ∧ c = .int .i64 col ∧ t = .string S ∧ col ≤ 10 * i ∧ S.size ≤ 7 * i ∧ Hid (Reach S.data.toList col)) (fun _ _ v => n - (RowKit.intOf v).toNat)
  case atStart => exact ⟨0, 0, ⟨#[]⟩, Nat.zero_le _, rfl, rfl, rfl, by omega, by decide, Lib.hid reach_nil⟩
  case round =>
    obtain ⟨i, col, S, hi, rfl, rfl, rfl, h1, h2, HR⟩ := hrel
    by_cases c : i < n
    · obtain ⟨b, off, ha, hcell⟩ := HC.out i c
      subst ha
      have hzi : 0 ≤ zs.getD i 0 ∧ zs.getD i 0 ≤ 255 := by
        have : i < zs.length := by rw [HL.out]; exact c
        rw [List.getD, List.getElem?_eq_getElem this]
        exact HZ.out _ (List.getElem_mem this)
      generalize zs.getD i 0 = z at *
      obtain ⟨hz0, hz1⟩ := hzi
      go_wp2_with fail
      go_loop [3, 4, 6] (fun t c v => ∃ (k col : Nat) (S : ByteArray), k ≤ 6 ∧ v = .int .i64 k ∧ c = .int .i64 col ∧ t = .string S ∧ col ≤ 10 * i + k ∧ S.size ≤ 7 * i + k ∧ Hid (Reach S.data.toList col)) (fun _ _ v => 7 - (RowKit.intOf v).toNat)
      case atStart => exact ⟨0, col, S, by omega, rfl, rfl, rfl, by omega, by omega, HR⟩
      case round =>
        obtain ⟨k, col, S, hk, rfl, rfl, rfl, h1, h2, HR⟩ := hrel
        by_cases ck : (k : Int) < z % 7
        · go_wp2_with fail
          go_round
          case rel => exact ⟨k + 1, col + 1, _, by omega, by go_num, by go_num, rfl, by omega, by rw [size_snoc]; omega, Lib.hid (by rw [bytes_snoc]; exact reach_blank HR.out)⟩
          case measure => simp [RowKit.intOf]; omega
        · go_wp2_with fail
          go_round
          case rel => exact ⟨i + 1, col / 4 * 4 + 4, _, by omega, by go_num, by go_num, rfl, by omega, by rw [size_snoc]; omega, Lib.hid (by rw [bytes_snoc]; exact reach_tab HR.out)⟩
          case measure => simp [RowKit.intOf]; omega
    · have hX : (S ++ ⟨#[120]⟩ : ByteArray).data.toList = S.data.toList ++ [120] := bytes_snoc S 120
      have hs : (S ++ ⟨#[120]⟩ : ByteArray).size ≤ 400 := by rw [size_snoc]; omega
      have hp : Plc (S ++ ⟨#[120]⟩) S.size col 0 := ⟨by rw [size_snoc]; omega, by omega, okP_nil _⟩
      have SK := Lib.hid (fun W => skip_any (S ++ ⟨#[120]⟩) 0 0 0 1048576 (by omega) (plc_new _) (by omega) W)
      rw [List.drop_zero, hX, show (1048576 : Int).toNat = 1048576 from rfl, reach_skip HR.out (by omega), bytes_len, Nat.zero_add] at SK
      have ID := Lib.hid (fun W => indent_any (S ++ ⟨#[120]⟩) 0 0 0 (plc_new _) (by omega) W)
      rw [List.drop_zero, hX, reach_ind HR.out] at ID
      have RS := Lib.hid (fun W => rest_any (S ++ ⟨#[120]⟩) S.size col 0 hp (by omega) W)
      rw [hX, List.drop_append, bytes_len, Nat.sub_self, List.drop_of_length_le (by rw [bytes_len]; omega)] at RS
      have NX := Lib.hid (NW.out (S ++ ⟨#[120]⟩))
      have hr : (⟨(restL 0 ([] ++ List.drop 0 [120])).toArray⟩ : ByteArray) = ⟨#[120]⟩ := rfl
      rw [hr] at RS
      simp only [Int.cast_ofNat_Int] at SK ID RS NX
      clear hX hp HR hr NW HC HL HZ
      have hsz : S.size + 1 ≤ 9223372036854775807 := by omega
      generalize hXX : (S ++ ⟨#[120]⟩ : ByteArray) = X at *
      clear hs
      go_wp2_with fail
      (with_reducible refine (NX.out _).mono ?_)
      rintro e w1 ⟨rfl, q1⟩
      go_wp2_with fail
      (with_reducible refine (SK.out _).mono ?_)
      rintro e w2 ⟨rfl, q2⟩
      have K2 := Lib.hid (q1.trans q2)
      clear q1 q2
      go_wp2_with fail
      (with_reducible refine (AW.out _).mono ?_)
      rintro e w3 ⟨rfl, q3⟩
      have C3 := Lib.hid ((Blk.new w2 _ _).keep q3)
      have K3 := Lib.hid ((K2.out.alloc _).trans q3)
      clear q3 K2
      generalize w2.heap.size = C at *
      go_wp2_with fail
      (with_reducible refine (NX.out _).mono ?_)
      rintro e w4 ⟨rfl, q4⟩
      have C4 := Lib.hid (C3.out.keep q4)
      have K4 := Lib.hid (K3.out.trans q4)
      clear q4 C3 K3
      go_wp2_with fail
      (with_reducible refine (ID.out _).mono ?_)
      rintro e w5 ⟨rfl, q5⟩
      have C5 := Lib.hid (C4.out.keep q5)
      have K5 := Lib.hid (K4.out.trans q5)
      clear q5 C4 K4
      have c0 : w5.cell? ⟨C, 0, none⟩ = some (.string X) := C5.out.cell 0 rfl
      have c1 : w5.cell? ⟨C, 1, none⟩ = some (.int .i64 S.size) := C5.out.cell 1 rfl
      have c2 : w5.cell? ⟨C, 2, none⟩ = some (.int .i64 col) := C5.out.cell 2 rfl
      have c3 : w5.cell? ⟨C, 3, none⟩ = some (.int .i64 0) := C5.out.cell 3 rfl
      go_wp2_with fail
      (with_reducible refine (RS.out _).mono ?_)
      rintro e w6 ⟨rfl, q6⟩
      go_wp2_with fail
      go_ret
      exact ⟨rfl, K5.out.trans q6⟩
theorem ctabs_any (a : Option Addr) (n cap : Nat) (zs : List Int) (w : World) (hm : n ≤ maxLen) (hz : ∀ z ∈ zs, (Lit.int .u8 z).wf = true) (hl : zs.length = n) (hc : ∀ k, k < n → ∃ b off, a = some ⟨b, off, none⟩ ∧ b < w.heap.size ∧ w.cell? ⟨b, off + k, none⟩ = some (.int .u8 (zs.getD k 0))) :
    Calls Tryd.prog 5 #[.slice a n cap] w fun e w' => e = .returned (.bool true) ∧ Keeps w w' := by
  by_cases h : n ≤ 50
  · exact ctabs_short a n cap zs w h (fun z k => by simpa [Lit.wf, IntKind.min, IntKind.max, IntKind.signed, IntKind.bits] using hz z k) hl (fun k hk => by
      obtain ⟨b, off, h1, _, h2⟩ := hc k hk
      exact ⟨b, off, h1, h2⟩)
  · exact ctabs_long a n cap w hm (by omega)
end Go.Proofs.YtcaphoonjkjlhaaDoor

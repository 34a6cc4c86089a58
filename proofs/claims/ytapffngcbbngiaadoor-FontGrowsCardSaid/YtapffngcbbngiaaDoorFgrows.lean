/-
  FontGrows returns true of any font, codes and sizes.
-/
import Derived.Test.YtapffngcbbngiaaDoorFaw
namespace Go.Proofs.YtapffngcbbngiaaDoor
open Go.RowKit Go.Lib

set_option maxHeartbeats 800000 in
theorem fgrows_long (f p q : Int) (s : ByteArray) (w : World) (hs : s.size ≤ maxLen) (h : 500 < s.size) (hF : Fnt w) :
    Calls Tryd.prog 6 #[.int .i64 f, .string s, .agg #[.int .u16 p, .int .u16 q]] w fun e w' => e = .returned (.bool true) ∧ Keeps w w' := by
  have AW := Lib.hid (fun W h => awake5_any W h)
  have HF := Lib.hid hF
  unfold maxLen at hs
  clear hF
  go_enter Tryd.func6, Tryd.ntmps6
  go_wp2_with fail
  refine (AW.out _ (HF.out.keep ((Keeps.refl w).alloc _))).mono ?_
  rintro e w1 ⟨rfl, rfl⟩
  go_wp2_with fail
  go_ret
  exact ⟨rfl, (Keeps.refl w).alloc _⟩
theorem grows_asc {a b : Int} (ha : 0 ≤ a) (hab : a ≤ b) : (3 * a).tdiv 4 ≤ (3 * b).tdiv 4 := by
  rw [Int.tdiv_eq_ediv_of_nonneg (by omega), Int.tdiv_eq_ediv_of_nonneg (by omega)]; omega
theorem grows_desc {a b : Int} (ha : 0 ≤ a) (hab : a ≤ b) : a.tdiv 4 ≤ b.tdiv 4 := by
  rw [Int.tdiv_eq_ediv_of_nonneg (by omega), Int.tdiv_eq_ediv_of_nonneg (by omega)]; omega
theorem grows_sum {a : Int} (ha : 0 ≤ a) : (3 * a).tdiv 4 + a.tdiv 4 ≤ a ∧ 0 ≤ (3 * a).tdiv 4 ∧ (3 * a).tdiv 4 ≤ a ∧ 0 ≤ a.tdiv 4 ∧ a.tdiv 4 ≤ a := by
  rw [Int.tdiv_eq_ediv_of_nonneg (by omega), Int.tdiv_eq_ediv_of_nonneg (by omega)]; omega
set_option maxHeartbeats 1000000 in
theorem fgrows_short (f p q : Int) (s : ByteArray) (w : World) (hs : s.size ≤ 500) (hp : 0 ≤ p) (hp2 : p ≤ 65535) (hq : 0 ≤ q) (hq2 : q ≤ 65535) (hF : Fnt w) :
    Calls Tryd.prog 6 #[.int .i64 f, .string s, .agg #[.int .u16 p, .int .u16 q]] w fun e w' => e = .returned (.bool true) ∧ Keeps w w' := by
  have AW := Lib.hid (fun W h => awake5_any W h)
  have HF := Lib.hid hF
  have AD := Lib.hid (fun c hc W h => adv_any 4 p c hc W (by omega) (by omega) h)
  have R1 := Lib.hid (fun W h => run_any f p s W (by omega) (by omega) (by omega) h)
  have R2 := Lib.hid (fun W h => run_any f (p + q) s W (by omega) (by omega) (by omega) h)
  have R3 := Lib.hid (fun W h => run_any 4 p s W (by omega) (by omega) (by omega) h)
  have A1 := Lib.hid (fun W => ascent_any p W (by omega) (by omega))
  have A2 := Lib.hid (fun W => ascent_any (p + q) W (by omega) (by omega))
  have D1 := Lib.hid (fun W => descent_any p W (by omega) (by omega))
  have D2 := Lib.hid (fun W => descent_any (p + q) W (by omega) (by omega))
  have g1 := run_grows (f := f) (a := p) (b := p + q) (by omega) (by omega) s.data.toList
  have g2 := grows_asc (a := p) (b := p + q) (by omega) (by omega)
  have g3 := grows_desc (a := p) (b := p + q) (by omega) (by omega)
  obtain ⟨g4, g5, g6, g7, g8⟩ := grows_sum (a := p) (by omega)
  have M := Lib.hid (fun c => run_mono p c s.data.toList)
  rw [bytes_len] at M
  have a0 := fun c hc => adv_nonneg (f := 4) (size := p) (c := c) hc (by omega)
  have a1 := fun c hc => adv_le (f := 4) (size := p) (c := c) hc (by omega) (by omega)
  have N0 : Hid (s.size = 0 → runL 4 p s.data.toList = 0) := Lib.hid fun h => by
    have := List.eq_nil_of_length_eq_zero ((bytes_len s).trans h)
    rw [this]; rfl
  generalize runL f p s.data.toList = z1 at *
  generalize runL f (p + q) s.data.toList = z2 at *
  generalize (3 * p).tdiv 4 = y1 at *
  generalize (3 * (p + q)).tdiv 4 = y2 at *
  generalize p.tdiv 4 = x1 at *
  generalize (p + q).tdiv 4 = x2 at *
  generalize runL 4 p s.data.toList = z3 at *
  clear hF
  have hsum : IntKind.i64.wrap (p + q) = p + q := IntWalk.i64_in _ ⟨by omega, by omega⟩
  by_cases h0 : 0 < s.size
  · have hb := s[0].toNat_lt
    have B0 := a0 s[0].toNat hb
    have B1 := a1 s[0].toNat hb
    have AD' := Lib.hid (AD.out s[0].toNat hb)
    have hm : z3 = (s.size : Int) * advL 4 p s[0].toNat := M.out _
    have m0 : 0 ≤ (s.size : Int) * advL 4 p s[0].toNat := Int.mul_nonneg (by omega) B0
    have m1 : (s.size : Int) * advL 4 p s[0].toNat ≤ 500 * 2179695902 := Int.mul_le_mul (by omega) B1 B0 (by omega)
    clear M AD N0 a0 a1
    generalize advL 4 p s[0].toNat = d at *
    generalize hmm : (s.size : Int) * d = m at *
    subst hm
    go_enter Tryd.func6, Tryd.ntmps6
    go_wp2_with fail
    go_quiet (fail)
    go_wp2_with fail
    refine (AD'.out _ (HF.out.keep (((Keeps.refl w).alloc _).drewN _))).mono ?_
    rintro e w1 ⟨rfl, rfl⟩
    go_wp2_with fail
    refine (AW.out _ (HF.out.keep (((Keeps.refl w).alloc _).drewN _))).mono ?_
    rintro e w1 ⟨rfl, rfl⟩
    go_wp2_with fail
    refine (R1.out _ (HF.out.keep (((Keeps.refl w).alloc _).drewN _))).mono ?_
    rintro e w1 ⟨rfl, rfl⟩
    go_wp2_with fail
    refine (R2.out _ (HF.out.keep (((Keeps.refl w).alloc _).drewN _))).mono ?_
    rintro e w1 ⟨rfl, rfl⟩
    go_wp2_with fail
    refine (A1.out _).mono ?_
    rintro e w1 ⟨rfl, rfl⟩
    go_wp2_with fail
    refine (A2.out _).mono ?_
    rintro e w1 ⟨rfl, rfl⟩
    go_wp2_with fail
    refine (D1.out _).mono ?_
    rintro e w1 ⟨rfl, rfl⟩
    go_wp2_with fail
    refine (D2.out _).mono ?_
    rintro e w1 ⟨rfl, rfl⟩
    go_wp2_with fail
    refine (A1.out _).mono ?_
    rintro e w1 ⟨rfl, rfl⟩
    go_wp2_with fail
    refine (D1.out _).mono ?_
    rintro e w1 ⟨rfl, rfl⟩
    go_wp2_with fail
    refine (R3.out _ (HF.out.keep (((Keeps.refl w).alloc _).drewN _))).mono ?_
    rintro e w1 ⟨rfl, rfl⟩
    go_wp2_with fail
    go_ret
    exact ⟨rfl, ((Keeps.refl w).alloc _).drewN _⟩
  · have hm : z3 = 0 := N0.out (by omega)
    subst hm
    clear M AD N0 a0 a1
    go_enter Tryd.func6, Tryd.ntmps6
    go_wp2_with fail
    go_quiet (fail)
    go_wp2_with fail
    refine (AW.out _ (HF.out.keep (((Keeps.refl w).alloc _).drewN _))).mono ?_
    rintro e w1 ⟨rfl, rfl⟩
    go_wp2_with fail
    refine (R1.out _ (HF.out.keep (((Keeps.refl w).alloc _).drewN _))).mono ?_
    rintro e w1 ⟨rfl, rfl⟩
    go_wp2_with fail
    refine (R2.out _ (HF.out.keep (((Keeps.refl w).alloc _).drewN _))).mono ?_
    rintro e w1 ⟨rfl, rfl⟩
    go_wp2_with fail
    refine (A1.out _).mono ?_
    rintro e w1 ⟨rfl, rfl⟩
    go_wp2_with fail
    refine (A2.out _).mono ?_
    rintro e w1 ⟨rfl, rfl⟩
    go_wp2_with fail
    refine (D1.out _).mono ?_
    rintro e w1 ⟨rfl, rfl⟩
    go_wp2_with fail
    refine (D2.out _).mono ?_
    rintro e w1 ⟨rfl, rfl⟩
    go_wp2_with fail
    refine (A1.out _).mono ?_
    rintro e w1 ⟨rfl, rfl⟩
    go_wp2_with fail
    refine (D1.out _).mono ?_
    rintro e w1 ⟨rfl, rfl⟩
    go_wp2_with fail
    refine (R3.out _ (HF.out.keep (((Keeps.refl w).alloc _).drewN _))).mono ?_
    rintro e w1 ⟨rfl, rfl⟩
    go_wp2_with fail
    go_ret
    exact ⟨rfl, ((Keeps.refl w).alloc _).drewN _⟩
theorem fgrows_any (f p q : Int) (s : ByteArray) (w : World) (hs : s.size ≤ maxLen) (hp : 0 ≤ p ∧ p ≤ 65535) (hq : 0 ≤ q ∧ q ≤ 65535) (hF : Fnt w) :
    Calls Tryd.prog 6 #[.int .i64 f, .string s, .agg #[.int .u16 p, .int .u16 q]] w fun e w' => e = .returned (.bool true) ∧ Keeps w w' := by
  by_cases h : s.size ≤ 500
  · exact fgrows_short f p q s w h hp.1 hp.2 hq.1 hq.2 hF
  · exact fgrows_long f p q s w hs (by omega) hF
end Go.Proofs.YtapffngcbbngiaaDoor

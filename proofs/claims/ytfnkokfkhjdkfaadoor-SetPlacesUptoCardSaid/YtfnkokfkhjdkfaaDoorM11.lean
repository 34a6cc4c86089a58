/-
  Texts of the proof, one behind the other: Fnta, Fntb, Fnrr.
-/
import Derived.Test.YtfnkokfkhjdkfaaDoorM3
import Derived.Test.YtfnkokfkhjdkfaaDoorM10
/-
  Contracts of lowWidth, Width, Advance, Ascent, Descent, Name, of the package: they read the tables.
-/
namespace Go.Proofs.YtfnkokfkhjdkfaaDoor
open Go.RowKit Go.Lib

/-- The tables of the package's are as the text lays them. -/
structure Fnt (w : World) : Prop where
  plain : Lib.TabIs Tryd.prog w "compositor/font.plainWidths" .u16 plainTab
  bold : Lib.TabIs Tryd.prog w "compositor/font.boldWidths" .u16 boldTab
  high : Lib.TabIs Tryd.prog w "compositor/font.highWidths" .u16 latinTab
theorem Fnt.keep {w w' : World} (h : Fnt w) (k : Keeps w w') : Fnt w' := ⟨tab_keep h.plain k, tab_keep h.bold k, tab_keep h.high k⟩
theorem gPlain : Tryd.prog.globalNamed "compositor/font.plainWidths" = some 7 := by kernel_rfl
theorem gBold : Tryd.prog.globalNamed "compositor/font.boldWidths" = some 6 := by kernel_rfl
theorem gHigh : Tryd.prog.globalNamed "compositor/font.highWidths" = some 5 := by kernel_rfl
theorem Fnt.plain_cell {w : World} (h : Fnt w) (k : Nat) (hk : k < 95) : w.cell? ⟨7, k, none⟩ = some (.int .u16 (plainTab.getD k 0)) := h.plain.cell gPlain k hk
theorem Fnt.bold_cell {w : World} (h : Fnt w) (k : Nat) (hk : k < 95) : w.cell? ⟨6, k, none⟩ = some (.int .u16 (boldTab.getD k 0)) := h.bold.cell gBold k hk
theorem Fnt.high_cell {w : World} (h : Fnt w) (k : Nat) (hk : k < 96) : w.cell? ⟨5, k, none⟩ = some (.int .u16 (latinTab.getD k 0)) := h.high.cell gHigh k hk

set_option maxRecDepth 100000 in
theorem lowWidth_bold (f : Int) (k : Nat) (w : World) (hF : Fnt w) (hf : f = 1 ∨ f = 3) (hk : k < 95) :
    Calls Tryd.prog 90 #[.int .i64 f, .int .i64 k] w fun e w' => e = .returned (.int .i64 (boldTab.getD k 0)) ∧ w = w' := by
  have hc := hF.bold_cell k hk
  obtain ⟨z0, z1⟩ := bold_range k hk
  generalize boldTab.getD k 0 = z at *
  clear hF
  rcases hf with rfl | rfl
  all_goals
    go_enter Tryd.func90, Tryd.ntmps90
    go_wp2
    go_ret
    exact ⟨rfl, rfl⟩
set_option maxRecDepth 100000 in
theorem lowWidth_plain (f : Int) (k : Nat) (w : World) (hF : Fnt w) (hf : ¬ (f = 1 ∨ f = 3)) (hk : k < 95) :
    Calls Tryd.prog 90 #[.int .i64 f, .int .i64 k] w fun e w' => e = .returned (.int .i64 (plainTab.getD k 0)) ∧ w = w' := by
  have hc := hF.plain_cell k hk
  obtain ⟨z0, z1⟩ := plain_range k hk
  generalize plainTab.getD k 0 = z at *
  have t1 : (f == 1) = false := beq_eq_false_iff_ne.2 (by omega)
  have t2 : (f == 3) = false := beq_eq_false_iff_ne.2 (by omega)
  clear hF hf
  go_enter Tryd.func90, Tryd.ntmps90
  go_wp2
  go_ret
  exact ⟨rfl, rfl⟩
end Go.Proofs.YtfnkokfkhjdkfaaDoor

/-
  Contracts of Width, Advance, Ascent, Descent, Name, of the package.
-/
namespace Go.Proofs.YtfnkokfkhjdkfaaDoor
open Go.RowKit Go.Lib

set_option maxRecDepth 100000 in
theorem width_mono_go (x : Int) (w : World) :
    Calls Tryd.prog 81 #[.int .i64 4, .int .u8 x] w fun e w' => e = .returned (.int .i64 600) ∧ w = w' := by
  go_enter Tryd.func81, Tryd.ntmps81
  go_wp2
  go_ret
  exact ⟨rfl, rfl⟩
set_option maxRecDepth 100000 in
theorem width_latin_go (f x : Int) (k : Nat) (z : Int) (w : World) (t4 : (f == 4) = false) (h0 : 160 ≤ x) (h1 : x < 256) (hx : x - 160 = (k : Int)) (z0 : 191 ≤ z) (z1 : z ≤ 1015)
    (hz : w.cell? ⟨5, k, none⟩ = some (.int .u16 z)) :
    Calls Tryd.prog 81 #[.int .i64 f, .int .u8 x] w fun e w' => e = .returned (.int .i64 z) ∧ w = w' := by
  go_enter Tryd.func81, Tryd.ntmps81
  go_wp2
  go_ret
  exact ⟨rfl, rfl⟩
set_option maxRecDepth 100000 in
theorem width_low_go (f x : Int) (k : Nat) (z : Int) (w : World) (t4 : (f == 4) = false) (h0 : 32 ≤ x) (h1 : x < 127) (hx : x - 32 = (k : Int))
    (C : Hid (Calls Tryd.prog 90 #[.int .i64 f, .int .i64 k] w fun e w' => e = .returned (.int .i64 z) ∧ w = w')) :
    Calls Tryd.prog 81 #[.int .i64 f, .int .u8 x] w fun e w' => e = .returned (.int .i64 z) ∧ w = w' := by
  go_enter Tryd.func81, Tryd.ntmps81
  go_wp2_with fail
  refine C.out.mono ?_
  rintro e w' ⟨rfl, rfl⟩
  go_wp2_with fail
  go_ret
  exact ⟨rfl, rfl⟩
set_option maxRecDepth 100000 in
theorem width_other_go (f x : Int) (w : World) (t4 : (f == 4) = false) (h0 : 0 ≤ x) (h2 : x < 32 ∨ (126 < x ∧ x < 160)) :
    Calls Tryd.prog 81 #[.int .i64 f, .int .u8 x] w fun e w' => e = .returned (.int .i64 556) ∧ w = w' := by
  rcases h2 with h2 | ⟨h2, h3⟩
  all_goals
    go_enter Tryd.func81, Tryd.ntmps81
    go_wp2
    go_ret
    exact ⟨rfl, rfl⟩
theorem width_any (f : Int) (c : Nat) (hc : c < 256) (w : World) (hF : Fnt w) :
    Calls Tryd.prog 81 #[.int .i64 f, .int .u8 c] w fun e w' => e = .returned (.int .i64 (widthL f c)) ∧ w = w' := by
  rcases width_ways f c hc with rfl | ⟨h4, ⟨k, hk, rfl⟩ | ⟨k, hk, rfl⟩ | h2⟩
  · rw [width_mono]; exact width_mono_go _ w
  · rw [width_latin h4]
    exact width_latin_go f _ k _ w (beq_eq_false_iff_ne.2 h4) (by omega) (by omega) (by omega) (latin_range k hk).1 (latin_range k hk).2 (hF.high_cell k hk)
  · by_cases hb : f = 1 ∨ f = 3
    · rw [width_bold hb hk]
      exact width_low_go f _ k _ w (beq_eq_false_iff_ne.2 h4) (by omega) (by omega) (by omega) (Lib.hid (lowWidth_bold f k w hF hb hk))
    · rw [width_plain h4 hb hk]
      exact width_low_go f _ k _ w (beq_eq_false_iff_ne.2 h4) (by omega) (by omega) (by omega) (Lib.hid (lowWidth_plain f k w hF hb hk))
  · rw [width_other h4 h2]
    exact width_other_go f _ w (beq_eq_false_iff_ne.2 h4) (by omega) (by omega)
set_option maxRecDepth 100000 in
theorem adv_any (f size : Int) (c : Nat) (hc : c < 256) (w : World) (h1 : -2147483648 ≤ size) (h2 : size ≤ 2147483648) (hF : Fnt w) :
    Calls Tryd.prog 69 #[.int .i64 f, .int .i64 size, .int .u8 c] w fun e w' => e = .returned (.int .i64 (advL f size c)) ∧ w = w' := by
  have C := Lib.hid (width_any f c hc w hF)
  have hm := mul_any (f := f) (size := size) hc h1 h2
  have E := Lib.hid (show advL f size c = (widthL f c * size).tdiv 1000 from rfl)
  obtain ⟨m1, m2⟩ := hm
  generalize widthL f c = wd at *
  generalize hp : wd * size = p at *
  clear hF
  rw [E.out]
  clear E
  go_enter Tryd.func69, Tryd.ntmps69
  go_wp2_with fail
  refine C.out.mono ?_
  rintro e w' ⟨rfl, rfl⟩
  go_wp2_with fail
  go_ret
  exact ⟨rfl, rfl⟩
end Go.Proofs.YtfnkokfkhjdkfaaDoor

/-
  Contracts of the document's answers of layer 5: Width, Advance, Ascent, Descent, Name; and of small.
-/
namespace Go.Proofs.YtfnkokfkhjdkfaaDoor
open Go.RowKit Go.Lib

/-- The document's tables are as the text lays them. -/
structure FntR (w : World) : Prop where
  plain : Lib.TabIs Tryd.prog w "compositor/compositorref05.plain" .i64 plainTab
  bold : Lib.TabIs Tryd.prog w "compositor/compositorref05.bold" .i64 boldTab
  latin : Lib.TabIs Tryd.prog w "compositor/compositorref05.latin" .i64 latinTab
theorem FntR.keep {w w' : World} (h : FntR w) (k : Keeps w w') : FntR w' := ⟨tab_keep h.plain k, tab_keep h.bold k, tab_keep h.latin k⟩
theorem gRplain : Tryd.prog.globalNamed "compositor/compositorref05.plain" = some 4 := by kernel_rfl
theorem gRbold : Tryd.prog.globalNamed "compositor/compositorref05.bold" = some 3 := by kernel_rfl
theorem gRlatin : Tryd.prog.globalNamed "compositor/compositorref05.latin" = some 2 := by kernel_rfl

set_option maxRecDepth 100000 in
theorem rwidth_mono_go (x : Int) (w : World) :
    Calls Tryd.prog 77 #[.int .i64 4, .int .u8 x] w fun e w' => e = .returned (.int .i64 600) ∧ w = w' := by
  go_enter Tryd.func77, Tryd.ntmps77
  go_wp2
  go_ret
  exact ⟨rfl, rfl⟩
set_option maxRecDepth 100000 in
theorem rwidth_latin_go (f x : Int) (k : Nat) (z : Int) (w : World) (t4 : (f == 4) = false) (h0 : 160 ≤ x) (h1 : x < 256) (hx : x - 160 = (k : Int))
    (hz : w.cell? ⟨2, k, none⟩ = some (.int .i64 z)) :
    Calls Tryd.prog 77 #[.int .i64 f, .int .u8 x] w fun e w' => e = .returned (.int .i64 z) ∧ w = w' := by
  go_enter Tryd.func77, Tryd.ntmps77
  go_wp2
  go_ret
  exact ⟨rfl, rfl⟩
set_option maxRecDepth 100000 in
theorem rwidth_bold_go (f x : Int) (k : Nat) (z : Int) (w : World) (hf : f = 1 ∨ f = 3) (h0 : 32 ≤ x) (h1 : x < 127) (hx : x - 32 = (k : Int))
    (hz : w.cell? ⟨3, k, none⟩ = some (.int .i64 z)) :
    Calls Tryd.prog 77 #[.int .i64 f, .int .u8 x] w fun e w' => e = .returned (.int .i64 z) ∧ w = w' := by
  rcases hf with rfl | rfl
  all_goals
    go_enter Tryd.func77, Tryd.ntmps77
    go_wp2
    go_ret
    exact ⟨rfl, rfl⟩
set_option maxRecDepth 100000 in
theorem rwidth_plain_go (f x : Int) (k : Nat) (z : Int) (w : World) (t4 : (f == 4) = false) (t1 : (f == 1) = false) (t3 : (f == 3) = false) (h0 : 32 ≤ x) (h1 : x < 127) (hx : x - 32 = (k : Int))
    (hz : w.cell? ⟨4, k, none⟩ = some (.int .i64 z)) :
    Calls Tryd.prog 77 #[.int .i64 f, .int .u8 x] w fun e w' => e = .returned (.int .i64 z) ∧ w = w' := by
  go_enter Tryd.func77, Tryd.ntmps77
  go_wp2
  go_ret
  exact ⟨rfl, rfl⟩
set_option maxRecDepth 100000 in
theorem rwidth_other_go (f x : Int) (w : World) (t4 : (f == 4) = false) (h0 : 0 ≤ x) (h2 : x < 32 ∨ (126 < x ∧ x < 160)) :
    Calls Tryd.prog 77 #[.int .i64 f, .int .u8 x] w fun e w' => e = .returned (.int .i64 556) ∧ w = w' := by
  rcases h2 with h2 | ⟨h2, h3⟩
  all_goals
    go_enter Tryd.func77, Tryd.ntmps77
    go_wp2
    go_ret
    exact ⟨rfl, rfl⟩
theorem rwidth_any (f : Int) (c : Nat) (hc : c < 256) (w : World) (hF : FntR w) :
    Calls Tryd.prog 77 #[.int .i64 f, .int .u8 c] w fun e w' => e = .returned (.int .i64 (widthL f c)) ∧ w = w' := by
  rcases width_ways f c hc with rfl | ⟨h4, ⟨k, hk, rfl⟩ | ⟨k, hk, rfl⟩ | h2⟩
  · rw [width_mono]; exact rwidth_mono_go _ w
  · rw [width_latin h4]
    exact rwidth_latin_go f _ k _ w (beq_eq_false_iff_ne.2 h4) (by omega) (by omega) (by omega) (hF.latin.cell gRlatin k hk)
  · by_cases hb : f = 1 ∨ f = 3
    · rw [width_bold hb hk]
      exact rwidth_bold_go f _ k _ w hb (by omega) (by omega) (by omega) (hF.bold.cell gRbold k hk)
    · rw [width_plain h4 hb hk]
      exact rwidth_plain_go f _ k _ w (beq_eq_false_iff_ne.2 h4) (beq_eq_false_iff_ne.2 (by omega)) (beq_eq_false_iff_ne.2 (by omega)) (by omega) (by omega) (by omega) (hF.plain.cell gRplain k hk)
  · rw [width_other h4 h2]
    exact rwidth_other_go f _ w (beq_eq_false_iff_ne.2 h4) (by omega) (by omega)
set_option maxRecDepth 100000 in
theorem radv_any (f size : Int) (c : Nat) (hc : c < 256) (w : World) (h1 : -2147483648 ≤ size) (h2 : size ≤ 2147483648) (hF : FntR w) :
    Calls Tryd.prog 64 #[.int .i64 f, .int .i64 size, .int .u8 c] w fun e w' => e = .returned (.int .i64 (advL f size c)) ∧ w = w' := by
  have C := Lib.hid (rwidth_any f c hc w hF)
  have hm := mul_any (f := f) (size := size) hc h1 h2
  have E := Lib.hid (show advL f size c = (widthL f c * size).tdiv 1000 from rfl)
  obtain ⟨m1, m2⟩ := hm
  generalize widthL f c = wd at *
  generalize hp : wd * size = p at *
  clear hF
  rw [E.out]
  clear E
  go_enter Tryd.func64, Tryd.ntmps64
  go_wp2_with fail
  refine C.out.mono ?_
  rintro e w' ⟨rfl, rfl⟩
  go_wp2_with fail
  go_ret
  exact ⟨rfl, rfl⟩
end Go.Proofs.YtfnkokfkhjdkfaaDoor


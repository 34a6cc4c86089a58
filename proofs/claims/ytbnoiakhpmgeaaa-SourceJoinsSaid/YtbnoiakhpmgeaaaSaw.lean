/-
  awake, of the statements of layer 3, returns true.
-/
import Derived.Test.YtbnoiakhpmgeaaaSrck
import Derived.Test.YtbnoiakhpmgeaaaSrcn
import Derived.Test.YtbnoiakhpmgeaaaSrcd
namespace Go.Proofs.Ytbnoiakhpmgeaaa
open Go.RowKit Go.Lib

theorem aw_lines : linesB ⟨#[97, 10, 10, 98, 10]⟩ = [⟨#[97]⟩, ⟨#[]⟩, ⟨#[98]⟩] := by decide +kernel
theorem aw_clean : cleanL [97, 0, 255, 98, 13, 10, 99, 13, 100] = [97, 239, 191, 189, 239, 191, 189, 98, 10, 99, 10, 100] := by decide +kernel
theorem aw_blank : blankL [32, 9] = true := by decide +kernel
theorem aw_trim : trimL [10, 32, 97, 32, 9] = [97] := by decide +kernel

set_option maxHeartbeats 800000 in
theorem awake_any (w : World) : Calls Try.prog 8 #[] w fun e w' => e = .returned (.bool true) ∧ Keeps w w' := by
  have L := Lib.hid (fun W => lines_any ⟨#[97, 10, 10, 98, 10]⟩ W (by decide +kernel))
  have C := Lib.hid (fun W => clean_any ⟨#[97, 0, 255, 98, 13, 10, 99, 13, 100]⟩ W (by decide +kernel))
  have B := Lib.hid (fun W => blank_any ⟨#[32, 9]⟩ W)
  have T := Lib.hid (fun W => trim_any ⟨#[10, 32, 97, 32, 9]⟩ W (by decide +kernel))
  rw [aw_lines] at L
  rw [show (⟨#[97, 0, 255, 98, 13, 10, 99, 13, 100]⟩ : ByteArray).data.toList = [97, 0, 255, 98, 13, 10, 99, 13, 100] from rfl, aw_clean] at C
  rw [show (⟨#[32, 9]⟩ : ByteArray).data.toList = [32, 9] from rfl, aw_blank] at B
  rw [show (⟨#[10, 32, 97, 32, 9]⟩ : ByteArray).data.toList = [10, 32, 97, 32, 9] from rfl, aw_trim] at T
  go_enter Try.func8, Try.ntmps8
  go_wp2_with fail
  refine (L.out _).mono ?_
  rintro e w1 ⟨v, rfl, h1, k1⟩
  obtain ⟨g, cap, rfl⟩ := own_succ (n := 2) h1
  have hr : w1.ownsRow w.heap.size 9 1 (.slice (some ⟨g, 0, none⟩) 3 cap) 3 ([⟨#[97]⟩, ⟨#[]⟩, ⟨#[98]⟩].map Value.string) := h1
  have H1 := Lib.hid hr
  have K1 := Lib.hid k1
  obtain ⟨_, _, hv, hc1, hc2⟩ := own_form hr
  cases hv
  unfold maxLen at hc2
  clear h1 k1 hr
  go_wp2_with fail
  refine (C.out _).mono ?_
  rintro e w2 ⟨rfl, k2⟩
  obtain ⟨_, _, g', hg, hcell⟩ := own_cell (own_keep H1.out k2) (by omega)
  cases hg
  have c2 : w2.cell? ⟨g, 2, none⟩ = some (.string ⟨#[98]⟩) := hcell 2 (by omega)
  have K2 := Lib.hid (K1.out.trans k2)
  clear k2 hcell
  go_wp2_with fail
  refine (B.out _).mono ?_
  rintro e w3 ⟨rfl, k3⟩
  have K3 := Lib.hid (K2.out.trans k3)
  clear k3
  go_wp2_with fail
  refine (T.out _).mono ?_
  rintro e w4 ⟨rfl, k4⟩
  have K4 := Lib.hid (K3.out.trans k4)
  clear k4
  go_wp2_with fail
  go_ret
  exact ⟨rfl, K4.out⟩
end Go.Proofs.Ytbnoiakhpmgeaaa

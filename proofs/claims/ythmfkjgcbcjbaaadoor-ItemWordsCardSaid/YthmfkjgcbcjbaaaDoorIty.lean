/-
  Contract of the law's awake.
-/
import Derived.Test.YthmfkjgcbcjbaaaDoorItx
namespace Go.Proofs.YthmfkjgcbcjbaaaDoor
open Go.RowKit Go.Lib Go.Maps

def awL (g : Nat) : List (St × Value) := [(.mk 1 [97, 98, 32, 32, 99] [] [] [], .slice none 0 0), (.mk 7 [] [] [] [.mk 1 [100] [] [] []], .slice (some ⟨g, 0, none⟩) 1 1)]
theorem aw_at (w : World) : StAt ((w.alloc (.cells #[.int .i64 1, .string ⟨#[100]⟩, .string ⟨#[]⟩, .string ⟨#[]⟩, .slice none 0 0] 39)).alloc (.cells #[.int .i64 1, .string ⟨#[97, 98, 32, 32, 99]⟩, .string ⟨#[]⟩, .string ⟨#[]⟩, .slice none 0 0, .int .i64 7, .string ⟨#[]⟩, .string ⟨#[]⟩, .string ⟨#[]⟩, .slice (some ⟨w.heap.size, 0, none⟩) 1 1] 39)) awSp (.slice (some ⟨w.heap.size + 1, 0, none⟩) 2 2) := by
  refine StAt.blk (L := awL w.heap.size) (blk_two _ _ _ _) (show 2 ≤ maxLen by decide) (fun x hx => ?_)
  rcases List.mem_cons.1 hx with rfl | hx
  · exact StAt.nil _
  · rw [List.mem_singleton] at hx
    subst hx
    exact StAt.blk (L := [(.mk 1 [100] [] [] [], .slice none 0 0)]) ((Blk.new w _ _).alloc _) (by decide) (fun y hy => by rw [List.mem_singleton] at hy; subst hy; exact StAt.nil _)
theorem aw_is (w : World) : IsAt (w.alloc (.cells #[.int .i64 1, .int .i64 24000, .int .i64 0, .int .i64 0, .int .i64 0, .string ⟨#[97, 98, 99, 100]⟩, .int .i64 4, .int .i64 10000, .int .i64 0] 35)) awBx (.slice (some ⟨w.heap.size, 0, none⟩) 1 1) :=
  ⟨_, 1, rfl, Nat.le_refl _, by decide, fun _ => ⟨_, 0, rfl, fun i hi j u hu => by
    have e : i = 0 := by have : i < 1 := hi; omega
    subst e
    exact (Blk.new w 35 (itC awBx[0]).toArray).cell _ (by simpa using hu)⟩⟩
set_option maxRecDepth 100000 in
set_option maxHeartbeats 8000000 in
theorem awake17_any (w : World) (hE : EnvI w) : Calls Tryd.prog 10 #[] w fun e w' => e = .returned (.bool true) ∧ Keeps w w' := by
  have HE := Lib.hid (fun W (k : Keeps w W) => hE.keep k)
  have KA := Lib.hid (fun o o2 => keeps_two w o o2)
  have MK := Lib.hid (fun W lv (hA : StAt W awSp lv) (k : Keeps w W) => make_any awSp lv 0 10000 4 W hA (HE.out W k) (by decide) (by decide) (by decide) (by decide) (by decide))
  rw [aw_make] at MK
  have SP := Lib.hid (fun W lv (hA : IsAt W awBx lv) (k : Keeps w W) => split_any awBx lv 13000 W hA (HE.out W k) (fun x hx => by
    unfold awBx at hx
    rw [List.mem_singleton] at hx
    subst hx
    exact ⟨by decide, .inr ⟨by unfold bxP; rw [aw_box], by decide, by decide⟩⟩) (by decide) (by decide) (by decide))
  rw [aw_split] at SP
  have AT := Lib.hid (aw_at w)
  clear hE HE
  go_enter Tryd.func10, Tryd.ntmps10
  go_wp2_with fail
  refine (MK.out _ _ AT.out (KA.out _ _)).mono ?_
  rintro e w1 ⟨v1, rfl, I1, k1⟩
  have K1 := (KA.out _ _).trans k1
  obtain ⟨A1, c1, rfl, h1, h2, h3⟩ := I1.form
  obtain ⟨g1, rfl⟩ := h3 (by decide)
  have hc1 : 4 ≤ c1 := h1
  have HI := Lib.hid I1
  clear I1 h1 h2 h3 k1
  rw [show awIt.length = 4 from rfl] at *
  go_wp2_with fail
  refine (SP.out _ _ (aw_is _) (K1.alloc _)).mono ?_
  rintro e w2 ⟨v2, rfl, I2, k2⟩
  have K2 := (K1.alloc _).trans k2
  obtain ⟨A2, c2, rfl, h1, h2, h3⟩ := I2.form
  obtain ⟨g2, rfl⟩ := h3 (by decide)
  have hc2 : 3 ≤ c2 := h1
  have I1 := (HI.out.keep ((Keeps.refl w1).alloc _)).keep k2
  have a5 : w2.cell? ⟨g1, 5, none⟩ = some (.string ⟨#[97, 98]⟩) := I1.cell (its := awIt) (i := 0) (by decide) 5 (by decide)
  have a9 : w2.cell? ⟨g1, 9, none⟩ = some (.int .i64 2) := I1.cell (its := awIt) (i := 1) (by decide) 0 (by decide)
  have a10 : w2.cell? ⟨g1, 10, none⟩ = some (.int .i64 2780) := I1.cell (its := awIt) (i := 1) (by decide) 1 (by decide)
  have a23 : w2.cell? ⟨g1, 23, none⟩ = some (.string ⟨#[99]⟩) := I1.cell (its := awIt) (i := 2) (by decide) 5 (by decide)
  have a35 : w2.cell? ⟨g1, 35, none⟩ = some (.int .i64 4) := I1.cell (its := awIt) (i := 3) (by decide) 8 (by decide)
  have b5 : w2.cell? ⟨g2, 5, none⟩ = some (.string ⟨#[97, 98]⟩) := I2.cell (its := awCut) (i := 0) (by decide) 5 (by decide)
  have b9 : w2.cell? ⟨g2, 9, none⟩ = some (.int .i64 3) := I2.cell (its := awCut) (i := 1) (by decide) 0 (by decide)
  have b23 : w2.cell? ⟨g2, 23, none⟩ = some (.string ⟨#[99, 100]⟩) := I2.cell (its := awCut) (i := 2) (by decide) 5 (by decide)
  clear I1 I2 HI h1 h2 h3 k2
  rw [show awCut.length = 3 from rfl] at *
  go_wp2_with fail
  go_ret
  exact ⟨rfl, K2⟩
end Go.Proofs.YthmfkjgcbcjbaaaDoor

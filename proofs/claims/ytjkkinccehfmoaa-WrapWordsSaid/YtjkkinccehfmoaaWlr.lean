/-
  Contract of compositorlaw18's awake.
-/
import Derived.Test.YtjkkinccehfmoaaWlq
namespace Go.Proofs.Ytjkkinccehfmoaa
open Go.RowKit Go.Lib Go.Maps

theorem awL_w : ∀ x ∈ awL, itW x := by
  intro x h
  have key : x = wb 40 ∨ x = wg 12 6 4 := by
    unfold awL at h
    simp only [List.mem_cons, List.not_mem_nil, or_false] at h
    rcases h with h | h | h | h | h <;> simp [h]
  rcases key with rfl | rfl <;> exact ⟨⟨by decide, by decide⟩, ⟨by decide, by decide⟩, by decide, by decide⟩
theorem aw_leg1 : legP awL 1 = true := by kernel_rfl
theorem aw_leg0 : legP awL 0 = false := by kernel_rfl
theorem aw_leg5 : legP awL 5 = true := by kernel_rfl
/-- Numbers that lie in a slice: two of them. -/
theorem ns_two {W : World} {a b : Nat} {v : Value} (h : NsAt W [a, b] v) : ∃ g o cap, v = .slice (some ⟨g, o, none⟩) 2 cap ∧ 2 ≤ cap ∧ cap ≤ maxLen ∧ W.cell? ⟨g, o, none⟩ = some (.int .i64 (a : Nat)) ∧ W.cell? ⟨g, o + 1, none⟩ = some (.int .i64 (b : Nat)) := by
  obtain ⟨A, cap, rfl, h1, h2, h3⟩ := h
  obtain ⟨g, o, rfl, hc⟩ := h3 (by simp)
  exact ⟨g, o, cap, rfl, h1, h2, hc 0 (by simp), hc 1 (by simp)⟩
set_option maxRecDepth 100000 in
set_option maxHeartbeats 8000000 in
theorem awake18_any (W : World) : Calls Try.prog 7 #[] W fun e w' => e = .returned (.bool true) ∧ Keeps W w' := by
  have BX := Lib.hid (fun W1 => wbox_any 40 W1)
  have GL := Lib.hid (fun W1 => wglue_any W1)
  have BK := Lib.hid (fun lv wd W1 (h : IsAt W1 awL lv) (q : -1152921504606846976 ≤ wd) (q2 : wd ≤ 1152921504606846976) => breaks_any awL lv wd W1 h (by decide) awL_w q q2)
  have SU := Lib.hid (fun lv W1 (h : IsAt W1 awL lv) => wsum_any awL lv 1 4 W1 h (by decide) (by decide) (by decide) awL_w)
  rw [aw_sum] at SU
  simp only at SU
  have L1 := Lib.hid (fun lv W1 (h : IsAt W1 awL lv) => legal_any awL lv 1 W1 h (by decide) (by decide))
  have L0 := Lib.hid (fun lv W1 (h : IsAt W1 awL lv) => legal_any awL lv 0 W1 h (by decide) (by decide))
  have L5 := Lib.hid (fun lv W1 (h : IsAt W1 awL lv) => legal_any awL lv 5 W1 h (by decide) (by decide))
  rw [aw_leg1] at L1
  rw [aw_leg0] at L0
  rw [aw_leg5] at L5
  go_enter Try.func7, Try.ntmps7
  go_wp2_with fail
  refine (BX.out _).mono ?_
  rintro e w1 ⟨rfl, k1⟩
  go_wp2_with fail
  refine (GL.out _).mono ?_
  rintro e w2 ⟨rfl, k2⟩
  have K2 := k1.trans k2
  clear k1 k2
  go_wp2_with fail
  refine (BX.out _).mono ?_
  rintro e w3 ⟨rfl, k3⟩
  have K3 := K2.trans k3
  clear K2 k3
  go_wp2_with fail
  refine (GL.out _).mono ?_
  rintro e w4 ⟨rfl, k4⟩
  have K4 := K3.trans k4
  clear K3 k4
  go_wp2_with fail
  refine (BX.out _).mono ?_
  rintro e w5 ⟨rfl, k5⟩
  have K5 := Lib.hid (K4.trans k5)
  clear K4 k5
  have HI : Hid (IsAt (w5.alloc (.cells #[.int .i64 1, .int .i64 40, .int .i64 0, .int .i64 0, .int .i64 0, .string ⟨#[120]⟩, .int .i64 0, .int .i64 0, .int .i64 0, .int .i64 2, .int .i64 12, .int .i64 6, .int .i64 4, .int .i64 0, .string ⟨#[]⟩, .int .i64 0, .int .i64 0, .int .i64 0, .int .i64 1, .int .i64 40, .int .i64 0, .int .i64 0, .int .i64 0, .string ⟨#[120]⟩, .int .i64 0, .int .i64 0, .int .i64 0, .int .i64 2, .int .i64 12, .int .i64 6, .int .i64 4, .int .i64 0, .string ⟨#[]⟩, .int .i64 0, .int .i64 0, .int .i64 0, .int .i64 1, .int .i64 40, .int .i64 0, .int .i64 0, .int .i64 0, .string ⟨#[120]⟩, .int .i64 0, .int .i64 0, .int .i64 0] 32)) awL (.slice (some ⟨w5.heap.size, 0, none⟩) 5 5)) := Lib.hid (isAt_blk (L := awL) (Blk.new w5 32 (itR awL).toArray) (by decide))
  have KA := Lib.hid (K5.out.alloc (.cells #[.int .i64 1, .int .i64 40, .int .i64 0, .int .i64 0, .int .i64 0, .string ⟨#[120]⟩, .int .i64 0, .int .i64 0, .int .i64 0, .int .i64 2, .int .i64 12, .int .i64 6, .int .i64 4, .int .i64 0, .string ⟨#[]⟩, .int .i64 0, .int .i64 0, .int .i64 0, .int .i64 1, .int .i64 40, .int .i64 0, .int .i64 0, .int .i64 0, .string ⟨#[120]⟩, .int .i64 0, .int .i64 0, .int .i64 0, .int .i64 2, .int .i64 12, .int .i64 6, .int .i64 4, .int .i64 0, .string ⟨#[]⟩, .int .i64 0, .int .i64 0, .int .i64 0, .int .i64 1, .int .i64 40, .int .i64 0, .int .i64 0, .int .i64 0, .string ⟨#[120]⟩, .int .i64 0, .int .i64 0, .int .i64 0] 32))
  go_wp2_with fail
  refine (BK.out _ _ _ HI.out (by decide) (by decide)).mono ?_
  rintro e w6 ⟨v, es, ok, rfl, hns, hbk, k6⟩
  obtain ⟨rfl, rfl⟩ := aw92 hbk
  obtain ⟨g, o, cap, rfl, hc1, hc2, a0, a1⟩ := ns_two hns
  have HI6 := Lib.hid (HI.out.keep k6)
  have K6 := Lib.hid (KA.out.trans k6)
  have A0 := Lib.hid a0
  have A1 := Lib.hid a1
  unfold maxLen at hc2
  clear hns hbk k6 a0 a1 HI KA K5
  go_wp2_with fail
  refine (BK.out _ _ _ HI6.out (by decide) (by decide)).mono ?_
  rintro e w7 ⟨v2, es2, ok2, rfl, hns2, hbk2, k7⟩
  have ho := aw30 hbk2
  subst ho
  have HI7 := Lib.hid (HI6.out.keep k7)
  have K7 := Lib.hid (K6.out.trans k7)
  have A07 := Lib.hid (k7.cell2 A0.out)
  have A17 := Lib.hid (k7.cell2 A1.out)
  clear hns2 hbk2 k7 HI6 K6 A0 A1
  go_wp2_with fail
  refine (SU.out _ _ HI7.out).mono ?_
  rintro e w8 ⟨rfl, k8⟩
  have HI8 := Lib.hid (HI7.out.keep k8)
  have K8 := Lib.hid (K7.out.trans k8)
  have a0 := k8.cell2 A07.out
  have a1 := k8.cell2 A17.out
  clear k8 HI7 K7
  go_wp2_with fail
  refine (L1.out _ _ HI8.out).mono ?_
  rintro e w9 ⟨rfl, rfl⟩
  go_wp2_with fail
  refine (L0.out _ _ HI8.out).mono ?_
  rintro e w9 ⟨rfl, rfl⟩
  go_wp2_with fail
  refine (L5.out _ _ HI8.out).mono ?_
  rintro e w9 ⟨rfl, rfl⟩
  go_wp2_with fail
  go_ret
  exact ⟨rfl, K8.out⟩
end Go.Proofs.Ytjkkinccehfmoaa

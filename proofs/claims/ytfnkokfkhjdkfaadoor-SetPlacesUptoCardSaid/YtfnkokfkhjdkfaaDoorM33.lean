/-
  Texts of the proof, one behind the other: Itt, Itu.
-/
import Derived.Test.YtfnkokfkhjdkfaaDoorM32
import Derived.Test.YtfnkokfkhjdkfaaDoorM30
import Derived.Test.YtfnkokfkhjdkfaaDoorM9
import Derived.Test.YtfnkokfkhjdkfaaDoorM18
/-
  Contract of fitting, of the package item's splitter.
-/
namespace Go.Proofs.YtfnkokfkhjdkfaaDoor
open Go.RowKit Go.Lib Go.Maps

/-- How many of a box's codes have room. -/
def fitN (wd f sz : Int) (c : List UInt8) (r : Int) : Nat := if r ≠ wd ∧ wordR r < advL f sz (c.headD 0).toNat then 0 else cutL f sz (wordR r) c
theorem ret_nat {a b : Nat} (h : a = b) : Ending.returned (.int .i64 (a : Nat)) = .returned (.int .i64 (b : Nat)) := by rw [h]
section
variable {W W1 W2 : World} {B C : Nat} {wd r1 r2 f sz : Int} {cb : ByteArray}
theorem fit_pack (a1 : W1.cell? ⟨B, 1, none⟩ = some (.int .i64 wd)) (a2 : W1.cell? ⟨B, 2, none⟩ = some (.int .i64 r1)) (a3 : W1.cell? ⟨B, 3, none⟩ = some (.int .u64 r2)) (a5 : W1.cell? ⟨C, 5, none⟩ = some (.string cb)) (a6 : W1.cell? ⟨C, 6, none⟩ = some (.int .i64 f)) (a7 : W1.cell? ⟨C, 7, none⟩ = some (.int .i64 sz)) (k : Keeps W W1) : W1.cell? ⟨B, 1, none⟩ = some (.int .i64 wd) ∧ W1.cell? ⟨B, 2, none⟩ = some (.int .i64 r1) ∧ W1.cell? ⟨B, 3, none⟩ = some (.int .u64 r2) ∧ W1.cell? ⟨C, 5, none⟩ = some (.string cb) ∧ W1.cell? ⟨C, 6, none⟩ = some (.int .i64 f) ∧ W1.cell? ⟨C, 7, none⟩ = some (.int .i64 sz) ∧ Keeps W W1 := ⟨a1, a2, a3, a5, a6, a7, k⟩
theorem fit_keep (k : Keeps W1 W2) (h : W1.cell? ⟨B, 1, none⟩ = some (.int .i64 wd) ∧ W1.cell? ⟨B, 2, none⟩ = some (.int .i64 r1) ∧ W1.cell? ⟨B, 3, none⟩ = some (.int .u64 r2) ∧ W1.cell? ⟨C, 5, none⟩ = some (.string cb) ∧ W1.cell? ⟨C, 6, none⟩ = some (.int .i64 f) ∧ W1.cell? ⟨C, 7, none⟩ = some (.int .i64 sz) ∧ Keeps W W1) : W2.cell? ⟨B, 1, none⟩ = some (.int .i64 wd) ∧ W2.cell? ⟨B, 2, none⟩ = some (.int .i64 r1) ∧ W2.cell? ⟨B, 3, none⟩ = some (.int .u64 r2) ∧ W2.cell? ⟨C, 5, none⟩ = some (.string cb) ∧ W2.cell? ⟨C, 6, none⟩ = some (.int .i64 f) ∧ W2.cell? ⟨C, 7, none⟩ = some (.int .i64 sz) ∧ Keeps W W2 := ⟨k.cell2 h.1, k.cell2 h.2.1, k.cell2 h.2.2.1, k.cell2 h.2.2.2.1, k.cell2 h.2.2.2.2.1, k.cell2 h.2.2.2.2.2.1, h.2.2.2.2.2.2.trans k⟩
theorem fit_drew (h : W1.cell? ⟨B, 1, none⟩ = some (.int .i64 wd) ∧ W1.cell? ⟨B, 2, none⟩ = some (.int .i64 r1) ∧ W1.cell? ⟨B, 3, none⟩ = some (.int .u64 r2) ∧ W1.cell? ⟨C, 5, none⟩ = some (.string cb) ∧ W1.cell? ⟨C, 6, none⟩ = some (.int .i64 f) ∧ W1.cell? ⟨C, 7, none⟩ = some (.int .i64 sz) ∧ Keeps W W1) : W1.drew.cell? ⟨B, 1, none⟩ = some (.int .i64 wd) ∧ W1.drew.cell? ⟨B, 2, none⟩ = some (.int .i64 r1) ∧ W1.drew.cell? ⟨B, 3, none⟩ = some (.int .u64 r2) ∧ W1.drew.cell? ⟨C, 5, none⟩ = some (.string cb) ∧ W1.drew.cell? ⟨C, 6, none⟩ = some (.int .i64 f) ∧ W1.drew.cell? ⟨C, 7, none⟩ = some (.int .i64 sz) ∧ Keeps W W1.drew := ⟨h.1, h.2.1, h.2.2.1, h.2.2.2.1, h.2.2.2.2.1, h.2.2.2.2.2.1, h.2.2.2.2.2.2.drew⟩
theorem fit_end (h : W1.cell? ⟨B, 1, none⟩ = some (.int .i64 wd) ∧ W1.cell? ⟨B, 2, none⟩ = some (.int .i64 r1) ∧ W1.cell? ⟨B, 3, none⟩ = some (.int .u64 r2) ∧ W1.cell? ⟨C, 5, none⟩ = some (.string cb) ∧ W1.cell? ⟨C, 6, none⟩ = some (.int .i64 f) ∧ W1.cell? ⟨C, 7, none⟩ = some (.int .i64 sz) ∧ Keeps W W1) : Keeps W W1 := h.2.2.2.2.2.2
end
section
variable {w0 W : World} {B : Nat} {v : Value} {its : List It} {wd r : Int}
set_option maxRecDepth 100000 in
set_option maxHeartbeats 16000000 in
theorem fitting_any (x : It) (h : Spl w0 wd W B v its r) (hE : EnvI w0) (hx : x.codes ≠ []) (hc : x.codes.length ≤ 100000) (s1 : 0 ≤ x.size) (s2 : x.size ≤ 2147483648) (h0 : -1208925819614629174706176 ≤ r) (h3 : r ≤ 1208925819614629174706176) (h1 : -9223372036854775808 ≤ wd) (h2 : wd ≤ 9223372036854775807) :
    Calls Tryd.prog 51 #[.pointer (some ⟨B, 0, none⟩), itV x] W fun e w' => e = .returned (.int .i64 (fitN wd x.font x.size x.codes r)) ∧ Keeps W w' := by
  have KA := Lib.hid (fun o => (Keeps.refl W).alloc o)
  have WR := Lib.hid (fun W1 => wordr_any r W1 h0 h3)
  have RO := Lib.hid (fun W1 => roomOf_any wd W1 h1 h2)
  have HB1 := Lib.hid (fun W1 (k : Keeps W W1) => (h.own.keep k).box.cell 1 (v := .int .i64 wd) rfl)
  have HB2 := Lib.hid (fun W1 (k : Keeps W W1) => (h.own.keep k).box.cell 2 (v := .int .i64 (r / 18446744073709551616)) rfl)
  have HB3 := Lib.hid (fun W1 (k : Keeps W W1) => (h.own.keep k).box.cell 3 (v := .int .u64 (r % 18446744073709551616)) rfl)
  have HX := Lib.hid (fun cs W1 (k : Keeps (W.alloc (.cells cs 42)) W1) => (h.new 42 cs).blk.keep k)
  obtain ⟨x1, x2, x3, x4, x5, c, f, sz, lk⟩ := x
  have AD := Lib.hid (fun W1 (k : Keeps W W1) => adv_any f sz (c.headD 0).toNat (c.headD 0).toNat_lt W1 (by simp only at s1; omega) s2 (hE.fnt.keep (h.keep.trans k)))
  have CT := Lib.hid (fun W1 (k : Keeps W W1) => cut_any f sz (wordR r) ⟨c.toArray⟩ W1 (by show c.toArray.size ≤ _; simp; exact hc) s1 s2 (hE.fnt.keep (h.keep.trans k)))
  have a0 := adv_nonneg (f := f) (c.headD 0).toNat_lt s1
  have a1 := adv_le (f := f) (c.headD 0).toNat_lt s1 s2
  obtain ⟨cb, hcb⟩ : ∃ cb : ByteArray, cb = ⟨c.toArray⟩ := ⟨_, rfl⟩
  have hz : 0 < cb.size := by rw [hcb]; show 0 < c.toArray.size; simp; exact List.length_pos_iff.2 hx
  have hg : cb[0] = c.headD 0 := by
    subst hcb
    cases c with
    | nil => exact absurd rfl hx
    | cons a l => rfl
  rw [show (⟨c.toArray⟩ : ByteArray).data.toList = c from rfl] at CT
  rw [← hcb] at CT
  rw [← hg] at AD a0 a1
  have HF : Hid (∀ P : Prop, (r = wd → fitN wd f sz c r = cutL f sz (wordR r) c)) := Lib.hid fun _ e => by unfold fitN; rw [if_neg (fun q => q.1 e)]
  have HF0 : Hid (r ≠ wd → wordR r < advL f sz cb[0].toNat → fitN wd f sz c r = 0) := Lib.hid fun e q => by unfold fitN; rw [← hg, if_pos ⟨e, q⟩]
  have HF1 : Hid (¬ wordR r < advL f sz cb[0].toNat → fitN wd f sz c r = cutL f sz (wordR r) c) := Lib.hid fun q => by unfold fitN; rw [← hg, if_neg (fun e => q e.2)]
  have hw0 : -9223372036854775808 ≤ wordR r ∧ wordR r ≤ 9223372036854775807 := by unfold wordR; split <;> omega
  have hr : r = wd ∨ (r ≠ wd ∧ (¬ r / 18446744073709551616 = wd / 18446744073709551616 ∨ (r / 18446744073709551616 = wd / 18446744073709551616 ∧ ¬ r % 18446744073709551616 = wd % 18446744073709551616))) := by omega
  clear h hE hx hc hg
  unfold itV roomV at *
  simp only at *
  rw [← hcb]
  clear hcb
  generalize wordR r = fr at *
  generalize advL f sz cb[0].toNat = ad at *
  generalize cutL f sz fr c = ct at *
  rcases hr with e0 | ⟨e0, hr⟩
  · have HV := Lib.hid (HF.out True e0)
    subst e0
    clear HF HF0 HF1
    generalize r / 18446744073709551616 = r1 at *
    generalize r % 18446744073709551616 = r2 at *
    go_enter Tryd.func51, Tryd.ntmps51
    have K0 := KA.out (.cells #[.int .i64 x1, .int .i64 x2, .int .i64 x3, .int .i64 x4, .int .i64 x5, .string cb, .int .i64 f, .int .i64 sz, .int .i64 lk] 42)
    have b2 := HB2.out _ K0
    have b3 := HB3.out _ K0
    go_wp2_with fail
    refine (WR.out _).mono ?_
    rintro e w1 ⟨rfl, k1⟩
    have K1 := K0.trans k1
    have bx := HX.out #[.int .i64 x1, .int .i64 x2, .int .i64 x3, .int .i64 x4, .int .i64 x5, .string cb, .int .i64 f, .int .i64 sz, .int .i64 lk] w1 k1
    have S5 := Lib.hid (fit_pack (HB1.out w1 K1) (HB2.out w1 K1) (HB3.out w1 K1) (bx.cell 5 (v := .string cb) rfl) (bx.cell 6 (v := .int .i64 f) rfl) (bx.cell 7 (v := .int .i64 sz) rfl) K1)
    clear bx b2 b3 k1 K1 K0
    have AS := Lib.hid (fun W' (h : W'.cell? ⟨B, 1, none⟩ = some (.int .i64 r) ∧ W'.cell? ⟨B, 2, none⟩ = some (.int .i64 r1) ∧ W'.cell? ⟨B, 3, none⟩ = some (.int .u64 r2) ∧ W'.cell? ⟨W.heap.size, 5, none⟩ = some (.string cb) ∧ W'.cell? ⟨W.heap.size, 6, none⟩ = some (.int .i64 f) ∧ W'.cell? ⟨W.heap.size, 7, none⟩ = some (.int .i64 sz) ∧ Keeps W W') => AD.out W' h.2.2.2.2.2.2)
    have CS := Lib.hid (fun W' (h : W'.cell? ⟨B, 1, none⟩ = some (.int .i64 r) ∧ W'.cell? ⟨B, 2, none⟩ = some (.int .i64 r1) ∧ W'.cell? ⟨B, 3, none⟩ = some (.int .u64 r2) ∧ W'.cell? ⟨W.heap.size, 5, none⟩ = some (.string cb) ∧ W'.cell? ⟨W.heap.size, 6, none⟩ = some (.int .i64 f) ∧ W'.cell? ⟨W.heap.size, 7, none⟩ = some (.int .i64 sz) ∧ Keeps W W') => CT.out W' h.2.2.2.2.2.2)
    go_wp2_with fail
    have NE : Nonempty (InS (fun w' => w'.cell? ⟨B, 1, none⟩ = some (.int .i64 r) ∧ w'.cell? ⟨B, 2, none⟩ = some (.int .i64 r1) ∧ w'.cell? ⟨B, 3, none⟩ = some (.int .u64 r2) ∧ w'.cell? ⟨W.heap.size, 5, none⟩ = some (.string cb) ∧ w'.cell? ⟨W.heap.size, 6, none⟩ = some (.int .i64 f) ∧ w'.cell? ⟨W.heap.size, 7, none⟩ = some (.int .i64 sz) ∧ Keeps W w')) := ⟨⟨_, fit_drew S5.out⟩⟩
    have G1 : ∀ x : InS (fun w' => w'.cell? ⟨B, 1, none⟩ = some (.int .i64 r) ∧ w'.cell? ⟨B, 2, none⟩ = some (.int .i64 r1) ∧ w'.cell? ⟨B, 3, none⟩ = some (.int .u64 r2) ∧ w'.cell? ⟨W.heap.size, 5, none⟩ = some (.string cb) ∧ w'.cell? ⟨W.heap.size, 6, none⟩ = some (.int .i64 f) ∧ w'.cell? ⟨W.heap.size, 7, none⟩ = some (.int .i64 sz) ∧ Keeps W w'), x.w.cell? ⟨B, 1, none⟩ = some (.int .i64 r) := fun x => x.ok.1
    have G2 : ∀ x : InS (fun w' => w'.cell? ⟨B, 1, none⟩ = some (.int .i64 r) ∧ w'.cell? ⟨B, 2, none⟩ = some (.int .i64 r1) ∧ w'.cell? ⟨B, 3, none⟩ = some (.int .u64 r2) ∧ w'.cell? ⟨W.heap.size, 5, none⟩ = some (.string cb) ∧ w'.cell? ⟨W.heap.size, 6, none⟩ = some (.int .i64 f) ∧ w'.cell? ⟨W.heap.size, 7, none⟩ = some (.int .i64 sz) ∧ Keeps W w'), x.w.cell? ⟨B, 2, none⟩ = some (.int .i64 r1) := fun x => x.ok.2.1
    have G3 : ∀ x : InS (fun w' => w'.cell? ⟨B, 1, none⟩ = some (.int .i64 r) ∧ w'.cell? ⟨B, 2, none⟩ = some (.int .i64 r1) ∧ w'.cell? ⟨B, 3, none⟩ = some (.int .u64 r2) ∧ w'.cell? ⟨W.heap.size, 5, none⟩ = some (.string cb) ∧ w'.cell? ⟨W.heap.size, 6, none⟩ = some (.int .i64 f) ∧ w'.cell? ⟨W.heap.size, 7, none⟩ = some (.int .i64 sz) ∧ Keeps W w'), x.w.cell? ⟨B, 3, none⟩ = some (.int .u64 r2) := fun x => x.ok.2.2.1
    have G5 : ∀ x : InS (fun w' => w'.cell? ⟨B, 1, none⟩ = some (.int .i64 r) ∧ w'.cell? ⟨B, 2, none⟩ = some (.int .i64 r1) ∧ w'.cell? ⟨B, 3, none⟩ = some (.int .u64 r2) ∧ w'.cell? ⟨W.heap.size, 5, none⟩ = some (.string cb) ∧ w'.cell? ⟨W.heap.size, 6, none⟩ = some (.int .i64 f) ∧ w'.cell? ⟨W.heap.size, 7, none⟩ = some (.int .i64 sz) ∧ Keeps W w'), x.w.cell? ⟨W.heap.size, 5, none⟩ = some (.string cb) := fun x => x.ok.2.2.2.1
    have G6 : ∀ x : InS (fun w' => w'.cell? ⟨B, 1, none⟩ = some (.int .i64 r) ∧ w'.cell? ⟨B, 2, none⟩ = some (.int .i64 r1) ∧ w'.cell? ⟨B, 3, none⟩ = some (.int .u64 r2) ∧ w'.cell? ⟨W.heap.size, 5, none⟩ = some (.string cb) ∧ w'.cell? ⟨W.heap.size, 6, none⟩ = some (.int .i64 f) ∧ w'.cell? ⟨W.heap.size, 7, none⟩ = some (.int .i64 sz) ∧ Keeps W w'), x.w.cell? ⟨W.heap.size, 6, none⟩ = some (.int .i64 f) := fun x => x.ok.2.2.2.2.1
    have G7 : ∀ x : InS (fun w' => w'.cell? ⟨B, 1, none⟩ = some (.int .i64 r) ∧ w'.cell? ⟨B, 2, none⟩ = some (.int .i64 r1) ∧ w'.cell? ⟨B, 3, none⟩ = some (.int .u64 r2) ∧ w'.cell? ⟨W.heap.size, 5, none⟩ = some (.string cb) ∧ w'.cell? ⟨W.heap.size, 6, none⟩ = some (.int .i64 f) ∧ w'.cell? ⟨W.heap.size, 7, none⟩ = some (.int .i64 sz) ∧ Keeps W w'), x.w.cell? ⟨W.heap.size, 7, none⟩ = some (.int .i64 sz) := fun x => x.ok.2.2.2.2.2.1
    have GO : Hid (∀ x : InS (fun w' => w'.cell? ⟨B, 1, none⟩ = some (.int .i64 r) ∧ w'.cell? ⟨B, 2, none⟩ = some (.int .i64 r1) ∧ w'.cell? ⟨B, 3, none⟩ = some (.int .u64 r2) ∧ w'.cell? ⟨W.heap.size, 5, none⟩ = some (.string cb) ∧ w'.cell? ⟨W.heap.size, 6, none⟩ = some (.int .i64 f) ∧ w'.cell? ⟨W.heap.size, 7, none⟩ = some (.int .i64 sz) ∧ Keeps W w'), (fun w' => w'.cell? ⟨B, 1, none⟩ = some (.int .i64 r) ∧ w'.cell? ⟨B, 2, none⟩ = some (.int .i64 r1) ∧ w'.cell? ⟨B, 3, none⟩ = some (.int .u64 r2) ∧ w'.cell? ⟨W.heap.size, 5, none⟩ = some (.string cb) ∧ w'.cell? ⟨W.heap.size, 6, none⟩ = some (.int .i64 f) ∧ w'.cell? ⟨W.heap.size, 7, none⟩ = some (.int .i64 sz) ∧ Keeps W w') x.w) := Lib.hid (fun x => x.ok)
    refine wp_region_class (fun w' => w'.cell? ⟨B, 1, none⟩ = some (.int .i64 r) ∧ w'.cell? ⟨B, 2, none⟩ = some (.int .i64 r1) ∧ w'.cell? ⟨B, 3, none⟩ = some (.int .u64 r2) ∧ w'.cell? ⟨W.heap.size, 5, none⟩ = some (.string cb) ∧ w'.cell? ⟨W.heap.size, 6, none⟩ = some (.int .i64 f) ∧ w'.cell? ⟨W.heap.size, 7, none⟩ = some (.int .i64 sz) ∧ Keeps W w') (by kernel_rfl) (by kernel_rfl) (fit_drew S5.out) ?_
    repeat (go_big_quiet_step (first
      | (go_at_call 28; exact class_call (fun _ p k => fit_keep k p) (RO.out _))
      | (go_at_call 69; exact class_same (AS.out _ (GO.out _)))))
    refine wpQuiet_nil ?_
    rintro w5 ⟨⟨w6, h6⟩, rfl⟩
    clear G1 G2 G3 G5 G6 G7 S5
    obtain ⟨h1, h2, h3, h5, g6, g7, K6⟩ := h6
    go_wp2_with fail
    refine (CS.out _ ⟨h1, h2, h3, h5, g6, g7, K6⟩).mono ?_
    rintro e w4 ⟨rfl, rfl⟩
    go_wp2_with fail
    go_ret
    exact ⟨ret_nat HV.out.symm, K6⟩
  · by_cases ha : fr < ad
    · have HV := Lib.hid (HF0.out e0 ha)
      have ta : decide (fr < ad) = true := decide_eq_true ha
      clear HF HF0 HF1 e0
      generalize r / 18446744073709551616 = r1 at *
      generalize r % 18446744073709551616 = r2 at *
      generalize wd / 18446744073709551616 = q1 at *
      generalize wd % 18446744073709551616 = q2 at *
      rcases hr with hr | ⟨rfl, hr⟩
      · have t1 : (r1 == q1) = false := beqF hr
        go_enter Tryd.func51, Tryd.ntmps51
        have K0 := KA.out (.cells #[.int .i64 x1, .int .i64 x2, .int .i64 x3, .int .i64 x4, .int .i64 x5, .string cb, .int .i64 f, .int .i64 sz, .int .i64 lk] 42)
        have b2 := HB2.out _ K0
        have b3 := HB3.out _ K0
        go_wp2_with fail
        refine (WR.out _).mono ?_
        rintro e w1 ⟨rfl, k1⟩
        have K1 := K0.trans k1
        have bx := HX.out #[.int .i64 x1, .int .i64 x2, .int .i64 x3, .int .i64 x4, .int .i64 x5, .string cb, .int .i64 f, .int .i64 sz, .int .i64 lk] w1 k1
        have S5 := Lib.hid (fit_pack (HB1.out w1 K1) (HB2.out w1 K1) (HB3.out w1 K1) (bx.cell 5 (v := .string cb) rfl) (bx.cell 6 (v := .int .i64 f) rfl) (bx.cell 7 (v := .int .i64 sz) rfl) K1)
        clear bx b2 b3 k1 K1 K0
        have AS := Lib.hid (fun W' (h : W'.cell? ⟨B, 1, none⟩ = some (.int .i64 wd) ∧ W'.cell? ⟨B, 2, none⟩ = some (.int .i64 r1) ∧ W'.cell? ⟨B, 3, none⟩ = some (.int .u64 r2) ∧ W'.cell? ⟨W.heap.size, 5, none⟩ = some (.string cb) ∧ W'.cell? ⟨W.heap.size, 6, none⟩ = some (.int .i64 f) ∧ W'.cell? ⟨W.heap.size, 7, none⟩ = some (.int .i64 sz) ∧ Keeps W W') => AD.out W' h.2.2.2.2.2.2)
        have CS := Lib.hid (fun W' (h : W'.cell? ⟨B, 1, none⟩ = some (.int .i64 wd) ∧ W'.cell? ⟨B, 2, none⟩ = some (.int .i64 r1) ∧ W'.cell? ⟨B, 3, none⟩ = some (.int .u64 r2) ∧ W'.cell? ⟨W.heap.size, 5, none⟩ = some (.string cb) ∧ W'.cell? ⟨W.heap.size, 6, none⟩ = some (.int .i64 f) ∧ W'.cell? ⟨W.heap.size, 7, none⟩ = some (.int .i64 sz) ∧ Keeps W W') => CT.out W' h.2.2.2.2.2.2)
        go_wp2_with fail
        have NE : Nonempty (InS (fun w' => w'.cell? ⟨B, 1, none⟩ = some (.int .i64 wd) ∧ w'.cell? ⟨B, 2, none⟩ = some (.int .i64 r1) ∧ w'.cell? ⟨B, 3, none⟩ = some (.int .u64 r2) ∧ w'.cell? ⟨W.heap.size, 5, none⟩ = some (.string cb) ∧ w'.cell? ⟨W.heap.size, 6, none⟩ = some (.int .i64 f) ∧ w'.cell? ⟨W.heap.size, 7, none⟩ = some (.int .i64 sz) ∧ Keeps W w')) := ⟨⟨_, fit_drew S5.out⟩⟩
        have G1 : ∀ x : InS (fun w' => w'.cell? ⟨B, 1, none⟩ = some (.int .i64 wd) ∧ w'.cell? ⟨B, 2, none⟩ = some (.int .i64 r1) ∧ w'.cell? ⟨B, 3, none⟩ = some (.int .u64 r2) ∧ w'.cell? ⟨W.heap.size, 5, none⟩ = some (.string cb) ∧ w'.cell? ⟨W.heap.size, 6, none⟩ = some (.int .i64 f) ∧ w'.cell? ⟨W.heap.size, 7, none⟩ = some (.int .i64 sz) ∧ Keeps W w'), x.w.cell? ⟨B, 1, none⟩ = some (.int .i64 wd) := fun x => x.ok.1
        have G2 : ∀ x : InS (fun w' => w'.cell? ⟨B, 1, none⟩ = some (.int .i64 wd) ∧ w'.cell? ⟨B, 2, none⟩ = some (.int .i64 r1) ∧ w'.cell? ⟨B, 3, none⟩ = some (.int .u64 r2) ∧ w'.cell? ⟨W.heap.size, 5, none⟩ = some (.string cb) ∧ w'.cell? ⟨W.heap.size, 6, none⟩ = some (.int .i64 f) ∧ w'.cell? ⟨W.heap.size, 7, none⟩ = some (.int .i64 sz) ∧ Keeps W w'), x.w.cell? ⟨B, 2, none⟩ = some (.int .i64 r1) := fun x => x.ok.2.1
        have G3 : ∀ x : InS (fun w' => w'.cell? ⟨B, 1, none⟩ = some (.int .i64 wd) ∧ w'.cell? ⟨B, 2, none⟩ = some (.int .i64 r1) ∧ w'.cell? ⟨B, 3, none⟩ = some (.int .u64 r2) ∧ w'.cell? ⟨W.heap.size, 5, none⟩ = some (.string cb) ∧ w'.cell? ⟨W.heap.size, 6, none⟩ = some (.int .i64 f) ∧ w'.cell? ⟨W.heap.size, 7, none⟩ = some (.int .i64 sz) ∧ Keeps W w'), x.w.cell? ⟨B, 3, none⟩ = some (.int .u64 r2) := fun x => x.ok.2.2.1
        have G5 : ∀ x : InS (fun w' => w'.cell? ⟨B, 1, none⟩ = some (.int .i64 wd) ∧ w'.cell? ⟨B, 2, none⟩ = some (.int .i64 r1) ∧ w'.cell? ⟨B, 3, none⟩ = some (.int .u64 r2) ∧ w'.cell? ⟨W.heap.size, 5, none⟩ = some (.string cb) ∧ w'.cell? ⟨W.heap.size, 6, none⟩ = some (.int .i64 f) ∧ w'.cell? ⟨W.heap.size, 7, none⟩ = some (.int .i64 sz) ∧ Keeps W w'), x.w.cell? ⟨W.heap.size, 5, none⟩ = some (.string cb) := fun x => x.ok.2.2.2.1
        have G6 : ∀ x : InS (fun w' => w'.cell? ⟨B, 1, none⟩ = some (.int .i64 wd) ∧ w'.cell? ⟨B, 2, none⟩ = some (.int .i64 r1) ∧ w'.cell? ⟨B, 3, none⟩ = some (.int .u64 r2) ∧ w'.cell? ⟨W.heap.size, 5, none⟩ = some (.string cb) ∧ w'.cell? ⟨W.heap.size, 6, none⟩ = some (.int .i64 f) ∧ w'.cell? ⟨W.heap.size, 7, none⟩ = some (.int .i64 sz) ∧ Keeps W w'), x.w.cell? ⟨W.heap.size, 6, none⟩ = some (.int .i64 f) := fun x => x.ok.2.2.2.2.1
        have G7 : ∀ x : InS (fun w' => w'.cell? ⟨B, 1, none⟩ = some (.int .i64 wd) ∧ w'.cell? ⟨B, 2, none⟩ = some (.int .i64 r1) ∧ w'.cell? ⟨B, 3, none⟩ = some (.int .u64 r2) ∧ w'.cell? ⟨W.heap.size, 5, none⟩ = some (.string cb) ∧ w'.cell? ⟨W.heap.size, 6, none⟩ = some (.int .i64 f) ∧ w'.cell? ⟨W.heap.size, 7, none⟩ = some (.int .i64 sz) ∧ Keeps W w'), x.w.cell? ⟨W.heap.size, 7, none⟩ = some (.int .i64 sz) := fun x => x.ok.2.2.2.2.2.1
        have GO : Hid (∀ x : InS (fun w' => w'.cell? ⟨B, 1, none⟩ = some (.int .i64 wd) ∧ w'.cell? ⟨B, 2, none⟩ = some (.int .i64 r1) ∧ w'.cell? ⟨B, 3, none⟩ = some (.int .u64 r2) ∧ w'.cell? ⟨W.heap.size, 5, none⟩ = some (.string cb) ∧ w'.cell? ⟨W.heap.size, 6, none⟩ = some (.int .i64 f) ∧ w'.cell? ⟨W.heap.size, 7, none⟩ = some (.int .i64 sz) ∧ Keeps W w'), (fun w' => w'.cell? ⟨B, 1, none⟩ = some (.int .i64 wd) ∧ w'.cell? ⟨B, 2, none⟩ = some (.int .i64 r1) ∧ w'.cell? ⟨B, 3, none⟩ = some (.int .u64 r2) ∧ w'.cell? ⟨W.heap.size, 5, none⟩ = some (.string cb) ∧ w'.cell? ⟨W.heap.size, 6, none⟩ = some (.int .i64 f) ∧ w'.cell? ⟨W.heap.size, 7, none⟩ = some (.int .i64 sz) ∧ Keeps W w') x.w) := Lib.hid (fun x => x.ok)
        refine wp_region_class (fun w' => w'.cell? ⟨B, 1, none⟩ = some (.int .i64 wd) ∧ w'.cell? ⟨B, 2, none⟩ = some (.int .i64 r1) ∧ w'.cell? ⟨B, 3, none⟩ = some (.int .u64 r2) ∧ w'.cell? ⟨W.heap.size, 5, none⟩ = some (.string cb) ∧ w'.cell? ⟨W.heap.size, 6, none⟩ = some (.int .i64 f) ∧ w'.cell? ⟨W.heap.size, 7, none⟩ = some (.int .i64 sz) ∧ Keeps W w') (by kernel_rfl) (by kernel_rfl) (fit_drew S5.out) ?_
        repeat (go_big_quiet_step (first
          | (go_at_call 28; exact class_call (fun _ p k => fit_keep k p) (RO.out _))
          | (go_at_call 69; exact class_same (AS.out _ (GO.out _)))))
        refine wpQuiet_nil ?_
        rintro w5 ⟨⟨w6, h6⟩, rfl⟩
        clear G1 G2 G3 G5 G6 G7 S5
        obtain ⟨h1, h2, h3, h5, g6, g7, K6⟩ := h6
        go_wp2_with fail
        go_ret
        exact ⟨ret_nat HV.out.symm, K6⟩
      · have t1 : (r2 == q2) = false := beqF hr
        go_enter Tryd.func51, Tryd.ntmps51
        have K0 := KA.out (.cells #[.int .i64 x1, .int .i64 x2, .int .i64 x3, .int .i64 x4, .int .i64 x5, .string cb, .int .i64 f, .int .i64 sz, .int .i64 lk] 42)
        have b2 := HB2.out _ K0
        have b3 := HB3.out _ K0
        go_wp2_with fail
        refine (WR.out _).mono ?_
        rintro e w1 ⟨rfl, k1⟩
        have K1 := K0.trans k1
        have bx := HX.out #[.int .i64 x1, .int .i64 x2, .int .i64 x3, .int .i64 x4, .int .i64 x5, .string cb, .int .i64 f, .int .i64 sz, .int .i64 lk] w1 k1
        have S5 := Lib.hid (fit_pack (HB1.out w1 K1) (HB2.out w1 K1) (HB3.out w1 K1) (bx.cell 5 (v := .string cb) rfl) (bx.cell 6 (v := .int .i64 f) rfl) (bx.cell 7 (v := .int .i64 sz) rfl) K1)
        clear bx b2 b3 k1 K1 K0
        have AS := Lib.hid (fun W' (h : W'.cell? ⟨B, 1, none⟩ = some (.int .i64 wd) ∧ W'.cell? ⟨B, 2, none⟩ = some (.int .i64 r1) ∧ W'.cell? ⟨B, 3, none⟩ = some (.int .u64 r2) ∧ W'.cell? ⟨W.heap.size, 5, none⟩ = some (.string cb) ∧ W'.cell? ⟨W.heap.size, 6, none⟩ = some (.int .i64 f) ∧ W'.cell? ⟨W.heap.size, 7, none⟩ = some (.int .i64 sz) ∧ Keeps W W') => AD.out W' h.2.2.2.2.2.2)
        have CS := Lib.hid (fun W' (h : W'.cell? ⟨B, 1, none⟩ = some (.int .i64 wd) ∧ W'.cell? ⟨B, 2, none⟩ = some (.int .i64 r1) ∧ W'.cell? ⟨B, 3, none⟩ = some (.int .u64 r2) ∧ W'.cell? ⟨W.heap.size, 5, none⟩ = some (.string cb) ∧ W'.cell? ⟨W.heap.size, 6, none⟩ = some (.int .i64 f) ∧ W'.cell? ⟨W.heap.size, 7, none⟩ = some (.int .i64 sz) ∧ Keeps W W') => CT.out W' h.2.2.2.2.2.2)
        go_wp2_with fail
        have NE : Nonempty (InS (fun w' => w'.cell? ⟨B, 1, none⟩ = some (.int .i64 wd) ∧ w'.cell? ⟨B, 2, none⟩ = some (.int .i64 r1) ∧ w'.cell? ⟨B, 3, none⟩ = some (.int .u64 r2) ∧ w'.cell? ⟨W.heap.size, 5, none⟩ = some (.string cb) ∧ w'.cell? ⟨W.heap.size, 6, none⟩ = some (.int .i64 f) ∧ w'.cell? ⟨W.heap.size, 7, none⟩ = some (.int .i64 sz) ∧ Keeps W w')) := ⟨⟨_, fit_drew S5.out⟩⟩
        have G1 : ∀ x : InS (fun w' => w'.cell? ⟨B, 1, none⟩ = some (.int .i64 wd) ∧ w'.cell? ⟨B, 2, none⟩ = some (.int .i64 r1) ∧ w'.cell? ⟨B, 3, none⟩ = some (.int .u64 r2) ∧ w'.cell? ⟨W.heap.size, 5, none⟩ = some (.string cb) ∧ w'.cell? ⟨W.heap.size, 6, none⟩ = some (.int .i64 f) ∧ w'.cell? ⟨W.heap.size, 7, none⟩ = some (.int .i64 sz) ∧ Keeps W w'), x.w.cell? ⟨B, 1, none⟩ = some (.int .i64 wd) := fun x => x.ok.1
        have G2 : ∀ x : InS (fun w' => w'.cell? ⟨B, 1, none⟩ = some (.int .i64 wd) ∧ w'.cell? ⟨B, 2, none⟩ = some (.int .i64 r1) ∧ w'.cell? ⟨B, 3, none⟩ = some (.int .u64 r2) ∧ w'.cell? ⟨W.heap.size, 5, none⟩ = some (.string cb) ∧ w'.cell? ⟨W.heap.size, 6, none⟩ = some (.int .i64 f) ∧ w'.cell? ⟨W.heap.size, 7, none⟩ = some (.int .i64 sz) ∧ Keeps W w'), x.w.cell? ⟨B, 2, none⟩ = some (.int .i64 r1) := fun x => x.ok.2.1
        have G3 : ∀ x : InS (fun w' => w'.cell? ⟨B, 1, none⟩ = some (.int .i64 wd) ∧ w'.cell? ⟨B, 2, none⟩ = some (.int .i64 r1) ∧ w'.cell? ⟨B, 3, none⟩ = some (.int .u64 r2) ∧ w'.cell? ⟨W.heap.size, 5, none⟩ = some (.string cb) ∧ w'.cell? ⟨W.heap.size, 6, none⟩ = some (.int .i64 f) ∧ w'.cell? ⟨W.heap.size, 7, none⟩ = some (.int .i64 sz) ∧ Keeps W w'), x.w.cell? ⟨B, 3, none⟩ = some (.int .u64 r2) := fun x => x.ok.2.2.1
        have G5 : ∀ x : InS (fun w' => w'.cell? ⟨B, 1, none⟩ = some (.int .i64 wd) ∧ w'.cell? ⟨B, 2, none⟩ = some (.int .i64 r1) ∧ w'.cell? ⟨B, 3, none⟩ = some (.int .u64 r2) ∧ w'.cell? ⟨W.heap.size, 5, none⟩ = some (.string cb) ∧ w'.cell? ⟨W.heap.size, 6, none⟩ = some (.int .i64 f) ∧ w'.cell? ⟨W.heap.size, 7, none⟩ = some (.int .i64 sz) ∧ Keeps W w'), x.w.cell? ⟨W.heap.size, 5, none⟩ = some (.string cb) := fun x => x.ok.2.2.2.1
        have G6 : ∀ x : InS (fun w' => w'.cell? ⟨B, 1, none⟩ = some (.int .i64 wd) ∧ w'.cell? ⟨B, 2, none⟩ = some (.int .i64 r1) ∧ w'.cell? ⟨B, 3, none⟩ = some (.int .u64 r2) ∧ w'.cell? ⟨W.heap.size, 5, none⟩ = some (.string cb) ∧ w'.cell? ⟨W.heap.size, 6, none⟩ = some (.int .i64 f) ∧ w'.cell? ⟨W.heap.size, 7, none⟩ = some (.int .i64 sz) ∧ Keeps W w'), x.w.cell? ⟨W.heap.size, 6, none⟩ = some (.int .i64 f) := fun x => x.ok.2.2.2.2.1
        have G7 : ∀ x : InS (fun w' => w'.cell? ⟨B, 1, none⟩ = some (.int .i64 wd) ∧ w'.cell? ⟨B, 2, none⟩ = some (.int .i64 r1) ∧ w'.cell? ⟨B, 3, none⟩ = some (.int .u64 r2) ∧ w'.cell? ⟨W.heap.size, 5, none⟩ = some (.string cb) ∧ w'.cell? ⟨W.heap.size, 6, none⟩ = some (.int .i64 f) ∧ w'.cell? ⟨W.heap.size, 7, none⟩ = some (.int .i64 sz) ∧ Keeps W w'), x.w.cell? ⟨W.heap.size, 7, none⟩ = some (.int .i64 sz) := fun x => x.ok.2.2.2.2.2.1
        have GO : Hid (∀ x : InS (fun w' => w'.cell? ⟨B, 1, none⟩ = some (.int .i64 wd) ∧ w'.cell? ⟨B, 2, none⟩ = some (.int .i64 r1) ∧ w'.cell? ⟨B, 3, none⟩ = some (.int .u64 r2) ∧ w'.cell? ⟨W.heap.size, 5, none⟩ = some (.string cb) ∧ w'.cell? ⟨W.heap.size, 6, none⟩ = some (.int .i64 f) ∧ w'.cell? ⟨W.heap.size, 7, none⟩ = some (.int .i64 sz) ∧ Keeps W w'), (fun w' => w'.cell? ⟨B, 1, none⟩ = some (.int .i64 wd) ∧ w'.cell? ⟨B, 2, none⟩ = some (.int .i64 r1) ∧ w'.cell? ⟨B, 3, none⟩ = some (.int .u64 r2) ∧ w'.cell? ⟨W.heap.size, 5, none⟩ = some (.string cb) ∧ w'.cell? ⟨W.heap.size, 6, none⟩ = some (.int .i64 f) ∧ w'.cell? ⟨W.heap.size, 7, none⟩ = some (.int .i64 sz) ∧ Keeps W w') x.w) := Lib.hid (fun x => x.ok)
        refine wp_region_class (fun w' => w'.cell? ⟨B, 1, none⟩ = some (.int .i64 wd) ∧ w'.cell? ⟨B, 2, none⟩ = some (.int .i64 r1) ∧ w'.cell? ⟨B, 3, none⟩ = some (.int .u64 r2) ∧ w'.cell? ⟨W.heap.size, 5, none⟩ = some (.string cb) ∧ w'.cell? ⟨W.heap.size, 6, none⟩ = some (.int .i64 f) ∧ w'.cell? ⟨W.heap.size, 7, none⟩ = some (.int .i64 sz) ∧ Keeps W w') (by kernel_rfl) (by kernel_rfl) (fit_drew S5.out) ?_
        repeat (go_big_quiet_step (first
          | (go_at_call 28; exact class_call (fun _ p k => fit_keep k p) (RO.out _))
          | (go_at_call 69; exact class_same (AS.out _ (GO.out _)))))
        refine wpQuiet_nil ?_
        rintro w5 ⟨⟨w6, h6⟩, rfl⟩
        clear G1 G2 G3 G5 G6 G7 S5
        obtain ⟨h1, h2, h3, h5, g6, g7, K6⟩ := h6
        go_wp2_with fail
        go_ret
        exact ⟨ret_nat HV.out.symm, K6⟩
    · have HV := Lib.hid (HF1.out ha)
      have ta : decide (fr < ad) = false := decide_eq_false ha
      clear HF HF0 HF1 e0
      generalize r / 18446744073709551616 = r1 at *
      generalize r % 18446744073709551616 = r2 at *
      generalize wd / 18446744073709551616 = q1 at *
      generalize wd % 18446744073709551616 = q2 at *
      rcases hr with hr | ⟨rfl, hr⟩
      · have t1 : (r1 == q1) = false := beqF hr
        go_enter Tryd.func51, Tryd.ntmps51
        have K0 := KA.out (.cells #[.int .i64 x1, .int .i64 x2, .int .i64 x3, .int .i64 x4, .int .i64 x5, .string cb, .int .i64 f, .int .i64 sz, .int .i64 lk] 42)
        have b2 := HB2.out _ K0
        have b3 := HB3.out _ K0
        go_wp2_with fail
        refine (WR.out _).mono ?_
        rintro e w1 ⟨rfl, k1⟩
        have K1 := K0.trans k1
        have bx := HX.out #[.int .i64 x1, .int .i64 x2, .int .i64 x3, .int .i64 x4, .int .i64 x5, .string cb, .int .i64 f, .int .i64 sz, .int .i64 lk] w1 k1
        have S5 := Lib.hid (fit_pack (HB1.out w1 K1) (HB2.out w1 K1) (HB3.out w1 K1) (bx.cell 5 (v := .string cb) rfl) (bx.cell 6 (v := .int .i64 f) rfl) (bx.cell 7 (v := .int .i64 sz) rfl) K1)
        clear bx b2 b3 k1 K1 K0
        have AS := Lib.hid (fun W' (h : W'.cell? ⟨B, 1, none⟩ = some (.int .i64 wd) ∧ W'.cell? ⟨B, 2, none⟩ = some (.int .i64 r1) ∧ W'.cell? ⟨B, 3, none⟩ = some (.int .u64 r2) ∧ W'.cell? ⟨W.heap.size, 5, none⟩ = some (.string cb) ∧ W'.cell? ⟨W.heap.size, 6, none⟩ = some (.int .i64 f) ∧ W'.cell? ⟨W.heap.size, 7, none⟩ = some (.int .i64 sz) ∧ Keeps W W') => AD.out W' h.2.2.2.2.2.2)
        have CS := Lib.hid (fun W' (h : W'.cell? ⟨B, 1, none⟩ = some (.int .i64 wd) ∧ W'.cell? ⟨B, 2, none⟩ = some (.int .i64 r1) ∧ W'.cell? ⟨B, 3, none⟩ = some (.int .u64 r2) ∧ W'.cell? ⟨W.heap.size, 5, none⟩ = some (.string cb) ∧ W'.cell? ⟨W.heap.size, 6, none⟩ = some (.int .i64 f) ∧ W'.cell? ⟨W.heap.size, 7, none⟩ = some (.int .i64 sz) ∧ Keeps W W') => CT.out W' h.2.2.2.2.2.2)
        go_wp2_with fail
        have NE : Nonempty (InS (fun w' => w'.cell? ⟨B, 1, none⟩ = some (.int .i64 wd) ∧ w'.cell? ⟨B, 2, none⟩ = some (.int .i64 r1) ∧ w'.cell? ⟨B, 3, none⟩ = some (.int .u64 r2) ∧ w'.cell? ⟨W.heap.size, 5, none⟩ = some (.string cb) ∧ w'.cell? ⟨W.heap.size, 6, none⟩ = some (.int .i64 f) ∧ w'.cell? ⟨W.heap.size, 7, none⟩ = some (.int .i64 sz) ∧ Keeps W w')) := ⟨⟨_, fit_drew S5.out⟩⟩
        have G1 : ∀ x : InS (fun w' => w'.cell? ⟨B, 1, none⟩ = some (.int .i64 wd) ∧ w'.cell? ⟨B, 2, none⟩ = some (.int .i64 r1) ∧ w'.cell? ⟨B, 3, none⟩ = some (.int .u64 r2) ∧ w'.cell? ⟨W.heap.size, 5, none⟩ = some (.string cb) ∧ w'.cell? ⟨W.heap.size, 6, none⟩ = some (.int .i64 f) ∧ w'.cell? ⟨W.heap.size, 7, none⟩ = some (.int .i64 sz) ∧ Keeps W w'), x.w.cell? ⟨B, 1, none⟩ = some (.int .i64 wd) := fun x => x.ok.1
        have G2 : ∀ x : InS (fun w' => w'.cell? ⟨B, 1, none⟩ = some (.int .i64 wd) ∧ w'.cell? ⟨B, 2, none⟩ = some (.int .i64 r1) ∧ w'.cell? ⟨B, 3, none⟩ = some (.int .u64 r2) ∧ w'.cell? ⟨W.heap.size, 5, none⟩ = some (.string cb) ∧ w'.cell? ⟨W.heap.size, 6, none⟩ = some (.int .i64 f) ∧ w'.cell? ⟨W.heap.size, 7, none⟩ = some (.int .i64 sz) ∧ Keeps W w'), x.w.cell? ⟨B, 2, none⟩ = some (.int .i64 r1) := fun x => x.ok.2.1
        have G3 : ∀ x : InS (fun w' => w'.cell? ⟨B, 1, none⟩ = some (.int .i64 wd) ∧ w'.cell? ⟨B, 2, none⟩ = some (.int .i64 r1) ∧ w'.cell? ⟨B, 3, none⟩ = some (.int .u64 r2) ∧ w'.cell? ⟨W.heap.size, 5, none⟩ = some (.string cb) ∧ w'.cell? ⟨W.heap.size, 6, none⟩ = some (.int .i64 f) ∧ w'.cell? ⟨W.heap.size, 7, none⟩ = some (.int .i64 sz) ∧ Keeps W w'), x.w.cell? ⟨B, 3, none⟩ = some (.int .u64 r2) := fun x => x.ok.2.2.1
        have G5 : ∀ x : InS (fun w' => w'.cell? ⟨B, 1, none⟩ = some (.int .i64 wd) ∧ w'.cell? ⟨B, 2, none⟩ = some (.int .i64 r1) ∧ w'.cell? ⟨B, 3, none⟩ = some (.int .u64 r2) ∧ w'.cell? ⟨W.heap.size, 5, none⟩ = some (.string cb) ∧ w'.cell? ⟨W.heap.size, 6, none⟩ = some (.int .i64 f) ∧ w'.cell? ⟨W.heap.size, 7, none⟩ = some (.int .i64 sz) ∧ Keeps W w'), x.w.cell? ⟨W.heap.size, 5, none⟩ = some (.string cb) := fun x => x.ok.2.2.2.1
        have G6 : ∀ x : InS (fun w' => w'.cell? ⟨B, 1, none⟩ = some (.int .i64 wd) ∧ w'.cell? ⟨B, 2, none⟩ = some (.int .i64 r1) ∧ w'.cell? ⟨B, 3, none⟩ = some (.int .u64 r2) ∧ w'.cell? ⟨W.heap.size, 5, none⟩ = some (.string cb) ∧ w'.cell? ⟨W.heap.size, 6, none⟩ = some (.int .i64 f) ∧ w'.cell? ⟨W.heap.size, 7, none⟩ = some (.int .i64 sz) ∧ Keeps W w'), x.w.cell? ⟨W.heap.size, 6, none⟩ = some (.int .i64 f) := fun x => x.ok.2.2.2.2.1
        have G7 : ∀ x : InS (fun w' => w'.cell? ⟨B, 1, none⟩ = some (.int .i64 wd) ∧ w'.cell? ⟨B, 2, none⟩ = some (.int .i64 r1) ∧ w'.cell? ⟨B, 3, none⟩ = some (.int .u64 r2) ∧ w'.cell? ⟨W.heap.size, 5, none⟩ = some (.string cb) ∧ w'.cell? ⟨W.heap.size, 6, none⟩ = some (.int .i64 f) ∧ w'.cell? ⟨W.heap.size, 7, none⟩ = some (.int .i64 sz) ∧ Keeps W w'), x.w.cell? ⟨W.heap.size, 7, none⟩ = some (.int .i64 sz) := fun x => x.ok.2.2.2.2.2.1
        have GO : Hid (∀ x : InS (fun w' => w'.cell? ⟨B, 1, none⟩ = some (.int .i64 wd) ∧ w'.cell? ⟨B, 2, none⟩ = some (.int .i64 r1) ∧ w'.cell? ⟨B, 3, none⟩ = some (.int .u64 r2) ∧ w'.cell? ⟨W.heap.size, 5, none⟩ = some (.string cb) ∧ w'.cell? ⟨W.heap.size, 6, none⟩ = some (.int .i64 f) ∧ w'.cell? ⟨W.heap.size, 7, none⟩ = some (.int .i64 sz) ∧ Keeps W w'), (fun w' => w'.cell? ⟨B, 1, none⟩ = some (.int .i64 wd) ∧ w'.cell? ⟨B, 2, none⟩ = some (.int .i64 r1) ∧ w'.cell? ⟨B, 3, none⟩ = some (.int .u64 r2) ∧ w'.cell? ⟨W.heap.size, 5, none⟩ = some (.string cb) ∧ w'.cell? ⟨W.heap.size, 6, none⟩ = some (.int .i64 f) ∧ w'.cell? ⟨W.heap.size, 7, none⟩ = some (.int .i64 sz) ∧ Keeps W w') x.w) := Lib.hid (fun x => x.ok)
        refine wp_region_class (fun w' => w'.cell? ⟨B, 1, none⟩ = some (.int .i64 wd) ∧ w'.cell? ⟨B, 2, none⟩ = some (.int .i64 r1) ∧ w'.cell? ⟨B, 3, none⟩ = some (.int .u64 r2) ∧ w'.cell? ⟨W.heap.size, 5, none⟩ = some (.string cb) ∧ w'.cell? ⟨W.heap.size, 6, none⟩ = some (.int .i64 f) ∧ w'.cell? ⟨W.heap.size, 7, none⟩ = some (.int .i64 sz) ∧ Keeps W w') (by kernel_rfl) (by kernel_rfl) (fit_drew S5.out) ?_
        repeat (go_big_quiet_step (first
          | (go_at_call 28; exact class_call (fun _ p k => fit_keep k p) (RO.out _))
          | (go_at_call 69; exact class_same (AS.out _ (GO.out _)))))
        refine wpQuiet_nil ?_
        rintro w5 ⟨⟨w6, h6⟩, rfl⟩
        clear G1 G2 G3 G5 G6 G7 S5
        obtain ⟨h1, h2, h3, h5, g6, g7, K6⟩ := h6
        go_wp2_with fail
        refine (CS.out _ ⟨h1, h2, h3, h5, g6, g7, K6⟩).mono ?_
        rintro e w4 ⟨rfl, rfl⟩
        go_wp2_with fail
        go_ret
        exact ⟨ret_nat HV.out.symm, K6⟩
      · have t1 : (r2 == q2) = false := beqF hr
        go_enter Tryd.func51, Tryd.ntmps51
        have K0 := KA.out (.cells #[.int .i64 x1, .int .i64 x2, .int .i64 x3, .int .i64 x4, .int .i64 x5, .string cb, .int .i64 f, .int .i64 sz, .int .i64 lk] 42)
        have b2 := HB2.out _ K0
        have b3 := HB3.out _ K0
        go_wp2_with fail
        refine (WR.out _).mono ?_
        rintro e w1 ⟨rfl, k1⟩
        have K1 := K0.trans k1
        have bx := HX.out #[.int .i64 x1, .int .i64 x2, .int .i64 x3, .int .i64 x4, .int .i64 x5, .string cb, .int .i64 f, .int .i64 sz, .int .i64 lk] w1 k1
        have S5 := Lib.hid (fit_pack (HB1.out w1 K1) (HB2.out w1 K1) (HB3.out w1 K1) (bx.cell 5 (v := .string cb) rfl) (bx.cell 6 (v := .int .i64 f) rfl) (bx.cell 7 (v := .int .i64 sz) rfl) K1)
        clear bx b2 b3 k1 K1 K0
        have AS := Lib.hid (fun W' (h : W'.cell? ⟨B, 1, none⟩ = some (.int .i64 wd) ∧ W'.cell? ⟨B, 2, none⟩ = some (.int .i64 r1) ∧ W'.cell? ⟨B, 3, none⟩ = some (.int .u64 r2) ∧ W'.cell? ⟨W.heap.size, 5, none⟩ = some (.string cb) ∧ W'.cell? ⟨W.heap.size, 6, none⟩ = some (.int .i64 f) ∧ W'.cell? ⟨W.heap.size, 7, none⟩ = some (.int .i64 sz) ∧ Keeps W W') => AD.out W' h.2.2.2.2.2.2)
        have CS := Lib.hid (fun W' (h : W'.cell? ⟨B, 1, none⟩ = some (.int .i64 wd) ∧ W'.cell? ⟨B, 2, none⟩ = some (.int .i64 r1) ∧ W'.cell? ⟨B, 3, none⟩ = some (.int .u64 r2) ∧ W'.cell? ⟨W.heap.size, 5, none⟩ = some (.string cb) ∧ W'.cell? ⟨W.heap.size, 6, none⟩ = some (.int .i64 f) ∧ W'.cell? ⟨W.heap.size, 7, none⟩ = some (.int .i64 sz) ∧ Keeps W W') => CT.out W' h.2.2.2.2.2.2)
        go_wp2_with fail
        have NE : Nonempty (InS (fun w' => w'.cell? ⟨B, 1, none⟩ = some (.int .i64 wd) ∧ w'.cell? ⟨B, 2, none⟩ = some (.int .i64 r1) ∧ w'.cell? ⟨B, 3, none⟩ = some (.int .u64 r2) ∧ w'.cell? ⟨W.heap.size, 5, none⟩ = some (.string cb) ∧ w'.cell? ⟨W.heap.size, 6, none⟩ = some (.int .i64 f) ∧ w'.cell? ⟨W.heap.size, 7, none⟩ = some (.int .i64 sz) ∧ Keeps W w')) := ⟨⟨_, fit_drew S5.out⟩⟩
        have G1 : ∀ x : InS (fun w' => w'.cell? ⟨B, 1, none⟩ = some (.int .i64 wd) ∧ w'.cell? ⟨B, 2, none⟩ = some (.int .i64 r1) ∧ w'.cell? ⟨B, 3, none⟩ = some (.int .u64 r2) ∧ w'.cell? ⟨W.heap.size, 5, none⟩ = some (.string cb) ∧ w'.cell? ⟨W.heap.size, 6, none⟩ = some (.int .i64 f) ∧ w'.cell? ⟨W.heap.size, 7, none⟩ = some (.int .i64 sz) ∧ Keeps W w'), x.w.cell? ⟨B, 1, none⟩ = some (.int .i64 wd) := fun x => x.ok.1
        have G2 : ∀ x : InS (fun w' => w'.cell? ⟨B, 1, none⟩ = some (.int .i64 wd) ∧ w'.cell? ⟨B, 2, none⟩ = some (.int .i64 r1) ∧ w'.cell? ⟨B, 3, none⟩ = some (.int .u64 r2) ∧ w'.cell? ⟨W.heap.size, 5, none⟩ = some (.string cb) ∧ w'.cell? ⟨W.heap.size, 6, none⟩ = some (.int .i64 f) ∧ w'.cell? ⟨W.heap.size, 7, none⟩ = some (.int .i64 sz) ∧ Keeps W w'), x.w.cell? ⟨B, 2, none⟩ = some (.int .i64 r1) := fun x => x.ok.2.1
        have G3 : ∀ x : InS (fun w' => w'.cell? ⟨B, 1, none⟩ = some (.int .i64 wd) ∧ w'.cell? ⟨B, 2, none⟩ = some (.int .i64 r1) ∧ w'.cell? ⟨B, 3, none⟩ = some (.int .u64 r2) ∧ w'.cell? ⟨W.heap.size, 5, none⟩ = some (.string cb) ∧ w'.cell? ⟨W.heap.size, 6, none⟩ = some (.int .i64 f) ∧ w'.cell? ⟨W.heap.size, 7, none⟩ = some (.int .i64 sz) ∧ Keeps W w'), x.w.cell? ⟨B, 3, none⟩ = some (.int .u64 r2) := fun x => x.ok.2.2.1
        have G5 : ∀ x : InS (fun w' => w'.cell? ⟨B, 1, none⟩ = some (.int .i64 wd) ∧ w'.cell? ⟨B, 2, none⟩ = some (.int .i64 r1) ∧ w'.cell? ⟨B, 3, none⟩ = some (.int .u64 r2) ∧ w'.cell? ⟨W.heap.size, 5, none⟩ = some (.string cb) ∧ w'.cell? ⟨W.heap.size, 6, none⟩ = some (.int .i64 f) ∧ w'.cell? ⟨W.heap.size, 7, none⟩ = some (.int .i64 sz) ∧ Keeps W w'), x.w.cell? ⟨W.heap.size, 5, none⟩ = some (.string cb) := fun x => x.ok.2.2.2.1
        have G6 : ∀ x : InS (fun w' => w'.cell? ⟨B, 1, none⟩ = some (.int .i64 wd) ∧ w'.cell? ⟨B, 2, none⟩ = some (.int .i64 r1) ∧ w'.cell? ⟨B, 3, none⟩ = some (.int .u64 r2) ∧ w'.cell? ⟨W.heap.size, 5, none⟩ = some (.string cb) ∧ w'.cell? ⟨W.heap.size, 6, none⟩ = some (.int .i64 f) ∧ w'.cell? ⟨W.heap.size, 7, none⟩ = some (.int .i64 sz) ∧ Keeps W w'), x.w.cell? ⟨W.heap.size, 6, none⟩ = some (.int .i64 f) := fun x => x.ok.2.2.2.2.1
        have G7 : ∀ x : InS (fun w' => w'.cell? ⟨B, 1, none⟩ = some (.int .i64 wd) ∧ w'.cell? ⟨B, 2, none⟩ = some (.int .i64 r1) ∧ w'.cell? ⟨B, 3, none⟩ = some (.int .u64 r2) ∧ w'.cell? ⟨W.heap.size, 5, none⟩ = some (.string cb) ∧ w'.cell? ⟨W.heap.size, 6, none⟩ = some (.int .i64 f) ∧ w'.cell? ⟨W.heap.size, 7, none⟩ = some (.int .i64 sz) ∧ Keeps W w'), x.w.cell? ⟨W.heap.size, 7, none⟩ = some (.int .i64 sz) := fun x => x.ok.2.2.2.2.2.1
        have GO : Hid (∀ x : InS (fun w' => w'.cell? ⟨B, 1, none⟩ = some (.int .i64 wd) ∧ w'.cell? ⟨B, 2, none⟩ = some (.int .i64 r1) ∧ w'.cell? ⟨B, 3, none⟩ = some (.int .u64 r2) ∧ w'.cell? ⟨W.heap.size, 5, none⟩ = some (.string cb) ∧ w'.cell? ⟨W.heap.size, 6, none⟩ = some (.int .i64 f) ∧ w'.cell? ⟨W.heap.size, 7, none⟩ = some (.int .i64 sz) ∧ Keeps W w'), (fun w' => w'.cell? ⟨B, 1, none⟩ = some (.int .i64 wd) ∧ w'.cell? ⟨B, 2, none⟩ = some (.int .i64 r1) ∧ w'.cell? ⟨B, 3, none⟩ = some (.int .u64 r2) ∧ w'.cell? ⟨W.heap.size, 5, none⟩ = some (.string cb) ∧ w'.cell? ⟨W.heap.size, 6, none⟩ = some (.int .i64 f) ∧ w'.cell? ⟨W.heap.size, 7, none⟩ = some (.int .i64 sz) ∧ Keeps W w') x.w) := Lib.hid (fun x => x.ok)
        refine wp_region_class (fun w' => w'.cell? ⟨B, 1, none⟩ = some (.int .i64 wd) ∧ w'.cell? ⟨B, 2, none⟩ = some (.int .i64 r1) ∧ w'.cell? ⟨B, 3, none⟩ = some (.int .u64 r2) ∧ w'.cell? ⟨W.heap.size, 5, none⟩ = some (.string cb) ∧ w'.cell? ⟨W.heap.size, 6, none⟩ = some (.int .i64 f) ∧ w'.cell? ⟨W.heap.size, 7, none⟩ = some (.int .i64 sz) ∧ Keeps W w') (by kernel_rfl) (by kernel_rfl) (fit_drew S5.out) ?_
        repeat (go_big_quiet_step (first
          | (go_at_call 28; exact class_call (fun _ p k => fit_keep k p) (RO.out _))
          | (go_at_call 69; exact class_same (AS.out _ (GO.out _)))))
        refine wpQuiet_nil ?_
        rintro w5 ⟨⟨w6, h6⟩, rfl⟩
        clear G1 G2 G3 G5 G6 G7 S5
        obtain ⟨h1, h2, h3, h5, g6, g7, K6⟩ := h6
        go_wp2_with fail
        refine (CS.out _ ⟨h1, h2, h3, h5, g6, g7, K6⟩).mono ?_
        rintro e w4 ⟨rfl, rfl⟩
        go_wp2_with fail
        go_ret
        exact ⟨ret_nat HV.out.symm, K6⟩
end
end Go.Proofs.YtfnkokfkhjdkfaaDoor

/-
  Boxes that have no room are parted: as plain lists.
-/
namespace Go.Proofs.YtfnkokfkhjdkfaaDoor
open Go.RowKit Go.Lib Go.Maps

theorem Spl.only {w0 W W' : World} {wd r : Int} {B X : Nat} {v : Value} {its : List It} (h : Spl w0 wd W B v its r) (k : OnlyX X W W') (hB : X ≠ B) (hv : v.ownBlock ≠ some X) (h0 : w0.heap.size ≤ X) : Spl w0 wd W' B v its r :=
  ⟨⟨by unfold Blk; rw [k.block B (fun e => hB e.symm)]; exact h.own.box, h.own.low, row_same h.own.row fun g e => k.block g (fun q => hv (by rw [← q]; exact e)), h.own.ne⟩,
    ⟨k.os.trans h.keep.os, k.tape.trans h.keep.tape, k.output.trans h.keep.output, by rw [k.size]; exact h.keep.size, fun b hb => (k.block b (by omega)).trans (h.keep.block b hb)⟩⟩
theorem Mvd.only {W W1 W' : World} {B X : Nat} {v v1 : Value} (h : Mvd W W1 B v v1) (k : OnlyX X W1 W') (hX : W.heap.size ≤ X) : Mvd W W' B v v1 :=
  ⟨k.os.trans h.os, k.tape.trans h.tape, k.output.trans h.output, by rw [k.size]; exact h.size, fun b hb h0 h1 => (k.block b (by omega)).trans (h.block b hb h0 h1), h.lies⟩
theorem Sd.only {B : Nat} {W W' : World} {v : Value} {b X : Nat} {t : TypeId} {cs : Array Value} (h : Sd B W v b t cs) (k : OnlyX X W W') (hb : b ≠ X) : Sd B W' v b t cs :=
  ⟨by unfold Blk; rw [k.block b hb]; exact h.blk, h.box, h.row⟩
def bxP (f sz lk : Int) (c : List UInt8) : It := ⟨1, runL f sz c, 0, 0, 0, c, f, sz, lk⟩
/-- The parts of a box of codes, and what is left of the width. -/
def partL (wd f sz lk : Int) : Nat → List UInt8 → List It × Int → List It × Int
  | 0, _, p => p
  | n + 1, c, p =>
    if runL f sz c ≤ p.2 then (p.1 ++ [bxP f sz lk c], p.2 - runL f sz c)
    else if fitN wd f sz c p.2 = 0 then partL wd f sz lk n c (p.1 ++ [itPen 0], wd)
    else if c.drop (fitN wd f sz c p.2) = [] then (p.1 ++ [bxP f sz lk (c.take (fitN wd f sz c p.2))], p.2 - runL f sz (c.take (fitN wd f sz c p.2)))
    else partL wd f sz lk n (c.drop (fitN wd f sz c p.2)) ((p.1 ++ [bxP f sz lk (c.take (fitN wd f sz c p.2))]) ++ [itPen 0], wd)
theorem cutL_le (f sz w : Int) (c : List UInt8) : cutL f sz w c ≤ c.length := by
  unfold cutL
  split
  · omega
  · rename_i h
    have := cutGo_le f sz w 0 c
    have := List.length_pos_iff.2 h
    omega
theorem fit_le (wd f sz : Int) (c : List UInt8) (r : Int) : fitN wd f sz c r ≤ c.length := by
  unfold fitN
  split
  · omega
  · exact cutL_le _ _ _ _
theorem fit_full {wd f sz : Int} {c : List UInt8} (h : c ≠ []) : 0 < fitN wd f sz c wd := by
  unfold fitN cutL
  rw [if_neg (fun q => q.1 rfl), if_neg h]
  omega
/-- Where something fits, all of the width is left, or not less than nothing. -/
theorem fit_room {wd f sz : Int} {c : List UInt8} {r : Int} (hs : 0 ≤ sz) (h : fitN wd f sz c r ≠ 0) : r = wd ∨ 0 ≤ r := by
  unfold fitN at h
  split at h
  · exact absurd rfl h
  · rename_i q
    by_cases e : r = wd
    · exact .inl e
    · have a := adv_nonneg (f := f) (c.headD 0).toNat_lt hs
      have : ¬ wordR r < advL f sz (c.headD 0).toNat := fun x => q ⟨e, x⟩
      unfold wordR at this
      split at this <;> omega
theorem part_stand {wd f sz lk : Int} {n : Nat} {c : List UInt8} {p : List It × Int} (h : runL f sz c ≤ p.2) : partL wd f sz lk (n + 1) c p = (p.1 ++ [bxP f sz lk c], p.2 - runL f sz c) := by rw [partL, if_pos h]
theorem part_none {wd f sz lk : Int} {n : Nat} {c : List UInt8} {p : List It × Int} (h : ¬ runL f sz c ≤ p.2) (h0 : fitN wd f sz c p.2 = 0) : partL wd f sz lk (n + 1) c p = partL wd f sz lk n c (p.1 ++ [itPen 0], wd) := by rw [partL, if_neg h, if_pos h0]
theorem part_last {wd f sz lk : Int} {n : Nat} {c : List UInt8} {p : List It × Int} (h : ¬ runL f sz c ≤ p.2) (h0 : fitN wd f sz c p.2 ≠ 0) (h1 : c.drop (fitN wd f sz c p.2) = []) : partL wd f sz lk (n + 1) c p = (p.1 ++ [bxP f sz lk (c.take (fitN wd f sz c p.2))], p.2 - runL f sz (c.take (fitN wd f sz c p.2))) := by rw [partL, if_neg h, if_neg h0, if_pos h1]
theorem part_more {wd f sz lk : Int} {n : Nat} {c : List UInt8} {p : List It × Int} (h : ¬ runL f sz c ≤ p.2) (h0 : fitN wd f sz c p.2 ≠ 0) (h1 : c.drop (fitN wd f sz c p.2) ≠ []) : partL wd f sz lk (n + 1) c p = partL wd f sz lk n (c.drop (fitN wd f sz c p.2)) ((p.1 ++ [bxP f sz lk (c.take (fitN wd f sz c p.2))]) ++ [itPen 0], wd) := by rw [partL, if_neg h, if_neg h0, if_neg h1]
/-- How many there are, and what is left. -/
theorem part_len {wd f sz lk : Int} (hs : 0 ≤ sz) (h2 : sz ≤ 2147483648) (hw : 0 ≤ wd) : ∀ (n : Nat) (c : List UInt8) (p : List It × Int), c.length ≤ 100000 → -217969590200000 ≤ p.2 → p.2 ≤ wd →
    (partL wd f sz lk n c p).1.length ≤ p.1.length + 2 * n ∧ -217969590200000 ≤ (partL wd f sz lk n c p).2 ∧ (partL wd f sz lk n c p).2 ≤ wd
  | 0, c, p, _, h3, h4 => by unfold partL; exact ⟨by omega, h3, h4⟩
  | n + 1, c, p, hc, h3, h4 => by
    by_cases a1 : runL f sz c ≤ p.2
    · rw [part_stand a1]
      have := run_nonneg (f := f) hs c
      exact ⟨by simp; omega, by simp only; omega, by simp only; omega⟩
    · by_cases a2 : fitN wd f sz c p.2 = 0
      · rw [part_none a1 a2]
        have := part_len (f := f) (lk := lk) hs h2 hw n c (p.1 ++ [itPen 0], wd) hc (by simp only; omega) (Int.le_refl _)
        simp only [List.length_append, List.length_singleton] at this
        omega
      · have r1 := run_nonneg (f := f) hs (c.take (fitN wd f sz c p.2))
        have r2 := run_le (f := f) hs h2 (c.take (fitN wd f sz c p.2))
        have r3 : ((c.take (fitN wd f sz c p.2)).length : Int) ≤ 100000 := by rw [List.length_take]; omega
        have r4 := fit_room hs a2
        by_cases a3 : c.drop (fitN wd f sz c p.2) = []
        · rw [part_last a1 a2 a3]
          exact ⟨by simp; omega, by simp only; omega, by simp only; omega⟩
        · rw [part_more a1 a2 a3]
          have := part_len (f := f) (lk := lk) hs h2 hw n (c.drop (fitN wd f sz c p.2)) ((p.1 ++ [bxP f sz lk (c.take (fitN wd f sz c p.2))]) ++ [itPen 0], wd) (by rw [List.length_drop]; omega) (by simp only; omega) (Int.le_refl _)
          simp only [List.length_append, List.length_singleton] at this
          omega
end Go.Proofs.YtfnkokfkhjdkfaaDoor


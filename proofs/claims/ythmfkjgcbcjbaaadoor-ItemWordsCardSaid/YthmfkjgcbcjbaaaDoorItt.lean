/-
  Contract of fitting, of the package item's splitter.
-/
import Derived.Test.YthmfkjgcbcjbaaaDoorIts
import Derived.Test.YthmfkjgcbcjbaaaDoorItf
import Derived.Test.YthmfkjgcbcjbaaaDoorCls
namespace Go.Proofs.YthmfkjgcbcjbaaaDoor
open Go.RowKit Go.Lib Go.Maps

/-- How many of a box's codes have room. -/
def fitN (wd f sz : Int) (c : List UInt8) (r : Int) : Nat := if r ≠ wd ∧ wordR r < advL f sz (c.headD 0).toNat then 0 else cutL f sz (wordR r) c
theorem ret_nat {a b : Nat} (h : a = b) : Ending.returned (.int .i64 (a : Nat)) = .returned (.int .i64 (b : Nat)) := by rw [h]
section
variable {W W1 W2 : World} {B C : Nat} {wd r1 r2 f sz : Int} {cb : ByteArray}
theorem fit_pack (a1 : W1.cell? ⟨B, 1, none⟩ = some (.int .i64 wd)) (a2 : W1.cell? ⟨B, 2, none⟩ = some (.int .i64 r1)) (a3 : W1.cell? ⟨B, 3, none⟩ = some (.int .u64 r2)) (a5 : W1.cell? ⟨C, 5, none⟩ = some (.string cb)) (a6 : W1.cell? ⟨C, 6, none⟩ = some (.int .i64 f)) (a7 : W1.cell? ⟨C, 7, none⟩ = some (.int .i64 sz)) (k : Keeps W W1) : W1.cell? ⟨B, 1, none⟩ = some (.int .i64 wd) ∧ W1.cell? ⟨B, 2, none⟩ = some (.int .i64 r1) ∧ W1.cell? ⟨B, 3, none⟩ = some (.int .u64 r2) ∧ W1.cell? ⟨C, 5, none⟩ = some (.string cb) ∧ W1.cell? ⟨C, 6, none⟩ = some (.int .i64 f) ∧ W1.cell? ⟨C, 7, none⟩ = some (.int .i64 sz) ∧ Keeps W W1 := ⟨a1, a2, a3, a5, a6, a7, k⟩
theorem fit_keep (k : Keeps W1 W2) (h : W1.cell? ⟨B, 1, none⟩ = some (.int .i64 wd) ∧ W1.cell? ⟨B, 2, none⟩ = some (.int .i64 r1) ∧ W1.cell? ⟨B, 3, none⟩ = some (.int .u64 r2) ∧ W1.cell? ⟨C, 5, none⟩ = some (.string cb) ∧ W1.cell? ⟨C, 6, none⟩ = some (.int .i64 f) ∧ W1.cell? ⟨C, 7, none⟩ = some (.int .i64 sz) ∧ Keeps W W1) : W2.cell? ⟨B, 1, none⟩ = some (.int .i64 wd) ∧ W2.cell? ⟨B, 2, none⟩ = some (.int .i64 r1) ∧ W2.cell? ⟨B, 3, none⟩ = some (.int .u64 r2) ∧ W2.cell? ⟨C, 5, none⟩ = some (.string cb) ∧ W2.cell? ⟨C, 6, none⟩ = some (.int .i64 f) ∧ W2.cell? ⟨C, 7, none⟩ = some (.int .i64 sz) ∧ Keeps W W2 := ⟨k.cell2 h.1, k.cell2 h.2.1, k.cell2 h.2.2.1, k.cell2 h.2.2.2.1, k.cell2 h.2.2.2.2.1, k.cell2 h.2.2.2.2.2.1, h.2.2.2.2.2.2.trans k⟩
theorem fit_drew (h : W1.cell? ⟨B, 1, none⟩ = some (.int .i64 wd) ∧ W1.cell? ⟨B, 2, none⟩ = some (.int .i64 r1) ∧ W1.cell? ⟨B, 3, none⟩ = some (.int .u64 r2) ∧ W1.cell? ⟨C, 5, none⟩ = some (.string cb) ∧ W1.cell? ⟨C, 6, none⟩ = some (.int .i64 f) ∧ W1.cell? ⟨C, 7, none⟩ = some (.int .i64 sz) ∧ Keeps W W1) : W1.drew.cell? ⟨B, 1, none⟩ = some (.int .i64 wd) ∧ W1.drew.cell? ⟨B, 2, none⟩ = some (.int .i64 r1) ∧ W1.drew.cell? ⟨B, 3, none⟩ = some (.int .u64 r2) ∧ W1.drew.cell? ⟨C, 5, none⟩ = some (.string cb) ∧ W1.drew.cell? ⟨C, 6, none⟩ = some (.int .i64 f) ∧ W1.drew.cell? ⟨C, 7, none⟩ = some (.int .i64 sz) ∧ Keeps W W1.drew := ⟨h.1, h.2.1, h.2.2.1, h.2.2.2.1, h.2.2.2.2.1, h.2.2.2.2.2.1, h.2.2.2.2.2.2.drew⟩
theorem fit_end (h : W1.cell? ⟨B, 1, none⟩ = some (.int .i64 wd) ∧ W1.cell? ⟨B, 2, none⟩ = some (.int .i64 r1) ∧ W1.cell? ⟨B, 3, none⟩ = some (.int .u64 r2) ∧ W1.cell? ⟨C, 5, none⟩ = some (.string cb) ∧ W1.cell? ⟨C, 6, none⟩ = some (.int .i64 f) ∧ W1.cell? ⟨C, 7, none⟩ = some (.int .i64 sz) ∧ Keeps W W1) : Keeps W W1 := h.2.2.2.2.2.2
end
section
variable {w0 W : World} {B : Nat} {v : Value} {its : List It} {wd r : Int}
set_option maxRecDepth 100000 in
set_option maxHeartbeats 16000000 in
theorem fitting_any (x : It) (h : Spl w0 wd W B v its r) (hE : EnvI w0) (hx : x.codes ≠ []) (hc : x.codes.length ≤ 100000) (s1 : 0 ≤ x.size) (s2 : x.size ≤ 2147483648) (h0 : -1208925819614629174706176 ≤ r) (h3 : r ≤ 1208925819614629174706176) (h1 : -9223372036854775808 ≤ wd) (h2 : wd ≤ 9223372036854775807) :
    Calls Tryd.prog 36 #[.pointer (some ⟨B, 0, none⟩), itV x] W fun e w' => e = .returned (.int .i64 (fitN wd x.font x.size x.codes r)) ∧ Keeps W w' := by
  have KA := Lib.hid (fun o => (Keeps.refl W).alloc o)
  have WR := Lib.hid (fun W1 => wordr_any r W1 h0 h3)
  have RO := Lib.hid (fun W1 => roomOf_any wd W1 h1 h2)
  have HB1 := Lib.hid (fun W1 (k : Keeps W W1) => (h.own.keep k).box.cell 1 (v := .int .i64 wd) rfl)
  have HB2 := Lib.hid (fun W1 (k : Keeps W W1) => (h.own.keep k).box.cell 2 (v := .int .i64 (r / 18446744073709551616)) rfl)
  have HB3 := Lib.hid (fun W1 (k : Keeps W W1) => (h.own.keep k).box.cell 3 (v := .int .u64 (r % 18446744073709551616)) rfl)
  have HX := Lib.hid (fun cs W1 (k : Keeps (W.alloc (.cells cs 35)) W1) => (h.new 35 cs).blk.keep k)
  obtain ⟨x1, x2, x3, x4, x5, c, f, sz, lk⟩ := x
  have AD := Lib.hid (fun W1 (k : Keeps W W1) => adv_any f sz (c.headD 0).toNat (c.headD 0).toNat_lt W1 (by simp only at s1; omega) s2 (hE.fnt.keep (h.keep.trans k)))
  have CT := Lib.hid (fun W1 (k : Keeps W W1) => cut_any f sz (wordR r) ⟨c.toArray⟩ W1 (by show c.toArray.size ≤ _; simp; exact hc) s1 s2 (hE.fnt.keep (h.keep.trans k)))
  have a0 := adv_nonneg (f := f) (c.headD 0).toNat_lt s1
  have a1 := adv_le (f := f) (c.headD 0).toNat_lt s1 s2
  obtain ⟨cb, hcb⟩ : ∃ cb : ByteArray, cb = ⟨c.toArray⟩ := ⟨_, rfl⟩
  have hz : 0 < cb.size := by rw [hcb]; show 0 < c.toArray.size; simp; exact List.length_pos_iff.2 hx
  have hg : cb[0] = c.headD 0 := by
    subst hcb
    cases c with
    | nil => exact absurd rfl hx
    | cons a l => rfl
  rw [show (⟨c.toArray⟩ : ByteArray).data.toList = c from rfl] at CT
  rw [← hcb] at CT
  rw [← hg] at AD a0 a1
  have HF : Hid (∀ P : Prop, (r = wd → fitN wd f sz c r = cutL f sz (wordR r) c)) := Lib.hid fun _ e => by unfold fitN; rw [if_neg (fun q => q.1 e)]
  have HF0 : Hid (r ≠ wd → wordR r < advL f sz cb[0].toNat → fitN wd f sz c r = 0) := Lib.hid fun e q => by unfold fitN; rw [← hg, if_pos ⟨e, q⟩]
  have HF1 : Hid (¬ wordR r < advL f sz cb[0].toNat → fitN wd f sz c r = cutL f sz (wordR r) c) := Lib.hid fun q => by unfold fitN; rw [← hg, if_neg (fun e => q e.2)]
  have hw0 : -9223372036854775808 ≤ wordR r ∧ wordR r ≤ 9223372036854775807 := by unfold wordR; split <;> omega
  have hr : r = wd ∨ (r ≠ wd ∧ (¬ r / 18446744073709551616 = wd / 18446744073709551616 ∨ (r / 18446744073709551616 = wd / 18446744073709551616 ∧ ¬ r % 18446744073709551616 = wd % 18446744073709551616))) := by omega
  clear h hE hx hc hg
  unfold itV roomV at *
  simp only at *
  rw [← hcb]
  clear hcb
  generalize wordR r = fr at *
  generalize advL f sz cb[0].toNat = ad at *
  generalize cutL f sz fr c = ct at *
  rcases hr with e0 | ⟨e0, hr⟩
  · have HV := Lib.hid (HF.out True e0)
    subst e0
    clear HF HF0 HF1
    generalize r / 18446744073709551616 = r1 at *
    generalize r % 18446744073709551616 = r2 at *
    go_enter Tryd.func36, Tryd.ntmps36
    have K0 := KA.out (.cells #[.int .i64 x1, .int .i64 x2, .int .i64 x3, .int .i64 x4, .int .i64 x5, .string cb, .int .i64 f, .int .i64 sz, .int .i64 lk] 35)
    have b2 := HB2.out _ K0
    have b3 := HB3.out _ K0
    go_wp2_with fail
    refine (WR.out _).mono ?_
    rintro e w1 ⟨rfl, k1⟩
    have K1 := K0.trans k1
    have bx := HX.out #[.int .i64 x1, .int .i64 x2, .int .i64 x3, .int .i64 x4, .int .i64 x5, .string cb, .int .i64 f, .int .i64 sz, .int .i64 lk] w1 k1
    have S5 := Lib.hid (fit_pack (HB1.out w1 K1) (HB2.out w1 K1) (HB3.out w1 K1) (bx.cell 5 (v := .string cb) rfl) (bx.cell 6 (v := .int .i64 f) rfl) (bx.cell 7 (v := .int .i64 sz) rfl) K1)
    clear bx b2 b3 k1 K1 K0
    have AS := Lib.hid (fun W' (h : W'.cell? ⟨B, 1, none⟩ = some (.int .i64 r) ∧ W'.cell? ⟨B, 2, none⟩ = some (.int .i64 r1) ∧ W'.cell? ⟨B, 3, none⟩ = some (.int .u64 r2) ∧ W'.cell? ⟨W.heap.size, 5, none⟩ = some (.string cb) ∧ W'.cell? ⟨W.heap.size, 6, none⟩ = some (.int .i64 f) ∧ W'.cell? ⟨W.heap.size, 7, none⟩ = some (.int .i64 sz) ∧ Keeps W W') => AD.out W' h.2.2.2.2.2.2)
    have CS := Lib.hid (fun W' (h : W'.cell? ⟨B, 1, none⟩ = some (.int .i64 r) ∧ W'.cell? ⟨B, 2, none⟩ = some (.int .i64 r1) ∧ W'.cell? ⟨B, 3, none⟩ = some (.int .u64 r2) ∧ W'.cell? ⟨W.heap.size, 5, none⟩ = some (.string cb) ∧ W'.cell? ⟨W.heap.size, 6, none⟩ = some (.int .i64 f) ∧ W'.cell? ⟨W.heap.size, 7, none⟩ = some (.int .i64 sz) ∧ Keeps W W') => CT.out W' h.2.2.2.2.2.2)
    go_wp2_with fail
    have NE : Nonempty (InS (fun w' => w'.cell? ⟨B, 1, none⟩ = some (.int .i64 r) ∧ w'.cell? ⟨B, 2, none⟩ = some (.int .i64 r1) ∧ w'.cell? ⟨B, 3, none⟩ = some (.int .u64 r2) ∧ w'.cell? ⟨W.heap.size, 5, none⟩ = some (.string cb) ∧ w'.cell? ⟨W.heap.size, 6, none⟩ = some (.int .i64 f) ∧ w'.cell? ⟨W.heap.size, 7, none⟩ = some (.int .i64 sz) ∧ Keeps W w')) := ⟨⟨_, fit_drew S5.out⟩⟩
    have G1 : ∀ x : InS (fun w' => w'.cell? ⟨B, 1, none⟩ = some (.int .i64 r) ∧ w'.cell? ⟨B, 2, none⟩ = some (.int .i64 r1) ∧ w'.cell? ⟨B, 3, none⟩ = some (.int .u64 r2) ∧ w'.cell? ⟨W.heap.size, 5, none⟩ = some (.string cb) ∧ w'.cell? ⟨W.heap.size, 6, none⟩ = some (.int .i64 f) ∧ w'.cell? ⟨W.heap.size, 7, none⟩ = some (.int .i64 sz) ∧ Keeps W w'), x.w.cell? ⟨B, 1, none⟩ = some (.int .i64 r) := fun x => x.ok.1
    have G2 : ∀ x : InS (fun w' => w'.cell? ⟨B, 1, none⟩ = some (.int .i64 r) ∧ w'.cell? ⟨B, 2, none⟩ = some (.int .i64 r1) ∧ w'.cell? ⟨B, 3, none⟩ = some (.int .u64 r2) ∧ w'.cell? ⟨W.heap.size, 5, none⟩ = some (.string cb) ∧ w'.cell? ⟨W.heap.size, 6, none⟩ = some (.int .i64 f) ∧ w'.cell? ⟨W.heap.size, 7, none⟩ = some (.int .i64 sz) ∧ Keeps W w'), x.w.cell? ⟨B, 2, none⟩ = some (.int .i64 r1) := fun x => x.ok.2.1
    have G3 : ∀ x : InS (fun w' => w'.cell? ⟨B, 1, none⟩ = some (.int .i64 r) ∧ w'.cell? ⟨B, 2, none⟩ = some (.int .i64 r1) ∧ w'.cell? ⟨B, 3, none⟩ = some (.int .u64 r2) ∧ w'.cell? ⟨W.heap.size, 5, none⟩ = some (.string cb) ∧ w'.cell? ⟨W.heap.size, 6, none⟩ = some (.int .i64 f) ∧ w'.cell? ⟨W.heap.size, 7, none⟩ = some (.int .i64 sz) ∧ Keeps W w'), x.w.cell? ⟨B, 3, none⟩ = some (.int .u64 r2) := fun x => x.ok.2.2.1
    have G5 : ∀ x : InS (fun w' => w'.cell? ⟨B, 1, none⟩ = some (.int .i64 r) ∧ w'.cell? ⟨B, 2, none⟩ = some (.int .i64 r1) ∧ w'.cell? ⟨B, 3, none⟩ = some (.int .u64 r2) ∧ w'.cell? ⟨W.heap.size, 5, none⟩ = some (.string cb) ∧ w'.cell? ⟨W.heap.size, 6, none⟩ = some (.int .i64 f) ∧ w'.cell? ⟨W.heap.size, 7, none⟩ = some (.int .i64 sz) ∧ Keeps W w'), x.w.cell? ⟨W.heap.size, 5, none⟩ = some (.string cb) := fun x => x.ok.2.2.2.1
    have G6 : ∀ x : InS (fun w' => w'.cell? ⟨B, 1, none⟩ = some (.int .i64 r) ∧ w'.cell? ⟨B, 2, none⟩ = some (.int .i64 r1) ∧ w'.cell? ⟨B, 3, none⟩ = some (.int .u64 r2) ∧ w'.cell? ⟨W.heap.size, 5, none⟩ = some (.string cb) ∧ w'.cell? ⟨W.heap.size, 6, none⟩ = some (.int .i64 f) ∧ w'.cell? ⟨W.heap.size, 7, none⟩ = some (.int .i64 sz) ∧ Keeps W w'), x.w.cell? ⟨W.heap.size, 6, none⟩ = some (.int .i64 f) := fun x => x.ok.2.2.2.2.1
    have G7 : ∀ x : InS (fun w' => w'.cell? ⟨B, 1, none⟩ = some (.int .i64 r) ∧ w'.cell? ⟨B, 2, none⟩ = some (.int .i64 r1) ∧ w'.cell? ⟨B, 3, none⟩ = some (.int .u64 r2) ∧ w'.cell? ⟨W.heap.size, 5, none⟩ = some (.string cb) ∧ w'.cell? ⟨W.heap.size, 6, none⟩ = some (.int .i64 f) ∧ w'.cell? ⟨W.heap.size, 7, none⟩ = some (.int .i64 sz) ∧ Keeps W w'), x.w.cell? ⟨W.heap.size, 7, none⟩ = some (.int .i64 sz) := fun x => x.ok.2.2.2.2.2.1
    have GO : Hid (∀ x : InS (fun w' => w'.cell? ⟨B, 1, none⟩ = some (.int .i64 r) ∧ w'.cell? ⟨B, 2, none⟩ = some (.int .i64 r1) ∧ w'.cell? ⟨B, 3, none⟩ = some (.int .u64 r2) ∧ w'.cell? ⟨W.heap.size, 5, none⟩ = some (.string cb) ∧ w'.cell? ⟨W.heap.size, 6, none⟩ = some (.int .i64 f) ∧ w'.cell? ⟨W.heap.size, 7, none⟩ = some (.int .i64 sz) ∧ Keeps W w'), (fun w' => w'.cell? ⟨B, 1, none⟩ = some (.int .i64 r) ∧ w'.cell? ⟨B, 2, none⟩ = some (.int .i64 r1) ∧ w'.cell? ⟨B, 3, none⟩ = some (.int .u64 r2) ∧ w'.cell? ⟨W.heap.size, 5, none⟩ = some (.string cb) ∧ w'.cell? ⟨W.heap.size, 6, none⟩ = some (.int .i64 f) ∧ w'.cell? ⟨W.heap.size, 7, none⟩ = some (.int .i64 sz) ∧ Keeps W w') x.w) := Lib.hid (fun x => x.ok)
    refine wp_region_class (fun w' => w'.cell? ⟨B, 1, none⟩ = some (.int .i64 r) ∧ w'.cell? ⟨B, 2, none⟩ = some (.int .i64 r1) ∧ w'.cell? ⟨B, 3, none⟩ = some (.int .u64 r2) ∧ w'.cell? ⟨W.heap.size, 5, none⟩ = some (.string cb) ∧ w'.cell? ⟨W.heap.size, 6, none⟩ = some (.int .i64 f) ∧ w'.cell? ⟨W.heap.size, 7, none⟩ = some (.int .i64 sz) ∧ Keeps W w') (by kernel_rfl) (by kernel_rfl) (fit_drew S5.out) ?_
    repeat (go_big_quiet_step (first
      | (go_at_call 21; exact class_call (fun _ p k => fit_keep k p) (RO.out _))
      | (go_at_call 50; exact class_same (AS.out _ (GO.out _)))))
    refine wpQuiet_nil ?_
    rintro w5 ⟨⟨w6, h6⟩, rfl⟩
    clear G1 G2 G3 G5 G6 G7 S5
    obtain ⟨h1, h2, h3, h5, g6, g7, K6⟩ := h6
    go_wp2_with fail
    refine (CS.out _ ⟨h1, h2, h3, h5, g6, g7, K6⟩).mono ?_
    rintro e w4 ⟨rfl, rfl⟩
    go_wp2_with fail
    go_ret
    exact ⟨ret_nat HV.out.symm, K6⟩
  · by_cases ha : fr < ad
    · have HV := Lib.hid (HF0.out e0 ha)
      have ta : decide (fr < ad) = true := decide_eq_true ha
      clear HF HF0 HF1 e0
      generalize r / 18446744073709551616 = r1 at *
      generalize r % 18446744073709551616 = r2 at *
      generalize wd / 18446744073709551616 = q1 at *
      generalize wd % 18446744073709551616 = q2 at *
      rcases hr with hr | ⟨rfl, hr⟩
      · have t1 : (r1 == q1) = false := beqF hr
        go_enter Tryd.func36, Tryd.ntmps36
        have K0 := KA.out (.cells #[.int .i64 x1, .int .i64 x2, .int .i64 x3, .int .i64 x4, .int .i64 x5, .string cb, .int .i64 f, .int .i64 sz, .int .i64 lk] 35)
        have b2 := HB2.out _ K0
        have b3 := HB3.out _ K0
        go_wp2_with fail
        refine (WR.out _).mono ?_
        rintro e w1 ⟨rfl, k1⟩
        have K1 := K0.trans k1
        have bx := HX.out #[.int .i64 x1, .int .i64 x2, .int .i64 x3, .int .i64 x4, .int .i64 x5, .string cb, .int .i64 f, .int .i64 sz, .int .i64 lk] w1 k1
        have S5 := Lib.hid (fit_pack (HB1.out w1 K1) (HB2.out w1 K1) (HB3.out w1 K1) (bx.cell 5 (v := .string cb) rfl) (bx.cell 6 (v := .int .i64 f) rfl) (bx.cell 7 (v := .int .i64 sz) rfl) K1)
        clear bx b2 b3 k1 K1 K0
        have AS := Lib.hid (fun W' (h : W'.cell? ⟨B, 1, none⟩ = some (.int .i64 wd) ∧ W'.cell? ⟨B, 2, none⟩ = some (.int .i64 r1) ∧ W'.cell? ⟨B, 3, none⟩ = some (.int .u64 r2) ∧ W'.cell? ⟨W.heap.size, 5, none⟩ = some (.string cb) ∧ W'.cell? ⟨W.heap.size, 6, none⟩ = some (.int .i64 f) ∧ W'.cell? ⟨W.heap.size, 7, none⟩ = some (.int .i64 sz) ∧ Keeps W W') => AD.out W' h.2.2.2.2.2.2)
        have CS := Lib.hid (fun W' (h : W'.cell? ⟨B, 1, none⟩ = some (.int .i64 wd) ∧ W'.cell? ⟨B, 2, none⟩ = some (.int .i64 r1) ∧ W'.cell? ⟨B, 3, none⟩ = some (.int .u64 r2) ∧ W'.cell? ⟨W.heap.size, 5, none⟩ = some (.string cb) ∧ W'.cell? ⟨W.heap.size, 6, none⟩ = some (.int .i64 f) ∧ W'.cell? ⟨W.heap.size, 7, none⟩ = some (.int .i64 sz) ∧ Keeps W W') => CT.out W' h.2.2.2.2.2.2)
        go_wp2_with fail
        have NE : Nonempty (InS (fun w' => w'.cell? ⟨B, 1, none⟩ = some (.int .i64 wd) ∧ w'.cell? ⟨B, 2, none⟩ = some (.int .i64 r1) ∧ w'.cell? ⟨B, 3, none⟩ = some (.int .u64 r2) ∧ w'.cell? ⟨W.heap.size, 5, none⟩ = some (.string cb) ∧ w'.cell? ⟨W.heap.size, 6, none⟩ = some (.int .i64 f) ∧ w'.cell? ⟨W.heap.size, 7, none⟩ = some (.int .i64 sz) ∧ Keeps W w')) := ⟨⟨_, fit_drew S5.out⟩⟩
        have G1 : ∀ x : InS (fun w' => w'.cell? ⟨B, 1, none⟩ = some (.int .i64 wd) ∧ w'.cell? ⟨B, 2, none⟩ = some (.int .i64 r1) ∧ w'.cell? ⟨B, 3, none⟩ = some (.int .u64 r2) ∧ w'.cell? ⟨W.heap.size, 5, none⟩ = some (.string cb) ∧ w'.cell? ⟨W.heap.size, 6, none⟩ = some (.int .i64 f) ∧ w'.cell? ⟨W.heap.size, 7, none⟩ = some (.int .i64 sz) ∧ Keeps W w'), x.w.cell? ⟨B, 1, none⟩ = some (.int .i64 wd) := fun x => x.ok.1
        have G2 : ∀ x : InS (fun w' => w'.cell? ⟨B, 1, none⟩ = some (.int .i64 wd) ∧ w'.cell? ⟨B, 2, none⟩ = some (.int .i64 r1) ∧ w'.cell? ⟨B, 3, none⟩ = some (.int .u64 r2) ∧ w'.cell? ⟨W.heap.size, 5, none⟩ = some (.string cb) ∧ w'.cell? ⟨W.heap.size, 6, none⟩ = some (.int .i64 f) ∧ w'.cell? ⟨W.heap.size, 7, none⟩ = some (.int .i64 sz) ∧ Keeps W w'), x.w.cell? ⟨B, 2, none⟩ = some (.int .i64 r1) := fun x => x.ok.2.1
        have G3 : ∀ x : InS (fun w' => w'.cell? ⟨B, 1, none⟩ = some (.int .i64 wd) ∧ w'.cell? ⟨B, 2, none⟩ = some (.int .i64 r1) ∧ w'.cell? ⟨B, 3, none⟩ = some (.int .u64 r2) ∧ w'.cell? ⟨W.heap.size, 5, none⟩ = some (.string cb) ∧ w'.cell? ⟨W.heap.size, 6, none⟩ = some (.int .i64 f) ∧ w'.cell? ⟨W.heap.size, 7, none⟩ = some (.int .i64 sz) ∧ Keeps W w'), x.w.cell? ⟨B, 3, none⟩ = some (.int .u64 r2) := fun x => x.ok.2.2.1
        have G5 : ∀ x : InS (fun w' => w'.cell? ⟨B, 1, none⟩ = some (.int .i64 wd) ∧ w'.cell? ⟨B, 2, none⟩ = some (.int .i64 r1) ∧ w'.cell? ⟨B, 3, none⟩ = some (.int .u64 r2) ∧ w'.cell? ⟨W.heap.size, 5, none⟩ = some (.string cb) ∧ w'.cell? ⟨W.heap.size, 6, none⟩ = some (.int .i64 f) ∧ w'.cell? ⟨W.heap.size, 7, none⟩ = some (.int .i64 sz) ∧ Keeps W w'), x.w.cell? ⟨W.heap.size, 5, none⟩ = some (.string cb) := fun x => x.ok.2.2.2.1
        have G6 : ∀ x : InS (fun w' => w'.cell? ⟨B, 1, none⟩ = some (.int .i64 wd) ∧ w'.cell? ⟨B, 2, none⟩ = some (.int .i64 r1) ∧ w'.cell? ⟨B, 3, none⟩ = some (.int .u64 r2) ∧ w'.cell? ⟨W.heap.size, 5, none⟩ = some (.string cb) ∧ w'.cell? ⟨W.heap.size, 6, none⟩ = some (.int .i64 f) ∧ w'.cell? ⟨W.heap.size, 7, none⟩ = some (.int .i64 sz) ∧ Keeps W w'), x.w.cell? ⟨W.heap.size, 6, none⟩ = some (.int .i64 f) := fun x => x.ok.2.2.2.2.1
        have G7 : ∀ x : InS (fun w' => w'.cell? ⟨B, 1, none⟩ = some (.int .i64 wd) ∧ w'.cell? ⟨B, 2, none⟩ = some (.int .i64 r1) ∧ w'.cell? ⟨B, 3, none⟩ = some (.int .u64 r2) ∧ w'.cell? ⟨W.heap.size, 5, none⟩ = some (.string cb) ∧ w'.cell? ⟨W.heap.size, 6, none⟩ = some (.int .i64 f) ∧ w'.cell? ⟨W.heap.size, 7, none⟩ = some (.int .i64 sz) ∧ Keeps W w'), x.w.cell? ⟨W.heap.size, 7, none⟩ = some (.int .i64 sz) := fun x => x.ok.2.2.2.2.2.1
        have GO : Hid (∀ x : InS (fun w' => w'.cell? ⟨B, 1, none⟩ = some (.int .i64 wd) ∧ w'.cell? ⟨B, 2, none⟩ = some (.int .i64 r1) ∧ w'.cell? ⟨B, 3, none⟩ = some (.int .u64 r2) ∧ w'.cell? ⟨W.heap.size, 5, none⟩ = some (.string cb) ∧ w'.cell? ⟨W.heap.size, 6, none⟩ = some (.int .i64 f) ∧ w'.cell? ⟨W.heap.size, 7, none⟩ = some (.int .i64 sz) ∧ Keeps W w'), (fun w' => w'.cell? ⟨B, 1, none⟩ = some (.int .i64 wd) ∧ w'.cell? ⟨B, 2, none⟩ = some (.int .i64 r1) ∧ w'.cell? ⟨B, 3, none⟩ = some (.int .u64 r2) ∧ w'.cell? ⟨W.heap.size, 5, none⟩ = some (.string cb) ∧ w'.cell? ⟨W.heap.size, 6, none⟩ = some (.int .i64 f) ∧ w'.cell? ⟨W.heap.size, 7, none⟩ = some (.int .i64 sz) ∧ Keeps W w') x.w) := Lib.hid (fun x => x.ok)
        refine wp_region_class (fun w' => w'.cell? ⟨B, 1, none⟩ = some (.int .i64 wd) ∧ w'.cell? ⟨B, 2, none⟩ = some (.int .i64 r1) ∧ w'.cell? ⟨B, 3, none⟩ = some (.int .u64 r2) ∧ w'.cell? ⟨W.heap.size, 5, none⟩ = some (.string cb) ∧ w'.cell? ⟨W.heap.size, 6, none⟩ = some (.int .i64 f) ∧ w'.cell? ⟨W.heap.size, 7, none⟩ = some (.int .i64 sz) ∧ Keeps W w') (by kernel_rfl) (by kernel_rfl) (fit_drew S5.out) ?_
        repeat (go_big_quiet_step (first
          | (go_at_call 21; exact class_call (fun _ p k => fit_keep k p) (RO.out _))
          | (go_at_call 50; exact class_same (AS.out _ (GO.out _)))))
        refine wpQuiet_nil ?_
        rintro w5 ⟨⟨w6, h6⟩, rfl⟩
        clear G1 G2 G3 G5 G6 G7 S5
        obtain ⟨h1, h2, h3, h5, g6, g7, K6⟩ := h6
        go_wp2_with fail
        go_ret
        exact ⟨ret_nat HV.out.symm, K6⟩
      · have t1 : (r2 == q2) = false := beqF hr
        go_enter Tryd.func36, Tryd.ntmps36
        have K0 := KA.out (.cells #[.int .i64 x1, .int .i64 x2, .int .i64 x3, .int .i64 x4, .int .i64 x5, .string cb, .int .i64 f, .int .i64 sz, .int .i64 lk] 35)
        have b2 := HB2.out _ K0
        have b3 := HB3.out _ K0
        go_wp2_with fail
        refine (WR.out _).mono ?_
        rintro e w1 ⟨rfl, k1⟩
        have K1 := K0.trans k1
        have bx := HX.out #[.int .i64 x1, .int .i64 x2, .int .i64 x3, .int .i64 x4, .int .i64 x5, .string cb, .int .i64 f, .int .i64 sz, .int .i64 lk] w1 k1
        have S5 := Lib.hid (fit_pack (HB1.out w1 K1) (HB2.out w1 K1) (HB3.out w1 K1) (bx.cell 5 (v := .string cb) rfl) (bx.cell 6 (v := .int .i64 f) rfl) (bx.cell 7 (v := .int .i64 sz) rfl) K1)
        clear bx b2 b3 k1 K1 K0
        have AS := Lib.hid (fun W' (h : W'.cell? ⟨B, 1, none⟩ = some (.int .i64 wd) ∧ W'.cell? ⟨B, 2, none⟩ = some (.int .i64 r1) ∧ W'.cell? ⟨B, 3, none⟩ = some (.int .u64 r2) ∧ W'.cell? ⟨W.heap.size, 5, none⟩ = some (.string cb) ∧ W'.cell? ⟨W.heap.size, 6, none⟩ = some (.int .i64 f) ∧ W'.cell? ⟨W.heap.size, 7, none⟩ = some (.int .i64 sz) ∧ Keeps W W') => AD.out W' h.2.2.2.2.2.2)
        have CS := Lib.hid (fun W' (h : W'.cell? ⟨B, 1, none⟩ = some (.int .i64 wd) ∧ W'.cell? ⟨B, 2, none⟩ = some (.int .i64 r1) ∧ W'.cell? ⟨B, 3, none⟩ = some (.int .u64 r2) ∧ W'.cell? ⟨W.heap.size, 5, none⟩ = some (.string cb) ∧ W'.cell? ⟨W.heap.size, 6, none⟩ = some (.int .i64 f) ∧ W'.cell? ⟨W.heap.size, 7, none⟩ = some (.int .i64 sz) ∧ Keeps W W') => CT.out W' h.2.2.2.2.2.2)
        go_wp2_with fail
        have NE : Nonempty (InS (fun w' => w'.cell? ⟨B, 1, none⟩ = some (.int .i64 wd) ∧ w'.cell? ⟨B, 2, none⟩ = some (.int .i64 r1) ∧ w'.cell? ⟨B, 3, none⟩ = some (.int .u64 r2) ∧ w'.cell? ⟨W.heap.size, 5, none⟩ = some (.string cb) ∧ w'.cell? ⟨W.heap.size, 6, none⟩ = some (.int .i64 f) ∧ w'.cell? ⟨W.heap.size, 7, none⟩ = some (.int .i64 sz) ∧ Keeps W w')) := ⟨⟨_, fit_drew S5.out⟩⟩
        have G1 : ∀ x : InS (fun w' => w'.cell? ⟨B, 1, none⟩ = some (.int .i64 wd) ∧ w'.cell? ⟨B, 2, none⟩ = some (.int .i64 r1) ∧ w'.cell? ⟨B, 3, none⟩ = some (.int .u64 r2) ∧ w'.cell? ⟨W.heap.size, 5, none⟩ = some (.string cb) ∧ w'.cell? ⟨W.heap.size, 6, none⟩ = some (.int .i64 f) ∧ w'.cell? ⟨W.heap.size, 7, none⟩ = some (.int .i64 sz) ∧ Keeps W w'), x.w.cell? ⟨B, 1, none⟩ = some (.int .i64 wd) := fun x => x.ok.1
        have G2 : ∀ x : InS (fun w' => w'.cell? ⟨B, 1, none⟩ = some (.int .i64 wd) ∧ w'.cell? ⟨B, 2, none⟩ = some (.int .i64 r1) ∧ w'.cell? ⟨B, 3, none⟩ = some (.int .u64 r2) ∧ w'.cell? ⟨W.heap.size, 5, none⟩ = some (.string cb) ∧ w'.cell? ⟨W.heap.size, 6, none⟩ = some (.int .i64 f) ∧ w'.cell? ⟨W.heap.size, 7, none⟩ = some (.int .i64 sz) ∧ Keeps W w'), x.w.cell? ⟨B, 2, none⟩ = some (.int .i64 r1) := fun x => x.ok.2.1
        have G3 : ∀ x : InS (fun w' => w'.cell? ⟨B, 1, none⟩ = some (.int .i64 wd) ∧ w'.cell? ⟨B, 2, none⟩ = some (.int .i64 r1) ∧ w'.cell? ⟨B, 3, none⟩ = some (.int .u64 r2) ∧ w'.cell? ⟨W.heap.size, 5, none⟩ = some (.string cb) ∧ w'.cell? ⟨W.heap.size, 6, none⟩ = some (.int .i64 f) ∧ w'.cell? ⟨W.heap.size, 7, none⟩ = some (.int .i64 sz) ∧ Keeps W w'), x.w.cell? ⟨B, 3, none⟩ = some (.int .u64 r2) := fun x => x.ok.2.2.1
        have G5 : ∀ x : InS (fun w' => w'.cell? ⟨B, 1, none⟩ = some (.int .i64 wd) ∧ w'.cell? ⟨B, 2, none⟩ = some (.int .i64 r1) ∧ w'.cell? ⟨B, 3, none⟩ = some (.int .u64 r2) ∧ w'.cell? ⟨W.heap.size, 5, none⟩ = some (.string cb) ∧ w'.cell? ⟨W.heap.size, 6, none⟩ = some (.int .i64 f) ∧ w'.cell? ⟨W.heap.size, 7, none⟩ = some (.int .i64 sz) ∧ Keeps W w'), x.w.cell? ⟨W.heap.size, 5, none⟩ = some (.string cb) := fun x => x.ok.2.2.2.1
        have G6 : ∀ x : InS (fun w' => w'.cell? ⟨B, 1, none⟩ = some (.int .i64 wd) ∧ w'.cell? ⟨B, 2, none⟩ = some (.int .i64 r1) ∧ w'.cell? ⟨B, 3, none⟩ = some (.int .u64 r2) ∧ w'.cell? ⟨W.heap.size, 5, none⟩ = some (.string cb) ∧ w'.cell? ⟨W.heap.size, 6, none⟩ = some (.int .i64 f) ∧ w'.cell? ⟨W.heap.size, 7, none⟩ = some (.int .i64 sz) ∧ Keeps W w'), x.w.cell? ⟨W.heap.size, 6, none⟩ = some (.int .i64 f) := fun x => x.ok.2.2.2.2.1
        have G7 : ∀ x : InS (fun w' => w'.cell? ⟨B, 1, none⟩ = some (.int .i64 wd) ∧ w'.cell? ⟨B, 2, none⟩ = some (.int .i64 r1) ∧ w'.cell? ⟨B, 3, none⟩ = some (.int .u64 r2) ∧ w'.cell? ⟨W.heap.size, 5, none⟩ = some (.string cb) ∧ w'.cell? ⟨W.heap.size, 6, none⟩ = some (.int .i64 f) ∧ w'.cell? ⟨W.heap.size, 7, none⟩ = some (.int .i64 sz) ∧ Keeps W w'), x.w.cell? ⟨W.heap.size, 7, none⟩ = some (.int .i64 sz) := fun x => x.ok.2.2.2.2.2.1
        have GO : Hid (∀ x : InS (fun w' => w'.cell? ⟨B, 1, none⟩ = some (.int .i64 wd) ∧ w'.cell? ⟨B, 2, none⟩ = some (.int .i64 r1) ∧ w'.cell? ⟨B, 3, none⟩ = some (.int .u64 r2) ∧ w'.cell? ⟨W.heap.size, 5, none⟩ = some (.string cb) ∧ w'.cell? ⟨W.heap.size, 6, none⟩ = some (.int .i64 f) ∧ w'.cell? ⟨W.heap.size, 7, none⟩ = some (.int .i64 sz) ∧ Keeps W w'), (fun w' => w'.cell? ⟨B, 1, none⟩ = some (.int .i64 wd) ∧ w'.cell? ⟨B, 2, none⟩ = some (.int .i64 r1) ∧ w'.cell? ⟨B, 3, none⟩ = some (.int .u64 r2) ∧ w'.cell? ⟨W.heap.size, 5, none⟩ = some (.string cb) ∧ w'.cell? ⟨W.heap.size, 6, none⟩ = some (.int .i64 f) ∧ w'.cell? ⟨W.heap.size, 7, none⟩ = some (.int .i64 sz) ∧ Keeps W w') x.w) := Lib.hid (fun x => x.ok)
        refine wp_region_class (fun w' => w'.cell? ⟨B, 1, none⟩ = some (.int .i64 wd) ∧ w'.cell? ⟨B, 2, none⟩ = some (.int .i64 r1) ∧ w'.cell? ⟨B, 3, none⟩ = some (.int .u64 r2) ∧ w'.cell? ⟨W.heap.size, 5, none⟩ = some (.string cb) ∧ w'.cell? ⟨W.heap.size, 6, none⟩ = some (.int .i64 f) ∧ w'.cell? ⟨W.heap.size, 7, none⟩ = some (.int .i64 sz) ∧ Keeps W w') (by kernel_rfl) (by kernel_rfl) (fit_drew S5.out) ?_
        repeat (go_big_quiet_step (first
          | (go_at_call 21; exact class_call (fun _ p k => fit_keep k p) (RO.out _))
          | (go_at_call 50; exact class_same (AS.out _ (GO.out _)))))
        refine wpQuiet_nil ?_
        rintro w5 ⟨⟨w6, h6⟩, rfl⟩
        clear G1 G2 G3 G5 G6 G7 S5
        obtain ⟨h1, h2, h3, h5, g6, g7, K6⟩ := h6
        go_wp2_with fail
        go_ret
        exact ⟨ret_nat HV.out.symm, K6⟩
    · have HV := Lib.hid (HF1.out ha)
      have ta : decide (fr < ad) = false := decide_eq_false ha
      clear HF HF0 HF1 e0
      generalize r / 18446744073709551616 = r1 at *
      generalize r % 18446744073709551616 = r2 at *
      generalize wd / 18446744073709551616 = q1 at *
      generalize wd % 18446744073709551616 = q2 at *
      rcases hr with hr | ⟨rfl, hr⟩
      · have t1 : (r1 == q1) = false := beqF hr
        go_enter Tryd.func36, Tryd.ntmps36
        have K0 := KA.out (.cells #[.int .i64 x1, .int .i64 x2, .int .i64 x3, .int .i64 x4, .int .i64 x5, .string cb, .int .i64 f, .int .i64 sz, .int .i64 lk] 35)
        have b2 := HB2.out _ K0
        have b3 := HB3.out _ K0
        go_wp2_with fail
        refine (WR.out _).mono ?_
        rintro e w1 ⟨rfl, k1⟩
        have K1 := K0.trans k1
        have bx := HX.out #[.int .i64 x1, .int .i64 x2, .int .i64 x3, .int .i64 x4, .int .i64 x5, .string cb, .int .i64 f, .int .i64 sz, .int .i64 lk] w1 k1
        have S5 := Lib.hid (fit_pack (HB1.out w1 K1) (HB2.out w1 K1) (HB3.out w1 K1) (bx.cell 5 (v := .string cb) rfl) (bx.cell 6 (v := .int .i64 f) rfl) (bx.cell 7 (v := .int .i64 sz) rfl) K1)
        clear bx b2 b3 k1 K1 K0
        have AS := Lib.hid (fun W' (h : W'.cell? ⟨B, 1, none⟩ = some (.int .i64 wd) ∧ W'.cell? ⟨B, 2, none⟩ = some (.int .i64 r1) ∧ W'.cell? ⟨B, 3, none⟩ = some (.int .u64 r2) ∧ W'.cell? ⟨W.heap.size, 5, none⟩ = some (.string cb) ∧ W'.cell? ⟨W.heap.size, 6, none⟩ = some (.int .i64 f) ∧ W'.cell? ⟨W.heap.size, 7, none⟩ = some (.int .i64 sz) ∧ Keeps W W') => AD.out W' h.2.2.2.2.2.2)
        have CS := Lib.hid (fun W' (h : W'.cell? ⟨B, 1, none⟩ = some (.int .i64 wd) ∧ W'.cell? ⟨B, 2, none⟩ = some (.int .i64 r1) ∧ W'.cell? ⟨B, 3, none⟩ = some (.int .u64 r2) ∧ W'.cell? ⟨W.heap.size, 5, none⟩ = some (.string cb) ∧ W'.cell? ⟨W.heap.size, 6, none⟩ = some (.int .i64 f) ∧ W'.cell? ⟨W.heap.size, 7, none⟩ = some (.int .i64 sz) ∧ Keeps W W') => CT.out W' h.2.2.2.2.2.2)
        go_wp2_with fail
        have NE : Nonempty (InS (fun w' => w'.cell? ⟨B, 1, none⟩ = some (.int .i64 wd) ∧ w'.cell? ⟨B, 2, none⟩ = some (.int .i64 r1) ∧ w'.cell? ⟨B, 3, none⟩ = some (.int .u64 r2) ∧ w'.cell? ⟨W.heap.size, 5, none⟩ = some (.string cb) ∧ w'.cell? ⟨W.heap.size, 6, none⟩ = some (.int .i64 f) ∧ w'.cell? ⟨W.heap.size, 7, none⟩ = some (.int .i64 sz) ∧ Keeps W w')) := ⟨⟨_, fit_drew S5.out⟩⟩
        have G1 : ∀ x : InS (fun w' => w'.cell? ⟨B, 1, none⟩ = some (.int .i64 wd) ∧ w'.cell? ⟨B, 2, none⟩ = some (.int .i64 r1) ∧ w'.cell? ⟨B, 3, none⟩ = some (.int .u64 r2) ∧ w'.cell? ⟨W.heap.size, 5, none⟩ = some (.string cb) ∧ w'.cell? ⟨W.heap.size, 6, none⟩ = some (.int .i64 f) ∧ w'.cell? ⟨W.heap.size, 7, none⟩ = some (.int .i64 sz) ∧ Keeps W w'), x.w.cell? ⟨B, 1, none⟩ = some (.int .i64 wd) := fun x => x.ok.1
        have G2 : ∀ x : InS (fun w' => w'.cell? ⟨B, 1, none⟩ = some (.int .i64 wd) ∧ w'.cell? ⟨B, 2, none⟩ = some (.int .i64 r1) ∧ w'.cell? ⟨B, 3, none⟩ = some (.int .u64 r2) ∧ w'.cell? ⟨W.heap.size, 5, none⟩ = some (.string cb) ∧ w'.cell? ⟨W.heap.size, 6, none⟩ = some (.int .i64 f) ∧ w'.cell? ⟨W.heap.size, 7, none⟩ = some (.int .i64 sz) ∧ Keeps W w'), x.w.cell? ⟨B, 2, none⟩ = some (.int .i64 r1) := fun x => x.ok.2.1
        have G3 : ∀ x : InS (fun w' => w'.cell? ⟨B, 1, none⟩ = some (.int .i64 wd) ∧ w'.cell? ⟨B, 2, none⟩ = some (.int .i64 r1) ∧ w'.cell? ⟨B, 3, none⟩ = some (.int .u64 r2) ∧ w'.cell? ⟨W.heap.size, 5, none⟩ = some (.string cb) ∧ w'.cell? ⟨W.heap.size, 6, none⟩ = some (.int .i64 f) ∧ w'.cell? ⟨W.heap.size, 7, none⟩ = some (.int .i64 sz) ∧ Keeps W w'), x.w.cell? ⟨B, 3, none⟩ = some (.int .u64 r2) := fun x => x.ok.2.2.1
        have G5 : ∀ x : InS (fun w' => w'.cell? ⟨B, 1, none⟩ = some (.int .i64 wd) ∧ w'.cell? ⟨B, 2, none⟩ = some (.int .i64 r1) ∧ w'.cell? ⟨B, 3, none⟩ = some (.int .u64 r2) ∧ w'.cell? ⟨W.heap.size, 5, none⟩ = some (.string cb) ∧ w'.cell? ⟨W.heap.size, 6, none⟩ = some (.int .i64 f) ∧ w'.cell? ⟨W.heap.size, 7, none⟩ = some (.int .i64 sz) ∧ Keeps W w'), x.w.cell? ⟨W.heap.size, 5, none⟩ = some (.string cb) := fun x => x.ok.2.2.2.1
        have G6 : ∀ x : InS (fun w' => w'.cell? ⟨B, 1, none⟩ = some (.int .i64 wd) ∧ w'.cell? ⟨B, 2, none⟩ = some (.int .i64 r1) ∧ w'.cell? ⟨B, 3, none⟩ = some (.int .u64 r2) ∧ w'.cell? ⟨W.heap.size, 5, none⟩ = some (.string cb) ∧ w'.cell? ⟨W.heap.size, 6, none⟩ = some (.int .i64 f) ∧ w'.cell? ⟨W.heap.size, 7, none⟩ = some (.int .i64 sz) ∧ Keeps W w'), x.w.cell? ⟨W.heap.size, 6, none⟩ = some (.int .i64 f) := fun x => x.ok.2.2.2.2.1
        have G7 : ∀ x : InS (fun w' => w'.cell? ⟨B, 1, none⟩ = some (.int .i64 wd) ∧ w'.cell? ⟨B, 2, none⟩ = some (.int .i64 r1) ∧ w'.cell? ⟨B, 3, none⟩ = some (.int .u64 r2) ∧ w'.cell? ⟨W.heap.size, 5, none⟩ = some (.string cb) ∧ w'.cell? ⟨W.heap.size, 6, none⟩ = some (.int .i64 f) ∧ w'.cell? ⟨W.heap.size, 7, none⟩ = some (.int .i64 sz) ∧ Keeps W w'), x.w.cell? ⟨W.heap.size, 7, none⟩ = some (.int .i64 sz) := fun x => x.ok.2.2.2.2.2.1
        have GO : Hid (∀ x : InS (fun w' => w'.cell? ⟨B, 1, none⟩ = some (.int .i64 wd) ∧ w'.cell? ⟨B, 2, none⟩ = some (.int .i64 r1) ∧ w'.cell? ⟨B, 3, none⟩ = some (.int .u64 r2) ∧ w'.cell? ⟨W.heap.size, 5, none⟩ = some (.string cb) ∧ w'.cell? ⟨W.heap.size, 6, none⟩ = some (.int .i64 f) ∧ w'.cell? ⟨W.heap.size, 7, none⟩ = some (.int .i64 sz) ∧ Keeps W w'), (fun w' => w'.cell? ⟨B, 1, none⟩ = some (.int .i64 wd) ∧ w'.cell? ⟨B, 2, none⟩ = some (.int .i64 r1) ∧ w'.cell? ⟨B, 3, none⟩ = some (.int .u64 r2) ∧ w'.cell? ⟨W.heap.size, 5, none⟩ = some (.string cb) ∧ w'.cell? ⟨W.heap.size, 6, none⟩ = some (.int .i64 f) ∧ w'.cell? ⟨W.heap.size, 7, none⟩ = some (.int .i64 sz) ∧ Keeps W w') x.w) := Lib.hid (fun x => x.ok)
        refine wp_region_class (fun w' => w'.cell? ⟨B, 1, none⟩ = some (.int .i64 wd) ∧ w'.cell? ⟨B, 2, none⟩ = some (.int .i64 r1) ∧ w'.cell? ⟨B, 3, none⟩ = some (.int .u64 r2) ∧ w'.cell? ⟨W.heap.size, 5, none⟩ = some (.string cb) ∧ w'.cell? ⟨W.heap.size, 6, none⟩ = some (.int .i64 f) ∧ w'.cell? ⟨W.heap.size, 7, none⟩ = some (.int .i64 sz) ∧ Keeps W w') (by kernel_rfl) (by kernel_rfl) (fit_drew S5.out) ?_
        repeat (go_big_quiet_step (first
          | (go_at_call 21; exact class_call (fun _ p k => fit_keep k p) (RO.out _))
          | (go_at_call 50; exact class_same (AS.out _ (GO.out _)))))
        refine wpQuiet_nil ?_
        rintro w5 ⟨⟨w6, h6⟩, rfl⟩
        clear G1 G2 G3 G5 G6 G7 S5
        obtain ⟨h1, h2, h3, h5, g6, g7, K6⟩ := h6
        go_wp2_with fail
        refine (CS.out _ ⟨h1, h2, h3, h5, g6, g7, K6⟩).mono ?_
        rintro e w4 ⟨rfl, rfl⟩
        go_wp2_with fail
        go_ret
        exact ⟨ret_nat HV.out.symm, K6⟩
      · have t1 : (r2 == q2) = false := beqF hr
        go_enter Tryd.func36, Tryd.ntmps36
        have K0 := KA.out (.cells #[.int .i64 x1, .int .i64 x2, .int .i64 x3, .int .i64 x4, .int .i64 x5, .string cb, .int .i64 f, .int .i64 sz, .int .i64 lk] 35)
        have b2 := HB2.out _ K0
        have b3 := HB3.out _ K0
        go_wp2_with fail
        refine (WR.out _).mono ?_
        rintro e w1 ⟨rfl, k1⟩
        have K1 := K0.trans k1
        have bx := HX.out #[.int .i64 x1, .int .i64 x2, .int .i64 x3, .int .i64 x4, .int .i64 x5, .string cb, .int .i64 f, .int .i64 sz, .int .i64 lk] w1 k1
        have S5 := Lib.hid (fit_pack (HB1.out w1 K1) (HB2.out w1 K1) (HB3.out w1 K1) (bx.cell 5 (v := .string cb) rfl) (bx.cell 6 (v := .int .i64 f) rfl) (bx.cell 7 (v := .int .i64 sz) rfl) K1)
        clear bx b2 b3 k1 K1 K0
        have AS := Lib.hid (fun W' (h : W'.cell? ⟨B, 1, none⟩ = some (.int .i64 wd) ∧ W'.cell? ⟨B, 2, none⟩ = some (.int .i64 r1) ∧ W'.cell? ⟨B, 3, none⟩ = some (.int .u64 r2) ∧ W'.cell? ⟨W.heap.size, 5, none⟩ = some (.string cb) ∧ W'.cell? ⟨W.heap.size, 6, none⟩ = some (.int .i64 f) ∧ W'.cell? ⟨W.heap.size, 7, none⟩ = some (.int .i64 sz) ∧ Keeps W W') => AD.out W' h.2.2.2.2.2.2)
        have CS := Lib.hid (fun W' (h : W'.cell? ⟨B, 1, none⟩ = some (.int .i64 wd) ∧ W'.cell? ⟨B, 2, none⟩ = some (.int .i64 r1) ∧ W'.cell? ⟨B, 3, none⟩ = some (.int .u64 r2) ∧ W'.cell? ⟨W.heap.size, 5, none⟩ = some (.string cb) ∧ W'.cell? ⟨W.heap.size, 6, none⟩ = some (.int .i64 f) ∧ W'.cell? ⟨W.heap.size, 7, none⟩ = some (.int .i64 sz) ∧ Keeps W W') => CT.out W' h.2.2.2.2.2.2)
        go_wp2_with fail
        have NE : Nonempty (InS (fun w' => w'.cell? ⟨B, 1, none⟩ = some (.int .i64 wd) ∧ w'.cell? ⟨B, 2, none⟩ = some (.int .i64 r1) ∧ w'.cell? ⟨B, 3, none⟩ = some (.int .u64 r2) ∧ w'.cell? ⟨W.heap.size, 5, none⟩ = some (.string cb) ∧ w'.cell? ⟨W.heap.size, 6, none⟩ = some (.int .i64 f) ∧ w'.cell? ⟨W.heap.size, 7, none⟩ = some (.int .i64 sz) ∧ Keeps W w')) := ⟨⟨_, fit_drew S5.out⟩⟩
        have G1 : ∀ x : InS (fun w' => w'.cell? ⟨B, 1, none⟩ = some (.int .i64 wd) ∧ w'.cell? ⟨B, 2, none⟩ = some (.int .i64 r1) ∧ w'.cell? ⟨B, 3, none⟩ = some (.int .u64 r2) ∧ w'.cell? ⟨W.heap.size, 5, none⟩ = some (.string cb) ∧ w'.cell? ⟨W.heap.size, 6, none⟩ = some (.int .i64 f) ∧ w'.cell? ⟨W.heap.size, 7, none⟩ = some (.int .i64 sz) ∧ Keeps W w'), x.w.cell? ⟨B, 1, none⟩ = some (.int .i64 wd) := fun x => x.ok.1
        have G2 : ∀ x : InS (fun w' => w'.cell? ⟨B, 1, none⟩ = some (.int .i64 wd) ∧ w'.cell? ⟨B, 2, none⟩ = some (.int .i64 r1) ∧ w'.cell? ⟨B, 3, none⟩ = some (.int .u64 r2) ∧ w'.cell? ⟨W.heap.size, 5, none⟩ = some (.string cb) ∧ w'.cell? ⟨W.heap.size, 6, none⟩ = some (.int .i64 f) ∧ w'.cell? ⟨W.heap.size, 7, none⟩ = some (.int .i64 sz) ∧ Keeps W w'), x.w.cell? ⟨B, 2, none⟩ = some (.int .i64 r1) := fun x => x.ok.2.1
        have G3 : ∀ x : InS (fun w' => w'.cell? ⟨B, 1, none⟩ = some (.int .i64 wd) ∧ w'.cell? ⟨B, 2, none⟩ = some (.int .i64 r1) ∧ w'.cell? ⟨B, 3, none⟩ = some (.int .u64 r2) ∧ w'.cell? ⟨W.heap.size, 5, none⟩ = some (.string cb) ∧ w'.cell? ⟨W.heap.size, 6, none⟩ = some (.int .i64 f) ∧ w'.cell? ⟨W.heap.size, 7, none⟩ = some (.int .i64 sz) ∧ Keeps W w'), x.w.cell? ⟨B, 3, none⟩ = some (.int .u64 r2) := fun x => x.ok.2.2.1
        have G5 : ∀ x : InS (fun w' => w'.cell? ⟨B, 1, none⟩ = some (.int .i64 wd) ∧ w'.cell? ⟨B, 2, none⟩ = some (.int .i64 r1) ∧ w'.cell? ⟨B, 3, none⟩ = some (.int .u64 r2) ∧ w'.cell? ⟨W.heap.size, 5, none⟩ = some (.string cb) ∧ w'.cell? ⟨W.heap.size, 6, none⟩ = some (.int .i64 f) ∧ w'.cell? ⟨W.heap.size, 7, none⟩ = some (.int .i64 sz) ∧ Keeps W w'), x.w.cell? ⟨W.heap.size, 5, none⟩ = some (.string cb) := fun x => x.ok.2.2.2.1
        have G6 : ∀ x : InS (fun w' => w'.cell? ⟨B, 1, none⟩ = some (.int .i64 wd) ∧ w'.cell? ⟨B, 2, none⟩ = some (.int .i64 r1) ∧ w'.cell? ⟨B, 3, none⟩ = some (.int .u64 r2) ∧ w'.cell? ⟨W.heap.size, 5, none⟩ = some (.string cb) ∧ w'.cell? ⟨W.heap.size, 6, none⟩ = some (.int .i64 f) ∧ w'.cell? ⟨W.heap.size, 7, none⟩ = some (.int .i64 sz) ∧ Keeps W w'), x.w.cell? ⟨W.heap.size, 6, none⟩ = some (.int .i64 f) := fun x => x.ok.2.2.2.2.1
        have G7 : ∀ x : InS (fun w' => w'.cell? ⟨B, 1, none⟩ = some (.int .i64 wd) ∧ w'.cell? ⟨B, 2, none⟩ = some (.int .i64 r1) ∧ w'.cell? ⟨B, 3, none⟩ = some (.int .u64 r2) ∧ w'.cell? ⟨W.heap.size, 5, none⟩ = some (.string cb) ∧ w'.cell? ⟨W.heap.size, 6, none⟩ = some (.int .i64 f) ∧ w'.cell? ⟨W.heap.size, 7, none⟩ = some (.int .i64 sz) ∧ Keeps W w'), x.w.cell? ⟨W.heap.size, 7, none⟩ = some (.int .i64 sz) := fun x => x.ok.2.2.2.2.2.1
        have GO : Hid (∀ x : InS (fun w' => w'.cell? ⟨B, 1, none⟩ = some (.int .i64 wd) ∧ w'.cell? ⟨B, 2, none⟩ = some (.int .i64 r1) ∧ w'.cell? ⟨B, 3, none⟩ = some (.int .u64 r2) ∧ w'.cell? ⟨W.heap.size, 5, none⟩ = some (.string cb) ∧ w'.cell? ⟨W.heap.size, 6, none⟩ = some (.int .i64 f) ∧ w'.cell? ⟨W.heap.size, 7, none⟩ = some (.int .i64 sz) ∧ Keeps W w'), (fun w' => w'.cell? ⟨B, 1, none⟩ = some (.int .i64 wd) ∧ w'.cell? ⟨B, 2, none⟩ = some (.int .i64 r1) ∧ w'.cell? ⟨B, 3, none⟩ = some (.int .u64 r2) ∧ w'.cell? ⟨W.heap.size, 5, none⟩ = some (.string cb) ∧ w'.cell? ⟨W.heap.size, 6, none⟩ = some (.int .i64 f) ∧ w'.cell? ⟨W.heap.size, 7, none⟩ = some (.int .i64 sz) ∧ Keeps W w') x.w) := Lib.hid (fun x => x.ok)
        refine wp_region_class (fun w' => w'.cell? ⟨B, 1, none⟩ = some (.int .i64 wd) ∧ w'.cell? ⟨B, 2, none⟩ = some (.int .i64 r1) ∧ w'.cell? ⟨B, 3, none⟩ = some (.int .u64 r2) ∧ w'.cell? ⟨W.heap.size, 5, none⟩ = some (.string cb) ∧ w'.cell? ⟨W.heap.size, 6, none⟩ = some (.int .i64 f) ∧ w'.cell? ⟨W.heap.size, 7, none⟩ = some (.int .i64 sz) ∧ Keeps W w') (by kernel_rfl) (by kernel_rfl) (fit_drew S5.out) ?_
        repeat (go_big_quiet_step (first
          | (go_at_call 21; exact class_call (fun _ p k => fit_keep k p) (RO.out _))
          | (go_at_call 50; exact class_same (AS.out _ (GO.out _)))))
        refine wpQuiet_nil ?_
        rintro w5 ⟨⟨w6, h6⟩, rfl⟩
        clear G1 G2 G3 G5 G6 G7 S5
        obtain ⟨h1, h2, h3, h5, g6, g7, K6⟩ := h6
        go_wp2_with fail
        refine (CS.out _ ⟨h1, h2, h3, h5, g6, g7, K6⟩).mono ?_
        rintro e w4 ⟨rfl, rfl⟩
        go_wp2_with fail
        go_ret
        exact ⟨ret_nat HV.out.symm, K6⟩
end
end Go.Proofs.YthmfkjgcbcjbaaaDoor

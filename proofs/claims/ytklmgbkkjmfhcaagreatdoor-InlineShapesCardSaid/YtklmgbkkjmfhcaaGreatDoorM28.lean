/-
  Texts of the proof, one behind the other: Ine, Inr.
-/
import Derived.Test.YtklmgbkkjmfhcaaGreatDoorM26
import Derived.Test.YtklmgbkkjmfhcaaGreatDoorM9
import Derived.Test.YtklmgbkkjmfhcaaGreatDoorM11
import Derived.Deep.RegionHeld3
import Derived.Laws.CopyRow
/-
  Contracts of inline's classOf, matches, opener.
-/
namespace Go.Proofs.YtklmgbkkjmfhcaaGreatDoor
open Go.RowKit Go.Lib

def pcA (x : Pc) (v : Value) : Array Value := #[.int .i64 x.kind, .string ⟨x.text.toArray⟩, .string ⟨x.dest.toArray⟩, .string ⟨x.title.toArray⟩, v, .int .i64 x.first, .bool x.opens, .bool x.closes, .bool x.single]
theorem head_of {l : List UInt8} {s : ByteArray} (h : (⟨l.toArray⟩ : ByteArray) = s) (hl : l ≠ []) : ∃ h0 : 0 < s.size, s[0] = l.headD 0 := by
  subst h
  cases l with
  | nil => exact absurd rfl hl
  | cons a t => exact ⟨by show 0 < (a :: t).toArray.size; simp, rfl⟩
set_option maxRecDepth 100000 in
set_option maxHeartbeats 2000000 in
theorem classOf_any (x : Pc) (v : Value) (w : World) (ht : x.text ≠ []) (hf : x.first ≤ 1000000) :
    Calls Tryz.prog 21 #[.agg (pcA x v)] w fun e w' => e = .returned (.int .i64 (clsM x : Nat)) ∧ Keeps w w' := by
  obtain ⟨s, hs⟩ : ∃ s : ByteArray, (⟨x.text.toArray⟩ : ByteArray) = s := ⟨_, rfl⟩
  obtain ⟨h0, hh⟩ := head_of hs ht
  unfold pcA clsM
  rw [← hh]
  obtain ⟨b, hb⟩ : ∃ b, s[0] = b := ⟨_, rfl⟩
  rw [hs]
  have HK := Lib.hid ((Keeps.refl w).alloc (.cells (#[.int .i64 x.kind, .string s, .string ⟨x.dest.toArray⟩, .string ⟨x.title.toArray⟩, v, .int .i64 x.first, .bool x.opens, .bool x.closes, .bool x.single]) 42))
  clear hs ht hh
  generalize x.first = f at *
  generalize x.opens = o at *
  have hm : f % 3 < 3 := Nat.mod_lt _ (by decide)
  have H3 : ((f % 3 : Nat) : Int) = (f : Int) % 3 := by omega
  have H3' := Lib.hid H3
  clear H3
  by_cases hc : b = 95
  · have t1 : (((s[0]).toNat : Int) == 95) = true := by rw [hb, hc]; rfl
    rw [hb, if_pos hc]
    clear hb hc
    cases o
    all_goals
      go_enter Tryz.func21, Tryz.ntmps21
      go_wp2_with fail
      go_ret
      exact ⟨ret_int (by have := H3'.out; simp <;> omega), HK.out⟩
  · have t1 : (((s[0]).toNat : Int) == 95) = false := by
      rw [hb]
      have : b.toNat ≠ 95 := fun e => hc (UInt8.toNat_inj.1 (by rw [e]; rfl))
      simp; omega
    rw [hb, if_neg hc]
    clear hb hc
    cases o
    all_goals
      go_enter Tryz.func21, Tryz.ntmps21
      go_wp2_with fail
      go_ret
      exact ⟨ret_int (by have := H3'.out; simp <;> omega), HK.out⟩
theorem mtc_opens {x y : Pc} (h : x.opens = false) : mtcB x y = false := by unfold mtcB; rw [h]; rfl
theorem mtc_text {x y : Pc} (h : x.text = []) : mtcB x y = false := by unfold mtcB; rw [h]; simp
theorem mtc_head {x y : Pc} (h : ¬ x.text.headD 0 = y.text.headD 0) : mtcB x y = false := by unfold mtcB; rw [decide_eq_false h]; simp
theorem mtc_fits {x y : Pc} (h1 : x.opens = true) (h2 : x.text ≠ []) (h3 : x.text.headD 0 = y.text.headD 0) : mtcB x y = fitsB (x.first % 3 : Nat) (y.first % 3 : Nat) x.closes y.opens := by
  unfold mtcB
  rw [h1, decide_eq_true h3]
  cases e : x.text with
  | nil => exact absurd e h2
  | cons a t => rfl
theorem tmod_three (n : Nat) : ((n : Nat) : Int).tmod 3 = ((n % 3 : Nat) : Int) := by rw [Int.ofNat_tmod]; rfl
theorem fits_nat (m n : Nat) (a b : Bool) (w : World) : Calls Tryz.prog 75 #[.int .i64 m, .int .i64 n, .bool a, .bool b] w fun e w' => e = .returned (.bool (fitsB (m % 3 : Nat) (n % 3 : Nat) a b)) ∧ w = w' :=
  fits_any _ _ _ _ a b (tmod_three m) (tmod_three n) (by omega) (by omega) w
set_option maxRecDepth 100000 in
set_option maxHeartbeats 4000000 in
theorem matches_any (x y : Pc) (u v : Value) (w : World) (hy : y.text ≠ []) :
    Calls Tryz.prog 44 #[.agg (pcA x u), .agg (pcA y v)] w fun e w' => e = .returned (.bool (mtcB x y)) ∧ Keeps w w' := by
  obtain ⟨t, ht⟩ : ∃ t : ByteArray, (⟨y.text.toArray⟩ : ByteArray) = t := ⟨_, rfl⟩
  obtain ⟨h0, hh⟩ := head_of ht hy
  unfold pcA
  cases h1 : x.opens with
  | false =>
    rw [mtc_opens h1, ht]
    clear ht hh hy h1
    go_enter Tryz.func44, Tryz.ntmps44
    go_wp2_with fail
    go_quiet (fail)
    go_wp2_with fail
    go_ret
    exact ⟨rfl, (((Keeps.refl w).alloc _).alloc _).drewN _⟩
  | true =>
    by_cases h2 : x.text = []
    · rw [mtc_text h2, h2, ht]
      clear ht hh hy h1 h2
      go_enter Tryz.func44, Tryz.ntmps44
      go_wp2_with fail
      go_quiet (fail)
      go_wp2_with fail
      go_ret
      exact ⟨rfl, (((Keeps.refl w).alloc _).alloc _).drewN _⟩
    · obtain ⟨s, hs⟩ : ∃ s : ByteArray, (⟨x.text.toArray⟩ : ByteArray) = s := ⟨_, rfl⟩
      obtain ⟨k0, kh⟩ := head_of hs h2
      have e1 := tl_ne k0
      have e2 := tl_empty k0
      by_cases h3 : x.text.headD 0 = y.text.headD 0
      · have t3 : (((s[0]).toNat : Int) == ((t[0]).toNat : Int)) = true := by rw [kh, hh, h3]; exact beq_self_eq_true _
        have t4 : ((s[0]).toNat == (t[0]).toNat) = true := by rw [kh, hh, h3]; exact beq_self_eq_true _
        have FT := Lib.hid (fun W => fits_nat x.first y.first x.closes y.opens W)
        rw [mtc_fits h1 h2 h3, ht, hs]
        clear ht hh hy h1 h2 h3 hs kh
        go_enter Tryz.func44, Tryz.ntmps44
        go_wp2_with fail
        go_quiet ((go_at_call 75; exact quiet_in (FT.out _) ⟨_, rfl⟩))
        go_wp2_with fail
        go_ret
        exact ⟨rfl, (((Keeps.refl w).alloc _).alloc _).drewN _⟩
      · have hne : ¬ (x.text.headD 0).toNat = (y.text.headD 0).toNat := fun e => h3 (UInt8.toNat_inj.1 e)
        have t3 : (((s[0]).toNat : Int) == ((t[0]).toNat : Int)) = false := by rw [kh, hh]; exact beqF (fun e => hne (by omega))
        have t4 : ((s[0]).toNat == (t[0]).toNat) = false := by rw [kh, hh]; simpa using hne
        rw [mtc_head h3, ht, hs]
        clear ht hh hy h1 h2 h3 hs kh hne
        go_enter Tryz.func44, Tryz.ntmps44
        go_wp2_with fail
        go_quiet (fail)
        go_wp2_with fail
        go_ret
        exact ⟨rfl, (((Keeps.refl w).alloc _).alloc _).drewN _⟩
/-- A piece's cells, one by one. -/
abbrev Nine (w : World) (g o : Nat) (x : Pc) (v : Value) : Prop := w.cell? ⟨g, o, none⟩ = some (.int .i64 x.kind) ∧ w.cell? ⟨g, o + 1, none⟩ = some (.string ⟨x.text.toArray⟩) ∧ w.cell? ⟨g, o + 2, none⟩ = some (.string ⟨x.dest.toArray⟩) ∧ w.cell? ⟨g, o + 3, none⟩ = some (.string ⟨x.title.toArray⟩) ∧ w.cell? ⟨g, o + 4, none⟩ = some v ∧ w.cell? ⟨g, o + 5, none⟩ = some (.int .i64 x.first) ∧ w.cell? ⟨g, o + 6, none⟩ = some (.bool x.opens) ∧ w.cell? ⟨g, o + 7, none⟩ = some (.bool x.closes) ∧ w.cell? ⟨g, o + 8, none⟩ = some (.bool x.single)
abbrev Nine0 (w : World) (g : Nat) (x : Pc) (v : Value) : Prop := w.cell? ⟨g, 0, none⟩ = some (.int .i64 x.kind) ∧ w.cell? ⟨g, 1, none⟩ = some (.string ⟨x.text.toArray⟩) ∧ w.cell? ⟨g, 2, none⟩ = some (.string ⟨x.dest.toArray⟩) ∧ w.cell? ⟨g, 3, none⟩ = some (.string ⟨x.title.toArray⟩) ∧ w.cell? ⟨g, 4, none⟩ = some v ∧ w.cell? ⟨g, 5, none⟩ = some (.int .i64 x.first) ∧ w.cell? ⟨g, 6, none⟩ = some (.bool x.opens) ∧ w.cell? ⟨g, 7, none⟩ = some (.bool x.closes) ∧ w.cell? ⟨g, 8, none⟩ = some (.bool x.single)
theorem nine_of {w : World} {g o : Nat} {x : Pc} {v : Value} (h : w.rangeAt g o (pcC x v)) : Nine w g o x v :=
  ⟨h 0 _ rfl, h 1 _ rfl, h 2 _ rfl, h 3 _ rfl, h 4 _ rfl, h 5 _ rfl, h 6 _ rfl, h 7 _ rfl, h 8 _ rfl⟩
theorem nine_blk {w : World} {g : Nat} {t : TypeId} {x : Pc} {v : Value} (h : Blk w g t (pcA x v)) : Nine0 w g x v :=
  ⟨h.cell 0 rfl, h.cell 1 rfl, h.cell 2 rfl, h.cell 3 rfl, h.cell 4 rfl, h.cell 5 rfl, h.cell 6 rfl, h.cell 7 rfl, h.cell 8 rfl⟩
/-- The last place that opens, as Go tells it. -/
def opnI : Option Nat → Int
  | none => -1
  | some o => (o : Int)
set_option maxRecDepth 100000 in
set_option maxHeartbeats 8000000 in
theorem opener_any (A : Option Addr) (n c fr : Nat) (L : List (Pc × Value)) (x : Pc) (v : Value) (w : World) (hV : Vw w A n L) (hn : n ≤ 1000000) (hfr : fr ≤ 1000000) (hx : x.text ≠ []) :
    Calls Tryz.prog 22 #[.slice A n c, .int .i64 fr, .agg (pcA x v)] w fun e w' => e = .returned (.int .i64 (opnI (opnM (L.map Prod.fst) fr x))) ∧ Keeps w w' := by
  have HV := Lib.hid (fun W (k : Keeps w W) => hV.keep k)
  have HL := Lib.hid hV.1
  have KA := Lib.hid ((Keeps.refl w).alloc (.cells (pcA x v) 42))
  have BA := Lib.hid (Blk.new w 42 (pcA x v))
  have MT := Lib.hid (fun (y : Pc) u W => matches_any y x u v W hx)
  have HO : Hid (opnM (L.map Prod.fst) fr x = opnGo (L.map Prod.fst) fr x n) := Lib.hid (by unfold opnM; rw [List.length_map, hV.1])
  unfold pcA at MT
  unfold pcA
  clear hV hx
  go_enter Tryz.func22, Tryz.ntmps22
  go_wp2_with fail
  go_loopw [7] (fun i wr => ∃ (k : Nat), k ≤ n ∧ i = .int .i64 ((k : Int) - 1) ∧ Hid (Keeps (w.alloc (.cells (pcA x v) 42)) wr) ∧ Hid (opnM (L.map Prod.fst) fr x = opnGo (L.map Prod.fst) fr x k)) (fun i _ => (RowKit.intOf i + 1).toNat)
  case atStart => exact ⟨n, Nat.le_refl _, rfl, Lib.hid (Keeps.refl _), HO⟩
  case round =>
    obtain ⟨k, hk, rfl, HK, HE⟩ := hrel
    cases k with
    | zero =>
      have HR : Hid (opnM (L.map Prod.fst) fr x = none) := Lib.hid HE.out
      have t1 : decide ((fr : Int) ≤ ((0 : Nat) : Int) - 1) = false := by simp; omega
      have t2 : decide ((fr : Int) ≤ -1) = false := by simp; omega
      go_wp2_with fail
      go_ret
      exact ⟨congrArg (fun z => Ending.returned (.int .i64 (opnI z))) HR.out.symm, KA.out.trans HK.out⟩
    | succ j =>
      have hi : ((j + 1 : Nat) : Int) - 1 = (j : Int) := by omega
      rw [hi]
      have hsz := HK.out.size
      by_cases hj : j < fr
      · have t1 : decide ((fr : Int) ≤ (j : Int)) = false := by simp; omega
        have t2 : decide (fr ≤ j) = false := by simp; omega
        have HR : Hid (opnM (L.map Prod.fst) fr x = none) := Lib.hid (by rw [HE.out, opnGo, if_pos hj])
        go_wp2_with fail
        go_ret
        exact ⟨congrArg (fun z => Ending.returned (.int .i64 (opnI z))) HR.out.symm, KA.out.trans HK.out⟩
      · have b0 : (0 : Int) ≤ (j : Int) := by omega
        have b1 : (j : Int) < (n : Int) := by omega
        have t1 : decide ((fr : Int) ≤ (j : Int)) = true := by simp; omega
        have t2 : decide (fr ≤ j) = true := by simp; omega
        have hjl : j < L.length := by rw [HL.out]; omega
        have K1 := Lib.hid (KA.out.trans HK.out)
        obtain ⟨g, o, rfl, hc⟩ := (HV.out _ K1.out).2 (by omega)
        have hc1 := hc j hjl
        have hgd : (L.map Prod.fst).getD j default = L[j].1 := by rw [List.getD_eq_getElem?_getD, List.getElem?_map, List.getElem?_eq_getElem hjl]; rfl
        clear hc
        generalize L[j] = y at *
        obtain ⟨y, u⟩ := y
        dsimp only at hgd hc1
        have M1 := Lib.hid (fun W => MT.out y u W)
        have HB := Lib.hid (BA.out.keep HK.out)
        have NS : ∀ W', Keeps wr W' → Keeps wr W' ∧ Nine W' g (o + j * 9) y u ∧ Nine0 W' w.heap.size x v := fun W' k => ⟨k, nine_of (range_same hc1 (k.block g (range_lt hc1 (by rw [pcC_len]; decide)))), nine_blk (t := 42) (HB.out.keep k)⟩
        unfold pcA at M1
        cases hm : mtcB y x with
        | true =>
          have HR : Hid (opnM (L.map Prod.fst) fr x = some j) := Lib.hid (by rw [HE.out, opnGo, if_neg hj, hgd, if_pos hm])
          rw [hm] at M1
          clear hm hgd
          go_wp2_with fail
          go_region_held3 (fun w' => Keeps wr w' ∧ Nine w' g (o + j * 9) y u ∧ Nine0 w' w.heap.size x v) (first | assumption | exact NS _ (Keeps.refl _) | exact NS _ (Keeps.refl _).drew | exact NS _ (((Keeps.refl _).drew).trans k1))
            (first | (go_at_call 44; refine (M1.out _).mono ?_; rintro e w1 ⟨rfl, k1⟩))
          go_wp2_with fail
          go_ret
          exact ⟨congrArg (fun z => Ending.returned (.int .i64 (opnI z))) HR.out.symm, K1.out.trans ((Keeps.refl _).drew.trans k1)⟩
        | false =>
          have HE2 : Hid (opnM (L.map Prod.fst) fr x = opnGo (L.map Prod.fst) fr x j) := Lib.hid (by rw [HE.out, opnGo, if_neg hj, hgd, if_neg (by rw [hm]; decide)])
          rw [hm] at M1
          clear hm hgd
          go_wp2_with fail
          go_region_held3 (fun w' => Keeps wr w' ∧ Nine w' g (o + j * 9) y u ∧ Nine0 w' w.heap.size x v) (first | assumption | exact NS _ (Keeps.refl _) | exact NS _ (Keeps.refl _).drew | exact NS _ (((Keeps.refl _).drew).trans k1))
            (first | (go_at_call 44; refine (M1.out _).mono ?_; rintro e w1 ⟨rfl, k1⟩))
          have HK2 := Lib.hid (HK.out.trans ((Keeps.refl _).drew.trans k1))
          clear k1
          go_wp2_with fail
          go_roundw
          case rel => exact ⟨j, by omega, rfl, HK2, HE2⟩
          case measure => simp [RowKit.intOf]
end Go.Proofs.YtklmgbkkjmfhcaaGreatDoor

/-
  Contracts of slices.Replace and slices.Insert at pieces, where one piece takes the place of all from a place on.
-/
namespace Go.Proofs.YtklmgbkkjmfhcaaGreatDoor
open Go.RowKit Go.Lib

/-- The head of a row of the call's own. -/
theorem row_head {n₀ z : Nat} {e : TypeId} {w : World} {g n cap k : Nat} {vs : List Value} (h : w.ownsRow n₀ e z (.slice (some ⟨g, 0, none⟩) n cap) n vs) (hk : k ≤ n) : w.ownsRow n₀ e z (.slice (some ⟨g, 0, none⟩) k cap) k (vs.take (k * z)) := by
  rcases h.2 with ⟨e0, _⟩ | ⟨g', cap', cur, e0, hb, hg, hn, hm, hs, ht⟩
  · cases e0
  · cases e0
    have hl := h.1
    have hkz : k * z ≤ n * z := Nat.mul_le_mul_right _ hk
    refine ⟨by rw [List.length_take]; omega, .inr ⟨g, cap, cur, rfl, hb, hg, by omega, hm, hs, ?_⟩⟩
    rw [← ht, List.take_take]
    congr 1
    omega
theorem zero_one (n : Nat) : ∀ v ∈ (Builtin.zeroCells zeroPc n).toList, v.oneCell' = true := by
  intro v hv
  unfold Builtin.zeroCells at hv
  rw [Array.toList_map, List.mem_map] at hv
  obtain ⟨i, _, rfl⟩ := hv
  have h : i % zeroPc.size < 9 := Nat.mod_lt _ (by decide)
  have : ∀ k, k < 9 → (zeroPc[k]!).oneCell' = true := by decide
  exact this _ h
/-- clear of the tail of a row. -/
theorem run_clear_tail {w : World} {g o m c : Nat} {cur : Array Value} (hg : w.heap[g]? = some (.cells cur 42 (0, 0))) (hs : o + m * 9 ≤ cur.size) (ty : TypeId) :
    (Builtin.clear_ #[33] ty #[.slice (some ⟨g, o, none⟩) m c]).run Tryz.prog w = .ok (.tuple #[]) (if m = 0 then w else w.setRow g (cur.toList.take o ++ (Builtin.zeroCells zeroPc m).toList ++ cur.toList.drop (o + (Builtin.zeroCells zeroPc m).toList.length)).toArray) := by
  obtain ⟨i0, hi, hz0, hz1, hz2⟩ := info_parts infoPc
  cases m with
  | zero => simp [Builtin.clear_, run_underlying Tryz.underlying33]
  | succ m =>
    have hl : (Builtin.zeroCells zeroPc (m + 1)).toList.length = (m + 1) * 9 := by rw [Array.length_toList, size_zeroCells]; rfl
    have hst := run_storeCells_at (P := Tryz.prog) g o 42 (Builtin.zeroCells zeroPc (m + 1)).toList 0 cur w hg (by rw [hl]; omega) (zero_one _)
    rw [Nat.add_zero] at hst
    have hzv : (zeroValue 42).run Tryz.prog w = .ok (.agg zeroPc) w := Tryz.zeroValue42 w
    rw [if_neg (by omega)]
    simp only [Builtin.clear_]
    simp [Sem.run_bind, run_underlying Tryz.underlying33, hzv, Value.cells, hst]
theorem wpList_clear {P : Program} {w : World} {ops : Array Oper} {rest : List Oper} {o : Oper} {a : Act} {Q : Exit → Act → World → Prop} (hg : o.guard = none) (x : Operand) (t : TypeId) (ho : o.op = .call { callee := .builtin .clear, args := #[x], argTypes := #[t] })
    (v : Value) (hx : a.eval x = v) (w' : World) (hr : (Builtin.clear_ #[t] o.type #[v]).run P w = .ok (.tuple #[]) w') (h : wpList P ops Q rest (a.put o.dst (.tuple #[])) w') : wpList P ops Q (o :: rest) a w := by
  refine wpList_plain hg fun K hK => ?_
  unfold Oper.wp execOp
  simp only [ho, resolve, invoke, builtin, Sem.run_bind, Sem.run_pure, Result.andThen_ok, List.map_toArray, List.map_cons, List.map_nil, hx, hr]
  exact hK _ _ h
theorem pcR_take (L : List (Pc × Value)) (k : Nat) : pcR (L.take k) = (pcR L).take (k * 9) := by
  by_cases h : k ≤ L.length
  · conv => rhs; rw [← List.take_append_drop k L, pcR_app]
    rw [List.take_left' (by rw [pcR_len, List.length_take]; omega)]
  · rw [List.take_of_length_le (by omega), List.take_of_length_le (by rw [pcR_len]; omega)]
/-- What Replace, and Insert, leave. -/
def RpPost (n₀ g : Nat) (w : World) (L : List (Pc × Value)) (e : Ending) (w' : World) : Prop := ∃ v', e = .returned v' ∧ w'.ownsRow n₀ 42 9 v' L.length (pcR L) ∧ w.grownBy w' (some g) ∧ (v'.ownBlock = some g ∨ v'.ownBlock = some w.heap.size)
set_option maxRecDepth 100000 in
set_option maxHeartbeats 4000000 in
theorem insert_end (n₀ g n cap b : Nat) (L : List (Pc × Value)) (x : Pc) (u : Value) (w : World) (hr : w.ownsRow n₀ 42 9 (.slice (some ⟨g, 0, none⟩) n cap) n (pcR L)) (hn : n ≤ 1000000) (h0 : n₀ ≤ w.heap.size) (hb : w.rangeAt b 0 (pcC x u)) (hu : u.oneCell' = true) :
    Calls Tryz.prog 63 #[.slice (some ⟨g, 0, none⟩) n cap, .int .i64 n, .slice (some ⟨b, 0, none⟩) 1 1] w (RpPost n₀ g w (L ++ [(x, u)])) := by
  obtain ⟨i0, hi, hz0, hz1, hz2⟩ := info_parts infoPc
  obtain ⟨_, _, e0, hnc, hcm⟩ := row_form hr
  cases e0
  have hll : L.length = n := by have := hr.1; rw [pcR_len] at this; omega
  have HLL := Lib.hid hll
  unfold maxLen at hcm
  have hnw : ∀ j z, (pcC x u)[j]? = some z → w.cell? ((⟨b, 0, none⟩ : Addr).add j) = some z := fun j z hz => by
    rw [Addr.add_mid]; exact hb j z hz
  have h1 := pcC_one x hu
  clear hb hll
  go_enter Tryz.func63, Tryz.ntmps63
  go_wp2_with (at_builtin; go_loud (
    refine wpList_append_own_at _ rfl _ _ 33 rfl n₀ 42 i0 (.agg zeroPc) 9 96 Tryz.underlying33 hi hz0 hz1 hz2 rfl (by decide) _ _ _ rfl hr ⟨b, 0, none⟩ 1 1 (pcC x u) rfl rfl hnw h1 (by simp only [maxLen]; omega) (by omega) h0 ?_
    intro v' w2 hown' hgrow _ hat))
  all_goals
    go_ret
    exact ⟨v', rfl, by
      rw [List.length_append, HLL.out, pcR_app]
      have e : pcR [(x, u)] = pcC x u := by unfold pcR; simp
      rw [e]; exact hown', hgrow, hat⟩
theorem row_under {n₀ : Nat} {w : World} {g k cap : Nat} {cur : Array Value} {vs zs : List Value} (h : w.ownsRow n₀ 42 9 (.slice (some ⟨g, 0, none⟩) k cap) k vs) (hg : w.heap[g]? = some (.cells cur 42 (0, 0))) (hz : k * 9 + zs.length ≤ cur.size) :
    (w.setRow g (cur.toList.take (k * 9) ++ zs ++ cur.toList.drop (k * 9 + zs.length)).toArray).ownsRow n₀ 42 9 (.slice (some ⟨g, 0, none⟩) k cap) k vs := by
  rcases h.2 with ⟨e0, _⟩ | ⟨g', cap', cur', e0, hb, hgg, hn, hm, hs, ht⟩
  · cases e0
  · cases e0
    rw [hg] at hgg
    cases hgg
    refine ⟨h.1, .inr ⟨g, cap, _, rfl, hb, setRow_heap w g cur _ _ _ hg, hn, hm, ?_, ?_⟩⟩
    · simp only [List.size_toArray, List.length_append, List.length_take, List.length_drop, Array.length_toList]; omega
    · rw [List.append_assoc, List.take_append_of_le_length (by rw [List.length_take, Array.length_toList]; omega), List.take_take, Nat.min_self, ht]
theorem row_block {n₀ : Nat} {w : World} {g n cap : Nat} {vs : List Value} (h : w.ownsRow n₀ 42 9 (.slice (some ⟨g, 0, none⟩) n cap) n vs) : ∃ cur, w.heap[g]? = some (.cells cur 42 (0, 0)) ∧ cur.size = cap * 9 ∧ n ≤ cap ∧ cap ≤ maxLen := by
  rcases h.2 with ⟨e0, _⟩ | ⟨g', cap', cur', e0, hb, hgg, hn, hm, hs, ht⟩
  · cases e0
  · cases e0; exact ⟨cur', hgg, hs, hn, hm⟩
theorem grown_setRow {w : World} {g : Nat} (cs : Array Value) : w.grownBy (w.setRow g cs) (some g) := ⟨rfl, rfl, rfl, by simp, fun k _ hk => setRow_other w g k _ (fun e => hk (by simp [e]))⟩
set_option maxRecDepth 100000 in
set_option maxHeartbeats 4000000 in
theorem replace_tail (n₀ g n cap b i : Nat) (L : List (Pc × Value)) (x : Pc) (u : Value) (w : World) (hr : w.ownsRow n₀ 42 9 (.slice (some ⟨g, 0, none⟩) n cap) n (pcR L)) (hi : i ≤ n) (hn : n ≤ 1000000) (h0 : n₀ ≤ w.heap.size) (hb : w.rangeAt b 0 (pcC x u)) (hu : u.oneCell' = true) :
    Calls Tryz.prog 36 #[.slice (some ⟨g, 0, none⟩) n cap, .int .i64 i, .int .i64 n, .slice (some ⟨b, 0, none⟩) 1 1] w (RpPost n₀ g w (L.take i ++ [(x, u)])) := by
  have hll : L.length = n := by have := hr.1; rw [pcR_len] at this; omega
  by_cases hin : i = n
  · rw [List.take_of_length_le (by omega)]
    subst hin
    obtain ⟨cur, _, _, hnc, hcm⟩ := row_block hr
    unfold maxLen at hcm
    by_cases hc : cap = i
    · subst hc
      have IE := Lib.hid (insert_end n₀ g cap cap b L x u w hr hn h0 hb hu)
      clear hr hb hll
      go_enter Tryz.func36, Tryz.ntmps36
      go_wp2_with fail
      ((with_reducible refine IE.out.mono ?_))
      intro e w2 HF
      have HF2 := Lib.hid HF
      obtain ⟨v', rfl, _⟩ := HF
      go_wp2_with fail
      go_ret
      exact HF2.out
    · have IE := Lib.hid (insert_end n₀ g i cap b L x u w hr hn h0 hb hu)
      clear hr hb hll
      go_enter Tryz.func36, Tryz.ntmps36
      go_wp2_with fail
      ((with_reducible refine IE.out.mono ?_))
      intro e w2 HF
      have HF2 := Lib.hid HF
      obtain ⟨v', rfl, _⟩ := HF
      go_wp2_with fail
      go_ret
      exact HF2.out
  · obtain ⟨i0, hi0, hz0, hz1, hz2⟩ := info_parts infoPc
    obtain ⟨cur, hcur, hcs, hnc, hcm⟩ := row_block hr
    have hcm2 := hcm
    unfold maxLen at hcm
    have hnw : ∀ j z, (pcC x u)[j]? = some z → w.cell? ((⟨b, 0, none⟩ : Addr).add j) = some z := fun j z hz => by
      rw [Addr.add_mid]; exact hb j z hz
    have h1 := pcC_one x hu
    have hown := row_head hr hi
    rw [← pcR_take] at hown
    have hlt : i < n := by omega
    have t1 : ((i : Int) == (n : Int)) = false := by simp; omega
    have t2 : (i == n) = false := by simp; omega
    have hc0 : ¬ cap = 0 := by omega
    have hci : ¬ cap = i := by omega
    have HLL : Hid ((L.take i).length = i) := Lib.hid (by rw [List.length_take]; omega)
    clear hr hb hll hcur hcs
    have hfin : ∀ w2 w3 : World, w2.ownsRow n₀ 42 9 (.slice (some ⟨g, 0, none⟩) (i + 1) cap) (i + 1) (pcR (L.take i) ++ pcC x u) → w.grownBy w2 (some g) → w2.grownBy w3 (some g) → w3.ownsRow n₀ 42 9 (.slice (some ⟨g, 0, none⟩) (i + 1) cap) (i + 1) (pcR (L.take i) ++ pcC x u) → RpPost n₀ g w (L.take i ++ [(x, u)]) (.returned (.slice (some ⟨g, 0, none⟩) (i + 1) cap)) w3 := fun w2 w3 _ g1 g2 o3 => ⟨_, rfl, by
      rw [List.length_append, HLL.out, pcR_app]
      have e : pcR [(x, u)] = pcC x u := by unfold pcR; simp
      rw [e]; exact o3, g1.trans g2, .inl rfl⟩
    have HFN := Lib.hid hfin
    clear hfin
    by_cases h3 : i + 1 < n
    · have t3 : decide ((i : Int) + 1 < (n : Int)) = true := by simp; omega
      have hci1 : ¬ cap = i + 1 := by omega
      go_enter Tryz.func36, Tryz.ntmps36
      go_wp2_with (at_builtin; go_loud (
        refine wpList_append_fits _ rfl _ _ 33 rfl n₀ 42 i0 9 Tryz.underlying33 hi0 hz1 g i cap _ rfl hown ⟨b, 0, none⟩ 1 1 (pcC x u) rfl rfl hnw h1 (by omega) ?_))
      intro w2 hown' hgrow
      obtain ⟨cur2, hb2, hs2, _, _⟩ := row_block hown'
      have hz : (i + 1) * 9 + (n - (i + 1)) * 9 ≤ cur2.size := by rw [hs2]; omega
      have CL := Lib.hid (fun ty c => run_clear_tail (o := (i + 1) * 9) (m := n - (i + 1)) (c := c) hb2 hz ty)
      have hzl : (Builtin.zeroCells zeroPc (n - (i + 1))).toList.length = (n - (i + 1)) * 9 := by rw [Array.length_toList, size_zeroCells]; rfl
      have HF : Hid (RpPost n₀ g w (L.take i ++ [(x, u)]) (.returned (.slice (some ⟨g, 0, none⟩) (i + 1) cap)) (if n - (i + 1) = 0 then w2 else w2.setRow g (cur2.toList.take ((i + 1) * 9) ++ (Builtin.zeroCells zeroPc (n - (i + 1))).toList ++ cur2.toList.drop ((i + 1) * 9 + (Builtin.zeroCells zeroPc (n - (i + 1))).toList.length)).toArray)) := Lib.hid (by
        rw [if_neg (by omega)]
        exact HFN.out _ _ hown' hgrow (grown_setRow _) (row_under hown' hb2 (by rw [hzl]; exact hz)))
      clear hown' hgrow hb2 hs2 hz hzl
      generalize (if n - (i + 1) = 0 then w2 else w2.setRow g (cur2.toList.take ((i + 1) * 9) ++ (Builtin.zeroCells zeroPc (n - (i + 1))).toList ++ cur2.toList.drop ((i + 1) * 9 + (Builtin.zeroCells zeroPc (n - (i + 1))).toList.length)).toArray) = w3 at *
      go_wp2_with (refine wpList_clear rfl _ 33 rfl _ rfl w3 (CL.out _ _) ?_)
      go_ret
      exact HF.out
    · have t3 : decide ((i : Int) + 1 < (n : Int)) = false := by simp; omega
      go_enter Tryz.func36, Tryz.ntmps36
      go_wp2_with (at_builtin; go_loud (
        refine wpList_append_fits _ rfl _ _ 33 rfl n₀ 42 i0 9 Tryz.underlying33 hi0 hz1 g i cap _ rfl hown ⟨b, 0, none⟩ 1 1 (pcC x u) rfl rfl hnw h1 (by omega) ?_
        intro w2 hown' hgrow))
      go_ret
      exact HFN.out _ _ hown' hgrow (World.grownBy.refl _ _) hown'
end Go.Proofs.YtklmgbkkjmfhcaaGreatDoor


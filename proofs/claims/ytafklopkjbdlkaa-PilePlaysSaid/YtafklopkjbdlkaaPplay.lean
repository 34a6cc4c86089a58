/-
  PilePlays returns true, whatever the steps.
-/
import Derived.Test.YtafklopkjbdlkaaPtri
namespace Go.Proofs.Ytafklopkjbdlkaa
open Go.RowKit Go.Lib

/-- Behind a step: the three piles have the same things. -/
def Same (w : World) (most : Nat) (W : World) : Prop := ∃ xs : List Int, xs.length ≤ most ∧ Tris w w.heap.size (w.heap.size + 1) (w.heap.size + 1 + 1) W xs (xs.map chr) xs

/-- Pop, of each: the same. -/
theorem triPops {w0 W : World} {P S R : Nat} {xs : List Int} (h : Tris w0 P S R W xs (xs.map chr) xs) (hl : xs.length ≤ 1000) : ∃ (y : Int) (bb : Bool) (z : ByteArray) (zs : List Int), (bb = true → z = chr y) ∧ zs.length ≤ xs.length ∧
    (Calls Try.prog 9 #[.pointer (some ⟨P, 0, none⟩)] W fun e w' => e = .returned (.tuple #[.int .i64 y, .bool bb]) ∧ Tris w0 P S R w' zs (xs.map chr) xs) ∧
    (∀ W, Tris w0 P S R W zs (xs.map chr) xs → Calls Try.prog 10 #[.pointer (some ⟨R, 0, none⟩)] W fun e w' => e = .returned (.tuple #[.int .i64 y, .bool bb]) ∧ Tris w0 P S R w' zs (xs.map chr) zs) ∧
    (∀ W, Tris w0 P S R W zs (xs.map chr) zs → Calls Try.prog 11 #[.pointer (some ⟨S, 0, none⟩)] W fun e w' => e = .returned (.tuple #[.string z, .bool bb]) ∧ Tris w0 P S R w' zs (zs.map chr) zs) := by
  refine ⟨atI xs ((xs.length : Int) - 1), is xs.length ((xs.length : Int) - 1), atS (xs.map chr) ((xs.length : Int) - 1), cutI xs ((xs.length : Int) - 1), at_chr _ _, cut_len _ _, triPop h, fun W k => triPopR k hl, fun W k => ?_⟩
  have := triPopS k
  rw [List.length_map, cut_chr] at this
  exact this
/-- At, of each: the same. -/
theorem triAts (w0 : World) (P S R : Nat) (zs : List Int) (i : Int) : ∃ (y : Int) (bb : Bool) (z : ByteArray), 
    (∀ W, Tris w0 P S R W zs (zs.map chr) zs → Calls Try.prog 15 #[.pointer (some ⟨P, 0, none⟩), .int .i64 i] W fun e w' => e = .returned (.tuple #[.int .i64 y, .bool bb]) ∧ W = w') ∧
    (∀ W, Tris w0 P S R W zs (zs.map chr) zs → Calls Try.prog 16 #[.pointer (some ⟨R, 0, none⟩), .int .i64 i] W fun e w' => e = .returned (.tuple #[.int .i64 y, .bool bb]) ∧ W = w') ∧
    (∀ W, Tris w0 P S R W zs (zs.map chr) zs → Calls Try.prog 17 #[.pointer (some ⟨S, 0, none⟩), .int .i64 i] W fun e w' => e = .returned (.tuple #[.string z, .bool bb]) ∧ W = w') := by
  refine ⟨atI zs i, is zs.length i, atS (zs.map chr) i, fun W k => triAt k i, fun W k => triAtR k i, fun W k => ?_⟩
  have := triAtS k i
  rw [List.length_map] at this
  exact this

set_option maxRecDepth 100000 in
set_option maxHeartbeats 4000000 in
theorem plays_any (ao : Option Addr) (n cap : Nat) (w : World) (K N : Nat → Int)
    (hl : ∀ k, k < n → ∃ b off, ao = some ⟨b, off, none⟩ ∧ b < w.heap.size ∧ w.cell? ⟨b, off + k * 2, none⟩ = some (.int .i64 (K k)) ∧ w.cell? ⟨b, off + k * 2 + 1, none⟩ = some (.int .i64 (N k))) :
    Calls Try.prog 3 #[.slice ao n cap] w fun e w' => e = .returned (.bool true) ∧ Below w.heap.size w w' := by
  have AW := Lib.hid (fun W => awake_any W)
  have H0 := Lib.hid (Tris.start w)
  have HL := Lib.hid hl
  clear hl
  go_enter Try.func3, Try.ntmps3
  go_wp2_with fail
  go_loopw [6] (fun i wr => ∃ k : Nat, k ≤ 200 ∧ i = .int .i64 (k : Int) ∧ Same w k wr) (fun i _ => 200 - (RowKit.intOf i).toNat)
  case atStart => exact ⟨0, by omega, rfl, [], by simp, H0.out⟩
  case round =>
    obtain ⟨k, hk, rfl, xs, hx, ht⟩ := hrel
    have HT := Lib.hid ht
    have HX := Lib.hid hx
    have leave : ∀ w' : World, Below wr.heap.size wr w' → Below w.heap.size w w' := fun w' hb => HT.out.bel.trans (hb.mono HT.out.bel.size)
    have LV := Lib.hid leave
    clear ht leave hx
    by_cases c1 : k < n
    · by_cases c2 : k < 200
      · obtain ⟨b, off, rfl, hb, hc0, hc1⟩ := HL.out k c1
        have ce : ∀ X, Below w.heap.size w X → X.cell? ⟨b, off + k * 2, none⟩ = some (.int .i64 (K k)) ∧ X.cell? ⟨b, off + k * 2 + 1, none⟩ = some (.int .i64 (N k)) := fun X hX => ⟨(hX.cell (p := ⟨b, off + k * 2, none⟩) hb).trans hc0, (hX.cell (p := ⟨b, off + k * 2 + 1, none⟩) hb).trans hc1⟩
        have CE := Lib.hid ce
        clear hc0 hc1 ce
        obtain ⟨d0, d1⟩ := CE.out wr HT.out.bel
        generalize K k = kk at *
        generalize N k = x at *
        go_upto_block 2 with fail
        go_cut [6] (fun s6 wx => s6 = .int .i64 (k : Int) ∧ ∃ zs : List Int, zs.length ≤ k + 1 ∧ Tris w w.heap.size (w.heap.size + 1) (w.heap.size + 1 + 1) wx zs (zs.map chr) zs)
        case first =>
          by_cases k0 : kk = 0
          · subst k0
            have PU := Lib.hid (triPush HT.out (by have := HX.out; omega) x)
            go_wp2_with fail
            refine PU.out.mono ?_
            rintro e w1 ⟨rfl, h1⟩
            have H1 := Lib.hid h1
            obtain ⟨e0, e1⟩ := CE.out w1 h1.bel
            have kc := chr_run w1 x
            have PS := Lib.hid (triPushS (h1.below ((Below.refl _ w1).alloc (Nat.le_refl _) (.cells #[.int .u8 (x % 256)] 5))) (by rw [List.length_map]; have := HX.out; omega) (chr x))
            clear h1
            generalize hcx : chr x = cx at *
            have HC := Lib.hid hcx
            clear hcx
            go_wp2_with fail
            refine PS.out.mono ?_
            rintro e w2 ⟨rfl, h2⟩
            obtain ⟨e2, e3⟩ := CE.out w2 h2.bel
            have PR := Lib.hid (triPushR h2 (by have := HX.out; omega) x)
            clear h2 e0 e1 kc
            go_wp2_with fail
            refine PR.out.mono ?_
            rintro e w3 ⟨rfl, h3⟩
            have H3 := Lib.hid h3
            clear h3
            go_wp2_with fail
            go_meet
            case rel => exact ⟨rfl, xs ++ [x], by have := HX.out; simp; omega, by rw [List.map_append, List.map_singleton, HC.out]; exact H3.out⟩
          · have t0 : (kk == 0) = false := beq_eq_false_iff_ne.2 k0
            by_cases k1 : kk = 1
            · subst k1
              obtain ⟨y, bb, z, zs, hz, hlen, pa, pb, pc⟩ := triPops HT.out (by have := HX.out; omega)
              have HZ := Lib.hid hz
              have PA := Lib.hid pa
              have PB := Lib.hid pb
              have PC := Lib.hid pc
              have HN := Lib.hid (Nat.le_trans hlen HX.out)
              clear pa pb pc hlen hz k0
              go_wp2_with fail
              refine PA.out.mono ?_
              rintro e w1 ⟨rfl, h1⟩
              have QB := Lib.hid (PB.out _ h1)
              clear h1
              go_wp2_with fail
              refine QB.out.mono ?_
              rintro e w2 ⟨rfl, h2⟩
              have QC := Lib.hid (PC.out _ h2)
              clear h2
              go_wp2_with fail
              refine QC.out.mono ?_
              rintro e w3 ⟨rfl, h3⟩
              have H3 := Lib.hid h3
              clear h3
              cases bb with
              | false =>
                go_wp2_with fail
                go_meet
                case rel => exact ⟨rfl, zs, by have := HN.out; omega, H3.out⟩
              | true =>
                obtain rfl := HZ.out rfl
                have kc := chr_run w3 y
                generalize chr y = cy at *
                go_wp2_with fail
                go_meet
                case rel => exact ⟨rfl, zs, by have := HN.out; omega, H3.out.below ((Below.refl _ w3).alloc (Nat.le_refl _) _)⟩
            · have t1 : (kk == 1) = false := beq_eq_false_iff_ne.2 k1
              by_cases k2 : kk = 2
              · subst k2
                have CU := Lib.hid (triCut HT.out x)
                clear k0 k1
                go_wp2_with fail
                refine CU.out.mono ?_
                rintro e w1 ⟨rfl, h1⟩
                obtain ⟨e0, e1⟩ := CE.out w1 h1.bel
                have CS := Lib.hid (triCutS h1 x)
                clear h1
                go_wp2_with fail
                refine CS.out.mono ?_
                rintro e w2 ⟨rfl, h2⟩
                obtain ⟨e2, e3⟩ := CE.out w2 h2.bel
                have CR := Lib.hid (triCutR h2 (by have := HX.out; omega) x)
                clear h2 e0 e1
                go_wp2_with fail
                refine CR.out.mono ?_
                rintro e w3 ⟨rfl, h3⟩
                have H3 := Lib.hid h3
                clear h3
                go_wp2_with fail
                go_meet
                case rel => exact ⟨rfl, cutI xs x, by have := HX.out; have := cut_len xs x; omega, by rw [← cut_chr]; exact H3.out⟩
              · have t2 : (kk == 2) = false := beq_eq_false_iff_ne.2 k2
                go_wp2_with fail
                go_meet
                case rel => exact ⟨rfl, xs, by have := HX.out; omega, HT.out⟩
        case rest =>
          obtain ⟨rfl, zs, hz, ht⟩ := hcut
          have HZ := Lib.hid hz
          have HT2 := Lib.hid ht
          obtain ⟨e0, e1⟩ := CE.out wc ht.bel
          obtain ⟨y, bb, z, pa, pb, pc⟩ := triAts w w.heap.size (w.heap.size + 1) (w.heap.size + 1 + 1) zs x
          have PA := Lib.hid (pa _ ht)
          have PB := Lib.hid (pb _ ht)
          have PC := Lib.hid (pc _ ht)
          have LP := Lib.hid (triLen ht)
          have LS := Lib.hid (triLenS ht)
          rw [List.length_map] at LS
          have LR := Lib.hid (triLenR ht)
          clear pa pb pc ht hz d0 d1
          generalize zs.length = len at LP LS LR
          go_wp2_with fail
          refine PA.out.mono ?_
          rintro e w1 ⟨rfl, rfl⟩
          go_wp2_with fail
          refine PB.out.mono ?_
          rintro e w1 ⟨rfl, rfl⟩
          go_wp2_with fail
          refine PC.out.mono ?_
          rintro e w1 ⟨rfl, rfl⟩
          go_wp2_with fail
          refine LP.out.mono ?_
          rintro e w1 ⟨rfl, rfl⟩
          go_wp2_with fail
          refine LR.out.mono ?_
          rintro e w1 ⟨rfl, rfl⟩
          go_wp2_with fail
          refine LS.out.mono ?_
          rintro e w1 ⟨rfl, rfl⟩
          go_wp2_with fail
          refine LR.out.mono ?_
          rintro e w1 ⟨rfl, rfl⟩
          go_wp2_with fail
          go_roundw
          case rel => exact ⟨k + 1, by omega, by go_num, zs, HZ.out, HT2.out⟩
          case measure => simp [RowKit.intOf]; omega
      · have AWW := Lib.hid (AW.out wr)
        go_wp2_with fail
        refine AWW.out.mono ?_
        rintro e w1 ⟨rfl, h1⟩
        have H1 := Lib.hid h1
        clear h1
        go_wp2_with fail
        go_ret
        exact ⟨rfl, LV.out _ H1.out⟩
    · have AWW := Lib.hid (AW.out wr)
      go_wp2_with fail
      refine AWW.out.mono ?_
      rintro e w1 ⟨rfl, h1⟩
      have H1 := Lib.hid h1
      clear h1
      go_wp2_with fail
      go_ret
      exact ⟨rfl, LV.out _ H1.out⟩
end Go.Proofs.Ytafklopkjbdlkaa

/-
  Walk of the law ItemWords.
-/
import Derived.Test.YthmfkjgcbcjbaaaDoorIw1
import Derived.Test.YthmfkjgcbcjbaaaDoorIty
import Derived.Test.YthmfkjgcbcjbaaaDoorCls
namespace Go.Proofs.YthmfkjgcbcjbaaaDoor
open Go.RowKit Go.Lib Go.Maps

/-- The text of the words so far, each behind a gap. -/
def WAt (xs : List ByteArray) (i : Nat) (t : ByteArray) : Prop := ∃ L, (∀ p ∈ L, okP p) ∧ L.map Prod.snd = (xs.take i).map (fun x => x.data.toList) ∧ t.data.toList = catP L ∧ t.size ≤ 33 * i
theorem WAt.next {xs : List ByteArray} {i : Nat} {t x G : ByteArray} (h : WAt xs i t) (hi : i < xs.length) (hx : xs.getD i ⟨#[]⟩ = x) (hz : x.size ≤ 30) (h0 : x.data.toList ≠ []) (hp : ∀ k (q : k < x.size), plainB x[k]) (hG : G.data.toList ≠ [] ∧ (∀ b ∈ G.data.toList, blankB b) ∧ G.size ≤ 3) : WAt xs (i + 1) (t ++ G ++ x) := by
  obtain ⟨L, h1, h2, h3, h4⟩ := h
  have hxi : xs[i] = x := by rw [← hx]; simp [List.getD_eq_getElem?_getD, List.getElem?_eq_getElem hi]
  refine ⟨L ++ [(G.data.toList, x.data.toList)], fun p hpm => ?_, ?_, ?_, ?_⟩
  · rcases List.mem_append.1 hpm with hpm | hpm
    · exact h1 p hpm
    · rw [List.mem_singleton] at hpm
      subst hpm
      refine ⟨hG.1, hG.2.1, h0, fun b hb => ?_⟩
      obtain ⟨k, hk, rfl⟩ := List.mem_iff_getElem.1 hb
      rw [bytes_len] at hk
      exact hp k hk
  · rw [List.map_append, h2, List.take_succ_eq_append_getElem hi, List.map_append, List.map_cons, List.map_nil, List.map_cons, List.map_nil, hxi]
  · rw [catP_app, ← h3, catP, catP]
    simp
  · have := hG.2.2
    rw [ByteArray.size_append, ByteArray.size_append]; omega
theorem gap_one : (⟨#[32]⟩ : ByteArray).data.toList ≠ [] ∧ (∀ b ∈ (⟨#[32]⟩ : ByteArray).data.toList, blankB b) ∧ (⟨#[32]⟩ : ByteArray).size ≤ 3 := by decide
theorem gap_two : (⟨#[32, 32]⟩ : ByteArray).data.toList ≠ [] ∧ (∀ b ∈ (⟨#[32, 32]⟩ : ByteArray).data.toList, blankB b) ∧ (⟨#[32, 32]⟩ : ByteArray).size ≤ 3 := by decide
theorem gap_tab : (⟨#[9]⟩ : ByteArray).data.toList ≠ [] ∧ (∀ b ∈ (⟨#[9]⟩ : ByteArray).data.toList, blankB b) ∧ (⟨#[9]⟩ : ByteArray).size ≤ 3 := by decide
theorem gap_lf : (⟨#[32, 10, 32]⟩ : ByteArray).data.toList ≠ [] ∧ (∀ b ∈ (⟨#[32, 10, 32]⟩ : ByteArray).data.toList, blankB b) ∧ (⟨#[32, 10, 32]⟩ : ByteArray).size ≤ 3 := by decide
abbrev gapParts : Array (Nat × Value) := #[(0, .string ⟨#[32]⟩), (1, .string ⟨#[32, 32]⟩), (2, .string ⟨#[9]⟩), (3, .string ⟨#[32, 10, 32]⟩)]
abbrev gapCells : Array Value := #[.string ⟨#[32]⟩, .string ⟨#[32, 32]⟩, .string ⟨#[9]⟩, .string ⟨#[32, 10, 32]⟩]
theorem gap_build (w : World) : (Instr.build 43 #[(0, .string ⟨#[32]⟩), (1, .string ⟨#[32, 32]⟩), (2, .string ⟨#[9]⟩), (3, .string ⟨#[32, 10, 32]⟩)]).run Tryd.prog w = .ok (.agg #[.string ⟨#[32]⟩, .string ⟨#[32, 32]⟩, .string ⟨#[9]⟩, .string ⟨#[32, 10, 32]⟩]) w := run_build w _ gapParts gapCells (by kernel_rfl)
theorem gap_index (k : Nat) (hk : k < 4) (x : ByteArray) (hx : gapCells[k]? = some (.string x)) (w : World) : (Instr.index 43 (.agg #[.string ⟨#[32]⟩, .string ⟨#[32, 32]⟩, .string ⟨#[9]⟩, .string ⟨#[32, 10, 32]⟩]) (.int .i64 k)).run Tryd.prog w = .ok (.string x) w := by
  have hn : (0 : Int) ≤ (k : Int) ∧ (k : Int) < ((4 : Nat) : Int) := ⟨by omega, by omega⟩
  have ha : ∀ w, (isAgg 9).run Tryd.prog w = .ok false w := fun _ => by kernel_rfl
  have hs : ∀ w, (sizeOf 9).run Tryd.prog w = .ok 1 w := fun _ => by kernel_rfl
  unfold gapCells at hx
  generalize (#[.string ⟨#[32]⟩, .string ⟨#[32, 32]⟩, .string ⟨#[9]⟩, .string ⟨#[32, 10, 32]⟩] : Array Value) = T at *
  simp [Instr.index, run_underlying Tryd.underlying43, asIntOf, hn, hs, ha, part, hx, go_sem]
  intro h; omega
/-- A text of its own as spans. -/
theorem one_at (W : World) (t : ByteArray) : StAt (W.alloc (.cells #[.int .i64 1, .string t, .string ⟨#[]⟩, .string ⟨#[]⟩, .slice none 0 0] 39)) [.mk 1 t.data.toList [] [] []] (.slice (some ⟨W.heap.size, 0, none⟩) 1 1) := by
  have h := StAt.blk (L := [(.mk 1 t.data.toList [] [] [], .slice none 0 0)]) (Blk.new W 39 #[.int .i64 1, .string ⟨t.data.toList.toArray⟩, .string ⟨#[]⟩, .string ⟨#[]⟩, .slice none 0 0]) (show 1 ≤ maxLen by decide) (fun y hy => by rw [List.mem_singleton] at hy; subst hy; exact StAt.nil _)
  rw [bytes_same] at h
  exact h
set_option maxRecDepth 100000 in
set_option maxHeartbeats 16000000 in
theorem iwords_any (a : Option Addr) (n c : Nat) (xs : List ByteArray) (a2 : Option Addr) (n2 c2 : Nat) (zs : List Int) (sz : Nat) (w : World) (hn : xs.length = n) (hc : 0 < n → ∃ b off, a = some ⟨b, off, none⟩ ∧ ∀ k, k < n → w.cell? ⟨b, off + k, none⟩ = some (.string (xs.getD k ⟨#[]⟩))) (_hm : n ≤ maxLen)
    (_gm : n2 ≤ maxLen) (gl : zs.length = n2) (gw : ∀ z ∈ zs, (Lit.int .u8 z).wf = true) (gc : ∀ k, k < n2 → ∃ b off, a2 = some ⟨b, off, none⟩ ∧ b < w.heap.size ∧ w.cell? ⟨b, off + k, none⟩ = some (.int .u8 (zs.getD k 0))) (hs : sz < 65536) (hE : EnvI w) :
    Calls Tryd.prog 7 #[.slice a n c, .slice a2 n2 c2, .int .u16 sz] w fun e w' => e = .returned (.bool true) ∧ Keeps w w' := by
  have AW := Lib.hid (fun W (k : Keeps w W) => awake17_any W (hE.keep k))
  by_cases h40 : n ≤ 40
  · have MK := Lib.hid (fun (t : List UInt8) lv W (k : Keeps w W) (hA : StAt W [.mk 1 t [] [] []] lv) (z : t.length ≤ 1400) => make_any [.mk 1 t [] [] []] lv 0 (4000 + (sz : Int)) 1 W hA (hE.keep k) (by omega) (by omega) (by rw [wL, wS_mk, wL]; omega) (by omega) (by rw [wL, wS_mk, wL]; omega))
    have HC := Lib.hid hc
    have HG : Hid (∀ k, k < n2 → ∃ b off, a2 = some ⟨b, off, none⟩ ∧ ∃ y : Nat, y < 256 ∧ w.cell? ⟨b, off + k, none⟩ = some (.int .u8 (y : Int))) := Lib.hid fun k hk => by
      obtain ⟨b, off, e, _, h⟩ := gc k hk
      have hz := gw (zs.getD k 0) (by rw [List.getD_eq_getElem?_getD, List.getElem?_eq_getElem (by omega), Option.getD_some]; exact List.getElem_mem _)
      simp [Lit.wf, IntKind.min, IntKind.max, IntKind.signed, IntKind.bits] at hz
      exact ⟨b, off, e, (zs.getD k 0).toNat, by simp at *; omega, by rw [h]; congr 2; simp at *; omega⟩
    have HN := Lib.hid hn
    have h40i : decide ((40 : Int) < (n : Int)) = false := decide_eq_false (by omega)
    unfold maxLen at _gm
    clear hc gc gw gl hE _hm
    go_enter Tryd.func7, Tryd.ntmps7
    go_wp2_with fail
    go_loopw [7, 8] (fun y7 y8 wr => ∃ (i : Nat) (t : ByteArray), i ≤ n ∧ y7 = .string t ∧ y8 = .int .i64 i ∧ Hid (WAt xs i t) ∧ Hid (Keeps w wr)) (fun _ y8 _ => n - (RowKit.intOf y8).toNat)
    case atStart => exact ⟨0, ⟨#[]⟩, Nat.zero_le _, rfl, rfl, Lib.hid ⟨[], fun p h => by (cases h), rfl, rfl, Nat.le_refl _⟩, Lib.hid (Keeps.refl _)⟩
    case round =>
      obtain ⟨i, t, hi, rfl, rfl, HT, HK⟩ := hrel
      by_cases ci : i < n
      · obtain ⟨b, off, rfl, hcell⟩ := HC.out (by omega)
        have hi1 : (0 : Int) ≤ (i : Int) := by omega
        have hi2 : (i : Int) < (n : Int) := by omega
        have b1 : decide ((i : Int) < (n : Int)) = true := decide_eq_true (by omega)
        have y0 := HK.out.cell2 (hcell i ci)
        have HX : Hid (xs.getD i ⟨#[]⟩ = xs.getD i ⟨#[]⟩) := Lib.hid rfl
        clear hcell
        obtain ⟨x, hx⟩ : ∃ x, xs.getD i ⟨#[]⟩ = x := ⟨_, rfl⟩
        have HXX := Lib.hid hx
        rw [hx] at y0
        clear hx HX
        have htz := HT.out
        obtain ⟨_, _, _, _, htz⟩ := htz
        by_cases c0 : x.data.toList = []
        · have te : x.toList.isEmpty = true := by rw [Lib.toList_data, c0]; rfl
          have te2 : (x.toList == []) = true := by rw [Lib.toList_data, c0]; rfl
          have AW2 := Lib.hid (AW.out wr HK.out)
          go_wp2_with fail
          refine AW2.out.mono ?_
          rintro e w2 ⟨rfl, k2⟩
          have K2 := HK.out.trans k2
          go_wp2_with fail
          go_ret
          exact ⟨rfl, K2⟩
        · have te : x.toList.isEmpty = false := by rw [List.isEmpty_eq_false_iff, Lib.toList_data]; exact c0
          have te2 : (x.toList == []) = false := by
            cases h : x.toList with
            | nil => rw [h] at te; cases te
            | cons _ _ => rfl
          have H0 := Lib.hid c0
          by_cases c30 : x.size ≤ 30
          · have b2 : decide ((30 : Int) < (x.size : Int)) = false := decide_eq_false (by omega)
            clear c0
            go_wp2_with fail
            go_loop [9] (fun y9 => ∃ k : Nat, k ≤ x.size ∧ y9 = .int .i64 k ∧ Hid (∀ j (h : j < x.size), j < k → plainB x[j])) (fun y9 => x.size - (RowKit.intOf y9).toNat)
            case atStart => exact ⟨0, Nat.zero_le _, rfl, Lib.hid fun j h hj => by omega⟩
            case round =>
              obtain ⟨k, hk, rfl, HP⟩ := hrel
              by_cases ck : k < x.size
              · have hb := x[k].toNat_lt
                have b3 : decide ((k : Int) < (x.size : Int)) = true := decide_eq_true (by omega)
                by_cases q1 : x[k].toNat ≤ 32
                · have t1 : decide ((x[k].toNat : Int) ≤ 32) = true := decide_eq_true (by omega)
                  have AW2 := Lib.hid (AW.out wr HK.out)
                  go_wp2_with fail
                  refine AW2.out.mono ?_
                  rintro e w2 ⟨rfl, k2⟩
                  have K2 := HK.out.trans k2
                  go_wp2_with fail
                  go_ret
                  exact ⟨rfl, K2⟩
                · have t1 : decide ((x[k].toNat : Int) ≤ 32) = false := decide_eq_false (by omega)
                  by_cases q2 : x[k].toNat ≤ 126
                  · have t2 : decide ((126 : Int) < (x[k].toNat : Int)) = false := decide_eq_false (by omega)
                    have HP2 : Hid (∀ j (h : j < x.size), j < k + 1 → plainB x[j]) := Lib.hid fun j h hj => by
                      rcases Nat.lt_or_ge j k with q | q
                      · exact HP.out j h q
                      · have : j = k := by omega
                        subst this
                        exact ⟨by omega, q2⟩
                    go_wp2_with fail
                    go_round
                    case rel => exact ⟨k + 1, by omega, by go_num, HP2⟩
                    case measure => simp only [RowKit.intOf]; omega
                  · have t2 : decide ((126 : Int) < (x[k].toNat : Int)) = true := decide_eq_true (by omega)
                    have AW2 := Lib.hid (AW.out wr HK.out)
                    go_wp2_with fail
                    refine AW2.out.mono ?_
                    rintro e w2 ⟨rfl, k2⟩
                    have K2 := HK.out.trans k2
                    go_wp2_with fail
                    go_ret
                    exact ⟨rfl, K2⟩
              · have e : k = x.size := by omega
                subst e
                have b3 : decide ((x.size : Int) < (x.size : Int)) = false := decide_eq_false (by omega)
                have HNX : Hid (∀ G : ByteArray, (G.data.toList ≠ [] ∧ (∀ b ∈ G.data.toList, blankB b) ∧ G.size ≤ 3) → WAt xs (i + 1) (t ++ G ++ x)) := Lib.hid fun G hG => HT.out.next (by rw [HN.out]; exact ci) HXX.out c30 H0.out (fun j h => HP.out j h h) hG
                have hb0 : ∀ u, (Instr.build 43 #[(0, .string ⟨#[32]⟩), (1, .string ⟨#[32, 32]⟩), (2, .string ⟨#[9]⟩), (3, .string ⟨#[32, 10, 32]⟩)]).run Tryd.prog u = .ok (.agg #[.string ⟨#[32]⟩, .string ⟨#[32, 32]⟩, .string ⟨#[9]⟩, .string ⟨#[32, 10, 32]⟩]) u := fun u => gap_build u
                have x0 : ∀ u, (Instr.index 43 (.agg #[.string ⟨#[32]⟩, .string ⟨#[32, 32]⟩, .string ⟨#[9]⟩, .string ⟨#[32, 10, 32]⟩]) (.int .i64 0)).run Tryd.prog u = .ok (.string ⟨#[32]⟩) u := fun u => gap_index 0 (by decide) _ rfl u
                have x1 : ∀ u, (Instr.index 43 (.agg #[.string ⟨#[32]⟩, .string ⟨#[32, 32]⟩, .string ⟨#[9]⟩, .string ⟨#[32, 10, 32]⟩]) (.int .i64 1)).run Tryd.prog u = .ok (.string ⟨#[32, 32]⟩) u := fun u => gap_index 1 (by decide) _ rfl u
                have x2 : ∀ u, (Instr.index 43 (.agg #[.string ⟨#[32]⟩, .string ⟨#[32, 32]⟩, .string ⟨#[9]⟩, .string ⟨#[32, 10, 32]⟩]) (.int .i64 2)).run Tryd.prog u = .ok (.string ⟨#[9]⟩) u := fun u => gap_index 2 (by decide) _ rfl u
                have x3 : ∀ u, (Instr.index 43 (.agg #[.string ⟨#[32]⟩, .string ⟨#[32, 32]⟩, .string ⟨#[9]⟩, .string ⟨#[32, 10, 32]⟩]) (.int .i64 3)).run Tryd.prog u = .ok (.string ⟨#[32, 10, 32]⟩) u := fun u => gap_index 3 (by decide) _ rfl u
                by_cases cg : i < n2
                · obtain ⟨b', off', rfl, y, hy, hcy⟩ := HG.out i cg
                  have yg := HK.out.cell2 hcy
                  have b4 : decide ((i : Int) < (n2 : Int)) = true := decide_eq_true (by omega)
                  have hi3 : (i : Int) < (n2 : Int) := by omega
                  have hcase : (y : Int) % 4 = 0 ∨ (y : Int) % 4 = 1 ∨ (y : Int) % 4 = 2 ∨ (y : Int) % 4 = 3 := by omega
                  clear hcy
                  rcases hcase with hg | hg | hg | hg
                  all_goals
                    go_wp2_with fail
                    go_quiet (fail)
                    go_wp2_with fail
                    go_roundw
                    case rel =>
                      first
                        | exact ⟨i + 1, t ++ ⟨#[32]⟩ ++ x, by omega, rfl, by go_num, Lib.hid (HNX.out _ gap_one), Lib.hid (HK.out.drewN _)⟩
                        | exact ⟨i + 1, t ++ ⟨#[32, 32]⟩ ++ x, by omega, rfl, by go_num, Lib.hid (HNX.out _ gap_two), Lib.hid (HK.out.drewN _)⟩
                        | exact ⟨i + 1, t ++ ⟨#[9]⟩ ++ x, by omega, rfl, by go_num, Lib.hid (HNX.out _ gap_tab), Lib.hid (HK.out.drewN _)⟩
                        | exact ⟨i + 1, t ++ ⟨#[32, 10, 32]⟩ ++ x, by omega, rfl, by go_num, Lib.hid (HNX.out _ gap_lf), Lib.hid (HK.out.drewN _)⟩
                    case measure => simp only [RowKit.intOf]; omega
                · have b4 : decide ((i : Int) < (n2 : Int)) = false := decide_eq_false (by omega)
                  go_wp2_with fail
                  go_quiet (fail)
                  go_wp2_with fail
                  go_roundw
                  case rel => exact ⟨i + 1, t ++ ⟨#[32]⟩ ++ x, by omega, rfl, by go_num, Lib.hid (HNX.out _ gap_one), Lib.hid (HK.out.drewN _)⟩
                  case measure => simp only [RowKit.intOf]; omega
          · have b2 : decide ((30 : Int) < (x.size : Int)) = true := decide_eq_true (by omega)
            have AW2 := Lib.hid (AW.out wr HK.out)
            clear c0
            go_wp2_with fail
            refine AW2.out.mono ?_
            rintro e w2 ⟨rfl, k2⟩
            have K2 := HK.out.trans k2
            go_wp2_with fail
            go_ret
            exact ⟨rfl, K2⟩
      · have b1 : decide ((i : Int) < (n : Int)) = false := decide_eq_false (by omega)
        obtain ⟨L, h1, h2, h3, h4⟩ := HT.out
        have hmw := make_words (4000 + (sz : Int)) 1 L h1
        rw [← h3] at hmw
        have MK2 := Lib.hid (MK.out t.data.toList _ _ (HK.out.alloc _) (one_at wr t) (by rw [bytes_len]; omega))
        rw [hmw] at MK2
        unfold MakeP at MK2
        have hws : L.map Prod.snd = xs.map (fun x => x.data.toList) := by rw [h2, List.take_of_length_le (by rw [HN.out]; omega)]
        rw [hws] at MK2
        have hlen := out_len (4000 + (sz : Int)) ⟨0, 0, false⟩ (xs.map (fun x => x.data.toList))
        have EV : Hid (∀ j, j < n → (outW (4000 + (sz : Int)) ⟨0, 0, false⟩ (xs.map (fun x => x.data.toList)))[2 * j]? = some (itBox (4000 + (sz : Int)) ⟨0, 0, false⟩ (xs.getD j ⟨#[]⟩).data.toList)) := Lib.hid fun j hj => by
          rw [out_even _ _ _ j (by rw [List.length_map, HN.out]; exact hj)]
          congr 2
          have hj' : j < xs.length := by rw [HN.out]; exact hj
          simp [List.getD_eq_getElem?_getD, List.getElem?_eq_getElem hj']
        have OD : Hid (∀ j, j + 1 < n → (outW (4000 + (sz : Int)) ⟨0, 0, false⟩ (xs.map (fun x => x.data.toList)))[2 * j + 1]? = some (itGlue (4000 + (sz : Int)) ⟨0, 0, false⟩)) := Lib.hid fun j hj => by
          rw [out_odd _ _ _ j (by rw [List.length_map, HN.out]; exact hj)]
        rw [List.length_map, HN.out] at hlen
        generalize outW (4000 + (sz : Int)) ⟨0, 0, false⟩ (xs.map (fun x => x.data.toList)) = its at *
        simp only at MK2
        clear MK hmw hws h1 h2 h3 h4 HT HG
        go_wp2_with fail
        refine MK2.out.mono ?_
        rintro e w1 ⟨v1, rfl, I1, k1⟩
        have K1 := Lib.hid ((HK.out.alloc _).trans k1)
        clear k1 MK2
        obtain ⟨A1, c1, rfl, g1, g2, g3⟩ := I1.form
        have HI : Hid (∀ g, A1 = some ⟨g, 0, none⟩ → ∀ wr', Keeps w1 wr' → ∀ k x, its[k]? = some x → ∀ j, j < 9 → wr'.cell? ⟨g, k * 9 + j, none⟩ = (itC x)[j]?) := Lib.hid fun g e wr' k k' x hx j hj => by
          subst e
          obtain ⟨hk', rfl⟩ := List.getElem?_eq_some_iff.1 hx
          exact ItsAt.cell (I1.keep k) hk' j hj
        have HF := Lib.hid g3
        clear I1 g3
        obtain ⟨q, hq⟩ : ∃ q, its.length = q := ⟨_, rfl⟩
        have HQ := Lib.hid hq
        rw [hq] at g1 hlen ⊢
        clear hq
        unfold maxLen at g2
        have hmx : max (0 : Int) (2 * (n : Int) - 1) = (q : Int) := by omega
        have hmy : max (2 * (n : Int) - 1) (0 : Int) = (q : Int) := by omega
        have hqq : ((q : Int) == (q : Int)) = true := by simp
        have HLEN := Lib.hid hlen
        have hq79 : q ≤ 79 := by omega
        clear hlen
        go_wp2_with fail
        go_loopw [13] (fun y wr' => ∃ k : Nat, k ≤ q ∧ y = .int .i64 k ∧ Hid (Keeps w1 wr')) (fun y _ => q - (RowKit.intOf y).toNat)
        case atStart => exact ⟨0, Nat.zero_le _, rfl, Lib.hid (Keeps.refl _)⟩
        case round =>
          obtain ⟨k, hk, rfl, HR⟩ := hrel
          by_cases ck : k < q
          · obtain ⟨g, rfl⟩ := HF.out (by rw [HQ.out]; omega)
            have b2 : decide ((k : Int) < (q : Int)) = true := decide_eq_true (by omega)
            have hk1 : (0 : Int) ≤ (k : Int) := by omega
            have hk2 : (k : Int) < (q : Int) := by omega
            by_cases pe : k % 2 = 0
            · obtain ⟨j, hj⟩ : ∃ j, k = 2 * j := ⟨k / 2, by omega⟩
              have hjn : j < n := by have := HLEN.out; omega
              obtain ⟨b, off, rfl, hcell⟩ := HC.out (by omega)
              have y2 := HR.out.cell2 (K1.out.cell2 (hcell j hjn))
              have hev := EV.out j hjn
              rw [← hj] at hev
              obtain ⟨x, hx⟩ : ∃ x, xs.getD j ⟨#[]⟩ = x := ⟨_, rfl⟩
              rw [hx] at y2 hev
              have y0 : wr.cell? ⟨g, k * 9, none⟩ = some (.int .i64 1) := HI.out g rfl wr HR.out k _ hev 0 (by decide)
              have y1 : wr.cell? ⟨g, k * 9 + 5, none⟩ = some (.string ⟨x.data.toList.toArray⟩) := HI.out g rfl wr HR.out k _ hev 5 (by decide)
              rw [bytes_same] at y1
              have m1 : ((k : Int).tmod 2 == 0) = true := beqT (by rw [Int.tmod_eq_emod_of_nonneg (by omega)]; omega)
              have m2 : ((k : Int) % 2 == 0) = true := beqT (by omega)
              have m3 : ((k : Int).tmod 2 == 1) = false := beqF (by rw [Int.tmod_eq_emod_of_nonneg (by omega)]; omega)
              have m4 : ((k : Int) % 2 == 1) = false := beqF (by omega)
              have d1 : (k : Int).tdiv 2 = (j : Int) := by rw [Int.tdiv_eq_ediv_of_nonneg (by omega)]; omega
              have d2 : (k : Int) / 2 = (j : Int) := by omega
              have hj1 : (0 : Int) ≤ (j : Int) := by omega
              have hj2 : (j : Int) < (n : Int) := by omega
              have tx : (x.toList == x.toList) = true := by simp
              obtain ⟨L2, hL⟩ : ∃ L2 : List (Addr × Value), L2 = [(⟨g, k * 9, none⟩, .int .i64 1), (⟨g, k * 9 + 5, none⟩, .string x), (⟨b, off + j, none⟩, .string x)] := ⟨_, rfl⟩
              have C0 : ∀ q ∈ L2, wr.cell? q.1 = some q.2 := by rw [hL]; exact cells_cons y0 (cells_cons y1 (cells_cons y2 (cells_nil _)))
              have NE : Nonempty (InS (CellsK L2 wr)) := ⟨⟨_, CellsK.start C0⟩⟩
              have Gy0 : ∀ u : InS (CellsK L2 wr), u.w.cell? ⟨g, k * 9, none⟩ = some (.int .i64 1) := fun u => u.ok.cells (_, _) (by rw [hL]; simp)
              have Gy1 : ∀ u : InS (CellsK L2 wr), u.w.cell? ⟨g, k * 9 + 5, none⟩ = some (.string x) := fun u => u.ok.cells (_, _) (by rw [hL]; simp)
              have Gy2 : ∀ u : InS (CellsK L2 wr), u.w.cell? ⟨b, off + j, none⟩ = some (.string x) := fun u => u.ok.cells (_, _) (by rw [hL]; simp)
              clear hL hj hcell hev hx EV OD
              go_wp2_with fail
              clear y0 y1 y2
              refine wp_region_class (CellsK L2 wr) (by kernel_rfl) (by kernel_rfl) (CellsK.start C0) ?_
              repeat (go_big_quiet_step (fail))
              refine wpQuiet_nil ?_
              rintro w5 ⟨⟨w6, h6⟩, rfl⟩
              have K6 := Lib.hid (HR.out.trans h6.since)
              clear NE Gy0 Gy1 Gy2 C0 h6
              go_wp2_with fail
              go_roundw
              case rel => exact ⟨k + 1, by omega, by go_num, K6⟩
              case measure => simp only [RowKit.intOf]; omega
            · have hjj : ∃ j, k = 2 * j + 1 := ⟨k / 2, by omega⟩
              obtain ⟨j, hj⟩ := hjj
              have hod := OD.out j (by have := HLEN.out; omega)
              rw [← hj] at hod
              have y0 : wr.cell? ⟨g, k * 9, none⟩ = some (.int .i64 2) := HI.out g rfl wr HR.out k _ hod 0 (by decide)
              have m1 : ((k : Int).tmod 2 == 0) = false := beqF (by rw [Int.tmod_eq_emod_of_nonneg (by omega)]; omega)
              have m2 : ((k : Int) % 2 == 0) = false := beqF (by omega)
              have m3 : ((k : Int).tmod 2 == 1) = true := beqT (by rw [Int.tmod_eq_emod_of_nonneg (by omega)]; omega)
              have m4 : ((k : Int) % 2 == 1) = true := beqT (by omega)
              obtain ⟨L2, hL⟩ : ∃ L2 : List (Addr × Value), L2 = [(⟨g, k * 9, none⟩, .int .i64 2)] := ⟨_, rfl⟩
              have C0 : ∀ q ∈ L2, wr.cell? q.1 = some q.2 := by rw [hL]; exact cells_cons y0 (cells_nil _)
              have NE : Nonempty (InS (CellsK L2 wr)) := ⟨⟨_, CellsK.start C0⟩⟩
              have Gy0 : ∀ u : InS (CellsK L2 wr), u.w.cell? ⟨g, k * 9, none⟩ = some (.int .i64 2) := fun u => u.ok.cells (_, _) (by rw [hL]; simp)
              clear hL hj hod EV OD
              go_wp2_with fail
              clear y0
              refine wp_region_class (CellsK L2 wr) (by kernel_rfl) (by kernel_rfl) (CellsK.start C0) ?_
              repeat (go_big_quiet_step (fail))
              refine wpQuiet_nil ?_
              rintro w5 ⟨⟨w6, h6⟩, rfl⟩
              have K6 := Lib.hid (HR.out.trans h6.since)
              clear NE Gy0 C0 h6
              go_wp2_with fail
              go_roundw
              case rel => exact ⟨k + 1, by omega, by go_num, K6⟩
              case measure => simp only [RowKit.intOf]; omega
          · have b2 : decide ((k : Int) < (q : Int)) = false := decide_eq_false (by omega)
            have K3 := Lib.hid (K1.out.trans HR.out)
            have AW2 := Lib.hid (AW.out _ K3.out)
            go_wp2_with fail
            refine AW2.out.mono ?_
            rintro e w4 ⟨rfl, k4⟩
            have K4 := K3.out.trans k4
            go_wp2_with fail
            go_ret
            exact ⟨rfl, K4⟩
  · have h40i : decide ((40 : Int) < (n : Int)) = true := decide_eq_true (by omega)
    unfold maxLen at _hm
    have AW2 := Lib.hid (AW.out w (Keeps.refl _))
    clear hE hc gc
    go_enter Tryd.func7, Tryd.ntmps7
    go_wp2_with fail
    refine AW2.out.mono ?_
    rintro e w2 ⟨rfl, K2⟩
    go_wp2_with fail
    go_ret
    exact ⟨rfl, K2⟩
end Go.Proofs.YthmfkjgcbcjbaaaDoor

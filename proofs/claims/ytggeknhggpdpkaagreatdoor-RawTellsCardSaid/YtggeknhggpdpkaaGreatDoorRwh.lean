/-
  Contract of address, of the package raw, for texts of at most 100,000 bytes.
-/
import Derived.Test.YtggeknhggpdpkaaGreatDoorRwg
namespace Go.Proofs.YtggeknhggpdpkaaGreatDoor
open Go.RowKit Go.Lib Go.Shelf

attribute [local go_sem] Oper.semAt_some

theorem adr_no {t : List UInt8} (h : ¬ cntP notAt t < t.length) : adrB t = false := by unfold adrB; rw [decide_eq_false h]; rfl
theorem adr_at {t : List UInt8} (h : cntP notAt t < t.length) : adrB t = (!(adrU t).isEmpty && decide (cntP rUsr (adrU t) = (adrU t).length) && (prtL (adrR t)).all hstB) := by unfold adrB; rw [decide_eq_true h]; rfl
/-- A result that lies in a box. -/
theorem ret_box {fn : Func} {p : Tmp} {tmps : Array Value} {w : World} {g t : Nat} {v : Value} (hres : fn.results = #[.cell p 4]) (hp : tmps[p]?.getD undef = .pointer (some ⟨g, 0, none⟩)) (hb : Blk w g t #[v]) : (results fn tmps).run Tryz.prog w = .ok v w := by
  have hc := hb.cell 0 (v := v) rfl
  simp [results, hres, hp, asAddr, go_sem, hc]

set_option maxRecDepth 100000 in
set_option maxHeartbeats 2000000 in
theorem address_in (n : Nat) (hn : 5 ≤ n) (s : ByteArray) (w : World) (hs : s.size ≤ 100000) (hm : Mxl w) :
    CallsIn Fence.wide n Tryz.prog 18 #[.string s] w fun e w' => e = .returned (.bool (adrB s.data.toList)) ∧ Keeps w w' := by
  have h1 : 1 ≤ n := by omega
  have HM := Lib.hid hm
  have CU := Lib.hid (fun W h => cutAt_any s W hs h)
  rw [cut_at] at CU
  have HK0 : Hid (Mxl (w.alloc (.cells #[.bool false] 4))) := Lib.hid (Mxl.keep hm ((Keeps.refl w).alloc _))
  clear hm
  by_cases c0 : cntP notAt s.data.toList < s.data.toList.length
  · rw [if_pos c0] at CU
    rw [adr_at c0]
    have C1 := Lib.hid (CU.out _ HK0.out)
    clear c0 CU
    obtain ⟨u, hu⟩ : ∃ u : ByteArray, (⟨(adrU s.data.toList).toArray⟩ : ByteArray) = u := ⟨_, rfl⟩
    obtain ⟨r, hr⟩ : ∃ r : ByteArray, (⟨(adrR s.data.toList).toArray⟩ : ByteArray) = r := ⟨_, rfl⟩
    have ul : u.data.toList = adrU s.data.toList := by rw [← hu]
    have rl : r.data.toList = adrR s.data.toList := by rw [← hr]
    have uz : u.size ≤ 100000 := by rw [← bytes_len, ul]; unfold adrU; rw [List.length_take, bytes_len]; omega
    have rz : r.size ≤ 100000 := by rw [← bytes_len, rl]; unfold adrR; rw [List.length_drop, bytes_len]; omega
    rw [← ul, ← rl]
    have ST := Lib.hid (fun W => stretch_rUsr u W uz)
    have SS := Lib.hid (fun W => splitSeq_any r W)
    have HO := Lib.hid (fun (a : ByteArray) (ha : a.size ≤ 100000) W => host_any a W ha)
    have hus := bytes_len u
    dsimp only at C1
    rw [hu, hr] at C1
    clear hu hr ul rl
    by_cases h0 : u.size = 0
    · obtain rfl := bytes_none h0
      rw [show (!(⟨#[]⟩ : ByteArray).data.toList.isEmpty) = false from rfl, Bool.false_and, Bool.false_and]
      refine callsIn_of_wp_marks Tryz.func18 rfl trivial ?_ rfl
      simp only [Tryz.ntmps18, List.size_toArray, List.length_cons, List.length_nil, Nat.reduceAdd, Nat.reduceSub, Array.replicate_succ, Array.replicate_zero, List.push_toArray, List.append_toArray, List.nil_append, List.cons_append]
      gi_wp2_with fail
      refine ⟨trivial, (callsIn_wide.2 C1.out).mono ?_⟩
      rintro e w1 ⟨rfl, m, rfl⟩
      gi_wp2_with fail
      refine ⟨trivial, ?_⟩
      gi_wp2_with fail
      exact ⟨_, ret_box rfl rfl (((Blk.new w 4 #[.bool false]).drewN m).set 0 _ rfl), rfl, (((Keeps.refl w).alloc _).drewN m).set (Nat.le_refl _) 0 _⟩
    · have up : 0 < u.size := by omega
      have u0 := tl_ne up
      have u1 := tl_empty up
      rw [show u.data.toList.isEmpty = false from by
        cases e : u.data.toList with
        | nil =>
          rw [e] at hus
          simp at hus
          omega
        | cons a b => rfl]
      have hn2 := cntP_le rUsr u.data.toList
      rw [hus] at hn2 ⊢
      generalize cntP rUsr u.data.toList = k at *
      by_cases c1 : k = u.size
      · have q1 : decide ((k : Int) < (u.size : Int)) = false := decide_eq_false (by omega)
        rw [decide_eq_true c1]
        refine callsIn_of_wp_marks Tryz.func18 rfl trivial ?_ rfl
        simp only [Tryz.ntmps18, List.size_toArray, List.length_cons, List.length_nil, Nat.reduceAdd, Nat.reduceSub, Array.replicate_succ, Array.replicate_zero, List.push_toArray, List.append_toArray, List.nil_append, List.cons_append]
        gi_wp2_with fail
        refine ⟨trivial, (callsIn_wide.2 C1.out).mono ?_⟩
        rintro e w1 ⟨rfl, m, rfl⟩
        gi_wp2_with fail
        refine ⟨trivial, (callsIn_wide.2 (ST.out _)).mono ?_⟩
        rintro e w1 ⟨rfl, rfl⟩
        gi_wp2_with fail
        refine ⟨trivial, (callsIn_wide.2 (SS.out _)).mono ?_⟩
        rintro e w1 ⟨rfl, rfl⟩
        gi_wp2_with fail
        have n0 : (splitW r ((w.alloc (.cells #[.bool false] 4)).drewN m)).heap.size = w.heap.size + 4 := by simp [splitW]
        have R0 : Blk (splitW r ((w.alloc (.cells #[.bool false] 4)).drewN m)) w.heap.size 4 #[.bool false] := ((((Blk.new w 4 #[.bool false]).drewN m).alloc _).alloc _).alloc _
        have K0 : Keeps w (splitW r ((w.alloc (.cells #[.bool false] 4)).drewN m)) := (((((Keeps.refl w).alloc _).drewN m).alloc _).alloc _).alloc _
        have bx := splitW_boxes r ((w.alloc (.cells #[.bool false] 4)).drewN m)
        rw [show ((w.alloc (.cells #[.bool false] 4)).drewN m).heap.size = w.heap.size + 1 from by simp] at bx
        refine wpIn_rangeBox h1 (gf := 78) (lb := #[.pointer (some ⟨w.heap.size + 1 + 1, 0, none⟩), .pointer (some ⟨w.heap.size + 1, 0, none⟩), .pointer (some ⟨w.heap.size + 1 + 2, 0, none⟩)]) rfl (enters_of Tryz.func78 (by kernel_rfl) rfl)
          (split1_in (n - 1) (by omega) r rz (w.heap.size + 1) _ (by rw [n0]; omega) ?b0 ?b1 ?b2) (by rw [n0]; omega) (fun _ => rfl)
          (fun pre W => (∀ p ∈ pre, hstB p.data.toList = true) ∧ Blk W w.heap.size 4 #[.bool false] ∧ Keeps w W)
          (fun pre W => (∃ p ∈ pre, hstB p.data.toList = false) ∧ Blk W w.heap.size 4 #[.bool false] ∧ Keeps w W)
          (fun xs A B h t => ⟨h.1, (t.block _ (by rw [n0]; omega) (by omega)).trans h.2.1, t.below h.2.2 (by rw [n0]; omega) (by omega)⟩)
          (fun xs A B h t => ⟨h.1, (t.block _ (by rw [n0]; omega) (by omega)).trans h.2.1, t.below h.2.2 (by rw [n0]; omega) (by omega)⟩)
          ⟨fun p hp => (by cases hp), R0, K0⟩
          (fun x => { tmps := #[.string s, undef, .pointer (some ⟨w.heap.size, 0, none⟩), .string u, .string r, .bool true, .string x, .tuple #[.string u, .string r, .bool true], .string s, .tuple #[.string u, .string r, .bool true], .string u, .string r, .bool true, .bool true, .bool false, .bool false, .string u, .bool false, .bool false, .bool false, .string u, .int .i64 u.size, .string u, .int .i64 u.size, .bool false, .bool false, .string r, splitF (w.heap.size + 1), .string x, undef, undef, undef], defers := [] }) ?assign ?body ?done ?stop
        case b0 => exact bx.1
        case b1 => exact bx.2.1
        case b2 => exact bx.2.2
        case assign =>
          intro l x W K hK
          gi_wp2
          exact hK
        case body =>
          rintro l pre x W hx ⟨hp, hR, hK⟩ hN
          have m1 : 1 ≤ n - 1 - 1 := by omega
          have HR := Lib.hid hR
          have HKW := Lib.hid hK
          have HP := Lib.hid hp
          have H1 := Lib.hid (fun W => HO.out x hx W)
          have c0 := hR.cell 0 rfl
          clear hp hR hK
          cases hh : hstB x.data.toList with
          | true =>
            rw [hh] at H1
            gi_wp2_with fail
            refine ⟨trivial, (CallsIn.inRound l (callsIn_wide.2 (H1.out _))).mono ?_⟩
            rintro e w3 ⟨rfl, k3⟩
            have K3 := Lib.hid k3
            clear k3
            gi_wp2_with fail
            exact ⟨K3.out, fun p hp => by
              rcases List.mem_append.1 hp with hp | hp
              · exact HP.out p hp
              · rw [List.mem_singleton] at hp
                rw [hp]
                exact hh, HR.out.keep K3.out, HKW.out.trans K3.out⟩
          | false =>
            rw [hh] at H1
            gi_wp2_with fail
            refine ⟨trivial, (CallsIn.inRound l (callsIn_wide.2 (H1.out _))).mono ?_⟩
            rintro e w3 ⟨rfl, k3⟩
            have K3 := Lib.hid k3
            have R3 := Lib.hid (HR.out.keep k3)
            have c3 := R3.out.cell 0 rfl
            have f3 := R3.out.free 0
            clear k3
            gi_wp2_with fail
            exact ⟨fun k hk hk2 => (Below.heap_setCell w3 ⟨w.heap.size, 0, none⟩ _ k (by show k ≠ w.heap.size; rw [n0] at hk; omega)).trans (K3.out.block k hk2), ⟨x, List.mem_append.2 (.inr (List.mem_singleton.2 rfl)), hh⟩, R3.out.set 0 _ rfl, (HKW.out.trans K3.out).set (Nat.le_refl _) 0 _⟩
        case done =>
          rintro D ys W hD hS ⟨hp, hR, hK⟩ hDb
          rw [n0] at hD
          have c3 := hR.cell 0 rfl
          have f3 := hR.free 0
          gi_wp2
          have hDb' : (W.setCell ⟨w.heap.size, 0, none⟩ (.bool true)).heap[D]? = some (.deferred (some [])) := (Below.heap_setCell W ⟨w.heap.size, 0, none⟩ _ D (by show D ≠ w.heap.size; omega)).trans hDb
          refine ⟨by simp, .inl ⟨_, _, rfl, run_takeDeferred hDb', ?_⟩⟩
          have R4 : Blk (W.setCell ⟨w.heap.size, 0, none⟩ (.bool true)) w.heap.size 4 #[.bool true] := hR.set 0 _ rfl
          refine ⟨_, ret_box rfl rfl ((World.putObj_heap_other (by omega)).trans R4), ?_, ?_⟩
          · have : (prtL r.data.toList).all hstB = true := by
              rw [← hS, List.all_eq_true]
              intro p hp2
              obtain ⟨x, hx, rfl⟩ := List.mem_map.1 hp2
              exact hp x hx
            rw [this]
            rfl
          · exact (hK.set (Nat.le_refl _) 0 _).put (by omega) _
        case stop =>
          rintro D pre W hD ⟨t, ht⟩ ⟨⟨p, hp, hh⟩, hR, hK⟩ hDb
          rw [n0] at hD
          gi_wp2
          refine ⟨by simp, .inl ⟨_, _, rfl, run_takeDeferred hDb, ?_⟩⟩
          refine ⟨_, ret_box rfl rfl ((World.putObj_heap_other (by omega)).trans hR), ?_, ?_⟩
          · have : (prtL r.data.toList).all hstB = false := by
              rw [ht, List.all_append, Bool.and_eq_false_iff]
              left
              rw [List.all_eq_false]
              exact ⟨_, List.mem_map.2 ⟨p, hp, rfl⟩, by rw [hh]; decide⟩
            rw [this]
            rfl
          · exact hK.put (by omega) _
      · have q1 : decide ((k : Int) < (u.size : Int)) = true := decide_eq_true (by omega)
        rw [decide_eq_false c1]
        refine callsIn_of_wp_marks Tryz.func18 rfl trivial ?_ rfl
        simp only [Tryz.ntmps18, List.size_toArray, List.length_cons, List.length_nil, Nat.reduceAdd, Nat.reduceSub, Array.replicate_succ, Array.replicate_zero, List.push_toArray, List.append_toArray, List.nil_append, List.cons_append]
        gi_wp2_with fail
        refine ⟨trivial, (callsIn_wide.2 C1.out).mono ?_⟩
        rintro e w1 ⟨rfl, m, rfl⟩
        gi_wp2_with fail
        refine ⟨trivial, (callsIn_wide.2 (ST.out _)).mono ?_⟩
        rintro e w1 ⟨rfl, rfl⟩
        gi_wp2_with fail
        exact ⟨_, ret_box rfl rfl (((Blk.new w 4 #[.bool false]).drewN m).set 0 _ rfl), rfl, (((Keeps.refl w).alloc _).drewN m).set (Nat.le_refl _) 0 _⟩
  · rw [if_neg c0] at CU
    rw [adr_no c0]
    have C1 := Lib.hid (CU.out _ HK0.out)
    dsimp only at C1
    rw [bytes_mk] at C1
    clear c0 CU
    refine callsIn_of_wp_marks Tryz.func18 rfl trivial ?_ rfl
    simp only [Tryz.ntmps18, List.size_toArray, List.length_cons, List.length_nil, Nat.reduceAdd, Nat.reduceSub, Array.replicate_succ, Array.replicate_zero, List.push_toArray, List.append_toArray, List.nil_append, List.cons_append]
    gi_wp2_with fail
    refine ⟨trivial, (callsIn_wide.2 C1.out).mono ?_⟩
    rintro e w1 ⟨rfl, m, rfl⟩
    gi_wp2_with fail
    refine ⟨trivial, ?_⟩
    gi_wp2_with fail
    exact ⟨_, ret_box rfl rfl (((Blk.new w 4 #[.bool false]).drewN m).set 0 _ rfl), rfl, (((Keeps.refl w).alloc _).drewN m).set (Nat.le_refl _) 0 _⟩
theorem address_any (s : ByteArray) (w : World) (hs : s.size ≤ 100000) (hm : Mxl w) :
    Calls Tryz.prog 18 #[.string s] w fun e w' => e = .returned (.bool (adrB s.data.toList)) ∧ Keeps w w' :=
  (callsIn_wide (n := 5)).1 (address_in 5 (Nat.le_refl _) s w hs hm)
end Go.Proofs.YtggeknhggpdpkaaGreatDoor

/-
  Texts of the proof, one behind the other: Crt.
-/
import Derived.Test.YtfnkokfkhjdkfaaDoorM13
import Derived.Test.YtfnkokfkhjdkfaaDoorM8
import Derived.Great.BuildSlice
/-
  Contracts of high, To and From, of the document's answer.
-/
namespace Go.Proofs.YtfnkokfkhjdkfaaDoor
open Go.RowKit Go.Lib

theorem odd_one : (oddTab.map (Value.int .i32)).toArray.all (·.oneCell') = true := by kernel_rfl
set_option maxRecDepth 100000 in
theorem high_any (w : World) :
    Calls Tryd.prog 95 #[] w fun e w' => e = .returned (.agg (oddTab.map (Value.int .i32)).toArray) ∧ w' = w.alloc (.cells (oddTab.map (Value.int .i32)).toArray 131) := by
  go_enter Tryd.func95, Tryd.ntmps95
  go_wp2_with (first
    | refine wpList_buildFlatArr rfl 131 21 32 _ rfl .i32 oddTab Tryd.underlying131 (by kernel_rfl) (by kernel_rfl) (by kernel_rfl) ?_
    | refine wpList_store_row rfl 131 _ _ rfl w.heap.size (oddTab.map (Value.int .i32)).toArray rfl rfl 131 _ (heap_alloc_last w _) infoOdd rfl odd_one ?_)
  rw [World.setRow_alloc_new]
  refine bodyPost_ret (results_cell_row rfl _ _ w.heap.size 131 _ (0, 0) _ rfl (heap_alloc_last w _) Tryd.underlying131 rfl infoOdd) rfl ⟨rfl, rfl⟩

set_option maxRecDepth 100000 in
theorem rto_own1 (r : Int) (w : World) (h : ownC r = true) :
    Calls Tryd.prog 84 #[.int .i32 r] w fun e w' => e = .returned (.tuple #[.int .u8 (toN r).1, .bool (toN r).2]) ∧ Keeps w w' := by
  have hr := (own_iff r).1 h
  have hn : ((r.toNat : Nat) : Int) = r := by omega
  rw [toN_own h]
  clear h
  rcases hr with ⟨h1, h2⟩ | ⟨h1, h2⟩
  · go_enter Tryd.func84, Tryd.ntmps84
    go_wp2_with fail
    go_ret2
    exact ⟨by dsimp only; rw [hn]; rfl, Keeps.refl w⟩
  · go_enter Tryd.func84, Tryd.ntmps84
    go_wp2_with fail
    go_ret2
    exact ⟨by dsimp only; rw [hn]; rfl, Keeps.refl w⟩
/-- A copy of the table, of the call's own. -/
theorem copy_cell (w : World) (k : Nat) (hk : k < 32) : (w.alloc (.cells (oddTab.map (Value.int .i32)).toArray 131)).cell? ⟨w.heap.size, k, none⟩ = some (.int .i32 (oddTab.getD k 0)) := by
  have h2 : k < oddTab.length := hk
  rw [World.cell?_alloc_new, List.getElem?_toArray, List.getElem?_map, List.getElem?_eq_getElem h2, List.getD, List.getElem?_eq_getElem h2]; rfl
theorem heap_two (w : World) (o o2 : Obj) : ((w.alloc o).alloc o2).heap[w.heap.size + 1]? = some o2 := by
  have := heap_alloc_last (w.alloc o) o2
  simpa using this
theorem setRow_two (w : World) (o : Obj) (c c' : Array Value) (t : TypeId) : ((w.alloc o).alloc (.cells c t)).setRow (w.heap.size + 1) c' = (w.alloc o).alloc (.cells c' t) := by
  have := World.setRow_alloc_new (w.alloc o) c c' t
  simpa using this
set_option maxRecDepth 100000 in
set_option maxHeartbeats 400000 in
theorem rto_odd (r : Int) (w : World) (h : ownC r = false) :
    Calls Tryd.prog 84 #[.int .i32 r] w fun e w' => e = .returned (.tuple #[.int .u8 (toN r).1, .bool (toN r).2]) ∧ Keeps w w' := by
  have HI := Lib.hid (high_any w)
  have H0 := Lib.hid h
  have h1 : r < 32 ∨ (126 < r ∧ r < 160) ∨ 255 < r := by
    have : ¬ ((32 ≤ r ∧ r ≤ 126) ∨ (160 ≤ r ∧ r ≤ 255)) := fun e => by rw [(own_iff r).2 e] at h; cases h
    omega
  clear h
  have CP := Lib.hid (fun o : Obj => copy_cell (w.alloc o))
  have IO := Lib.hid (show (Tryd.prog.info? 131).map (·.size) = some (oddTab.map (Value.int .i32)).toArray.size from infoOdd)
  have SZ := Lib.hid (show 32 = (oddTab.map (Value.int .i32)).toArray.size from rfl)
  have O1 := Lib.hid odd_one
  generalize (oddTab.map (Value.int .i32)).toArray = T at *
  have CQ := Lib.hid (fun (o : Obj) k hk => (by have := CP.out o k hk; simpa using this : ((w.alloc o).alloc (.cells T 131)).cell? ⟨w.heap.size + 1, k, none⟩ = some (.int .i32 (oddTab.getD k 0))))
  have KP := Lib.hid (fun (o : Obj) => ((Keeps.refl w).alloc o).alloc (.cells T 131))
  clear CP
  obtain ⟨o, ho⟩ : ∃ o, Obj.cells T 131 = o := ⟨_, rfl⟩
  rw [ho] at HI
  rcases h1 with h1 | ⟨h1, h2⟩ | h1
  all_goals
    go_enter Tryd.func84, Tryd.ntmps84
    go_wp2_with fail
    refine HI.out.mono ?_
    rintro e w1 ⟨rfl, rfl⟩
    go_wp2_with (refine wpList_store_row rfl 131 _ _ rfl (w.heap.size + 1) T rfl rfl 131 _ (heap_two _ _ _) IO.out SZ.out O1.out ?_)
    rw [setRow_two]
    have CR := Lib.hid (CQ.out o)
    have KR := Lib.hid (KP.out o)
    generalize (w.alloc o).alloc (.cells T 131) = wc at *
    clear CQ KP ho
    go_loop [5] (fun i => ∃ k : Nat, k ≤ 32 ∧ Hid (∀ j, j < k → oddTab.getD j 0 = r → r = 0) ∧ i = .int .i64 k) (fun i => 32 - (RowKit.intOf i).toNat)
    case atStart => exact ⟨0, by omega, Lib.hid (fun j hj => absurd hj (Nat.not_lt_zero _)), rfl⟩
    case round =>
      obtain ⟨k, hk, HN, rfl⟩ := hrel
      by_cases c : k < 32
      · have hix := CR.out k c
        obtain ⟨z, hz⟩ : ∃ z, oddTab.getD k 0 = z := ⟨_, rfl⟩
        rw [hz] at hix
        have HZE := Lib.hid hz
        clear hz
        by_cases c1 : z = r
        · subst c1
          by_cases c2 : z = 0
          · subst c2
            first
              | omega
              | (go_wp2_with fail
                 go_round
                 case rel => exact ⟨k + 1, by omega, Lib.hid (fun _ _ _ => trivial), by go_num⟩
                 case measure => simp [RowKit.intOf]; omega)
          · have t2 : (z == 0) = false := beq_eq_false_iff_ne.2 c2
            have HE := Lib.hid (toN_odd c HZE.out c2)
            go_wp2_with fail
            go_ret2
            exact ⟨by rw [HE.out]; rfl, KR.out⟩
        · have t1 : (z == r) = false := beq_eq_false_iff_ne.2 c1
          go_wp2_with fail
          go_round
          case rel => exact ⟨k + 1, by omega, Lib.hid (fun j hj e => by
            rcases Nat.lt_or_ge j k with h' | h'
            · exact HN.out j h' e
            · obtain rfl : j = k := by omega
              exact absurd (HZE.out.symm.trans e) c1), by go_num⟩
          case measure => simp [RowKit.intOf]; omega
      · have HE := Lib.hid (toN_none H0.out (fun j hj e => HN.out j (by omega) e))
        go_wp2_with fail
        go_ret2
        exact ⟨by rw [HE.out]; rfl, KR.out⟩
theorem rto_any (r : Int) (w : World) :
    Calls Tryd.prog 84 #[.int .i32 r] w fun e w' => e = .returned (.tuple #[.int .u8 (toN r).1, .bool (toN r).2]) ∧ Keeps w w' := by
  cases h : ownC r with
  | true => exact rto_own1 r w h
  | false => exact rto_odd r w h

end Go.Proofs.YtfnkokfkhjdkfaaDoor


/-
  Texts of the proof, one behind the other: It1.
-/
import Derived.Test.YtfnkokfkhjdkfaaDoorM17
import Derived.Test.YtfnkokfkhjdkfaaDoorM18
/-
  Contract of style.box, of the package item.
-/
namespace Go.Proofs.YtfnkokfkhjdkfaaDoor
open Go.RowKit Go.Lib Go.Maps

set_option linter.unusedSimpArgs false in
set_option maxRecDepth 100000 in
set_option maxHeartbeats 4000000 in
theorem box_any (sz : Int) (s : Sty) (c : ByteArray) (w : World) (hc : c.size ≤ 100000) (h1 : 0 ≤ sz) (h2 : sz ≤ 2147483648) (hF : Fnt w) :
    Calls Tryd.prog 52 #[styV sz s, .string c] w fun e w' => e = .returned (.agg #[.int .i64 1, .int .i64 (runL s.font sz c.data.toList), .int .i64 0, .int .i64 0, .int .i64 0, .string c, .int .i64 s.font, .int .i64 sz, .int .i64 s.link]) ∧ Keeps w w' := by
  obtain ⟨f, l, b⟩ := s
  have RA := Lib.hid (fun W h => run_any f sz c W hc h1 h2 h)
  have BO := Lib.hid (fun wd W => boxOf_any sz ⟨f, l, b⟩ c wd W)
  have HF := Lib.hid (fun o o2 => (hF.keep (keeps_two w o o2)).keep (Keeps.refl _).drew)
  have HK := Lib.hid (fun o o2 => (keeps_two w o o2).drew)
  clear hF
  unfold styV at *
  simp only at BO
  generalize runL f sz c.data.toList = d at *
  go_enter Tryd.func52, Tryd.ntmps52
  go_wp2_with fail
  have bs := (Blk.new w 53 #[.int .i64 f, .int .i64 sz, .int .i64 l, .bool b]).alloc (.cells zeroIt 42)
  have S0 : ((w.alloc (.cells #[.int .i64 f, .int .i64 sz, .int .i64 l, .bool b] 53)).alloc (.cells zeroIt 42)).drew.cell? ⟨w.heap.size, 0, none⟩ = some (.int .i64 f) ∧ ((w.alloc (.cells #[.int .i64 f, .int .i64 sz, .int .i64 l, .bool b] 53)).alloc (.cells zeroIt 42)).drew.cell? ⟨w.heap.size, 1, none⟩ = some (.int .i64 sz) ∧ ((w.alloc (.cells #[.int .i64 f, .int .i64 sz, .int .i64 l, .bool b] 53)).alloc (.cells zeroIt 42)).drew.cell? ⟨w.heap.size, 2, none⟩ = some (.int .i64 l) ∧ ((w.alloc (.cells #[.int .i64 f, .int .i64 sz, .int .i64 l, .bool b] 53)).alloc (.cells zeroIt 42)).drew.cell? ⟨w.heap.size, 3, none⟩ = some (.bool b) := ⟨bs.cell 0 rfl, bs.cell 1 rfl, bs.cell 2 rfl, bs.cell 3 rfl⟩
  refine region_headed (S := fun w' => w'.cell? ⟨w.heap.size, 0, none⟩ = some (.int .i64 f) ∧ w'.cell? ⟨w.heap.size, 1, none⟩ = some (.int .i64 sz) ∧ w'.cell? ⟨w.heap.size, 2, none⟩ = some (.int .i64 l) ∧ w'.cell? ⟨w.heap.size, 3, none⟩ = some (.bool b)) (n := 9) (by kernel_rfl) rfl (by kernel_rfl) ?_ (fun hH0 => ?_)
  · exact S0
  refine headed_take (i := 0) (v := ?_) rfl (by kernel_rfl) (fun _ _ _ h => h) (Or.inl ⟨by rfl, ?_⟩) hH0 ?_
  rotate_left
  · intro w hSw; (try dsimp only at hSw); go_simp; (try with_reducible rfl)
  (try simp only [Act.put, List.setIfInBounds_toArray, List.set_cons_zero, List.set_cons_succ])
  refine headed_take (i := 1) (v := ?_) rfl (by kernel_rfl) (fun _ _ _ h => h) (Or.inl ⟨by rfl, ?_⟩) hH0 ?_
  rotate_left
  · intro w hSw; (try dsimp only at hSw); go_simp; (try with_reducible rfl)
  (try simp only [Act.put, List.setIfInBounds_toArray, List.set_cons_zero, List.set_cons_succ])
  refine headed_take (i := 2) (v := ?_) rfl (by kernel_rfl) (fun _ _ _ h => h) (Or.inl ⟨by rfl, ?_⟩) hH0 ?_
  rotate_left
  · intro w hSw; (try dsimp only at hSw); go_simp; (try with_reducible rfl)
  (try simp only [Act.put, List.setIfInBounds_toArray, List.set_cons_zero, List.set_cons_succ])
  refine headed_take (i := 3) (v := ?_) rfl (by kernel_rfl) (fun _ _ _ h => h) (Or.inl ⟨by rfl, ?_⟩) hH0 ?_
  rotate_left
  · intro w hSw; (try dsimp only at hSw); go_simp; (try with_reducible rfl)
  (try simp only [Act.put, List.setIfInBounds_toArray, List.set_cons_zero, List.set_cons_succ])
  refine headed_take (i := 4) (v := ?_) rfl (by kernel_rfl) (fun _ _ _ h => h) (Or.inl ⟨by rfl, ?_⟩) hH0 ?_
  rotate_left
  · intro w hSw; (try dsimp only at hSw); go_simp; (try with_reducible rfl)
  (try simp only [Act.put, List.setIfInBounds_toArray, List.set_cons_zero, List.set_cons_succ])
  refine headed_take (i := 5) (v := ?_) rfl (by kernel_rfl) (fun _ _ _ h => h) (Or.inl ⟨by rfl, ?_⟩) hH0 ?_
  rotate_left
  · intro w hSw; (try dsimp only at hSw); go_simp; (try with_reducible rfl)
  (try simp only [Act.put, List.setIfInBounds_toArray, List.set_cons_zero, List.set_cons_succ])
  refine headed_take (i := 6) (v := ?_) rfl (by kernel_rfl) (fun _ _ _ h => h) (Or.inl ⟨by rfl, ?_⟩) hH0 ?_
  rotate_left
  · intro w hSw; (try dsimp only at hSw); go_simp; (try with_reducible rfl)
  (try simp only [Act.put, List.setIfInBounds_toArray, List.set_cons_zero, List.set_cons_succ])
  refine headed_one (i := 7) rfl (by kernel_rfl) (by kernel_rfl) (fun K hK => ?_)
  go_simp
  go_at_call 49
  (with_reducible refine (RA.out _ (HF.out _ _)).mono ?_)
  rintro e w1 ⟨rfl, rfl⟩
  refine hK.out _ _ S0 (fun hH1 => ?_)
  clear hK K
  (try simp only [Act.put, List.setIfInBounds_toArray, List.set_cons_zero, List.set_cons_succ])
  refine headed_one (i := 8) rfl (by kernel_rfl) (by kernel_rfl) (fun K hK => ?_)
  go_simp
  go_at_call 54
  (with_reducible refine (BO.out _ _).mono ?_)
  rintro e w1 ⟨rfl, k1⟩
  refine hK.out _ _ ⟨k1.cell2 S0.1, k1.cell2 S0.2.1, k1.cell2 S0.2.2.1, k1.cell2 S0.2.2.2⟩ (fun hH2 => ?_)
  clear hK K
  (try simp only [Act.put, List.setIfInBounds_toArray, List.set_cons_zero, List.set_cons_succ])
  have KK := (HK.out (.cells #[.int .i64 f, .int .i64 sz, .int .i64 l, .bool b] 53) (.cells zeroIt 42)).trans k1
  have bb : Blk w1 (w.heap.size + 1) 42 zeroIt := (blk_two w (.cells #[.int .i64 f, .int .i64 sz, .int .i64 l, .bool b] 53) 42 zeroIt).keep ((Keeps.refl _).drew.trans k1)
  refine headed_last (by kernel_rfl) ?_
  refine wpList_store_row rfl _ (.tmp 4) (.tmp 13) rfl _ #[.int .i64 1, .int .i64 d, .int .i64 0, .int .i64 0, .int .i64 0, .string c, .int .i64 f, .int .i64 sz, .int .i64 l] (by rfl) (by rfl) _ _ bb (by kernel_rfl) rfl (by simp [Value.oneCell']) ?_
  refine wpList_nil ?_
  have XB : Blk (w1.setRow (w.heap.size + 1) #[.int .i64 1, .int .i64 d, .int .i64 0, .int .i64 0, .int .i64 0, .string c, .int .i64 f, .int .i64 sz, .int .i64 l]) (w.heap.size + 1) 42 #[.int .i64 1, .int .i64 d, .int .i64 0, .int .i64 0, .int .i64 0, .string c, .int .i64 f, .int .i64 sz, .int .i64 l] := setRow_heap _ _ _ _ _ _ bb
  have KF : Keeps w (w1.setRow (w.heap.size + 1) #[.int .i64 1, .int .i64 d, .int .i64 0, .int .i64 0, .int .i64 0, .string c, .int .i64 f, .int .i64 sz, .int .i64 l]) := keeps_row KK (Nat.le_succ _)
  generalize w1.setRow (w.heap.size + 1) #[.int .i64 1, .int .i64 d, .int .i64 0, .int .i64 0, .int .i64 0, .string c, .int .i64 f, .int .i64 sz, .int .i64 l] = w2 at *
  go_wp2_with fail
  exact ret_blk rfl rfl rfl XB Tryd.underlying42 (by kernel_rfl) ⟨rfl, KF⟩
end Go.Proofs.YtfnkokfkhjdkfaaDoor


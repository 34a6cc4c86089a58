/-
  Texts of the proof, one behind the other: Sps.
-/
import Derived.Test.YtfnkokfkhjdkfaaDoorM38
import Derived.Test.YtfnkokfkhjdkfaaDoorM37
import Derived.Test.YtfnkokfkhjdkfaaDoorM31
/-
  Contract of the document's Split, of what Make tells.
-/
namespace Go.Proofs.YtfnkokfkhjdkfaaDoor
open Go.RowKit Go.Lib Go.Maps

/-- Where the document's Split stands: at item k, with its told so far, U of the width used. -/
structure SpD (w0 W : World) (wd : Int) (l : List It) (k : Nat) (v : Value) (its : List It) (U : Int) : Prop where
  row : ItsAt w0.heap.size W v its
  keep : Keeps w0 W
  eq : splitL wd (l.drop k) (its, wd - U) = splitL wd l ([], wd)
  u0 : 0 ≤ U
  u1 : U ≤ wd + 217969590200000
  few : its.length + wI (l.drop k) ≤ wI l
/-- Where it stands within a box, which lies at X. -/
structure InD (w0 W : World) (X : Nat) (wd f sz lk : Int) (fin : List It × Int) (N : Nat) (v : Value) (c : List UInt8) (cs : ByteArray) (its : List It) (U : Int) (m : Nat) : Prop where
  row : ItsAt w0.heap.size W v its
  keep : Keeps w0 W
  box : Blk W X 42 #[.int .i64 1, .int .i64 (runL f sz c), .int .i64 0, .int .i64 0, .int .i64 0, .string cs, .int .i64 f, .int .i64 sz, .int .i64 lk]
  codes : cs = ⟨c.toArray⟩
  low : w0.heap.size ≤ X
  ne : v.ownBlock ≠ some X
  eq : partL wd f sz lk m c (its, wd - U) = fin
  gas : 2 * c.length + (if U = 0 then 0 else 1) < m
  some : c ≠ []
  len : c.length ≤ 100000
  u0 : 0 ≤ U
  u1 : U ≤ wd + 217969590200000
  few : its.length + 2 * m ≤ N
theorem nine_set {W : World} {X : Nat} {t : TypeId} {a0 a1 a2 a3 a4 a5 a6 a7 a8 : Value} (h : Blk W X t #[a0, a1, a2, a3, a4, a5, a6, a7, a8]) (v0 v1 v2 v3 v4 v5 v6 v7 v8 : Value) :
    Blk (((((((((W.setCell ⟨X, 0, none⟩ v0).setCell ⟨X, 1, none⟩ v1).setCell ⟨X, 2, none⟩ v2).setCell ⟨X, 3, none⟩ v3).setCell ⟨X, 4, none⟩ v4).setCell ⟨X, 5, none⟩ v5).setCell ⟨X, 6, none⟩ v6).setCell ⟨X, 7, none⟩ v7).setCell ⟨X, 8, none⟩ v8) X t #[v0, v1, v2, v3, v4, v5, v6, v7, v8] := by
  have h1 : Blk (W.setCell ⟨X, 0, none⟩ v0) X t #[v0, a1, a2, a3, a4, a5, a6, a7, a8] := h.set 0 v0 rfl
  have h2 : Blk ((W.setCell ⟨X, 0, none⟩ v0).setCell ⟨X, 1, none⟩ v1) X t #[v0, v1, a2, a3, a4, a5, a6, a7, a8] := h1.set 1 v1 rfl
  have h3 : Blk (((W.setCell ⟨X, 0, none⟩ v0).setCell ⟨X, 1, none⟩ v1).setCell ⟨X, 2, none⟩ v2) X t #[v0, v1, v2, a3, a4, a5, a6, a7, a8] := h2.set 2 v2 rfl
  have h4 : Blk ((((W.setCell ⟨X, 0, none⟩ v0).setCell ⟨X, 1, none⟩ v1).setCell ⟨X, 2, none⟩ v2).setCell ⟨X, 3, none⟩ v3) X t #[v0, v1, v2, v3, a4, a5, a6, a7, a8] := h3.set 3 v3 rfl
  have h5 : Blk (((((W.setCell ⟨X, 0, none⟩ v0).setCell ⟨X, 1, none⟩ v1).setCell ⟨X, 2, none⟩ v2).setCell ⟨X, 3, none⟩ v3).setCell ⟨X, 4, none⟩ v4) X t #[v0, v1, v2, v3, v4, a5, a6, a7, a8] := h4.set 4 v4 rfl
  have h6 : Blk ((((((W.setCell ⟨X, 0, none⟩ v0).setCell ⟨X, 1, none⟩ v1).setCell ⟨X, 2, none⟩ v2).setCell ⟨X, 3, none⟩ v3).setCell ⟨X, 4, none⟩ v4).setCell ⟨X, 5, none⟩ v5) X t #[v0, v1, v2, v3, v4, v5, a6, a7, a8] := h5.set 5 v5 rfl
  have h7 : Blk (((((((W.setCell ⟨X, 0, none⟩ v0).setCell ⟨X, 1, none⟩ v1).setCell ⟨X, 2, none⟩ v2).setCell ⟨X, 3, none⟩ v3).setCell ⟨X, 4, none⟩ v4).setCell ⟨X, 5, none⟩ v5).setCell ⟨X, 6, none⟩ v6) X t #[v0, v1, v2, v3, v4, v5, v6, a7, a8] := h6.set 6 v6 rfl
  have h8 : Blk ((((((((W.setCell ⟨X, 0, none⟩ v0).setCell ⟨X, 1, none⟩ v1).setCell ⟨X, 2, none⟩ v2).setCell ⟨X, 3, none⟩ v3).setCell ⟨X, 4, none⟩ v4).setCell ⟨X, 5, none⟩ v5).setCell ⟨X, 6, none⟩ v6).setCell ⟨X, 7, none⟩ v7) X t #[v0, v1, v2, v3, v4, v5, v6, v7, a8] := h7.set 7 v7 rfl
  have h9 : Blk (((((((((W.setCell ⟨X, 0, none⟩ v0).setCell ⟨X, 1, none⟩ v1).setCell ⟨X, 2, none⟩ v2).setCell ⟨X, 3, none⟩ v3).setCell ⟨X, 4, none⟩ v4).setCell ⟨X, 5, none⟩ v5).setCell ⟨X, 6, none⟩ v6).setCell ⟨X, 7, none⟩ v7).setCell ⟨X, 8, none⟩ v8) X t #[v0, v1, v2, v3, v4, v5, v6, v7, v8] := h8.set 8 v8 rfl
  exact h9
theorem nine_other (W : World) (X : Nat) (v0 v1 v2 v3 v4 v5 v6 v7 v8 : Value) : ∀ b, b ≠ X → (((((((((W.setCell ⟨X, 0, none⟩ v0).setCell ⟨X, 1, none⟩ v1).setCell ⟨X, 2, none⟩ v2).setCell ⟨X, 3, none⟩ v3).setCell ⟨X, 4, none⟩ v4).setCell ⟨X, 5, none⟩ v5).setCell ⟨X, 6, none⟩ v6).setCell ⟨X, 7, none⟩ v7).setCell ⟨X, 8, none⟩ v8).heap[b]? = W.heap[b]? := fun b hb => by
  simp only [heap_setCell_other _ ⟨X, _, none⟩ b _ hb]
theorem nine_keep {w W : World} {X : Nat} (h : Keeps w W) (hX : w.heap.size ≤ X) (v0 v1 v2 v3 v4 v5 v6 v7 v8 : Value) : Keeps w (((((((((W.setCell ⟨X, 0, none⟩ v0).setCell ⟨X, 1, none⟩ v1).setCell ⟨X, 2, none⟩ v2).setCell ⟨X, 3, none⟩ v3).setCell ⟨X, 4, none⟩ v4).setCell ⟨X, 5, none⟩ v5).setCell ⟨X, 6, none⟩ v6).setCell ⟨X, 7, none⟩ v7).setCell ⟨X, 8, none⟩ v8) :=
  ((((((((h.set hX 0 v0).set hX 1 v1).set hX 2 v2).set hX 3 v3).set hX 4 v4).set hX 5 v5).set hX 6 v6).set hX 7 v7).set hX 8 v8
def strN : Option Value → Nat
  | some (.string b) => b.size
  | _ => 0
def isNot0 : Value → Nat
  | .int _ n => if n = 0 then 0 else 1
  | _ => 0
theorem codes_data {c : List UInt8} {cs : ByteArray} (h : cs = ⟨c.toArray⟩) : cs.data.toList = c := by subst h; simp
theorem codes_size {c : List UInt8} {cs : ByteArray} (h : cs = ⟨c.toArray⟩) : cs.size = c.length := by subst h; show c.toArray.size = _; simp
theorem codes_take {c : List UInt8} {cs : ByteArray} (h : cs = ⟨c.toArray⟩) (m : Nat) : cs.extract 0 m = ⟨(c.take m).toArray⟩ := by
  have : (cs.extract 0 m).data.toList = c.take m := rext_take cs c (codes_data h) m
  rw [← this, bytes_same]
theorem codes_drop {c : List UInt8} {cs : ByteArray} (h : cs = ⟨c.toArray⟩) (m : Nat) : cs.extract m cs.size = ⟨(c.drop m).toArray⟩ := by
  have : (cs.extract m cs.size).data.toList = c.drop m := by
    rw [Lib.extract_data, codes_data h, codes_size h, List.take_of_length_le (by rw [List.length_drop]; exact Nat.le_refl _)]
  rw [← this, bytes_same]
set_option maxRecDepth 100000 in
set_option maxHeartbeats 32000000 in
theorem rsplit_any (l : List It) (lv : Value) (wd sz : Int) (w : World) (hA : IsAt w l lv) (hF : FntR w) (hok : ∀ x ∈ l, mkOk sz x ∧ x.codes.length ≤ 100000) (s1 : 0 ≤ sz) (s2 : sz ≤ 2147483648) (h1 : 0 ≤ wd) (h2 : wd ≤ 1099511627776) (hw : wI l ≤ 900000) :
    Calls Tryd.prog 13 #[lv, .int .i64 wd] w fun e w' => ∃ v, e = .returned v ∧ ItsAt w.heap.size w' v (splitL wd l ([], wd)).1 ∧ Keeps w w' := by
  obtain ⟨A, cap, rfl, hc1, hc2, hg⟩ := hA
  unfold maxLen at hc2
  have HG := Lib.hid hg
  have HO := Lib.hid hok
  have HFR := Lib.hid hF
  have HP := Lib.hid (fun f lk x (cs ds : ByteArray) W1 (q : Keeps w W1) (hd : ds.size ≤ 100000) => rpart_any f sz lk x cs ds W1 hd s1 s2 (hF.keep q))
  have HRM := Lib.hid (fun x f lk r (c : List UInt8) (cs : ByteArray) (e : cs = ⟨c.toArray⟩) W1 (q : Keeps w W1) (hc : c.length ≤ 100000) => rroom_any 1 x 0 0 0 f sz lk r c cs (codes_data e) W1 hc s1 s2 (hF.keep q))
  obtain ⟨n, hn⟩ : ∃ n, l.length = n := ⟨_, rfl⟩
  have HN := Lib.hid hn
  obtain ⟨NW, hNW⟩ : ∃ NW, wI l = NW := ⟨_, rfl⟩
  have HNW := Lib.hid hNW
  have A0 : Hid (SpD w w wd l 0 (.slice none 0 0) [] 0) := Lib.hid ⟨World.ownsRow_nil _ _ _ _, Keeps.refl _, by rw [Int.sub_zero]; rfl, by omega, by omega, by show 0 + wI l ≤ wI l; omega⟩
  rw [hn] at hc1 ⊢
  rw [hNW] at hw
  clear hg hok hn hF hNW
  go_enter Tryd.func13, Tryd.ntmps13
  go_wp2_with fail
  go_loopw [5, 6, 7] (fun u y z wr => ∃ (k : Nat) (its : List It) (U : Int) (A5 : Option Addr) (c5 : Nat), k ≤ n ∧ u = .slice A5 its.length c5 ∧ y = .int .i64 U ∧ z = .int .i64 k ∧ Hid (SpD w wr wd l k (.slice A5 its.length c5) its U)) (fun _ _ z _ => n - (RowKit.intOf z).toNat)
  case atStart => exact ⟨0, [], 0, none, 0, Nat.zero_le _, rfl, rfl, rfl, A0⟩
  case round =>
    obtain ⟨k, its, U, A5, c5, hk, rfl, rfl, rfl, HS⟩ := hrel
    by_cases c : k < n
    · obtain ⟨g, o, rfl, hcell⟩ := HG.out (by rw [HN.out]; omega)
      have hk' : k < l.length := by rw [HN.out]; exact c
      have HR := range_same (hcell k hk') (HS.out.keep.block g (range_lt (hcell k hk') (by rw [itC_len]; decide)))
      have hxo := HO.out l[k] (List.getElem_mem hk')
      have HD := split_drop (wd := wd) (p := (its, wd - U)) hk'
      have HW := wI_drop hk'
      have hfew := HS.out.few
      have hu0 := HS.out.u0
      have hu1 := HS.out.u1
      rw [HW, HNW.out] at hfew
      rw [HS.out.eq] at HD
      clear hcell HW
      have HX : ∃ x, x = l[k] := ⟨_, rfl⟩
      obtain ⟨x, hx⟩ := HX
      rw [← hx] at HR hxo HD hfew
      clear hx
      obtain ⟨hmk, hcl⟩ := hxo
      have t1 : decide ((k : Int) < (n : Int)) = true := decide_eq_true (by omega)
      have t2 : decide (k < n) = true := decide_eq_true (by omega)
      have k0 : (0 : Int) ≤ (k : Int) := by omega
      have k1 : (k : Int) < (n : Int) := by omega
      rcases hmk with ⟨hk1, hc0, _, _⟩ | ⟨he, hne⟩
      · rw [if_pos hk1] at HD
        obtain ⟨x1, x2, x3, x4, x5, c', x7, x8, x9⟩ := x
        simp only at hk1 hc0 hfew hcl
        subst hc0
        have y0 : wr.cell? ⟨g, o + k * 9, none⟩ = some (.int .i64 x1) := HR 0 _ rfl
        have y1 : wr.cell? ⟨g, o + k * 9 + 1, none⟩ = some (.int .i64 x2) := HR 1 _ rfl
        have y2 : wr.cell? ⟨g, o + k * 9 + 2, none⟩ = some (.int .i64 x3) := HR 2 _ rfl
        have y3 : wr.cell? ⟨g, o + k * 9 + 3, none⟩ = some (.int .i64 x4) := HR 3 _ rfl
        have y4 : wr.cell? ⟨g, o + k * 9 + 4, none⟩ = some (.int .i64 x5) := HR 4 _ rfl
        have y5 : wr.cell? ⟨g, o + k * 9 + 5, none⟩ = some (.string ⟨#[]⟩) := HR 5 _ rfl
        have y6 : wr.cell? ⟨g, o + k * 9 + 6, none⟩ = some (.int .i64 x7) := HR 6 _ rfl
        have y7 : wr.cell? ⟨g, o + k * 9 + 7, none⟩ = some (.int .i64 x8) := HR 7 _ rfl
        have y8 : wr.cell? ⟨g, o + k * 9 + 8, none⟩ = some (.int .i64 x9) := HR 8 _ rfl
        have tk : (x1 == 1) = false := beqF hk1
        have tn : (x1 != 1) = true := by rw [bne_iff_ne]; exact hk1
        have KX := HS.out.keep.alloc (.cells #[.int .i64 x1, .int .i64 x2, .int .i64 x3, .int .i64 x4, .int .i64 x5, .string ⟨#[]⟩, .int .i64 x7, .int .i64 x8, .int .i64 x9] 42)
        obtain ⟨A8, cap8, w8, ra, R8, K8, _, _⟩ := its_made (w0 := w) (HS.out.row.keep ((Keeps.refl wr).alloc (.cells #[.int .i64 x1, .int .i64 x2, .int .i64 x3, .int .i64 x4, .int .i64 x5, .string ⟨#[]⟩, .int .i64 x7, .int .i64 x8, .int .i64 x9] 42))) KX ⟨x1, x2, x3, x4, x5, [], x7, x8, x9⟩ (by omega)
        rw [show (wr.alloc (.cells #[.int .i64 x1, .int .i64 x2, .int .i64 x3, .int .i64 x4, .int .i64 x5, .string ⟨#[]⟩, .int .i64 x7, .int .i64 x8, .int .i64 x9] 42)).heap.size = wr.heap.size + 1 by simp] at ra
        simp only at ra
        have el : (its ++ [(⟨x1, x2, x3, x4, x5, [], x7, x8, x9⟩ : It)]).length = its.length + 1 := by simp
        have FIN : Hid (SpD w w8 wd l (k + 1) (.slice A8 (its.length + 1) cap8) (its ++ [⟨x1, x2, x3, x4, x5, [], x7, x8, x9⟩]) 0) := Lib.hid ⟨R8, K8, by rw [Int.sub_zero]; exact HD.symm, by omega, by omega, by rw [el, HNW.out]; simp only [List.length_nil] at hfew; omega⟩
        clear HR HD hfew R8 K8 KX
        go_wp2_with (at_builtin; refine wpList_append_run rfl (.tmp 23) (.tmp 25) _ _ rfl _ _ (by rfl) (by rfl) _ _ ra ?_)
        go_roundw
        case rel => exact ⟨k + 1, _, 0, A8, cap8, by omega, by rw [el], rfl, by go_num, by rw [el]; exact FIN⟩
        case measure => simp only [RowKit.intOf]; omega
      · --BOX
        rw [if_neg (by rw [he]; simp [bxP]), if_neg hne] at HD
        obtain ⟨x1, x2, x3, x4, x5, c0, f, x8, lk⟩ := x
        unfold bxP at he
        simp only [It.mk.injEq, true_and, and_true] at he
        obtain ⟨rfl, hx2, rfl, rfl, rfl, rfl⟩ := he
        simp only at hne hcl HD hfew
        obtain ⟨cs, hcs⟩ : ∃ cs : ByteArray, cs = ⟨c0.toArray⟩ := ⟨_, rfl⟩
        obtain ⟨fin, hfin⟩ : ∃ fin, partL wd f x8 lk (2 * c0.length + 2) c0 (its, wd - U) = fin := ⟨_, rfl⟩
        rw [hfin] at HD
        obtain ⟨f1, f2, f3⟩ := part_len (f := f) (lk := lk) s1 s2 h1 (2 * c0.length + 2) c0 (its, wd - U) hcl (by show _ ≤ wd - U; omega) (by show wd - U ≤ wd; omega)
        rw [hfin] at f1 f2 f3
        simp only at f1
        unfold itC at HR
        simp only at HR
        rw [← hcs] at HR
        have HFD := Lib.hid (fun (W1 : World) (v1 : Value) (r : ItsAt w.heap.size W1 v1 fin.1) (q : Keeps w W1) (U1 : Int) (e : wd - U1 = fin.2) => (⟨r, q, by rw [e]; exact HD.symm, by omega, by omega, by rw [HNW.out]; omega⟩ : SpD w W1 wd l (k + 1) v1 fin.1 U1))
        have I0 : Hid (InD w (wr.alloc (.cells #[.int .i64 1, .int .i64 x2, .int .i64 0, .int .i64 0, .int .i64 0, .string cs, .int .i64 f, .int .i64 x8, .int .i64 lk] 42)) wr.heap.size wd f x8 lk fin (its.length + 2 * (2 * c0.length + 2)) (.slice A5 its.length c5) c0 cs its U (2 * c0.length + 2)) := Lib.hid ⟨HS.out.row.keep ((Keeps.refl _).alloc _), HS.out.keep.alloc _, by rw [← hx2]; exact Blk.new _ _ _, hcs, HS.out.keep.size, fun e => by have := (World.ownsRow.lt HS.out.row _ e).2; omega, hfin, by split <;> omega, hne, hcl, hu0, hu1, Nat.le_refl _⟩
        have HNM : its.length + 2 * (2 * c0.length + 2) ≤ NW := by omega
        have y0 : wr.cell? ⟨g, o + k * 9, none⟩ = some (.int .i64 1) := by have := HR 0 _ rfl; exact this
        have y1 : wr.cell? ⟨g, o + k * 9 + 1, none⟩ = some (.int .i64 x2) := by have := HR 1 _ rfl; exact this
        have y2 : wr.cell? ⟨g, o + k * 9 + 2, none⟩ = some (.int .i64 0) := by have := HR 2 _ rfl; exact this
        have y3 : wr.cell? ⟨g, o + k * 9 + 3, none⟩ = some (.int .i64 0) := by have := HR 3 _ rfl; exact this
        have y4 : wr.cell? ⟨g, o + k * 9 + 4, none⟩ = some (.int .i64 0) := by have := HR 4 _ rfl; exact this
        have y5 : wr.cell? ⟨g, o + k * 9 + 5, none⟩ = some (.string cs) := by have := HR 5 _ rfl; exact this
        have y6 : wr.cell? ⟨g, o + k * 9 + 6, none⟩ = some (.int .i64 f) := by have := HR 6 _ rfl; exact this
        have y7 : wr.cell? ⟨g, o + k * 9 + 7, none⟩ = some (.int .i64 x8) := by have := HR 7 _ rfl; exact this
        have y8 : wr.cell? ⟨g, o + k * 9 + 8, none⟩ = some (.int .i64 lk) := by have := HR 8 _ rfl; exact this
        generalize hN0 : its.length + 2 * (2 * c0.length + 2) = N0 at *
        clear hN0 HR HD hfew hfin hcs hne hx2 hcl f1 f2 f3
        obtain ⟨X, hX⟩ : ∃ X, wr.heap.size = X := ⟨_, rfl⟩
        rw [hX] at I0
        go_wp2_with fail
        go_loopw [5, 6] (fun u y wq => ∃ (c1 : List UInt8) (cs1 : ByteArray) (its1 : List It) (U1 : Int) (A1 : Option Addr) (cp1 m : Nat), u = .slice A1 its1.length cp1 ∧ y = .int .i64 U1 ∧ Hid (InD w wq X wd f x8 lk fin N0 (.slice A1 its1.length cp1) c1 cs1 its1 U1 m)) (fun _ y wq => 2 * strN (wq.cell? ⟨X, 5, none⟩) + isNot0 y)
        case atStart => exact ⟨c0, cs, its, U, A5, c5, _, rfl, rfl, I0⟩
        case round =>
          obtain ⟨c1, cs1, its1, U1, A1, cp1, m, rfl, rfl, HI⟩ := hrel
          obtain ⟨v0, v1⟩ := And.intro HI.out.u0 HI.out.u1
          have hlen := HI.out.len
          have hfw := HI.out.few
          have hgas := HI.out.gas
          have hdn := run_nonneg (f := f) s1 c1
          have hdl := run_le (f := f) s1 s2 c1
          have hbox := HI.out.box
          have hcz := codes_size HI.out.codes
          have hpos := List.length_pos_iff.2 HI.out.some
          obtain ⟨m1, rfl⟩ : ∃ m1, m = m1 + 1 := ⟨m - 1, by omega⟩
          have te : cs1.toList.isEmpty = false := by rw [List.isEmpty_eq_false_iff, Lib.toList_data, codes_data HI.out.codes]; exact HI.out.some
          have te2 : (cs1.toList == []) = false := by
            cases h : cs1.toList with
            | nil => rw [h] at te; cases te
            | cons _ _ => rfl
          have hXl := hbox.lt
          have hne1 : some X ≠ (Value.slice A1 its1.length cp1).ownBlock := fun e => HI.out.ne e.symm
          obtain ⟨dd, hdd⟩ : ∃ dd, runL f x8 c1 = dd := ⟨_, rfl⟩
          have HDD := Lib.hid hdd
          rw [hdd] at hdn hdl hbox
          by_cases a1 : dd ≤ wd - U1
          · have u1 : decide (wd < U1 + dd) = false := decide_eq_false (by omega)
            have FP := part_stand (wd := wd) (lk := lk) (n := m1) (p := (its1, wd - U1)) (c := c1) (f := f) (sz := x8) (by rw [hdd]; exact a1)
            rw [HI.out.eq, hdd] at FP
            obtain ⟨A8, cap8, w8, ra, R8, K8, F8, _⟩ := its_made (w0 := w) HI.out.row HI.out.keep (bxP f x8 lk c1) (by omega)
            unfold bxP at ra
            simp only at ra
            rw [hdd, ← HI.out.codes] at ra
            have b8 : Blk w8 X 42 #[.int .i64 1, .int .i64 dd, .int .i64 0, .int .i64 0, .int .i64 0, .string cs1, .int .i64 f, .int .i64 x8, .int .i64 lk] := by
              unfold Blk
              rw [F8 _ hXl hne1]
              exact hbox
            have z1 := b8.cell 1 (v := .int .i64 dd) rfl
            have bb0 := hbox.cell 0 (v := .int .i64 1) rfl
            have bb1 := hbox.cell 1 (v := .int .i64 dd) rfl
            have bb2 := hbox.cell 2 (v := .int .i64 0) rfl
            have bb3 := hbox.cell 3 (v := .int .i64 0) rfl
            have bb4 := hbox.cell 4 (v := .int .i64 0) rfl
            have bb5 := hbox.cell 5 (v := .string cs1) rfl
            have bb6 := hbox.cell 6 (v := .int .i64 f) rfl
            have bb7 := hbox.cell 7 (v := .int .i64 x8) rfl
            have bb8 := hbox.cell 8 (v := .int .i64 lk) rfl
            have el : (its1 ++ [bxP f x8 lk c1]).length = its1.length + 1 := by simp
            have e1 : fin.1 = its1 ++ [bxP f x8 lk c1] := by rw [FP]
            have FIN : Hid (SpD w w8 wd l (k + 1) (.slice A8 (its1.length + 1) cap8) fin.1 (U1 + dd)) := Lib.hid (HFD.out w8 _ (by rw [e1]; exact R8) K8 (U1 + dd) (by rw [FP]; show wd - (U1 + dd) = wd - U1 - dd; omega))
            have EL : Hid (its1.length + 1 = fin.1.length) := Lib.hid (by rw [e1, el])
            clear FP R8 K8 F8 b8 hdd HI el e1 hbox hgas hne1 hpos hdl
            go_wp2_with (at_builtin; refine wpList_append_run rfl (.tmp 90) (.tmp 92) _ _ rfl _ _ (by rfl) (by rfl) _ _ ra ?_)
            go_roundw
            case rel => exact ⟨k + 1, fin.1, U1 + dd, A8, cap8, by omega, by rw [EL.out], by go_num, by go_num, by rw [← EL.out]; exact FIN⟩
            case measure => simp only [RowKit.intOf]; omega
          · have u1 : decide (wd < U1 + dd) = true := decide_eq_true (by omega)
            have u2 : decide ((0 : Int) < (cs1.size : Int)) = true := decide_eq_true (by omega)
            have u3 : decide (0 < cs1.size) = true := decide_eq_true (by omega)
            have HQ := Lib.hid (HRM.out dd f lk (wd - U1) c1 cs1 HI.out.codes _ HI.out.keep hlen)
            have ha1 : ¬ runL f x8 c1 ≤ wd - U1 := by rw [hdd]; exact a1
            have bb0 := hbox.cell 0 (v := .int .i64 1) rfl
            have bb1 := hbox.cell 1 (v := .int .i64 dd) rfl
            have bb2 := hbox.cell 2 (v := .int .i64 0) rfl
            have bb3 := hbox.cell 3 (v := .int .i64 0) rfl
            have bb4 := hbox.cell 4 (v := .int .i64 0) rfl
            have bb5 := hbox.cell 5 (v := .string cs1) rfl
            have bb6 := hbox.cell 6 (v := .int .i64 f) rfl
            have bb7 := hbox.cell 7 (v := .int .i64 x8) rfl
            have bb8 := hbox.cell 8 (v := .int .i64 lk) rfl
            go_wp2_with fail
            refine HQ.out.mono ?_
            rintro e w2 ⟨nn, rfl, q1, q2, q3, k2⟩
            have FT := room_fit (wd := wd) (f := f) (sz := x8) (r := wd - U1) HI.out.some (by omega) (by omega) q1 q2 q3
            have KW2 := Lib.hid (HI.out.keep.trans k2)
            have R2 := Lib.hid (HI.out.row.keep k2)
            have B2 := hbox.keep k2
            have hX2 := B2.lt
            clear q2 q3 HQ k2 bb0 bb1 bb2 bb3 bb4 bb5 bb6 bb7 bb8
            by_cases n0 : nn = 0
            · by_cases n1 : U1 = 0
              · obtain ⟨kn, hkn⟩ : ∃ kn : Nat, kn = 1 := ⟨1, rfl⟩
                have tt1 : ((nn : Int) == 0) = true := beqT (by omega)
                have tt2 : (U1 == 0) = true := beqT n1
                have hK0 : 0 < kn := by omega
                have hKl : kn ≤ c1.length := by omega
                have hKs : kn ≤ cs1.size := by omega
                have hfit : fitN wd f x8 c1 (wd - U1) = kn := by rw [← FT, if_pos ⟨n0, by omega⟩, hkn]
                have hKne : ¬ fitN wd f x8 c1 (wd - U1) = 0 := by omega
                have hroom := fit_room (f := f) s1 hKne
                obtain ⟨ca, hca⟩ : ∃ ca : ByteArray, cs1.extract 0 1 = ca := ⟨_, rfl⟩
                obtain ⟨cb, hcb⟩ : ∃ cb : ByteArray, cs1.extract 1 cs1.size = cb := ⟨_, rfl⟩
                have eca : ca = ⟨(c1.take kn).toArray⟩ := by rw [← hca, hkn]; exact codes_take HI.out.codes _
                have ecb : cb = ⟨(c1.drop kn).toArray⟩ := by rw [← hcb, hkn]; exact codes_drop HI.out.codes _
                have hla := codes_size eca
                have hlb := codes_size ecb
                rw [List.length_take] at hla
                rw [List.length_drop] at hlb
                obtain ⟨da, hda⟩ : ∃ da, runL f x8 (c1.take kn) = da := ⟨_, rfl⟩
                obtain ⟨db, hdb⟩ : ∃ db, runL f x8 (c1.drop kn) = db := ⟨_, rfl⟩
                have hda0 := run_nonneg (f := f) s1 (c1.take kn)
                have hda1 := run_le (f := f) s1 s2 (c1.take kn)
                rw [hda] at hda0 hda1
                rw [List.length_take] at hda1
                have hda2 : da ≤ 217969590200000 := by omega
                clear hda1
                have HPA := Lib.hid (fun W1 (q : Keeps w2 W1) => HP.out f lk dd cs1 ca W1 (KW2.out.trans q) (by omega))
                have HPB := Lib.hid (fun W1 (q : Keeps w W1) => HP.out f lk dd cs1 cb W1 q (by omega))
                rw [codes_data eca, hda] at HPA
                rw [codes_data ecb, hdb] at HPB
                have HMA : Hid (∀ w3 : World, Keeps w2 w3 → ∃ A8 cap8 w8, (Builtin.append_ #[27, 27] 27 #[.slice A1 its1.length cp1, .slice (some ⟨w3.heap.size, 0, none⟩) 1 1]).run Tryd.prog (w3.alloc (.cells #[.int .i64 1, .int .i64 da, .int .i64 0, .int .i64 0, .int .i64 0, .string ca, .int .i64 f, .int .i64 x8, .int .i64 lk] 42)) = .ok (.slice A8 (its1.length + 1) cap8) w8 ∧
                    ItsAt w.heap.size w8 (.slice A8 (its1.length + 1) cap8) (its1 ++ [bxP f x8 lk (c1.take kn)]) ∧ Keeps w w8 ∧ Blk w8 X 42 #[.int .i64 1, .int .i64 dd, .int .i64 0, .int .i64 0, .int .i64 0, .string cs1, .int .i64 f, .int .i64 x8, .int .i64 lk] ∧ (Value.slice A8 (its1.length + 1) cap8).ownBlock ≠ some X) := Lib.hid (fun w3 q => by
                  obtain ⟨A8, cap8, w8, ra, R8, K8, F8, L8⟩ := its_made (w0 := w) (R2.out.keep q) (KW2.out.trans q) (bxP f x8 lk (c1.take kn)) (by omega)
                  have hX3 : X < w3.heap.size := by have := q.size; omega
                  unfold bxP at ra
                  simp only at ra
                  rw [hda, ← eca] at ra
                  exact ⟨A8, cap8, w8, ra, R8, K8, by unfold Blk; rw [F8 _ hX3 hne1]; exact B2.keep q, L8 _ hX3 HI.out.ne⟩)
                have tt3 : decide ((0 : Int) < 1) = true := decide_eq_true (by omega)
                have tt4 : decide (0 < 1) = true := decide_eq_true (by omega)
                have i0 : (0 : Int) ≤ 1 := by omega
                have i1 : 1 ≤ (cs1.size : Int) := by omega
                have bb0 := B2.cell 0 (v := .int .i64 1) rfl
                have bb1 := B2.cell 1 (v := .int .i64 dd) rfl
                have bb2 := B2.cell 2 (v := .int .i64 0) rfl
                have bb3 := B2.cell 3 (v := .int .i64 0) rfl
                have bb4 := B2.cell 4 (v := .int .i64 0) rfl
                have bb5 := B2.cell 5 (v := .string cs1) rfl
                have bb6 := B2.cell 6 (v := .int .i64 f) rfl
                have bb7 := B2.cell 7 (v := .int .i64 x8) rfl
                have bb8 := B2.cell 8 (v := .int .i64 lk) rfl
                have HB2 := Lib.hid B2
                have HFT := Lib.hid hfit
                have HEA := Lib.hid eca
                have HEB := Lib.hid ecb
                have HDA := Lib.hid hda
                have HDB := Lib.hid hdb
                have HCZ := Lib.hid hcz
                have HLB := Lib.hid hlb
                have HKN := Lib.hid hkn
                have HN1 := Lib.hid n1
                have HN0 := Lib.hid n0
                clear hkn n1 n0
                clear hdd B2 FT hfit hKne eca ecb hda hdb hcz hla hlb
                go_wp2_with fail
                go_region_law (first
                  | (refine step_append_run' rfl (.tmp 52) (.tmp 59) _ _ rfl _ _ (by simp [Act.eval]) (by simp [Act.eval]) _ _ ra ?_)
                  | (go_simp; go_at_call 24; (with_reducible refine (HPA.out _ (Keeps.refl _).drew).mono ?_); rintro e w3 ⟨rfl, k3⟩; have K3 := (Keeps.refl w2).drew.trans k3; obtain ⟨A8, cap8, w8, ra, R8, K8, B8, L8⟩ := HMA.out w3 K3))
                all_goals
                  have yy0 := B8.cell 0 (v := .int .i64 1) rfl
                  have yy1 := B8.cell 1 (v := .int .i64 dd) rfl
                  have yy2 := B8.cell 2 (v := .int .i64 0) rfl
                  have yy3 := B8.cell 3 (v := .int .i64 0) rfl
                  have yy4 := B8.cell 4 (v := .int .i64 0) rfl
                  have yy5 := B8.cell 5 (v := .string cs1) rfl
                  have yy6 := B8.cell 6 (v := .int .i64 f) rfl
                  have yy7 := B8.cell 7 (v := .int .i64 x8) rfl
                  have yy8 := B8.cell 8 (v := .int .i64 lk) rfl
                  go_wp2_with fail
                  go_region_law (first
                    | (go_simp; go_at_call 24; (with_reducible refine (HPB.out _ K8.drew).mono ?_); rintro e w9 ⟨rfl, k9⟩; have K9 := (Keeps.refl w8).drew.trans k9; have B9 := B8.keep K9; have zz0 := B9.cell 0 (v := .int .i64 1) rfl; have zz1 := B9.cell 1 (v := .int .i64 dd) rfl; have zz2 := B9.cell 2 (v := .int .i64 0) rfl; have zz3 := B9.cell 3 (v := .int .i64 0) rfl; have zz4 := B9.cell 4 (v := .int .i64 0) rfl; have zz5 := B9.cell 5 (v := .string cs1) rfl; have zz6 := B9.cell 6 (v := .int .i64 f) rfl; have zz7 := B9.cell 7 (v := .int .i64 x8) rfl; have zz8 := B9.cell 8 (v := .int .i64 lk) rfl; have ff0 := B9.free 0; have ff1 := B9.free 1; have ff2 := B9.free 2; have ff3 := B9.free 3; have ff4 := B9.free 4; have ff5 := B9.free 5; have ff6 := B9.free 6; have ff7 := B9.free 7; have ff8 := B9.free 8))
                  all_goals
                    have BX := nine_set B9 (.int .i64 1) (.int .i64 db) (.int .i64 0) (.int .i64 0) (.int .i64 0) (.string cb) (.int .i64 f) (.int .i64 x8) (.int .i64 lk)
                    have OX := nine_other w9 X (.int .i64 1) (.int .i64 db) (.int .i64 0) (.int .i64 0) (.int .i64 0) (.string cb) (.int .i64 f) (.int .i64 x8) (.int .i64 lk)
                    have KX := nine_keep (K8.trans K9) HI.out.low (.int .i64 1) (.int .i64 db) (.int .i64 0) (.int .i64 0) (.int .i64 0) (.string cb) (.int .i64 f) (.int .i64 x8) (.int .i64 lk)
                    generalize hwx : ((((((((w9.setCell ⟨X, 0, none⟩ (.int .i64 1)).setCell ⟨X, 1, none⟩ (.int .i64 db)).setCell ⟨X, 2, none⟩ (.int .i64 0)).setCell ⟨X, 3, none⟩ (.int .i64 0)).setCell ⟨X, 4, none⟩ (.int .i64 0)).setCell ⟨X, 5, none⟩ (.string cb)).setCell ⟨X, 6, none⟩ (.int .i64 f)).setCell ⟨X, 7, none⟩ (.int .i64 x8)).setCell ⟨X, 8, none⟩ (.int .i64 lk) = wx at *
                    have RX : ItsAt w.heap.size wx (.slice A8 (its1.length + 1) cap8) (its1 ++ [bxP f x8 lk (c1.take kn)]) := row_same (R8.keep K9) (fun b e => OX b (fun q => L8 (by rw [e, q])))
                    have el : (its1 ++ [bxP f x8 lk (c1.take kn)]).length = its1.length + 1 := by simp
                    clear hwx OX yy0 zz0 ff0 yy1 zz1 ff1 yy2 zz2 ff2 yy3 zz3 ff3 yy4 zz4 ff4 yy5 zz5 ff5 yy6 zz6 ff6 yy7 zz7 ff7 yy8 zz8 ff8 B9 B8 k9 K9 k3 K3 ra
                    have yx5 := BX.cell 5 (v := .string cb) rfl
                    by_cases hlast : c1.drop kn = []
                    · have FP := part_last (wd := wd) (lk := lk) (n := m1) (p := (its1, wd - U1)) (Int.not_le.2 ha1) (by rw [HFT.out]; omega) (by rw [HFT.out]; exact hlast)
                      rw [HI.out.eq, HFT.out, HDA.out] at FP
                      have hcb0 : cb = ⟨#[]⟩ := by rw [HEB.out, hlast]
                      subst hcb0
                      obtain ⟨g8, rfl⟩ : ∃ g8, A8 = some ⟨g8, 0, none⟩ := by
                        obtain ⟨A9, c9, e9, _, _, h9⟩ := RX.form
                        rw [el] at e9 h9
                        injection e9 with e9 _ _
                        obtain ⟨g8, h9⟩ := h9 (by omega)
                        exact ⟨g8, e9.trans h9⟩
                      have yw : wx.cell? ⟨g8, its1.length * 9 + 1, none⟩ = some (.int .i64 da) := by
                        have := ItsAt.cell (its := its1 ++ [bxP f x8 lk (c1.take kn)]) (cap := cap8) (g := g8) (by rw [el]; exact RX) (i := its1.length) (by rw [el]; omega) 1 (by decide)
                        rw [this, List.getElem_append_right (Nat.le_refl _)]
                        simp only [Nat.sub_self, List.getElem_singleton]
                        show some (Value.int .i64 (runL f x8 (c1.take kn))) = _
                        rw [HDA.out]
                      have hcap : its1.length + 1 ≤ cap8 := by
                        obtain ⟨A9, c9, e9, h9, _, _⟩ := RX.form
                        rw [el] at e9 h9
                        injection e9 with _ _ e9
                        omega
                      have hwl : IntKind.i64.wrap (((its1.length + 1 : Nat) : Int) - 1) = (its1.length : Int) := by rw [IntWalk.i64_in _ (by omega)]; omega
                      have j0 : (0 : Int) ≤ (its1.length : Int) := by omega
                      have j1 : (its1.length : Int) < ((its1.length + 1 : Nat) : Int) := by omega
                      have e1 : fin.1 = its1 ++ [bxP f x8 lk (c1.take kn)] := by rw [FP]
                      have FIN : Hid (SpD w wx wd l (k + 1) (.slice (some ⟨g8, 0, none⟩) (its1.length + 1) cap8) fin.1 (U1 + da)) := Lib.hid (HFD.out wx _ (by rw [e1]; exact RX) KX (U1 + da) (by rw [FP]; show wd - (U1 + da) = wd - U1 - da; omega))
                      have EL : Hid (its1.length + 1 = fin.1.length) := Lib.hid (by rw [e1, el])
                      clear FP RX KX el e1 hlast R8 K8 L8 BX HI hbox hgas hne1 hpos hdl
                      go_wp2_with fail
                      go_roundw
                      case rel => exact ⟨k + 1, fin.1, U1 + da, some ⟨g8, 0, none⟩, cap8, by omega, by rw [EL.out], by go_num, by go_num, by rw [← EL.out]; exact FIN⟩
                      case measure => simp only [RowKit.intOf]; omega
                    · have FP := part_more (wd := wd) (lk := lk) (n := m1) (p := (its1, wd - U1)) (Int.not_le.2 ha1) (by rw [HFT.out]; omega) (by rw [HFT.out]; exact hlast)
                      rw [HI.out.eq, HFT.out] at FP
                      obtain ⟨A11, cap11, w11, ra, R11, K11, F11, L11⟩ := its_made (w0 := w) (its := its1 ++ [bxP f x8 lk (c1.take kn)]) (u := .slice A8 (its1.length + 1) cap8) RX KX (itPen 0) (by omega)
                      unfold itPen at ra
                      simp only at ra
                      rw [el] at ra R11 L11
                      have b11 : Blk w11 X 42 #[.int .i64 1, .int .i64 db, .int .i64 0, .int .i64 0, .int .i64 0, .string cb, .int .i64 f, .int .i64 x8, .int .i64 lk] := by
                        unfold Blk
                        rw [F11 _ BX.lt (fun e => L8 e.symm)]
                        exact BX
                      have el2 : ((its1 ++ [bxP f x8 lk (c1.take kn)]) ++ [itPen 0]).length = its1.length + 1 + 1 := by simp
                      have tb : cb.toList.isEmpty = false := by rw [List.isEmpty_eq_false_iff, Lib.toList_data, codes_data HEB.out]; exact hlast
                      have tb2 : (cb.toList == []) = false := by
                        cases h : cb.toList with
                        | nil => rw [h] at tb; cases tb
                        | cons _ _ => rfl
                      have INV : Hid (InD w w11 X wd f x8 lk fin N0 (.slice A11 (its1.length + 1 + 1) cap11) (c1.drop kn) cb ((its1 ++ [bxP f x8 lk (c1.take kn)]) ++ [itPen 0]) 0 m1) := Lib.hid ⟨R11, K11, by rw [HDB.out]; exact b11, HEB.out, HI.out.low, L11 _ BX.lt L8, by rw [Int.sub_zero]; exact FP.symm, by rw [if_pos rfl, List.length_drop]; omega, hlast, by rw [List.length_drop]; omega, by omega, by omega, by rw [el2]; omega⟩
                      have m5 := hbox.cell 5 (v := .string cs1) rfl
                      have m6 := b11.cell 5 (v := .string cb) rfl
                      have hms : cb.size < cs1.size := by rw [HLB.out, HCZ.out]; omega
                      clear FP R11 K11 F11 L11 b11 RX KX BX R8 K8 L8 el el2 HI hbox hgas hne1 hpos hdl hlast
                      go_wp2_with (at_builtin; refine wpList_append_run rfl (.tmp 83) (.tmp 85) _ _ rfl _ _ (by rfl) (by rfl) _ _ ra ?_)
                      go_roundw
                      case rel => exact ⟨c1.drop kn, cb, (its1 ++ [bxP f x8 lk (c1.take kn)]) ++ [itPen 0], 0, A11, cap11, m1, by simp, rfl, by rw [show ((its1 ++ [bxP f x8 lk (c1.take kn)]) ++ [itPen 0]).length = its1.length + 1 + 1 by simp]; exact INV⟩
                      case measure =>
                        rw [m6]
                        simp only [strN, isNot0]
                        rw [m5]
                        simp only []
                        split <;> omega
              · rw [if_neg (fun q => n1 (by omega)), n0] at FT
                have FP := part_none (wd := wd) (lk := lk) (n := m1) (p := (its1, wd - U1)) (Int.not_le.2 ha1) FT.symm
                rw [HI.out.eq] at FP
                obtain ⟨A8, cap8, w8, ra, R8, K8, F8, L8⟩ := its_made (w0 := w) R2.out KW2.out (itPen 0) (by omega)
                unfold itPen at ra
                simp only at ra
                have b8 : Blk w8 X 42 #[.int .i64 1, .int .i64 dd, .int .i64 0, .int .i64 0, .int .i64 0, .string cs1, .int .i64 f, .int .i64 x8, .int .i64 lk] := by
                  unfold Blk
                  rw [F8 _ hX2 hne1]
                  exact B2
                have el : (its1 ++ [itPen 0]).length = its1.length + 1 := by simp
                have INV : Hid (InD w w8 X wd f x8 lk fin N0 (.slice A8 (its1.length + 1) cap8) c1 cs1 (its1 ++ [itPen 0]) 0 m1) := Lib.hid ⟨R8, K8, by rw [hdd]; exact b8, HI.out.codes, HI.out.low, L8 _ hX2 HI.out.ne, by rw [Int.sub_zero]; exact FP.symm, by rw [if_pos rfl]; rw [if_neg n1] at hgas; omega, HI.out.some, HI.out.len, by omega, by omega, by rw [el]; omega⟩
                have m5 := hbox.cell 5 (v := .string cs1) rfl
                have m6 := b8.cell 5 (v := .string cs1) rfl
                have tt1 : ((nn : Int) == 0) = true := beqT (by omega)
                have tt2 : (U1 == 0) = false := beqF n1
                have tt3 : decide ((0 : Int) < (nn : Int)) = false := decide_eq_false (by omega)
                have tt4 : decide (0 < nn) = false := decide_eq_false (by omega)
                have HN1 := Lib.hid n1
                clear FP R8 K8 F8 L8 b8 hdd HI el hbox hgas hne1 hpos hdl B2 FT n1
                go_wp2_with (at_builtin; refine wpList_append_run rfl (.tmp 83) (.tmp 85) _ _ rfl _ _ (by rfl) (by rfl) _ _ ra ?_)
                go_roundw
                case rel => exact ⟨c1, cs1, its1 ++ [itPen 0], 0, A8, cap8, m1, by simp, rfl, by rw [show (its1 ++ [itPen 0]).length = its1.length + 1 by simp]; exact INV⟩
                case measure =>
                  rw [m6]
                  simp only [strN, isNot0]
                  rw [m5, if_neg HN1.out]
                  simp
            · have hnn : 0 < nn := by omega
              have tt1 : ((nn : Int) == 0) = false := beqF (by omega)
              have hK0 : 0 < nn := by omega
              have hKl : nn ≤ c1.length := by omega
              have hKs : nn ≤ cs1.size := by omega
              have hfit : fitN wd f x8 c1 (wd - U1) = nn := by rw [← FT, if_neg (fun q => n0 q.1)]
              have hKne : ¬ fitN wd f x8 c1 (wd - U1) = 0 := by omega
              have hroom := fit_room (f := f) s1 hKne
              obtain ⟨ca, hca⟩ : ∃ ca : ByteArray, cs1.extract 0 nn = ca := ⟨_, rfl⟩
              obtain ⟨cb, hcb⟩ : ∃ cb : ByteArray, cs1.extract nn cs1.size = cb := ⟨_, rfl⟩
              have eca : ca = ⟨(c1.take nn).toArray⟩ := by rw [← hca]; exact codes_take HI.out.codes _
              have ecb : cb = ⟨(c1.drop nn).toArray⟩ := by rw [← hcb]; exact codes_drop HI.out.codes _
              have hla := codes_size eca
              have hlb := codes_size ecb
              rw [List.length_take] at hla
              rw [List.length_drop] at hlb
              obtain ⟨da, hda⟩ : ∃ da, runL f x8 (c1.take nn) = da := ⟨_, rfl⟩
              obtain ⟨db, hdb⟩ : ∃ db, runL f x8 (c1.drop nn) = db := ⟨_, rfl⟩
              have hda0 := run_nonneg (f := f) s1 (c1.take nn)
              have hda1 := run_le (f := f) s1 s2 (c1.take nn)
              rw [hda] at hda0 hda1
              rw [List.length_take] at hda1
              have hda2 : da ≤ 217969590200000 := by omega
              clear hda1
              have HPA := Lib.hid (fun W1 (q : Keeps w2 W1) => HP.out f lk dd cs1 ca W1 (KW2.out.trans q) (by omega))
              have HPB := Lib.hid (fun W1 (q : Keeps w W1) => HP.out f lk dd cs1 cb W1 q (by omega))
              rw [codes_data eca, hda] at HPA
              rw [codes_data ecb, hdb] at HPB
              have HMA : Hid (∀ w3 : World, Keeps w2 w3 → ∃ A8 cap8 w8, (Builtin.append_ #[27, 27] 27 #[.slice A1 its1.length cp1, .slice (some ⟨w3.heap.size, 0, none⟩) 1 1]).run Tryd.prog (w3.alloc (.cells #[.int .i64 1, .int .i64 da, .int .i64 0, .int .i64 0, .int .i64 0, .string ca, .int .i64 f, .int .i64 x8, .int .i64 lk] 42)) = .ok (.slice A8 (its1.length + 1) cap8) w8 ∧
                  ItsAt w.heap.size w8 (.slice A8 (its1.length + 1) cap8) (its1 ++ [bxP f x8 lk (c1.take nn)]) ∧ Keeps w w8 ∧ Blk w8 X 42 #[.int .i64 1, .int .i64 dd, .int .i64 0, .int .i64 0, .int .i64 0, .string cs1, .int .i64 f, .int .i64 x8, .int .i64 lk] ∧ (Value.slice A8 (its1.length + 1) cap8).ownBlock ≠ some X) := Lib.hid (fun w3 q => by
                obtain ⟨A8, cap8, w8, ra, R8, K8, F8, L8⟩ := its_made (w0 := w) (R2.out.keep q) (KW2.out.trans q) (bxP f x8 lk (c1.take nn)) (by omega)
                have hX3 : X < w3.heap.size := by have := q.size; omega
                unfold bxP at ra
                simp only at ra
                rw [hda, ← eca] at ra
                exact ⟨A8, cap8, w8, ra, R8, K8, by unfold Blk; rw [F8 _ hX3 hne1]; exact B2.keep q, L8 _ hX3 HI.out.ne⟩)
              have tt3 : decide ((0 : Int) < (nn : Int)) = true := decide_eq_true (by omega)
              have tt4 : decide (0 < nn) = true := decide_eq_true (by omega)
              have i0 : (0 : Int) ≤ (nn : Int) := by omega
              have i1 : (nn : Int) ≤ (cs1.size : Int) := by omega
              have bb0 := B2.cell 0 (v := .int .i64 1) rfl
              have bb1 := B2.cell 1 (v := .int .i64 dd) rfl
              have bb2 := B2.cell 2 (v := .int .i64 0) rfl
              have bb3 := B2.cell 3 (v := .int .i64 0) rfl
              have bb4 := B2.cell 4 (v := .int .i64 0) rfl
              have bb5 := B2.cell 5 (v := .string cs1) rfl
              have bb6 := B2.cell 6 (v := .int .i64 f) rfl
              have bb7 := B2.cell 7 (v := .int .i64 x8) rfl
              have bb8 := B2.cell 8 (v := .int .i64 lk) rfl
              have HB2 := Lib.hid B2
              have HFT := Lib.hid hfit
              have HEA := Lib.hid eca
              have HEB := Lib.hid ecb
              have HDA := Lib.hid hda
              have HDB := Lib.hid hdb
              have HCZ := Lib.hid hcz
              have HLB := Lib.hid hlb
              clear hdd B2 FT hfit hKne eca ecb hda hdb hcz hla hlb
              go_wp2_with fail
              go_region_law (first
                | (refine step_append_run' rfl (.tmp 52) (.tmp 59) _ _ rfl _ _ (by simp [Act.eval]) (by simp [Act.eval]) _ _ ra ?_)
                | (go_simp; go_at_call 24; (with_reducible refine (HPA.out _ (Keeps.refl _).drew).mono ?_); rintro e w3 ⟨rfl, k3⟩; have K3 := (Keeps.refl w2).drew.trans k3; obtain ⟨A8, cap8, w8, ra, R8, K8, B8, L8⟩ := HMA.out w3 K3))
              all_goals
                have yy0 := B8.cell 0 (v := .int .i64 1) rfl
                have yy1 := B8.cell 1 (v := .int .i64 dd) rfl
                have yy2 := B8.cell 2 (v := .int .i64 0) rfl
                have yy3 := B8.cell 3 (v := .int .i64 0) rfl
                have yy4 := B8.cell 4 (v := .int .i64 0) rfl
                have yy5 := B8.cell 5 (v := .string cs1) rfl
                have yy6 := B8.cell 6 (v := .int .i64 f) rfl
                have yy7 := B8.cell 7 (v := .int .i64 x8) rfl
                have yy8 := B8.cell 8 (v := .int .i64 lk) rfl
                go_wp2_with fail
                go_region_law (first
                  | (go_simp; go_at_call 24; (with_reducible refine (HPB.out _ K8.drew).mono ?_); rintro e w9 ⟨rfl, k9⟩; have K9 := (Keeps.refl w8).drew.trans k9; have B9 := B8.keep K9; have zz0 := B9.cell 0 (v := .int .i64 1) rfl; have zz1 := B9.cell 1 (v := .int .i64 dd) rfl; have zz2 := B9.cell 2 (v := .int .i64 0) rfl; have zz3 := B9.cell 3 (v := .int .i64 0) rfl; have zz4 := B9.cell 4 (v := .int .i64 0) rfl; have zz5 := B9.cell 5 (v := .string cs1) rfl; have zz6 := B9.cell 6 (v := .int .i64 f) rfl; have zz7 := B9.cell 7 (v := .int .i64 x8) rfl; have zz8 := B9.cell 8 (v := .int .i64 lk) rfl; have ff0 := B9.free 0; have ff1 := B9.free 1; have ff2 := B9.free 2; have ff3 := B9.free 3; have ff4 := B9.free 4; have ff5 := B9.free 5; have ff6 := B9.free 6; have ff7 := B9.free 7; have ff8 := B9.free 8))
                all_goals
                  have BX := nine_set B9 (.int .i64 1) (.int .i64 db) (.int .i64 0) (.int .i64 0) (.int .i64 0) (.string cb) (.int .i64 f) (.int .i64 x8) (.int .i64 lk)
                  have OX := nine_other w9 X (.int .i64 1) (.int .i64 db) (.int .i64 0) (.int .i64 0) (.int .i64 0) (.string cb) (.int .i64 f) (.int .i64 x8) (.int .i64 lk)
                  have KX := nine_keep (K8.trans K9) HI.out.low (.int .i64 1) (.int .i64 db) (.int .i64 0) (.int .i64 0) (.int .i64 0) (.string cb) (.int .i64 f) (.int .i64 x8) (.int .i64 lk)
                  generalize hwx : ((((((((w9.setCell ⟨X, 0, none⟩ (.int .i64 1)).setCell ⟨X, 1, none⟩ (.int .i64 db)).setCell ⟨X, 2, none⟩ (.int .i64 0)).setCell ⟨X, 3, none⟩ (.int .i64 0)).setCell ⟨X, 4, none⟩ (.int .i64 0)).setCell ⟨X, 5, none⟩ (.string cb)).setCell ⟨X, 6, none⟩ (.int .i64 f)).setCell ⟨X, 7, none⟩ (.int .i64 x8)).setCell ⟨X, 8, none⟩ (.int .i64 lk) = wx at *
                  have RX : ItsAt w.heap.size wx (.slice A8 (its1.length + 1) cap8) (its1 ++ [bxP f x8 lk (c1.take nn)]) := row_same (R8.keep K9) (fun b e => OX b (fun q => L8 (by rw [e, q])))
                  have el : (its1 ++ [bxP f x8 lk (c1.take nn)]).length = its1.length + 1 := by simp
                  clear hwx OX yy0 zz0 ff0 yy1 zz1 ff1 yy2 zz2 ff2 yy3 zz3 ff3 yy4 zz4 ff4 yy5 zz5 ff5 yy6 zz6 ff6 yy7 zz7 ff7 yy8 zz8 ff8 B9 B8 k9 K9 k3 K3 ra
                  have yx5 := BX.cell 5 (v := .string cb) rfl
                  by_cases hlast : c1.drop nn = []
                  · have FP := part_last (wd := wd) (lk := lk) (n := m1) (p := (its1, wd - U1)) (Int.not_le.2 ha1) (by rw [HFT.out]; omega) (by rw [HFT.out]; exact hlast)
                    rw [HI.out.eq, HFT.out, HDA.out] at FP
                    have hcb0 : cb = ⟨#[]⟩ := by rw [HEB.out, hlast]
                    subst hcb0
                    obtain ⟨g8, rfl⟩ : ∃ g8, A8 = some ⟨g8, 0, none⟩ := by
                      obtain ⟨A9, c9, e9, _, _, h9⟩ := RX.form
                      rw [el] at e9 h9
                      injection e9 with e9 _ _
                      obtain ⟨g8, h9⟩ := h9 (by omega)
                      exact ⟨g8, e9.trans h9⟩
                    have yw : wx.cell? ⟨g8, its1.length * 9 + 1, none⟩ = some (.int .i64 da) := by
                      have := ItsAt.cell (its := its1 ++ [bxP f x8 lk (c1.take nn)]) (cap := cap8) (g := g8) (by rw [el]; exact RX) (i := its1.length) (by rw [el]; omega) 1 (by decide)
                      rw [this, List.getElem_append_right (Nat.le_refl _)]
                      simp only [Nat.sub_self, List.getElem_singleton]
                      show some (Value.int .i64 (runL f x8 (c1.take nn))) = _
                      rw [HDA.out]
                    have hcap : its1.length + 1 ≤ cap8 := by
                      obtain ⟨A9, c9, e9, h9, _, _⟩ := RX.form
                      rw [el] at e9 h9
                      injection e9 with _ _ e9
                      omega
                    have hwl : IntKind.i64.wrap (((its1.length + 1 : Nat) : Int) - 1) = (its1.length : Int) := by rw [IntWalk.i64_in _ (by omega)]; omega
                    have j0 : (0 : Int) ≤ (its1.length : Int) := by omega
                    have j1 : (its1.length : Int) < ((its1.length + 1 : Nat) : Int) := by omega
                    have e1 : fin.1 = its1 ++ [bxP f x8 lk (c1.take nn)] := by rw [FP]
                    have FIN : Hid (SpD w wx wd l (k + 1) (.slice (some ⟨g8, 0, none⟩) (its1.length + 1) cap8) fin.1 (U1 + da)) := Lib.hid (HFD.out wx _ (by rw [e1]; exact RX) KX (U1 + da) (by rw [FP]; show wd - (U1 + da) = wd - U1 - da; omega))
                    have EL : Hid (its1.length + 1 = fin.1.length) := Lib.hid (by rw [e1, el])
                    clear FP RX KX el e1 hlast R8 K8 L8 BX HI hbox hgas hne1 hpos hdl
                    go_wp2_with fail
                    go_roundw
                    case rel => exact ⟨k + 1, fin.1, U1 + da, some ⟨g8, 0, none⟩, cap8, by omega, by rw [EL.out], by go_num, by go_num, by rw [← EL.out]; exact FIN⟩
                    case measure => simp only [RowKit.intOf]; omega
                  · have FP := part_more (wd := wd) (lk := lk) (n := m1) (p := (its1, wd - U1)) (Int.not_le.2 ha1) (by rw [HFT.out]; omega) (by rw [HFT.out]; exact hlast)
                    rw [HI.out.eq, HFT.out] at FP
                    obtain ⟨A11, cap11, w11, ra, R11, K11, F11, L11⟩ := its_made (w0 := w) (its := its1 ++ [bxP f x8 lk (c1.take nn)]) (u := .slice A8 (its1.length + 1) cap8) RX KX (itPen 0) (by omega)
                    unfold itPen at ra
                    simp only at ra
                    rw [el] at ra R11 L11
                    have b11 : Blk w11 X 42 #[.int .i64 1, .int .i64 db, .int .i64 0, .int .i64 0, .int .i64 0, .string cb, .int .i64 f, .int .i64 x8, .int .i64 lk] := by
                      unfold Blk
                      rw [F11 _ BX.lt (fun e => L8 e.symm)]
                      exact BX
                    have el2 : ((its1 ++ [bxP f x8 lk (c1.take nn)]) ++ [itPen 0]).length = its1.length + 1 + 1 := by simp
                    have tb : cb.toList.isEmpty = false := by rw [List.isEmpty_eq_false_iff, Lib.toList_data, codes_data HEB.out]; exact hlast
                    have tb2 : (cb.toList == []) = false := by
                      cases h : cb.toList with
                      | nil => rw [h] at tb; cases tb
                      | cons _ _ => rfl
                    have INV : Hid (InD w w11 X wd f x8 lk fin N0 (.slice A11 (its1.length + 1 + 1) cap11) (c1.drop nn) cb ((its1 ++ [bxP f x8 lk (c1.take nn)]) ++ [itPen 0]) 0 m1) := Lib.hid ⟨R11, K11, by rw [HDB.out]; exact b11, HEB.out, HI.out.low, L11 _ BX.lt L8, by rw [Int.sub_zero]; exact FP.symm, by rw [if_pos rfl, List.length_drop]; omega, hlast, by rw [List.length_drop]; omega, by omega, by omega, by rw [el2]; omega⟩
                    have m5 := hbox.cell 5 (v := .string cs1) rfl
                    have m6 := b11.cell 5 (v := .string cb) rfl
                    have hms : cb.size < cs1.size := by rw [HLB.out, HCZ.out]; omega
                    clear FP R11 K11 F11 L11 b11 RX KX BX R8 K8 L8 el el2 HI hbox hgas hne1 hpos hdl hlast
                    go_wp2_with (at_builtin; refine wpList_append_run rfl (.tmp 83) (.tmp 85) _ _ rfl _ _ (by rfl) (by rfl) _ _ ra ?_)
                    go_roundw
                    case rel => exact ⟨c1.drop nn, cb, (its1 ++ [bxP f x8 lk (c1.take nn)]) ++ [itPen 0], 0, A11, cap11, m1, by simp, rfl, by rw [show ((its1 ++ [bxP f x8 lk (c1.take nn)]) ++ [itPen 0]).length = its1.length + 1 + 1 by simp]; exact INV⟩
                    case measure =>
                      rw [m6]
                      simp only [strN, isNot0]
                      rw [m5]
                      simp only []
                      split <;> omega
    · have t1 : decide ((k : Int) < (n : Int)) = false := decide_eq_false (by omega)
      have t2 : decide (k < n) = false := decide_eq_false c
      have EQ := HS.out.eq
      rw [List.drop_of_length_le (by rw [HN.out]; omega), splitL] at EQ
      have FIN : Hid (ItsAt w.heap.size wr (.slice A5 its.length c5) (splitL wd l ([], wd)).1) := Lib.hid (by rw [← EQ]; exact HS.out.row)
      have KW := Lib.hid HS.out.keep
      clear EQ
      go_wp2_with fail
      go_ret
      exact ⟨_, rfl, FIN.out, KW.out⟩
end Go.Proofs.YtfnkokfkhjdkfaaDoor


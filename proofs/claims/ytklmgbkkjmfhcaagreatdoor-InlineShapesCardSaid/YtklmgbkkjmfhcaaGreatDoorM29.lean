/-
  Texts of the proof, one behind the other: Inf.
-/
import Derived.Test.YtklmgbkkjmfhcaaGreatDoorM28
import Derived.Laws.Tables
import Derived.Deep.DeepCutAuto
import Derived.Deep.CutBlock
/-
  Contract of inline's paired.
-/
namespace Go.Proofs.YtklmgbkkjmfhcaaGreatDoor
open Go.RowKit Go.Lib

/-- A result, and behind it one that lies in a block. -/
theorem ret_2blk {fn : Func} {R : Ending → World → Prop} {a : Act} {w : World} {p u : Tmp} {ty : TypeId} {g : Nat} {cs : Array Value} {fs : Array Field} {v : Value} (hres : fn.results = #[.tmp u, .cell p ty]) (hp : a.tmps.getD p undef = .pointer (some ⟨g, 0, none⟩)) (hv : a.tmps.getD u undef = v) (hd : a.defers = [])
    (hb : Blk w g ty cs) (hu : Tryz.prog.underlying ty = some (.struct fs)) (hi : (Tryz.prog.info? ty).map (·.size) = some cs.size) (hR : R (.returned (.tuple #[v, .agg cs])) w) : bodyPost Tryz.prog fn R .ret a w :=
  bodyPost_ret (by
    have hp' : a.tmps[p]?.getD undef = .pointer (some ⟨g, 0, none⟩) := by simpa using hp
    have hv' : a.tmps[u]?.getD undef = v := by simpa using hv
    have hb' : w.heap[g]? = some (.cells cs ty (0, 0)) := hb
    simp [results, hres, hp', hv', asAddr, run_loadVar_row w g ty ty cs (0, 0) (.struct fs) hb' hu rfl hi]) hd hR
theorem SpsAt.form {W : World} {P : Nat → Prop} {l : List Sp} {v : Value} (h : SpsAt W P l v) : ∃ A m c, v = .slice A m c := by
  cases h with
  | mk L v hr hp hk =>
    obtain ⟨A, c, e, _⟩ := row_form hr
    exact ⟨A, _, c, e⟩
/-- A row of pieces that the call owns, with what they hold. -/
structure PcsAt (W : World) (P : Nat → Prop) (n₀ : Nat) (v : Value) (L : List (Pc × Value)) : Prop where
  row : W.ownsRow n₀ 42 9 v L.length (pcR L)
  kid : KidsAt W P L
  lt : ∀ b, P b → b < W.heap.size
  off : ∀ b, v.ownBlock = some b → ¬ P b
theorem setCellSize (w : World) (a : Addr) (v : Value) : (w.setCell a v).heap.size = w.heap.size := by unfold World.setCell; split <;> simp
theorem keeps_grown {a b : World} (k : Keeps a b) (r : Option Nat) : a.grownBy b r := ⟨k.os, k.tape, k.output, k.size, fun i hi _ => k.block i hi⟩
theorem grown_cell {a b : World} {g : Nat} (h : a.grownBy b (some g)) {t : TypeId} {i : Nat} {cs : Array Value} (hb : Blk a i t cs) (hi : i ≠ g) : Blk b i t cs := by
  unfold Blk
  rw [h.block i hb.lt (fun e => hi (by cases e; rfl))]
  exact hb
abbrev Five0 (w : World) (g : Nat) (K : Int) (v : Value) : Prop := w.cell? ⟨g, 0, none⟩ = some (.int .i64 K) ∧ w.cell? ⟨g, 1, none⟩ = some (.string ⟨#[]⟩) ∧ w.cell? ⟨g, 2, none⟩ = some (.string ⟨#[]⟩) ∧ w.cell? ⟨g, 3, none⟩ = some (.string ⟨#[]⟩) ∧ w.cell? ⟨g, 4, none⟩ = some v
abbrev Nine1 (w : World) (g : Nat) (k : Int) (a b c : ByteArray) (v : Value) (f : Int) (p q r : Bool) : Prop := w.cell? ⟨g, 0, none⟩ = some (.int .i64 k) ∧ w.cell? ⟨g, 1, none⟩ = some (.string a) ∧ w.cell? ⟨g, 2, none⟩ = some (.string b) ∧ w.cell? ⟨g, 3, none⟩ = some (.string c) ∧ w.cell? ⟨g, 4, none⟩ = some v ∧ w.cell? ⟨g, 5, none⟩ = some (.int .i64 f) ∧ w.cell? ⟨g, 6, none⟩ = some (.bool p) ∧ w.cell? ⟨g, 7, none⟩ = some (.bool q) ∧ w.cell? ⟨g, 8, none⟩ = some (.bool r)
abbrev Free9 (w : World) (g : Nat) : Prop := w.frozen? ⟨g, 0, none⟩ = false ∧ w.frozen? ⟨g, 1, none⟩ = false ∧ w.frozen? ⟨g, 2, none⟩ = false ∧ w.frozen? ⟨g, 3, none⟩ = false ∧ w.frozen? ⟨g, 4, none⟩ = false ∧ w.frozen? ⟨g, 5, none⟩ = false ∧ w.frozen? ⟨g, 6, none⟩ = false ∧ w.frozen? ⟨g, 7, none⟩ = false ∧ w.frozen? ⟨g, 8, none⟩ = false
theorem pcR_set : ∀ (L : List (Pc × Value)) (o : Nat) (h : o < L.length) (t : List UInt8), pcR (L.set o ((L[o].1.set t), L[o].2)) = (pcR L).set (o * 9 + 1) (.string ⟨t.toArray⟩)
  | [], o, h, _ => absurd h (by simp)
  | x :: L, 0, h, t => by
    unfold pcR
    rfl
  | x :: L, o + 1, h, t => by
    have ih := pcR_set L o (by simpa using h) t
    rw [List.set_cons_succ]
    show pcC x.1 x.2 ++ pcR (L.set o _) = (pcC x.1 x.2 ++ pcR L).set ((o + 1) * 9 + 1) _
    rw [List.set_append_right _ _ (by rw [pcC_len]; omega), pcC_len, show (o + 1) * 9 + 1 - 9 = o * 9 + 1 by omega]
    simp only [List.getElem_cons_succ]
    rw [ih]
/-- Only the blocks g and B1 have turned; B1 is a piece still. -/
def KG (W4 : World) (g B1 : Nat) (w : World) : Prop := (w.os = W4.os ∧ w.tape = W4.tape ∧ w.output = W4.output ∧ W4.heap.size ≤ w.heap.size) ∧ (∀ b, b < W4.heap.size → b ≠ g → b ≠ B1 → w.heap[b]? = W4.heap[b]?) ∧ ∃ cs, Blk w B1 42 cs ∧ cs.size = 9
theorem KG.grown {W4 a b : World} {g B1 : Nat} (h : KG W4 g B1 a) (k : a.grownBy b (some g)) (hg : B1 ≠ g) : KG W4 g B1 b := by
  obtain ⟨⟨h1, h2, h3, h4⟩, h5, cs, h6, h7⟩ := h
  refine ⟨⟨k.os.trans h1, k.tape.trans h2, k.output.trans h3, Nat.le_trans h4 k.size⟩, fun i hi hne hn1 => ?_, cs, ?_, h7⟩
  · rw [k.block i (by omega) (fun e => hne (by cases e; rfl))]
    exact h5 i hi hne hn1
  · exact grown_cell k h6 hg
theorem KG.set {W4 a : World} {g B1 : Nat} (i : Nat) (v : Value) (h : KG W4 g B1 a) : KG W4 g B1 (a.setCell ⟨B1, i, none⟩ v) := by
  obtain ⟨⟨h1, h2, h3, h4⟩, h5, cs, h6, h7⟩ := h
  refine ⟨⟨h1, h2, h3, by rw [setCellSize]; exact h4⟩, fun j hj hne hn1 => ?_, _, h6.set i v rfl, by simp [h7]⟩
  rw [heap_setCell_other a ⟨B1, i, none⟩ j v (fun e => hn1 e)]
  exact h5 j hj hne hn1
theorem KG.refl {W4 : World} {g B1 : Nat} {cs : Array Value} (h : Blk W4 B1 42 cs) (hs : cs.size = 9) : KG W4 g B1 W4 := ⟨⟨rfl, rfl, rfl, Nat.le_refl _⟩, fun _ _ _ _ => rfl, cs, h, hs⟩
def cellOf (w : World) (b i : Nat) : Value := (w.cell? ⟨b, i, none⟩).getD undef
theorem KG.cell {W4 w : World} {g B1 : Nat} (h : KG W4 g B1 w) (i : Nat) (hi : i < 9) : w.cell? ⟨B1, i, none⟩ = some (cellOf w B1 i) := by
  obtain ⟨_, _, cs, h6, h7⟩ := h
  have : cs[i]? = some cs[i] := Array.getElem?_eq_getElem (by omega)
  unfold cellOf
  rw [h6.cell i this]; rfl
theorem KG.free {W4 w : World} {g B1 : Nat} (h : KG W4 g B1 w) (i : Nat) : w.frozen? ⟨B1, i, none⟩ = false := by
  obtain ⟨_, _, cs, h6, _⟩ := h
  exact h6.free i
theorem KG.blk {W4 w : World} {g B1 b : Nat} {t : TypeId} {cs : Array Value} (h : KG W4 g B1 w) (hb : Blk W4 b t cs) (h1 : b ≠ g) (h2 : b ≠ B1) : Blk w b t cs := by
  unfold Blk
  rw [h.2.1 b hb.lt h1 h2]
  exact hb
/-- Where paired has made its span. -/
def MidAt (P : Nat → Prop) (w : World) (l : List Sp) (K : Nat) (B : Array Value) (S : Nat) (v : Value) (W2 : World) : Prop :=
  w.heap.size + 2 ≤ S ∧ W2.heap.size = S + 1 ∧ Keeps w W2 ∧ SpsAt W2 (fun b => P b ∨ (w.heap.size + 2 ≤ b ∧ b < S)) l v ∧ Blk W2 S 31 #[.int .i64 K, .string ⟨#[]⟩, .string ⟨#[]⟩, .string ⟨#[]⟩, v] ∧ Blk W2 w.heap.size 42 B ∧ Blk W2 (w.heap.size + 1) 42 zeroPc
/-- What paired leaves. -/
def PrPost (P : Nat → Prop) (n₀ g : Nat) (w : World) (l : List Pc) (x : Pc) (u : Value) (e : Ending) (w' : World) : Prop :=
  ∃ v' L' P', e = .returned (.tuple #[v', .agg (pcA x u)]) ∧ PcsAt w' P' n₀ v' L' ∧ L'.map Prod.fst = l ∧ SpsAt w' P' x.kids u ∧ (∀ b, P b → P' b) ∧ (∀ b, P' b → P b ∨ w.heap.size ≤ b) ∧ w.grownBy w' (some g) ∧ (∀ b, v'.ownBlock = some b → b = g ∨ w.heap.size ≤ b)
set_option maxRecDepth 100000 in
set_option maxHeartbeats 8000000 in
theorem paired_any (P : Nat → Prop) (n₀ g n cap o : Nat) (L : List (Pc × Value)) (x : Pc) (u : Value) (w : World) (hr : PcsAt w P n₀ (.slice (some ⟨g, 0, none⟩) n cap) L) (ho : o < n) (hn : n ≤ 1000000) (h0 : n₀ ≤ w.heap.size) (hx : x.text ≠ []) (hot : ((L.map Prod.fst).getD o default).text ≠ [])
    (hs : tsum (L.map Prod.fst) ≤ 1000000) (hxt : x.text.length ≤ 1000000) (hu : SpsAt w P x.kids u) :
    Calls Tryz.prog 23 #[.slice (some ⟨g, 0, none⟩) n cap, .int .i64 o, .agg (pcA x u)] w (PrPost P n₀ g w (pairL (L.map Prod.fst) o x) (pairX (L.map Prod.fst) o x) u) := by
  obtain ⟨A0, m0, c0, rfl⟩ := hu.form
  obtain ⟨hrow, hkid, hlt, hoff⟩ := hr
  obtain ⟨_, _, e0, hnc, hcm⟩ := row_form hrow
  cases e0
  have hcm2 := hcm
  unfold maxLen at hcm
  have hV := Vw.of_own hrow
  obtain ⟨g', o', e1, hcs⟩ := hV.2 (by omega)
  cases e1
  have hce := hcs o ho
  rw [Nat.zero_add] at hce
  have hgd : (L.map Prod.fst).getD o default = L[o].1 := by rw [List.getD_eq_getElem?_getD, List.getElem?_map, List.getElem?_eq_getElem ho]; rfl
  rw [hgd] at hot
  obtain ⟨⟨y, z⟩, hyz⟩ : ∃ q, L[o] = q := ⟨_, rfl⟩
  rw [hyz] at hce hot hgd
  dsimp only at hce hot hgd
  have hyt : y.text.length ≤ 1000000 := by
    have := tsum_le_at (l := L.map Prod.fst) (k := o) (by rw [List.length_map]; exact ho)
    rw [hgd] at this
    omega
  have hgl := (hrow.lt g rfl).2
  obtain ⟨sy, hsy⟩ : ∃ sy : ByteArray, (⟨y.text.toArray⟩ : ByteArray) = sy := ⟨_, rfl⟩
  obtain ⟨sx, hsx⟩ : ∃ sx : ByteArray, (⟨x.text.toArray⟩ : ByteArray) = sx := ⟨_, rfl⟩
  have zy : sy.size = y.text.length := by rw [← hsy]; show y.text.toArray.size = _; simp
  have zx : sx.size = x.text.length := by rw [← hsx]; show x.text.toArray.size = _; simp
  have py := List.length_pos_iff.2 hot
  have px := List.length_pos_iff.2 hx
  have y1 : w.cell? ⟨g, o * 9 + 1, none⟩ = some (.string sy) := by rw [← hsy]; exact hce 1 _ rfl
  have hsy1 : 1 ≤ sy.size := by omega
  have hsx1 : 1 ≤ sx.size := by omega
  obtain ⟨K, T, b1, b2, hb1, hb2, hK, hT, hKT⟩ : ∃ K T b1 b2, decide (1 < sy.size) = b1 ∧ decide (1 < sx.size) = b2 ∧ pairK y x = K ∧ takesM y x = T ∧ (b1 = true ∧ b2 = true ∧ K = 6 ∧ T = 2 ∨ (b1 = false ∨ b2 = false) ∧ K = 5 ∧ T = 1) := by
    refine ⟨_, _, _, _, rfl, rfl, rfl, rfl, ?_⟩
    unfold pairK takesM
    rw [zy, zx]
    by_cases h : 1 < y.text.length ∧ 1 < x.text.length
    · left; rw [if_pos h, if_pos h]; exact ⟨by simpa using h.1, by simpa using h.2, rfl, rfl⟩
    · right; rw [if_neg h, if_neg h]; exact ⟨by simp; omega, rfl, rfl⟩
  have c1 : decide ((1 : Int) < (sy.size : Int)) = b1 := by rw [← hb1]; exact decide_eq_decide.2 (by omega)
  have c2 : decide ((1 : Int) < (sx.size : Int)) = b2 := by rw [← hb2]; exact decide_eq_decide.2 (by omega)
  have hBx := Blk.new w 42 (pcA x (.slice A0 m0 c0))
  have x1 : (w.alloc (.cells (pcA x (.slice A0 m0 c0)) 42)).cell? ⟨w.heap.size, 1, none⟩ = some (.string sx) := by rw [← hsx]; exact hBx.cell 1 rfl
  have hTy : T ≤ sy.size := by
    rcases hKT with ⟨e1, e2, _, rfl⟩ | ⟨_, _, rfl⟩
    · rw [e1] at hb1; simp at hb1; omega
    · omega
  have hTx : T ≤ sx.size := by
    rcases hKT with ⟨e1, e2, _, rfl⟩ | ⟨_, _, rfl⟩
    · rw [e2] at hb2; simp at hb2; omega
    · omega
  have VC := Lib.hid (fun W (k : Keeps w W) => (hV.keep k).cutS (k := o + 1) (cap := cap) (by omega) hnc)
  simp only [Nat.zero_add] at VC
  have HP := Lib.hid hlt
  have HKD := Lib.hid hkid
  have HTS : Hid (tsum ((L.drop (o + 1)).map Prod.fst) ≤ 1000000) := Lib.hid (Nat.le_trans (tsum_dropL _ _) hs)
  have HRW := Lib.hid hrow
  have HOF := Lib.hid hoff
  have HU := Lib.hid hu
  have HKK := Lib.hid hK
  have HTT := Lib.hid hT
  have HGD := Lib.hid hgd
  have HYZ := Lib.hid hyz
  have HSY := Lib.hid hsy
  have HSX := Lib.hid hsx
  unfold pcA
  rw [hsx]
  unfold pcA at x1
  rw [hsx] at x1
  clear hV hcs hce hyz hkid hlt hoff hrow hu hK hT hgd hsy hsx zy zx py px hb1 hb2 hs hot hx hBx
  go_enter Tryz.func23, Tryz.ntmps23
  go_upto_region 2 with fail
  go_cut [25] (fun t wx => t = .bool (b1 && b2) ∧ wx = (w.alloc (.cells #[.int .i64 x.kind, .string sx, .string ⟨x.dest.toArray⟩, .string ⟨x.title.toArray⟩, .slice A0 m0 c0, .int .i64 x.first, .bool x.opens, .bool x.closes, .bool x.single] 42)).alloc (.cells zeroPc 42))
  case first =>
    cases b1 <;> cases b2
    all_goals
      go_wp2_with fail
      go_meet
      exact ⟨rfl, rfl⟩
  case rest =>
    obtain ⟨rfl, rfl⟩ := hcut
    go_upto_if 25 with fail
    go_cut [8, 9] (fun k t wx => k = .int .i64 K ∧ t = .int .i64 T ∧ wx = (w.alloc (.cells #[.int .i64 x.kind, .string sx, .string ⟨x.dest.toArray⟩, .string ⟨x.title.toArray⟩, .slice A0 m0 c0, .int .i64 x.first, .bool x.opens, .bool x.closes, .bool x.single] 42)).alloc (.cells zeroPc 42))
    case first =>
      have hKT2 : (b1 && b2) = true ∧ K = 6 ∧ T = 2 ∨ (b1 && b2) = false ∧ K = 5 ∧ T = 1 := by
        rcases hKT with ⟨rfl, rfl, rfl, rfl⟩ | ⟨rfl | rfl, rfl, rfl⟩
        · exact .inl ⟨rfl, rfl, rfl⟩
        · exact .inr ⟨rfl, rfl, rfl⟩
        · exact .inr ⟨Bool.and_false _, rfl, rfl⟩
      generalize (b1 && b2) = b at *
      rcases hKT2 with ⟨rfl, rfl, rfl⟩ | ⟨rfl, rfl, rfl⟩
      all_goals
        go_wp2_with fail
        go_meet
        exact ⟨rfl, rfl, rfl⟩
    case rest =>
      obtain ⟨rfl, rfl, rfl⟩ := hcut
      have KW : Keeps w ((w.alloc (.cells #[.int .i64 x.kind, .string sx, .string ⟨x.dest.toArray⟩, .string ⟨x.title.toArray⟩, .slice A0 m0 c0, .int .i64 x.first, .bool x.opens, .bool x.closes, .bool x.single] 42)).alloc (.cells zeroPc 42)) := ((Keeps.refl w).alloc _).alloc _
      have BX := (Blk.new w 42 #[.int .i64 x.kind, .string sx, .string ⟨x.dest.toArray⟩, .string ⟨x.title.toArray⟩, .slice A0 m0 c0, .int .i64 x.first, .bool x.opens, .bool x.closes, .bool x.single]).alloc (.cells zeroPc 42)
      have BZ := Blk.new (w.alloc (.cells #[.int .i64 x.kind, .string sx, .string ⟨x.dest.toArray⟩, .string ⟨x.title.toArray⟩, .slice A0 m0 c0, .int .i64 x.first, .bool x.opens, .bool x.closes, .bool x.single] 42)) 42 zeroPc
      have hz1 : (w.alloc (.cells #[.int .i64 x.kind, .string sx, .string ⟨x.dest.toArray⟩, .string ⟨x.title.toArray⟩, .slice A0 m0 c0, .int .i64 x.first, .bool x.opens, .bool x.closes, .bool x.single] 42)).heap.size = w.heap.size + 1 := by simp
      have hz2 : ((w.alloc (.cells #[.int .i64 x.kind, .string sx, .string ⟨x.dest.toArray⟩, .string ⟨x.title.toArray⟩, .slice A0 m0 c0, .int .i64 x.first, .bool x.opens, .bool x.closes, .bool x.single] 42)).alloc (.cells zeroPc 42)).heap.size = w.heap.size + 2 := by simp
      rw [hz1] at BZ
      clear hz1 x1 c1 c2 hKT
      generalize (w.alloc (.cells #[.int .i64 x.kind, .string sx, .string ⟨x.dest.toArray⟩, .string ⟨x.title.toArray⟩, .slice A0 m0 c0, .int .i64 x.first, .bool x.opens, .bool x.closes, .bool x.single] 42)).alloc (.cells zeroPc 42) = W1 at *
      have HKW := Lib.hid KW
      have HBX := Lib.hid BX
      have HBZ := Lib.hid BZ
      have HZ2 := Lib.hid hz2
      clear KW BX BZ hz2
      go_upto_region 4 with fail
      go_cut [10] (fun s10 wx => ∃ S A1 m1 c1 W2, s10 = .pointer (some ⟨S, 0, none⟩) ∧ W2 = wx ∧ Hid (MidAt P w (spansM ((L.drop (o + 1)).map Prod.fst)) K #[.int .i64 x.kind, .string sx, .string ⟨x.dest.toArray⟩, .string ⟨x.title.toArray⟩, .slice A0 m0 c0, .int .i64 x.first, .bool x.opens, .bool x.closes, .bool x.single] S (.slice A1 m1 c1) W2))
      case first =>
        by_cases hco : cap = o + 1
        · subst hco
          simp only [if_true] at VC
          have hz0 : L.length - (o + 1) = 0 := by omega
          rw [hz0] at VC
          go_wp2_with (first
            | (go_at_call 8; go_loud (refine (spans_any _ 0 0 (L.drop (o + 1)) P _ (VC.out _ HKW.out) (KidsAt.keep (HKD.out.drop (o + 1)) HP.out HKW.out) (fun b hb => by have h1 := HP.out b hb; have h2 := HZ2.out; omega) (by omega) (by omega) (by unfold maxLen; omega) HTS.out).mono ?_); rintro e w1 ⟨v1, rfl, hv1, k1⟩; obtain ⟨A1, m1, c1, rfl⟩ := hv1.form; have HV1 := Lib.hid hv1; have HK1 := Lib.hid k1; clear hv1 k1)
            | (refine wpList_store_row rfl 31 _ _ rfl _ _ rfl rfl 31 _ (heap_alloc_last _ _) (by kernel_rfl) rfl (by simp [Value.oneCell']) ?_; rw [World.setRow_alloc_new]))
          go_meet
          case rel =>
            have hs1 := HK1.out.size
            rw [HZ2.out] at hs1
            have KA := (Keeps.refl w1).alloc (.cells #[.int .i64 K, .string ⟨#[]⟩, .string ⟨#[]⟩, .string ⟨#[]⟩, .slice A1 m1 c1] 31)
            have hnx : ∀ b, Nx P W1 w1 b → (fun b => P b ∨ (w.heap.size + 2 ≤ b ∧ b < w1.heap.size)) b := fun b hb => by
              rcases hb with hb | hb
              · exact .inl hb
              · have := HZ2.out; exact .inr ⟨by omega, hb.2⟩
            have hnlt : ∀ b, Nx P W1 w1 b → b < w1.heap.size := Nx.lt (fun b hb => by have := HP.out b hb; have := HZ2.out; omega) HK1.out.size
            exact ⟨w1.heap.size, A1, m1, c1, _, rfl, rfl, Lib.hid ⟨hs1, by simp, (HKW.out.trans HK1.out).trans KA, HV1.out.same hnx fun b hb => KA.block b (hnlt b hb), Blk.new w1 _ _, (HBX.out.keep HK1.out).keep KA, (HBZ.out.keep HK1.out).keep KA⟩⟩
        · simp only [if_neg hco] at VC
          go_wp2_with (first
            | (go_at_call 8; go_loud (refine (spans_any _ (L.length - (o + 1)) (cap - (o + 1)) (L.drop (o + 1)) P _ (VC.out _ HKW.out) (KidsAt.keep (HKD.out.drop (o + 1)) HP.out HKW.out) (fun b hb => by have h1 := HP.out b hb; have h2 := HZ2.out; omega) (by omega) (by omega) (by unfold maxLen; omega) HTS.out).mono ?_); rintro e w1 ⟨v1, rfl, hv1, k1⟩; obtain ⟨A1, m1, c1, rfl⟩ := hv1.form; have HV1 := Lib.hid hv1; have HK1 := Lib.hid k1; clear hv1 k1)
            | (refine wpList_store_row rfl 31 _ _ rfl _ _ rfl rfl 31 _ (heap_alloc_last _ _) (by kernel_rfl) rfl (by simp [Value.oneCell']) ?_; rw [World.setRow_alloc_new]))
          go_meet
          case rel =>
            have hs1 := HK1.out.size
            rw [HZ2.out] at hs1
            have KA := (Keeps.refl w1).alloc (.cells #[.int .i64 K, .string ⟨#[]⟩, .string ⟨#[]⟩, .string ⟨#[]⟩, .slice A1 m1 c1] 31)
            have hnx : ∀ b, Nx P W1 w1 b → (fun b => P b ∨ (w.heap.size + 2 ≤ b ∧ b < w1.heap.size)) b := fun b hb => by
              rcases hb with hb | hb
              · exact .inl hb
              · have := HZ2.out; exact .inr ⟨by omega, hb.2⟩
            have hnlt : ∀ b, Nx P W1 w1 b → b < w1.heap.size := Nx.lt (fun b hb => by have := HP.out b hb; have := HZ2.out; omega) HK1.out.size
            exact ⟨w1.heap.size, A1, m1, c1, _, rfl, rfl, Lib.hid ⟨hs1, by simp, (HKW.out.trans HK1.out).trans KA, HV1.out.same hnx fun b hb => KA.block b (hnlt b hb), Blk.new w1 _ _, (HBX.out.keep HK1.out).keep KA, (HBZ.out.keep HK1.out).keep KA⟩⟩
      case rest =>
      obtain ⟨S, A1, m1, c1, W2, rfl, rfl, HM⟩ := hcut
      obtain ⟨hs1, hz3, k2, hv1, bs, bx, bz⟩ := HM.out
      have HBS := Lib.hid bs
      have HBX := Lib.hid bx
      have HBZ := Lib.hid bz
      have HV1 := Lib.hid hv1
      have HZ3 := Lib.hid hz3
      have K2 := Lib.hid k2
      have HB2 := HBX
      clear hz3 k2 hv1 bs bx bz HM
      have y2 : W2.cell? ⟨g, o * 9 + 1, none⟩ = some (.string sy) := (Keeps.cell K2.out hgl).trans y1
      have f2 : W2.frozen? ⟨g, o * 9 + 1, none⟩ = false := (row_below HRW.out K2.out).frozenAt _
      have B2 := HBX.out
      have hne : g ≠ w.heap.size := by omega
      have x2 : ∀ v, (W2.setCell ⟨g, o * 9 + 1, none⟩ v).cell? ⟨w.heap.size, 1, none⟩ = some (.string sx) := fun v => (B2.other hne.symm _ v).cell 1 rfl
      have e2 : ∀ v, (W2.setCell ⟨g, o * 9 + 1, none⟩ v).frozen? ⟨w.heap.size, 1, none⟩ = false := fun v => (B2.other hne.symm _ v).free 1
      clear B2
      go_upto_region 7 with fail
      have B4 := (HB2.out.other hne.symm (o * 9 + 1) (.string (sy.extract T sy.size))).set 1 (.string (sx.extract T sx.size)) rfl
      have Z4 := (HBZ.out.other (g := g) (by omega) (o * 9 + 1) (.string (sy.extract T sy.size))).other (g := w.heap.size) (by omega) 1 (.string (sx.extract T sx.size))
      have S4 := (HBS.out.other (g := g) (by omega) (o * 9 + 1) (.string (sy.extract T sy.size))).other (g := w.heap.size) (by omega) 1 (.string (sx.extract T sx.size))
      have R3 := (row_below HRW.out K2.out).stored (o * 9 + 1) (.string (sy.extract T sy.size))
      have G4 : w.grownBy ((W2.setCell ⟨g, o * 9 + 1, none⟩ (.string (sy.extract T sy.size))).setCell ⟨w.heap.size, 1, none⟩ (.string (sx.extract T sx.size))) (some g) := by
        have k1 := keeps_grown K2.out (some g)
        refine ⟨k1.os, k1.tape, k1.output, by rw [setCellSize, setCellSize]; exact k1.size, fun b hb hne2 => ?_⟩
        rw [heap_setCell_other _ ⟨w.heap.size, 1, none⟩ b _ (by show b ≠ w.heap.size; omega), heap_setCell_other _ ⟨g, o * 9 + 1, none⟩ b _ (fun e => hne2 (by rw [show b = g from e]))]
        exact k1.block b hb hne2
      have R4 : ((W2.setCell ⟨g, o * 9 + 1, none⟩ (.string (sy.extract T sy.size))).setCell ⟨w.heap.size, 1, none⟩ (.string (sx.extract T sx.size))).ownsRow n₀ 42 9 (.slice (some ⟨g, 0, none⟩) L.length cap) L.length (pcR (L.set o (y.set (y.text.drop T), z))) := by
        have e1 : pcR (L.set o (y.set (y.text.drop T), z)) = (pcR L).set (o * 9 + 1) (.string (sy.extract T sy.size)) := by
          have := pcR_set L o ho (y.text.drop T)
          rw [HYZ.out] at this
          rw [this, ← HSY.out]
          congr 2
          rw [ext_drop]
        rw [e1]
        exact row_same R3.1 fun b hb => heap_setCell_other _ ⟨w.heap.size, 1, none⟩ b _ (by cases hb; exact hne)
      have hsz4 : ((W2.setCell ⟨g, o * 9 + 1, none⟩ (.string (sy.extract T sy.size))).setCell ⟨w.heap.size, 1, none⟩ (.string (sx.extract T sx.size))).heap.size = S + 1 := by rw [setCellSize, setCellSize]; exact HZ3.out
      have HW24 : Hid (∀ b, b ≠ g → b ≠ w.heap.size → ((W2.setCell ⟨g, o * 9 + 1, none⟩ (.string (sy.extract T sy.size))).setCell ⟨w.heap.size, 1, none⟩ (.string (sx.extract T sx.size))).heap[b]? = W2.heap[b]?) := Lib.hid (fun b h1 h2 => by rw [heap_setCell_other _ ⟨w.heap.size, 1, none⟩ b _ h2, heap_setCell_other _ ⟨g, o * 9 + 1, none⟩ b _ h1])
      generalize (W2.setCell ⟨g, o * 9 + 1, none⟩ (.string (sy.extract T sy.size))).setCell ⟨w.heap.size, 1, none⟩ (.string (sx.extract T sx.size)) = W4 at *
      obtain ⟨sx', hsx'⟩ : ∃ sx', sx.extract T sx.size = sx' := ⟨_, rfl⟩
      rw [hsx'] at B4
      have NS : ∀ w', KG W4 g (w.heap.size + 1) w' → KG W4 g (w.heap.size + 1) w' ∧ Five0 w' S K (.slice A1 m1 c1) ∧ Nine1 w' w.heap.size x.kind sx' ⟨x.dest.toArray⟩ ⟨x.title.toArray⟩ (.slice A0 m0 c0) x.first x.opens x.closes x.single := fun w' k => by
        have b1 := k.blk S4 (by omega) (by omega)
        have b2 := k.blk B4 (by omega) (by omega)
        exact ⟨k, ⟨b1.cell 0 rfl, b1.cell 1 rfl, b1.cell 2 rfl, b1.cell 3 rfl, b1.cell 4 rfl⟩, ⟨b2.cell 0 rfl, b2.cell 1 rfl, b2.cell 2 rfl, b2.cell 3 rfl, b2.cell 4 rfl, b2.cell 5 rfl, b2.cell 6 rfl, b2.cell 7 rfl, b2.cell 8 rfl⟩⟩
      have q0 : ∀ w', KG W4 g (w.heap.size + 1) w' → w'.cell? ⟨w.heap.size + 1, 0, none⟩ = some (cellOf w' (w.heap.size + 1) 0) := fun w' k => k.cell 0 (by decide)
      have q1 : ∀ w', KG W4 g (w.heap.size + 1) w' → w'.cell? ⟨w.heap.size + 1, 1, none⟩ = some (cellOf w' (w.heap.size + 1) 1) := fun w' k => k.cell 1 (by decide)
      have q2 : ∀ w', KG W4 g (w.heap.size + 1) w' → w'.cell? ⟨w.heap.size + 1, 2, none⟩ = some (cellOf w' (w.heap.size + 1) 2) := fun w' k => k.cell 2 (by decide)
      have q3 : ∀ w', KG W4 g (w.heap.size + 1) w' → w'.cell? ⟨w.heap.size + 1, 3, none⟩ = some (cellOf w' (w.heap.size + 1) 3) := fun w' k => k.cell 3 (by decide)
      have q4 : ∀ w', KG W4 g (w.heap.size + 1) w' → w'.cell? ⟨w.heap.size + 1, 4, none⟩ = some (cellOf w' (w.heap.size + 1) 4) := fun w' k => k.cell 4 (by decide)
      have q5 : ∀ w', KG W4 g (w.heap.size + 1) w' → w'.cell? ⟨w.heap.size + 1, 5, none⟩ = some (cellOf w' (w.heap.size + 1) 5) := fun w' k => k.cell 5 (by decide)
      have q6 : ∀ w', KG W4 g (w.heap.size + 1) w' → w'.cell? ⟨w.heap.size + 1, 6, none⟩ = some (cellOf w' (w.heap.size + 1) 6) := fun w' k => k.cell 6 (by decide)
      have q7 : ∀ w', KG W4 g (w.heap.size + 1) w' → w'.cell? ⟨w.heap.size + 1, 7, none⟩ = some (cellOf w' (w.heap.size + 1) 7) := fun w' k => k.cell 7 (by decide)
      have q8 : ∀ w', KG W4 g (w.heap.size + 1) w' → w'.cell? ⟨w.heap.size + 1, 8, none⟩ = some (cellOf w' (w.heap.size + 1) 8) := fun w' k => k.cell 8 (by decide)
      have qf : ∀ w' i, KG W4 g (w.heap.size + 1) w' → w'.frozen? ⟨w.heap.size + 1, i, none⟩ = false := fun w' i k => k.free i
      have hoi : ((o + 1 : Nat) : Int) = (o : Int) + 1 := by omega
      have hwr : IntKind.i64.wrap ((o : Int) + 1) = (o : Int) + 1 := IntWalk.i64_in _ (by omega)
      have KB : Keeps W4 ((W4.alloc (.cells #[.int .i64 K, .string ⟨#[]⟩, .string ⟨#[]⟩, .string ⟨#[]⟩, .slice A1 m1 c1, .int .i64 0, .bool false, .bool false, .bool false] 42)).drew) := ((Keeps.refl _).alloc _).drew
      have RP := Lib.hid (replace_tail n₀ g L.length cap W4.heap.size (o + 1) (L.set o (y.set (y.text.drop T), z)) (spanP K [] [] [] (spansM ((L.map Prod.fst).drop (o + 1)))) (.slice A1 m1 c1) ((W4.alloc (.cells #[.int .i64 K, .string ⟨#[]⟩, .string ⟨#[]⟩, .string ⟨#[]⟩, .slice A1 m1 c1, .int .i64 0, .bool false, .bool false, .bool false] 42)).drew) (row_below R4 KB) (by omega) hn (by have := KB.size; omega) (fun j v hv => ((Blk.new W4 42 (pcC (spanP K [] [] [] (spansM ((L.map Prod.fst).drop (o + 1)))) (.slice A1 m1 c1)).toArray).drew).cell _ (by rw [Nat.zero_add, List.getElem?_toArray]; exact hv)) rfl)
      rw [hoi, hsz4] at RP
      clear hoi
      have hne1 : w.heap.size + 1 ≠ g := by omega
      have kg0 : KG W4 g (w.heap.size + 1) W4 := KG.refl Z4 rfl
      have kg1 : KG W4 g (w.heap.size + 1) W4.drew := kg0.grown (keeps_grown (Keeps.refl _).drew _) hne1
      have kg2 : KG W4 g (w.heap.size + 1) ((W4.alloc (.cells #[.int .i64 K, .string ⟨#[]⟩, .string ⟨#[]⟩, .string ⟨#[]⟩, .slice A1 m1 c1, .int .i64 0, .bool false, .bool false, .bool false] 42)).drew) := kg0.grown (keeps_grown KB _) hne1
      go_region_held3 (fun w' => KG W4 g (w.heap.size + 1) w' ∧ Five0 w' S K (.slice A1 m1 c1) ∧ Nine1 w' w.heap.size x.kind sx' ⟨x.dest.toArray⟩ ⟨x.title.toArray⟩ (.slice A0 m0 c0) x.first x.opens x.closes x.single)
        (first | (with_reducible assumption) | (with_reducible exact NS _ kg0) | (with_reducible exact NS _ kg1) | (with_reducible exact NS _ kg2) | (with_reducible exact NS _ kg9) | (refine NS _ ?_; (repeat (with_reducible refine KG.set _ _ ?_)); with_reducible assumption))
        (first | (go_at_call 36; go_loud ((with_reducible refine RP.out.mono ?_)); rintro e w9 ⟨v9, rfl, hr9, hg9, hw9⟩; have kg9 := KG.grown kg2 hg9 hne1))
      have Z9 := grown_cell hg9 ((Z4.alloc (.cells #[.int .i64 K, .string ⟨#[]⟩, .string ⟨#[]⟩, .string ⟨#[]⟩, .slice A1 m1 c1, .int .i64 0, .bool false, .bool false, .bool false] 42)).drew) hne1
      have ZF := ((((((((Z9.set 0 (.int .i64 x.kind) rfl).set 1 (.string sx') rfl).set 2 (.string ⟨x.dest.toArray⟩) rfl).set 3 (.string ⟨x.title.toArray⟩) rfl).set 4 (.slice A0 m0 c0) rfl).set 5 (.int .i64 x.first) rfl).set 6 (.bool x.opens) rfl).set 7 (.bool x.closes) rfl).set 8 (.bool x.single) rfl
      have KF := ((((((((kg9.set 0 (.int .i64 x.kind)).set 1 (.string sx')).set 2 (.string ⟨x.dest.toArray⟩)).set 3 (.string ⟨x.title.toArray⟩)).set 4 (.slice A0 m0 c0)).set 5 (.int .i64 x.first)).set 6 (.bool x.opens)).set 7 (.bool x.closes)).set 8 (.bool x.single)
      have hsame : ∀ b, b ≠ w.heap.size + 1 → (((((((((w9.setCell ⟨w.heap.size + 1, 0, none⟩ (.int .i64 x.kind)).setCell ⟨w.heap.size + 1, 1, none⟩ (.string sx')).setCell ⟨w.heap.size + 1, 2, none⟩ (.string ⟨x.dest.toArray⟩)).setCell ⟨w.heap.size + 1, 3, none⟩ (.string ⟨x.title.toArray⟩)).setCell ⟨w.heap.size + 1, 4, none⟩ (.slice A0 m0 c0)).setCell ⟨w.heap.size + 1, 5, none⟩ (.int .i64 x.first)).setCell ⟨w.heap.size + 1, 6, none⟩ (.bool x.opens)).setCell ⟨w.heap.size + 1, 7, none⟩ (.bool x.closes)).setCell ⟨w.heap.size + 1, 8, none⟩ (.bool x.single)).heap[b]? = w9.heap[b]? := fun b hb => by
        rw [heap_setCell_other _ ⟨w.heap.size + 1, 8, none⟩ b _ hb, heap_setCell_other _ ⟨w.heap.size + 1, 7, none⟩ b _ hb, heap_setCell_other _ ⟨w.heap.size + 1, 6, none⟩ b _ hb, heap_setCell_other _ ⟨w.heap.size + 1, 5, none⟩ b _ hb, heap_setCell_other _ ⟨w.heap.size + 1, 4, none⟩ b _ hb, heap_setCell_other _ ⟨w.heap.size + 1, 3, none⟩ b _ hb, heap_setCell_other _ ⟨w.heap.size + 1, 2, none⟩ b _ hb, heap_setCell_other _ ⟨w.heap.size + 1, 1, none⟩ b _ hb, heap_setCell_other _ ⟨w.heap.size + 1, 0, none⟩ b _ hb]
      generalize ((((((((w9.setCell ⟨w.heap.size + 1, 0, none⟩ (.int .i64 x.kind)).setCell ⟨w.heap.size + 1, 1, none⟩ (.string sx')).setCell ⟨w.heap.size + 1, 2, none⟩ (.string ⟨x.dest.toArray⟩)).setCell ⟨w.heap.size + 1, 3, none⟩ (.string ⟨x.title.toArray⟩)).setCell ⟨w.heap.size + 1, 4, none⟩ (.slice A0 m0 c0)).setCell ⟨w.heap.size + 1, 5, none⟩ (.int .i64 x.first)).setCell ⟨w.heap.size + 1, 6, none⟩ (.bool x.opens)).setCell ⟨w.heap.size + 1, 7, none⟩ (.bool x.closes)).setCell ⟨w.heap.size + 1, 8, none⟩ (.bool x.single) = WF at *
      have hxs : (⟨(x.text.drop T).toArray⟩ : ByteArray) = sx' := by rw [← hsx', ← HSX.out, ext_drop]
      have HPX : Hid (pairX (L.map Prod.fst) o x = x.set (x.text.drop T)) := Lib.hid (by unfold pairX; rw [HGD.out, HTT.out])
      have HFIN : Hid (PrPost P n₀ g w (pairL (L.map Prod.fst) o x) (x.set (x.text.drop T)) (.slice A0 m0 c0) (.returned (.tuple #[v9, .agg (pcA (x.set (x.text.drop T)) (.slice A0 m0 c0))])) WF) := Lib.hid (by
        have hKF := KF
        obtain ⟨⟨f1, f2', f3, f4⟩, f5, _⟩ := hKF
        have hold : ∀ b, b < w.heap.size → b ≠ g → WF.heap[b]? = w.heap[b]? := fun b hb hg2 => by
          rw [f5 b (by omega) hg2 (by omega)]
          exact G4.block b hb (fun e => hg2 (by cases e; rfl))
        have hPg : ∀ b, P b → b < w.heap.size ∧ b ≠ g := fun b hb => ⟨HP.out b hb, fun e => HOF.out b (by rw [e]; rfl) hb⟩
        have hmid : ∀ b, w.heap.size + 2 ≤ b → b < S → WF.heap[b]? = W2.heap[b]? := fun b h1 h2 => by
          rw [f5 b (by omega) (by omega) (by omega)]
          exact HW24.out b (by omega) (by omega)
        have hvb : ∀ b, v9.ownBlock = some b → b = g ∨ S + 1 ≤ b := fun b hb => by
          rcases hw9 with h | h
          · rw [h] at hb; cases hb; exact .inl rfl
          · rw [h] at hb; cases hb
            right
            show S + 1 ≤ (W4.alloc _).heap.size
            simp; omega
        have hsz9 : ∀ b, v9.ownBlock = some b → n₀ ≤ b ∧ b < w9.heap.size := fun b hb => hr9.lt b hb
        refine ⟨v9, (L.set o (y.set (y.text.drop T), z)).take (o + 1) ++ [(spanP K [] [] [] (spansM ((L.map Prod.fst).drop (o + 1))), .slice A1 m1 c1)], (fun b => P b ∨ (w.heap.size + 2 ≤ b ∧ b < S)), rfl, ⟨?_, ?_, ?_, ?_⟩, ?_, ?_, fun b hb => .inl hb, fun b hb => ?_, ?_, fun b hb => ?_⟩
        · exact row_same hr9 fun b hb => hsame b (by
            rcases hvb b hb with h | h
            · rw [h]; omega
            · omega)
        · intro q hq
          rcases List.mem_append.1 hq with hq | hq
          · have hq2 : SpsAt w P q.1.kids q.2 := by
              have hm := List.mem_of_mem_take hq
              rcases List.mem_or_eq_of_mem_set hm with h | h
              · exact HKD.out q h
              · rw [h]
                have := HKD.out L[o] (List.getElem_mem ho)
                rw [HYZ.out] at this
                exact this
            exact hq2.same (fun b hb => .inl hb) fun b hb => hold b (hPg b hb).1 (hPg b hb).2
          · rw [List.mem_singleton] at hq
            subst hq
            have := HV1.out
            rw [map_drop'] at this
            exact this.same (fun b hb => hb) fun b hb => by
              rcases hb with hb | hb
              · rw [hold b (hPg b hb).1 (hPg b hb).2]
                exact (K2.out.block b (hPg b hb).1).symm
              · exact hmid b hb.1 hb.2
        · intro b hb
          rcases hb with hb | hb
          · have := (hPg b hb).1; omega
          · omega
        · intro b hb hc
          rcases hvb b hb with h | h
          · rcases hc with hc | hc
            · exact (hPg b hc).2 h
            · omega
          · rcases hc with hc | hc
            · have := (hPg b hc).1; omega
            · omega
        · unfold pairL
          rw [HGD.out, HTT.out, HKK.out, List.map_append, List.map_take, List.map_set]
          rw [List.take_set, List.take_succ_eq_append_getElem (by rw [List.length_map]; exact ho)]
          rw [List.set_append_right _ _ (by rw [List.length_take, List.length_map]; omega)]
          simp [Nat.min_eq_left (Nat.le_of_lt ho)]
        · exact HU.out.same (fun b hb => .inl hb) fun b hb => hold b (hPg b hb).1 (hPg b hb).2
        · rcases hb with hb | hb
          · exact .inl hb
          · exact .inr (by omega)
        · exact ⟨f1.trans G4.os, f2'.trans G4.tape, f3.trans G4.output, by have := G4.size; omega, fun b hb hne2 => hold b hb (fun e => hne2 (by rw [e]))⟩
        · rcases hvb b hb with h | h
          · exact .inl h
          · exact .inr (by omega))
      unfold pcA at HFIN
      rw [set_text, hxs] at HFIN
      go_wp2_with fail
      refine ret_2blk rfl rfl rfl rfl ZF Tryz.underlying42 (by kernel_rfl) ?_
      rw [HPX.out]
      exact HFIN.out
end Go.Proofs.YtklmgbkkjmfhcaaGreatDoor


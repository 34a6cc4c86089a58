/-
  Texts of the proof, one behind the other: Ins, Ino.
-/
import Derived.Test.YtklmgbkkjmfhcaaGreatDoorM14
import Derived.Test.YtklmgbkkjmfhcaaGreatDoorM17
/-
  Contracts of inline's textOf, joined.
-/
namespace Go.Proofs.YtklmgbkkjmfhcaaGreatDoor
open Go.RowKit Go.Lib

def zeroSp : Array Value := #[.int .i64 0, .string ⟨#[]⟩, .string ⟨#[]⟩, .string ⟨#[]⟩, .slice none 0 0]
def zeroPc : Array Value := #[.int .i64 0, .string ⟨#[]⟩, .string ⟨#[]⟩, .string ⟨#[]⟩, .slice none 0 0, .int .i64 0, .bool false, .bool false, .bool false]
theorem sizeSp : (Tryz.prog.info? 31).map (·.size) = some 5 := by kernel_rfl
theorem sizePc : (Tryz.prog.info? 42).map (·.size) = some 9 := by kernel_rfl
set_option maxRecDepth 100000 in
set_option maxHeartbeats 2000000 in
theorem textOf_any (s : ByteArray) (w : World) :
    Calls Tryz.prog 20 #[.string s] w fun e w' => e = .returned (.agg #[.int .i64 1, .string s, .string ⟨#[]⟩, .string ⟨#[]⟩, .slice none 0 0]) ∧ Keeps w w' := by
  go_enter Tryz.func20, Tryz.ntmps20
  go_wp2_with (refine wpList_store_row rfl 31 _ _ rfl w.heap.size #[.int .i64 1, .string s, .string ⟨#[]⟩, .string ⟨#[]⟩, .slice none 0 0] rfl rfl 31 _ (heap_alloc_last w _) (by kernel_rfl) rfl (by simp [Value.oneCell']) ?_)
  rw [World.setRow_alloc_new]
  go_wp2_with fail
  exact ret_blk rfl rfl rfl (Blk.new w 31 _) Tryz.underlying31 (by kernel_rfl) ⟨rfl, (Keeps.refl w).alloc _⟩
/-- What the first k pieces are, joined. -/
def JnAt (L : List Pc) (k : Nat) (acc : List UInt8) : Prop := joinT L = acc ++ joinT (L.drop k) ∧ joinN L = k + joinN (L.drop k)
theorem jnAt_start (L : List Pc) : JnAt L 0 [] := ⟨rfl, by rw [List.drop_zero]; omega⟩
theorem jnAt_next {L : List Pc} {k : Nat} {acc : List UInt8} {x : Pc} (h : JnAt L k acc) (e : L.drop k = x :: L.drop (k + 1)) (hx : x.kind = 1) : JnAt L (k + 1) (acc ++ x.text) := by
  obtain ⟨h1, h2⟩ := h
  rw [e] at h1 h2
  rw [joinT, if_pos hx] at h1
  rw [joinN, if_pos hx] at h2
  exact ⟨by rw [h1, List.append_assoc], by omega⟩
theorem jnAt_stop {L : List Pc} {k : Nat} {acc : List UInt8} {x : Pc} (h : JnAt L k acc) (e : L.drop k = x :: L.drop (k + 1)) (hx : ¬ x.kind = 1) : joinT L = acc ∧ joinN L = k := by
  obtain ⟨h1, h2⟩ := h
  rw [e] at h1 h2
  rw [joinT, if_neg hx, List.append_nil] at h1
  rw [joinN, if_neg hx] at h2
  exact ⟨h1, h2⟩
theorem jnAt_end {L : List Pc} {k : Nat} {acc : List UInt8} (h : JnAt L k acc) (hk : L.length ≤ k) : joinT L = acc ∧ joinN L = k := by
  obtain ⟨h1, h2⟩ := h
  rw [List.drop_eq_nil_of_le hk] at h1 h2
  exact ⟨by rw [h1]; exact List.append_nil _, h2⟩
theorem acc_le {L : List Pc} {k : Nat} {acc : List UInt8} (h : JnAt L k acc) : acc.length ≤ tsum L := by
  have := join_tsum L
  rw [h.1, List.length_append] at this
  omega
theorem ret_jn {a b : List UInt8} {m n : Nat} (h : a = b) (k : m = n) : Ending.returned (.tuple #[.string ⟨a.toArray⟩, .int .i64 n]) = .returned (.tuple #[.string ⟨b.toArray⟩, .int .i64 m]) := by rw [h, k]
theorem newBl (w : World) : Bl2 w.heap.size w.heap.size [] (w.alloc (.cells #[.pointer none, .slice none 0 0] 75)) :=
  .inl ⟨Nat.le_refl _, .slice none 0 0, heap_alloc_last _ _, ⟨rfl, .inl ⟨rfl, rfl⟩⟩, by simp [Value.ownBlock]⟩
theorem Bl2.alloc {B b : Nat} {l : List UInt8} {w : World} (h : Bl2 B b l w) (o : Obj) : Bl2 B b l (w.alloc o) := by
  rcases h with h | h
  · exact .inl (h.alloc o)
  · exact .inr (h.alloc o)
theorem map_drop_at {L : List (Pc × Value)} {k : Nat} (h : k < L.length) : (L.map Prod.fst).drop k = L[k].1 :: (L.map Prod.fst).drop (k + 1) := by
  rw [List.drop_eq_getElem_cons (by rw [List.length_map]; exact h), List.getElem_map]
theorem Keeps.trans_below {a b c : World} (h : Keeps a b) (k : Below a.heap.size b c) : Keeps a c := Below.trans h k
/-- What it holds, as a text. -/
theorem string_two (B b : Nat) (l : List UInt8) (w : World) (h : Bl2 B b l w) (hBw : B ≤ w.heap.size) :
    Calls Tryz.prog 42 #[.pointer (some ⟨b, 0, none⟩)] w fun e w' => e = .returned (.string ⟨l.toArray⟩) ∧ Below B w w' := by
  by_cases h0 : l = []
  · subst h0
    exact (Tryz.Builder_String_empty_f B b w h hBw).mono fun _ _ ⟨e, _, k⟩ => ⟨e, k⟩
  · exact (Tryz.Builder_String_f B b l w h h0).mono fun _ _ ⟨e, _, k⟩ => ⟨e, k⟩
set_option maxRecDepth 100000 in
set_option maxHeartbeats 4000000 in
theorem joined_any (A : Option Addr) (n c : Nat) (L : List (Pc × Value)) (w : World) (hV : Vw w A n L) (hn : n ≤ 1000000) (hs : tsum (L.map Prod.fst) ≤ 1000000) (hv : ∀ x ∈ L, x.2.oneCell' = true) :
    Calls Tryz.prog 19 #[.slice A n c] w fun e w' => e = .returned (.tuple #[.string ⟨(joinT (L.map Prod.fst)).toArray⟩, .int .i64 (joinN (L.map Prod.fst) : Nat)]) ∧ Keeps w w' := by
  have HV := Lib.hid (fun W (k : Keeps w W) => hV.keep k)
  have HL := Lib.hid hV.1
  have HO := Lib.hid hv
  have HB := Lib.hid (newBl w)
  have HS := Lib.hid hs
  have HK := Lib.hid ((Keeps.refl w).alloc (.cells #[.pointer none, .slice none 0 0] 75))
  clear hV hv hs
  go_enter Tryz.func19, Tryz.ntmps19
  go_wp2_with fail
  go_loopw [9] (fun i wr => ∃ (k : Nat) (acc : List UInt8), k ≤ n ∧ i = .int .i64 k ∧ Hid (Bl2 w.heap.size w.heap.size acc wr) ∧ Hid (Keeps w wr) ∧ Hid (JnAt (L.map Prod.fst) k acc)) (fun i _ => n - (RowKit.intOf i).toNat)
  case atStart => exact ⟨0, [], Nat.zero_le _, rfl, HB, HK, Lib.hid (jnAt_start _)⟩
  case round =>
    obtain ⟨k, acc, hk, rfl, HB1, HK1, HJ⟩ := hrel
    have ha := acc_le HJ.out
    have hT := HS.out
    have hsz := HK1.out.size
    by_cases hlt : k < n
    · have hkl : k < L.length := by rw [HL.out]; exact hlt
      obtain ⟨g, o, rfl, hc⟩ := (HV.out _ HK1.out).2 (by omega)
      have hx := HO.out L[k] (List.getElem_mem hkl)
      have HE := Lib.hid (map_drop_at hkl)
      have HC := Lib.hid (hc k hkl)
      clear hc
      obtain ⟨⟨x, v⟩, hxv⟩ : ∃ y, L[k] = y := ⟨_, rfl⟩
      rw [hxv] at hx HE HC
      dsimp only at hx HE HC
      have h1 := pcC_one x hx
      have HA := Lib.hid (all_oneCell_toArray h1)
      have HZ : Hid ((Tryz.prog.info? 42).map (·.size) = some (pcC x v).length) := Lib.hid sizePc
      clear h1 hxv hx
      have HB2 := Lib.hid (HB1.out.alloc (.cells (pcC x v).toArray 42))
      have HK2 := Lib.hid (HK1.out.alloc (.cells (pcC x v).toArray 42))
      have hN := Blk.new wr 42 (pcC x v).toArray
      have y0 := hN.cell 0 (v := .int .i64 x.kind) rfl
      have y1 := hN.cell 1 (v := .string ⟨x.text.toArray⟩) rfl
      clear hN
      by_cases ht : x.kind = 1
      · have t1 : ((x.kind : Int) == 1) = true := by rw [ht]; rfl
        have HJ2 := Lib.hid (jnAt_next HJ.out HE.out ht)
        have ha2 := acc_le HJ2.out
        rw [List.length_append] at ha2
        have WS := Lib.hid (writeString_two w.heap.size w.heap.size acc ⟨x.text.toArray⟩ _ HB2.out (by show _ + x.text.toArray.size ≤ _; rw [List.size_toArray]; omega) HK2.out.size)
        clear ht
        go_wp2_with (first
          | (refine wpList_load_mid rfl 42 _ rfl g (o + k * 9) rfl (pcC x v) _ HC.out Tryz.underlying42 rfl HZ.out ?_)
          | (refine wpList_store_row rfl 42 _ _ rfl wr.heap.size (pcC x v).toArray rfl rfl 42 _ (heap_alloc_last wr _) HZ.out rfl HA.out ?_; rw [World.setRow_alloc_new]))
        refine WS.out.mono ?_
        rintro e w1 ⟨rfl, b1, b2, b3⟩
        have HB3 : Hid (Bl2 w.heap.size w.heap.size (acc ++ x.text) w1) := Lib.hid (.inr b1)
        have HK3 := Lib.hid (HK2.out.trans_below b2)
        clear b1 b2 b3 y0 y1
        go_wp2_with fail
        go_roundw
        case rel => exact ⟨k + 1, acc ++ x.text, by omega, by go_num, HB3, HK3, HJ2⟩
        case measure => simp [RowKit.intOf]; omega
      · have t1 : ((x.kind : Int) == 1) = false := by simp; omega
        have HE2 := Lib.hid (jnAt_stop HJ.out HE.out ht)
        have SS := Lib.hid (string_two w.heap.size w.heap.size acc _ HB2.out HK2.out.size)
        clear ht
        go_wp2_with (first
          | (refine wpList_load_mid rfl 42 _ rfl g (o + k * 9) rfl (pcC x v) _ HC.out Tryz.underlying42 rfl HZ.out ?_)
          | (refine wpList_store_row rfl 42 _ _ rfl wr.heap.size (pcC x v).toArray rfl rfl 42 _ (heap_alloc_last wr _) HZ.out rfl HA.out ?_; rw [World.setRow_alloc_new]))
        refine SS.out.mono ?_
        rintro e w1 ⟨rfl, b1⟩
        have HK3 := Lib.hid (HK2.out.trans_below b1)
        clear b1 y0 y1
        go_wp2_with fail
        go_ret2
        exact ⟨ret_jn HE2.out.1.symm HE2.out.2, HK3.out⟩
    · have HE2 := Lib.hid (jnAt_end HJ.out (by rw [List.length_map, HL.out]; omega))
      have hkn : k = n := by omega
      have HN := Lib.hid hkn
      have SS := Lib.hid (string_two w.heap.size w.heap.size acc _ HB1.out HK1.out.size)
      clear hkn
      go_wp2_with fail
      refine SS.out.mono ?_
      rintro e w1 ⟨rfl, b1⟩
      have HK3 := Lib.hid (HK1.out.trans_below b1)
      clear b1
      go_wp2_with fail
      go_ret2
      exact ⟨ret_jn HE2.out.1.symm (HE2.out.2.trans HN.out), HK3.out⟩
end Go.Proofs.YtklmgbkkjmfhcaaGreatDoor

/-
  Contract of inline's spans.
-/
namespace Go.Proofs.YtklmgbkkjmfhcaaGreatDoor
open Go.RowKit Go.Lib

theorem cells_new (w : World) (cs : List Value) (t : TypeId) : ∀ j u, cs[j]? = some u → (w.alloc (.cells cs.toArray t)).cell? ((⟨w.heap.size, 0, none⟩ : Addr).add j) = some u := by
  intro j u hj
  rw [Addr.add_mid, Nat.zero_add]
  exact (Blk.new w t cs.toArray).cell j (by rw [List.getElem?_toArray]; exact hj)
theorem range_cell {W : World} {g o : Nat} {cs : List Value} (h : W.rangeAt g o cs) (j : Nat) {v : Value} (hv : cs[j]? = some v) : W.cell? ⟨g, o + j, none⟩ = some v := h j v hv
/-- The span in a piece. -/
theorem range_span {W : World} {g o : Nat} {x : Pc} {v : Value} (h : W.rangeAt g o (pcC x v)) : W.rangeAt g o [.int .i64 x.kind, .string ⟨x.text.toArray⟩, .string ⟨x.dest.toArray⟩, .string ⟨x.title.toArray⟩, v] := fun j u hj => by
  refine h j u ?_
  have hl := (List.getElem?_eq_some_iff.1 hj).1
  simp only [List.length_cons, List.length_nil] at hl
  match j, hl with
  | 0, _ => exact hj
  | 1, _ => exact hj
  | 2, _ => exact hj
  | 3, _ => exact hj
  | 4, _ => exact hj
/-- Spans that were told so far. -/
structure TdAt (W : World) (P : Nat → Prop) (n₀ : Nat) (v : Value) (D : List (Sp × Value)) : Prop where
  row : W.ownsRow n₀ 31 5 v D.length (spR D)
  kid : ∀ x ∈ D, SpsAt W P x.1.kids x.2
theorem TdAt.nil (W : World) (P : Nat → Prop) (n₀ : Nat) : TdAt W P n₀ (.slice none 0 0) [] := ⟨World.ownsRow_nil _ _ _ _, fun x hx => by cases hx⟩
theorem TdAt.keep {W W' : World} {P : Nat → Prop} {n₀ : Nat} {v : Value} {D : List (Sp × Value)} (h : TdAt W P n₀ v D) (hP : ∀ b, P b → b < W.heap.size) (k : Keeps W W') : TdAt W' P n₀ v D := ⟨row_below h.row k, fun x hx => (h.kid x hx).keep hP k⟩
/-- One more. -/
theorem TdAt.more {W W' : World} {P : Nat → Prop} {n₀ : Nat} {v v' : Value} {D : List (Sp × Value)} {s : Sp} {u : Value} (h : TdAt W P n₀ v D) (hP : ∀ b, P b → b < n₀) (hn : n₀ ≤ W.heap.size) (hu : SpsAt W P s.kids u)
    (hr : W'.ownsRow n₀ 31 5 v' (D.length + 1) (spR D ++ spC s u)) (hg : W.grownBy W' v.ownBlock) : TdAt W' P n₀ v' (D ++ [(s, u)]) := by
  have hb : ∀ b, P b → W'.heap[b]? = W.heap[b]? := fun b hb => hg.block b (by have := hP b hb; omega) (fun e => by have := (h.row.lt b e.symm).1; have := hP b hb; omega)
  refine ⟨?_, fun x hx => ?_⟩
  · rw [List.length_append, List.length_singleton, spR_app]
    have e : spR [(s, u)] = spC s u := by unfold spR; simp
    rw [e]; exact hr
  · rcases List.mem_append.1 hx with hx | hx
    · exact (h.kid x hx).same (fun _ => id) hb
    · rw [List.mem_singleton] at hx
      subst hx
      exact hu.same (fun _ => id) hb
theorem row_mono {w : World} {n m k z : Nat} {e : TypeId} {v : Value} {vs : List Value} (h : w.ownsRow n e z v k vs) (hm : m ≤ n) : w.ownsRow m e z v k vs := by
  refine ⟨h.1, ?_⟩
  rcases h.2 with h2 | ⟨g, cap, cur, e1, hb, r⟩
  · exact .inl h2
  · exact .inr ⟨g, cap, cur, e1, Nat.le_trans hm hb, r⟩
theorem TdAt.done {W : World} {P : Nat → Prop} {w : World} {v : Value} {D : List (Sp × Value)} (h : TdAt W P w.heap.size v D) : SpsAt W (Nx P w W) (D.map Prod.fst) v :=
  .mk D v (row_mono h.row (Nat.zero_le _)) (fun g e => .inr (h.row.lt g e)) fun x hx => (h.kid x hx).same (fun _ => .inl) fun _ _ => rfl
/-- Where spans' loop stands. -/
def SpAt2 (L0 : List Pc) (L : List (Pc × Value)) (D : List (Sp × Value)) : Prop := D.map Prod.fst ++ spansM (L.map Prod.fst) = spansM L0
theorem spAt_other {L0 : List Pc} {x : Pc} {v : Value} {L : List (Pc × Value)} {D : List (Sp × Value)} (h : SpAt2 L0 ((x, v) :: L) D) (hx : ¬ x.kind = 1) : SpAt2 L0 L (D ++ [(x.sp, v)]) := by
  unfold SpAt2 at *
  rw [List.map_cons, spans_other _ hx] at h
  rw [← h, List.map_append, List.append_assoc]; rfl
theorem map_drop' (L : List (Pc × Value)) (k : Nat) : (L.drop k).map Prod.fst = (L.map Prod.fst).drop k := List.map_drop
theorem spAt_text {L0 : List Pc} {L : List (Pc × Value)} {D : List (Sp × Value)} (h : SpAt2 L0 L D) (ht : joinT (L.map Prod.fst) ≠ []) : SpAt2 L0 (L.drop (joinN (L.map Prod.fst))) (D ++ [(txtS (joinT (L.map Prod.fst)), .slice none 0 0)]) := by
  unfold SpAt2 at *
  rw [spans_text] at h
  unfold oneT at h
  rw [if_neg ht] at h
  rw [← h, List.map_append, List.append_assoc, map_drop']; rfl
theorem spAt_none {L0 : List Pc} {L : List (Pc × Value)} {D : List (Sp × Value)} (h : SpAt2 L0 L D) (ht : joinT (L.map Prod.fst) = []) : SpAt2 L0 (L.drop (joinN (L.map Prod.fst))) D := by
  unfold SpAt2 at *
  rw [spans_text] at h
  unfold oneT at h
  rw [if_pos ht] at h
  rw [← h, map_drop']; rfl
def sizeOfSl : Value → Nat
  | .slice _ n _ => n
  | _ => 0
theorem tsum_dropL (L : List (Pc × Value)) (k : Nat) : tsum ((L.drop k).map Prod.fst) ≤ tsum (L.map Prod.fst) := by
  rw [map_drop']
  have := tsum_split (L.map Prod.fst) k
  omega
def SpsPost (P : Nat → Prop) (w : World) (l : List Sp) (e : Ending) (w' : World) : Prop := ∃ v, e = .returned v ∧ SpsAt w' (Nx P w w') l v ∧ Keeps w w'
set_option maxRecDepth 100000 in
set_option maxHeartbeats 8000000 in
theorem spans_any (A : Option Addr) (n c : Nat) (L : List (Pc × Value)) (P : Nat → Prop) (w : World) (hV : Vw w A n L) (hK : KidsAt w P L) (hP : ∀ b, P b → b < w.heap.size) (hn : n ≤ 1000000) (hnc : n ≤ c) (hc : c ≤ maxLen) (hs : tsum (L.map Prod.fst) ≤ 1000000) :
    Calls Tryz.prog 8 #[.slice A n c] w (SpsPost P w (spansM (L.map Prod.fst))) := by
  obtain ⟨i0, hi, hz0, hz1, hz2⟩ := info_parts infoSp
  unfold maxLen at hc
  have HV := Lib.hid hV
  have HK := Lib.hid hK
  have HP := Lib.hid hP
  have HS := Lib.hid hs
  obtain ⟨G, hG⟩ : ∃ G, spansM (L.map Prod.fst) = G := ⟨_, rfl⟩
  have HG : Hid (SpAt2 (L.map Prod.fst) L []) := Lib.hid rfl
  rw [hG]
  have HGG := Lib.hid hG
  clear hV hK hP hs hG
  go_enter Tryz.func8, Tryz.ntmps8
  go_wp2_with fail
  go_loopw [0, 3] (fun l v wr => ∃ (A' : Option Addr) (m cap : Nat) (L' : List (Pc × Value)) (D : List (Sp × Value)), l = .slice A' m cap ∧ m ≤ cap ∧ cap ≤ c ∧ D.length + m ≤ n ∧ w.heap.size ≤ wr.heap.size ∧ Hid (Vw w A' m L') ∧ Hid (KidsAt w P L') ∧ Hid (tsum (L'.map Prod.fst) ≤ 1000000) ∧ Hid (TdAt wr P w.heap.size v D) ∧ Hid (SpAt2 (L.map Prod.fst) L' D) ∧ Hid (Keeps w wr)) (fun l _ _ => sizeOfSl l)
  case atStart => exact ⟨A, n, c, L, [], rfl, hnc, Nat.le_refl _, by simp, Nat.le_refl _, HV, HK, HS, Lib.hid (TdAt.nil _ _ _), HG, Lib.hid (Keeps.refl w)⟩
  case round =>
    obtain ⟨A', m, cap, L', D, rfl, hmc, hcc, hDm, hsz, HV1, HK1, HS1, HD, HA, HKw⟩ := hrel
    rename_i v
    cases L' with
    | nil =>
      have hm : m = 0 := HV1.out.1.symm
      subst hm
      have HE : Hid (D.map Prod.fst = G) := Lib.hid (by
        have := HA.out
        unfold SpAt2 at this
        rw [List.map_nil, spans_nil, List.append_nil] at this
        rw [this]; exact HGG.out)
      go_wp2_with fail
      go_ret
      exact ⟨_, rfl, by rw [← HE.out]; exact HD.out.done, HKw.out⟩
    | cons y L' =>
      obtain ⟨x, u⟩ := y
      obtain ⟨g, o, rfl, hr⟩ := (HV1.out.keep HKw.out).head
      dsimp only at hr
      have hm : 0 < m := by have := HV1.out.1; rw [List.length_cons] at this; omega
      have hk0 := range_cell hr 0 (v := .int .i64 x.kind) rfl
      rw [Nat.add_zero] at hk0
      have HR := Lib.hid (range_span hr)
      have HKx : Hid (SpsAt wr P x.kids u) := Lib.hid ((HK1.out (x, u) (by simp)).keep HP.out HKw.out)
      have hu := HKx.out.one
      by_cases ht : x.kind = 1
      · have t1 : ((x.kind : Int) == 1) = true := by rw [ht]; rfl
        have hjp := join_pos (L'.map Prod.fst) ht
        have hjl := join_le (((x, u) :: L').map Prod.fst)
        rw [List.length_map, HV1.out.1] at hjl
        rw [← List.map_cons (f := Prod.fst) (a := (x, u))] at hjp
        have hN1 : 1 ≤ joinN (((x, u) :: L').map Prod.fst) := by omega
        have JN := Lib.hid (joined_any (some ⟨g, o, none⟩) m cap ((x, u) :: L') wr (HV1.out.keep HKw.out) (by omega) HS1.out (fun y hy => (HK1.out y hy).one))
        have HTX := Lib.hid (fun h => spAt_text HA.out h)
        have HTN := Lib.hid (fun h => spAt_none HA.out h)
        have HV2 := Lib.hid (HV1.out.cutS (k := joinN (((x, u) :: L').map Prod.fst)) (cap := cap) hjl hmc)
        have HK3 := Lib.hid (HK1.out.drop (joinN (((x, u) :: L').map Prod.fst)))
        have HS2 : Hid (tsum ((((x, u) :: L').drop (joinN (((x, u) :: L').map Prod.fst))).map Prod.fst) ≤ 1000000) := Lib.hid (Nat.le_trans (tsum_dropL _ _) HS1.out)
        clear ht hjp hr HR HKx HA
        generalize joinN (((x, u) :: L').map Prod.fst) = N at *
        generalize joinT (((x, u) :: L').map Prod.fst) = T at *
        cases T with
        | nil =>
          have HA2 := Lib.hid (HTN.out rfl)
          go_wp2_with fail
          refine JN.out.mono ?_
          rintro e w1 ⟨rfl, k1⟩
          have HK1' := Lib.hid (HKw.out.trans k1)
          have HD2 := Lib.hid (HD.out.keep (fun b hb => by have := HP.out b hb; omega) k1)
          have hs1 := k1.size
          clear k1
          go_wp2_with fail
          go_roundw
          case rel => exact ⟨_, _, _, ((x, u) :: L').drop N, D, rfl, by omega, by omega, by omega, by omega, HV2, HK3, HS2, HD2, HA2, HK1'⟩
          case measure => simp [sizeOfSl]; omega
        | cons a t =>
          have HA2 := Lib.hid (HTX.out (by simp))
          have TX := Lib.hid (fun W => textOf_any ⟨(a :: t).toArray⟩ W)
          go_wp2_with fail
          refine JN.out.mono ?_
          rintro e w1 ⟨rfl, k1⟩
          have HK1' := Lib.hid (HKw.out.trans k1)
          have HD1 := Lib.hid (HD.out.keep (fun b hb => by have := HP.out b hb; omega) k1)
          have hs1 := k1.size
          clear k1
          go_wp2_with fail
          refine (TX.out _).mono ?_
          rintro e w2 ⟨rfl, k2⟩
          have HK2' := Lib.hid (HK1'.out.trans k2)
          have HD2 := Lib.hid (HD1.out.keep (fun b hb => by have := HP.out b hb; omega) k2)
          have hs2 := k2.size
          clear k2
          have HKA := Lib.hid (HK2'.out.alloc (.cells #[.int .i64 1, .string ⟨(a :: t).toArray⟩, .string ⟨#[]⟩, .string ⟨#[]⟩, .slice none 0 0] 31))
          have hown := row_below HD2.out.row ((Keeps.refl w2).alloc (.cells #[.int .i64 1, .string ⟨(a :: t).toArray⟩, .string ⟨#[]⟩, .string ⟨#[]⟩, .slice none 0 0] 31))
          have hnw := cells_new w2 [.int .i64 1, .string ⟨(a :: t).toArray⟩, .string ⟨#[]⟩, .string ⟨#[]⟩, .slice none 0 0] 31
          have hz : (w2.alloc (.cells #[.int .i64 1, .string ⟨(a :: t).toArray⟩, .string ⟨#[]⟩, .string ⟨#[]⟩, .slice none 0 0] 31)).heap.size = w2.heap.size + 1 := by simp
          go_wp2_with (at_builtin; go_loud (
            refine wpList_append_own _ rfl _ _ 25 rfl w.heap.size 31 i0 (.agg zeroSp) 5 80 Tryz.underlying25 hi hz0 hz1 hz2 rfl (by decide) _ _ _ rfl hown ⟨w2.heap.size, 0, none⟩ 1 1 [.int .i64 1, .string ⟨(a :: t).toArray⟩, .string ⟨#[]⟩, .string ⟨#[]⟩, .slice none 0 0] rfl rfl hnw (spC_one (txtS (a :: t)) (v := .slice none 0 0) rfl) (by simp only [maxLen]; omega) (by omega) (by simp; omega) ?_
            intro v' w3 hown' hgrow _))
          have hs3 := hgrow.size
          have HD3 : Hid (TdAt w3 P w.heap.size v' (D ++ [(txtS (a :: t), .slice none 0 0)])) := Lib.hid ((HD2.out.keep (fun b hb => by have := HP.out b hb; omega) ((Keeps.refl w2).alloc _)).more HP.out (by omega) (SpsAt.nil _ _) hown' hgrow)
          have HK3' := Lib.hid (rows_grown hown HKA.out hgrow)
          clear hnw hown hown' hgrow
          go_wp2_with fail
          go_roundw
          case rel => exact ⟨_, _, _, ((x, u) :: L').drop N, D ++ [(txtS (a :: t), .slice none 0 0)], rfl, by omega, by omega, by rw [List.length_append, List.length_singleton]; omega, by omega, HV2, HK3, HS2, HD3, HA2, HK3'⟩
          case measure => simp [sizeOfSl]; omega
      · have t1 : ((x.kind : Int) == 1) = false := by simp; omega
        have HA2 := Lib.hid (spAt_other HA.out ht)
        have HKA := Lib.hid (HKw.out.alloc (.cells #[.int .i64 x.kind, .string ⟨x.text.toArray⟩, .string ⟨x.dest.toArray⟩, .string ⟨x.title.toArray⟩, u] 31))
        have hown := row_below HD.out.row ((Keeps.refl wr).alloc (.cells #[.int .i64 x.kind, .string ⟨x.text.toArray⟩, .string ⟨x.dest.toArray⟩, .string ⟨x.title.toArray⟩, u] 31))
        have hnw := cells_new wr [.int .i64 x.kind, .string ⟨x.text.toArray⟩, .string ⟨x.dest.toArray⟩, .string ⟨x.title.toArray⟩, u] 31
        clear ht hr
        go_wp2_with (first
          | (refine wpList_load_mid rfl 31 _ rfl g o rfl [.int .i64 x.kind, .string ⟨x.text.toArray⟩, .string ⟨x.dest.toArray⟩, .string ⟨x.title.toArray⟩, u] _ HR.out Tryz.underlying31 rfl sizeSp ?_)
          | (at_builtin; go_loud (
            refine wpList_append_own _ rfl _ _ 25 rfl w.heap.size 31 i0 (.agg zeroSp) 5 80 Tryz.underlying25 hi hz0 hz1 hz2 rfl (by decide) _ _ _ rfl hown ⟨wr.heap.size, 0, none⟩ 1 1 [.int .i64 x.kind, .string ⟨x.text.toArray⟩, .string ⟨x.dest.toArray⟩, .string ⟨x.title.toArray⟩, u] rfl rfl hnw (spC_one x.sp hu) (by simp only [maxLen]; omega) (by omega) (by simp; omega) ?_
            intro v' w2 hown' hgrow _)))
        have hs2 := hgrow.size
        have hz : (wr.alloc (.cells #[.int .i64 x.kind, .string ⟨x.text.toArray⟩, .string ⟨x.dest.toArray⟩, .string ⟨x.title.toArray⟩, u] 31)).heap.size = wr.heap.size + 1 := by simp
        have HD2 : Hid (TdAt w2 P w.heap.size v' (D ++ [(x.sp, u)])) := Lib.hid ((HD.out.keep (fun b hb => by have := HP.out b hb; omega) ((Keeps.refl wr).alloc _)).more HP.out (by omega) (HKx.out.keep (fun b hb => by have := HP.out b hb; omega) ((Keeps.refl wr).alloc _)) hown' hgrow)
        have HK2 := Lib.hid (rows_grown hown HKA.out hgrow)
        have HV2 := Lib.hid (HV1.out.cut (k := 1) (cap := cap) (by omega) hmc)
        have HK3 : Hid (KidsAt w P L') := Lib.hid (HK1.out.drop 1)
        have HS2 : Hid (tsum (L'.map Prod.fst) ≤ 1000000) := Lib.hid (by have := HS1.out; rw [List.map_cons, tsum_cons] at this; omega)
        clear hnw hown hown' hgrow
        go_wp2_with fail
        go_roundw
        case rel => exact ⟨_, _, _, L', D ++ [(x.sp, u)], rfl, by omega, by omega, by rw [List.length_append, List.length_singleton]; omega, by omega, HV2, HK3, HS2, HD2, HA2, HK2⟩
        case measure => simp [sizeOfSl]; omega
end Go.Proofs.YtklmgbkkjmfhcaaGreatDoor


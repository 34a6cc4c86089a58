/-
  Texts of the proof, one behind the other: IqE, IqF, IqG, IqH, IqI.
-/
import Derived.Test.YtklmgbkkjmfhcaaGreatDoorM36
import Derived.Test.YtklmgbkkjmfhcaaGreatDoorM31
import Derived.Test.YtklmgbkkjmfhcaaGreatDoorM18
import Derived.Test.YtklmgbkkjmfhcaaGreatDoorM25
/-
  Contracts of html, takeAngle.
-/
namespace Go.Proofs.YtklmgbkkjmfhcaaGreatDoor
open Go.RowKit Go.Lib Go.Maps

section
variable {W : World} {B : Nat} {O : Nat → Option Nat} {s : ByteArray} {rs : List Rf} {p : Ps} {lv bv rv : Value} {fi : Nat} {pm tm em : Value} {L : List (Pc × Value)}
theorem MidI.env {W1 : World} (h : MidI W B O s rs p lv bv rv L W1) : Mxl W1 := by
  obtain ⟨O1, fi, pm, tm, em, m, c⟩ := h
  exact m.env.mxl
theorem MidI.pre {w1 W1 : World} (q : Keeps W w1) (h : MidI w1 B O s rs p lv bv rv L W1) : MidI W B O s rs p lv bv rv L W1 := by
  obtain ⟨O1, fi, pm, tm, em, m, c⟩ := h
  exact ⟨O1, fi, pm, tm, em, m, (Chg.keeps O q).trans c⟩
set_option maxRecDepth 100000 in
set_option maxHeartbeats 8000000 in
theorem html_mid (h : MemI W B O s rs p lv bv rv fi pm tm em L) (hp : p.pos < s.size) :
    Calls Tryz.prog 32 #[.pointer (some ⟨B, 0, none⟩)] W fun e w' => e = .returned (.int .i64 (htcN s.data.toList p : Nat)) ∧ MidI W B O s rs p lv bv rv L w' := by
  have hsiz := h.siz
  have hs0 : (0 : Int) ≤ (p.pos : Int) := by omega
  have hs1 : (p.pos : Int) ≤ (s.size : Int) := by omega
  have b0 := h.box.cell 0 (v := .string s) rfl
  have b1 := h.box.cell 1 (v := .int .i64 p.pos) rfl
  have hz : (s.extract p.pos s.size).size ≤ 100000 := by rw [ByteArray.size_extract]; omega
  have HE := Lib.hid (fun w => htmlEnd_any (s.extract p.pos s.size) w)
  have RH := Lib.hid (fun w hm => rhtml_any (s.extract p.pos s.size) w hz hm)
  simp only [Lib.extract_to_end] at HE RH
  have hN : htcN s.data.toList p = if hteL (s.data.toList.drop p.pos) ≠ [] ∧ lastIndex s.data.toList (hteL (s.data.toList.drop p.pos)) ≤ (p.pos : Int) then 0 else htmN (s.data.toList.drop p.pos) := rfl
  rw [hN]
  have hf := hte_four (s.data.toList.drop p.pos)
  have HM := Lib.hid h
  have KD := (Keeps.refl W).drew
  have RH0 := Lib.hid (RH.out W.drew (h.keep KD).env.mxl)
  generalize hteL (s.data.toList.drop p.pos) = t at *
  have HQ := Lib.hid (fun ht => comes_mid (h.keep KD) t ht)
  generalize htmN (s.data.toList.drop p.pos) = N at *
  clear h hN hz
  rcases hf with rfl | hf
  · rw [if_neg (fun x => x.1 rfl)]
    have HE0 := Lib.hid (HE.out W.drew)
    rw [show (⟨([] : List UInt8).toArray⟩ : ByteArray) = ⟨#[]⟩ from rfl] at HE0
    clear HE HQ
    go_enter Tryz.func32, Tryz.ntmps32
    go_wp2_with fail
    go_region
    go_wp2_with fail
    refine HE0.out.mono ?_
    rintro e w1 ⟨rfl, rfl⟩
    go_wp2_with fail
    refine RH0.out.mono ?_
    rintro e w1 ⟨rfl, rfl⟩
    go_wp2_with fail
    go_ret
    exact ⟨rfl, HM.out.midOf (Chg.refl _ _) (Keeps.refl _).drew⟩
  · have hne : t ≠ [] := fun e => by rw [e] at hf; revert hf; decide
    have HC := Lib.hid (HQ.out hf)
    obtain ⟨sx, hsx⟩ : ∃ sx : ByteArray, (⟨t.toArray⟩ : ByteArray) = sx := ⟨_, rfl⟩
    have hpz : 0 < sx.size := by
      rw [← hsx]
      show 0 < t.toArray.size
      have := List.length_pos_iff.2 hne
      simp; omega
    have u0 := tl_ne hpz
    have u1 := tl_empty hpz
    rw [hsx] at HE HC
    by_cases hc : lastIndex s.data.toList t ≤ (p.pos : Int)
    · rw [if_pos ⟨hne, hc⟩]
      rw [decide_eq_false (by omega)] at HC
      clear hne hsx hc HQ
      go_enter Tryz.func32, Tryz.ntmps32
      go_wp2_with fail
      go_region
      go_wp2_with fail
      refine (HE.out _).mono ?_
      rintro e w1 ⟨rfl, rfl⟩
      go_wp2_with fail
      refine HC.out.mono ?_
      rintro e w1 ⟨rfl, hm⟩
      have HMD := Lib.hid (MidI.pre KD hm)
      clear hm
      go_wp2_with fail
      go_ret
      exact ⟨rfl, HMD.out⟩
    · rw [if_neg (fun x => hc x.2)]
      rw [decide_eq_true (by omega)] at HC
      clear hne hsx hc HQ
      go_enter Tryz.func32, Tryz.ntmps32
      go_wp2_with fail
      go_region
      go_wp2_with fail
      refine (HE.out _).mono ?_
      rintro e w1 ⟨rfl, rfl⟩
      go_wp2_with fail
      refine HC.out.mono ?_
      rintro e w1 ⟨rfl, hm⟩
      have RH1 := Lib.hid (RH.out w1 hm.env)
      have HMD := Lib.hid (MidI.pre KD hm)
      clear hm
      go_wp2_with fail
      refine RH1.out.mono ?_
      rintro e w2 ⟨rfl, rfl⟩
      go_wp2_with fail
      go_ret
      exact ⟨rfl, HMD.out⟩
end
end Go.Proofs.YtklmgbkkjmfhcaaGreatDoor

/-
  Contract of takeAngle.
-/
namespace Go.Proofs.YtklmgbkkjmfhcaaGreatDoor
open Go.RowKit Go.Lib Go.Maps

section
variable {W : World} {B : Nat} {O : Nat → Option Nat} {s : ByteArray} {rs : List Rf} {p : Ps} {lv bv rv : Value} {fi : Nat} {pm tm em : Value} {L : List (Pc × Value)}
/-- One text in new memory, as kids. -/
theorem kids_one {w : World} (hlt : ∀ b, O b ≠ none → b < w.heap.size) (t : List UInt8) : SpsAt (w.alloc (.cells #[.int .i64 1, .string ⟨t.toArray⟩, .string ⟨#[]⟩, .string ⟨#[]⟩, .slice none 0 0] 31)) (Out O (w.alloc (.cells #[.int .i64 1, .string ⟨t.toArray⟩, .string ⟨#[]⟩, .string ⟨#[]⟩, .slice none 0 0] 31))) [txtS t] (.slice (some ⟨w.heap.size, 0, none⟩) 1 1) := by
  refine SpsAt.mk [(txtS t, .slice none 0 0)] _ ⟨rfl, .inr ⟨w.heap.size, 1, #[.int .i64 1, .string ⟨t.toArray⟩, .string ⟨#[]⟩, .string ⟨#[]⟩, .slice none 0 0], rfl, Nat.zero_le _, heap_alloc_new w _, Nat.le_refl _, by unfold maxLen; omega, rfl, rfl⟩⟩ (fun g e => ?_) fun x hx => ?_
  · cases e
    refine ⟨?_, by simp⟩
    cases h : O w.heap.size with
    | none => rfl
    | some x => exact absurd (hlt w.heap.size (by rw [h]; simp)) (Nat.lt_irrefl _)
  · rw [List.mem_singleton] at hx
    subst hx
    exact SpsAt.nil _ _
theorem link_put (m : MemI W B O s rs p lv bv rv fi pm tm em L) (d t : List UInt8) (n : Nat) (hn : 1 ≤ n) (hp : p.pos + n ≤ s.size) (w : World) (q : Keeps W w) :
    Calls Tryz.prog 25 #[.pointer (some ⟨B, 0, none⟩), .agg #[.int .i64 7, .string ⟨#[]⟩, .string ⟨d.toArray⟩, .string ⟨#[]⟩, .slice (some ⟨w.heap.size, 0, none⟩) 1 1], .int .i64 n] (w.alloc (.cells #[.int .i64 1, .string ⟨t.toArray⟩, .string ⟨#[]⟩, .string ⟨#[]⟩, .slice none 0 0] 31)) fun e w' => e = .returned (.tuple #[]) ∧ PostI W B O s rs (p.put (spanP 7 [] d [] [txtS t]) n) w' := by
  have m1 := m.keep q
  refine (put_any (m1.keep ((Keeps.refl w).alloc _)) 7 [] d [] [txtS t] (.slice (some ⟨w.heap.size, 0, none⟩) 1 1) n (kids_one m1.lt t) hn (Nat.zero_le _) hp).mono ?_
  rintro e w' ⟨he, hq⟩
  exact ⟨he, PostI.from (q.trans ((Keeps.refl w).alloc _)) hq⟩
set_option maxRecDepth 100000 in
set_option maxHeartbeats 8000000 in
theorem takeAngle_any (h : ParI W B O s rs p) (hp : p.pos < s.size) :
    Calls Tryz.prog 13 #[.pointer (some ⟨B, 0, none⟩)] W fun e w' => e = .returned (.tuple #[]) ∧ PostI W B O s rs (angM s.data.toList p) w' := by
  obtain ⟨wf, lv, bv, rv, fi, pm, tm, em, L, m⟩ := h
  have hsiz := m.siz
  have hs0 : (0 : Int) ≤ (p.pos : Int) := by omega
  have hs1 : (p.pos : Int) ≤ (s.size : Int) := by omega
  have b0 := m.box.cell 0 (v := .string s) rfl
  have b1 := m.box.cell 1 (v := .int .i64 p.pos) rfl
  obtain ⟨R, hR⟩ : ∃ R, s.extract p.pos s.size = R := ⟨_, rfl⟩
  have hRl : s.data.toList.drop p.pos = R.data.toList := by rw [← hR, Lib.extract_to_end]
  have hRz : R.size = s.size - p.pos := by rw [← hR, ByteArray.size_extract]; omega
  have KD := (Keeps.refl W).drew
  have AU := Lib.hid (auto_any R W.drew (by omega) (m.keep KD).env.mxl)
  have h1 := aut_len R.data.toList
  have h2 := htc_le s.data.toList p
  rw [hRl, bytes_len] at h2
  rw [bytes_len] at h1
  have hM : angM s.data.toList p = if autN R.data.toList ≠ 0 then p.put (spanP 7 [] (autA R.data.toList) [] [txtS (autB R.data.toList)]) (autN R.data.toList) else if htcN s.data.toList p = 0 then byteM s.data.toList p else p.put (spanP 9 (R.data.toList.take (htcN s.data.toList p)) [] [] []) (htcN s.data.toList p) := by rw [← hRl]; rfl
  rw [hM]
  clear hM hRl
  have HM := Lib.hid m
  have HMK := Lib.hid (fun w (q : Keeps W w) => m.keep q)
  have HW := Lib.hid wf
  unfold AutV at AU
  by_cases ha : autN R.data.toList = 0
  · rw [if_neg (fun x => x ha)]
    rw [ha, show ((0 : Nat) : Int) = 0 from rfl] at AU
    obtain ⟨sa, hsa⟩ : ∃ sa : ByteArray, (⟨(autA R.data.toList).toArray⟩ : ByteArray) = sa := ⟨_, rfl⟩
    obtain ⟨sb, hsb⟩ : ∃ sb : ByteArray, (⟨(autB R.data.toList).toArray⟩ : ByteArray) = sb := ⟨_, rfl⟩
    rw [hsa, hsb] at AU
    have HT := Lib.hid (fun w (q : Keeps W w) => html_mid (m.keep q) hp)
    generalize htcN s.data.toList p = N at *
    clear ha hsa hsb m wf h1
    by_cases h0 : N = 0
    · subst h0
      rw [if_pos rfl]
      rw [show ((0 : Nat) : Int) = 0 from rfl] at HT
      go_enter Tryz.func13, Tryz.ntmps13
      go_wp2_with fail
      go_region
      go_wp2_with fail
      refine AU.out.mono ?_
      rintro e w1 ⟨rfl, k1⟩
      have K1 := KD.trans k1
      go_wp2_with fail
      refine (HT.out _ K1).mono ?_
      rintro e w2 ⟨rfl, hm⟩
      have HB := Lib.hid ((MidI.pre K1 hm).take HW.out hp w2 (Keeps.refl w2))
      clear hm
      go_wp2_with fail
      refine HB.out.mono ?_
      rintro e w3 ⟨rfl, q⟩
      have Q := Lib.hid q
      clear q
      go_wp2_with fail
      refine bodyPost_ret (results_none rfl _ _ _) rfl ?_
      exact ⟨rfl, Q.out⟩
    · rw [if_neg h0]
      have q0 := beqF (show ¬ (N : Int) = 0 by omega)
      have hs2 : (0 : Int) ≤ (N : Int) := by omega
      have hs3 : (N : Int) ≤ (R.size : Int) := by omega
      have CL := Lib.hid (fun w => clone_any (R.extract 0 N) w (by rw [ByteArray.size_extract]; omega))
      have hx : (⟨(R.data.toList.take N).toArray⟩ : ByteArray) = R.extract 0 N := (ext_take R N).symm
      have HX := Lib.hid hx
      have hN1 : 1 ≤ N := by omega
      have hN2 : p.pos + N ≤ s.size := by omega
      clear hx
      go_enter Tryz.func13, Tryz.ntmps13
      go_wp2_with fail
      go_region
      go_wp2_with fail
      refine AU.out.mono ?_
      rintro e w1 ⟨rfl, k1⟩
      have K1 := KD.trans k1
      go_wp2_with fail
      refine (HT.out _ K1).mono ?_
      rintro e w2 ⟨rfl, hm⟩
      have HP := Lib.hid (fun w (q : Keeps w2 w) => (MidI.pre K1 hm).put 9 (R.data.toList.take N) N hN1 (by rw [List.length_take]; omega) hN2 w q)
      rw [HX.out, show ((9 : Nat) : Int) = 9 from rfl] at HP
      clear hm
      go_wp2_with fail
      refine (CL.out _).mono ?_
      rintro e w3 ⟨rfl, k3⟩
      go_wp2_with fail
      refine (HP.out _ k3).mono ?_
      rintro e w4 ⟨rfl, q⟩
      have Q := Lib.hid q
      clear q
      go_wp2_with fail
      go_end0
      exact ⟨rfl, Q.out⟩
  · rw [if_pos ha]
    obtain ⟨d, hd⟩ : ∃ d, autA R.data.toList = d := ⟨_, rfl⟩
    obtain ⟨t, ht⟩ : ∃ t, autB R.data.toList = t := ⟨_, rfl⟩
    obtain ⟨N, hN⟩ : ∃ N, autN R.data.toList = N := ⟨_, rfl⟩
    rw [hd, ht, hN] at AU ⊢
    rw [hN] at ha h1
    have q0 : decide ((0 : Int) < (N : Int)) = true := decide_eq_true (by omega)
    have HP := Lib.hid (fun w (q : Keeps W w) => link_put m d t N (by omega) (by omega) w q)
    have TT := Lib.hid (fun w => textOf_any ⟨t.toArray⟩ w)
    clear hd ht hN m wf h2
    obtain ⟨sd, hsd⟩ : ∃ sd : ByteArray, (⟨d.toArray⟩ : ByteArray) = sd := ⟨_, rfl⟩
    obtain ⟨st, hst⟩ : ∃ st : ByteArray, (⟨t.toArray⟩ : ByteArray) = st := ⟨_, rfl⟩
    rw [hsd, hst] at AU
    rw [hsd, hst] at HP
    rw [hst] at TT
    clear hsd hst
    go_enter Tryz.func13, Tryz.ntmps13
    go_wp2_with fail
    go_region
    go_wp2_with fail
    refine AU.out.mono ?_
    rintro e w1 ⟨rfl, k1⟩
    have K1 := KD.trans k1
    go_wp2_with fail
    refine (TT.out _).mono ?_
    rintro e w2 ⟨rfl, k2⟩
    have K2 := K1.trans k2
    go_wp2_with fail
    refine (HP.out _ K2).mono ?_
    rintro e w3 ⟨rfl, q⟩
    have Q := Lib.hid q
    clear q
    go_wp2_with fail
    refine bodyPost_ret (results_none rfl _ _ _) rfl ?_
    exact ⟨rfl, Q.out⟩
end
end Go.Proofs.YtklmgbkkjmfhcaaGreatDoor

/-
  Inline's parser in the midst of takeBracket: memory without the bounds; put there.
-/
namespace Go.Proofs.YtklmgbkkjmfhcaaGreatDoor
open Go.RowKit Go.Lib Go.Maps

/-- What MemI says but for the bounds. -/
structure MemQ (W : World) (B : Nat) (O : Nat → Option Nat) (s : ByteArray) (rs : List Rf) (p : Ps) (lv bv rv : Value) (fi : Nat) (pm tm em : Value) (L : List (Pc × Value)) : Prop where
  box : Blk W B 38 (boxI s p lv bv rv fi pm tm em)
  row : W.ownsRow 0 42 9 lv L.length (pcR L)
  eq : L.map Prod.fst = p.list
  kid : KidsAt W (Out O W) L
  brs : W.ownsRow 0 63 3 bv p.br.length (brR p.br)
  refs : RefV W rv rs
  oRf : ∀ g o n c, rv = .slice (some ⟨g, o, none⟩) n c → 0 < rs.length → O g = none
  plc : MapI W O 5 9 pm (PlcF rs)
  tic : MapI W O 3 3 tm (TickF s.data.toList)
  ens : MapI W O 4 9 em (EndF s.data.toList)
  oB : O B = some 0
  oL : ∀ g, lv.ownBlock = some g → O g = some 1
  oK : ∀ g, bv.ownBlock = some g → O g = some 2
  lt : ∀ b, O b ≠ none → b < W.heap.size
  env : EnvM W O
  siz : s.size ≤ 20000
  rsz : rs.length ≤ 100000 ∧ ∀ r ∈ rs, r.1.length ≤ maxLen
  fst : ∀ x ∈ p.list, x.first ≤ 1000000
section
variable {W : World} {B : Nat} {O : Nat → Option Nat} {s : ByteArray} {rs : List Rf} {p : Ps} {lv bv rv : Value} {fi : Nat} {pm tm em : Value} {L : List (Pc × Value)}
theorem MemI.bones (h : MemI W B O s rs p lv bv rv fi pm tm em L) : MemQ W B O s rs p lv bv rv fi pm tm em L := ⟨h.box, h.row, h.eq, h.kid, h.brs, h.refs, h.oRf, h.plc, h.tic, h.ens, h.oB, h.oL, h.oK, h.lt, h.env, h.siz, h.rsz, h.fst⟩
theorem MemQ.full (h : MemQ W B O s rs p lv bv rv fi pm tm em L) (wf : WfC s.data.toList p) (fin : fi + p.br.length ≤ p.pos) : MemI W B O s rs p lv bv rv fi pm tm em L := ⟨h.box, h.row, h.eq, h.kid, h.brs, h.refs, h.oRf, h.plc, h.tic, h.ens, fin, h.oB, h.oL, h.oK, h.lt, h.env, wf, h.siz, h.rsz, h.fst⟩
theorem MemQ.ne {cls : Nat} (h : MemQ W B O s rs p lv bv rv fi pm tm em L) {g : Nat} (hg : O g = some (cls + 1)) : g ≠ B := fun e => by rw [e, h.oB] at hg; cases hg
/-- Only new memory. -/
theorem MemQ.keep {W' : World} (h : MemQ W B O s rs p lv bv rv fi pm tm em L) (q : Keeps W W') : MemQ W' B O s rs p lv bv rv fi pm tm em L where
  box := h.box.keep q
  row := row_below h.row q
  eq := h.eq
  kid := h.kid.same (fun b hb => ⟨hb.1, Nat.lt_of_lt_of_le hb.2 q.size⟩) fun b hb => q.block b hb.2
  brs := row_below h.brs q
  refs := by
    obtain ⟨A, c, h1, h2, h3, h4⟩ := h.refs
    refine ⟨A, c, h1, h2, h3, fun h0 => ?_⟩
    obtain ⟨g, o, hA, hc⟩ := h4 h0
    exact ⟨g, o, hA, fun k hk => range_same (hc k hk) (q.block g (range_lt (hc k hk) (by show 0 < 3; decide)))⟩
  oRf := h.oRf
  plc := h.plc.same (fun _ e => e) fun b e => q.block b (h.lt b (by rw [e]; simp))
  tic := h.tic.same (fun _ e => e) fun b e => q.block b (h.lt b (by rw [e]; simp))
  ens := h.ens.same (fun _ e => e) fun b e => q.block b (h.lt b (by rw [e]; simp))
  oB := h.oB
  oL := h.oL
  oK := h.oK
  lt := fun b hb => Nat.lt_of_lt_of_le (h.lt b hb) q.size
  env := h.env.chg (Chg.keeps O q)
  siz := h.siz
  rsz := h.rsz
  fst := h.fst
/-- The list, the brackets and the struct itself have turned. -/
theorem MemQ.next {W' : World} (h : MemQ W B O s rs p lv bv rv fi pm tm em L) {p' : Ps} {lv' bv' : Value} {fi' : Nat} {L' : List (Pc × Value)} (hos : W'.os = W.os) (htp : W'.tape = W.tape) (hout : W'.output = W.output) (hsz : W.heap.size ≤ W'.heap.size)
    (same : ∀ b, b < W.heap.size → O b ≠ some 0 → O b ≠ some 1 → O b ≠ some 2 → W'.heap[b]? = W.heap[b]?)
    (box : Blk W' B 38 (boxI s p' lv' bv' rv fi' pm tm em))
    (row : W'.ownsRow 0 42 9 lv' L'.length (pcR L')) (hl : lv'.ownBlock = lv.ownBlock ∨ ∃ b, W.heap.size ≤ b ∧ lv'.ownBlock = some b)
    (brs : W'.ownsRow 0 63 3 bv' p'.br.length (brR p'.br)) (hk : bv'.ownBlock = bv.ownBlock ∨ ∃ b, W.heap.size ≤ b ∧ bv'.ownBlock = some b ∧ lv'.ownBlock ≠ some b)
    (eq : L'.map Prod.fst = p'.list) (kid : KidsAt W' (fun b => O b = none ∧ b < W'.heap.size ∧ lv'.ownBlock ≠ some b ∧ bv'.ownBlock ≠ some b) L')
    (fst : ∀ x ∈ p'.list, x.first ≤ 1000000) : ∃ O', MemQ W' B O' s rs p' lv' bv' rv fi' pm tm em L' ∧ Chg W O W' O' := by
  have hOK : ∃ O' : Nat → Option Nat, (∀ b, b < W.heap.size → O' b = O b) ∧ (∀ g, lv'.ownBlock = some g → O' g = some 1) ∧ (∀ g, bv'.ownBlock = some g → O' g = some 2) ∧ (∀ b, O' b ≠ none → b < W'.heap.size) ∧ (∀ b, O b = none → lv'.ownBlock ≠ some b → bv'.ownBlock ≠ some b → O' b = none) := by
    have l0 : ∀ g, lv.ownBlock = some g → g < W.heap.size := fun g e => h.lt g (by rw [h.oL g e]; simp)
    have k0 : ∀ g, bv.ownBlock = some g → g < W.heap.size := fun g e => h.lt g (by rw [h.oK g e]; simp)
    rcases hl with hl | ⟨b1, hb1, hl⟩ <;> rcases hk with hk | ⟨b2, hb2, hk, hne⟩
    · exact ⟨O, fun _ _ => rfl, fun g e => h.oL g (by rw [← hl]; exact e), fun g e => h.oK g (by rw [← hk]; exact e), fun b hb => Nat.lt_of_lt_of_le (h.lt b hb) hsz, fun b e _ _ => e⟩
    · refine ⟨upd O b2 (some 2), fun b hb => upd_ne _ _ (by omega), fun g e => ?_, fun g e => ?_, fun b hb => ?_, fun b e _ n2 => ?_⟩
      · rw [hl] at e
        rw [upd_ne _ _ (by have := l0 g e; omega)]; exact h.oL g e
      · rw [hk] at e; cases e; exact upd_at _ _ _
      · by_cases hbe : b = b2
        · rw [hbe]; exact (brs.lt b2 hk).2
        · rw [upd_ne _ _ hbe] at hb; exact Nat.lt_of_lt_of_le (h.lt b hb) hsz
      · rw [upd_ne _ _ (fun q => n2 (by rw [q]; exact hk))]; exact e
    · refine ⟨upd O b1 (some 1), fun b hb => upd_ne _ _ (by omega), fun g e => ?_, fun g e => ?_, fun b hb => ?_, fun b e n1 _ => ?_⟩
      · rw [hl] at e; cases e; exact upd_at _ _ _
      · rw [hk] at e
        rw [upd_ne _ _ (by have := k0 g e; omega)]; exact h.oK g e
      · by_cases hbe : b = b1
        · rw [hbe]; exact (row.lt b1 hl).2
        · rw [upd_ne _ _ hbe] at hb; exact Nat.lt_of_lt_of_le (h.lt b hb) hsz
      · rw [upd_ne _ _ (fun q => n1 (by rw [q]; exact hl))]; exact e
    · have h12 : b1 ≠ b2 := fun q => hne (by rw [hl, q])
      refine ⟨upd (upd O b1 (some 1)) b2 (some 2), fun b hb => (upd_ne _ _ (by omega)).trans (upd_ne _ _ (by omega)), fun g e => ?_, fun g e => ?_, fun b hb => ?_, fun b e n1 n2 => ?_⟩
      · rw [hl] at e; cases e
        rw [upd_ne _ _ h12]; exact upd_at _ _ _
      · rw [hk] at e; cases e; exact upd_at _ _ _
      · by_cases hbe : b = b2
        · rw [hbe]; exact (brs.lt b2 hk).2
        · rw [upd_ne _ _ hbe] at hb
          by_cases hbe1 : b = b1
          · rw [hbe1]; exact (row.lt b1 hl).2
          · rw [upd_ne _ _ hbe1] at hb; exact Nat.lt_of_lt_of_le (h.lt b hb) hsz
      · rw [upd_ne _ _ (fun q => n2 (by rw [q]; exact hk)), upd_ne _ _ (fun q => n1 (by rw [q]; exact hl))]; exact e
  obtain ⟨O', o1, o2, o3, o4, o5⟩ := hOK
  have hlt : ∀ b x, O b = some x → b < W.heap.size := fun b x e => h.lt b (by rw [e]; simp)
  have hC : Chg W O W' O' := ⟨hos, htp, hout, hsz, o1, fun b hb e => same b hb (by rw [e]; simp) (by rw [e]; simp) (by rw [e]; simp)⟩
  refine ⟨O', ?_, hC⟩
  exact {
    box := box
    row := row
    eq := eq
    kid := kid.same (fun b hb => ⟨o5 b hb.1 hb.2.2.1 hb.2.2.2, hb.2.1⟩) fun _ _ => rfl
    brs := brs
    refs := by
      by_cases h0 : 0 < rs.length
      · exact h.refs.same fun g o n c e => by
          have hg := h.oRf g o n c e h0
          exact same g (refV_lt h.refs g o n c e h0) (by rw [hg]; simp) (by rw [hg]; simp) (by rw [hg]; simp)
      · obtain ⟨A, c, h1, h2, h3, h4⟩ := h.refs
        exact ⟨A, c, h1, h2, h3, fun q => absurd q h0⟩
    oRf := fun g o n c e h0 => by
      rw [o1 g (refV_lt h.refs g o n c e h0)]
      exact h.oRf g o n c e h0
    plc := h.plc.same (fun b e => by rw [o1 b (hlt b 5 e)]; exact e) fun b e => same b (hlt b 5 e) (by rw [e]; simp) (by rw [e]; simp) (by rw [e]; simp)
    tic := h.tic.same (fun b e => by rw [o1 b (hlt b 3 e)]; exact e) fun b e => same b (hlt b 3 e) (by rw [e]; simp) (by rw [e]; simp) (by rw [e]; simp)
    ens := h.ens.same (fun b e => by rw [o1 b (hlt b 4 e)]; exact e) fun b e => same b (hlt b 4 e) (by rw [e]; simp) (by rw [e]; simp) (by rw [e]; simp)
    oB := by rw [o1 B (hlt B 0 h.oB)]; exact h.oB
    oL := o2
    oK := o3
    lt := o4
    env := h.env.chg hC
    siz := h.siz
    rsz := h.rsz
    fst := fst }
set_option maxRecDepth 100000 in
set_option maxHeartbeats 8000000 in
theorem put_q (h : MemQ W B O s rs p lv bv rv fi pm tm em L) (k : Nat) (t d ti : List UInt8) (kids : List Sp) (kv : Value) (n : Nat) (hk : SpsAt W (Out O W) kids kv) (hlen0 : p.list.length ≤ p.pos) (hpos : p.pos ≤ s.size) (hp : p.pos + n ≤ s.size) (wfn : WfI s.data.toList (p.put (spanP k t d ti kids) n)) (finn : fi + p.br.length ≤ p.pos + n) :
    Calls Tryz.prog 25 #[.pointer (some ⟨B, 0, none⟩), .agg #[.int .i64 k, .string ⟨t.toArray⟩, .string ⟨d.toArray⟩, .string ⟨ti.toArray⟩, kv], .int .i64 n] W fun e w' => e = .returned (.tuple #[]) ∧ PostI W B O s rs (p.put (spanP k t d ti kids) n) w' := by
  obtain ⟨A0, m0, c0, rfl⟩ := hk.form
  obtain ⟨Al, cl, rfl, hcl1, hcl2⟩ := row_form h.row
  obtain ⟨i0, hi0, hz0, hz1, hz2⟩ := info_parts infoPc
  have hlen : L.length ≤ p.pos := by have := hlen0; rw [← h.eq, List.length_map] at this; exact this
  have hsiz := h.siz
  have KS := (Keeps.refl W).alloc (.cells #[.int .i64 k, .string ⟨t.toArray⟩, .string ⟨d.toArray⟩, .string ⟨ti.toArray⟩, .slice A0 m0 c0] 31)
  have BSp := Blk.new W 31 #[.int .i64 k, .string ⟨t.toArray⟩, .string ⟨d.toArray⟩, .string ⟨ti.toArray⟩, .slice A0 m0 c0]
  have hz : (W.alloc (.cells #[.int .i64 k, .string ⟨t.toArray⟩, .string ⟨d.toArray⟩, .string ⟨ti.toArray⟩, .slice A0 m0 c0] 31)).heap.size = W.heap.size + 1 := by simp
  have HM := Lib.hid h
  have HK := Lib.hid hk
  have x0 := BSp.cell 0 (v := .int .i64 k) rfl
  have x1 := BSp.cell 1 (v := .string ⟨t.toArray⟩) rfl
  have x2 := BSp.cell 2 (v := .string ⟨d.toArray⟩) rfl
  have x3 := BSp.cell 3 (v := .string ⟨ti.toArray⟩) rfl
  have x4 := BSp.cell 4 (v := .slice A0 m0 c0) rfl
  have y2 := (h.box.keep KS).cell 2 (v := .slice Al L.length cl) rfl
  have KA : Keeps (W.alloc (.cells #[.int .i64 k, .string ⟨t.toArray⟩, .string ⟨d.toArray⟩, .string ⟨ti.toArray⟩, .slice A0 m0 c0] 31)) (((W.alloc (.cells #[.int .i64 k, .string ⟨t.toArray⟩, .string ⟨d.toArray⟩, .string ⟨ti.toArray⟩, .slice A0 m0 c0] 31)).alloc (.cells #[.int .i64 k, .string ⟨t.toArray⟩, .string ⟨d.toArray⟩, .string ⟨ti.toArray⟩, .slice A0 m0 c0, .int .i64 0, .bool false, .bool false, .bool false] 42)).drew) := ((Keeps.refl _).alloc _).drew
  have y2a := (h.box.keep (KS.trans ((Keeps.refl _).alloc (.cells #[.int .i64 k, .string ⟨t.toArray⟩, .string ⟨d.toArray⟩, .string ⟨ti.toArray⟩, .slice A0 m0 c0, .int .i64 0, .bool false, .bool false, .bool false] 42)))).cell 2 (v := .slice Al L.length cl) rfl
  have hnw : ∀ j u, [Value.int .i64 k, .string ⟨t.toArray⟩, .string ⟨d.toArray⟩, .string ⟨ti.toArray⟩, .slice A0 m0 c0, .int .i64 0, .bool false, .bool false, .bool false][j]? = some u → (((W.alloc (.cells #[.int .i64 k, .string ⟨t.toArray⟩, .string ⟨d.toArray⟩, .string ⟨ti.toArray⟩, .slice A0 m0 c0] 31)).alloc (.cells #[.int .i64 k, .string ⟨t.toArray⟩, .string ⟨d.toArray⟩, .string ⟨ti.toArray⟩, .slice A0 m0 c0, .int .i64 0, .bool false, .bool false, .bool false] 42)).drew).cell? ((⟨W.heap.size + 1, 0, none⟩ : Addr).add j) = some u := by
    have := cells_new (W.alloc (.cells #[.int .i64 k, .string ⟨t.toArray⟩, .string ⟨d.toArray⟩, .string ⟨ti.toArray⟩, .slice A0 m0 c0] 31)) [.int .i64 k, .string ⟨t.toArray⟩, .string ⟨d.toArray⟩, .string ⟨ti.toArray⟩, .slice A0 m0 c0, .int .i64 0, .bool false, .bool false, .bool false] 42
    rw [hz] at this
    exact this
  have hrow := row_below h.row (KS.trans KA)
  obtain ⟨v8, w8, ra, o8, g8, _, l8⟩ := run_append_own_at (P := Tryz.prog) (((W.alloc (.cells #[.int .i64 k, .string ⟨t.toArray⟩, .string ⟨d.toArray⟩, .string ⟨ti.toArray⟩, .slice A0 m0 c0] 31)).alloc (.cells #[.int .i64 k, .string ⟨t.toArray⟩, .string ⟨d.toArray⟩, .string ⟨ti.toArray⟩, .slice A0 m0 c0, .int .i64 0, .bool false, .bool false, .bool false] 42)).drew) 0 33 33 42 i0 (.agg zeroPc) 9 96 Tryz.underlying33 hi0 hz0 hz1 hz2 rfl (by decide) _ _ _ hrow ⟨W.heap.size + 1, 0, none⟩ 1 1 [.int .i64 k, .string ⟨t.toArray⟩, .string ⟨d.toArray⟩, .string ⟨ti.toArray⟩, .slice A0 m0 c0, .int .i64 0, .bool false, .bool false, .bool false] rfl hnw (pcC_one (spanP k t d ti kids) (v := .slice A0 m0 c0) rfl) (by simp only [maxLen]; omega) (by omega) (Nat.zero_le _)
  obtain ⟨A8, c8, e8⟩ : ∃ A8 c8, v8 = .slice A8 (L.length + 1) c8 := by
    obtain ⟨A8, c8, e8, _⟩ := row_form o8
    exact ⟨A8, c8, e8⟩
  subst e8
  have neB : ∀ g, (Value.slice Al L.length cl).ownBlock = some g → g ≠ B := fun g e => h.ne (cls := 0) (h.oL g e)
  have B8 : Blk w8 B 38 (boxI s p (.slice Al L.length cl) bv rv fi pm tm em) := by
    unfold Blk
    rw [g8.block B (by have := h.box.lt; have := (KS.trans KA).size; omega) (fun e => neB B e.symm rfl)]
    exact h.box.keep (KS.trans KA)
  have z2 := B8.cell 2 (v := .slice Al L.length cl) rfl
  have f2 := B8.free 2
  have B9 := B8.set 2 (.slice A8 (L.length + 1) c8) rfl
  have z1 := B9.cell 1 (v := .int .i64 p.pos) rfl
  have f1 := B9.free 1
  have FIN : Hid (PostI W B O s rs (p.put (spanP k t d ti kids) n) ((w8.setCell ⟨B, 2, none⟩ (.slice A8 (L.length + 1) c8)).setCell ⟨B, 1, none⟩ (.int .i64 ((p.pos : Int) + (n : Int))))) := Lib.hid (by
    have KT := KS.trans KA
    have hsz := KT.size
    have same : ∀ b, b ≠ B → ((w8.setCell ⟨B, 2, none⟩ (.slice A8 (L.length + 1) c8)).setCell ⟨B, 1, none⟩ (.int .i64 ((p.pos : Int) + (n : Int)))).heap[b]? = w8.heap[b]? := fun b hb => by
      rw [heap_setCell_other _ ⟨B, 1, none⟩ b _ hb, heap_setCell_other _ ⟨B, 2, none⟩ b _ hb]
    have hz8 : ((w8.setCell ⟨B, 2, none⟩ (.slice A8 (L.length + 1) c8)).setCell ⟨B, 1, none⟩ (.int .i64 ((p.pos : Int) + (n : Int)))).heap.size = w8.heap.size := by rw [setCell_size, setCell_size]
    have hs8 := g8.size
    have old : ∀ b, b < W.heap.size → O b ≠ some 0 → O b ≠ some 1 → ((w8.setCell ⟨B, 2, none⟩ (.slice A8 (L.length + 1) c8)).setCell ⟨B, 1, none⟩ (.int .i64 ((p.pos : Int) + (n : Int)))).heap[b]? = W.heap[b]? := fun b hb h0 h1 => by
      rw [same b (fun e => h0 (by rw [e]; exact h.oB)), g8.block b (by omega) (fun e => h1 (h.oL b e.symm))]
      exact KT.block b hb
    have hnb : ∀ b, (Value.slice A8 (L.length + 1) c8).ownBlock = some b → O b = some 1 ∨ W.heap.size ≤ b := fun b e => by
      rcases l8 with q | q
      · rw [q] at e; exact .inl (h.oL b e)
      · rw [q] at e; cases e; right; omega
    have q1 : pcR (L ++ [(spanP k t d ti kids, .slice A0 m0 c0)]) = pcR L ++ [.int .i64 k, .string ⟨t.toArray⟩, .string ⟨d.toArray⟩, .string ⟨ti.toArray⟩, .slice A0 m0 c0, .int .i64 0, .bool false, .bool false, .bool false] := by rw [pcR_app]; rfl
    have hp1 : ((p.pos : Int) + (n : Int)) = (((p.put (spanP k t d ti kids) n).pos : Nat) : Int) := by show _ = ((p.pos + n : Nat) : Int); omega
    obtain ⟨O', m, c⟩ := h.next (W' := (w8.setCell ⟨B, 2, none⟩ (.slice A8 (L.length + 1) c8)).setCell ⟨B, 1, none⟩ (.int .i64 ((p.pos : Int) + (n : Int)))) (p' := p.put (spanP k t d ti kids) n) (lv' := .slice A8 (L.length + 1) c8) (bv' := bv) (fi' := fi) (L' := L ++ [(spanP k t d ti kids, .slice A0 m0 c0)])
      (g8.os.trans KT.os) (g8.tape.trans KT.tape) (g8.output.trans KT.output) (by rw [hz8]; omega)
      (fun b hb h0 h1 _ => old b hb h0 h1)
      (B9.set 1 _ (by rw [hp1]; rfl))
      (by
        rw [q1, List.length_append, List.length_singleton]
        exact row_same o8 fun b e => same b (fun q => by
          rcases hnb b e with r | r
          · exact h.ne (cls := 0) r q
          · have := h.box.lt; omega))
      (by
        rcases l8 with q | q
        · exact .inl q
        · exact .inr ⟨_, by omega, q⟩)
      (row_same h.brs fun b e => by
        have hb := h.oK b e
        exact old b (h.lt b (by rw [hb]; simp)) (by rw [hb]; simp) (by rw [hb]; simp))
      (.inl rfl) (by rw [List.map_append, h.eq]; rfl)
      (fun y hy => by
        rcases List.mem_append.1 hy with hy | hy
        · exact (h.kid y hy).same (fun b hb => ⟨hb.1, by rw [hz8]; have := hb.2; omega, fun e => by
              rcases hnb b e with r | r
              · rw [hb.1] at r; cases r
              · have := hb.2; omega, fun e => by have r := h.oK b e; rw [hb.1] at r; cases r⟩) fun b hb => old b hb.2 (by rw [hb.1]; simp) (by rw [hb.1]; simp)
        · rw [List.mem_singleton] at hy
          subst hy
          exact hk.same (fun b hb => ⟨hb.1, by rw [hz8]; have := hb.2; omega, fun e => by
              rcases hnb b e with r | r
              · rw [hb.1] at r; cases r
              · have := hb.2; omega, fun e => by have r := h.oK b e; rw [hb.1] at r; cases r⟩) fun b hb => old b hb.2 (by rw [hb.1]; simp) (by rw [hb.1]; simp))
      (fun y hy => by
        rcases List.mem_append.1 hy with hy | hy
        · exact h.fst y hy
        · rw [List.mem_singleton] at hy; subst hy; exact Nat.zero_le _)
    exact ⟨O', ⟨wfn, _, _, _, _, _, _, _, _, m.full wfn.core finn⟩, c⟩)
  clear h hk KS BSp KA hnw hrow o8 g8 l8 neB B8 B9 hz0 hz1 hz2 hi0 hcl2
  go_enter Tryz.func25, Tryz.ntmps25
  go_wp2_with fail
  go_region_law (refine step_append_run' rfl (.tmp 10) (.tmp 13) _ _ rfl _ _ (by simp [Act.eval]) (by simp [Act.eval]) _ _ ra ?_)
  all_goals
    go_wp2_with fail
    go_end0
    exact ⟨rfl, FIN.out⟩
/-- A bracket has been put behind the others. -/
theorem MemQ.brApp {w8 W' : World} {v8 : Value} {x : Br} (h : MemQ W B O s rs p lv bv rv fi pm tm em L)
    (o8 : w8.ownsRow 0 63 3 v8 (p.br.length + 1) (brR p.br ++ brC x)) (g8 : W.grownBy w8 bv.ownBlock) (l8 : v8.ownBlock = bv.ownBlock ∨ ∃ b, W.heap.size ≤ b ∧ v8.ownBlock = some b)
    (same : ∀ b, b ≠ B → W'.heap[b]? = w8.heap[b]?) (hz8 : W'.heap.size = w8.heap.size) (hos : W'.os = w8.os) (htp : W'.tape = w8.tape) (hout : W'.output = w8.output)
    (box : Blk W' B 38 (boxI s { p with br := p.br ++ [x] } lv v8 rv fi pm tm em)) : ∃ O', MemQ W' B O' s rs { p with br := p.br ++ [x] } lv v8 rv fi pm tm em L ∧ Chg W O W' O' := by
  have hs8 := g8.size
  have old : ∀ b, b < W.heap.size → O b ≠ some 0 → O b ≠ some 2 → W'.heap[b]? = W.heap[b]? := fun b hb h0 h1 => by
    rw [same b (fun e => h0 (by rw [e]; exact h.oB)), g8.block b hb (fun e => h1 (h.oK b e.symm))]
  have hnb : ∀ b, v8.ownBlock = some b → O b = some 2 ∨ W.heap.size ≤ b := fun b e => by
    rcases l8 with q | ⟨c, hc, q⟩
    · rw [q] at e; exact .inl (h.oK b e)
    · rw [q] at e; cases e; exact .inr hc
  have hll : ∀ b, lv.ownBlock = some b → b < W.heap.size := fun b e => h.lt b (by rw [h.oL b e]; simp)
  exact h.next (W' := W') (p' := { p with br := p.br ++ [x] }) (lv' := lv) (bv' := v8) (fi' := fi) (L' := L)
    (hos.trans g8.os) (htp.trans g8.tape) (hout.trans g8.output) (by omega)
    (fun b hb h0 _ h2 => old b hb h0 h2) box
    (row_same h.row fun b e => by
      have hb := h.oL b e
      exact old b (h.lt b (by rw [hb]; simp)) (by rw [hb]; simp) (by rw [hb]; simp))
    (.inl rfl)
    (by
      show W'.ownsRow 0 _ 3 v8 (p.br ++ [x]).length (brR (p.br ++ [x]))
      rw [brR_app, List.length_append, List.length_singleton, show brR [x] = brC x from List.append_nil _]
      exact row_same o8 fun b e => same b (fun q => by
        rcases hnb b e with r | r
        · exact h.ne (cls := 1) r q
        · have := h.box.lt; omega))
    (by
      rcases l8 with q | ⟨b, hb, q⟩
      · exact .inl q
      · exact .inr ⟨b, hb, q, fun e => by have := hll b e; omega⟩)
    h.eq
    (h.kid.same (fun b hb => ⟨hb.1, (by have := hb.2; omega), (fun e => by have r := h.oL b e; rw [hb.1] at r; cases r), (fun e => by
        rcases hnb b e with r | r
        · rw [hb.1] at r; cases r
        · have := hb.2; omega)⟩) fun b hb => old b hb.2 (by rw [hb.1]; simp) (by rw [hb.1]; simp))
    h.fst
end
end Go.Proofs.YtklmgbkkjmfhcaaGreatDoor

/-
  Contract of takeBracket.
-/
namespace Go.Proofs.YtklmgbkkjmfhcaaGreatDoor
open Go.RowKit Go.Lib Go.Maps

section
variable {W : World} {B : Nat} {O : Nat → Option Nat} {s : ByteArray} {rs : List Rf} {p : Ps} {lv bv rv : Value} {fi : Nat} {pm tm em : Value} {L : List (Pc × Value)} {Ab : Option Addr} {cb : Nat}
/-- The bracket that begins at the place. -/
def newBr (p : Ps) (img : Bool) : Br := ⟨p.list.length, p.pos + (brS img).length - 1, img⟩
/-- Put, behind the bracket that was laid down. -/
theorem bkt_put {w8 W' : World} {v8 : Value} {img : Bool} (h : MemI W B O s rs p lv (.slice Ab p.br.length cb) rv fi pm tm em L)
    (o8 : w8.ownsRow 0 63 3 v8 (p.br.length + 1) (brR p.br ++ brC (newBr p img))) (g8 : W.grownBy w8 (Value.slice Ab p.br.length cb).ownBlock) (l8 : v8.ownBlock = (Value.slice Ab p.br.length cb).ownBlock ∨ ∃ b, W.heap.size ≤ b ∧ v8.ownBlock = some b)
    (B8 : Blk w8 B 38 (boxI s p lv (.slice Ab p.br.length cb) rv fi pm tm em)) (hp : p.pos < s.size) (hpre : hasPrefix (s.data.toList.drop p.pos) (brS img) = true) (hk : Keeps (w8.setCell ⟨B, 3, none⟩ v8) W') :
    Calls Tryz.prog 25 #[.pointer (some ⟨B, 0, none⟩), .agg #[.int .i64 1, .string ⟨(brS img).toArray⟩, .string ⟨#[]⟩, .string ⟨#[]⟩, .slice none 0 0], .int .i64 ((brS img).length : Nat)] W' fun e w' => e = .returned (.tuple #[]) ∧ PostI W B O s rs (bktM s.data.toList p img) w' := by
  have hM : bktM s.data.toList p img = (({ p with br := p.br ++ [newBr p img] } : Ps).put (spanP 1 (brS img) [] [] []) (brS img).length) := by
    unfold bktM
    rw [if_pos hpre]
    rfl
  rw [hM]
  have hwf : WfC s.data.toList p := h.wf
  have h2 := brS_len img
  have h1 := pre_len hpre
  rw [List.length_drop, bytes_len] at h1
  obtain ⟨O1, mq, c1⟩ := MemQ.brApp (W' := w8.setCell ⟨B, 3, none⟩ v8) (x := newBr p img) h.bones o8 g8 l8 (fun b hb => heap_setCell_other _ ⟨B, 3, none⟩ b _ hb) (setCell_size _ _ _) rfl rfl rfl (B8.set 3 v8 rfl)
  have hfin := h.fin
  have wfn : WfI s.data.toList (({ p with br := p.br ++ [newBr p img] } : Ps).put (spanP 1 (brS img) [] [] []) (brS img).length) := by
    refine ⟨by show p.pos + _ ≤ _; rw [bytes_len]; omega, ?_, ?_, fun x hx hs => ?_, fun b hb => ?_, ?_, ?_, ?_⟩
    · show (p.list ++ [_]).length ≤ p.pos + _
      rw [List.length_append, List.length_singleton]; have := hwf.len; omega
    · show tsum (p.list ++ [_]) ≤ p.pos + _
      rw [tsum_app, tsum_one]
      show _ + (brS img).length ≤ _
      have := hwf.sum; omega
    · have : some (spanP 1 (brS img) [] [] []) = some x := (last_app _ _).symm.trans hx
      cases this; cases hs
    · show b.place < (p.list ++ [_]).length ∧ b.pos < p.pos + _
      rw [List.length_append, List.length_singleton]
      rcases List.mem_append.1 hb with hb | hb
      · have := hwf.br b hb; omega
      · rw [List.mem_singleton] at hb
        subst hb
        show p.list.length < p.list.length + 1 ∧ p.pos + (brS img).length - 1 < p.pos + (brS img).length
        omega
    · show (p.br ++ [_]).Pairwise _
      refine List.pairwise_append.2 ⟨hwf.brs, List.pairwise_singleton _ _, fun a ha b hb => ?_⟩
      rw [List.mem_singleton] at hb
      subst hb
      exact (hwf.br a ha).1
    · show p.dead ≤ (p.br ++ [_]).length
      rw [List.length_append]; exact Nat.le_trans hwf.dead (Nat.le_add_right _ _)
    · show (p.br ++ [_]).length ≤ p.pos + _
      rw [List.length_append, List.length_singleton]; have := hwf.brl; omega
  have mk : MemQ W' B O1 s rs { p with br := p.br ++ [newBr p img] } lv v8 rv fi pm tm em L := mq.keep hk
  refine (put_q mk 1 (brS img) [] [] [] (.slice none 0 0) (brS img).length (SpsAt.nil _ _) hwf.len (Nat.le_of_lt hp) (by show p.pos + _ ≤ _; omega) wfn (by show fi + (p.br ++ [_]).length ≤ p.pos + _; rw [List.length_append, List.length_singleton]; omega)).mono ?_
  rintro e w' ⟨he, hq⟩
  obtain ⟨O2, m2, c2⟩ := PostI.from hk hq
  exact ⟨he, O2, m2, c1.trans c2⟩
set_option maxRecDepth 100000 in
set_option maxHeartbeats 8000000 in
theorem takeBracket_mem (h : MemI W B O s rs p lv (.slice Ab p.br.length cb) rv fi pm tm em L) (wf : WfI s.data.toList p) (hp : p.pos < s.size) (img : Bool) (hc : s[p.pos].toNat = if img then 33 else 91) :
    Calls Tryz.prog 14 #[.pointer (some ⟨B, 0, none⟩)] W fun e w' => e = .returned (.tuple #[]) ∧ PostI W B O s rs (bktM s.data.toList p img) w' := by
  have hsiz := h.siz
  have hl := Lib.hid (bytes_len s)
  obtain ⟨A1, cl1, rfl, _⟩ := row_form h.row
  have hlen : L.length ≤ p.pos := by have := h.wf.len; rw [← h.eq, List.length_map] at this; exact this
  have hll : p.list.length = L.length := by rw [← h.eq, List.length_map]
  have hbl : p.br.length ≤ p.pos := h.wf.brl
  have KD := (Keeps.refl W).drew
  have KDD := KD.drew
  have a0 := h.box.cell 0 (v := .string s) rfl
  have a1 := h.box.cell 1 (v := .int .i64 p.pos) rfl
  have hs0 : (0 : Int) ≤ (p.pos : Int) := by omega
  have hs1 : (p.pos : Int) ≤ (s.size : Int) := by omega
  have hs2 : (p.pos : Int) < (s.size : Int) := by omega
  obtain ⟨sg, hsg⟩ : ∃ sg : ByteArray, (⟨(brS img).toArray⟩ : ByteArray) = sg := ⟨_, rfl⟩
  obtain ⟨k, hk⟩ : ∃ k : Nat, (brS img).length = k := ⟨_, rfl⟩
  have hk2 := brS_len img
  have hk' := hk
  rw [hk] at hk2
  have zsg : sg.size = k := by rw [← hsg, ← hk]; show (brS img).toArray.size = _; simp
  have HX := Lib.hid (fun w => (Tryz.strings_HasPrefix (s.extract p.pos s.size) ⟨(brS img).toArray⟩ w).mono (fun _ _ h => And.intro h.1 h.2.symm))
  rw [show (⟨(brS img).toArray⟩ : ByteArray).data.toList = brS img from rfl, Lib.extract_to_end, hsg] at HX
  have TT := Lib.hid (fun w => textOf_any sg w)
  have HB := Lib.hid (fun w (q : Keeps W w) => takeByte_any (W := w) (O := O) (rs := rs) ⟨wf, _, _, _, _, _, _, _, _, h.keep q⟩ hp)
  have HM := Lib.hid (fun w (q : Keeps W w) => (h.keep q).brMade (newBr p img) (by omega))
  have HP := Lib.hid (fun w (q : Keeps W w) w8 v8 o8 g8 l8 B8 W' hpre hkk => bkt_put (w8 := w8) (W' := W') (v8 := v8) (img := img) (h.keep q) o8 g8 l8 B8 hp hpre hkk)
  rw [hsg, hk] at HP
  have hnb : newBr p img = ⟨L.length, p.pos + k - 1, img⟩ := by unfold newBr; rw [hk, hll]
  rw [hnb] at HM HP
  have HBX := Lib.hid h.box
  have HSG := Lib.hid hsg
  have hk3 : k ≤ 2 := by rw [← hk']; cases img <;> decide
  have hkk1 : IntKind.i64.wrap ((p.pos : Int) + (k : Int)) = (p.pos : Int) + (k : Int) := IntWalk.i64_in _ (by omega)
  have hkk2 : IntKind.i64.wrap ((p.pos : Int) + (k : Int) - 1) = ((p.pos + k - 1 : Nat) : Int) := by rw [IntWalk.i64_in _ (by omega)]; omega
  clear h wf hnb hll hk hk'
  go_enter Tryz.func14, Tryz.ntmps14
  go_upto_region 1 with fail
  go_cut [3] (fun im wx => im = .bool img ∧ wx = W.drew)
  case first =>
    cases img
    · have q0 : (s[p.pos].toNat == 33) = false := by rw [hc]; rfl
      have q1 : ((s[p.pos].toNat : Int) == 33) = false := by rw [hc]; rfl
      go_region
      all_goals
        go_wp2_with fail
        go_meet
        exact ⟨rfl, rfl⟩
    · have q0 : (s[p.pos].toNat == 33) = true := by rw [hc]; rfl
      have q1 : ((s[p.pos].toNat : Int) == 33) = true := by rw [hc]; rfl
      go_region
      all_goals
        go_wp2_with fail
        go_meet
        exact ⟨rfl, rfl⟩
  case rest =>
    obtain ⟨rfl, rfl⟩ := hcut
    go_upto_if 15 with fail
    go_cut [2] (fun u wx => u = .string sg ∧ wx = W.drew)
    case first =>
      cases img
      · go_wp2_with fail
        go_meet
        exact ⟨by rw [← HSG.out]; rfl, rfl⟩
      · go_wp2_with fail
        go_meet
        exact ⟨by rw [← HSG.out]; rfl, rfl⟩
    case rest =>
      obtain ⟨rfl, rfl⟩ := hcut
      cases hpre : hasPrefix (s.data.toList.drop p.pos) (brS img) with
      | false =>
        have hM : Hid (bktM s.data.toList p img = byteM s.data.toList p) := Lib.hid (by unfold bktM; rw [if_neg (by rw [hpre]; decide)])
        rw [hpre] at HX
        clear HM HP hpre
        go_wp2_with fail
        go_region_held3 (fun w' => w' = W.drew.drew) (first | rfl | assumption)
          (first | (go_at_call 26; (with_reducible refine (HX.out _).mono ?_); rintro e w1 ⟨rfl, rfl⟩))
        go_wp2_with fail
        refine (HB.out _ KDD).mono ?_
        rintro e w2 ⟨rfl, q⟩
        have Q := Lib.hid (show PostI W B O s rs (bktM s.data.toList p img) w2 from hM.out ▸ PostI.from KDD q)
        clear q
        go_wp2_with fail
        refine bodyPost_ret (results_none rfl _ _ _) rfl ?_
        exact ⟨rfl, Q.out⟩
      | true =>
        rw [hpre] at HX
        have HPR := Lib.hid hpre
        clear HB hpre
        have b1 := (HBX.out.keep KDD).cell 1 (v := .int .i64 p.pos) rfl
        go_wp2_with fail
        go_region_held3 (fun w' => w' = W.drew.drew) (first | rfl | assumption)
          (first | (go_at_call 26; (with_reducible refine (HX.out _).mono ?_); rintro e w1 ⟨rfl, rfl⟩))
        go_upto_region 6 with fail
        go_cut [4] (fun u wx => ∃ w1, w1 = wx ∧ u = .int .i64 (p.pos + k - 1 : Nat) ∧ Keeps W w1)
        case first =>
          go_wp2_with fail
          go_meet
          exact ⟨_, rfl, rfl, KDD⟩
        case rest =>
        obtain ⟨w1, rfl, rfl, KT⟩ := hcut
        have d2 := (HBX.out.keep KT).cell 2 (v := .slice A1 L.length cl1) rfl
        have d3 := (HBX.out.keep KT).cell 3 (v := .slice Ab p.br.length cb) rfl
        obtain ⟨A8, c8, w8, ra0, o8, g8, l8, B8⟩ := HM.out _ KT.drew
        have ra : (Builtin.append_ #[34, 34] 34 #[.slice Ab p.br.length cb, .slice (some ⟨w1.heap.size, 0, none⟩) 1 1]).run Tryz.prog ((w1.alloc (.cells #[.int .i64 (L.length : Nat), .int .i64 (p.pos + k - 1 : Nat), .bool img] 63)).drew) = .ok (.slice A8 (p.br.length + 1) c8) w8 := ra0
        have HP8 := Lib.hid (fun W' hkk => HP.out _ KT.drew w8 _ o8 g8 l8 B8 W' HPR.out hkk)
        have e2 := ((HBX.out.keep KT).alloc (.cells #[.int .i64 (L.length : Nat), .int .i64 (p.pos + k - 1 : Nat), .bool img] 63)).cell 2 (v := .slice A1 L.length cl1) rfl
        have e3 := ((HBX.out.keep KT).alloc (.cells #[.int .i64 (L.length : Nat), .int .i64 (p.pos + k - 1 : Nat), .bool img] 63)).cell 3 (v := .slice Ab p.br.length cb) rfl
        have y3 := B8.cell 3 (v := .slice Ab p.br.length cb) rfl
        have yf := B8.free 3
        clear HP HM o8 g8 l8 B8 ra0
        go_wp2_with fail
        go_region_law (first | (refine step_append_run' rfl (.tmp 42) (.tmp 51) _ _ rfl _ _ (by simp [Act.eval]) (by simp [Act.eval]) _ _ ra ?_))
        all_goals
          go_wp2_with fail
          refine (TT.out _).mono ?_
          rintro e w2 ⟨rfl, k2⟩
          go_wp2_with fail
          refine (HP8.out _ k2).mono ?_
          rintro e w3 ⟨rfl, q⟩
          have Q := Lib.hid (PostI.from KT.drew q)
          clear q
          go_wp2_with fail
          go_end0
          exact ⟨rfl, Q.out⟩
end
end Go.Proofs.YtklmgbkkjmfhcaaGreatDoor

/-
  Contracts of lastBracket, between.
-/
namespace Go.Proofs.YtklmgbkkjmfhcaaGreatDoor
open Go.RowKit Go.Lib Go.Maps

def popI (p : Ps) : Ps := { p with br := p.br.dropLast, dead := min p.dead (p.br.length - 1) }
section
variable {W : World} {B : Nat} {O : Nat → Option Nat} {s : ByteArray} {rs : List Rf} {p : Ps} {lv bv rv : Value} {fi : Nat} {pm tm em : Value} {L : List (Pc × Value)} {Ab : Option Addr} {cb : Nat}
theorem WfC.popC {s : List UInt8} (h : WfC s p) : WfC s (popI p) :=
  ⟨h.pos, h.len, h.sum, fun b hb => h.br b (mem_dropLast hb), h.brs.sublist (List.dropLast_sublist _), by show min _ _ ≤ (p.br.dropLast).length; rw [List.length_dropLast]; omega, by show (p.br.dropLast).length ≤ p.pos; rw [List.length_dropLast]; have := h.brl; omega⟩
theorem MemI.brAt (h : MemI W B O s rs p lv (.slice Ab p.br.length cb) rv fi pm tm em L) {b : Br} (hb : p.br.getLast? = some b) : ∃ g, Ab = some ⟨g, 0, none⟩ ∧ 0 < p.br.length ∧ p.br.length ≤ cb ∧ W.cell? ⟨g, (p.br.length - 1) * 3, none⟩ = some (.int .i64 b.place) ∧ W.cell? ⟨g, (p.br.length - 1) * 3 + 1, none⟩ = some (.int .i64 b.pos) ∧ W.cell? ⟨g, (p.br.length - 1) * 3 + 2, none⟩ = some (.bool b.image) := by
  obtain ⟨ys, e2⟩ := List.getLast?_eq_some_iff.1 hb
  have hn : p.br.length = ys.length + 1 := by rw [e2]; simp
  have hbr := h.brs
  rcases hbr.2 with ⟨_, e⟩ | ⟨g, _, _, e, _, _, h1, _⟩
  · omega
  · simp only [Value.slice.injEq] at e
    obtain ⟨rfl, _, rfl⟩ := e
    have hc : ∀ j, j < 3 → W.cell? ⟨g, (p.br.length - 1) * 3 + j, none⟩ = (brC b)[j]? := fun j hj => by
      rw [hbr.cellAt _ (by omega)]
      conv => lhs; rw [e2]
      rw [brR_app, List.getElem?_append_right (by rw [brR_len]; simp), brR_len, show (ys ++ [b]).length - 1 = ys.length by simp, show ys.length * 3 + j - ys.length * 3 = j by omega, show brR [b] = brC b from List.append_nil _]
    exact ⟨g, rfl, by omega, h1, hc 0 (by decide), hc 1 (by decide), hc 2 (by decide)⟩
def brV (b : Br) : Value := .agg #[.int .i64 b.place, .int .i64 b.pos, .bool b.image]
set_option maxRecDepth 100000 in
set_option maxHeartbeats 4000000 in
theorem lastBracket_none (h : MemI W B O s rs p lv (.slice Ab p.br.length cb) rv fi pm tm em L) (hn : p.br = []) :
    Calls Tryz.prog 34 #[.pointer (some ⟨B, 0, none⟩)] W fun e w' => e = .returned (.tuple #[.agg #[.int .i64 0, .int .i64 0, .bool false], .bool false]) ∧ Keeps W w' := by
  have b3 := h.box.cell 3 (v := .slice Ab 0 cb) (by rw [hn]; rfl)
  have hB := h.box.lt
  have BN := Blk.new W 63 #[.int .i64 0, .int .i64 0, .bool false]
  have KN := (Keeps.refl W).alloc (.cells #[.int .i64 0, .int .i64 0, .bool false] 63)
  have y0 := BN.cell 0 (v := .int .i64 0) rfl
  have y1 := BN.cell 1 (v := .int .i64 0) rfl
  have y2 := BN.cell 2 (v := .bool false) rfl
  have HBN := Lib.hid BN
  have HKN := Lib.hid KN
  clear h BN KN hn
  go_enter Tryz.func34, Tryz.ntmps34
  go_wp2_with fail
  exact ret_blk2 rfl rfl rfl rfl HBN.out Tryz.underlying63 (by kernel_rfl) ⟨rfl, HKN.out⟩
set_option maxRecDepth 100000 in
set_option maxHeartbeats 8000000 in
theorem lastBracket_some (h : MemI W B O s rs p lv (.slice Ab p.br.length cb) rv fi pm tm em L) {b : Br} (hb : p.br.getLast? = some b) :
    Calls Tryz.prog 34 #[.pointer (some ⟨B, 0, none⟩)] W fun e w' => e = .returned (.tuple #[brV b, .bool (b.image || decide (p.dead ≤ p.br.length - 1))]) ∧
      ∃ O', MemI w' B O' s rs (popI p) lv (.slice Ab (p.br.length - 1) cb) rv fi pm tm em L ∧ Chg W O w' O' := by
  obtain ⟨g, rfl, hn, hcb, c0, c1, c2⟩ := h.brAt hb
  have hsiz := h.siz
  have hpos := h.wf.pos
  rw [bytes_len] at hpos
  have hbl := h.wf.brl
  have hdd := h.wf.dead
  have hBs := h.box.lt
  have hgB : g ≠ B := h.ne (cls := 1) (h.oK g rfl)
  have hgl : g < W.heap.size := h.lt g (by rw [h.oK g rfl]; simp)
  obtain ⟨n, hN⟩ : ∃ n, p.br.length = n + 1 := ⟨p.br.length - 1, by omega⟩
  have hp1 : p.br.length - 1 = n := by omega
  have hpi : popI p = { p with br := p.br.dropLast, dead := min p.dead n } := by unfold popI; rw [hp1]
  obtain ⟨mm, mc⟩ := h.brPop (d := min p.dead n) (Keeps.refl W) hn (hpi ▸ h.wf.popC)
  rw [hp1] at c0 c1 c2 mm mc ⊢
  rw [← hpi] at mm
  have hb0 : Blk W B 38 #[.string s, .int .i64 p.pos, lv, .slice (some ⟨g, 0, none⟩) (n + 1) cb, .int .i64 p.dead, rv, .int .i64 fi, pm, tm, em] := by
    have := h.box
    unfold boxI at this
    rwa [hN] at this
  obtain ⟨m, hm⟩ : ∃ m : Nat, min p.dead n = m := ⟨_, rfl⟩
  rw [hm] at mm mc
  have HMM := Lib.hid mm
  have HMC := Lib.hid mc
  have hz2 : ((W.setCell ⟨B, 3, none⟩ (.slice (some ⟨g, 0, none⟩) n cb)).setCell ⟨B, 4, none⟩ (.int .i64 (m : Nat))).heap.size = W.heap.size := by rw [setCell_size, setCell_size]
  have hm1 : min (p.dead : Int) (n : Int) = (m : Int) := by omega
  have hw : IntKind.i64.wrap (((n + 1 : Nat) : Int) - 1) = (n : Int) := by rw [IntWalk.i64_in _ (by omega)]; omega
  have hw2 : IntKind.i64.wrap ((n : Int) + 1 - 1) = (n : Int) := by rw [IntWalk.i64_in _ (by omega)]; omega
  have b3 := hb0.cell 3 (v := .slice (some ⟨g, 0, none⟩) (n + 1) cb) rfl
  have b4 := hb0.cell 4 (v := .int .i64 p.dead) rfl
  have i0 : (0 : Int) ≤ (n : Int) := by omega
  have i1 : (n : Int) < (n : Int) + 1 := by omega
  have i2 : (n : Int) ≤ (cb : Int) := by omega
  have hn0 : ¬ (n : Int) < 0 := by omega
  have hcb0 : ¬ cb = 0 := by omega
  have hn2 : n ≤ 20000 := by omega
  have f3 := hb0.free 3
  have f4 := hb0.free 4
  have HB0 := Lib.hid hb0
  obtain ⟨x0, x1, x2⟩ := b
  dsimp only at c0 c1 c2
  clear h hb hp1 hb0 hpos hbl hdd hN mm mc hpi hm
  have HQ : Hid (∀ o1 o2 : Obj, ∃ O', MemI ((((W.setCell ⟨B, 3, none⟩ (.slice (some ⟨g, 0, none⟩) n cb)).setCell ⟨B, 4, none⟩ (.int .i64 (m : Nat))).alloc o1).alloc o2) B O' s rs (popI p) lv (.slice (some ⟨g, 0, none⟩) n cb) rv fi pm tm em L ∧ Chg W O ((((W.setCell ⟨B, 3, none⟩ (.slice (some ⟨g, 0, none⟩) n cb)).setCell ⟨B, 4, none⟩ (.int .i64 (m : Nat))).alloc o1).alloc o2) O') := Lib.hid fun o1 o2 => by
    have k := ((Keeps.refl ((W.setCell ⟨B, 3, none⟩ (.slice (some ⟨g, 0, none⟩) n cb)).setCell ⟨B, 4, none⟩ (.int .i64 (m : Nat)))).alloc o1).alloc o2
    exact ⟨O, HMM.out.keep k, HMC.out.trans (Chg.keeps O k)⟩
  have HR : Hid (∀ cs o2, Blk ((((W.setCell ⟨B, 3, none⟩ (.slice (some ⟨g, 0, none⟩) n cb)).setCell ⟨B, 4, none⟩ (.int .i64 (m : Nat))).alloc (.cells cs 63)).alloc o2) W.heap.size 63 cs) := Lib.hid fun cs o2 => by
    have := (Blk.new ((W.setCell ⟨B, 3, none⟩ (.slice (some ⟨g, 0, none⟩) n cb)).setCell ⟨B, 4, none⟩ (.int .i64 (m : Nat))) 63 cs).alloc o2
    rwa [hz2] at this
  clear hz2
  cases x2 with
  | true =>
    go_enter Tryz.func34, Tryz.ntmps34
    go_wp2_with fail
    exact ret_blk2 rfl rfl rfl rfl (HR.out _ _) Tryz.underlying63 (by kernel_rfl) ⟨rfl, HQ.out _ _⟩
  | false =>
    go_enter Tryz.func34, Tryz.ntmps34
    go_wp2_with fail
    exact ret_blk2 rfl rfl rfl rfl (HR.out _ _) Tryz.underlying63 (by kernel_rfl) ⟨rfl, HQ.out _ _⟩
set_option maxRecDepth 100000 in
set_option maxHeartbeats 4000000 in
theorem between_any {s : ByteArray} {W : World} {B : Nat} {cs : Array Value} (hB : Blk W B 38 cs) (h0 : cs[0]? = some (.string s)) (hs : s.size ≤ 20000) (a e : Nat) (ha : a ≤ s.size) :
    Calls Tryz.prog 60 #[.pointer (some ⟨B, 0, none⟩), .int .i64 a, .int .i64 e] W fun r w' => r = .returned (.string ⟨(btwL s.data.toList a e).toArray⟩) ∧ Keeps W w' := by
  have b0 := hB.cell 0 h0
  have LB := Lib.hid (fun w => label_any (s.extract a s.size) w (by rw [ByteArray.size_extract]; omega))
  rw [Lib.extract_to_end] at LB
  have hle := (lbl_le (s.data.toList.drop a)).2
  rw [List.length_drop, bytes_len] at hle
  have hM : btwL s.data.toList a e = if a + lblN (s.data.toList.drop a) = e then lblT (s.data.toList.drop a) else [] := rfl
  rw [hM]
  unfold LblV at LB
  have hs0 : (0 : Int) ≤ (a : Int) := by omega
  have hs1 : (a : Int) ≤ (s.size : Int) := by omega
  generalize lblN (s.data.toList.drop a) = n at *
  generalize lblT (s.data.toList.drop a) = t at *
  have hn2 : n ≤ 20000 := by omega
  have ha2 : a ≤ 20000 := by omega
  clear hM hB h0
  by_cases hc : a + n = e
  · rw [if_pos hc]
    have q1 : ((a : Int) + (n : Int) == (e : Int)) = true := by simp; omega
    have q2 : ((a : Int) + (n : Int) != (e : Int)) = false := by simp; omega
    clear hc
    go_enter Tryz.func60, Tryz.ntmps60
    go_wp2_with fail
    refine (LB.out _).mono ?_
    rintro e w1 ⟨rfl, k1⟩
    go_wp2_with fail
    go_ret
    exact ⟨rfl, k1⟩
  · rw [if_neg hc]
    have q1 : ((a : Int) + (n : Int) == (e : Int)) = false := by simp; omega
    have q2 : ((a : Int) + (n : Int) != (e : Int)) = true := by simp; omega
    clear hc
    go_enter Tryz.func60, Tryz.ntmps60
    go_wp2_with fail
    refine (LB.out _).mono ?_
    rintro e w1 ⟨rfl, k1⟩
    go_wp2_with fail
    go_ret
    exact ⟨rfl, k1⟩
end
end Go.Proofs.YtklmgbkkjmfhcaaGreatDoor


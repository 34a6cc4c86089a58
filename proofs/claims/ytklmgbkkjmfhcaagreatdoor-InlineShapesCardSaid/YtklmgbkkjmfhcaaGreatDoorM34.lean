/-
  Texts of the proof, one behind the other: Ip6, Ip7, Ip8, IpA, IpC, IpD, IpE, IpB.
-/
import Derived.Test.YtklmgbkkjmfhcaaGreatDoorM33
import Derived.Test.YtklmgbkkjmfhcaaGreatDoorM27
/-
  Contract of countTicks.
-/
namespace Go.Proofs.YtklmgbkkjmfhcaaGreatDoor
open Go.RowKit Go.Lib

theorem cnP_more {p : UInt8 → Bool} {l : List UInt8} {k : Nat} (hc : cntP p l = k + cntP p (l.drop k)) (h : k < l.length) (hp : p l[k] = true) : cntP p l = k + 1 + cntP p (l.drop (k + 1)) := by
  rw [List.drop_eq_getElem_cons h, cntP_yes _ hp] at hc
  omega
theorem cnP_stop {p : UInt8 → Bool} {l : List UInt8} {k : Nat} (hc : cntP p l = k + cntP p (l.drop k)) (h : k < l.length) (hp : p l[k] = false) : cntP p l = k := by
  rw [List.drop_eq_getElem_cons h, cntP_no _ hp] at hc
  omega
theorem cnP_end {p : UInt8 → Bool} {l : List UInt8} {k : Nat} (hc : cntP p l = k + cntP p (l.drop k)) (h : l.length ≤ k) : cntP p l = k := by
  rw [List.drop_eq_nil_of_le h] at hc
  exact hc
set_option maxRecDepth 100000 in
set_option maxHeartbeats 400000 in
theorem countTicks_any (s : ByteArray) (w : World) (hs : s.size ≤ 100000) :
    Calls Tryz.prog 28 #[.string s] w fun e w' => e = .returned (.int .i64 (cntP rTik s.data.toList : Nat)) ∧ w = w' := by
  have hl := Lib.hid (bytes_len s)
  go_enter Tryz.func28, Tryz.ntmps28
  go_wp2
  go_loop [3] (fun i => ∃ k : Nat, k ≤ s.size ∧ Hid (cntP rTik s.data.toList = k + cntP rTik (s.data.toList.drop k)) ∧ i = .int .i64 k) (fun i => s.size - (RowKit.intOf i).toNat)
  case atStart => exact ⟨0, Nat.zero_le _, Lib.hid (by rw [List.drop_zero, Nat.zero_add]), rfl⟩
  case round =>
    obtain ⟨k, hk, HC, rfl⟩ := hrel
    by_cases h : k < s.size
    · have HK : Hid (k < s.data.toList.length) := Lib.hid (by rw [hl.out]; exact h)
      by_cases e : s[k].toNat = 96
      · have t1 : (s[k].toNat == 96) = true := by rw [e]; rfl
        have t2 : ((s[k].toNat : Int) == 96) = true := by rw [e]; rfl
        have HN : Hid (cntP rTik s.data.toList = k + 1 + cntP rTik (s.data.toList.drop (k + 1))) := Lib.hid (cnP_more HC.out HK.out (decide_eq_true e))
        go_wp2_with fail
        go_round
        case rel => exact ⟨k + 1, h, HN, by go_num⟩
        case measure => simp [RowKit.intOf]; omega
      · have t1 : (s[k].toNat == 96) = false := beq_eq_false_iff_ne.2 e
        have t2 : ((s[k].toNat : Int) == 96) = false := beq_eq_false_iff_ne.2 (by omega)
        have HN : Hid (cntP rTik s.data.toList = k) := Lib.hid (cnP_stop HC.out HK.out (decide_eq_false e))
        go_wp2_with fail
        go_ret
        exact ⟨ret_int (by rw [HN.out]), rfl⟩
    · have HN : Hid (cntP rTik s.data.toList = k) := Lib.hid (cnP_end HC.out (by rw [hl.out]; omega))
      go_wp2_with fail
      go_ret
      exact ⟨ret_int (by rw [HN.out]), rfl⟩
end Go.Proofs.YtklmgbkkjmfhcaaGreatDoor

/-
  Contract of takeBreak.
-/
namespace Go.Proofs.YtklmgbkkjmfhcaaGreatDoor
open Go.RowKit Go.Lib

theorem trimS_one (l : List UInt8) (c : UInt8) : trimRightS l [c] = trimRightB l c := by
  unfold trimRightS trimRightB
  congr 2
  funext b
  simp only [List.contains_cons, List.contains_nil, Bool.or_false]
theorem WfC.brk {s : List UInt8} {p : Ps} (h : WfC s p) : WfC s { p with list := brkL p.list } := by
  have := brk_len p.list
  exact ⟨h.pos, (by show (brkL p.list).length ≤ p.pos; rw [this.1]; exact h.len), Nat.le_trans this.2 h.sum, (fun b hb => by rw [this.1]; exact h.br b hb), h.brs, h.dead, h.brl⟩
theorem brkM_put (s : List UInt8) (p : Ps) (k : Nat) (h : brkK p.list = k) : brkM s p = skipM s (({ p with list := brkL p.list } : Ps).put (spanP k [] [] [] []) 1) := by rw [← h]; rfl
section
variable {Al : Option Addr} {cl : Nat} {W : World} {B : Nat} {O : Nat → Option Nat} {s : ByteArray} {rs : List Rf} {p : Ps} {lv bv rv : Value} {fi : Nat} {pm tm em : Value} {L : List (Pc × Value)}
theorem putKind_mem (m : MemI W B O s rs p lv bv rv fi pm tm em L) (k : Nat) (n : Nat) (hn : 1 ≤ n) (hp : p.pos + n ≤ s.size) :
    Calls Tryz.prog 25 #[.pointer (some ⟨B, 0, none⟩), .agg #[.int .i64 k, .string ⟨#[]⟩, .string ⟨#[]⟩, .string ⟨#[]⟩, .slice none 0 0], .int .i64 n] W fun e w' => e = .returned (.tuple #[]) ∧ PostI W B O s rs (p.put (spanP k [] [] [] []) n) w' :=
  put_any m k [] [] [] [] (.slice none 0 0) n (SpsAt.nil _ _) hn (Nat.zero_le _) hp
theorem MemI.bare (m : MemI W B O s rs p lv bv rv fi pm tm em L) {q : Ps} (h : q = p) : MemI W B O s rs q lv bv rv fi pm tm em L := h ▸ m
set_option maxRecDepth 100000 in
set_option maxHeartbeats 8000000 in
/-- Nothing of the last piece goes. -/
theorem break_same (m : MemI W B O s rs p (.slice Al L.length cl) bv rv fi pm tm em L) (hp : p.pos < s.size) (hk : brkK p.list = 2) (hl : brkL p.list = p.list)
    (h4 : (L.length : Int) - 1 < 0 ∨ ∃ (g0 : Nat) (x : Pc), Al = some ⟨g0, 0, none⟩ ∧ 0 ≤ (L.length : Int) - 1 ∧ W.cell? ⟨g0, (L.length - 1) * 9, none⟩ = some (.int .i64 x.kind) ∧ x.kind ≠ 1) :
    Calls Tryz.prog 17 #[.pointer (some ⟨B, 0, none⟩)] W fun e w' => e = .returned (.tuple #[]) ∧ PostI W B O s rs (brkM s.data.toList p) w' := by
  have hsiz := m.siz
  have hlen : L.length ≤ p.pos := by have := m.wf.len; rw [← m.eq, List.length_map] at this; exact this
  have b2 := m.box.cell 2 (v := .slice Al L.length cl) rfl
  have hw : IntKind.i64.wrap ((L.length : Int) - 1) = (L.length : Int) - 1 := IntWalk.i64_in _ (by omega)
  have BM := Lib.hid (brkM_put s.data.toList p 2 hk).symm
  have m1 := m.bare (q := { p with list := brkL p.list }) (by rw [hl])
  have hP := Lib.hid (show Calls Tryz.prog 25 #[.pointer (some ⟨B, 0, none⟩), .agg #[.int .i64 2, .string ⟨#[]⟩, .string ⟨#[]⟩, .string ⟨#[]⟩, .slice none 0 0], .int .i64 1] W fun e w' => e = .returned (.tuple #[]) ∧ PostI W B O s rs (({ p with list := brkL p.list } : Ps).put (spanP 2 [] [] [] []) 1) w' from putKind_mem m1 2 1 (Nat.le_refl _) hp)
  clear m m1 hk hl
  go_enter Tryz.func17, Tryz.ntmps17
  rcases h4 with h4 | ⟨g0, x, rfl, h4, c0, hx⟩
  · go_wp2_with fail
    refine hP.out.mono ?_
    rintro e w3 ⟨rfl, q⟩
    obtain ⟨O1, m1, c1⟩ := q
    have SK := Lib.hid (skip_par m1 (brkL_last p.list 2))
    have C1 := Lib.hid ((Chg.refl W O).trans c1)
    clear c1 m1
    go_wp2_with fail
    refine SK.out.mono ?_
    rintro e w4 ⟨rfl, O2, m2, c2⟩
    have Q := Lib.hid (show PostI W B O s rs (brkM s.data.toList p) w4 from BM.out ▸ ⟨O2, m2, C1.out.trans c2⟩)
    clear m2 c2 C1
    go_wp2_with fail
    go_end0
    exact ⟨rfl, Q.out⟩
  · have q0 := beqF (show ¬ (x.kind : Int) = 1 by omega)
    go_wp2_with fail
    refine hP.out.mono ?_
    rintro e w3 ⟨rfl, q⟩
    obtain ⟨O1, m1, c1⟩ := q
    have SK := Lib.hid (skip_par m1 (brkL_last p.list 2))
    have C1 := Lib.hid ((Chg.refl W O).trans c1)
    clear c1 m1
    go_wp2_with fail
    refine SK.out.mono ?_
    rintro e w4 ⟨rfl, O2, m2, c2⟩
    have Q := Lib.hid (show PostI W B O s rs (brkM s.data.toList p) w4 from BM.out ▸ ⟨O2, m2, C1.out.trans c2⟩)
    clear m2 c2 C1
    go_wp2_with fail
    go_end0
    exact ⟨rfl, Q.out⟩
end
end Go.Proofs.YtklmgbkkjmfhcaaGreatDoor

/-
  Contract of takeBreak, where a text stands ahead.
-/
namespace Go.Proofs.YtklmgbkkjmfhcaaGreatDoor
open Go.RowKit Go.Lib

section
variable {W : World} {B : Nat} {O : Nat → Option Nat} {s : ByteArray} {rs : List Rf} {p : Ps} {bv rv : Value} {fi : Nat} {pm tm em : Value} {L0 : List (Pc × Value)} {x : Pc} {kv : Value} {g cap : Nat}
set_option maxRecDepth 100000 in
set_option maxHeartbeats 8000000 in
theorem break_cut (m : MemI W B O s rs p (.slice (some ⟨g, 0, none⟩) (L0.length + 1) cap) bv rv fi pm tm em (L0 ++ [(x, kv)])) (hp : p.pos < s.size) (hx : x.kind = 1) (k : Nat) (hf : hasSuffix x.text [32, 32] = decide (k = 3)) (hk23 : k = 2 ∨ k = 3) :
    Calls Tryz.prog 17 #[.pointer (some ⟨B, 0, none⟩)] W fun e w' => e = .returned (.tuple #[]) ∧ PostI W B O s rs (brkM s.data.toList p) w' := by
  have hsiz := m.siz
  have hlen : L0.length + 1 ≤ p.pos := by have := m.wf.len; rw [← m.eq, List.length_map, List.length_append, List.length_singleton] at this; exact this
  have hcap : L0.length + 1 ≤ cap := by
    have hn := m.len0
    rcases m.row.2 with ⟨e, _⟩ | ⟨_, _, _, e, _, _, h1, _⟩
    · cases e
    · simp only [Value.slice.injEq] at e
      rw [List.length_append, List.length_singleton] at h1
      omega
  have hlast : p.list.getLast? = some x := by rw [← m.eq, List.map_append]; exact last_app _ _
  have hdl : p.list.dropLast = L0.map Prod.fst := by rw [← m.eq, List.map_append]; simp
  have hL : L0.length < (L0 ++ [(x, kv)]).length := by simp
  have hg : (L0 ++ [(x, kv)])[L0.length] = (x, kv) := by simp
  have c0 : W.cell? ⟨g, L0.length * 9, none⟩ = some (.int .i64 1) := by
    have := m.at hL 0 (by decide)
    rw [Nat.add_zero] at this
    rw [this, hg]
    show some (Value.int .i64 x.kind) = _
    rw [hx]; rfl
  have c1 : W.cell? ⟨g, L0.length * 9 + 1, none⟩ = some (.string ⟨x.text.toArray⟩) := by rw [m.at hL 1 (by decide), hg]; rfl
  have fg := m.frz (L0.length * 9 + 1)
  have b2 := m.box.cell 2 (v := .slice (some ⟨g, 0, none⟩) (L0.length + 1) cap) rfl
  have hw : IntKind.i64.wrap (((L0.length + 1 : Nat) : Int) - 1) = ((L0.length : Nat) : Int) := by rw [IntWalk.i64_in _ (by omega)]; omega
  have htx : x.text.length ≤ 20000 := by
    have h1 := m.wf.sum
    have h2 := last_split hlast
    rw [h2, tsum_app, tsum_one] at h1
    have := m.wf.pos
    rw [bytes_len] at this
    omega
  have hbl : brkL p.list = L0.map Prod.fst ++ [x.set (trimRightS x.text [32])] := by
    unfold brkL
    rw [hlast]
    show (if x.kind = 1 then _ else _) = _
    rw [if_pos hx, hdl]
  have hkk : brkK p.list = k := by
    unfold brkK
    rw [hlast]
    show (if x.kind = 1 ∧ hasSuffix x.text [32, 32] = true then 3 else 2) = k
    rcases hk23 with rfl | rfl
    · rw [hf, if_neg (by simp)]
    · rw [hf, if_pos ⟨hx, by decide⟩]
  have BM := Lib.hid (brkM_put s.data.toList p k hkk).symm
  obtain ⟨O5, m5, c5⟩ := m.text (W1 := W) (p' := { p with list := brkL p.list }) (trimRightS x.text [32]) (fun _ _ => rfl) rfl rfl rfl rfl m.box hbl rfl m.fin m.wf.brk
  rw [trimS_one] at m5 c5
  have hP := Lib.hid (fun w (q : Keeps (W.setCell ⟨g, L0.length * 9 + 1, none⟩ (.string ⟨(trimRightB x.text 32).toArray⟩)) w) => putKind_mem (m5.keep q) k 1 (Nat.le_refl _) hp)
  have HS := Lib.hid (fun w => (Tryz.strings_HasSuffix ⟨x.text.toArray⟩ ⟨#[32, 32]⟩ w (by show x.text.toArray.size ≤ _; simp; omega)).mono (fun _ _ h => And.intro h.1 h.2.symm))
  rw [show (⟨#[32, 32]⟩ : ByteArray).data.toList = [32, 32] from rfl, show (⟨x.text.toArray⟩ : ByteArray).data.toList = x.text from rfl, hf] at HS
  have TR := Lib.hid (fun w => (Tryz.strings_TrimRight_one ⟨x.text.toArray⟩ 32 (by decide) w (by show x.text.toArray.size ≤ _; simp; omega)).mono (fun _ _ h => And.intro h.1 h.2.symm))
  rw [show (⟨x.text.toArray⟩ : ByteArray).data.toList = x.text from rfl] at TR
  have C5 := Lib.hid c5
  obtain ⟨sx, hsx⟩ : ∃ sx : ByteArray, (⟨x.text.toArray⟩ : ByteArray) = sx := ⟨_, rfl⟩
  rw [hsx] at HS TR c1
  obtain ⟨sy, hsy⟩ : ∃ sy : ByteArray, (⟨(trimRightB x.text 32).toArray⟩ : ByteArray) = sy := ⟨_, rfl⟩
  rw [hsy] at TR hP C5
  have i0 : (0 : Int) ≤ ((L0.length : Nat) : Int) := by omega
  have i1 : ((L0.length : Nat) : Int) < ((L0.length : Nat) : Int) + 1 := by omega
  have i2 : ((L0.length : Nat) : Int) < ((L0.length + 1 : Nat) : Int) := by omega
  clear m m5 c5 hkk hbl hlast hdl hL hg hsx hsy hx htx
  rcases hk23 with rfl | rfl
  · rw [decide_eq_false (by decide)] at HS
    clear hf
    go_enter Tryz.func17, Tryz.ntmps17
    go_wp2_with fail
    refine (HS.out _).mono ?_
    rintro e w1 ⟨rfl, rfl⟩
    go_wp2_with fail
    go_region_law (first | (go_simp; go_at_call 41; (with_reducible refine (TR.out _).mono ?_); rintro e w1 ⟨rfl, rfl⟩))
    all_goals
      go_wp2_with fail
      refine (hP.out _ ((Keeps.refl _).drew)).mono ?_
      rintro e w3 ⟨rfl, q⟩
      obtain ⟨O1, m1, c1⟩ := q
      have SK := Lib.hid (skip_par m1 (brkL_last p.list 2))
      have C1 := Lib.hid ((C5.out.trans (Chg.keeps _ (Keeps.refl _).drew)).trans c1)
      clear c1 m1
      go_wp2_with fail
      refine SK.out.mono ?_
      rintro e w4 ⟨rfl, O2, m2, c2⟩
      have Q := Lib.hid (show PostI W B O s rs (brkM s.data.toList p) w4 from BM.out ▸ ⟨O2, m2, C1.out.trans c2⟩)
      clear m2 c2 C1
      go_wp2_with fail
      go_end0
      exact ⟨rfl, Q.out⟩
  · rw [decide_eq_true (by decide)] at HS
    clear hf
    go_enter Tryz.func17, Tryz.ntmps17
    go_wp2_with fail
    refine (HS.out _).mono ?_
    rintro e w1 ⟨rfl, rfl⟩
    go_wp2_with fail
    go_region_law (first | (go_simp; go_at_call 41; (with_reducible refine (TR.out _).mono ?_); rintro e w1 ⟨rfl, rfl⟩))
    all_goals
      go_wp2_with fail
      refine (hP.out _ ((Keeps.refl _).drew)).mono ?_
      rintro e w3 ⟨rfl, q⟩
      obtain ⟨O1, m1, c1⟩ := q
      have SK := Lib.hid (skip_par m1 (brkL_last p.list 3))
      have C1 := Lib.hid ((C5.out.trans (Chg.keeps _ (Keeps.refl _).drew)).trans c1)
      clear c1 m1
      go_wp2_with fail
      refine SK.out.mono ?_
      rintro e w4 ⟨rfl, O2, m2, c2⟩
      have Q := Lib.hid (show PostI W B O s rs (brkM s.data.toList p) w4 from BM.out ▸ ⟨O2, m2, C1.out.trans c2⟩)
      clear m2 c2 C1
      go_wp2_with fail
      go_end0
      exact ⟨rfl, Q.out⟩
end
section
variable {W : World} {B : Nat} {O : Nat → Option Nat} {s : ByteArray} {rs : List Rf} {p : Ps}
theorem takeBreak_any (h : ParI W B O s rs p) (hp : p.pos < s.size) :
    Calls Tryz.prog 17 #[.pointer (some ⟨B, 0, none⟩)] W fun e w' => e = .returned (.tuple #[]) ∧ PostI W B O s rs (brkM s.data.toList p) w' := by
  obtain ⟨wf, lv, bv, rv, fi, pm, tm, em, L, m⟩ := h
  obtain ⟨Al, cl, rfl, _⟩ := row_form m.row
  rcases List.eq_nil_or_concat L with e | ⟨L0, ⟨x, kv⟩, e⟩
  · have e0 : p.list = [] := by rw [← m.eq, e]; rfl
    exact break_same m hp (by rw [e0]; rfl) (by rw [e0]; rfl) (.inl (by rw [e]; show ((0 : Nat) : Int) - 1 < 0; omega))
  · rw [List.concat_eq_append] at e
    subst e
    have hlast : p.list.getLast? = some x := by rw [← m.eq, List.map_append]; exact last_app _ _
    obtain ⟨g, eg⟩ : ∃ g, Al = some ⟨g, 0, none⟩ := by
      rcases m.row.2 with ⟨_, e⟩ | ⟨g, _, _, e, _⟩
      · rw [List.length_append, List.length_singleton] at e; omega
      · cases e; exact ⟨g, rfl⟩
    subst eg
    have hn : (L0 ++ [(x, kv)]).length = L0.length + 1 := by rw [List.length_append, List.length_singleton]
    by_cases hx : x.kind = 1
    · rw [hn] at m
      cases hf : hasSuffix x.text [32, 32] with
      | true => exact break_cut m hp hx 3 (by rw [hf]; rfl) (.inr rfl)
      | false => exact break_cut m hp hx 2 (by rw [hf]; rfl) (.inl rfl)
    · have hL : L0.length < (L0 ++ [(x, kv)]).length := by simp
      have hg : (L0 ++ [(x, kv)])[L0.length] = (x, kv) := by simp
      refine break_same m hp ?_ ?_ (.inr ⟨g, x, rfl, by rw [hn]; omega, ?_, hx⟩)
      · unfold brkK
        rw [hlast]
        exact if_neg (fun q => hx q.1)
      · unfold brkL
        rw [hlast]
        exact if_neg hx
      · have := m.at hL 0 (by decide)
        rw [Nat.add_zero, hg] at this
        rw [hn, show L0.length + 1 - 1 = L0.length by omega, this]
        rfl
end
end Go.Proofs.YtklmgbkkjmfhcaaGreatDoor

/-
  Inline's parser: a map of it turns; the last stretches of the sign 96, plainly.
-/
namespace Go.Proofs.YtklmgbkkjmfhcaaGreatDoor
open Go.RowKit Go.Lib Go.Maps

section
variable {W : World} {B : Nat} {O : Nat → Option Nat} {s : ByteArray} {rs : List Rf} {p : Ps} {lv bv rv : Value} {fi : Nat} {pm tm em : Value} {L : List (Pc × Value)}
/-- A map, or how many labels were looked for, has turned. -/
theorem MemI.turn {W' : World} {O' : Nat → Option Nat} (h : MemI W B O s rs p lv bv rv fi pm tm em L) (c : Chg W O W' O') (hlt : ∀ b, O' b ≠ none → b < W'.heap.size)
    (same : ∀ b, b < W.heap.size → O b = some 1 ∨ O b = some 2 → W'.heap[b]? = W.heap[b]?) {fi' : Nat} {pm' tm' em' : Value}
    (box : Blk W' B 38 (boxI s p lv bv rv fi' pm' tm' em'))
    (plc : MapI W' O' 5 9 pm' (PlcF rs)) (tic : MapI W' O' 3 3 tm' (TickF s.data.toList)) (ens : MapI W' O' 4 9 em' (EndF s.data.toList))
    (fin : fi' + p.br.length ≤ p.pos) : MemI W' B O' s rs p lv bv rv fi' pm' tm' em' L := by
  have hb : ∀ b x, O b = some x → b < W.heap.size := fun b x e => h.lt b (by rw [e]; simp)
  exact {
    box := box
    row := row_same h.row fun b e => same b (hb b 1 (h.oL b e)) (.inl (h.oL b e))
    eq := h.eq
    kid := h.kid.same (fun b hb => ⟨(c.own b hb.2).trans hb.1, Nat.lt_of_lt_of_le hb.2 c.size⟩) fun b hb => c.block b hb.2 hb.1
    brs := row_same h.brs fun b e => same b (hb b 2 (h.oK b e)) (.inr (h.oK b e))
    refs := by
      by_cases h0 : 0 < rs.length
      · exact h.refs.same fun g o n c' e => c.block g (refV_lt h.refs g o n c' e h0) (h.oRf g o n c' e h0)
      · obtain ⟨A, c', h1, h2, h3, h4⟩ := h.refs
        exact ⟨A, c', h1, h2, h3, fun q => absurd q h0⟩
    oRf := fun g o n c' e h0 => by
      rw [c.own g (refV_lt h.refs g o n c' e h0)]
      exact h.oRf g o n c' e h0
    plc := plc
    tic := tic
    ens := ens
    fin := fin
    oB := (c.own B (hb B 0 h.oB)).trans h.oB
    oL := fun g e => (c.own g (hb g 1 (h.oL g e))).trans (h.oL g e)
    oK := fun g e => (c.own g (hb g 2 (h.oK g e))).trans (h.oK g e)
    lt := hlt
    env := h.env.chg c
    wf := h.wf
    siz := h.siz
    rsz := h.rsz
    fst := h.fst }
/-- A new map lies behind all that there was; the struct's own cell has it. -/
theorem Chg.made {W1 : World} (m cls : Nat) (q : Keeps W W1) (hlt : ∀ b, O b ≠ none → b < W.heap.size) (hm : W.heap.size ≤ m) (hm1 : m < W1.heap.size) (hB : O B = some 0) {W' : World}
    (hz : W'.heap.size = W1.heap.size) (hos : W'.os = W1.os) (htp : W'.tape = W1.tape) (hout : W'.output = W1.output) (same : ∀ b, b ≠ B → W'.heap[b]? = W1.heap[b]?) :
    Chg W O W' (upd O m (some cls)) ∧ (∀ b, upd O m (some cls) b ≠ none → b < W'.heap.size) ∧ (∀ b, b < W.heap.size → b ≠ B → W'.heap[b]? = W.heap[b]?) := by
  have hs := q.size
  refine ⟨⟨hos.trans q.os, htp.trans q.tape, hout.trans q.output, by omega, fun b hb => upd_ne _ _ (by omega), fun b hb e => ?_⟩, fun b hb => ?_, fun b hb e => (same b e).trans (q.block b hb)⟩
  · rw [same b (fun x => by rw [x, hB] at e; cases e)]
    exact q.block b hb
  · by_cases hbe : b = m
    · omega
    · rw [upd_ne _ _ hbe] at hb
      have := hlt b hb
      omega
theorem MapI.chg {W' : World} {O' : Nat → Option Nat} {cls : Nat} {K : TypeId} {v : Value} {F : DataW Unit → Prop} (h : MapI W O cls K v F) (c : Chg W O W' O') (hlt : ∀ b, O b ≠ none → b < W.heap.size)
    (same : ∀ b, b < W.heap.size → O b = some cls → W'.heap[b]? = W.heap[b]?) : MapI W' O' cls K v F :=
  h.same (fun b e => (c.own b (hlt b (by rw [e]; simp))).trans e) fun b e => same b (hlt b (by rw [e]; simp)) e
end

/-! ### The last stretches of the sign 96 -/
theorem ltk_fuel : ∀ (k k' : Nat) (l : List UInt8) (a : Nat) (f : Nat → Nat), l.length ≤ k → l.length ≤ k' → ltkGo k l a f = ltkGo k' l a f
  | 0, k', l, a, f, h, _ => by
    have e : l = [] := List.length_eq_zero_iff.1 (by omega)
    subst e
    cases k' <;> simp [ltkGo]
  | k + 1, 0, l, a, f, _, h => by
    have e : l = [] := List.length_eq_zero_iff.1 (by omega)
    subst e
    simp [ltkGo]
  | k + 1, k' + 1, l, a, f, h, h' => by
    unfold ltkGo
    split
    · rfl
    · next hl =>
      have hp : 0 < l.length := List.length_pos_iff.2 hl
      exact ltk_fuel k k' _ _ _ (by rw [List.length_drop]; omega) (by rw [List.length_drop]; omega)
/-- Up to the place a the map D has the last stretches, f. -/
structure TkR (s : List UInt8) (a : Nat) (D : DataW Unit) : Prop where
  go : ∃ f : Nat → Nat, (∀ k, s.length ≤ a + k → ltkGo k (s.drop a) a f = ltkM s) ∧ ∀ c : Nat, c ≤ s.length → D.atKey (.int .i64 c) (i64D 0) = i64D (f c : Nat)
  map : IsMap D
theorem TkR.zero (s : List UInt8) : TkR s 0 (.map []) := ⟨⟨fun _ => 0, fun k hk => by unfold ltkM; rw [List.drop_zero]; exact ltk_fuel _ _ _ _ _ (by omega) (by omega), fun c _ => by rfl⟩, isMap_empty⟩
theorem TkR.last {s : List UInt8} {a : Nat} {D : DataW Unit} (h : TkR s a D) (ha : s.length ≤ a) : TickF s D := by
  obtain ⟨f, h1, h2⟩ := h.go
  intro c hc
  rw [h2 c hc]
  have := h1 0 (by omega)
  rw [List.drop_eq_nil_of_le ha] at this
  rw [← this]; rfl
theorem TkR.step {s : List UInt8} {a : Nat} {D : DataW Unit} (h : TkR s a D) (ha : a < s.length) (hs : s.length ≤ 100000) :
    TkR s (a + max (cntP rTik (s.drop a)) 1) (D.put (.int .i64 (cntP rTik (s.drop a) : Nat)) (i64D a)) := by
  obtain ⟨f, h1, h2⟩ := h.go
  refine ⟨⟨fun c => if c = cntP rTik (s.drop a) then a else f c, fun k hk => ?_, fun c hc => ?_⟩, h.map.put _ _⟩
  · have hne : s.drop a ≠ [] := fun e => by
      have := congrArg List.length e
      rw [List.length_drop] at this
      simp at this
      omega
    obtain ⟨K, hK⟩ : ∃ K, s.length = K + 1 := ⟨s.length - 1, by omega⟩
    have := h1 (K + 1) (by omega)
    rw [ltkGo, if_neg hne, List.drop_drop] at this
    rw [← this]
    exact ltk_fuel _ _ _ _ _ (by rw [List.length_drop]; omega) (by rw [List.length_drop]; omega)
  · by_cases e : c = cntP rTik (s.drop a)
    · subst e
      rw [atKey_put_same (k := .int .i64 (cntP rTik (s.drop a) : Nat)) h.map trivial]
      show _ = i64D ((if _ then a else _ : Nat) : Int)
      rw [if_pos rfl]
    · rw [atKey_put_other (by intro x; injection x with _ x; exact e (by omega)), h2 c hc]
      show _ = i64D ((if _ then a else _ : Nat) : Int)
      rw [if_neg e]
end Go.Proofs.YtklmgbkkjmfhcaaGreatDoor

/-
  Inline's map of what ends raw HTML: how many entries it has; what one more makes of it.
-/
namespace Go.Proofs.YtklmgbkkjmfhcaaGreatDoor
open Go.RowKit Go.Lib Go.Maps

theorem ownsMap_tight {W : World} {k : TypeId} {R : Value → Option (DataW Unit × List MemPlace)} {b n : Nat} {D : DataW Unit} (h : W.ownsMap Tryz.prog k R b n D) {m : Nat} (hm : Maps.size D ≤ m) : W.ownsMap Tryz.prog k R b m D := by
  obtain ⟨es, clock, hb, F, hs, rfl⟩ := h
  refine ⟨es, clock, hb, F, ?_, rfl⟩
  have : Maps.size (DataW.map ((es.toList.map (Go.WideElems.rg Tryz.prog k R)).foldr DataW.insert [])) = es.size := by
    rw [Maps.size, length_sorted]; simp
  omega
theorem cn4_le (D : DataW Unit) : cn4 D ≤ 4 := List.length_filter_le _ _
theorem cn4_put {D : DataW Unit} (hD : IsMap D) {t : List UInt8} (ht : t ∈ fourE) (h0 : Maps.has D (.string t) = false) (d : DataW Unit) : cn4 (D.put (.string t) d) = cn4 D + 1 := by
  have hk : WideAt.IsKeyLit (.string t) := trivial
  have same := has_put_same hD hk d
  have other : ∀ u : List UInt8, u ≠ t → Maps.has (D.put (.string t) d) (.string u) = Maps.has D (.string u) := fun u hu => has_put_other (by intro e; injection e with e; exact hu e) d
  unfold fourE at ht
  simp only [List.mem_cons, List.not_mem_nil, or_false] at ht
  unfold cn4 fourE
  rcases ht with rfl | rfl | rfl | rfl
  · simp only [List.filter_cons, List.filter_nil, same, h0, other [63, 62] (by decide), other [93, 93, 62] (by decide), other [62] (by decide)]
    repeat' split
    all_goals simp_all
  · simp only [List.filter_cons, List.filter_nil, same, h0, other [45, 45, 62] (by decide), other [93, 93, 62] (by decide), other [62] (by decide)]
    repeat' split
    all_goals simp_all
  · simp only [List.filter_cons, List.filter_nil, same, h0, other [45, 45, 62] (by decide), other [63, 62] (by decide), other [62] (by decide)]
    repeat' split
    all_goals simp_all
  · simp only [List.filter_cons, List.filter_nil, same, h0, other [45, 45, 62] (by decide), other [63, 62] (by decide), other [93, 93, 62] (by decide)]
    repeat' split
    all_goals simp_all
theorem EndF.zero (s : List UInt8) : EndF s (.map []) := ⟨fun t h => (by cases h), Nat.zero_le _⟩
theorem EndF.put {s : List UInt8} {D : DataW Unit} (h : EndF s D) (hD : Tidy D) {t : List UInt8} (ht : t ∈ fourE) (h0 : Maps.has D (.string t) = false) : EndF s (D.put (.string t) (i64D (lastIndex s t))) := by
  refine ⟨fun u hu => ?_, ?_⟩
  · by_cases e : u = t
    · subst e
      exact atKey_put_same (k := .string u) hD.isMap trivial _ _
    · have hne : (Lit.string u) ≠ Lit.string t := by intro x; injection x with x; exact e x
      rw [has_put_other hne] at hu
      rw [atKey_put_other hne]
      exact h.1 u hu
  · rw [cn4_put hD.isMap ht h0, size_put hD, h0]
    have := h.2
    simp only [Bool.false_eq_true, if_false]
    omega
theorem hte_four (l : List UInt8) : hteL l = [] ∨ hteL l ∈ fourE := by
  unfold hteL
  repeat' split
  all_goals simp [fourE]
end Go.Proofs.YtklmgbkkjmfhcaaGreatDoor

/-
  Inline's map of where the first definition of each label stands.
-/
namespace Go.Proofs.YtklmgbkkjmfhcaaGreatDoor
open Go.RowKit Go.Lib Go.Maps

/-- What has been gone through, from behind, down to the place k. -/
structure PlR (rs : List Rf) (k : Nat) (D : DataW Unit) : Prop where
  yes : ∀ t : List UInt8, Maps.has D (.string t) = true → ∃ i : Nat, ∃ h : i < rs.length, D.atKey (.string t) (i64D 0) = i64D i ∧ fndL t (rs.drop k) = some rs[i]
  no : ∀ t : List UInt8, Maps.has D (.string t) = false → fndL t (rs.drop k) = none
  map : IsMap D
theorem PlR.none (rs : List Rf) : PlR rs rs.length (.map []) := ⟨fun t h => (by cases h), fun t _ => (by rw [List.drop_length]; rfl), isMap_empty⟩
theorem PlR.step {rs : List Rf} {k : Nat} {D : DataW Unit} (h : PlR rs (k + 1) D) (hk : k < rs.length) : PlR rs k (D.put (.string rs[k].1) (i64D k)) := by
  have hd : rs.drop k = rs[k] :: rs.drop (k + 1) := List.drop_eq_getElem_cons hk
  refine ⟨fun t ht => ?_, fun t ht => ?_, h.map.put _ _⟩
  · by_cases e : t = rs[k].1
    · refine ⟨k, hk, ?_, ?_⟩
      · rw [e]
        exact atKey_put_same (k := .string rs[k].1) h.map trivial _ _
      · rw [hd, fndL, if_pos e.symm]
    · have hne : (Lit.string t) ≠ Lit.string rs[k].1 := by intro x; injection x with x; exact e x
      rw [has_put_other hne] at ht
      obtain ⟨i, hi, h1, h2⟩ := h.yes t ht
      refine ⟨i, hi, ?_, ?_⟩
      · rw [atKey_put_other hne]; exact h1
      · rw [hd, fndL, if_neg (fun x => e x.symm)]; exact h2
  · by_cases e : t = rs[k].1
    · rw [e, has_put_same (k := .string rs[k].1) h.map trivial] at ht
      cases ht
    · have hne : (Lit.string t) ≠ Lit.string rs[k].1 := by intro x; injection x with x; exact e x
      rw [has_put_other hne] at ht
      rw [hd, fndL, if_neg (fun x => e x.symm)]
      exact h.no t ht
theorem PlR.all {rs : List Rf} {D : DataW Unit} (h : PlR rs 0 D) : PlcF rs D := fun t _ => ⟨fun ht => by
  obtain ⟨i, hi, h1, h2⟩ := h.yes t ht
  rw [List.drop_zero] at h2
  exact ⟨i, hi, h1, h2⟩, fun ht => by
  have := h.no t ht
  rwa [List.drop_zero] at this⟩
end Go.Proofs.YtklmgbkkjmfhcaaGreatDoor

/-
  Inline's brackets: one more behind the others; the last one goes.
-/
namespace Go.Proofs.YtklmgbkkjmfhcaaGreatDoor
open Go.RowKit Go.Lib

section
variable {W : World} {B : Nat} {O : Nat → Option Nat} {s : ByteArray} {rs : List Rf} {p : Ps} {lv bv rv : Value} {fi : Nat} {pm tm em : Value} {L : List (Pc × Value)} {Ab : Option Addr} {cb : Nat}
theorem brR_len (l : List Br) : (brR l).length = l.length * 3 := by
  induction l with
  | nil => rfl
  | cons b l ih =>
    show (brC b ++ brR l).length = _
    rw [List.length_append, ih]
    show 3 + _ = _
    simp; omega
theorem brR_app (l m : List Br) : brR (l ++ m) = brR l ++ brR m := List.flatMap_append
/-- One bracket is made, and put behind the others: the new list, where it lies, what stays. -/
theorem MemI.brMade (h : MemI W B O s rs p lv (.slice Ab p.br.length cb) rv fi pm tm em L) (x : Br) (hlen : p.br.length ≤ 20000) :
    ∃ A8 c8 w8, (Builtin.append_ #[34, 34] 34 #[.slice Ab p.br.length cb, .slice (some ⟨W.heap.size, 0, none⟩) 1 1]).run Tryz.prog (W.alloc (.cells #[.int .i64 x.place, .int .i64 x.pos, .bool x.image] 63)) = .ok (.slice A8 (p.br.length + 1) c8) w8 ∧
      w8.ownsRow 0 63 3 (.slice A8 (p.br.length + 1) c8) (p.br.length + 1) (brR p.br ++ brC x) ∧ W.grownBy w8 (Value.slice Ab p.br.length cb).ownBlock ∧
      ((Value.slice A8 (p.br.length + 1) c8).ownBlock = (Value.slice Ab p.br.length cb).ownBlock ∨ ∃ b, W.heap.size ≤ b ∧ (Value.slice A8 (p.br.length + 1) c8).ownBlock = some b) ∧
      Blk w8 B 38 (boxI s p lv (.slice Ab p.br.length cb) rv fi pm tm em) := by
  obtain ⟨i0, hi0, hz0, hz1, hz2⟩ := info_parts infoBr
  have KA : Keeps W (W.alloc (.cells #[.int .i64 x.place, .int .i64 x.pos, .bool x.image] 63)) := (Keeps.refl _).alloc _
  have hrow := row_below h.brs KA
  obtain ⟨v8, w8, ra, o8, g8, _, l8⟩ := run_append_own_at (P := Tryz.prog) (W.alloc (.cells #[.int .i64 x.place, .int .i64 x.pos, .bool x.image] 63)) 0 34 34 63 i0 (.agg #[.int .i64 0, .int .i64 0, .bool false]) 3 24 Tryz.underlying34 hi0 hz0 hz1 hz2 rfl (by decide) _ _ _ hrow ⟨W.heap.size, 0, none⟩ 1 1 (brC x) rfl (cells_new W (brC x) 63) (fun u hu => by
    simp only [brC, List.mem_cons, List.not_mem_nil, or_false] at hu
    rcases hu with rfl | rfl | rfl <;> rfl) (by simp only [maxLen]; omega) (by omega) (Nat.zero_le _)
  obtain ⟨A8, c8, e8, _⟩ := row_form o8
  subst e8
  have hb : (Value.slice Ab p.br.length cb).ownBlock ≠ some B := fun e => h.ne (cls := 1) (h.oK B e) rfl
  refine ⟨A8, c8, w8, ra, o8, (keeps_grown KA _).trans g8, ?_, ?_⟩
  · rcases l8 with q | q
    · exact .inl q
    · exact .inr ⟨_, KA.size, q⟩
  · unfold Blk
    rw [g8.block B (by have := h.box.lt; have := KA.size; omega) (fun e => hb e.symm)]
    exact h.box.keep KA
/-- The last bracket goes. -/
theorem MemI.brPop {W' : World} {d : Nat} (h : MemI W B O s rs p lv (.slice Ab p.br.length cb) rv fi pm tm em L) (q : Keeps W W') (hn : 0 < p.br.length) (hw : WfC s.data.toList { p with br := p.br.dropLast, dead := d }) :
    MemI ((W'.setCell ⟨B, 3, none⟩ (.slice Ab (p.br.length - 1) cb)).setCell ⟨B, 4, none⟩ (.int .i64 (d : Nat))) B O s rs { p with br := p.br.dropLast, dead := d } lv (.slice Ab (p.br.length - 1) cb) rv fi pm tm em L ∧
      Chg W O ((W'.setCell ⟨B, 3, none⟩ (.slice Ab (p.br.length - 1) cb)).setCell ⟨B, 4, none⟩ (.int .i64 (d : Nat))) O := by
  have hk := h.keep q
  have hdl : (p.br.dropLast).length = p.br.length - 1 := List.length_dropLast
  have same : ∀ b, b ≠ B → ((W'.setCell ⟨B, 3, none⟩ (.slice Ab (p.br.length - 1) cb)).setCell ⟨B, 4, none⟩ (.int .i64 (d : Nat))).heap[b]? = W'.heap[b]? := fun b hb => by
    rw [heap_setCell_other _ ⟨B, 4, none⟩ b _ hb, heap_setCell_other _ ⟨B, 3, none⟩ b _ hb]
  have hsz : ((W'.setCell ⟨B, 3, none⟩ (.slice Ab (p.br.length - 1) cb)).setCell ⟨B, 4, none⟩ (.int .i64 (d : Nat))).heap.size = W'.heap.size := by rw [setCell_size, setCell_size]
  obtain ⟨g, rfl⟩ : ∃ g, Ab = some ⟨g, 0, none⟩ := by
    rcases h.brs.2 with ⟨_, e⟩ | ⟨g, _, _, e, _⟩
    · omega
    · simp only [Value.slice.injEq] at e; exact ⟨g, e.1⟩
  have hc : Chg W O ((W'.setCell ⟨B, 3, none⟩ (.slice (some ⟨g, 0, none⟩) (p.br.length - 1) cb)).setCell ⟨B, 4, none⟩ (.int .i64 (d : Nat))) O :=
    ⟨q.os, q.tape, q.output, (by rw [hsz]; exact q.size), fun _ _ => rfl, fun b hb e => (same b (fun x => by rw [x, h.oB] at e; cases e)).trans (q.block b hb)⟩
  have hb : ∀ b x, O b = some x → b < W'.heap.size := fun b x e => hk.lt b (by rw [e]; simp)
  refine ⟨?_, hc⟩
  exact {
    box := (hk.box.set 3 (.slice (some ⟨g, 0, none⟩) (p.br.length - 1) cb) rfl).set 4 (.int .i64 (d : Nat)) rfl
    row := row_same hk.row fun b e => same b (h.ne (cls := 0) (h.oL b e))
    eq := h.eq
    kid := hk.kid.same (fun b hb => ⟨hb.1, (by rw [hsz]; exact hb.2)⟩) fun b hb => same b (fun e => by rw [e] at hb; have := hb.1; rw [h.oB] at this; cases this)
    brs := by
      have hr := row_head hk.brs (k := p.br.length - 1) (by omega)
      have e : (brR p.br).take ((p.br.length - 1) * 3) = brR p.br.dropLast := by
        have h1 : p.br = p.br.dropLast ++ [p.br.getLast (fun e => by rw [e] at hn; simp at hn)] := (List.dropLast_concat_getLast _).symm
        conv => lhs; rw [h1]
        rw [brR_app, List.take_append_of_le_length (by rw [brR_len]; simp)]
        exact List.take_of_length_le (by rw [brR_len]; simp)
      rw [e] at hr
      show World.ownsRow _ 0 _ 3 _ (p.br.dropLast).length (brR p.br.dropLast)
      rw [hdl]
      exact row_same hr fun b e => same b (h.ne (cls := 1) (h.oK b e))
    refs := by
      by_cases h0 : 0 < rs.length
      · exact hk.refs.same fun g' o n c e => same g' (fun x => by have := h.oRf g' o n c e h0; rw [x, h.oB] at this; cases this)
      · obtain ⟨A, c', h1, h2, h3, h4⟩ := h.refs
        exact ⟨A, c', h1, h2, h3, fun q => absurd q h0⟩
    oRf := h.oRf
    plc := hk.plc.same (fun _ e => e) fun b e => same b (fun x => by rw [x, h.oB] at e; cases e)
    tic := hk.tic.same (fun _ e => e) fun b e => same b (fun x => by rw [x, h.oB] at e; cases e)
    ens := hk.ens.same (fun _ e => e) fun b e => same b (fun x => by rw [x, h.oB] at e; cases e)
    fin := by show fi + (p.br.dropLast).length ≤ p.pos; rw [hdl]; have := h.fin; omega
    oB := h.oB
    oL := h.oL
    oK := h.oK
    lt := fun b hb => by rw [hsz]; exact hk.lt b hb
    env := h.env.chg hc
    wf := hw
    siz := h.siz
    rsz := h.rsz
    fst := h.fst }
end
end Go.Proofs.YtklmgbkkjmfhcaaGreatDoor

/-
  Contract of Find, of the package label, for definitions that lie anywhere in a block.
-/
namespace Go.Proofs.YtklmgbkkjmfhcaaGreatDoor
open Go.RowKit Go.Lib

theorem RefV.keep {W W' : World} {rv : Value} {rs : List Rf} (h : RefV W rv rs) (q : Keeps W W') : RefV W' rv rs := by
  obtain ⟨A, c, h1, h2, h3, h4⟩ := h
  refine ⟨A, c, h1, h2, h3, fun h0 => ?_⟩
  obtain ⟨g, o, hA, hc⟩ := h4 h0
  exact ⟨g, o, hA, fun k hk => range_same (hc k hk) (q.block g (range_lt (hc k hk) (by show 0 < 3; decide)))⟩
theorem refv_form {W : World} {v : Value} {rs : List Rf} (h : RefV W v rs) : ∃ ao cap, v = .slice ao rs.length cap ∧ rs.length ≤ cap ∧ cap ≤ maxLen ∧ (0 < rs.length → ∃ g o, ao = some ⟨g, o, none⟩ ∧ ∀ W', Keeps W W' → ∀ k (hk : k < rs.length), W'.cell? ⟨g, o + k * 3, none⟩ = some (.string ⟨rs[k].1.toArray⟩) ∧ W'.cell? ⟨g, o + k * 3 + 1, none⟩ = some (.string ⟨rs[k].2.1.toArray⟩) ∧ W'.cell? ⟨g, o + k * 3 + 2, none⟩ = some (.string ⟨rs[k].2.2.toArray⟩)) := by
  obtain ⟨A, c, h1, h2, h3, h4⟩ := h
  refine ⟨A, c, h1, h2, h3, fun h0 => ?_⟩
  obtain ⟨g, o, hA, hc⟩ := h4 h0
  refine ⟨g, o, hA, fun W' q k hk => ?_⟩
  have r := range_same (hc k hk) (q.block g (range_lt (hc k hk) (by show 0 < 3; decide)))
  exact ⟨r 0 _ rfl, r 1 _ rfl, r 2 _ rfl⟩
set_option maxRecDepth 100000 in
set_option maxHeartbeats 2000000 in
theorem find_ref (v : Value) (rs : List Rf) (s : ByteArray) (w : World) (h : RefV w v rs) (hl : rs.length ≤ 100000) (hs : s.size ≤ 100000) :
    Calls Tryz.prog 101 #[v, .string s] w fun e w' => e = .returned (FndV (nrmL s.data.toList) rs) ∧ Keeps w w' := by
  have NR := Lib.hid (fun W => normal_any s W hs)
  obtain ⟨a, ca, rfl, ca1, ca2, hcells⟩ := refv_form h
  have HX := Lib.hid hcells
  obtain ⟨N, hN⟩ : ∃ N, nrmL s.data.toList = N := ⟨_, rfl⟩
  rw [hN] at NR ⊢
  obtain ⟨L, hL⟩ : ∃ L, rs.length = L := ⟨_, rfl⟩
  have HL := Lib.hid hL
  rw [hL] at ca1 hl ⊢
  unfold maxLen at ca2
  have B0 := Lib.hid (Blk.new w 29 #[.string ⟨#[]⟩, .string ⟨#[]⟩, .string ⟨#[]⟩])
  have K0 := Lib.hid ((Keeps.refl w).alloc (.cells #[.string ⟨#[]⟩, .string ⟨#[]⟩, .string ⟨#[]⟩] 29))
  clear h hN hL hcells
  go_enter Tryz.func101, Tryz.ntmps101
  go_wp2_with fail
  refine (NR.out _).mono ?_
  rintro e w1 ⟨rfl, k1⟩
  have B1 := Lib.hid (B0.out.keep k1)
  have K1 := Lib.hid (K0.out.trans k1)
  clear k1 B0 K0
  obtain ⟨B, hB⟩ : ∃ B, w.heap.size = B := ⟨_, rfl⟩
  rw [hB] at B1 ⊢
  have HLE : Hid (w.heap.size ≤ B) := Lib.hid (by omega)
  clear hB
  go_wp2_with fail
  go_loopw [13] (fun i wr => ∃ k : Nat, k ≤ L ∧ i = .int .i64 k ∧ Hid (Blk wr B 29 #[.string ⟨#[]⟩, .string ⟨#[]⟩, .string ⟨#[]⟩]) ∧ Hid (Keeps w wr) ∧ Hid (FndV N (rs.drop k) = FndV N rs)) (fun i _ => L - (RowKit.intOf i).toNat)
  case atStart => exact ⟨0, Nat.zero_le _, rfl, B1, K1, Lib.hid rfl⟩
  case round =>
    obtain ⟨k, hk, rfl, HB, HK, HF⟩ := hrel
    by_cases c : k < L
    · have hkr : k < rs.length := by rw [HL.out]; exact c
      obtain ⟨g, o, rfl, cg0⟩ := HX.out (by omega)
      have cg := cg0 wr HK.out
      obtain ⟨c0, c1, c2⟩ := cg k hkr
      have HR : Hid (rs.drop k = rs[k] :: rs.drop (k + 1)) := Lib.hid (List.drop_eq_getElem_cons hkr)
      clear cg
      generalize rs[k] = r at *
      obtain ⟨r1, r2, r3⟩ := r
      dsimp only at c0 c1 c2
      have B2 := Lib.hid (HB.out.alloc (.cells #[.string ⟨r1.toArray⟩, .string ⟨r2.toArray⟩, .string ⟨r3.toArray⟩] 29))
      have K2 := Lib.hid (HK.out.alloc (.cells #[.string ⟨r1.toArray⟩, .string ⟨r2.toArray⟩, .string ⟨r3.toArray⟩] 29))
      by_cases he : r1 = N
      · have t1 : (r1 == N) = true := beq_iff_eq.2 he
        have HE : Hid (FndV N rs = .tuple #[refV (r1, r2, r3), .bool true]) := Lib.hid (by rw [← HF.out, HR.out, fnd_yes he])
        have y0 := B2.out.cell 0 (v := .string ⟨#[]⟩) rfl
        have y1 := B2.out.cell 1 (v := .string ⟨#[]⟩) rfl
        have y2 := B2.out.cell 2 (v := .string ⟨#[]⟩) rfl
        have e0 := B2.out.free 0
        have e1 := B2.out.free 1
        have e2 := B2.out.free 2
        have FIN := Lib.hid (ref_fin B2.out K2.out HLE.out)
        clear he
        go_wp2_with fail
        exact ret_blk2 rfl rfl rfl rfl (FIN.out _ _ _).1 Tryz.underlying29 (by kernel_rfl) ⟨congrArg Ending.returned HE.out.symm, (FIN.out _ _ _).2⟩
      · have t1 : (r1 == N) = false := beq_eq_false_iff_ne.2 he
        have HE : Hid (FndV N (rs.drop (k + 1)) = FndV N rs) := Lib.hid (by rw [← HF.out, HR.out, fnd_no he])
        clear he
        go_wp2_with fail
        go_round
        case rel => exact ⟨k + 1, by omega, by go_num, B2, K2, HE⟩
        case measure => simp [RowKit.intOf]; omega
    · have HE : Hid (FndV N rs = .tuple #[refV ([], [], []), .bool false]) := Lib.hid (by rw [← HF.out, List.drop_eq_nil_of_le (by have := HL.out; omega)]; rfl)
      have y0 := HB.out.cell 0 (v := .string ⟨#[]⟩) rfl
      have y1 := HB.out.cell 1 (v := .string ⟨#[]⟩) rfl
      have y2 := HB.out.cell 2 (v := .string ⟨#[]⟩) rfl
      have e0 := HB.out.free 0
      have e1 := HB.out.free 1
      have e2 := HB.out.free 2
      have FIN := Lib.hid (ref_fin HB.out HK.out HLE.out)
      go_wp2_with fail
      exact ret_blk2 rfl rfl rfl rfl (FIN.out _ _ _).1 Tryz.underlying29 (by kernel_rfl) ⟨congrArg Ending.returned HE.out.symm, (FIN.out _ _ _).2⟩
end Go.Proofs.YtklmgbkkjmfhcaaGreatDoor


/-
  Texts of the proof, one behind the other: BkO, BkP, BkS, BkU.
-/
import Derived.Test.YtdelaanaohjnkaaGreatDoorM35
import Derived.Test.YtdelaanaohjnkaaGreatDoorM32
import Derived.Test.YtdelaanaohjnkaaGreatDoorM33
/-
  Contract of block's begin.
-/
namespace Go.Proofs.YtdelaanaohjnkaaGreatDoor
open Go.RowKit Go.Lib

/-- What every step of the parser's asks of its state. -/
structure Ok (s : St) (i : Nat) : Prop where
  wf : Wf s.list s.tip
  on : On s.list s.tip i
  phi : phi s ≤ 80000
  len : s.list.length ≤ 80000
theorem Ok.lt {s : St} {i : Nat} (h : Ok s i) : i < s.list.length := by have := h.on.le h.wf; have := h.wf.tip; omega
theorem Ok.pos {s : St} {i : Nat} (h : Ok s i) : 0 < s.list.length := by have := h.lt; omega
/-- A paragraph's definitions are told: the blocks stand as they did. -/
theorem Ok.define {s : St} {i : Nat} (h : Ok s i) : Ok (defineM s i) i := by
  have hl := h.lt
  have hc : Cap (defineM s i) 80000 80000 := Cap.define ⟨h.len, h.phi⟩ i
  refine ⟨h.wf.text i _ _, On.same (l := s.list) (l' := (defineM s i).list) (fun j => show (gN (s.list.set i { s.nd i with text := trimL (dfrL (s.nd i).text) }) j).up = (gN s.list j).up from set_up rfl) h.on, hc.txt, hc.len⟩
theorem Ok.under {s : St} {i : Nat} (h : Ok s i) (e : (bUnderM s i).2 = false) : Ok (bUnderM s i).1 i ∧ (bUnderM s i).1.line = s.line ∧ (bUnderM s i).1.known = s.known ∧ (bUnderM s i).1.tip = s.tip ∧ (bUnderM s i).1.list.length = s.list.length := by
  unfold bUnderM at *
  split
  · exact ⟨h, rfl, rfl, rfl, rfl⟩
  · next c =>
    rw [if_neg c] at e
    split
    · exact ⟨h.define, rfl, rfl, rfl, define_len s i⟩
    · next c2 => rw [if_neg c2] at e; cases e
section
variable {W : World} {B : Nat} {O : Nat → Option Nat} {s : St} {i : Nat}
theorem beginCode_par (p : Par W B O s) (k : Ok s i) : Calls Tryz.prog 62 #[.pointer (some ⟨B, 0, none⟩), .int .i64 i] W fun e w' => e = .returned (.int .i64 ((bCodeM s i).2 : Nat)) ∧ Post W B O (bCodeM s i).1 w' := by
  obtain ⟨_, _, _, _, _, _, _, m⟩ := p.form k.pos
  exact beginCode_any m k.wf k.on (by have := k.phi; omega) (by have := k.len; omega)
theorem beginQuote_par (p : Par W B O s) (k : Ok s i) : Calls Tryz.prog 63 #[.pointer (some ⟨B, 0, none⟩), .int .i64 i] W fun e w' => e = .returned (.bool (pastQuoteM s.line).2) ∧ Post W B O (if (pastQuoteM s.line).2 = true then addInM (s.atL (pastQuoteM s.line).1) i (blkN 2) else s) w' := by
  obtain ⟨_, _, _, _, _, _, _, m⟩ := p.form k.pos
  exact beginQuote_any m k.wf k.on (by have := k.phi; omega) (by have := k.len; omega)
theorem beginHeading_par (p : Par W B O s) (k : Ok s i) : Calls Tryz.prog 64 #[.pointer (some ⟨B, 0, none⟩), .int .i64 i] W fun e w' => e = .returned (.bool (!decide (headN s.line.next = 0))) ∧ Post W B O (if headN s.line.next ≠ 0 then bHeadM s i else s) w' := by
  obtain ⟨_, _, _, _, _, _, _, m⟩ := p.form k.pos
  exact beginHeading_any m k.wf k.on (by have := k.phi; omega) (by have := k.len; omega)
theorem beginFence_par (p : Par W B O s) (k : Ok s i) : Calls Tryz.prog 65 #[.pointer (some ⟨B, 0, none⟩), .int .i64 i] W fun e w' => e = .returned (.bool (!decide (fenN s.line.next = 0))) ∧ Post W B O (if fenN s.line.next ≠ 0 then bFenceM s i else s) w' := by
  obtain ⟨_, _, _, _, _, _, _, m⟩ := p.form k.pos
  exact beginFence_any m k.wf k.on (by have := k.phi; omega) (by have := k.len; omega)
theorem beginHtml_par (p : Par W B O s) (k : Ok s i) : Calls Tryz.prog 66 #[.pointer (some ⟨B, 0, none⟩), .int .i64 i] W fun e w' => e = .returned (.bool (!decide (htmKM s = 0))) ∧ Post W B O (if htmKM s ≠ 0 then bHtmlM s i else s) w' := by
  obtain ⟨_, _, _, _, _, _, _, m⟩ := p.form k.pos
  exact beginHtml_any m k.wf k.on (by have := k.phi; omega) (by have := k.len; omega)
theorem beginRule_par (p : Par W B O s) (k : Ok s i) : Calls Tryz.prog 68 #[.pointer (some ⟨B, 0, none⟩), .int .i64 i] W fun e w' => e = .returned (.bool (ruleL s.line.next)) ∧ Post W B O (if ruleL s.line.next = true then addInM s i (blkN 9) else s) w' := by
  obtain ⟨_, _, _, _, _, _, _, m⟩ := p.form k.pos
  exact beginRule_any m k.wf k.on (by have := k.phi; omega) (by have := k.len; omega)
theorem beginItem_par (p : Par W B O s) (k : Ok s i) : Calls Tryz.prog 69 #[.pointer (some ⟨B, 0, none⟩), .int .i64 i] W fun e w' => e = .returned (.bool (bItemM s i).2) ∧ Post W B O (bItemM s i).1 w' := by
  obtain ⟨_, _, _, _, _, _, _, m⟩ := p.form k.pos
  exact beginItem_any m k.wf k.on (by have := k.phi; omega) (by have := k.len; omega)
theorem beginUnder_par (p : Par W B O s) (k : Ok s i) : Calls Tryz.prog 67 #[.pointer (some ⟨B, 0, none⟩), .int .i64 i] W fun e w' => e = .returned (.bool (bUnderM s i).2) ∧ Post W B O (bUnderM s i).1 w' := by
  obtain ⟨_, _, _, _, _, _, _, m⟩ := p.form k.pos
  exact (beginUnder_any m k.lt (by have := k.phi; omega)).mono fun _ _ ⟨h, q⟩ => ⟨h, q.post⟩
set_option maxRecDepth 100000 in
set_option maxHeartbeats 8000000 in
theorem begin_par (p : Par W B O s) (k : Ok s i) :
    Calls Tryz.prog 45 #[.pointer (some ⟨B, 0, none⟩), .int .i64 i] W fun e w' => e = .returned (.int .i64 ((beginM s i).2 : Nat)) ∧ Post W B O (beginM s i).1 w' := by
  obtain ⟨_, _, _, _, _, _, _, m⟩ := p.form k.pos
  have BL := Lib.hid (lblank_any m)
  have y7 := m.box.cell 7 (v := .int .i64 s.line.ind) rfl
  have ID := Lib.hid (show Post W B O s W from p.post (Keeps.refl W))
  have CC := Lib.hid (beginCode_par p k)
  have CQ := Lib.hid (beginQuote_par p k)
  have CH := Lib.hid (fun W' O' (p' : Par W' B O' s) => beginHeading_par p' k)
  have CF := Lib.hid (fun W' O' (p' : Par W' B O' s) => beginFence_par p' k)
  have CT := Lib.hid (fun W' O' (p' : Par W' B O' s) => beginHtml_par p' k)
  have CU := Lib.hid (fun W' O' (p' : Par W' B O' s) => beginUnder_par p' k)
  have CR : Hid ((bUnderM s i).2 = false → ∀ W' O' (p' : Par W' B O' (bUnderM s i).1), Calls Tryz.prog 68 #[.pointer (some ⟨B, 0, none⟩), .int .i64 i] W' fun e w' => e = .returned (.bool (ruleL (bUnderM s i).1.line.next)) ∧ Post W' B O' (if ruleL (bUnderM s i).1.line.next = true then addInM (bUnderM s i).1 i (blkN 9) else (bUnderM s i).1) w') := Lib.hid (fun e W' O' p' => beginRule_par p' (k.under e).1)
  have CI : Hid ((bUnderM s i).2 = false → ∀ W' O' (p' : Par W' B O' (bUnderM s i).1), Calls Tryz.prog 69 #[.pointer (some ⟨B, 0, none⟩), .int .i64 i] W' fun e w' => e = .returned (.bool (bItemM (bUnderM s i).1 i).2) ∧ Post W' B O' (bItemM (bUnderM s i).1 i).1 w') := Lib.hid (fun e W' O' p' => beginItem_par p' (k.under e).1)
  have HF : Hid (beginM s i = _) := Lib.hid (beginM.eq_1 s i)
  have HR : Hid (bRestM (bUnderM s i).1 i = _) := Lib.hid (bRestM.eq_1 (bUnderM s i).1 i)
  obtain ⟨E, hE⟩ : ∃ E, beginM s i = E := ⟨_, rfl⟩
  rw [hE] at HF
  rw [hE]
  clear hE p k m
  by_cases c1 : s.line.next = []
  · have HE : Hid (E = (s, 0)) := Lib.hid (by rw [HF.out, if_pos c1])
    rw [decide_eq_true c1] at BL
    have R := ID
    clear HF HR CC CQ CH CF CT CU CR CI c1
    go_enter Tryz.func45, Tryz.ntmps45
    go_wp2_with fail
    refine BL.out.mono ?_
    rintro e w1 ⟨rfl, rfl⟩
    go_wp2_with fail
    go_ret
    exact ⟨by rw [HE.out]; rfl, by rw [HE.out]; exact R.out⟩
  rw [decide_eq_false c1] at BL
  rw [if_neg c1] at HF
  clear c1 ID
  by_cases c2 : 4 ≤ s.line.ind
  · have HE : Hid (E = bCodeM s i) := Lib.hid (by rw [HF.out, if_pos c2])
    have t2 : decide ((4 : Int) ≤ (s.line.ind : Int)) = true := decide_eq_true (by omega)
    clear HF HR CQ CH CF CT CU CR CI c2
    go_enter Tryz.func45, Tryz.ntmps45
    go_wp2_with fail
    refine BL.out.mono ?_
    rintro e w1 ⟨rfl, rfl⟩
    go_wp2_with fail
    refine (CC.out).mono ?_
    rintro e w2 ⟨rfl, q⟩
    have R := Lib.hid (q)
    clear q
    go_wp2_with fail
    go_ret
    exact ⟨by rw [HE.out]; rfl, by rw [HE.out]; exact R.out⟩
  rw [if_neg c2] at HF
  have t2 : decide ((4 : Int) ≤ (s.line.ind : Int)) = false := decide_eq_false (by omega)
  clear c2 CC
  by_cases c3 : (pastQuoteM s.line).2 = true
  · have HE : Hid (E = (addInM (s.atL (pastQuoteM s.line).1) i (blkN 2), 1)) := Lib.hid (by rw [HF.out, if_pos c3])
    rw [if_pos c3, c3] at CQ
    clear HF HR CH CF CT CU CR CI c3
    go_enter Tryz.func45, Tryz.ntmps45
    go_wp2_with fail
    refine BL.out.mono ?_
    rintro e w1 ⟨rfl, rfl⟩
    go_wp2_with fail
    refine (CQ.out).mono ?_
    rintro e w2 ⟨rfl, q⟩
    have R := Lib.hid (q)
    clear q
    go_wp2_with fail
    go_ret
    exact ⟨by rw [HE.out]; rfl, by rw [HE.out]; exact R.out⟩
  rw [if_neg c3] at HF
  rw [if_neg c3, show (pastQuoteM s.line).2 = false by revert c3; cases (pastQuoteM s.line).2 <;> simp] at CQ
  clear c3
  by_cases c4 : headN s.line.next = 0
  case neg =>
    have HE : Hid (E = (bHeadM s i, 3)) := Lib.hid (by rw [HF.out, if_pos c4])
    rw [if_pos c4, decide_eq_false c4] at CH
    clear HF HR CF CT CU CR CI c4
    go_enter Tryz.func45, Tryz.ntmps45
    go_wp2_with fail
    refine BL.out.mono ?_
    rintro e w1 ⟨rfl, rfl⟩
    go_wp2_with fail
    refine (CQ.out).mono ?_
    rintro e w2 ⟨rfl, O2, p2, c2⟩
    have Q := Lib.hid p2
    have C := Lib.hid (c2)
    clear p2 c2
    go_wp2_with fail
    refine (CH.out _ _ Q.out).mono ?_
    rintro e w2 ⟨rfl, q⟩
    have R := Lib.hid (Post.trans C.out q)
    clear q
    go_wp2_with fail
    go_ret
    exact ⟨by rw [HE.out]; rfl, by rw [HE.out]; exact R.out⟩
  rw [if_neg (fun q => q c4)] at HF
  rw [if_neg (fun q => q c4), decide_eq_true c4] at CH
  clear c4
  by_cases c5 : fenN s.line.next = 0
  case neg =>
    have HE : Hid (E = (bFenceM s i, 3)) := Lib.hid (by rw [HF.out, if_pos c5])
    rw [if_pos c5, decide_eq_false c5] at CF
    clear HF HR CT CU CR CI c5
    go_enter Tryz.func45, Tryz.ntmps45
    go_wp2_with fail
    refine BL.out.mono ?_
    rintro e w1 ⟨rfl, rfl⟩
    go_wp2_with fail
    refine (CQ.out).mono ?_
    rintro e w2 ⟨rfl, O2, p2, c2⟩
    have Q := Lib.hid p2
    have C := Lib.hid (c2)
    clear p2 c2
    go_wp2_with fail
    refine (CH.out _ _ Q.out).mono ?_
    rintro e w2 ⟨rfl, O2, p2, c2⟩
    have Q := Lib.hid p2
    have C := Lib.hid (C.out.trans c2)
    clear p2 c2
    go_wp2_with fail
    refine (CF.out _ _ Q.out).mono ?_
    rintro e w2 ⟨rfl, q⟩
    have R := Lib.hid (Post.trans C.out q)
    clear q
    go_wp2_with fail
    go_ret
    exact ⟨by rw [HE.out]; rfl, by rw [HE.out]; exact R.out⟩
  rw [if_neg (fun q => q c5)] at HF
  rw [if_neg (fun q => q c5), decide_eq_true c5] at CF
  clear c5
  by_cases c6 : htmKM s = 0
  case neg =>
    have HE : Hid (E = (bHtmlM s i, 2)) := Lib.hid (by rw [HF.out, if_pos c6])
    rw [if_pos c6, decide_eq_false c6] at CT
    clear HF HR CU CR CI c6
    go_enter Tryz.func45, Tryz.ntmps45
    go_wp2_with fail
    refine BL.out.mono ?_
    rintro e w1 ⟨rfl, rfl⟩
    go_wp2_with fail
    refine (CQ.out).mono ?_
    rintro e w2 ⟨rfl, O2, p2, c2⟩
    have Q := Lib.hid p2
    have C := Lib.hid (c2)
    clear p2 c2
    go_wp2_with fail
    refine (CH.out _ _ Q.out).mono ?_
    rintro e w2 ⟨rfl, O2, p2, c2⟩
    have Q := Lib.hid p2
    have C := Lib.hid (C.out.trans c2)
    clear p2 c2
    go_wp2_with fail
    refine (CF.out _ _ Q.out).mono ?_
    rintro e w2 ⟨rfl, O2, p2, c2⟩
    have Q := Lib.hid p2
    have C := Lib.hid (C.out.trans c2)
    clear p2 c2
    go_wp2_with fail
    refine (CT.out _ _ Q.out).mono ?_
    rintro e w2 ⟨rfl, q⟩
    have R := Lib.hid (Post.trans C.out q)
    clear q
    go_wp2_with fail
    go_ret
    exact ⟨by rw [HE.out]; rfl, by rw [HE.out]; exact R.out⟩
  rw [if_neg (fun q => q c6)] at HF
  rw [if_neg (fun q => q c6), decide_eq_true c6] at CT
  clear c6
  by_cases c7 : (bUnderM s i).2 = true
  · have HE : Hid (E = ((bUnderM s i).1, 3)) := Lib.hid (by rw [HF.out, if_pos c7])
    rw [c7] at CU
    clear HF HR CR CI c7
    go_enter Tryz.func45, Tryz.ntmps45
    go_wp2_with fail
    refine BL.out.mono ?_
    rintro e w1 ⟨rfl, rfl⟩
    go_wp2_with fail
    refine (CQ.out).mono ?_
    rintro e w2 ⟨rfl, O2, p2, c2⟩
    have Q := Lib.hid p2
    have C := Lib.hid (c2)
    clear p2 c2
    go_wp2_with fail
    refine (CH.out _ _ Q.out).mono ?_
    rintro e w2 ⟨rfl, O2, p2, c2⟩
    have Q := Lib.hid p2
    have C := Lib.hid (C.out.trans c2)
    clear p2 c2
    go_wp2_with fail
    refine (CF.out _ _ Q.out).mono ?_
    rintro e w2 ⟨rfl, O2, p2, c2⟩
    have Q := Lib.hid p2
    have C := Lib.hid (C.out.trans c2)
    clear p2 c2
    go_wp2_with fail
    refine (CT.out _ _ Q.out).mono ?_
    rintro e w2 ⟨rfl, O2, p2, c2⟩
    have Q := Lib.hid p2
    have C := Lib.hid (C.out.trans c2)
    clear p2 c2
    go_wp2_with fail
    refine (CU.out _ _ Q.out).mono ?_
    rintro e w2 ⟨rfl, q⟩
    have R := Lib.hid (Post.trans C.out q)
    clear q
    go_wp2_with fail
    go_ret
    exact ⟨by rw [HE.out]; rfl, by rw [HE.out]; exact R.out⟩
  have e7 : (bUnderM s i).2 = false := by revert c7; cases (bUnderM s i).2 <;> simp
  have CR := Lib.hid (CR.out e7)
  have CI := Lib.hid (CI.out e7)
  rw [if_neg c7] at HF
  rw [e7] at CU
  rw [HR.out] at HF
  generalize (bUnderM s i).1 = s1 at *
  clear c7 HR e7
  by_cases c8 : ruleL s1.line.next = true
  · have HE : Hid (E = (addInM s1 i (blkN 9), 3)) := Lib.hid (by rw [HF.out, if_pos c8])
    rw [if_pos c8, c8] at CR
    clear HF CI c8
    go_enter Tryz.func45, Tryz.ntmps45
    go_wp2_with fail
    refine BL.out.mono ?_
    rintro e w1 ⟨rfl, rfl⟩
    go_wp2_with fail
    refine (CQ.out).mono ?_
    rintro e w2 ⟨rfl, O2, p2, c2⟩
    have Q := Lib.hid p2
    have C := Lib.hid (c2)
    clear p2 c2
    go_wp2_with fail
    refine (CH.out _ _ Q.out).mono ?_
    rintro e w2 ⟨rfl, O2, p2, c2⟩
    have Q := Lib.hid p2
    have C := Lib.hid (C.out.trans c2)
    clear p2 c2
    go_wp2_with fail
    refine (CF.out _ _ Q.out).mono ?_
    rintro e w2 ⟨rfl, O2, p2, c2⟩
    have Q := Lib.hid p2
    have C := Lib.hid (C.out.trans c2)
    clear p2 c2
    go_wp2_with fail
    refine (CT.out _ _ Q.out).mono ?_
    rintro e w2 ⟨rfl, O2, p2, c2⟩
    have Q := Lib.hid p2
    have C := Lib.hid (C.out.trans c2)
    clear p2 c2
    go_wp2_with fail
    refine (CU.out _ _ Q.out).mono ?_
    rintro e w2 ⟨rfl, O2, p2, c2⟩
    have Q := Lib.hid p2
    have C := Lib.hid (C.out.trans c2)
    clear p2 c2
    go_wp2_with fail
    refine (CR.out _ _ Q.out).mono ?_
    rintro e w2 ⟨rfl, q⟩
    have R := Lib.hid (Post.trans C.out q)
    clear q
    go_wp2_with fail
    go_ret
    exact ⟨by rw [HE.out]; rfl, by rw [HE.out]; exact R.out⟩
  rw [if_neg c8] at HF
  rw [if_neg c8, show ruleL s1.line.next = false by revert c8; cases ruleL s1.line.next <;> simp] at CR
  clear c8
  by_cases c9 : (bItemM s1 i).2 = true
  · have HE : Hid (E = ((bItemM s1 i).1, 1)) := Lib.hid (by rw [HF.out, if_pos c9])
    rw [c9] at CI
    clear HF c9
    go_enter Tryz.func45, Tryz.ntmps45
    go_wp2_with fail
    refine BL.out.mono ?_
    rintro e w1 ⟨rfl, rfl⟩
    go_wp2_with fail
    refine (CQ.out).mono ?_
    rintro e w2 ⟨rfl, O2, p2, c2⟩
    have Q := Lib.hid p2
    have C := Lib.hid (c2)
    clear p2 c2
    go_wp2_with fail
    refine (CH.out _ _ Q.out).mono ?_
    rintro e w2 ⟨rfl, O2, p2, c2⟩
    have Q := Lib.hid p2
    have C := Lib.hid (C.out.trans c2)
    clear p2 c2
    go_wp2_with fail
    refine (CF.out _ _ Q.out).mono ?_
    rintro e w2 ⟨rfl, O2, p2, c2⟩
    have Q := Lib.hid p2
    have C := Lib.hid (C.out.trans c2)
    clear p2 c2
    go_wp2_with fail
    refine (CT.out _ _ Q.out).mono ?_
    rintro e w2 ⟨rfl, O2, p2, c2⟩
    have Q := Lib.hid p2
    have C := Lib.hid (C.out.trans c2)
    clear p2 c2
    go_wp2_with fail
    refine (CU.out _ _ Q.out).mono ?_
    rintro e w2 ⟨rfl, O2, p2, c2⟩
    have Q := Lib.hid p2
    have C := Lib.hid (C.out.trans c2)
    clear p2 c2
    go_wp2_with fail
    refine (CR.out _ _ Q.out).mono ?_
    rintro e w2 ⟨rfl, O2, p2, c2⟩
    have Q := Lib.hid p2
    have C := Lib.hid (C.out.trans c2)
    clear p2 c2
    go_wp2_with fail
    refine (CI.out _ _ Q.out).mono ?_
    rintro e w2 ⟨rfl, q⟩
    have R := Lib.hid (Post.trans C.out q)
    clear q
    go_wp2_with fail
    go_ret
    exact ⟨by rw [HE.out]; rfl, by rw [HE.out]; exact R.out⟩
  have HE : Hid (E = (s1, 0)) := Lib.hid (by rw [HF.out, if_neg c9])
  have e9 : (bItemM s1 i).2 = false := by revert c9; cases (bItemM s1 i).2 <;> simp
  have e10 : (bItemM s1 i).1 = s1 := by
    unfold bItemM at *
    split
    · next c => rw [if_pos c] at e9; cases e9
    · rfl
  rw [e9, e10] at CI
  clear HF c9 e9 e10
  go_enter Tryz.func45, Tryz.ntmps45
  go_wp2_with fail
  refine BL.out.mono ?_
  rintro e w1 ⟨rfl, rfl⟩
  go_wp2_with fail
  refine (CQ.out).mono ?_
  rintro e w2 ⟨rfl, O2, p2, c2⟩
  have Q := Lib.hid p2
  have C := Lib.hid (c2)
  clear p2 c2
  go_wp2_with fail
  refine (CH.out _ _ Q.out).mono ?_
  rintro e w2 ⟨rfl, O2, p2, c2⟩
  have Q := Lib.hid p2
  have C := Lib.hid (C.out.trans c2)
  clear p2 c2
  go_wp2_with fail
  refine (CF.out _ _ Q.out).mono ?_
  rintro e w2 ⟨rfl, O2, p2, c2⟩
  have Q := Lib.hid p2
  have C := Lib.hid (C.out.trans c2)
  clear p2 c2
  go_wp2_with fail
  refine (CT.out _ _ Q.out).mono ?_
  rintro e w2 ⟨rfl, O2, p2, c2⟩
  have Q := Lib.hid p2
  have C := Lib.hid (C.out.trans c2)
  clear p2 c2
  go_wp2_with fail
  refine (CU.out _ _ Q.out).mono ?_
  rintro e w2 ⟨rfl, O2, p2, c2⟩
  have Q := Lib.hid p2
  have C := Lib.hid (C.out.trans c2)
  clear p2 c2
  go_wp2_with fail
  refine (CR.out _ _ Q.out).mono ?_
  rintro e w2 ⟨rfl, O2, p2, c2⟩
  have Q := Lib.hid p2
  have C := Lib.hid (C.out.trans c2)
  clear p2 c2
  go_wp2_with fail
  refine (CI.out _ _ Q.out).mono ?_
  rintro e w2 ⟨rfl, q⟩
  have R := Lib.hid (Post.trans C.out q)
  clear q
  go_wp2_with fail
  go_ret
  exact ⟨by rw [HE.out]; rfl, by rw [HE.out]; exact R.out⟩
end
end Go.Proofs.YtdelaanaohjnkaaGreatDoor

/-
  What beginning leaves, plainly: where blocks are, how much there is, what is left of the line.
-/
namespace Go.Proofs.YtdelaanaohjnkaaGreatDoor
open Go Go.Lib

/-! ### Lines that are gone along -/
theorem next_wide {c f : Nat} {l : List UInt8} (h : okP f l) (e : indL c f l = 0) : nextL l = l ∧ f = 0 := by
  cases l with
  | nil =>
    refine ⟨rfl, Decidable.byContradiction fun k => ?_⟩
    obtain ⟨t, e⟩ := h.2 k
    cases e
  | cons b t =>
    rw [ind_cons] at e
    have hw : wideB c f b = 0 := by
      split at e
      · assumption
      · omega
    refine ⟨?_, ?_⟩
    · rw [next_cons, if_neg]
      intro q
      have := blank_wide q c f
      omega
    · refine Decidable.byContradiction fun k => ?_
      rw [wide_left k] at hw
      exact k hw
theorem skip_all {c f : Nat} {l : List UInt8} (h : okP f l) : l.drop (skipL (indL c f l) c f l).1 = nextL l ∧ (skipL (indL c f l) c f l).2.2 = 0 := by
  have h1 := skip_ind (indL c f l) c f l
  rw [Nat.sub_self] at h1
  have h2 := skip_ok (indL c f l) c f l h
  have h3 := skip_next (indL c f l) c f l h
  obtain ⟨h4, h5⟩ := next_wide h2 h1
  exact ⟨h4.symm.trans h3, h5⟩
theorem next_head {l t : List UInt8} {b : UInt8} (h : nextL l = b :: t) : b ≠ 32 ∧ b ≠ 9 := by
  induction l with
  | nil => cases h
  | cons x l ih =>
    rw [next_cons] at h
    split at h
    · exact ih h
    · next c =>
      cases h
      refine ⟨fun e => c ?_, fun e => c ?_⟩ <;> (rw [e]; rfl)
theorem Lw.ahead {z : Nat} {l : Ln} (h : Lw z l) : (skipM l l.ind).rem = l.next ∧ (skipM l l.ind).f = 0 := by
  have := skip_all (c := l.c) h.ok
  rw [← h.ind] at this
  exact ⟨this.1.trans h.next.symm, this.2⟩
theorem Lw.move_rem {z : Nat} {l : Ln} (h : Lw z l) (n : Nat) : (moveM l n).rem = l.next.drop (movL n l.next).length := by
  show ((skipM l l.ind).rem.drop (movL n (skipM l l.ind).rem).length) = _
  rw [h.ahead.1]
theorem Lw.next_le {z : Nat} {l : Ln} (h : Lw z l) : l.next.length ≤ l.rem.length := by
  rw [h.next]
  unfold nextL Lib.trimLeftS
  exact (List.dropWhile_sublist _).length_le
theorem mov_pos {n : Nat} {b : UInt8} {t : List UInt8} (hn : 1 ≤ n) (hb : b ≠ 9) : 1 ≤ (movL n (b :: t)).length := by
  unfold movL headTo
  obtain ⟨m, rfl⟩ : ∃ m, n = m + 1 := ⟨n - 1, by omega⟩
  rw [List.take_succ_cons, List.takeWhile_cons, if_pos (by simpa using hb)]
  simp
theorem Lw.move_less {z : Nat} {l : Ln} (h : Lw z l) {n : Nat} (hn : 1 ≤ n) (hx : l.next ≠ []) : (moveM l n).rem.length < l.rem.length := by
  rw [h.move_rem]
  have h1 := h.next_le
  cases e : l.next with
  | nil => exact absurd e hx
  | cons b t =>
    have hb := next_head (h.next.symm.trans e)
    have := mov_pos (t := t) hn hb.2
    rw [e] at h1
    rw [List.length_drop]
    simp only [List.length_cons] at *
    omega
theorem skip_rem (l : Ln) (n : Nat) : (skipM l n).rem.length ≤ l.rem.length := by
  show (l.rem.drop _).length ≤ _
  rw [List.length_drop]; omega
theorem Lw.quote_less {z : Nat} {l : Ln} (h : Lw z l) (hq : (pastQuoteM l).2 = true) : (pastQuoteM l).1.rem.length < l.rem.length := by
  unfold pastQuoteM at *
  split
  · next c =>
    have hx : l.next ≠ [] := fun e => by
      unfold quoteB at c
      rw [e] at c
      simp [Lib.hasPrefix] at c
    exact Nat.lt_of_le_of_lt (skip_rem _ _) (h.move_less (Nat.le_refl 1) hx)
  · next c => rw [if_neg c] at hq; cases hq
theorem quote_rem (l : Ln) : (pastQuoteM l).1.rem.length ≤ l.rem.length := by
  unfold pastQuoteM
  split
  · refine Nat.le_trans (skip_rem _ _) ?_
    show (List.drop _ _).length ≤ _
    rw [List.length_drop]
    exact Nat.le_trans (Nat.sub_le _ _) (skip_rem l l.ind)
  · exact Nat.le_refl _
theorem mark_rem (l : Ln) (n : Nat) : (pastMarkM l n).1.rem.length ≤ l.rem.length := by
  refine Nat.le_trans (skip_rem _ _) ?_
  show (List.drop _ _).length ≤ _
  rw [List.length_drop]
  exact Nat.le_trans (Nat.sub_le _ _) (skip_rem l l.ind)
theorem Lw.mark_less {z : Nat} {l : Ln} (h : Lw z l) {n : Nat} (hn : 1 ≤ n) (hx : l.next ≠ []) : (pastMarkM l n).1.rem.length < l.rem.length :=
  Nat.lt_of_le_of_lt (skip_rem _ _) (h.move_less hn hx)
theorem lst_one {l : List UInt8} (h : lstB l = true) : 1 ≤ (lstL l).2.2.2 ∧ l ≠ [] := by
  unfold lstL
  rw [if_pos h]
  unfold lstB at h
  simp only [Bool.and_eq_true, decide_eq_true_eq] at h
  refine ⟨by omega, fun e => ?_⟩
  subst e
  exact absurd rfl h.1

/-! ### What begins -/
theorem addIn_line {s : St} {i : Nat} (k : Ok s i) (b : Nd) (hk : b.kind ≠ 4) : (addInM s i b).line = s.line ∧ (addInM s i b).known = s.known := by
  have h := cw_ok k.wf k.on
  have q := add_line (cw_wf k.wf k.on) b (.inl hk)
  exact ⟨q.1.trans h.2.2.2.1, q.2.trans h.2.2.2.2.1⟩
/-- r: what begins in s at i. -/
structure Bg (s : St) (i : Nat) (r : St × Nat) (a b : Nat) : Prop where
  wf : Wf r.1.list r.1.tip
  cap : Cap r.1 (a + 2) (b + s.line.next.length)
  none : r.2 = 0 → On r.1.list r.1.tip i ∧ Cap r.1 a b
  one : r.2 = 1 → (∀ z, Lw z s.line → r.1.line.rem.length < s.line.rem.length) ∧ Cap r.1 (a + 2) b
  rem : r.1.line.rem.length ≤ s.line.rem.length
  known : r.1.known = s.known
  lw : ∀ z, Lw z s.line → Lw z r.1.line
  le : r.2 ≤ 3
theorem Bg.added {s : St} {i : Nat} (k : Ok s i) {a b : Nat} (c : Cap s a b) (x : Nd) (hk : x.kind ≠ 4) (hx : x.indent ≤ 1000000) (hl : x.text.length ≤ s.line.next.length) {w : Nat} (h0 : w ≠ 0) (h1 : w ≠ 1) (h3 : w ≤ 3) : Bg s i (addInM s i x, w) a b := by
  have h := addIn_line k x hk
  refine ⟨addIn_wf k.wf k.on x hk hx, (c.addIn k.wf k.on x hk).more (by omega) (by omega), fun e => absurd e h0, fun e => absurd e h1, ?_, h.2, fun z hz => ?_, h3⟩
  · show (addInM s i x).line.rem.length ≤ _
    rw [h.1]; exact Nat.le_refl _
  · show Lw z (addInM s i x).line
    rw [h.1]; exact hz
theorem Bg.same {s : St} {i : Nat} (k : Ok s i) {a b : Nat} (c : Cap s a b) : Bg s i (s, 0) a b :=
  ⟨k.wf, c.more (by omega) (by omega), fun _ => ⟨k.on, c⟩, fun e => (by cases e), Nat.le_refl _, rfl, fun _ h => h, Nat.zero_le _⟩
theorem Ok.atL {s : St} {i : Nat} (k : Ok s i) (l : Ln) : Ok (s.atL l) i := ⟨k.wf, k.on, k.phi, k.len⟩
theorem Bg.code {s : St} {i : Nat} (k : Ok s i) {a b : Nat} (c : Cap s a b) : Bg s i (bCodeM s i) a b := by
  unfold bCodeM
  split
  · exact .same k c
  · have q := Bg.added (k.atL (skipM s.line 4)) (c.atL (skipM s.line 4)) (blkN 7) (show (7 : Nat) ≠ 4 by decide) (Nat.zero_le _) (Nat.zero_le _) (w := 2) (by decide) (by decide) (by decide)
    exact ⟨q.wf, q.cap, q.none, (fun e => by cases e), Nat.le_trans q.rem (skip_rem _ _), q.known, fun z hz => q.lw z (hz.skip 4), q.le⟩
theorem Bg.quote {s : St} {i : Nat} (k : Ok s i) {a b : Nat} (c : Cap s a b) (hq : (pastQuoteM s.line).2 = true) : Bg s i (addInM (s.atL (pastQuoteM s.line).1) i (blkN 2), 1) a b := by
  have h := addIn_line (k.atL (pastQuoteM s.line).1) (blkN 2) (show (2 : Nat) ≠ 4 by decide)
  have hc := (c.atL (pastQuoteM s.line).1).addIn (s := s.atL (pastQuoteM s.line).1) (i := i) k.wf k.on (blkN 2) (show (2 : Nat) ≠ 4 by decide)
  refine ⟨addIn_wf (s := s.atL (pastQuoteM s.line).1) k.wf k.on (blkN 2) (show (2 : Nat) ≠ 4 by decide) (Nat.zero_le _), hc.more (by omega) (by show b + 0 ≤ _; omega), (fun e => by cases e), fun _ => ⟨fun z hz => ?_, hc.more (by omega) (Nat.le_refl _)⟩, ?_, h.2, fun z hz => ?_, (show (1 : Nat) ≤ 3 by decide)⟩
  · show (addInM _ _ _).line.rem.length < _
    rw [h.1]; exact hz.quote_less hq
  · show (addInM _ _ _).line.rem.length ≤ _
    rw [h.1]; exact quote_rem _
  · show Lw z (addInM _ _ _).line
    rw [h.1]; exact hz.quote
theorem Bg.of_same {s s1 : St} {i : Nat} {r : St × Nat} {a b : Nat} (e : s1.line = s.line) (ek : s1.known = s.known) (h : Bg s1 i r a b) : Bg s i r a b :=
  ⟨h.wf, by rw [← e]; exact h.cap, h.none, by rw [← e]; exact h.one, by rw [← e]; exact h.rem, by rw [← ek]; exact h.known, by rw [← e]; exact h.lw, h.le⟩
theorem Bg.item {s : St} {i : Nat} (k : Ok s i) {a b : Nat} (c : Cap s a b) (hq : (bItemM s i).2 = true) {z : Nat} (hz : Lw z s.line) (hz2 : z ≤ 10000) : Bg s i ((bItemM s i).1, 1) a b := by
  unfold bItemM at *
  split
  · next hb =>
    have hl : lstB s.line.next = true := by
      unfold itemB at hb
      simp only [Bool.and_eq_true] at hb
      exact hb.1
    have h0 := cw_ok k.wf k.on
    obtain ⟨w1, c1, o1, l1, k1⟩ := list_ok (cw_wf k.wf k.on) (lstL s.line.next) (Cap.cw c i)
    have w2 := add_wf w1 (blkN 4) (.inr o1) (Nat.zero_le _)
    have c2 := c1.add w1 (blkN 4) (.inr o1)
    have l2 := add_line w1 (blkN 4) (.inr o1)
    have t2 := add_tip (listM (cwM s i) (lstL s.line.next)) (blkN 4)
    obtain ⟨h1, h2⟩ := lst_one hl
    have hwl := lst_wid s.line.next
    generalize addM (listM (cwM s i) (lstL s.line.next)) (blkN 4) = s2 at *
    have el : s2.line = s.line := l2.1.trans (l1.trans h0.2.2.2.1)
    have ek : s2.known = s.known := l2.2.trans (k1.trans h0.2.2.2.2.1)
    generalize (lstL s.line.next).2.2.2 = wd at *
    have hnl := hz.nextLen
    have hn : (pastMarkM s2.line wd).2 ≤ 1000000 := by
      rw [el]
      have := hz.markN wd
      omega
    have c3 : Cap (inItemM s2 wd) (a + 2) b := by
      refine ⟨?_, ?_⟩
      · show (s2.list.set _ _).length ≤ _
        rw [List.length_set]; exact c2.len
      · exact (c2.put s2.tip { s2.nd s2.tip with indent := (pastMarkM s2.line wd).2 } (d := 0) (Nat.le_refl _)).txt
    have w3 : Wf (inItemM s2 wd).list (inItemM s2 wd).tip := w2.set s2.tip { s2.nd s2.tip with indent := (pastMarkM s2.line wd).2 } ⟨rfl, rfl, rfl, rfl⟩ (fun e => by
      have hd := w2.doc
      rw [e] at t2
      unfold St.nd at t2
      rw [t2] at hd
      cases hd) hn
    have e3 : (inItemM s2 wd).line = (pastMarkM s.line wd).1 := by show (pastMarkM s2.line wd).1 = _; rw [el]
    refine ⟨w3, c3.more (Nat.le_refl _) (by omega), (fun e => by cases e), fun _ => ⟨fun z' hz' => ?_, c3⟩, ?_, ek, fun z' hz' => ?_, (show (1 : Nat) ≤ 3 by decide)⟩
    · show (inItemM s2 wd).line.rem.length < _
      rw [e3]; exact hz'.mark_less h1 h2
    · show (inItemM s2 wd).line.rem.length ≤ _
      rw [e3]; exact mark_rem _ _
    · show Lw z' (inItemM s2 wd).line
      rw [e3]; exact hz'.markd wd
  · next hb => rw [if_neg hb] at hq; cases hq
theorem Bg.under {s : St} {i : Nat} (k : Ok s i) {a b : Nat} (c : Cap s a b) (hq : (bUnderM s i).2 = true) : Bg s i ((bUnderM s i).1, 3) a b := by
  have hd := c.define i
  have kd := k.define
  unfold bUnderM at *
  split at hq
  · cases hq
  · next c1 =>
    rw [if_neg c1]
    split at hq
    · cases hq
    · next c2 =>
      rw [if_neg c2]
      have hl : i < (defineM s i).list.length := by rw [define_len]; exact k.lt
      have hi0 : i ≠ 0 := fun e => c1 (.inr (by
        rw [e]
        intro q
        have := k.wf.doc
        unfold St.nd at q
        rw [this] at q
        cases q))
      have c3 : Cap ((defineM s i).put i { (defineM s i).nd i with kind := 6, level := underL s.line.next }) a b := hd.put i _ (d := 0) (Nat.le_refl _)
      have w3 : Wf ((defineM s i).put i { (defineM s i).nd i with kind := 6, level := underL s.line.next }).list (defineM s i).tip := kd.wf.set i _ ⟨rfl, rfl, rfl, rfl⟩ (fun e => absurd e hi0) (kd.wf.ind i)
      exact ⟨w3, c3.more (by omega) (by omega), (fun e => by cases e), (fun e => by cases e), Nat.le_refl _, rfl, fun _ h => h, Nat.le_refl _⟩
theorem headL_len (l : List UInt8) : (headL l).length ≤ l.length := by
  unfold headL
  split
  · simp
  · refine Nat.le_trans (headText_len _) ?_
    rw [List.length_drop]; omega
/-- WHAT BEGINNING LEAVES. -/
theorem begin_bg {s : St} {i : Nat} (k : Ok s i) {a b : Nat} (c : Cap s a b) {z : Nat} (hz : Lw z s.line) (hz2 : z ≤ 10000) : Bg s i (beginM s i) a b := by
  unfold beginM
  split
  · exact .same k c
  split
  · exact .code k c
  split
  · next hq => exact .quote k c hq
  split
  · exact .added k c _ (show (6 : Nat) ≠ 4 by decide) (Nat.zero_le _) (headL_len _) (by decide) (by decide) (by decide)
  split
  · have hb := hz.bound.2
    exact .added k c _ (show (7 : Nat) ≠ 4 by decide) (show s.line.ind ≤ 1000000 by omega) (Nat.zero_le _) (by decide) (by decide) (by decide)
  split
  · exact .added k c _ (show (8 : Nat) ≠ 4 by decide) (Nat.zero_le _) (Nat.zero_le _) (by decide) (by decide) (by decide)
  split
  · next hq => exact .under k c hq
  · next hq =>
    have hq' : (bUnderM s i).2 = false := by revert hq; cases (bUnderM s i).2 <;> simp
    obtain ⟨k1, e1, e2, e3, e4⟩ := k.under hq'
    have c1 : Cap (bUnderM s i).1 a b := by
      unfold bUnderM
      split
      · exact c
      · split
        · exact c.define i
        · next c1 c2 => unfold bUnderM at hq'; rw [if_neg c1, if_neg c2] at hq'; cases hq'
    refine .of_same e1 e2 ?_
    unfold bRestM
    split
    · exact .added k1 c1 _ (show (9 : Nat) ≠ 4 by decide) (Nat.zero_le _) (Nat.zero_le _) (by decide) (by decide) (by decide)
    split
    · next hi => exact .item k1 c1 hi (by rw [e1]; exact hz) hz2
    · exact .same k1 c1

/-- r: what all begins, from i on. -/
structure Bn (s : St) (r : St × Nat × Nat) (a b z : Nat) : Prop where
  wf : Wf r.1.list r.1.tip
  on : On r.1.list r.1.tip r.2.1
  cap : Cap r.1 (a + 2) (b + z)
  known : r.1.known = s.known
  lw : Lw z r.1.line
  le : r.2.2 ≤ 3
theorem begunGo_bn : ∀ (f : Nat) (s : St) (i : Nat) {a b z : Nat}, Ok s i → Lw z s.line → z ≤ 10000 → s.list.length + 2 * s.line.rem.length ≤ a → phi s ≤ b → a ≤ 79000 → b ≤ 80000 → s.line.rem.length < f → Bn s (begunGo f s i) a b z
  | 0, _, _, _, _, _, _, _, _, _, _, _, _, h => by omega
  | f + 1, s, i, a, b, z, k, hz, hz2, ha, hb, ha2, hb2, hf => by
    have g := begin_bg k (a := s.list.length) (b := b) ⟨Nat.le_refl _, hb⟩ hz hz2
    have hn := hz.nextLen
    unfold begunGo
    split
    · next h0 =>
      obtain ⟨o, c⟩ := g.none h0
      exact ⟨g.wf, o, c.more (by omega) (by omega), g.known, g.lw z hz, Nat.zero_le _⟩
    split
    · exact ⟨g.wf, .refl _, g.cap.more (by omega) (by omega), g.known, g.lw z hz, g.le⟩
    · next h0 h1 =>
      have e1 : (beginM s i).2 = 1 := Decidable.byContradiction fun q => h1 (.inl q)
      obtain ⟨h2, h3⟩ := g.one e1
      have h4 := h2 z hz
      have h5 := h3.len
      have h6 := h3.txt
      have q := begunGo_bn f (beginM s i).1 (beginM s i).1.tip (a := a) (b := b) (z := z) ⟨g.wf, .refl _, by omega, by omega⟩ (g.lw z hz) hz2 (by omega) (by omega) ha2 hb2 (by omega)
      exact ⟨q.wf, q.on, q.cap, q.known.trans g.known, q.lw, q.le⟩
theorem begun_bn {s : St} {i : Nat} {a b z : Nat} (k : Ok s i) (hz : Lw z s.line) (hz2 : z ≤ 10000) (ha : s.list.length + 2 * s.line.rem.length ≤ a) (hb : phi s ≤ b) (ha2 : a ≤ 79000) (hb2 : b ≤ 80000) : Bn s (begunM s i) a b z := by
  unfold begunM
  split
  · exact ⟨k.wf, k.on, ⟨by show s.list.length ≤ _; omega, by show phi s ≤ _; omega⟩, rfl, hz, (show (2 : Nat) ≤ 3 by decide)⟩
  · exact begunGo_bn _ s i k hz hz2 ha hb ha2 hb2 (by omega)
end Go.Proofs.YtdelaanaohjnkaaGreatDoor

/-
  What a line leaves, plainly: where blocks are, and how much there is.
-/
namespace Go.Proofs.YtdelaanaohjnkaaGreatDoor
open Go Go.Lib

theorem inds_rem (l : Ln) (n : Nat) : (pastIndM l n).1.rem.length ≤ l.rem.length := by
  unfold pastIndM
  split
  · exact Nat.le_refl _
  · exact skip_rem _ _
theorem goes_line {z : Nat} {s : St} (h : Lw z s.line) (i : Nat) : Lw z (goesOnM s i).1 ∧ (goesOnM s i).1.rem.length ≤ s.line.rem.length := by
  unfold goesOnM
  split
  · exact ⟨h.quote, quote_rem _⟩
  split
  · exact ⟨h, Nat.le_refl _⟩
  split
  · unfold itemOnM
    split
    · exact ⟨h.skip _, skip_rem _ _⟩
    · exact ⟨h.inds _, inds_rem _ _⟩
  split
  · unfold codeOnM
    split
    · exact ⟨h.skip _, skip_rem _ _⟩
    split
    · exact ⟨h.skip _, skip_rem _ _⟩
    · exact ⟨h.inds _, inds_rem _ _⟩
  split
  · exact ⟨h, Nat.le_refl _⟩
  split
  · exact ⟨h, Nat.le_refl _⟩
  · exact ⟨h, Nat.le_refl _⟩
/-- How far a line goes on. -/
structure Mt (z : Nat) (s : St) (r : St × Nat × Bool) : Prop where
  no : r.2.2 = false → ∃ l, r.1 = s.atL l ∧ On s.list s.tip r.2.1 ∧ Lw z l ∧ l.rem.length ≤ s.line.rem.length
  yes : r.2.2 = true → ∃ l, r.1 = closeM (s.atL l) ∧ s.tip ≠ 0 ∧ Lw z l
theorem match_mt {z : Nat} : ∀ (f : Nat) (s : St) (i : Nat), Wf s.list s.tip → On s.list s.tip i → Lw z s.line → Mt z s (matchGo f s i)
  | 0, s, i, _, o, h => ⟨fun _ => ⟨s.line, rfl, o, h, Nat.le_refl _⟩, (fun e => by cases e)⟩
  | f + 1, s, i, w, o, h => by
    unfold matchGo
    split
    · exact ⟨fun _ => ⟨s.line, rfl, o, h, Nat.le_refl _⟩, (fun e => by cases e)⟩
    next hi =>
    split
    · exact ⟨(fun e => by cases e), fun _ => ⟨s.line, rfl, by have := o.le w; omega, h⟩⟩
    split
    · obtain ⟨y, e1, o2, _, _⟩ := w.child o hi
      have e2 : (s.nd i).last.toNat = y := by unfold St.nd; rw [e1]; rfl
      obtain ⟨g1, g2⟩ := goes_line h (s.nd i).last.toNat
      have q := match_mt f (s.atL (goesOnM s (s.nd i).last.toNat).1) (s.nd i).last.toNat w (by rw [e2]; exact o2) g1
      refine ⟨fun e => ?_, fun e => ?_⟩
      · obtain ⟨l, h1, h2, h3, h4⟩ := q.no e
        exact ⟨l, h1, h2, h3, Nat.le_trans h4 g2⟩
      · obtain ⟨l, h1, h2, h3⟩ := q.yes e
        exact ⟨l, h1, h2, h3⟩
    · obtain ⟨g1, g2⟩ := goes_line h (s.nd i).last.toNat
      exact ⟨fun _ => ⟨_, rfl, o, g1, g2⟩, (fun e => by cases e)⟩
theorem matched_mt {z : Nat} {s : St} (w : Wf s.list s.tip) (h : Lw z s.line) : Mt z s (matchedM s) :=
  match_mt _ s 0 w (on_doc w) h

theorem put_cap {s : St} {a b z : Nat} (c : Cap s a b) (h : Lw z s.line) (i : Nat) : Cap (putM s i) a (b + z + 4) := by
  have := h.restLen
  exact (c.put i { s.nd i with text := (s.nd i).text ++ lrestM s.line ++ [10] } (d := (lrestM s.line).length + 1) (by simp only [List.length_append, List.length_singleton]; omega)).more (Nat.le_refl _) (by omega)
theorem fill_ok {s : St} {i a b z : Nat} (w : Wf s.list s.tip) (h8 : (s.nd i).kind = 8 → s.tip ≠ 0) (c : Cap s a b) (h : Lw z s.line) : Wf (fillM s i).list (fillM s i).tip ∧ Cap (fillM s i) (a + 1) (b + z + 4) := by
  have p := put_cap c h i
  unfold fillM
  split
  · exact ⟨put_wf w i, p.more (by omega) (Nat.le_refl _)⟩
  split
  · next e8 =>
    split
    · exact ⟨(show Wf (putM s i).list (putM s i).tip from put_wf w i).close (h8 e8), p.close.more (by omega) (Nat.le_refl _)⟩
    · exact ⟨put_wf w i, p.more (by omega) (Nat.le_refl _)⟩
  split
  · exact ⟨w, c.more (by omega) (by omega)⟩
  · have hk : (blkN 5).kind ≠ 4 ∨ holdsB (s.nd s.tip).kind (blkN 5).kind = true := .inl (show (5 : Nat) ≠ 4 by decide)
    have w1 := add_wf w (blkN 5) hk (Nat.zero_le _)
    have c1 := c.add w (blkN 5) hk
    have l1 := (add_line w (blkN 5) hk).1
    exact ⟨put_wf w1 _, (put_cap (z := z) c1 (by rw [l1]; exact h) _).more (Nat.le_refl _) (by show b + 0 + z + 4 ≤ _; omega)⟩
theorem rest_ok {s : St} {i a b z : Nat} (w : Wf s.list s.tip) (o : On s.list s.tip i) (c : Cap s a b) (h : Lw z s.line) (what : Nat) : Wf (restM s i what).list (restM s i what).tip ∧ Cap (restM s i what) (a + 1) (b + z + 4) := by
  have tail : ∀ s : St, Wf s.list s.tip → On s.list s.tip i → Cap s a b → Lw z s.line → (Wf (endBlankM (cwM s i) i).list (endBlankM (cwM s i) i).tip ∧ Cap (endBlankM (cwM s i) i) a b) ∧ Wf (fillM (endBlankM (cwM s i) i) i).list (fillM (endBlankM (cwM s i) i) i).tip ∧ Cap (fillM (endBlankM (cwM s i) i) i) (a + 1) (b + z + 4) := by
    intro s w o c h
    have hc := cw_ok w o
    have hw := cw_wf w o
    have cc := Cap.cw c i
    have eb := endBlank_keep hw i
    have ww : Wf (endBlankM (cwM s i) i).list (endBlankM (cwM s i) i).tip := by rw [eb.2.2.2.2.1]; exact eb.1
    have c2 : Cap (endBlankM (cwM s i) i) a b := ⟨by rw [eb.2.1]; exact cc.len, by rw [eb.2.2.1]; exact cc.txt⟩
    refine ⟨⟨ww, c2⟩, fill_ok ww (fun q => ?_) c2 ?_⟩
    · rw [eb.2.2.2.2.1, hc.2.1]
      intro e0
      rw [eb.2.2.2.1, (fun x => by rw [e0] : ∀ x : St, x.nd i = x.nd 0)] at q
      have := hc.1.doc
      unfold St.nd at q
      omega
    · rw [eb.2.2.2.2.2.1, hc.2.2.2.1]; exact h
  unfold restM
  split
  · have h1 : Lw z (s.atL (skipM s.line s.line.ind)).line := h.skip _
    split
    · exact ⟨put_wf (s := s.atL (skipM s.line s.line.ind)) w _, (put_cap (c.atL _) h1 _).more (by omega) (Nat.le_refl _)⟩
    · exact (tail (s.atL (skipM s.line s.line.ind)) w o (c.atL _) h1).2
  split
  · exact (tail s w o c h).2
  · have q := (tail s w o c h).1
    exact ⟨q.1, q.2.more (by omega) (by omega)⟩
theorem line_ok {s : St} {a b z : Nat} (w : Wf s.list s.tip) (c : Cap s a b) (h : Lw z s.line) (hz : z ≤ 10000) (ha : a + 2 * z ≤ 79000) (hb : b ≤ 80000) : Wf (lineM s).list (lineM s).tip ∧ Cap (lineM s) (a + 2 * z + 3) (b + 2 * z + 4) := by
  have m := matched_mt w h
  unfold lineM
  split
  · next e =>
    obtain ⟨l, h1, h2, h3⟩ := m.yes e
    rw [h1]
    exact ⟨Wf.close (s := s.atL l) w h2, (Cap.close (c.atL l)).more (by omega) (by omega)⟩
  · next e =>
    obtain ⟨l, h1, h2, h3, h4⟩ := m.no (by revert e; cases (matchedM s).2.2 <;> simp)
    have hr := h.rem
    have hl := c.len
    have ht := c.txt
    rw [h1]
    have k : Ok (s.atL l) (matchedM s).2.1 := ⟨w, h2, by show phi s ≤ _; omega, by show s.list.length ≤ _; omega⟩
    have g := begun_bn k (a := a + 2 * z) (b := b) h3 hz (by show s.list.length + 2 * l.rem.length ≤ _; omega) (by show phi s ≤ _; omega) ha hb
    have q := rest_ok g.wf g.on g.cap g.lw (begunM (s.atL l) (matchedM s).2.1).2.2
    exact ⟨q.1, q.2.more (by omega) (by omega)⟩
theorem take_ok {s : St} {a b z : Nat} {t : List UInt8} (w : Wf s.list s.tip) (c : Cap s a b) (ht : t.length ≤ z) (hz : z ≤ 10000) (ha : a + 2 * z ≤ 79000) (hb : b ≤ 80000) : Wf (takeM s t).list (takeM s t).tip ∧ Cap (takeM s t) (a + 2 * z + 3) (b + 2 * z + 4) := by
  have q := line_ok (s := startM s t) w ⟨c.len, c.txt⟩ (Lw.start t) (by omega) (by omega) hb
  exact ⟨q.1, q.2.more (by omega) (by omega)⟩
end Go.Proofs.YtdelaanaohjnkaaGreatDoor

/-
  Who is in whom, plainly: the last block in one is in it, and so are those ahead of it.
-/
namespace Go.Proofs.YtdelaanaohjnkaaGreatDoor
open Go Go.Lib

structure Kin (l : List Nd) : Prop where
  last : ∀ i y : Nat, (gN l i).last = (y : Int) → (gN l y).up = (i : Int)
  ahead : ∀ y z : Nat, (gN l y).ahead = (z : Int) → (gN l z).up = (gN l y).up
theorem Kin.sk {l l' : List Nd} (h : Kin l) (k : Sk l l') : Kin l' :=
  ⟨fun i y e => by rw [(k.2 y).1]; exact h.last i y (by rw [← (k.2 i).2.1]; exact e), fun y z e => by rw [(k.2 z).1, (k.2 y).1]; exact h.ahead y z (by rw [← (k.2 y).2.2.1]; exact e)⟩
theorem Kin.set {l : List Nd} (h : Kin l) (i : Nat) (n : Nd) (e : n.up = (gN l i).up ∧ n.last = (gN l i).last ∧ n.ahead = (gN l i).ahead ∧ n.depth = (gN l i).depth) : Kin (l.set i n) := h.sk (Sk.set l i n e)
theorem Kin.drop {l : List Nd} {t : Nat} (h : Kin l) (w : Wf l t) (h0 : t ≠ 0) : Kin (l.set (gN l t).up.toNat { gN l (gN l t).up.toNat with last := (gN l t).ahead }) := by
  have hu := w.up t (by omega) w.tip
  have e : ∀ j, (gN (l.set (gN l t).up.toNat { gN l (gN l t).up.toNat with last := (gN l t).ahead }) j).up = (gN l j).up := fun j => set_up rfl
  refine ⟨fun i y q => ?_, fun y z q => ?_⟩
  · rw [e]
    rw [gN_set] at q
    split at q
    · next c =>
      have := h.ahead t y q
      omega
    · exact h.last i y q
  · rw [e, e]
    rw [gN_set] at q
    split at q
    · next c => rw [c.1]; exact h.ahead _ z q
    · exact h.ahead y z q
theorem kin_define {s : St} (h : Kin s.list) (i : Nat) : Kin (defineM s i).list := h.set i _ ⟨rfl, rfl, rfl, rfl⟩
theorem kin_close {s : St} (w : Wf s.list s.tip) (h0 : s.tip ≠ 0) (h : Kin s.list) : Kin (closeM s).list := by
  show Kin (closedM s s.tip).list
  unfold closedM
  split
  · unfold closeParaM
    have hd : Wf (defineM s s.tip).list s.tip := w.text s.tip _ _
    have kd := kin_define h s.tip
    split
    · exact kd.drop hd h0
    · exact kd
  split
  · split
    · exact h.set _ _ ⟨rfl, rfl, rfl, rfl⟩
    · exact h
  split
  · exact h.set _ _ ⟨rfl, rfl, rfl, rfl⟩
  split
  · exact h.set _ _ ⟨rfl, rfl, rfl, rfl⟩
  · exact h
theorem kin_cwGo : ∀ (n : Nat) (s : St) (i : Nat), Wf s.list s.tip → On s.list s.tip i → Kin s.list → Kin (cwGo n s i).list
  | 0, _, _, _, _, h => h
  | n + 1, s, i, w, o, h => by
    unfold cwGo
    split
    · exact h
    · next e =>
      have h0 : s.tip ≠ 0 := fun e0 => by have := o.le w; omega
      exact kin_cwGo n (closeM s) i (w.close h0) (o.closed e) (kin_close w h0 h)
theorem kin_cw {s : St} {i : Nat} (w : Wf s.list s.tip) (o : On s.list s.tip i) (h : Kin s.list) : Kin (cwM s i).list := kin_cwGo _ s i w o h
theorem kin_addGo : ∀ (n : Nat) (s : St) (k : Nat), Wf s.list s.tip → (k ≠ 4 ∨ holdsB (s.nd s.tip).kind k = true) → Kin s.list → Kin (addGo n s k).list
  | 0, _, _, _, _, h => h
  | n + 1, s, k, w, hk, h => by
    unfold addGo
    split
    · exact h
    · next e =>
      have hk4 : k ≠ 4 := hk.resolve_right e
      have h0 : s.tip ≠ 0 := fun e0 => e (doc_holds w e0 hk4)
      exact kin_addGo n (closeM s) k (w.close h0) (.inl hk4) (kin_close w h0 h)
theorem kin_push {s : St} (w : Wf s.list s.tip) (h : Kin s.list) (b : Nd) : Kin (pushM s b).list := by
  have hn : (pushM s b).list = s.list.set s.tip { s.nd s.tip with last := s.list.length } ++ [{ b with up := s.tip, last := -1, ahead := (s.nd s.tip).last, depth := (s.nd s.tip).depth + 1 }] := rfl
  have at_old : ∀ j, j < s.list.length → gN (pushM s b).list j = if j = s.tip then { s.nd s.tip with last := s.list.length } else gN s.list j := fun j hj => by
    rw [hn, gN_app (by rw [List.length_set]; exact hj), gN_set]
    by_cases e : j = s.tip
    · rw [if_pos ⟨e, w.tip⟩, if_pos e]
    · rw [if_neg (fun q => e q.1), if_neg e]
  have at_new : gN (pushM s b).list s.list.length = { b with up := s.tip, last := -1, ahead := (s.nd s.tip).last, depth := (s.nd s.tip).depth + 1 } := by
    have := gN_new (s.list.set s.tip { s.nd s.tip with last := s.list.length }) { b with up := s.tip, last := -1, ahead := (s.nd s.tip).last, depth := (s.nd s.tip).depth + 1 }
    rw [List.length_set] at this
    rw [hn]; exact this
  have at_out : ∀ j, s.list.length < j → gN (pushM s b).list j = blkN 1 := fun j hj => gN_out (by rw [push_len]; omega)
  have up_old : ∀ j, j < s.list.length → (gN (pushM s b).list j).up = (gN s.list j).up := fun j hj => by
    rw [at_old j hj]
    split
    · next e => subst e; rfl
    · rfl
  have ah_old : ∀ j, j < s.list.length → (gN (pushM s b).list j).ahead = (gN s.list j).ahead := fun j hj => by
    rw [at_old j hj]
    split
    · next e => subst e; rfl
    · rfl
  refine ⟨fun i y q => ?_, fun y z q => ?_⟩
  · by_cases hi : i < s.list.length
    · by_cases ht : i = s.tip
      · rw [at_old i hi, if_pos ht] at q
        have : y = s.list.length := by dsimp only at q; omega
        subst this
        rw [at_new, ht]
      · rw [at_old i hi, if_neg ht] at q
        have hl := w.last i hi
        rw [up_old y (by omega)]
        exact h.last i y q
    · by_cases he : i = s.list.length
      · subst he
        rw [at_new] at q
        dsimp only at q
        omega
      · rw [at_out i (by omega)] at q
        have : (blkN 1).last = -1 := rfl
        omega
  · by_cases hi : y < s.list.length
    · rw [ah_old y hi] at q
      have hl := w.ahead y hi
      rw [up_old z (by omega), up_old y hi]
      exact h.ahead y z q
    · by_cases he : y = s.list.length
      · subst he
        rw [at_new] at q ⊢
        dsimp only at q ⊢
        have hl := w.last s.tip w.tip
        have e2 : (gN s.list s.tip).last = (z : Int) := q
        rw [up_old z (by omega)]
        exact h.last s.tip z q
      · rw [at_out y (by omega)] at q
        have : (blkN 1).ahead = -1 := rfl
        omega
theorem kin_add {s : St} (w : Wf s.list s.tip) (h : Kin s.list) (b : Nd) (hk : b.kind ≠ 4 ∨ holdsB (s.nd s.tip).kind b.kind = true) : Kin (addM s b).list :=
  kin_push (addGo_ok s.tip s b.kind (Nat.le_refl _) w hk).1 (kin_addGo _ s b.kind w hk h) b
theorem kin_addIn {s : St} {i : Nat} (w : Wf s.list s.tip) (o : On s.list s.tip i) (h : Kin s.list) (b : Nd) (hk : b.kind ≠ 4) : Kin (addInM s i b).list :=
  kin_add (cw_wf w o) (kin_cw w o h) b (.inl hk)
theorem kin_put {s : St} (h : Kin s.list) (i : Nat) : Kin (putM s i).list := h.set i _ ⟨rfl, rfl, rfl, rfl⟩
theorem kin_ebGo : ∀ (n : Nat) (l : List Nd) (j : Int) (b : Bool), Kin l → Kin (ebGo n l j b)
  | 0, _, _, _, h => h
  | n + 1, l, j, b, h => by
    unfold ebGo
    split
    · exact h
    · exact kin_ebGo n _ _ b (h.set _ _ ⟨rfl, rfl, rfl, rfl⟩)
theorem kin_eb {s : St} (h : Kin s.list) (i : Nat) : Kin (endBlankM s i).list := by
  refine kin_ebGo _ _ _ _ ?_
  unfold ebLast
  split
  · exact h.set _ _ ⟨rfl, rfl, rfl, rfl⟩
  · exact h
theorem kin_fill {s : St} {i : Nat} (w : Wf s.list s.tip) (h8 : (s.nd i).kind = 8 → s.tip ≠ 0) (h : Kin s.list) : Kin (fillM s i).list := by
  unfold fillM
  split
  · exact kin_put h i
  split
  · next e8 =>
    split
    · exact kin_close (s := putM s i) (put_wf w i) (h8 e8) (kin_put h i)
    · exact kin_put h i
  split
  · exact h
  · exact kin_put (kin_add w h (blkN 5) (.inl (show (5 : Nat) ≠ 4 by decide))) _
theorem kin_rest {s : St} {i : Nat} (w : Wf s.list s.tip) (o : On s.list s.tip i) (h : Kin s.list) (what : Nat) : Kin (restM s i what).list := by
  have tail : ∀ s : St, Wf s.list s.tip → On s.list s.tip i → Kin s.list → Kin (endBlankM (cwM s i) i).list ∧ Kin (fillM (endBlankM (cwM s i) i) i).list := by
    intro s w o h
    have hc := cw_ok w o
    have eb := endBlank_keep (cw_wf w o) i
    have kb := kin_eb (kin_cw w o h) i
    refine ⟨kb, kin_fill (by rw [eb.2.2.2.2.1]; exact eb.1) (fun q => ?_) kb⟩
    rw [eb.2.2.2.2.1, hc.2.1]
    intro e0
    rw [eb.2.2.2.1, (fun x => by rw [e0] : ∀ x : St, x.nd i = x.nd 0)] at q
    have := hc.1.doc
    unfold St.nd at q
    omega
  unfold restM
  split
  · split
    · exact kin_put (s := s.atL (skipM s.line s.line.ind)) h _
    · exact (tail (s.atL (skipM s.line s.line.ind)) w o h).2
  split
  · exact (tail s w o h).2
  · exact (tail s w o h).1
theorem kin_inItem {s : St} (h : Kin s.list) (n : Nat) : Kin (inItemM s n).list := h.set s.tip { s.nd s.tip with indent := (pastMarkM s.line n).2 } ⟨rfl, rfl, rfl, rfl⟩
theorem kin_under {s : St} (h : Kin s.list) (i : Nat) : Kin (bUnderM s i).1.list := by
  unfold bUnderM
  split
  · exact h
  split
  · exact kin_define h i
  · exact (kin_define h i).set i _ ⟨rfl, rfl, rfl, rfl⟩
theorem kin_begin {s : St} {i : Nat} (k : Ok s i) (h : Kin s.list) : Kin (beginM s i).1.list := by
  unfold beginM
  split
  · exact h
  split
  · unfold bCodeM
    split
    · exact h
    · exact kin_addIn (s := s.atL (skipM s.line 4)) k.wf k.on h (blkN 7) (show (7 : Nat) ≠ 4 by decide)
  split
  · exact kin_addIn (s := s.atL (pastQuoteM s.line).1) k.wf k.on h (blkN 2) (show (2 : Nat) ≠ 4 by decide)
  split
  · exact kin_addIn k.wf k.on h _ (show (6 : Nat) ≠ 4 by decide)
  split
  · exact kin_addIn k.wf k.on h _ (show (7 : Nat) ≠ 4 by decide)
  split
  · exact kin_addIn k.wf k.on h _ (show (8 : Nat) ≠ 4 by decide)
  split
  · exact kin_under h i
  · next hq =>
    have hq' : (bUnderM s i).2 = false := by revert hq; cases (bUnderM s i).2 <;> simp
    have k1 := (k.under hq').1
    have h1 := kin_under h i
    unfold bRestM
    split
    · exact kin_addIn k1.wf k1.on h1 _ (show (9 : Nat) ≠ 4 by decide)
    have hi : Kin (bItemM (bUnderM s i).1 i).1.list := by
      unfold bItemM
      split
      · have w1 := cw_wf k1.wf k1.on
        obtain ⟨w2, _, o2, _, _⟩ := list_ok w1 (lstL (bUnderM s i).1.line.next) (a := (cwM (bUnderM s i).1 i).list.length) (b := phi (cwM (bUnderM s i).1 i)) ⟨Nat.le_refl _, Nat.le_refl _⟩
        have h2 : Kin (listM (cwM (bUnderM s i).1 i) (lstL (bUnderM s i).1.line.next)).list := by
          unfold listM
          split
          · exact kin_cw k1.wf k1.on h1
          · exact kin_add w1 (kin_cw k1.wf k1.on h1) _ (.inl (show (3 : Nat) ≠ 4 by decide))
        exact kin_inItem (kin_add w2 h2 (blkN 4) (.inr o2)) _
      · exact h1
    split
    · exact hi
    · exact h1
theorem kin_begunGo : ∀ (f : Nat) (s : St) (i : Nat) {z : Nat}, Ok s i → Lw z s.line → z ≤ 10000 → s.list.length + 2 * s.line.rem.length ≤ 79000 → Kin s.list → Kin (begunGo f s i).1.list
  | 0, _, _, _, _, _, _, _, h => h
  | f + 1, s, i, z, k, hz, hz2, ha, h => by
    have g := begin_bg k (a := s.list.length) (b := phi s) ⟨Nat.le_refl _, Nat.le_refl _⟩ hz hz2
    have kb := kin_begin k h
    unfold begunGo
    split
    · exact kb
    split
    · exact kb
    · next h0 h1 =>
      have e1 : (beginM s i).2 = 1 := Decidable.byContradiction fun q => h1 (.inl q)
      obtain ⟨h2, h3⟩ := g.one e1
      have h4 := h2 z hz
      have h5 := h3.len
      have h6 := h3.txt
      have h7 := k.phi
      exact kin_begunGo f (beginM s i).1 (beginM s i).1.tip ⟨g.wf, .refl _, by omega, by omega⟩ (g.lw z hz) hz2 (by omega) kb
theorem kin_line {s : St} {z : Nat} (w : Wf s.list s.tip) (h : Kin s.list) (hz : Lw z s.line) (hz2 : z ≤ 10000) (ha : s.list.length + 2 * z ≤ 79000) (hb : phi s ≤ 80000) : Kin (lineM s).list := by
  have m := matched_mt w hz
  unfold lineM
  split
  · next e =>
    obtain ⟨l, h1, h2, h3⟩ := m.yes e
    rw [h1]
    exact kin_close (s := s.atL l) w h2 h
  · next e =>
    obtain ⟨l, h1, h2, h3, h4⟩ := m.no (by revert e; cases (matchedM s).2.2 <;> simp)
    have hr := hz.rem
    rw [h1]
    have k : Ok (s.atL l) (matchedM s).2.1 := ⟨w, h2, hb, by show s.list.length ≤ _; omega⟩
    have hl : (s.atL l).list.length + 2 * (s.atL l).line.rem.length ≤ 79000 := by show s.list.length + 2 * l.rem.length ≤ _; omega
    have g := begun_bn k (a := 79000) (b := 80000) h3 hz2 hl (show phi s ≤ _ from hb) (Nat.le_refl _) (Nat.le_refl _)
    refine kin_rest g.wf g.on ?_ _
    unfold begunM
    split
    · exact h
    · exact kin_begunGo _ _ _ k h3 hz2 hl h
theorem kin_take {s : St} {t : List UInt8} (w : Wf s.list s.tip) (h : Kin s.list) (ht : t.length ≤ 10000) (ha : s.list.length + 2 * t.length ≤ 79000) (hb : phi s ≤ 80000) : Kin (takeM s t).list :=
  kin_line (s := startM s t) w h (Lw.start t) ht ha hb
end Go.Proofs.YtdelaanaohjnkaaGreatDoor


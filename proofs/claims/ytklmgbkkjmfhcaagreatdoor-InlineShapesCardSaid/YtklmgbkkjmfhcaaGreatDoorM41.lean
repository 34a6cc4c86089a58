/-
  Texts of the proof, one behind the other: IqP, IqQ, Isa, Isc, IqR.
-/
import Derived.Test.YtklmgbkkjmfhcaaGreatDoorM40
import Derived.Test.YtklmgbkkjmfhcaaGreatDoorM34
import Derived.Test.YtklmgbkkjmfhcaaGreatDoorM6
/-
  Contracts of takeEnd and take. (tools/intake.py)
-/
namespace Go.Proofs.YtklmgbkkjmfhcaaGreatDoor
open Go.RowKit Go.Lib Go.Maps

section
variable {W : World} {B : Nat} {O : Nat → Option Nat} {s : ByteArray} {rs : List Rf} {p : Ps}
theorem takeEnd_any (h : ParI W B O s rs p) (hp : p.pos < s.size) :
    Calls Tryz.prog 15 #[.pointer (some ⟨B, 0, none⟩)] W fun e w' => e = .returned (.tuple #[]) ∧ PostI W B O s rs (endM s.data.toList rs p) w' := by
  obtain ⟨wf, lv, bv, rv, fi, pm, tm, em, L, m⟩ := h
  obtain ⟨Ab, cb, rfl, _⟩ := row_form m.brs
  cases hb : p.br.getLast? with
  | none =>
    have hn : p.br = [] := List.getLast?_eq_none_iff.1 hb
    have e : endM s.data.toList rs p = byteM s.data.toList p := by unfold endM; rw [hb]
    rw [e]
    exact takeEnd_none m wf hp hn
  | some b =>
    rw [endM_some hb]
    by_cases hd : b.image = true ∨ p.dead ≤ p.br.length - 1
    · rw [if_pos hd]
      by_cases h0 : (ldsM s.data.toList rs p b).2.2 = 0
      · rw [if_pos h0]
        exact takeEnd_lost m wf hp hb hd h0
      · rw [if_neg h0]
        have hbm : b ∈ p.br := by
          obtain ⟨ys, e2⟩ := List.getLast?_eq_some_iff.1 hb
          rw [e2]; simp
        have hbp := (wf.br b hbm).1
        have hll : L.length = p.list.length := by rw [← m.eq, List.length_map]
        obtain ⟨g, cl, rfl⟩ : ∃ g cl, lv = .slice (some ⟨g, 0, none⟩) L.length cl := by
          rcases m.row.2 with ⟨_, e⟩ | ⟨g, cap, cur, e, _⟩
          · omega
          · exact ⟨g, cap, e⟩
        have := takeEnd_link m wf hp hb hd h0
        rw [endM_some hb, if_pos hd, if_neg h0] at this
        exact this
    · rw [if_neg hd]
      exact takeEnd_dead m wf hp hb hd
theorem headD_at (hp : p.pos < s.size) : (s.data.toList.drop p.pos).headD 0 = s[p.pos] := by
  have hl : p.pos < s.data.toList.length := by rw [bytes_len]; exact hp
  rw [List.drop_eq_getElem_cons hl]
  rfl
set_option maxRecDepth 100000 in
set_option maxHeartbeats 8000000 in
theorem take_92 (h : ParI W B O s rs p) (hp : p.pos < s.size) (hc : s[p.pos] = 92) :
    Calls Tryz.prog 7 #[.pointer (some ⟨B, 0, none⟩)] W fun e w' => e = .returned (.tuple #[]) ∧ PostI W B O s rs (hidM s.data.toList p) w' := by
  have hh : (s.data.toList.drop p.pos).headD 0 = 92 := by rw [headD_at hp, hc]
  have HC := Lib.hid (fun w (q : Keeps W w) => show Calls Tryz.prog 10 #[.pointer (some ⟨B, 0, none⟩)] w fun e w' => e = .returned (.tuple #[]) ∧ PostI W B O s rs (hidM s.data.toList p) w' from (show Calls Tryz.prog 10 #[.pointer (some ⟨B, 0, none⟩)] w fun e w' => e = .returned (.tuple #[]) ∧ PostI w B O s rs (hidM s.data.toList p) w' from by have hq := h.keep q; exact takeHidden_any hq hp).mono fun e w' r => ⟨r.1, r.2.from q⟩)
  have q92 : ((s[p.pos].toNat : Int) == 92) = true := by rw [hc]; rfl
  obtain ⟨lv, bv, rv, fi, pm, tm, em, hb⟩ := h.box
  have a0 := hb.cell 0 (v := .string s) rfl
  have a1 := hb.cell 1 (v := .int .i64 p.pos) rfl
  have hs0 : (0 : Int) ≤ (p.pos : Int) := by omega
  have hs2 : (p.pos : Int) < (s.size : Int) := by omega
  have KD := (Keeps.refl W).drew
  clear h hb hh hc
  go_enter Tryz.func7, Tryz.ntmps7
  go_upto_region 0 with fail
  go_cut [10] (fun c wx => c = .int .u8 (s[p.pos].toNat) ∧ wx = W.drew)
  case first =>
    go_region
    all_goals
      go_wp2_with fail
      go_meet
      exact ⟨rfl, rfl⟩
  case rest =>
  obtain ⟨rfl, rfl⟩ := hcut
  go_wp2_with (first | (go_at_call 10; (with_reducible refine (HC.out _ KD).mono ?_); rintro e w1 ⟨rfl, hw⟩))
  go_end0
  exact ⟨rfl, hw⟩
set_option maxRecDepth 100000 in
set_option maxHeartbeats 8000000 in
theorem take_96 (h : ParI W B O s rs p) (hp : p.pos < s.size) (hc : s[p.pos] = 96) :
    Calls Tryz.prog 7 #[.pointer (some ⟨B, 0, none⟩)] W fun e w' => e = .returned (.tuple #[]) ∧ PostI W B O s rs (codM s.data.toList p) w' := by
  have hh : (s.data.toList.drop p.pos).headD 0 = 96 := by rw [headD_at hp, hc]
  have HC := Lib.hid (fun w (q : Keeps W w) => show Calls Tryz.prog 11 #[.pointer (some ⟨B, 0, none⟩)] w fun e w' => e = .returned (.tuple #[]) ∧ PostI W B O s rs (codM s.data.toList p) w' from (show Calls Tryz.prog 11 #[.pointer (some ⟨B, 0, none⟩)] w fun e w' => e = .returned (.tuple #[]) ∧ PostI w B O s rs (codM s.data.toList p) w' from by have hq := h.keep q; exact takeCode_any hq hp hh).mono fun e w' r => ⟨r.1, r.2.from q⟩)
  have q92 : ((s[p.pos].toNat : Int) == 92) = false := by rw [hc]; rfl
  have q96 : ((s[p.pos].toNat : Int) == 96) = true := by rw [hc]; rfl
  obtain ⟨lv, bv, rv, fi, pm, tm, em, hb⟩ := h.box
  have a0 := hb.cell 0 (v := .string s) rfl
  have a1 := hb.cell 1 (v := .int .i64 p.pos) rfl
  have hs0 : (0 : Int) ≤ (p.pos : Int) := by omega
  have hs2 : (p.pos : Int) < (s.size : Int) := by omega
  have KD := (Keeps.refl W).drew
  clear h hb hh hc
  go_enter Tryz.func7, Tryz.ntmps7
  go_upto_region 0 with fail
  go_cut [10] (fun c wx => c = .int .u8 (s[p.pos].toNat) ∧ wx = W.drew)
  case first =>
    go_region
    all_goals
      go_wp2_with fail
      go_meet
      exact ⟨rfl, rfl⟩
  case rest =>
  obtain ⟨rfl, rfl⟩ := hcut
  go_wp2_with (first | (go_at_call 11; (with_reducible refine (HC.out _ KD).mono ?_); rintro e w1 ⟨rfl, hw⟩))
  go_end0
  exact ⟨rfl, hw⟩
set_option maxRecDepth 100000 in
set_option maxHeartbeats 8000000 in
theorem take_38 (h : ParI W B O s rs p) (hp : p.pos < s.size) (hc : s[p.pos] = 38) :
    Calls Tryz.prog 7 #[.pointer (some ⟨B, 0, none⟩)] W fun e w' => e = .returned (.tuple #[]) ∧ PostI W B O s rs (refM s.data.toList p) w' := by
  have hh : (s.data.toList.drop p.pos).headD 0 = 38 := by rw [headD_at hp, hc]
  have HC := Lib.hid (fun w (q : Keeps W w) => show Calls Tryz.prog 12 #[.pointer (some ⟨B, 0, none⟩)] w fun e w' => e = .returned (.tuple #[]) ∧ PostI W B O s rs (refM s.data.toList p) w' from (show Calls Tryz.prog 12 #[.pointer (some ⟨B, 0, none⟩)] w fun e w' => e = .returned (.tuple #[]) ∧ PostI w B O s rs (refM s.data.toList p) w' from by have hq := h.keep q; exact takeRef_any hq hp).mono fun e w' r => ⟨r.1, r.2.from q⟩)
  have q92 : ((s[p.pos].toNat : Int) == 92) = false := by rw [hc]; rfl
  have q96 : ((s[p.pos].toNat : Int) == 96) = false := by rw [hc]; rfl
  have q38 : ((s[p.pos].toNat : Int) == 38) = true := by rw [hc]; rfl
  obtain ⟨lv, bv, rv, fi, pm, tm, em, hb⟩ := h.box
  have a0 := hb.cell 0 (v := .string s) rfl
  have a1 := hb.cell 1 (v := .int .i64 p.pos) rfl
  have hs0 : (0 : Int) ≤ (p.pos : Int) := by omega
  have hs2 : (p.pos : Int) < (s.size : Int) := by omega
  have KD := (Keeps.refl W).drew
  clear h hb hh hc
  go_enter Tryz.func7, Tryz.ntmps7
  go_upto_region 0 with fail
  go_cut [10] (fun c wx => c = .int .u8 (s[p.pos].toNat) ∧ wx = W.drew)
  case first =>
    go_region
    all_goals
      go_wp2_with fail
      go_meet
      exact ⟨rfl, rfl⟩
  case rest =>
  obtain ⟨rfl, rfl⟩ := hcut
  go_wp2_with (first | (go_at_call 12; (with_reducible refine (HC.out _ KD).mono ?_); rintro e w1 ⟨rfl, hw⟩))
  go_end0
  exact ⟨rfl, hw⟩
set_option maxRecDepth 100000 in
set_option maxHeartbeats 8000000 in
theorem take_60 (h : ParI W B O s rs p) (hp : p.pos < s.size) (hc : s[p.pos] = 60) :
    Calls Tryz.prog 7 #[.pointer (some ⟨B, 0, none⟩)] W fun e w' => e = .returned (.tuple #[]) ∧ PostI W B O s rs (angM s.data.toList p) w' := by
  have hh : (s.data.toList.drop p.pos).headD 0 = 60 := by rw [headD_at hp, hc]
  have HC := Lib.hid (fun w (q : Keeps W w) => show Calls Tryz.prog 13 #[.pointer (some ⟨B, 0, none⟩)] w fun e w' => e = .returned (.tuple #[]) ∧ PostI W B O s rs (angM s.data.toList p) w' from (show Calls Tryz.prog 13 #[.pointer (some ⟨B, 0, none⟩)] w fun e w' => e = .returned (.tuple #[]) ∧ PostI w B O s rs (angM s.data.toList p) w' from by have hq := h.keep q; exact takeAngle_any hq hp).mono fun e w' r => ⟨r.1, r.2.from q⟩)
  have q92 : ((s[p.pos].toNat : Int) == 92) = false := by rw [hc]; rfl
  have q96 : ((s[p.pos].toNat : Int) == 96) = false := by rw [hc]; rfl
  have q38 : ((s[p.pos].toNat : Int) == 38) = false := by rw [hc]; rfl
  have q60 : ((s[p.pos].toNat : Int) == 60) = true := by rw [hc]; rfl
  obtain ⟨lv, bv, rv, fi, pm, tm, em, hb⟩ := h.box
  have a0 := hb.cell 0 (v := .string s) rfl
  have a1 := hb.cell 1 (v := .int .i64 p.pos) rfl
  have hs0 : (0 : Int) ≤ (p.pos : Int) := by omega
  have hs2 : (p.pos : Int) < (s.size : Int) := by omega
  have KD := (Keeps.refl W).drew
  clear h hb hh hc
  go_enter Tryz.func7, Tryz.ntmps7
  go_upto_region 0 with fail
  go_cut [10] (fun c wx => c = .int .u8 (s[p.pos].toNat) ∧ wx = W.drew)
  case first =>
    go_region
    all_goals
      go_wp2_with fail
      go_meet
      exact ⟨rfl, rfl⟩
  case rest =>
  obtain ⟨rfl, rfl⟩ := hcut
  go_wp2_with (first | (go_at_call 13; (with_reducible refine (HC.out _ KD).mono ?_); rintro e w1 ⟨rfl, hw⟩))
  go_end0
  exact ⟨rfl, hw⟩
set_option maxRecDepth 100000 in
set_option maxHeartbeats 8000000 in
theorem take_33 (h : ParI W B O s rs p) (hp : p.pos < s.size) (hc : s[p.pos] = 33) :
    Calls Tryz.prog 7 #[.pointer (some ⟨B, 0, none⟩)] W fun e w' => e = .returned (.tuple #[]) ∧ PostI W B O s rs (bktM s.data.toList p true) w' := by
  have hh : (s.data.toList.drop p.pos).headD 0 = 33 := by rw [headD_at hp, hc]
  have HC := Lib.hid (fun w (q : Keeps W w) => show Calls Tryz.prog 14 #[.pointer (some ⟨B, 0, none⟩)] w fun e w' => e = .returned (.tuple #[]) ∧ PostI W B O s rs (bktM s.data.toList p true) w' from (show Calls Tryz.prog 14 #[.pointer (some ⟨B, 0, none⟩)] w fun e w' => e = .returned (.tuple #[]) ∧ PostI w B O s rs (bktM s.data.toList p true) w' from by have hq := h.keep q; obtain ⟨wf, lv, bv, rv, fi, pm, tm, em, L, m⟩ := hq; obtain ⟨Ab, cb, rfl, _⟩ := row_form m.brs; exact takeBracket_mem m wf hp true (by rw [hc]; rfl)).mono fun e w' r => ⟨r.1, r.2.from q⟩)
  have q92 : ((s[p.pos].toNat : Int) == 92) = false := by rw [hc]; rfl
  have q96 : ((s[p.pos].toNat : Int) == 96) = false := by rw [hc]; rfl
  have q38 : ((s[p.pos].toNat : Int) == 38) = false := by rw [hc]; rfl
  have q60 : ((s[p.pos].toNat : Int) == 60) = false := by rw [hc]; rfl
  have q33 : ((s[p.pos].toNat : Int) == 33) = true := by rw [hc]; rfl
  obtain ⟨lv, bv, rv, fi, pm, tm, em, hb⟩ := h.box
  have a0 := hb.cell 0 (v := .string s) rfl
  have a1 := hb.cell 1 (v := .int .i64 p.pos) rfl
  have hs0 : (0 : Int) ≤ (p.pos : Int) := by omega
  have hs2 : (p.pos : Int) < (s.size : Int) := by omega
  have KD := (Keeps.refl W).drew
  clear h hb hh hc
  go_enter Tryz.func7, Tryz.ntmps7
  go_upto_region 0 with fail
  go_cut [10] (fun c wx => c = .int .u8 (s[p.pos].toNat) ∧ wx = W.drew)
  case first =>
    go_region
    all_goals
      go_wp2_with fail
      go_meet
      exact ⟨rfl, rfl⟩
  case rest =>
  obtain ⟨rfl, rfl⟩ := hcut
  go_wp2_with (first | (go_at_call 14; (with_reducible refine (HC.out _ KD).mono ?_); rintro e w1 ⟨rfl, hw⟩))
  go_end0
  exact ⟨rfl, hw⟩
set_option maxRecDepth 100000 in
set_option maxHeartbeats 8000000 in
theorem take_91 (h : ParI W B O s rs p) (hp : p.pos < s.size) (hc : s[p.pos] = 91) :
    Calls Tryz.prog 7 #[.pointer (some ⟨B, 0, none⟩)] W fun e w' => e = .returned (.tuple #[]) ∧ PostI W B O s rs (bktM s.data.toList p false) w' := by
  have hh : (s.data.toList.drop p.pos).headD 0 = 91 := by rw [headD_at hp, hc]
  have HC := Lib.hid (fun w (q : Keeps W w) => show Calls Tryz.prog 14 #[.pointer (some ⟨B, 0, none⟩)] w fun e w' => e = .returned (.tuple #[]) ∧ PostI W B O s rs (bktM s.data.toList p false) w' from (show Calls Tryz.prog 14 #[.pointer (some ⟨B, 0, none⟩)] w fun e w' => e = .returned (.tuple #[]) ∧ PostI w B O s rs (bktM s.data.toList p false) w' from by have hq := h.keep q; obtain ⟨wf, lv, bv, rv, fi, pm, tm, em, L, m⟩ := hq; obtain ⟨Ab, cb, rfl, _⟩ := row_form m.brs; exact takeBracket_mem m wf hp false (by rw [hc]; rfl)).mono fun e w' r => ⟨r.1, r.2.from q⟩)
  have q92 : ((s[p.pos].toNat : Int) == 92) = false := by rw [hc]; rfl
  have q96 : ((s[p.pos].toNat : Int) == 96) = false := by rw [hc]; rfl
  have q38 : ((s[p.pos].toNat : Int) == 38) = false := by rw [hc]; rfl
  have q60 : ((s[p.pos].toNat : Int) == 60) = false := by rw [hc]; rfl
  have q33 : ((s[p.pos].toNat : Int) == 33) = false := by rw [hc]; rfl
  have q91 : ((s[p.pos].toNat : Int) == 91) = true := by rw [hc]; rfl
  obtain ⟨lv, bv, rv, fi, pm, tm, em, hb⟩ := h.box
  have a0 := hb.cell 0 (v := .string s) rfl
  have a1 := hb.cell 1 (v := .int .i64 p.pos) rfl
  have hs0 : (0 : Int) ≤ (p.pos : Int) := by omega
  have hs2 : (p.pos : Int) < (s.size : Int) := by omega
  have KD := (Keeps.refl W).drew
  clear h hb hh hc
  go_enter Tryz.func7, Tryz.ntmps7
  go_upto_region 0 with fail
  go_cut [10] (fun c wx => c = .int .u8 (s[p.pos].toNat) ∧ wx = W.drew)
  case first =>
    go_region
    all_goals
      go_wp2_with fail
      go_meet
      exact ⟨rfl, rfl⟩
  case rest =>
  obtain ⟨rfl, rfl⟩ := hcut
  go_wp2_with (first | (go_at_call 14; (with_reducible refine (HC.out _ KD).mono ?_); rintro e w1 ⟨rfl, hw⟩))
  go_end0
  exact ⟨rfl, hw⟩
set_option maxRecDepth 100000 in
set_option maxHeartbeats 8000000 in
theorem take_93 (h : ParI W B O s rs p) (hp : p.pos < s.size) (hc : s[p.pos] = 93) :
    Calls Tryz.prog 7 #[.pointer (some ⟨B, 0, none⟩)] W fun e w' => e = .returned (.tuple #[]) ∧ PostI W B O s rs (endM s.data.toList rs p) w' := by
  have hh : (s.data.toList.drop p.pos).headD 0 = 93 := by rw [headD_at hp, hc]
  have HC := Lib.hid (fun w (q : Keeps W w) => show Calls Tryz.prog 15 #[.pointer (some ⟨B, 0, none⟩)] w fun e w' => e = .returned (.tuple #[]) ∧ PostI W B O s rs (endM s.data.toList rs p) w' from (show Calls Tryz.prog 15 #[.pointer (some ⟨B, 0, none⟩)] w fun e w' => e = .returned (.tuple #[]) ∧ PostI w B O s rs (endM s.data.toList rs p) w' from by have hq := h.keep q; exact takeEnd_any hq hp).mono fun e w' r => ⟨r.1, r.2.from q⟩)
  have q92 : ((s[p.pos].toNat : Int) == 92) = false := by rw [hc]; rfl
  have q96 : ((s[p.pos].toNat : Int) == 96) = false := by rw [hc]; rfl
  have q38 : ((s[p.pos].toNat : Int) == 38) = false := by rw [hc]; rfl
  have q60 : ((s[p.pos].toNat : Int) == 60) = false := by rw [hc]; rfl
  have q33 : ((s[p.pos].toNat : Int) == 33) = false := by rw [hc]; rfl
  have q91 : ((s[p.pos].toNat : Int) == 91) = false := by rw [hc]; rfl
  have q93 : ((s[p.pos].toNat : Int) == 93) = true := by rw [hc]; rfl
  obtain ⟨lv, bv, rv, fi, pm, tm, em, hb⟩ := h.box
  have a0 := hb.cell 0 (v := .string s) rfl
  have a1 := hb.cell 1 (v := .int .i64 p.pos) rfl
  have hs0 : (0 : Int) ≤ (p.pos : Int) := by omega
  have hs2 : (p.pos : Int) < (s.size : Int) := by omega
  have KD := (Keeps.refl W).drew
  clear h hb hh hc
  go_enter Tryz.func7, Tryz.ntmps7
  go_upto_region 0 with fail
  go_cut [10] (fun c wx => c = .int .u8 (s[p.pos].toNat) ∧ wx = W.drew)
  case first =>
    go_region
    all_goals
      go_wp2_with fail
      go_meet
      exact ⟨rfl, rfl⟩
  case rest =>
  obtain ⟨rfl, rfl⟩ := hcut
  go_wp2_with (first | (go_at_call 15; (with_reducible refine (HC.out _ KD).mono ?_); rintro e w1 ⟨rfl, hw⟩))
  go_end0
  exact ⟨rfl, hw⟩
set_option maxRecDepth 100000 in
set_option maxHeartbeats 8000000 in
theorem take_42 (h : ParI W B O s rs p) (hp : p.pos < s.size) (hc : s[p.pos] = 42) :
    Calls Tryz.prog 7 #[.pointer (some ⟨B, 0, none⟩)] W fun e w' => e = .returned (.tuple #[]) ∧ PostI W B O s rs (runM s.data.toList p 42) w' := by
  have hh : (s.data.toList.drop p.pos).headD 0 = 42 := by rw [headD_at hp, hc]
  have HC := Lib.hid (fun w (q : Keeps W w) => show Calls Tryz.prog 16 #[.pointer (some ⟨B, 0, none⟩)] w fun e w' => e = .returned (.tuple #[]) ∧ PostI W B O s rs (runM s.data.toList p 42) w' from (show Calls Tryz.prog 16 #[.pointer (some ⟨B, 0, none⟩)] w fun e w' => e = .returned (.tuple #[]) ∧ PostI w B O s rs (runM s.data.toList p 42) w' from by have hq := h.keep q; obtain ⟨wf, lv, bv, rv, fi, pm, tm, em, L, m⟩ := hq; obtain ⟨Al, cl, rfl, _⟩ := row_form m.row; exact takeRun_mem m hp 42 hc (.inl rfl)).mono fun e w' r => ⟨r.1, r.2.from q⟩)
  have q92 : ((s[p.pos].toNat : Int) == 92) = false := by rw [hc]; rfl
  have q96 : ((s[p.pos].toNat : Int) == 96) = false := by rw [hc]; rfl
  have q38 : ((s[p.pos].toNat : Int) == 38) = false := by rw [hc]; rfl
  have q60 : ((s[p.pos].toNat : Int) == 60) = false := by rw [hc]; rfl
  have q33 : ((s[p.pos].toNat : Int) == 33) = false := by rw [hc]; rfl
  have q91 : ((s[p.pos].toNat : Int) == 91) = false := by rw [hc]; rfl
  have q93 : ((s[p.pos].toNat : Int) == 93) = false := by rw [hc]; rfl
  have q42 : ((s[p.pos].toNat : Int) == 42) = true := by rw [hc]; rfl
  obtain ⟨lv, bv, rv, fi, pm, tm, em, hb⟩ := h.box
  have a0 := hb.cell 0 (v := .string s) rfl
  have a1 := hb.cell 1 (v := .int .i64 p.pos) rfl
  have hs0 : (0 : Int) ≤ (p.pos : Int) := by omega
  have hs2 : (p.pos : Int) < (s.size : Int) := by omega
  have KD := (Keeps.refl W).drew
  clear h hb hh hc
  go_enter Tryz.func7, Tryz.ntmps7
  go_upto_region 0 with fail
  go_cut [10] (fun c wx => c = .int .u8 (s[p.pos].toNat) ∧ wx = W.drew)
  case first =>
    go_region
    all_goals
      go_wp2_with fail
      go_meet
      exact ⟨rfl, rfl⟩
  case rest =>
  obtain ⟨rfl, rfl⟩ := hcut
  go_wp2_with (first | (go_at_call 16; (with_reducible refine (HC.out _ KD).mono ?_); rintro e w1 ⟨rfl, hw⟩))
  go_end0
  exact ⟨rfl, hw⟩
set_option maxRecDepth 100000 in
set_option maxHeartbeats 8000000 in
theorem take_95 (h : ParI W B O s rs p) (hp : p.pos < s.size) (hc : s[p.pos] = 95) :
    Calls Tryz.prog 7 #[.pointer (some ⟨B, 0, none⟩)] W fun e w' => e = .returned (.tuple #[]) ∧ PostI W B O s rs (runM s.data.toList p 95) w' := by
  have hh : (s.data.toList.drop p.pos).headD 0 = 95 := by rw [headD_at hp, hc]
  have HC := Lib.hid (fun w (q : Keeps W w) => show Calls Tryz.prog 16 #[.pointer (some ⟨B, 0, none⟩)] w fun e w' => e = .returned (.tuple #[]) ∧ PostI W B O s rs (runM s.data.toList p 95) w' from (show Calls Tryz.prog 16 #[.pointer (some ⟨B, 0, none⟩)] w fun e w' => e = .returned (.tuple #[]) ∧ PostI w B O s rs (runM s.data.toList p 95) w' from by have hq := h.keep q; obtain ⟨wf, lv, bv, rv, fi, pm, tm, em, L, m⟩ := hq; obtain ⟨Al, cl, rfl, _⟩ := row_form m.row; exact takeRun_mem m hp 95 hc (.inr rfl)).mono fun e w' r => ⟨r.1, r.2.from q⟩)
  have q92 : ((s[p.pos].toNat : Int) == 92) = false := by rw [hc]; rfl
  have q96 : ((s[p.pos].toNat : Int) == 96) = false := by rw [hc]; rfl
  have q38 : ((s[p.pos].toNat : Int) == 38) = false := by rw [hc]; rfl
  have q60 : ((s[p.pos].toNat : Int) == 60) = false := by rw [hc]; rfl
  have q33 : ((s[p.pos].toNat : Int) == 33) = false := by rw [hc]; rfl
  have q91 : ((s[p.pos].toNat : Int) == 91) = false := by rw [hc]; rfl
  have q93 : ((s[p.pos].toNat : Int) == 93) = false := by rw [hc]; rfl
  have q42 : ((s[p.pos].toNat : Int) == 42) = false := by rw [hc]; rfl
  have q95 : ((s[p.pos].toNat : Int) == 95) = true := by rw [hc]; rfl
  obtain ⟨lv, bv, rv, fi, pm, tm, em, hb⟩ := h.box
  have a0 := hb.cell 0 (v := .string s) rfl
  have a1 := hb.cell 1 (v := .int .i64 p.pos) rfl
  have hs0 : (0 : Int) ≤ (p.pos : Int) := by omega
  have hs2 : (p.pos : Int) < (s.size : Int) := by omega
  have KD := (Keeps.refl W).drew
  clear h hb hh hc
  go_enter Tryz.func7, Tryz.ntmps7
  go_upto_region 0 with fail
  go_cut [10] (fun c wx => c = .int .u8 (s[p.pos].toNat) ∧ wx = W.drew)
  case first =>
    go_region
    all_goals
      go_wp2_with fail
      go_meet
      exact ⟨rfl, rfl⟩
  case rest =>
  obtain ⟨rfl, rfl⟩ := hcut
  go_wp2_with (first | (go_at_call 16; (with_reducible refine (HC.out _ KD).mono ?_); rintro e w1 ⟨rfl, hw⟩))
  go_end0
  exact ⟨rfl, hw⟩
set_option maxRecDepth 100000 in
set_option maxHeartbeats 8000000 in
theorem take_10 (h : ParI W B O s rs p) (hp : p.pos < s.size) (hc : s[p.pos] = 10) :
    Calls Tryz.prog 7 #[.pointer (some ⟨B, 0, none⟩)] W fun e w' => e = .returned (.tuple #[]) ∧ PostI W B O s rs (brkM s.data.toList p) w' := by
  have hh : (s.data.toList.drop p.pos).headD 0 = 10 := by rw [headD_at hp, hc]
  have HC := Lib.hid (fun w (q : Keeps W w) => show Calls Tryz.prog 17 #[.pointer (some ⟨B, 0, none⟩)] w fun e w' => e = .returned (.tuple #[]) ∧ PostI W B O s rs (brkM s.data.toList p) w' from (show Calls Tryz.prog 17 #[.pointer (some ⟨B, 0, none⟩)] w fun e w' => e = .returned (.tuple #[]) ∧ PostI w B O s rs (brkM s.data.toList p) w' from by have hq := h.keep q; exact takeBreak_any hq hp).mono fun e w' r => ⟨r.1, r.2.from q⟩)
  have q92 : ((s[p.pos].toNat : Int) == 92) = false := by rw [hc]; rfl
  have q96 : ((s[p.pos].toNat : Int) == 96) = false := by rw [hc]; rfl
  have q38 : ((s[p.pos].toNat : Int) == 38) = false := by rw [hc]; rfl
  have q60 : ((s[p.pos].toNat : Int) == 60) = false := by rw [hc]; rfl
  have q33 : ((s[p.pos].toNat : Int) == 33) = false := by rw [hc]; rfl
  have q91 : ((s[p.pos].toNat : Int) == 91) = false := by rw [hc]; rfl
  have q93 : ((s[p.pos].toNat : Int) == 93) = false := by rw [hc]; rfl
  have q42 : ((s[p.pos].toNat : Int) == 42) = false := by rw [hc]; rfl
  have q95 : ((s[p.pos].toNat : Int) == 95) = false := by rw [hc]; rfl
  have q10 : ((s[p.pos].toNat : Int) == 10) = true := by rw [hc]; rfl
  obtain ⟨lv, bv, rv, fi, pm, tm, em, hb⟩ := h.box
  have a0 := hb.cell 0 (v := .string s) rfl
  have a1 := hb.cell 1 (v := .int .i64 p.pos) rfl
  have hs0 : (0 : Int) ≤ (p.pos : Int) := by omega
  have hs2 : (p.pos : Int) < (s.size : Int) := by omega
  have KD := (Keeps.refl W).drew
  clear h hb hh hc
  go_enter Tryz.func7, Tryz.ntmps7
  go_upto_region 0 with fail
  go_cut [10] (fun c wx => c = .int .u8 (s[p.pos].toNat) ∧ wx = W.drew)
  case first =>
    go_region
    all_goals
      go_wp2_with fail
      go_meet
      exact ⟨rfl, rfl⟩
  case rest =>
  obtain ⟨rfl, rfl⟩ := hcut
  go_wp2_with (first | (go_at_call 17; (with_reducible refine (HC.out _ KD).mono ?_); rintro e w1 ⟨rfl, hw⟩))
  go_end0
  exact ⟨rfl, hw⟩
set_option maxRecDepth 100000 in
set_option maxHeartbeats 8000000 in
theorem take_else (h : ParI W B O s rs p) (hp : p.pos < s.size) (n92 : s[p.pos] ≠ 92) (n96 : s[p.pos] ≠ 96) (n38 : s[p.pos] ≠ 38) (n60 : s[p.pos] ≠ 60) (n33 : s[p.pos] ≠ 33) (n91 : s[p.pos] ≠ 91) (n93 : s[p.pos] ≠ 93) (n42 : s[p.pos] ≠ 42) (n95 : s[p.pos] ≠ 95) (n10 : s[p.pos] ≠ 10) :
    Calls Tryz.prog 7 #[.pointer (some ⟨B, 0, none⟩)] W fun e w' => e = .returned (.tuple #[]) ∧ PostI W B O s rs (byteM s.data.toList p) w' := by
  have HC := Lib.hid (fun w (q : Keeps W w) => show Calls Tryz.prog 18 #[.pointer (some ⟨B, 0, none⟩)] w fun e w' => e = .returned (.tuple #[]) ∧ PostI W B O s rs (byteM s.data.toList p) w' from (show Calls Tryz.prog 18 #[.pointer (some ⟨B, 0, none⟩)] w fun e w' => e = .returned (.tuple #[]) ∧ PostI w B O s rs (byteM s.data.toList p) w' from by have hq := h.keep q; exact takeByte_any hq hp).mono fun e w' r => ⟨r.1, r.2.from q⟩)
  have q92 : ((s[p.pos].toNat : Int) == 92) = false := beqF (fun e => n92 (UInt8.toNat_inj.1 (by show s[p.pos].toNat = 92; omega)))
  have q96 : ((s[p.pos].toNat : Int) == 96) = false := beqF (fun e => n96 (UInt8.toNat_inj.1 (by show s[p.pos].toNat = 96; omega)))
  have q38 : ((s[p.pos].toNat : Int) == 38) = false := beqF (fun e => n38 (UInt8.toNat_inj.1 (by show s[p.pos].toNat = 38; omega)))
  have q60 : ((s[p.pos].toNat : Int) == 60) = false := beqF (fun e => n60 (UInt8.toNat_inj.1 (by show s[p.pos].toNat = 60; omega)))
  have q33 : ((s[p.pos].toNat : Int) == 33) = false := beqF (fun e => n33 (UInt8.toNat_inj.1 (by show s[p.pos].toNat = 33; omega)))
  have q91 : ((s[p.pos].toNat : Int) == 91) = false := beqF (fun e => n91 (UInt8.toNat_inj.1 (by show s[p.pos].toNat = 91; omega)))
  have q93 : ((s[p.pos].toNat : Int) == 93) = false := beqF (fun e => n93 (UInt8.toNat_inj.1 (by show s[p.pos].toNat = 93; omega)))
  have q42 : ((s[p.pos].toNat : Int) == 42) = false := beqF (fun e => n42 (UInt8.toNat_inj.1 (by show s[p.pos].toNat = 42; omega)))
  have q95 : ((s[p.pos].toNat : Int) == 95) = false := beqF (fun e => n95 (UInt8.toNat_inj.1 (by show s[p.pos].toNat = 95; omega)))
  have q10 : ((s[p.pos].toNat : Int) == 10) = false := beqF (fun e => n10 (UInt8.toNat_inj.1 (by show s[p.pos].toNat = 10; omega)))
  clear n92 n96 n38 n60 n33 n91 n93 n42 n95 n10
  obtain ⟨lv, bv, rv, fi, pm, tm, em, hb⟩ := h.box
  have a0 := hb.cell 0 (v := .string s) rfl
  have a1 := hb.cell 1 (v := .int .i64 p.pos) rfl
  have hs0 : (0 : Int) ≤ (p.pos : Int) := by omega
  have hs2 : (p.pos : Int) < (s.size : Int) := by omega
  have KD := (Keeps.refl W).drew
  clear h hb
  go_enter Tryz.func7, Tryz.ntmps7
  go_upto_region 0 with fail
  go_cut [10] (fun c wx => c = .int .u8 (s[p.pos].toNat) ∧ wx = W.drew)
  case first =>
    go_region
    all_goals
      go_wp2_with fail
      go_meet
      exact ⟨rfl, rfl⟩
  case rest =>
  obtain ⟨rfl, rfl⟩ := hcut
  go_wp2_with (first | (go_at_call 18; (with_reducible refine (HC.out _ KD).mono ?_); rintro e w1 ⟨rfl, hw⟩))
  go_end0
  exact ⟨rfl, hw⟩
theorem take_any (h : ParI W B O s rs p) (hp : p.pos < s.size) :
    Calls Tryz.prog 7 #[.pointer (some ⟨B, 0, none⟩)] W fun e w' => e = .returned (.tuple #[]) ∧ PostI W B O s rs (takeI s.data.toList rs p) w' := by
  by_cases n92 : s[p.pos] = 92
  · rw [show takeI s.data.toList rs p = hidM s.data.toList p by unfold takeI; rw [headD_at hp, n92]; rfl]
    exact take_92 h hp n92
  by_cases n96 : s[p.pos] = 96
  · rw [show takeI s.data.toList rs p = codM s.data.toList p by unfold takeI; rw [headD_at hp, n96]; rfl]
    exact take_96 h hp n96
  by_cases n38 : s[p.pos] = 38
  · rw [show takeI s.data.toList rs p = refM s.data.toList p by unfold takeI; rw [headD_at hp, n38]; rfl]
    exact take_38 h hp n38
  by_cases n60 : s[p.pos] = 60
  · rw [show takeI s.data.toList rs p = angM s.data.toList p by unfold takeI; rw [headD_at hp, n60]; rfl]
    exact take_60 h hp n60
  by_cases n33 : s[p.pos] = 33
  · rw [show takeI s.data.toList rs p = bktM s.data.toList p true by unfold takeI; rw [headD_at hp, n33]; rfl]
    exact take_33 h hp n33
  by_cases n91 : s[p.pos] = 91
  · rw [show takeI s.data.toList rs p = bktM s.data.toList p false by unfold takeI; rw [headD_at hp, n91]; rfl]
    exact take_91 h hp n91
  by_cases n93 : s[p.pos] = 93
  · rw [show takeI s.data.toList rs p = endM s.data.toList rs p by unfold takeI; rw [headD_at hp, n93]; rfl]
    exact take_93 h hp n93
  by_cases n42 : s[p.pos] = 42
  · rw [show takeI s.data.toList rs p = runM s.data.toList p 42 by unfold takeI; rw [headD_at hp, n42]; rfl]
    exact take_42 h hp n42
  by_cases n95 : s[p.pos] = 95
  · rw [show takeI s.data.toList rs p = runM s.data.toList p 95 by unfold takeI; rw [headD_at hp, n95]; rfl]
    exact take_95 h hp n95
  by_cases n10 : s[p.pos] = 10
  · rw [show takeI s.data.toList rs p = brkM s.data.toList p by unfold takeI; rw [headD_at hp, n10]; rfl]
    exact take_10 h hp n10
  have e : takeI s.data.toList rs p = byteM s.data.toList p := by
    unfold takeI
    rw [headD_at hp]
    split
    all_goals first | rfl | contradiction
  rw [e]
  exact take_else h hp n92 n96 n38 n60 n33 n91 n93 n42 n95 n10
end
end Go.Proofs.YtklmgbkkjmfhcaaGreatDoor

/-
  Contract of Parse.
-/
namespace Go.Proofs.YtklmgbkkjmfhcaaGreatDoor
open Go.RowKit Go.Lib Go.Maps

def zeroB (s : ByteArray) (rv : Value) : Array Value := #[.string s, .int .i64 0, .slice none 0 0, .slice none 0 0, .int .i64 0, rv, .int .i64 0, .map none, .map none, .map none]
def own0 (B : Nat) (b : Nat) : Option Nat := if b = B then some 0 else none
theorem zero_par {W : World} {s : ByteArray} {rs : List Rf} {rv : Value} (hR : RefV W rv rs) (hl : Lis W) (hm : Mxl W) (hs : s.size ≤ 20000) (hr : rs.length ≤ 100000 ∧ ∀ r ∈ rs, r.1.length ≤ maxLen) :
    ParI (W.alloc (.cells (zeroB s rv) 38)) W.heap.size (own0 W.heap.size) s rs Ps.zero := by
  have K := (Keeps.refl W).alloc (.cells (zeroB s rv) 38)
  have hz : (W.alloc (.cells (zeroB s rv) 38)).heap.size = W.heap.size + 1 := World.size_alloc _ _
  have ne : ∀ b, own0 W.heap.size b ≠ none → b = W.heap.size := fun b hb => by
    unfold own0 at hb
    by_cases e : b = W.heap.size
    · exact e
    · rw [if_neg e] at hb; exact absurd rfl hb
  refine ⟨WfI.zero _, .slice none 0 0, .slice none 0 0, rv, 0, .map none, .map none, .map none, [], ?_⟩
  exact {
    box := Blk.new W _ _
    row := World.ownsRow_nil _ _ _ _
    eq := rfl
    kid := fun x hx => by cases hx
    brs := World.ownsRow_nil _ _ _ _
    refs := by
      by_cases h0 : 0 < rs.length
      · exact hR.same fun g o n c e => K.block g (refV_lt hR g o n c e h0)
      · obtain ⟨A, c', h1, h2, h3, h4⟩ := hR
        exact ⟨A, c', h1, h2, h3, fun q => absurd q h0⟩
    oRf := fun g o n c e h0 => by
      have := refV_lt hR g o n c e h0
      unfold own0
      rw [if_neg (by omega)]
    plc := .inl rfl
    tic := .inl rfl
    ens := .inl rfl
    fin := Nat.le_refl _
    oB := by unfold own0; rw [if_pos rfl]
    oL := fun g e => by cases e
    oK := fun g e => by cases e
    lt := fun b hb => by rw [ne b hb, hz]; omega
    env := ⟨W, hl, hm, K, fun b hb => by rw [ne b hb]; exact Nat.le_refl _⟩
    wf := (WfI.zero _).core
    siz := hs
    rsz := hr
    fst := fun x hx => by cases hx }
def posOf (w : World) (B : Nat) : Nat := (RowKit.intOf (cellOf w B 1)).toNat
theorem MemI.posOf {W : World} {B : Nat} {O : Nat → Option Nat} {s : ByteArray} {rs : List Rf} {p : Ps} {lv bv rv : Value} {fi : Nat} {pm tm em : Value} {L : List (Pc × Value)} (m : MemI W B O s rs p lv bv rv fi pm tm em L) : posOf W B = p.pos := by
  unfold Go.Proofs.YtklmgbkkjmfhcaaGreatDoor.posOf cellOf
  rw [m.box.cell 1 (v := .int .i64 p.pos) rfl]
  show ((p.pos : Int)).toNat = p.pos
  omega
theorem ParI.posOf {W : World} {B : Nat} {O : Nat → Option Nat} {s : ByteArray} {rs : List Rf} {p : Ps} (h : ParI W B O s rs p) : posOf W B = p.pos := by
  obtain ⟨_, _, _, _, _, _, _, _, _, m⟩ := h
  exact m.posOf
def ParseP (W : World) (l : List Sp) (e : Ending) (w' : World) : Prop := ∃ v, e = .returned v ∧ SpsAt w' (fun b => b < w'.heap.size) l v ∧ Keeps W w'
set_option maxRecDepth 100000 in
set_option maxHeartbeats 8000000 in
theorem parseI_any (s : ByteArray) (rs : List Rf) (rv : Value) (W : World) (hR : RefV W rv rs) (hl : Lis W) (hm : Mxl W) (hs : s.size ≤ 20000) (hr : rs.length ≤ 100000 ∧ ∀ r ∈ rs, r.1.length ≤ maxLen) :
    Calls Tryz.prog 6 #[.string s, rv] W (ParseP W (parseI s.data.toList rs)) := by
  obtain ⟨Ar, cr, rfl⟩ : ∃ A c, rv = .slice A rs.length c := by
    obtain ⟨A, c, h1, _⟩ := hR
    exact ⟨A, c, h1⟩
  have PZ := Lib.hid (zero_par hR hl hm hs hr)
  unfold zeroB at PZ
  have KW := Lib.hid ((Keeps.refl W).alloc (.cells #[.string s, .int .i64 0, .slice none 0 0, .slice none 0 0, .int .i64 0, .slice Ar rs.length cr, .int .i64 0, .map none, .map none, .map none] 38))
  obtain ⟨E, hE⟩ : ∃ E, goA s.data.toList rs Ps.zero = E := ⟨_, rfl⟩
  have HE0 := Lib.hid hE
  have HP0 : Hid (parseI s.data.toList rs = spansM (emM E.list)) := Lib.hid (by rw [parse_eq, hE])
  have hl0 := Lib.hid (bytes_len s)
  clear hE hR hl hm hr
  go_enter Tryz.func6, Tryz.ntmps6
  go_wp2_with fail
  obtain ⟨B, hB⟩ : ∃ B, W.heap.size = B := ⟨_, rfl⟩
  generalize W.alloc (.cells #[.string s, .int .i64 0, .slice none 0 0, .slice none 0 0, .int .i64 0, .slice Ar rs.length cr, .int .i64 0, .map none, .map none, .map none] 38) = W1 at *
  rw [hB] at PZ
  rw [hB]
  have HB := Lib.hid hB
  clear hB
  go_loopw [] (fun wr => ∃ q O1, Hid (ParI wr B O1 s rs q) ∧ Hid (Chg W1 (own0 B) wr O1) ∧ Hid (goA s.data.toList rs q = E)) (fun wr => s.size - posOf wr B)
  case atStart => exact ⟨_, _, PZ, Lib.hid (Chg.refl _ _), HE0⟩
  case round =>
    obtain ⟨q, O1, HP, HC, HE⟩ := hrel
    obtain ⟨wf, lv, bv, rv, fi, pm, tm, em, L, m⟩ := HP.out
    have hpos : q.pos ≤ s.size := by have := wf.pos; rw [hl0.out] at this; exact this
    have b0 := m.box.cell 0 (v := .string s) rfl
    have b1 := m.box.cell 1 (v := .int .i64 q.pos) rfl
    have PO := Lib.hid m.posOf
    have HM := Lib.hid m
    have KD := (Keeps.refl wr).drew
    have OW := Lib.hid wf
    clear wf m
    go_upto_region 2 with fail
    go_cut [19] (fun c wx => c = .bool (decide (q.pos < s.size)) ∧ wx = wr.drew)
    case first =>
      go_region
      all_goals
        go_wp2_with fail
        go_meet
        exact ⟨rfl, rfl⟩
    case rest =>
    obtain ⟨rfl, rfl⟩ := hcut
    by_cases hlt : q.pos < s.size
    · have hd : decide (q.pos < s.size) = true := decide_eq_true hlt
      have TK := Lib.hid (take_any (HP.out.keep KD) hlt)
      have HG : Hid (goA s.data.toList rs (takeI s.data.toList rs q) = E) := Lib.hid (by rw [← goA_step OW.out (by rw [hl0.out]; exact hlt)]; exact HE.out)
      have HW := Lib.hid ((OW.out.take (rs := rs) (by rw [hl0.out]; exact hlt)).2)
      have HC2 := Lib.hid (HC.out.trans (Chg.keeps O1 KD))
      rw [hd]
      clear HP HC HE b0 b1 KD HM hd HE0 PZ
      go_wp2_with (first | (go_at_call 7; (with_reducible refine TK.out.mono ?_); rintro e w2 ⟨rfl, O2, p2, c2⟩))
      go_roundw
      case rel => exact ⟨_, O2, Lib.hid p2, Lib.hid (HC2.out.trans c2), HG⟩
      case measure =>
        have h1 := p2.posOf
        have h2 := HW.out
        have h3 := PO.out
        rw [h1, h3]
        omega
    · have hd : decide (q.pos < s.size) = false := decide_eq_false hlt
      rw [hd]
      have hE : E = q := by rw [← HE.out]; exact goA_stop (by rw [hl0.out]; omega)
      have HQ : Hid (parseI s.data.toList rs = spansM (emM q.list)) := Lib.hid (by rw [HP0.out, hE])
      obtain ⟨Al, cl, rfl, h1, h2⟩ := row_form HM.out.row
      have b2 := (HM.out.box.keep KD).cell 2 (v := .slice Al L.length cl) rfl
      have hLl : L.length ≤ q.pos := by have := OW.out.len; rw [← HM.out.eq, List.length_map] at this; exact this
      have hts : tsum (L.map Prod.fst) ≤ q.pos := by rw [HM.out.eq]; exact OW.out.sum
      have EM := Lib.hid (emphasized_any Al L.length cl L (Out O1 wr) wr.drew (Vw.of_own (HM.out.keep KD).row) (HM.out.kid.same (fun b hb => hb) (fun b hb => KD.block b hb.2)) (fun b hb => hb.2) (by omega) (by omega) (fun x hx => HM.out.fst x.1 (by rw [← HM.out.eq]; exact List.mem_map_of_mem hx)))
      have HLn : Hid (∀ L1 : List (Pc × Value), L1.map Prod.fst = emM (L.map Prod.fst) → L1.length ≤ 1000000 ∧ tsum (L1.map Prod.fst) ≤ 1000000) := Lib.hid (fun L1 e => by
        have h1 := em_ok (L.map Prod.fst)
        rw [List.length_map] at h1
        have h3 : L1.length = (emM (L.map Prod.fst)).length := by rw [← e, List.length_map]
        rw [e]
        omega)
      have HEQ := Lib.hid HM.out.eq
      have HC2 := Lib.hid (HC.out.trans (Chg.keeps O1 KD))
      clear HP HC HE b0 b1 KD HM hd HE0 PZ hE hLl hts h1 h2 PO OW
      go_wp2_with (first
        | (go_at_call 9; (with_reducible refine EM.out.mono ?_); rintro e wa ⟨A1, n1, c1, L1, P1, rfl, hv1, hnc1, hc1, hk1, hl1, ka0, hp1, hp2⟩)
        | (go_at_call 8; refine (spans_any A1 n1 c1 L1 P1 wa hv1 hk1 hp2 (by have := (HLn.out L1 hl1).1; have := hv1.1; omega) hnc1 hc1 (HLn.out L1 hl1).2).mono ?_; rintro e wb ⟨v1, rfl, hv2, kb0⟩; obtain ⟨A2, m2, c2, rfl⟩ := hv2.form))
      go_ret
      refine ⟨_, rfl, ?_, ?_⟩
      · rw [HQ.out, ← HEQ.out, ← hl1]
        exact hv2.same (Nx.lt hp2 kb0.size) (fun _ _ => rfl)
      · have c := HC2.out
        have k := KW.out
        have e := HB.out
        have hk := k.size
        refine (Keeps.trans ?_ ka0).trans kb0
        exact ⟨c.os.trans k.os, c.tape.trans k.tape, c.output.trans k.output, Nat.le_trans hk c.size, fun b hb => (c.block b (by omega) (by unfold own0; rw [if_neg (by omega)])).trans (k.block b hb)⟩
end Go.Proofs.YtklmgbkkjmfhcaaGreatDoor

/-
  Spans, opened.
-/
namespace Go.Proofs.YtklmgbkkjmfhcaaGreatDoor
open Go.RowKit Go.Lib Go.Maps

theorem spR_at : ∀ (L : List (Sp × Value)) (i : Nat) (hi : i < L.length) (j : Nat), j < 5 → (spR L)[i * 5 + j]? = (spC L[i].1 L[i].2)[j]?
  | x :: L, 0, _, j, hj => by
    show (spC x.1 x.2 ++ spR L)[0 * 5 + j]? = (spC x.1 x.2)[j]?
    rw [List.getElem?_append_left (by rw [spC_len]; omega), Nat.zero_mul, Nat.zero_add]
  | x :: L, i + 1, hi, j, hj => by
    have hi' : i < L.length := by simpa using hi
    show (spC x.1 x.2 ++ spR L)[(i + 1) * 5 + j]? = (spC (L[i]'hi').1 (L[i]'hi').2)[j]?
    rw [List.getElem?_append_right (by rw [spC_len]; omega), spC_len, ← spR_at L i hi' j hj]
    congr 1
    omega
/-- A span's cells. -/
structure SAt (W : World) (g o : Nat) (k : Nat) (t d ti : List UInt8) (kv : Value) : Prop where
  c0 : W.cell? ⟨g, o, none⟩ = some (.int .i64 k)
  c1 : W.cell? ⟨g, o + 1, none⟩ = some (.string ⟨t.toArray⟩)
  c2 : W.cell? ⟨g, o + 2, none⟩ = some (.string ⟨d.toArray⟩)
  c3 : W.cell? ⟨g, o + 3, none⟩ = some (.string ⟨ti.toArray⟩)
  c4 : W.cell? ⟨g, o + 4, none⟩ = some kv
section
variable {W : World} {P : Nat → Prop} {l : List Sp} {v : Value}
theorem SpsAt.slice (h : SpsAt W P l v) : ∃ A cap, v = .slice A l.length cap ∧ l.length ≤ cap ∧ cap ≤ maxLen ∧ (0 < l.length → ∃ g, A = some ⟨g, 0, none⟩) := by
  cases h with
  | mk L v hr hp hk =>
    rw [List.length_map]
    rcases hr.2 with ⟨rfl, h0⟩ | ⟨g, cap, cur, rfl, _, _, h1, h2, _⟩
    · exact ⟨none, 0, by rw [h0], by omega, by simp [maxLen], fun q => by omega⟩
    · exact ⟨_, cap, rfl, h1, h2, fun _ => ⟨g, rfl⟩⟩
theorem SpsAt.at {g cap : Nat} (h : SpsAt W P l (.slice (some ⟨g, 0, none⟩) l.length cap)) {i : Nat} {k : Nat} {t d ti : List UInt8} {ks : List Sp} (e : l[i]? = some (.mk k t d ti ks)) : ∃ kv, SAt W g (i * 5) k t d ti kv ∧ SpsAt W P ks kv := by
  generalize hv : Value.slice (some ⟨g, 0, none⟩) l.length cap = v at h
  cases h with
  | mk L v hr hp hk =>
    subst hv
    rw [List.length_map] at hr
    rw [List.getElem?_map] at e
    obtain ⟨x, hx, ex⟩ := Option.map_eq_some_iff.1 e
    obtain ⟨hi, hx2⟩ := List.getElem?_eq_some_iff.1 hx
    have hc : ∀ j, j < 5 → W.cell? ⟨g, i * 5 + j, none⟩ = (spC (.mk k t d ti ks) x.2)[j]? := fun j hj => by
      rw [hr.cellAt _ (by omega), spR_at L i hi j hj, hx2, ex]
    have hk2 := hk x (List.mem_of_getElem? hx)
    rw [ex] at hk2
    exact ⟨x.2, ⟨hc 0 (by decide), hc 1 (by decide), hc 2 (by decide), hc 3 (by decide), hc 4 (by decide)⟩, hk2⟩
/-- One span alone. -/
theorem SpsAt.only {k : Nat} {t d ti : List UInt8} {ks : List Sp} (h : SpsAt W P [.mk k t d ti ks] v) : ∃ g cap kv, v = .slice (some ⟨g, 0, none⟩) 1 cap ∧ SAt W g 0 k t d ti kv ∧ SpsAt W P ks kv := by
  obtain ⟨A, cap, rfl, _, _, hg⟩ := h.slice
  obtain ⟨g, rfl⟩ := hg (by simp)
  obtain ⟨kv, a, b⟩ := h.at (i := 0) rfl
  exact ⟨g, cap, kv, rfl, by simpa using a, b⟩
end
/-- No definitions. -/
theorem refV_nil (W : World) : RefV W (.slice none 0 0) [] := ⟨none, 0, rfl, Nat.le_refl _, by simp [maxLen], fun h => by simp at h⟩
theorem parse_none (s : ByteArray) (W : World) (hl : Lis W) (hm : Mxl W) (hs : s.size ≤ 20000) : Calls Tryz.prog 6 #[.string s, .slice none 0 0] W (ParseP W (parseI s.data.toList [])) :=
  parseI_any s [] _ W (refV_nil W) hl hm hs ⟨by simp, fun r hr => by cases hr⟩
/-- One definition. -/
theorem refV_one {W : World} {g : Nat} {a b c : List UInt8} (h : Blk W g 29 #[.string ⟨a.toArray⟩, .string ⟨b.toArray⟩, .string ⟨c.toArray⟩]) : RefV W (.slice (some ⟨g, 0, none⟩) 1 1) [(a, b, c)] :=
  ⟨some ⟨g, 0, none⟩, 1, rfl, Nat.le_refl _, by simp [maxLen], fun _ => ⟨g, 0, rfl, fun k hk => by
    have hk0 : k = 0 := by simp at hk; omega
    subst hk0
    exact fun j v hv => h.cell _ (by simpa [refC] using hv)⟩⟩
theorem parse_one (s : ByteArray) {W : World} {g : Nat} {a b c : List UInt8} (h : Blk W g 29 #[.string ⟨a.toArray⟩, .string ⟨b.toArray⟩, .string ⟨c.toArray⟩]) (ha : a.length ≤ 20000) (hl : Lis W) (hm : Mxl W) (hs : s.size ≤ 20000) : Calls Tryz.prog 6 #[.string s, .slice (some ⟨g, 0, none⟩) 1 1] W (ParseP W (parseI s.data.toList [(a, b, c)])) :=
  parseI_any s _ _ W (refV_one h) hl hm hs ⟨by simp, fun r hr => by rw [List.mem_singleton.1 hr]; show a.length ≤ maxLen; unfold maxLen; omega⟩
theorem bytes_same (s : ByteArray) : (⟨s.data.toList.toArray⟩ : ByteArray) = s := by cases s; rfl
theorem Keeps.cell2 {W W' : World} {b i : Nat} {v : Value} (k : Keeps W W') (h : W.cell? ⟨b, i, none⟩ = some v) : W'.cell? ⟨b, i, none⟩ = some v := by
  rw [k.cell (World.block_lt_of_cell? W _ h)]
  exact h
end Go.Proofs.YtklmgbkkjmfhcaaGreatDoor

/-
  Contract of the law's shaped.
-/
namespace Go.Proofs.YtklmgbkkjmfhcaaGreatDoor
open Go.RowKit Go.Lib Go.Maps

/-- Is the span ahead of the place k a text? -/
def pvT (l : List Sp) (k : Nat) : Bool := !decide (k = 0) && match l[k - 1]? with
  | some x => decide (x.kind = 1)
  | none => false
theorem pvT_next {l : List Sp} {k : Nat} {x : Sp} (h : l[k]? = some x) : pvT l (k + 1) = decide (x.kind = 1) := by
  unfold pvT
  rw [Nat.add_sub_cancel, h]; simp
theorem sh_next {link : Bool} {l : List Sp} {k : Nat} {x : Sp} (h : l[k]? = some x) : shL link (pvT l k) (l.drop k) = (shS link (pvT l k) x && shL link (pvT l (k + 1)) (l.drop (k + 1))) := by
  obtain ⟨hk, e⟩ := List.getElem?_eq_some_iff.1 h
  rw [List.drop_eq_getElem_cons hk, e, shL, pvT_next h]
theorem size_sp {l : List Sp} {k : Nat} {kd : Nat} {t d ti : List UInt8} {ks : List Sp} (e : l[k]? = some (.mk kd t d ti ks)) : SizeOf.sizeOf ks < SizeOf.sizeOf l := by
  have h1 := List.sizeOf_lt_of_mem (List.mem_of_getElem? e)
  have h2 : SizeOf.sizeOf (Sp.mk kd t d ti ks) = 1 + SizeOf.sizeOf kd + SizeOf.sizeOf t + SizeOf.sizeOf d + SizeOf.sizeOf ti + SizeOf.sizeOf ks := by simp
  omega
end Go.Proofs.YtklmgbkkjmfhcaaGreatDoor

/-
  The document's examples of layer 14.
-/
namespace Go.Proofs.YtklmgbkkjmfhcaaGreatDoor
open Go.RowKit Go.Lib Go.Maps

def inAb : ByteArray := ⟨#[97, 32, 42, 98, 32, 42, 42, 99, 42, 42, 42, 32, 91, 100, 93, 40, 47, 117, 41, 92, 10, 101]⟩
def inBb : ByteArray := ⟨#[33, 91, 120, 93, 91, 114, 93]⟩
set_option maxRecDepth 100000 in
set_option maxHeartbeats 8000000 in
theorem awake14_any (w : World) (hO : Lis w) (hM : Mxl w) : Calls Tryz.prog 4 #[] w fun e w' => e = .returned (.bool true) ∧ Keeps w w' := by
  have PA := Lib.hid (parse_none inAb w hO hM (by decide))
  have PB := Lib.hid (fun w1 (k : Keeps w w1) g (h : Blk w1 g 29 #[.string ⟨#[114]⟩, .string ⟨#[47, 105]⟩, .string ⟨#[116]⟩]) => parse_one inBb (a := [114]) (b := [47, 105]) (c := [116]) h (by decide) (hO.keep k) (hM.keep k) (by decide))
  rw [show inAb.data.toList = inA from rfl] at PA
  rw [show inBb.data.toList = inB from rfl] at PB
  unfold inAb at PA
  unfold inBb at PB
  clear hO hM
  go_enter Tryz.func4, Tryz.ntmps4
  go_upto_region 1 with fail
  go_cut [1] (fun v wx => ∃ w1, w1 = wx ∧ Hid (Keeps w w1) ∧ Hid (SpsAt w1 (fun b => b < w1.heap.size) (parseI inA []) v))
  case first =>
    go_wp2_with (first | (go_at_call 6; (with_reducible refine PA.out.mono ?_); rintro e w1 ⟨v, rfl, hv, k⟩))
    go_meet
    case rel => exact ⟨_, rfl, Lib.hid k, Lib.hid hv⟩
  case rest =>
  obtain ⟨w1, rfl, K1, S1⟩ := hcut
  have KR := (Keeps.refl w1).alloc (.cells #[.string ⟨#[114]⟩, .string ⟨#[47, 105]⟩, .string ⟨#[116]⟩] 29)
  have PC := Lib.hid (PB.out _ (K1.out.trans KR) _ (Blk.new w1 29 #[.string ⟨#[114]⟩, .string ⟨#[47, 105]⟩, .string ⟨#[116]⟩]))
  rw [parse_inA] at S1
  rw [parse_inB] at PC
  have S2 := Lib.hid (S1.out.keep (fun b h => h) KR)
  have K2 := Lib.hid (K1.out.trans KR)
  clear S1 K1 PB PA KR
  go_upto_region 2 with fail
  go_cut [2] (fun u wx => ∃ w2, w2 = wx ∧ Hid (Keeps w w2) ∧ Hid (SpsAt w2 (fun b => b < w2.heap.size) [.mk 8 [] [47, 105] [116] [txtS [120]]] u) ∧ Hid (SpsAt w2 (fun b => b < w1.heap.size) [txtS [97, 32], .mk 5 [] [] [] [txtS [98, 32], .mk 6 [] [] [] [txtS [99]]], txtS [32], .mk 7 [] [47, 117] [] [txtS [100]], .mk 3 [] [] [] [], txtS [101]] u1))
  case first =>
    go_wp2_with (first | (go_at_call 6; (with_reducible refine PC.out.mono ?_); rintro e w2 ⟨u, rfl, hu, k⟩))
    go_meet
    case rel => exact ⟨_, rfl, Lib.hid (K2.out.trans k), Lib.hid hu, Lib.hid (S2.out.keep (fun b h => by simp; omega) k)⟩
  case rest =>
  obtain ⟨w2, rfl, K3, U, S⟩ := hcut
  obtain ⟨gu, cu, ku, rfl, au, _⟩ := U.out.only
  obtain ⟨A, cap, ev, _, _, hg⟩ := S.out.slice
  obtain ⟨g, rfl⟩ := hg (by decide)
  have ev2 : u1 = Value.slice (some ⟨g, 0, none⟩) 6 cap := ev
  subst ev2
  obtain ⟨k1, a1, s1⟩ := S.out.at (i := 1) rfl
  obtain ⟨k3, a3, _⟩ := S.out.at (i := 3) rfl
  obtain ⟨k4, a4, _⟩ := S.out.at (i := 4) rfl
  obtain ⟨k5, a5, _⟩ := S.out.at (i := 5) rfl
  obtain ⟨A1, c1, e1, _, _, hg1⟩ := s1.slice
  obtain ⟨g1, rfl⟩ := hg1 (by decide)
  have e2 : k1 = Value.slice (some ⟨g1, 0, none⟩) 2 c1 := e1
  subst e2
  obtain ⟨k11, a11, _⟩ := s1.at (i := 1) rfl
  have x1 := a1.c0
  have x2 := a1.c4
  have x3 := a11.c0
  have x4 := a3.c0
  have x5 := a3.c2
  have x6 := a4.c0
  have x7 := a5.c1
  have y1 := au.c0
  have y2 := au.c2
  have y3 := au.c3
  simp only [Nat.reduceMul, Nat.reduceAdd] at x1 x2 x3 x4 x5 x6 x7 y1 y2 y3
  clear a1 a3 a4 a5 a11 au s1 hg hg1 ev e1 S U S2 K2 PC
  go_wp2_with fail
  go_ret
  exact ⟨rfl, K3.out⟩
end Go.Proofs.YtklmgbkkjmfhcaaGreatDoor


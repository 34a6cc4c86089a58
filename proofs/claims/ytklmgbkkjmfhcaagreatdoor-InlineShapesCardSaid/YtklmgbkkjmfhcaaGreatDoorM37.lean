/-
  Texts of the proof, one behind the other: Ip9.
-/
import Derived.Test.YtklmgbkkjmfhcaaGreatDoorM34
import Derived.Test.YtklmgbkkjmfhcaaGreatDoorM7
import Derived.Test.YtklmgbkkjmfhcaaGreatDoorM9
/-
  Contract of takeRun.
-/
namespace Go.Proofs.YtklmgbkkjmfhcaaGreatDoor
open Go.RowKit Go.Lib

theorem flank_two (s : List UInt8) (a b : Nat) (c : UInt8) (hc : c = 42 ∨ c = 95) (w : World) :
    Calls Tryz.prog 37 #[.int .i32 (befL s (a : Nat)), .int .i32 (aftL s (b : Nat)), .int .u8 (c.toNat : Nat)] w fun e w' => e = .returned (.tuple #[.bool (opB s a b c), .bool (clB s a b c)]) ∧ w = w' := by
  rcases hc with rfl | rfl
  · exact flank_star _ _ w
  · exact flank_under _ _ w
section
variable {W : World} {B : Nat} {O : Nat → Option Nat} {s : ByteArray} {rs : List Rf} {p : Ps} {bv rv : Value} {fi : Nat} {pm tm em : Value} {L : List (Pc × Value)} {Al : Option Addr} {cl : Nat}
set_option linter.unusedSimpArgs false in
set_option maxRecDepth 100000 in
set_option maxHeartbeats 8000000 in
theorem takeRun_mem (h : MemI W B O s rs p (.slice Al L.length cl) bv rv fi pm tm em L) (hp : p.pos < s.size) (c : UInt8) (hc : s[p.pos] = c) (hc2 : c = 42 ∨ c = 95) :
    Calls Tryz.prog 16 #[.pointer (some ⟨B, 0, none⟩)] W fun e w' => e = .returned (.tuple #[]) ∧ PostI W B O s rs (runM s.data.toList p c) w' := by
  have hsiz := h.siz
  have hlen : L.length ≤ p.pos := by have := h.wf.len; rw [← h.eq, List.length_map] at this; exact this
  have hl := Lib.hid (bytes_len s)
  obtain ⟨N, hN⟩ : ∃ N, cntP (isC c) (s.data.toList.drop p.pos) = N := ⟨_, rfl⟩
  have hd : s.data.toList.drop p.pos = s[p.pos] :: s.data.toList.drop (p.pos + 1) := List.drop_eq_getElem_cons (by rw [bytes_len]; exact hp)
  have hN1 : cntP (isC c) (s.data.toList.drop (p.pos + 1)) + 1 = N := by
    rw [← hN, hd, cntP_yes _ (by rw [hc]; exact decide_eq_true rfl)]
  have hNl : p.pos + N ≤ s.size := by
    have := cntP_le (isC c) (s.data.toList.drop p.pos)
    rw [hN, List.length_drop, bytes_len] at this
    omega
  have b0 := (h.box.keep (Keeps.refl _).drew).cell 0 (v := .string s) rfl
  have b1 := (h.box.keep (Keeps.refl _).drew).cell 1 (v := .int .i64 p.pos) rfl
  have a0 := h.box.cell 0 (v := .string s) rfl
  have a1 := h.box.cell 1 (v := .int .i64 p.pos) rfl
  have hcn : (s[p.pos].toNat : Nat) = c.toNat := by rw [hc]
  go_enter Tryz.func16, Tryz.ntmps16
  go_upto_block 0 with fail
  go_region
  go_upto_block 0 with fail
  have HN1 : Hid (∀ k, p.pos + 1 ≤ k → k ≤ s.size → k - p.pos + cntP (isC c) (s.data.toList.drop k) = N → ∀ h : k < s.size, (s[k] = c → k + 1 - p.pos + cntP (isC c) (s.data.toList.drop (k + 1)) = N) ∧ (s[k] ≠ c → k = p.pos + N)) := Lib.hid (fun k h1 h2 h3 h4 => by
    have hdk : s.data.toList.drop k = s[k] :: s.data.toList.drop (k + 1) := List.drop_eq_getElem_cons (by rw [bytes_len]; exact h4)
    refine ⟨fun e => ?_, fun e => ?_⟩
    · rw [hdk, cntP_yes _ (by rw [e]; exact decide_eq_true rfl)] at h3
      omega
    · rw [hdk, cntP_no _ (decide_eq_false e)] at h3
      omega)
  have HN2 : Hid (∀ k, p.pos + 1 ≤ k → k - p.pos + cntP (isC c) (s.data.toList.drop k) = N → s.size ≤ k → k = p.pos + N) := Lib.hid (fun k h1 h3 h4 => by
    rw [List.drop_eq_nil_of_le (by rw [bytes_len]; exact h4)] at h3
    have : cntP (isC c) [] = 0 := rfl
    omega)
  have HH := Lib.hid h
  have HE := Lib.hid (show p.pos + 1 - p.pos + cntP (isC c) (s.data.toList.drop (p.pos + 1)) = N by omega)
  obtain ⟨E, hE⟩ : ∃ E, p.pos + N = E := ⟨_, rfl⟩
  have HEE := Lib.hid hE
  rw [hE] at HN1 HN2 hNl
  have hx0 : ((s.data.toList.drop p.pos).take N) = ((s.extract p.pos E).data.toList) := by rw [Lib.extract_data, ← hE, show p.pos + N - p.pos = N by omega]
  obtain ⟨t, ht⟩ : ∃ t, (s.data.toList.drop p.pos).take N = t := ⟨_, rfl⟩
  have htl : t.length ≤ N := by rw [← ht]; exact List.length_take_le _ _
  obtain ⟨o, ho⟩ : ∃ o, opB s.data.toList p.pos E c = o := ⟨_, rfl⟩
  obtain ⟨b, hb⟩ : ∃ b, clB s.data.toList p.pos E c = b := ⟨_, rfl⟩
  have hrun : runM s.data.toList p c = p.put ⟨1, t, [], [], [], N, o, b, false⟩ N := by
    unfold runM
    rw [hN, hE, ht, ho, hb, ← hE]; rfl
  have BF := Lib.hid (fun w => before_any s (p.pos : Nat) w (by omega))
  have AF := Lib.hid (fun w => after_any s (E : Nat) w (by omega))
  have FK := Lib.hid (fun w => flank_two s.data.toList p.pos E c hc2 w)
  rw [ho, hb] at FK
  have hext : (⟨t.toArray⟩ : ByteArray) = s.extract p.pos E := bytes_eq (by rw [← hx0, ht])
  have TT := Lib.hid (fun w => textOf_any (s.extract p.pos E) w)
  have HM : Hid (∀ w1 : World, Keeps W w1 → ∃ A8 c8 w8, (Builtin.append_ #[33, 33] 33 #[.slice Al L.length cl, .slice (some ⟨w1.heap.size, 0, none⟩) 1 1]).run Tryz.prog (w1.alloc (.cells #[.int .i64 1, .string (s.extract p.pos E), .string ⟨#[]⟩, .string ⟨#[]⟩, .slice none 0 0, .int .i64 N, .bool o, .bool b, .bool false] 42)) = .ok (.slice A8 (L.length + 1) c8) w8 ∧
      Hid (PostI W B O s rs (runM s.data.toList p c) ((w8.setCell ⟨B, 2, none⟩ (.slice A8 (L.length + 1) c8)).setCell ⟨B, 1, none⟩ (.int .i64 E))) ∧
      Blk w8 B 38 (boxI s p (.slice Al L.length cl) bv rv fi pm tm em)) := Lib.hid (fun w1 k => by
    obtain ⟨A8, c8, w8, ra, o8, g8, l8, B8⟩ := (h.keep k).made ⟨1, t, [], [], [], N, o, b, false⟩ none 0 0 (by omega)
    refine ⟨A8, c8, w8, (by rw [← hext]; exact ra), Lib.hid ?_, B8⟩
    have wfr : WfI s.data.toList (p.put ⟨1, t, [], [], [], N, o, b, false⟩ N) := h.wf.more rfl (by omega) htl (by rw [bytes_len, hE]; exact hNl)
    have B9 := B8.set 2 (.slice A8 (L.length + 1) c8) rfl
    have BA := B9.set 1 (.int .i64 (E : Nat)) rfl
    rw [hrun]
    obtain ⟨O1, m1, q1⟩ := (h.keep k).app (W' := (w8.setCell ⟨B, 2, none⟩ (.slice A8 (L.length + 1) c8)).setCell ⟨B, 1, none⟩ (.int .i64 (E : Nat))) (x := ⟨1, t, [], [], [], N, o, b, false⟩) (kv := .slice none 0 0) (p' := p.put ⟨1, t, [], [], [], N, o, b, false⟩ N) o8 g8 l8
      (fun b hb => by rw [heap_setCell_other _ ⟨B, 1, none⟩ b _ hb, heap_setCell_other _ ⟨B, 2, none⟩ b _ hb]) (by rw [setCell_size, setCell_size]) rfl rfl rfl (SpsAt.nil _ _) rfl rfl (by show fi + p.br.length ≤ p.pos + N; have := h.fin; omega)
      wfr.core (by show N ≤ 1000000; omega) (by rw [show boxI s (p.put ⟨1, t, [], [], [], N, o, b, false⟩ N) (.slice A8 (L.length + 1) c8) bv rv fi pm tm em = boxI s { p with pos := E } (.slice A8 (L.length + 1) c8) bv rv fi pm tm em by rw [← hE]; rfl]; exact BA)
    exact PostI.from k ⟨O1, ⟨wfr, _, _, _, _, _, _, _, _, m1⟩, q1⟩)
  have NS : ∀ W', Keeps W W' → Keeps W W' ∧ W'.cell? ⟨B, 0, none⟩ = some (.string s) ∧ W'.cell? ⟨B, 1, none⟩ = some (.int .i64 p.pos) := fun W' q => ⟨q, (h.box.keep q).cell 0 rfl, (h.box.keep q).cell 1 rfl⟩
  have HB := Lib.hid h.box
  have hw : IntKind.i64.wrap ((E : Int) - (p.pos : Int)) = (N : Int) := by rw [IntWalk.i64_in _ (by omega)]; omega
  have hs1 : (p.pos : Int) ≤ (E : Int) := by omega
  have hs2 : (E : Int) ≤ (s.size : Int) := by omega
  have hs3 : (0 : Int) ≤ (p.pos : Int) := by omega
  clear h hd hN hN1 hE hx0 ht htl ho hb hrun hext hNl
  go_cut [2, 3] (fun sg i wx => sg = .int .u8 (c.toNat : Nat) ∧ i = .int .i64 (E : Nat) ∧ wx = W.drew)
  case first =>
    go_wp2_with fail
    go_loop [3] (fun i => ∃ k : Nat, p.pos + 1 ≤ k ∧ k ≤ s.size ∧ Hid (k - p.pos + cntP (isC c) (s.data.toList.drop k) = N) ∧ i = .int .i64 k) (fun i => s.size - (RowKit.intOf i).toNat)
    case atStart => exact ⟨p.pos + 1, Nat.le_refl _, hp, HE, by go_num⟩
    case round =>
      obtain ⟨k, hk1, hk, HC, rfl⟩ := hrel
      by_cases hks : k < s.size
      · by_cases e : s[k] = c
        · have t1 : (s[k].toNat == c.toNat) = true := by rw [e]; simp
          have t2 : ((s[k].toNat : Int) == (c.toNat : Int)) = true := by rw [e]; simp
          have HN := Lib.hid ((HN1.out k hk1 hk HC.out hks).1 e)
          go_wp2_with fail
          go_round
          case rel => exact ⟨k + 1, by omega, hks, HN, by go_num⟩
          case measure => simp [RowKit.intOf]; omega
        · have hne : s[k].toNat ≠ c.toNat := fun x => e (UInt8.toNat_inj.1 x)
          have t1 : (s[k].toNat == c.toNat) = false := beq_eq_false_iff_ne.2 hne
          have t2 : ((s[k].toNat : Int) == (c.toNat : Int)) = false := beq_eq_false_iff_ne.2 (by omega)
          have HN := Lib.hid ((HN1.out k hk1 hk HC.out hks).2 e)
          clear hne
          go_wp2_with fail
          go_meet
          case rel => exact ⟨rfl, by rw [HN.out], rfl⟩
      · have HN := Lib.hid (HN2.out k hk1 HC.out (by omega))
        go_wp2_with fail
        go_meet
        case rel => exact ⟨rfl, by rw [HN.out], rfl⟩
  case rest =>
    obtain ⟨rfl, rfl, rfl⟩ := hcut
    clear HN1 HN2 HE b0 b1 a0 a1
    go_wp2_with fail
    go_region_held3 (fun w' => Keeps W w' ∧ w'.cell? ⟨B, 0, none⟩ = some (.string s) ∧ w'.cell? ⟨B, 1, none⟩ = some (.int .i64 p.pos))
      (first | (with_reducible assumption) | (with_reducible exact NS _ ((Keeps.refl _).drew.trans (Keeps.refl _).drew)) | (with_reducible exact NS _ (Keeps.trans (And.left (by with_reducible assumption)) k1)))
      (first | (go_at_call 38; go_loud ((with_reducible refine (BF.out _).mono ?_)); rintro e w1 ⟨rfl, k1⟩) | (go_at_call 39; go_loud ((with_reducible refine (AF.out _).mono ?_)); rintro e w1 ⟨rfl, k1⟩) | (go_at_call 37; go_loud ((with_reducible refine (FK.out _).mono ?_)); rintro e w1 ⟨rfl, rfl⟩))
    rename_i hHeld
    obtain ⟨KW, _, _⟩ := hHeld
    have KD := KW.trans (Keeps.refl _).drew
    go_wp2_with fail
    have SB : ∀ w', Keeps W w' → w'.cell? ⟨B, 0, none⟩ = some (.string s) ∧ w'.cell? ⟨B, 1, none⟩ = some (.int .i64 p.pos) ∧ w'.cell? ⟨B, 2, none⟩ = some (.slice Al L.length cl) := fun w' q => ⟨(HB.out.keep q).cell 0 rfl, (HB.out.keep q).cell 1 rfl, (HB.out.keep q).cell 2 rfl⟩
    refine region_headed (S := fun w' => w'.cell? ⟨B, 0, none⟩ = some (.string s) ∧ w'.cell? ⟨B, 1, none⟩ = some (.int .i64 p.pos) ∧ w'.cell? ⟨B, 2, none⟩ = some (.slice Al L.length cl)) (n := 29) (by kernel_rfl) rfl (by kernel_rfl) ?_ (fun hHeld0 => ?_)
    · exact SB _ KD
    refine headed_take (i := 0) (v := ?_) rfl (by kernel_rfl) (fun _ _ _ h => h) (Or.inl ⟨by rfl, ?_⟩) hHeld0 ?_
    rotate_left
    · intro w hSw; (try dsimp only at hSw); go_simp; (try with_reducible rfl)
    (try simp only [Act.put, List.setIfInBounds_toArray, List.set_cons_zero, List.set_cons_succ])
    refine headed_take (i := 1) (v := ?_) rfl (by kernel_rfl) (fun _ _ _ h => h) (Or.inl ⟨by rfl, ?_⟩) hHeld0 ?_
    rotate_left
    · intro w hSw; (try dsimp only at hSw); go_simp; (try with_reducible rfl)
    (try simp only [Act.put, List.setIfInBounds_toArray, List.set_cons_zero, List.set_cons_succ])
    refine headed_take (i := 2) (v := ?_) rfl (by kernel_rfl) (fun _ _ _ h => h) (Or.inl ⟨by rfl, ?_⟩) hHeld0 ?_
    rotate_left
    · intro w hSw; (try dsimp only at hSw); go_simp; (try with_reducible rfl)
    (try simp only [Act.put, List.setIfInBounds_toArray, List.set_cons_zero, List.set_cons_succ])
    refine headed_take (i := 3) (v := ?_) rfl (by kernel_rfl) (fun _ _ _ h => h) (Or.inl ⟨by rfl, ?_⟩) hHeld0 ?_
    rotate_left
    · intro w hSw; (try dsimp only at hSw); go_simp; (try with_reducible rfl)
    (try simp only [Act.put, List.setIfInBounds_toArray, List.set_cons_zero, List.set_cons_succ])
    refine headed_take (i := 4) (v := ?_) rfl (by kernel_rfl) (fun _ _ _ h => h) (Or.inl ⟨by rfl, ?_⟩) hHeld0 ?_
    rotate_left
    · intro w hSw; (try dsimp only at hSw); go_simp; (try with_reducible rfl)
    (try simp only [Act.put, List.setIfInBounds_toArray, List.set_cons_zero, List.set_cons_succ])
    refine headed_take (i := 5) (v := ?_) rfl (by kernel_rfl) (fun _ _ _ h => h) (Or.inl ⟨by rfl, ?_⟩) hHeld0 ?_
    rotate_left
    · intro w hSw; (try dsimp only at hSw); go_simp; (try with_reducible rfl)
    (try simp only [Act.put, List.setIfInBounds_toArray, List.set_cons_zero, List.set_cons_succ])
    refine headed_take (i := 6) (v := ?_) rfl (by kernel_rfl) (fun _ _ _ h => h) (Or.inl ⟨by rfl, ?_⟩) hHeld0 ?_
    rotate_left
    · intro w hSw; (try dsimp only at hSw); go_simp; (try with_reducible rfl)
    (try simp only [Act.put, List.setIfInBounds_toArray, List.set_cons_zero, List.set_cons_succ])
    refine headed_take (i := 7) (v := ?_) rfl (by kernel_rfl) (fun _ _ _ h => h) (Or.inl ⟨by rfl, ?_⟩) hHeld0 ?_
    rotate_left
    · intro w hSw; (try dsimp only at hSw); go_simp; (try with_reducible rfl)
    (try simp only [Act.put, List.setIfInBounds_toArray, List.set_cons_zero, List.set_cons_succ])
    refine headed_take (i := 8) (v := ?_) rfl (by kernel_rfl) (fun _ _ _ h => h) (Or.inl ⟨by rfl, ?_⟩) hHeld0 ?_
    rotate_left
    · intro w hSw; (try dsimp only at hSw); go_simp; (try with_reducible rfl)
    (try simp only [Act.put, List.setIfInBounds_toArray, List.set_cons_zero, List.set_cons_succ])
    refine headed_take (i := 9) (v := ?_) rfl (by kernel_rfl) (fun _ _ _ h => h) (Or.inl ⟨by rfl, ?_⟩) hHeld0 ?_
    rotate_left
    · intro w hSw; (try dsimp only at hSw); go_simp; (try with_reducible rfl)
    (try simp only [Act.put, List.setIfInBounds_toArray, List.set_cons_zero, List.set_cons_succ])
    refine headed_take (i := 10) (v := ?_) rfl (by kernel_rfl) (fun _ _ _ h => h) (Or.inl ⟨by rfl, ?_⟩) hHeld0 ?_
    rotate_left
    · intro w hSw; (try dsimp only at hSw); go_simp; (try with_reducible rfl)
    (try simp only [Act.put, List.setIfInBounds_toArray, List.set_cons_zero, List.set_cons_succ])
    refine headed_take (i := 11) (v := ?_) rfl (by kernel_rfl) (fun _ _ _ h => h) (Or.inl ⟨by rfl, ?_⟩) hHeld0 ?_
    rotate_left
    · intro w hSw; (try dsimp only at hSw); go_simp; (try with_reducible rfl)
    (try simp only [Act.put, List.setIfInBounds_toArray, List.set_cons_zero, List.set_cons_succ])
    refine headed_take (i := 12) (v := ?_) rfl (by kernel_rfl) (fun _ _ _ h => h) (Or.inl ⟨by rfl, ?_⟩) hHeld0 ?_
    rotate_left
    · intro w hSw; (try dsimp only at hSw); go_simp; (try with_reducible rfl)
    (try simp only [Act.put, List.setIfInBounds_toArray, List.set_cons_zero, List.set_cons_succ])
    refine headed_take (i := 13) (v := ?_) rfl (by kernel_rfl) (fun _ _ _ h => h) (Or.inl ⟨by rfl, ?_⟩) hHeld0 ?_
    rotate_left
    · intro w hSw; (try dsimp only at hSw); go_simp; (try with_reducible rfl)
    (try simp only [Act.put, List.setIfInBounds_toArray, List.set_cons_zero, List.set_cons_succ])
    refine headed_take (i := 14) (v := ?_) rfl (by kernel_rfl) (fun _ _ _ h => h) (Or.inl ⟨by rfl, ?_⟩) hHeld0 ?_
    rotate_left
    · intro w hSw; (try dsimp only at hSw); go_simp; (try with_reducible rfl)
    (try simp only [Act.put, List.setIfInBounds_toArray, List.set_cons_zero, List.set_cons_succ])
    refine headed_take (i := 16) (v := ?_) rfl (by kernel_rfl) (fun _ _ _ h => h) (Or.inl ⟨by rfl, ?_⟩) hHeld0 ?_
    rotate_left
    · intro w hSw; (try dsimp only at hSw); go_simp; (try with_reducible rfl)
    (try simp only [Act.put, List.setIfInBounds_toArray, List.set_cons_zero, List.set_cons_succ])
    refine headed_take (i := 17) (v := ?_) rfl (by kernel_rfl) (fun _ _ _ h => h) (Or.inl ⟨by rfl, ?_⟩) hHeld0 ?_
    rotate_left
    · intro w hSw; (try dsimp only at hSw); go_simp; (try with_reducible rfl)
    (try simp only [Act.put, List.setIfInBounds_toArray, List.set_cons_zero, List.set_cons_succ])
    refine headed_take (i := 18) (v := ?_) rfl (by kernel_rfl) (fun _ _ _ h => h) (Or.inl ⟨by rfl, ?_⟩) hHeld0 ?_
    rotate_left
    · intro w hSw; (try dsimp only at hSw); go_simp; (try with_reducible rfl)
    (try simp only [Act.put, List.setIfInBounds_toArray, List.set_cons_zero, List.set_cons_succ])
    refine headed_take (i := 19) (v := ?_) rfl (by kernel_rfl) (fun _ _ _ h => h) (Or.inl ⟨by rfl, ?_⟩) hHeld0 ?_
    rotate_left
    · intro w hSw; (try dsimp only at hSw); go_simp; (try with_reducible rfl)
    (try simp only [Act.put, List.setIfInBounds_toArray, List.set_cons_zero, List.set_cons_succ])
    refine headed_take (i := 20) (v := ?_) rfl (by kernel_rfl) (fun _ _ _ h => h) (Or.inl ⟨by rfl, ?_⟩) hHeld0 ?_
    rotate_left
    · intro w hSw; (try dsimp only at hSw); go_simp; (try with_reducible rfl)
    (try simp only [Act.put, List.setIfInBounds_toArray, List.set_cons_zero, List.set_cons_succ])
    refine headed_take (i := 21) (v := ?_) rfl (by kernel_rfl) (fun _ _ _ h => h) (Or.inl ⟨by rfl, ?_⟩) hHeld0 ?_
    rotate_left
    · intro w hSw; (try dsimp only at hSw); go_simp; (try with_reducible rfl)
    (try simp only [Act.put, List.setIfInBounds_toArray, List.set_cons_zero, List.set_cons_succ])
    refine headed_take (i := 22) (v := ?_) rfl (by kernel_rfl) (fun _ _ _ h => h) (Or.inl ⟨by rfl, ?_⟩) hHeld0 ?_
    rotate_left
    · intro w hSw; (try dsimp only at hSw); go_simp; (try with_reducible rfl)
    (try simp only [Act.put, List.setIfInBounds_toArray, List.set_cons_zero, List.set_cons_succ])
    refine headed_take (i := 23) (v := ?_) rfl (by kernel_rfl) (fun _ _ _ h => h) (Or.inl ⟨by rfl, ?_⟩) hHeld0 ?_
    rotate_left
    · intro w hSw; (try dsimp only at hSw); go_simp; (try with_reducible rfl)
    (try simp only [Act.put, List.setIfInBounds_toArray, List.set_cons_zero, List.set_cons_succ])
    refine headed_one (i := 15) rfl (by kernel_rfl) (by kernel_rfl) (fun K hK => ?_)
    go_simp
    go_at_call 20
    (with_reducible refine (TT.out _).mono ?_)
    rintro e w2 ⟨rfl, k2⟩
    have K2 := KD.trans k2
    obtain ⟨A8, c8, w8, ra, FIN, B8⟩ := HM.out w2 K2
    refine hK.out _ _ (SB _ K2) (fun hHeld1 => ?_)
    clear hK K
    (try simp only [Act.put, List.setIfInBounds_toArray, List.set_cons_zero, List.set_cons_succ])
    refine headed_take (i := 24) (v := ?_) rfl (by kernel_rfl) (fun _ _ _ h => h) (Or.inl ⟨by rfl, ?_⟩) hHeld1 ?_
    rotate_left
    · intro w hSw; (try dsimp only at hSw); go_simp; (try with_reducible rfl)
    (try simp only [Act.put, List.setIfInBounds_toArray, List.set_cons_zero, List.set_cons_succ])
    refine headed_one (i := 25) rfl (by kernel_rfl) (by kernel_rfl) (fun K hK => ?_)
    go_simp
    refine hK.out _ _ (SB _ (K2.trans ((Keeps.refl w2).alloc _))) (fun hHeld2 => ?_)
    clear hK K
    (try simp only [Act.put, List.setIfInBounds_toArray, List.set_cons_zero, List.set_cons_succ])
    refine headed_one (i := 26) rfl (by kernel_rfl) (by kernel_rfl) (fun K hK => ?_)
    refine step_append_run' rfl (.tmp 63) (.tmp 84) _ _ rfl _ _ (by simp [Act.eval]) (by simp [Act.eval]) _ _ ra ?_
    refine hK.out _ _ (⟨B8.cell 0 rfl, B8.cell 1 rfl, B8.cell 2 rfl⟩) (fun hHeld3 => ?_)
    clear hK K
    (try simp only [Act.put, List.setIfInBounds_toArray, List.set_cons_zero, List.set_cons_succ])
    refine headed_take (i := 27) (v := ?_) rfl (by kernel_rfl) (fun _ _ _ h => h) (Or.inl ⟨by rfl, ?_⟩) hHeld3 ?_
    rotate_left
    · intro w hSw; (try dsimp only at hSw); go_simp; (try with_reducible rfl)
    (try simp only [Act.put, List.setIfInBounds_toArray, List.set_cons_zero, List.set_cons_succ])
    refine headed_take (i := 28) (v := ?_) rfl (by kernel_rfl) (fun _ _ _ h => h) (Or.inl ⟨by rfl, ?_⟩) hHeld3 ?_
    rotate_left
    · intro w hSw; (try dsimp only at hSw); go_simp; (try with_reducible rfl)
    (try simp only [Act.put, List.setIfInBounds_toArray, List.set_cons_zero, List.set_cons_succ])
    refine headed_last (by kernel_rfl) ?_
    have y2 := B8.cell 2 (v := .slice Al L.length cl) rfl
    have yf := B8.free 2
    have B9 := B8.set 2 (.slice A8 (L.length + 1) c8) rfl
    have y1 := B9.cell 1 (v := .int .i64 p.pos) rfl
    have yg := B9.free 1
    go_wp2_with fail
    go_end0
    exact ⟨rfl, FIN.out⟩
end
end Go.Proofs.YtklmgbkkjmfhcaaGreatDoor


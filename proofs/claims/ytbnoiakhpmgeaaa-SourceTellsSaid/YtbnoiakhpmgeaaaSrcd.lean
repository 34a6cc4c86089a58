/-
  The document's Clean gives what Clean gives.
-/
import Derived.Test.YtbnoiakhpmgeaaaSrcc
namespace Go.Proofs.Ytbnoiakhpmgeaaa
open Go.RowKit Go.Lib

theorem iter_alloc {w : World} {k : Nat} {o x : Obj} (h : w.heap[k]? = some x) : (w.alloc o).heap[k]? = some x := (Lib.alloc_old w o k (iter_lt h)).trans h

set_option maxHeartbeats 1000000 in
theorem rclean_any (s : ByteArray) (w : World) (hs : s.size ≤ 100000) :
    Calls Try.prog 10 #[.string s] w fun e w' => e = .returned (.string ⟨(cleanL s.data.toList).toArray⟩) ∧ Keeps w w' := by
  have hl := Lib.hid (bytes_len s)
  go_enter Try.func10, Try.ntmps10
  go_wp2_with fail
  go_loopw [3] (fun o wr => ∃ (pos : Nat) (acc : ByteArray), pos ≤ s.size ∧ Hid (wr.heap[w.heap.size]? = some (.stringIter s pos)) ∧ Hid (Keeps w wr) ∧ Hid (acc.data.toList ++ cleanL (s.data.toList.drop pos) = cleanL s.data.toList) ∧ acc.size ≤ 4 * pos ∧ o = .string acc) (fun _ wr => s.size - wr.iterPos w.heap.size)
  case atStart => exact ⟨0, ⟨#[]⟩, Nat.zero_le _, Lib.hid (World.iter_heap w s 0), Lib.hid ((Keeps.refl w).iter s 0), Lib.hid rfl, by simp [ByteArray.size], rfl⟩
  case round =>
    obtain ⟨pos, acc, hp, HI, HK, HA, hal, rfl⟩ := hrel
    by_cases c : pos < s.size
    · obtain ⟨r, n, hst, hnx⟩ := next_at (P := Try.prog) HI.out c
      have h0 := hst.low
      have h1 := hst.high
      have hn1 := hst.one
      have hroom : pos + n ≤ s.size := by have := hst.room; have := hl.out; omega
      have HI2 := Lib.hid (iterAt_heap wr w.heap.size s pos (pos + n) HI.out)
      have HK2 := Lib.hid (HK.out.iterAt (Nat.le_refl _) s (pos + n))
      have HN := Lib.hid (clean_next hst HA.out)
      have HS := Lib.hid hst
      have P1 := Lib.hid (pos_at HI.out)
      clear hst
      by_cases c0 : r = 0
      · have HP0 := Lib.hid (piece_zero HS.out c0)
        subst c0
        go_wp2_with fail
        go_roundw
        case rel => exact ⟨pos + n, acc ++ ⟨#[239, 191, 189]⟩, hroom, HI2, HK2, by have e := HN.out; rw [HP0.out, enc_lost] at e; exact Lib.hid (by simpa using e), by rw [ByteArray.size_append]; show _ + 3 ≤ _; omega, rfl⟩
        case measure => rw [P1.out, pos_at HI2.out]; omega
      · have t0 : (r == 0) = false := beq_eq_false_iff_ne.2 c0
        by_cases c1 : r = 13
        · obtain ⟨hn, hpc⟩ := piece_cr HS.out c1
          subst c1
          subst hn
          by_cases cp : pos + 1 < s.size
          · have hpl := pre_lf s (pos + 1) cp
            by_cases cb : s[pos + 1].toNat = 10
            · have tb : ((s[pos + 1].toNat : Int) == 10) = true := beq_iff_eq.2 (by omega)
              rw [if_pos (by rw [hpl, decide_eq_true cb])] at hpc
              have HPC := Lib.hid hpc
              clear hpc hpl cb
              go_wp2_with fail
              go_roundw
              case rel => exact ⟨pos + 1, acc, hroom, HI2, HK2, by have e := HN.out; rw [HPC.out, List.append_nil] at e; exact Lib.hid e, by omega, rfl⟩
              case measure => rw [P1.out, pos_at HI2.out]; omega
            · have tb : ((s[pos + 1].toNat : Int) == 10) = false := beq_eq_false_iff_ne.2 (by omega)
              rw [if_neg (by rw [hpl, decide_eq_false cb]; exact Bool.false_ne_true)] at hpc
              have HPC := Lib.hid hpc
              clear hpc hpl cb
              go_wp2_with fail
              go_roundw
              case rel => exact ⟨pos + 1, acc ++ ⟨#[10]⟩, hroom, HI2, HK2, by have e := HN.out; rw [HPC.out] at e; exact Lib.hid (by simpa using e), by rw [ByteArray.size_append]; show _ + 1 ≤ _; omega, rfl⟩
              case measure => rw [P1.out, pos_at HI2.out]; omega
          · rw [if_neg (by rw [pre_end s (pos + 1) cp]; exact Bool.false_ne_true)] at hpc
            have HPC := Lib.hid hpc
            clear hpc
            go_wp2_with fail
            go_roundw
            case rel => exact ⟨pos + 1, acc ++ ⟨#[10]⟩, hroom, HI2, HK2, by have e := HN.out; rw [HPC.out] at e; exact Lib.hid (by simpa using e), by rw [ByteArray.size_append]; show _ + 1 ≤ _; omega, rfl⟩
            case measure => rw [P1.out, pos_at HI2.out]; omega
        · have t1 : (r == 13) = false := beq_eq_false_iff_ne.2 c1
          have hpo := piece_other HS.out c0 c1
          have HPC := Lib.hid hpo.1
          have kc := one_rune (wr.iterAt w.heap.size s (pos + n)) r hpo.2
          have he := enc_len r
          clear c0 c1 hpo
          have HI3 := Lib.hid (iter_alloc (o := .cells #[.int .i32 r] 21) HI2.out)
          have HK3 := Lib.hid (HK2.out.alloc (.cells #[.int .i32 r] 21))
          generalize encodeRune r = E at *
          go_wp2_with fail
          go_roundw
          case rel => exact ⟨pos + n, acc ++ ⟨E.toArray⟩, hroom, HI3, HK3, by have e := HN.out; rw [HPC.out] at e; exact Lib.hid (by simpa using e), by rw [ByteArray.size_append]; show _ + E.toArray.size ≤ _; simp; omega, rfl⟩
          case measure => rw [P1.out, pos_at HI3.out]; omega
    · have hit := HI.out
      have hnx : ∀ ty, (Instr.next (.pointer (some ⟨w.heap.size, 0, none⟩)) true ty).run Try.prog wr = _ := fun ty => run_next_end_at wr w.heap.size s pos ty hit c
      clear hit
      have HA2 : Hid (acc.data.toList = cleanL s.data.toList) := by
        have e := HA.out
        rw [List.drop_eq_nil_of_le (by have := hl.out; omega), cleanL_nil, List.append_nil] at e
        exact Lib.hid e
      go_wp2_with fail
      go_ret
      exact ⟨ret_bytes (bytes_eq (by rw [HA2.out])), HK.out⟩
end Go.Proofs.Ytbnoiakhpmgeaaa

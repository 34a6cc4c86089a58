/-
  SourceOnce returns true of any text.
-/
import Derived.Test.YtbnoiakhpmgeaaaSaw
namespace Go.Proofs.Ytbnoiakhpmgeaaa
open Go.RowKit Go.Lib

set_option maxHeartbeats 400000 in
theorem once_long (s : ByteArray) (w : World) (hs : s.size ≤ maxLen) (h : 3000 < s.size) :
    Calls Try.prog 4 #[.string s] w fun e w' => e = .returned (.bool true) ∧ Keeps w w' := by
  have AW := Lib.hid (awake_any w)
  unfold maxLen at hs
  go_enter Try.func4, Try.ntmps4
  go_wp2_with fail
  refine AW.out.mono ?_
  rintro e w2 ⟨rfl, k2⟩
  go_wp2_with fail
  go_ret
  exact ⟨rfl, k2⟩

/-- string([]rune(t)) of a text of runes is the text. -/
theorem there_back (W : World) (t : ByteArray) (rs : List Int) (h : t.data.toList = bytesR rs) (hr : ∀ r ∈ rs, okR r) (hs : t.size ≤ 100000) :
    ∃ c : Nat, ∃ o : Obj, (convert 9 28 (.string t)).run Try.prog W = .ok (.slice (some ⟨W.heap.size, 0, none⟩) rs.length c) (W.alloc o).drew ∧
      (convert 28 9 (.slice (some ⟨W.heap.size, 0, none⟩) rs.length c)).run Try.prog (W.alloc o).drew = .ok (.string t) (W.alloc o).drew := by
  have hrun := runes_of t rs h hr
  have hlen : rs.length ≤ 100000 := by have h1 := bytesR_len rs; rw [← h, bytes_len] at h1; omega
  have hsz : (Conv.runesFrom t t.size 0 #[]).size = rs.length := by rw [hrun]; simp
  have e1 := run_runes_of_string (P := Try.prog) W 9 28 21 t Try.underlying9 Try.underlying28 Try.underlying21 (by omega)
  rw [hsz] at e1
  refine ⟨_, _, e1, ?_⟩
  have e2 := run_convert_runes (P := Try.prog) (W.drew.alloc (.cells (Conv.runesFrom t t.size 0 #[] ++ Array.replicate (grownCap W rs.length 0 21 - rs.length) (.int .i32 0)) 21)) 28 9 21 ⟨W.heap.size, 0, none⟩ rs.length (grownCap W rs.length 0 21) rs (Nat.le_refl _) Try.underlying28 Try.underlying21 Try.underlying9 (fun j hj => by
    have hz := World.cell?_alloc_new (w := W.drew) (Conv.runesFrom t t.size 0 #[] ++ Array.replicate (grownCap W rs.length 0 21 - rs.length) (.int .i32 0)) 21 j
    rw [Addr.add_lit, Nat.zero_add]
    refine hz.trans ?_
    rw [hrun, Array.getElem?_append_left (by simpa using hj)]
    simp [hj, List.getD])
  rw [List.take_of_length_le (Nat.le_refl _), runesBytes_eq rs hr, ← h, bytes_mk] at e2
  exact e2

set_option maxHeartbeats 1000000 in
theorem once_short (s : ByteArray) (w : World) (h : s.size ≤ 3000) :
    Calls Try.prog 4 #[.string s] w fun e w' => e = .returned (.bool true) ∧ Keeps w w' := by
  have AW := Lib.hid (fun W => awake_any W)
  have C1 := Lib.hid (fun W => clean_any s W (by omega))
  have hlen := cleanL_len s.data.toList
  rw [bytes_len] at hlen
  obtain ⟨t, HT⟩ : ∃ t : ByteArray, Hid (t = ⟨(cleanL s.data.toList).toArray⟩) := ⟨_, rfl⟩
  have ht : t.data.toList = cleanL s.data.toList := by rw [HT.out]
  have hts : t.size ≤ 12000 := by rw [← bytes_len, ht]; omega
  have C2 := Lib.hid (fun W => clean_any t W (by omega))
  rw [ht, clean_clean, ← HT.out] at C2
  rw [← HT.out] at C1
  have hno : ∀ k (hk : k < t.size), t[k].toNat ≠ 0 ∧ t[k].toNat ≠ 13 := fun k hk => clean_none s.data.toList t[k] (by
    rw [← ht]
    exact List.getElem_mem (l := t.data.toList) (n := k) (by rw [bytes_len]; exact hk))
  have HNO := Lib.hid hno
  obtain ⟨rs, hrs, hgood⟩ := cleanL_good s.data.toList
  have HRB := Lib.hid (fun W => there_back W t rs (ht.trans hrs) (fun r hr => (hgood r hr).1) (by omega))
  clear hno hrs hgood ht hlen HT
  go_enter Try.func4, Try.ntmps4
  go_wp2_with fail
  refine (C1.out _).mono ?_
  rintro e w1 ⟨rfl, k1⟩
  have K1 := Lib.hid k1
  clear k1
  go_wp2_with fail
  go_loop [4] (fun i => ∃ k : Nat, k ≤ t.size ∧ i = .int .i64 k) (fun i => t.size - (RowKit.intOf i).toNat)
  case atStart => exact ⟨0, Nat.zero_le _, rfl⟩
  case round =>
    obtain ⟨k, hk, rfl⟩ := hrel
    by_cases c : k < t.size
    · obtain ⟨n0, n1⟩ := HNO.out k c
      have t0 : ((t[k].toNat : Int) == 0) = false := beq_eq_false_iff_ne.2 (by omega)
      have t1 : ((t[k].toNat : Int) == 13) = false := beq_eq_false_iff_ne.2 (by omega)
      clear n0 n1
      go_wp2_with fail
      go_round
      case rel => exact ⟨k + 1, c, by go_num⟩
      case measure => simp [RowKit.intOf]; omega
    · go_wp2_with fail
      refine (AW.out _).mono ?_
      rintro e w2 ⟨rfl, k2⟩
      have K2 := Lib.hid (K1.out.trans k2)
      clear k2
      go_wp2_with fail
      refine (C2.out _).mono ?_
      rintro e w3 ⟨rfl, k3⟩
      have K3 := Lib.hid (K2.out.trans k3)
      clear k3
      obtain ⟨cc, o, e1, e2⟩ := HRB.out w3
      go_wp2_with fail
      go_ret
      exact ⟨rfl, (K3.out.alloc o).drew⟩
theorem once_any (s : ByteArray) (w : World) (hs : s.size ≤ maxLen) :
    Calls Try.prog 4 #[.string s] w fun e w' => e = .returned (.bool true) ∧ Keeps w w' := by
  by_cases h : s.size ≤ 3000
  · exact once_short s w h
  · exact once_long s w hs (by omega)
end Go.Proofs.Ytbnoiakhpmgeaaa

/-
  Contracts of the package wrap: ends, Breaks.
-/
import Derived.Test.YtjkkinccehfmoaaWcl
namespace Go.Proofs.Ytjkkinccehfmoaa
open Go.RowKit Go.Lib Go.Maps

section
variable {w1 W : World} {B : Nat} {l : List It} {lv pv wv : Value} {wd : Int} {ws : List Wy} {first : Nat}
set_option maxRecDepth 100000 in
set_option maxHeartbeats 8000000 in
theorem ends_any (h : BrM w1 W B lv pv wd wv ws first) (hA : IsAt w1 l lv) (hl : l.length ≤ 1000) (hW : WsOk l wd ws (l.length + 1)) :
    Calls Try.prog 16 #[.pointer (some ⟨B, 0, none⟩)] W fun e w' => ∃ (v : Value) (es : List Nat) (ok : Bool), e = .returned (.tuple #[v, .bool ok]) ∧ NsAt w' es v ∧ BrkOk l wd es ok ∧ Keeps W w' := by
  obtain ⟨n0, n1⟩ := hW.len
  obtain ⟨g, cap, rfl, hc1, hc2, hcell⟩ := h.way n0
  unfold maxLen at hc2
  obtain ⟨A0, cp, rfl, _⟩ := hA
  have b0 := h.box.cell 0 (v := .slice A0 l.length cp) rfl
  have b3 := h.box.cell 3 (v := .slice (some ⟨g, 0, none⟩) ws.length cap) rfl
  obtain ⟨N, hN⟩ : ∃ N, ws.length = N + 1 := ⟨ws.length - 1, by omega⟩
  obtain ⟨w, hw⟩ : ∃ w, ws[N]? = some w := ⟨_, List.getElem?_eq_getElem (by omega)⟩
  have hw' : ws[ws.length - 1]? = some w := by rw [hN]; exact hw
  obtain ⟨y0, y1, y2⟩ := hcell N w hw
  have hle := hW.le N w hw
  obtain ⟨tot, hlnk, hch⟩ := hW.chain N w hw
  have htl := hch.few.1
  rw [List.length_reverse] at htl
  have HC := Lib.hid hcell
  have HWS := Lib.hid hW
  have HNO := Lib.hid (fun q : w.f ≠ l.length + 1 => BrkOk.no hW hw' q)
  have HYES := Lib.hid (fun (q : w.f = l.length + 1) (q2 : 0 < ws.length - 1) => BrkOk.yes hW hw' q q2 hch)
  have HLK := Lib.hid hlnk
  have HN := Lib.hid hN
  have HEAD := Lib.hid hW.head
  rw [hN] at hc1 b3
  obtain ⟨n, hn⟩ : ∃ n, l.length = n := ⟨_, rfl⟩
  rw [hn] at b0 hl hle HNO HYES n1
  obtain ⟨f, c, a⟩ := w
  have HW0 := Lib.hid hw
  simp only at y0 y1 y2 hle HNO HYES htl
  have hwr : IntKind.i64.wrap (((N + 1 : Nat) : Int) - 1) = (N : Int) := by rw [IntWalk.i64_in _ (by omega)]; omega
  have i0 : (0 : Int) ≤ (N : Int) := by omega
  have i1 : (N : Int) < ((N + 1 : Nat) : Int) := by omega
  have i2 : (N : Int) < (N : Int) + 1 := by omega
  have hf1000 : f ≤ 1001 := by omega
  clear h hW hw hw' hcell hlnk hch hn
  go_enter Try.func16, Try.ntmps16
  by_cases q : f = n + 1
  · have t1 : ((f : Int) - 1 == (n : Int)) = true := beqT (by omega)
    have HNP : Hid (0 < ws.length - 1) := Lib.hid (by
      have e1 := HN.out
      rcases Nat.eq_zero_or_pos N with z | z
      · exfalso
        subst z
        have e2 := HEAD.out
        rw [HW0.out] at e2
        injection e2 with e2
        injection e2 with e2
        omega
      · omega)
    go_wp2_with fail
    go_region
    go_wp2_with fail
    go_loopw [4, 5] (fun y u wr => ∃ (k : Nat) (dn rs : List Nat), k ≤ N ∧ y = .int .i64 k ∧ Hid (wr.ownsRow W.heap.size 3 1 u dn.length (nsR dn)) ∧ Hid (Lnk ws k rs) ∧ Hid (dn ++ rs = tot) ∧ Hid (Keeps W wr)) (fun y _ _ => (RowKit.intOf y).toNat)
    case atStart => exact ⟨N, [], tot, Nat.le_refl _, rfl, Lib.hid (World.ownsRow_nil _ _ _ _), HLK, Lib.hid rfl, Lib.hid (Keeps.refl _).drew⟩
    case round =>
      obtain ⟨k, dn, rs, hk, rfl, HR, HL, HT, HK⟩ := hrel
      obtain ⟨A, cap2, rfl, _, hm2⟩ := row_form HR.out
      have b3' := HK.out.cell2 b3
      have j0 : (0 : Int) ≤ (k : Int) := by omega
      have j1 : (k : Int) < ((N + 1 : Nat) : Int) := by omega
      have j2 : (k : Int) < (N : Int) + 1 := by omega
      cases HL.out with
      | zero =>
        obtain ⟨z0, z1, z2⟩ := HC.out 0 _ HEAD.out
        have z0' : W.cell? ⟨g, 0, none⟩ = some (.int .i64 (-1)) := by simpa using z0
        have z0'' := HK.out.cell2 z0'
        have hdn : dn = tot := by have := HT.out; rwa [List.append_nil] at this
        have RV := Lib.hid (ns_reversed HR.out HK.out (by rw [hdn]; omega))
        have HB : Hid (BrkOk l wd dn.reverse true) := Lib.hid (by rw [hdn]; exact HYES.out q HNP.out)
        clear z0 z1 z2 z0' hdn
        go_wp2_with fail
        refine RV.out.mono ?_
        rintro e w5 ⟨rfl, hv, k5⟩
        go_wp2_with fail
        go_ret2
        exact ⟨_, dn.reverse, true, rfl, hv, HB.out, k5⟩
      | @step _ a' w' rs' e1 e2 e3 e4 e5 e6 =>
        obtain ⟨z0, z1, z2⟩ := HC.out k w' e1
        obtain ⟨x, hx⟩ : ∃ x, w'.f = x + 1 := ⟨w'.f - 1, by omega⟩
        have ez : ((w'.f : Nat) : Int) - 1 = (x : Int) := by omega
        have ex : w'.f - 1 = x := by omega
        rw [ez] at z0
        rw [e3] at z2
        rw [ex] at HL HT
        have hdl : dn.length ≤ 1001 := by
          have := congrArg List.length HT.out
          rw [List.length_append] at this
          omega
        obtain ⟨A8, c8, w8, ra, o8, k8⟩ := ns_made HR.out HK.out x (by omega)
        have O8 := Lib.hid o8
        have K8 := Lib.hid k8
        have z0' := HK.out.cell2 z0
        have b3'' := k8.cell2 b3
        have z2'' := k8.cell2 z2
        have HT2 : Hid ((dn ++ [x]) ++ rs' = tot) := Lib.hid (by rw [List.append_assoc]; exact HT.out)
        have E6 := Lib.hid e6
        have x0 : decide ((0 : Int) ≤ (x : Int)) = true := decide_eq_true (by omega)
        clear z0 z1 z2 ez ex hx o8 k8 e6 e1 e3 HL HT
        go_wp2_with (at_builtin; refine wpList_append_run rfl (.tmp 43) (.tmp 52) _ _ rfl _ _ (by rfl) (by rfl) _ _ ra ?_)
        go_roundw
        case rel => exact ⟨a', dn ++ [x], rs', by omega, rfl, O8, E6, HT2, K8⟩
        case measure => simp only [RowKit.intOf]; omega
  · have t1 : ((f : Int) - 1 == (n : Int)) = false := beqF (by omega)
    go_wp2_with fail
    go_region
    go_wp2_with fail
    go_ret2
    exact ⟨_, [], false, rfl, NsAt.nil _, HNO.out q, (Keeps.refl _).drew⟩
end
end Go.Proofs.Ytjkkinccehfmoaa

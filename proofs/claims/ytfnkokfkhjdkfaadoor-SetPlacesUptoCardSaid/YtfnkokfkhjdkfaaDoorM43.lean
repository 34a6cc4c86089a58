/-
  Texts of the proof, one behind the other: Spu.
-/
import Derived.Test.YtfnkokfkhjdkfaaDoorM41
/-
  The walk of SetPlaces over numbers as the row reads them.
-/
namespace Go.Proofs.YtfnkokfkhjdkfaaDoor
open Go.RowKit Go.Lib Go.Maps

theorem splaces_all (l : List St) (lv : Value) (fb : Nat) (t0 t1 : Int) (hf : fb < 256) (h0 : 0 ≤ t0 ∧ t0 ≤ 65535) (h1 : 0 ≤ t1 ∧ t1 ≤ 65535) (w : World) (hA : StAt w l lv) (hw : wL l ≤ 100000000) (hR : FntR w) :
    Calls Tryd.prog 4 #[lv, .int .u8 fb, .agg #[.int .u16 t0, .int .u16 t1]] w fun e w' => e = .returned (.bool true) ∧ Keeps w w' := by
  obtain ⟨a, rfl⟩ : ∃ a : Nat, t0 = a := ⟨t0.toNat, by omega⟩
  obtain ⟨b, rfl⟩ : ∃ b : Nat, t1 = b := ⟨t1.toNat, by omega⟩
  exact splaces_any l lv fb a b hf (by omega) (by omega) w hA hw hR
end Go.Proofs.YtfnkokfkhjdkfaaDoor


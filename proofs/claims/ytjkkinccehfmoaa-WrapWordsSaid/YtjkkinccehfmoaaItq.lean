/-
  An item of a line. No program in sight.
-/
import Derived.KernelRfl
namespace Go.Proofs.Ytjkkinccehfmoaa

structure It where
  kind : Int
  width : Int
  grow : Int
  shrink : Int
  cost : Int
  codes : List UInt8
  font : Int
  size : Int
  link : Int
end Go.Proofs.Ytjkkinccehfmoaa

/-
  Layer 14 (brk): a step.
-/
import Derived.WalkKit
namespace Go.Proofs.Ytciighiecoalmaa.Brk

structure Op where
  k : Int
  s : List UInt8
  n : Int
end Go.Proofs.Ytciighiecoalmaa.Brk

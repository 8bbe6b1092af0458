/-
  Layer 16 (rights): the law's Few, as the laws ask for it.
-/
import Derived.Test.YtomnkmcabkoagaaRgtFew
import Derived.Test.YtomnkmcabkoagaaRgtLawB
namespace Go.Proofs.Ytomnkmcabkoagaa.Rgt
open Go.RowKit
theorem few_spec : FewSpec := fun c p0 p1 p2 p3 n0 n1 n2 n3 k0 k1 k2 k3 b0 b1 b2 b3 b4 b5 b6 b7 b8 b9 w h => Few_calls c p0 p1 p2 p3 n0 n1 n2 n3 k0 k1 k2 k3 b0 b1 b2 b3 b4 b5 b6 b7 b8 b9 w h
end Go.Proofs.Ytomnkmcabkoagaa.Rgt

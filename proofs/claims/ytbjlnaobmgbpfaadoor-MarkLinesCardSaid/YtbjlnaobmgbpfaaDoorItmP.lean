/-
  Items: a kind, a tick, bytes.
-/
import Derived.Lib.Hide
namespace Go.Proofs.YtbjlnaobmgbpfaaDoor.Rec
structure Itm where
  k : Int
  a : Int
  b : ByteArray
end Go.Proofs.YtbjlnaobmgbpfaaDoor.Rec

/-
  Layer 15 (conf): plain Lean: configurations.
-/
import Derived.Lib.Hide
namespace Go.Proofs.Ytomnkmcabkoagaa.Conf

abbrev Bs := List UInt8
/-- a console -/
structure Cn where
  name : Bs
  kind : Int
  lines : Int
  bytes : Int
  gens : Int
  size : Int
  base : Int
  cap : Int
  jit : Int
  init : Bs
deriving DecidableEq
/-- a configuration -/
structure Cf where
  cons : List Cn
  grps : List (Bs × List Bs)
  usrs : List (Bs × Bs)
  accs : List (Bs × Bs × Int)
  brks : List Bs
deriving DecidableEq
def empty : Cf := ⟨[], [], [], [], List.replicate 10 []⟩
def usual : Cn := ⟨[], 1, 20, 4096, 3, 4096, 1, 64, 4, []⟩

def findM (cs : List Cn) (a : Bs) : Option Cn := cs.find? fun y => y.name == a
end Go.Proofs.Ytomnkmcabkoagaa.Conf

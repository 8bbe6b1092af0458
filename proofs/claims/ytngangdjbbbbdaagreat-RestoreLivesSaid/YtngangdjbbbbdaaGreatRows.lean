/-
  No cell of these rows narrows 'for every input' (looked for: loops, veiled, ifaces, maps, wideKeys, modest, calm, conditions, laid).
  DERIVED. THE GIVEN ROWS OF THIS SEAT. 3 by the template 'for every input the law returns true; each argument reads behind the call as it read before'; 0 by the template 'total and deterministic' (their statements: YtngangdjbbbbdaaGreatTotals.lean).
  GIVEN WITH THE SEED: the statements are not yours to turn. If you find one false, say at which input.
  Laid BY PROGRAM, IN A SANDBOX (cutbox-rows.mjs): the forced cells as the released guide's own fill.sh prints them over the translation 58b326614599a54b… (all of the seat's roots in one cut). By AI agents, Wed Nov 11 2026. No macro, syntax, notation, axiom, sorry.
-/
import Derived.Test.YtngangdjbbbbdaaGreatChecked
import GoSem.Claim
import GoSem.ClaimJoined
import GoSem.ClaimMapViews
import Derived.JoinedTies
import Derived.KernelRfl
namespace Go.Proofs.YtngangdjbbbbdaaGreat
/- THE CELL 'sum', in the pinned program and in every row, IS THE sha256 OF THE DUMP (.gsa) THAT YtngangdjbbbbdaaGreatProg.lean LOADS. Nothing in Lean hashes anything: it is a label: what it is worth is what the hold of that sum in a sandbox is worth. -/
noncomputable def Tryz.pinned : Pinned := { name := "ytngangdjbbbbdaagreat", sum := "58b326614599a54b977a4c658cb06cf122dd82f63f7d8cecb70f6b396752f7c4", checked := Tryz.checked }
namespace Rows
def none {H : Type} : Left H := { results := [], args := [] }

/-- 'wheelhouselaw23.RestoreLoads': WHATEVER THE INPUT: true; the input reads as it did. -/
def restoreLoadsSpec : ChangeSpec := { name := "restoreLoads", fn := fun _ => fun
  | [d1, d2] => { results := [.lit (.bool true)], args := [d1, d2] }
  | _ => none }
def restoreLoadsRow : OpenClaim := { program := "ytngangdjbbbbdaagreat", sum := "58b326614599a54b977a4c658cb06cf122dd82f63f7d8cecb70f6b396752f7c4", func := "wheelhouse/wheelhouselaw23.RestoreLoads", spec := "restoreLoads", inPlace := ["internal/reflectlite.TypeOf"], unfollowed := true, recurses := true, apart := false }
def RestoreLoadsSaid : Prop := restoreLoadsRow.holds Tryz.pinned (OpenSpec.ofChange restoreLoadsSpec)

/-- ITS FALSE NEIGHBOUR: 'it returns false'. Refute it at one input. -/
def restoreLoadsWrong : ChangeSpec := { name := "restoreLoads", fn := fun _ => fun
  | [d1, d2] => { results := [.lit (.bool false)], args := [d1, d2] }
  | _ => none }
def RestoreLoadsWrongFalsely : Prop := restoreLoadsRow.holds Tryz.pinned (OpenSpec.ofChange restoreLoadsWrong)

/-- 'wheelhouselaw23.RestoreTail': WHATEVER THE INPUT: true; the input reads as it did. -/
def restoreTailSpec : ChangeSpec := { name := "restoreTail", fn := fun _ => fun
  | [d1, d2, d3] => { results := [.lit (.bool true)], args := [d1, d2, d3] }
  | _ => none }
def restoreTailRow : OpenClaim := { program := "ytngangdjbbbbdaagreat", sum := "58b326614599a54b977a4c658cb06cf122dd82f63f7d8cecb70f6b396752f7c4", func := "wheelhouse/wheelhouselaw23.RestoreTail", spec := "restoreTail", inPlace := ["internal/reflectlite.TypeOf"], unfollowed := true, recurses := true, apart := false }
def RestoreTailSaid : Prop := restoreTailRow.holds Tryz.pinned (OpenSpec.ofChange restoreTailSpec)

/-- ITS FALSE NEIGHBOUR: 'it returns false'. Refute it at one input. -/
def restoreTailWrong : ChangeSpec := { name := "restoreTail", fn := fun _ => fun
  | [d1, d2, d3] => { results := [.lit (.bool false)], args := [d1, d2, d3] }
  | _ => none }
def RestoreTailWrongFalsely : Prop := restoreTailRow.holds Tryz.pinned (OpenSpec.ofChange restoreTailWrong)

/-- 'wheelhouselaw23.RestoreLives': WHATEVER THE INPUT: true; the input reads as it did. -/
def restoreLivesSpec : ChangeSpec := { name := "restoreLives", fn := fun _ => fun
  | [d1, d2, d3] => { results := [.lit (.bool true)], args := [d1, d2, d3] }
  | _ => none }
def restoreLivesRow : OpenClaim := { program := "ytngangdjbbbbdaagreat", sum := "58b326614599a54b977a4c658cb06cf122dd82f63f7d8cecb70f6b396752f7c4", func := "wheelhouse/wheelhouselaw23.RestoreLives", spec := "restoreLives", inPlace := ["internal/reflectlite.TypeOf"], unfollowed := true, recurses := true, apart := false }
def RestoreLivesSaid : Prop := restoreLivesRow.holds Tryz.pinned (OpenSpec.ofChange restoreLivesSpec)

/-- ITS FALSE NEIGHBOUR: 'it returns false'. Refute it at one input. -/
def restoreLivesWrong : ChangeSpec := { name := "restoreLives", fn := fun _ => fun
  | [d1, d2, d3] => { results := [.lit (.bool false)], args := [d1, d2, d3] }
  | _ => none }
def RestoreLivesWrongFalsely : Prop := restoreLivesRow.holds Tryz.pinned (OpenSpec.ofChange restoreLivesWrong)

/- THE SECOND FORM. 'bulk': how many values and letters a reading holds, each counted each time it is reached (what is shared counts as often as it is met; a slice's spare places count too). A statement '..UptoSaid' is the law's where the arguments, and the package variables that the reading takes, are together of bulk at most 1048576: NARROWER than '..Said'. Prove '..Said' where nothing that the law and all that it calls make is longer than what came in: it says more and counts as full. Else prove '..UptoSaid'. A law counts once. -/
mutual
def uptoBulk {H : Type} : DataW H → Nat
  | .lit (.string bytes) => bytes.length + 1
  | .lit _ => 1
  | .nil => 1
  | .ptr d => uptoBulk d + 1
  | .slice elems spare => uptoBulkAll elems + uptoBulkAll spare + 1
  | .agg parts => uptoBulkAll parts + 1
  | .iface _ d => uptoBulk d + 1
  | .map entries => uptoBulkEntries entries + 1
  | .held _ => 1
def uptoBulkAll {H : Type} : List (DataW H) → Nat
  | [] => 0
  | d :: r => uptoBulk d + uptoBulkAll r
def uptoBulkEntries {H : Type} : List (Lit × DataW H) → Nat
  | [] => 0
  | x :: r => uptoBulkEntry x + uptoBulkEntries r
def uptoBulkEntry {H : Type} : Lit × DataW H → Nat
  | (.string bytes, d) => bytes.length + uptoBulk d + 1
  | (_, d) => uptoBulk d + 1
 end
def uptoSmall : (H : Type) → List (DataW H) → Bool := fun _ ds => decide (uptoBulkAll ds ≤ 1048576)
def OpenSpec.upto (s : _root_.Go.ChangeSpec) : _root_.Go.OpenSpec := { _root_.Go.OpenSpec.ofChange s with cond := some uptoSmall }

/-- 'wheelhouselaw23.RestoreLoads', WHERE WHAT IT READS IS OF BULK AT MOST 1048576: true; the input reads as it did. -/
def restoreLoadsUptoRow : OpenClaim := { program := "ytngangdjbbbbdaagreat", sum := "58b326614599a54b977a4c658cb06cf122dd82f63f7d8cecb70f6b396752f7c4", func := "wheelhouse/wheelhouselaw23.RestoreLoads", spec := "restoreLoads", inPlace := ["internal/reflectlite.TypeOf"], unfollowed := true, recurses := true, apart := false, narrowed := true }
def RestoreLoadsUptoSaid : Prop := restoreLoadsUptoRow.holds Tryz.pinned (OpenSpec.upto restoreLoadsSpec)

/-- 'wheelhouselaw23.RestoreTail', WHERE WHAT IT READS IS OF BULK AT MOST 1048576: true; the input reads as it did. -/
def restoreTailUptoRow : OpenClaim := { program := "ytngangdjbbbbdaagreat", sum := "58b326614599a54b977a4c658cb06cf122dd82f63f7d8cecb70f6b396752f7c4", func := "wheelhouse/wheelhouselaw23.RestoreTail", spec := "restoreTail", inPlace := ["internal/reflectlite.TypeOf"], unfollowed := true, recurses := true, apart := false, narrowed := true }
def RestoreTailUptoSaid : Prop := restoreTailUptoRow.holds Tryz.pinned (OpenSpec.upto restoreTailSpec)

/-- 'wheelhouselaw23.RestoreLives', WHERE WHAT IT READS IS OF BULK AT MOST 1048576: true; the input reads as it did. -/
def restoreLivesUptoRow : OpenClaim := { program := "ytngangdjbbbbdaagreat", sum := "58b326614599a54b977a4c658cb06cf122dd82f63f7d8cecb70f6b396752f7c4", func := "wheelhouse/wheelhouselaw23.RestoreLives", spec := "restoreLives", inPlace := ["internal/reflectlite.TypeOf"], unfollowed := true, recurses := true, apart := false, narrowed := true }
def RestoreLivesUptoSaid : Prop := restoreLivesUptoRow.holds Tryz.pinned (OpenSpec.upto restoreLivesSpec)

end Rows
end Go.Proofs.YtngangdjbbbbdaaGreat

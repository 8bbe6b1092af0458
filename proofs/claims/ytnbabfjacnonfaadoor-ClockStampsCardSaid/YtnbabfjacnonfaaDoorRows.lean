/-
  NARROWER THAN 'FOR EVERY INPUT', by the rows' own cells (each row's printed sentence says how): ClockStamps: laid · ClockReads: laid · ClockOrder: laid · ClockSpans: laid.
  DERIVED. THE GIVEN ROWS OF THIS SEAT. 4 by the template 'for every input the law returns true; each argument reads behind the call as it read before'; 0 by the template 'total and deterministic' (their statements: YtnbabfjacnonfaaDoorTotals.lean).
  GIVEN WITH THE SEED: the statements are not yours to turn. If you find one false, say at which input.
  Laid BY PROGRAM, IN A SANDBOX (cutbox-rows.mjs): the forced cells as the released guide's own fill.sh prints them over the translation ccf0fe4e3a74ac77… (all of the seat's roots in one cut). By AI agents, Wed Nov 11 2026. No macro, syntax, notation, axiom, sorry.
-/
import Derived.Test.YtnbabfjacnonfaaDoorChecked
import GoSem.Claim
import GoSem.ClaimJoined
import GoSem.ClaimMapViews
import Derived.JoinedTies
import Derived.KernelRfl
namespace Go.Proofs.YtnbabfjacnonfaaDoor
/- THE CELL 'sum', in the pinned program and in every row, IS THE sha256 OF THE DUMP (.gsa) THAT YtnbabfjacnonfaaDoorProg.lean LOADS. Nothing in Lean hashes anything: it is a label: what it is worth is what the hold of that sum in a sandbox is worth. -/
noncomputable def Tryd.pinned : Pinned := { name := "ytnbabfjacnonfaadoor", sum := "ccf0fe4e3a74ac777ac0b3b7ef29351da5482a1aa0ca7033b3f82c9144e06a3d", checked := Tryd.checked }
namespace Rows
def none {H : Type} : Left H := { results := [], args := [] }

/- WHAT THE LISTED PACKAGE-LEVEL VARIABLES READ AS WHEN THE CALL BEGINS. Each datum BY PROGRAM (the guide's laid-datum.mjs) off the statement by which the dump's own 'gosem.cut.vars' lays the variable. In a bare row this is a premise. The card (YtnbabfjacnonfaaDoorCards.lean) ties it to the program's text. -/
def laid_wheelhouse_clock_monthDays {H : Type} : DataW H := .agg [.lit (.int .i64 31), .lit (.int .i64 28), .lit (.int .i64 31), .lit (.int .i64 30), .lit (.int .i64 31), .lit (.int .i64 30), .lit (.int .i64 31), .lit (.int .i64 31), .lit (.int .i64 30), .lit (.int .i64 31), .lit (.int .i64 30), .lit (.int .i64 31)]

/-- 'wheelhouselaw03.ClockStamps': WHATEVER THE INPUT: true; the input reads as it did. -/
def clockStampsSpec : ChangeSpec := { name := "clockStamps", fn := fun _ => fun
  | [d] => { results := [.lit (.bool true)], args := [d] }
  | _ => none }
def clockStampsRow : OpenClaim := { program := "ytnbabfjacnonfaadoor", sum := "ccf0fe4e3a74ac777ac0b3b7ef29351da5482a1aa0ca7033b3f82c9144e06a3d", func := "wheelhouse/wheelhouselaw03.ClockStamps", spec := "clockStamps", inPlace := ["internal/abi.NoEscape", "internal/bytealg.MakeNoZero"], recurses := true, named := ["wheelhouse/clock.monthDays"], apart := false, laid := [("wheelhouse/clock.monthDays", laid_wheelhouse_clock_monthDays)] }
def ClockStampsSaid : Prop := clockStampsRow.holds Tryd.pinned (OpenSpec.ofChange clockStampsSpec)

/-- ITS FALSE NEIGHBOUR: 'it returns false'. Refute it at one input. -/
def clockStampsWrong : ChangeSpec := { name := "clockStamps", fn := fun _ => fun
  | [d] => { results := [.lit (.bool false)], args := [d] }
  | _ => none }
def ClockStampsWrongFalsely : Prop := clockStampsRow.holds Tryd.pinned (OpenSpec.ofChange clockStampsWrong)

/-- 'wheelhouselaw03.ClockReads': WHATEVER THE INPUT: true; the input reads as it did. -/
def clockReadsSpec : ChangeSpec := { name := "clockReads", fn := fun _ => fun
  | [d1, d2] => { results := [.lit (.bool true)], args := [d1, d2] }
  | _ => none }
def clockReadsRow : OpenClaim := { program := "ytnbabfjacnonfaadoor", sum := "ccf0fe4e3a74ac777ac0b3b7ef29351da5482a1aa0ca7033b3f82c9144e06a3d", func := "wheelhouse/wheelhouselaw03.ClockReads", spec := "clockReads", inPlace := ["internal/abi.NoEscape", "internal/bytealg.MakeNoZero"], recurses := true, named := ["wheelhouse/clock.monthDays"], apart := false, laid := [("wheelhouse/clock.monthDays", laid_wheelhouse_clock_monthDays)] }
def ClockReadsSaid : Prop := clockReadsRow.holds Tryd.pinned (OpenSpec.ofChange clockReadsSpec)

/-- ITS FALSE NEIGHBOUR: 'it returns false'. Refute it at one input. -/
def clockReadsWrong : ChangeSpec := { name := "clockReads", fn := fun _ => fun
  | [d1, d2] => { results := [.lit (.bool false)], args := [d1, d2] }
  | _ => none }
def ClockReadsWrongFalsely : Prop := clockReadsRow.holds Tryd.pinned (OpenSpec.ofChange clockReadsWrong)

/-- 'wheelhouselaw03.ClockOrder': WHATEVER THE INPUT: true; the input reads as it did. -/
def clockOrderSpec : ChangeSpec := { name := "clockOrder", fn := fun _ => fun
  | [d1, d2] => { results := [.lit (.bool true)], args := [d1, d2] }
  | _ => none }
def clockOrderRow : OpenClaim := { program := "ytnbabfjacnonfaadoor", sum := "ccf0fe4e3a74ac777ac0b3b7ef29351da5482a1aa0ca7033b3f82c9144e06a3d", func := "wheelhouse/wheelhouselaw03.ClockOrder", spec := "clockOrder", inPlace := ["internal/abi.NoEscape", "internal/bytealg.MakeNoZero"], named := ["wheelhouse/clock.monthDays"], apart := false, laid := [("wheelhouse/clock.monthDays", laid_wheelhouse_clock_monthDays)] }
def ClockOrderSaid : Prop := clockOrderRow.holds Tryd.pinned (OpenSpec.ofChange clockOrderSpec)

/-- ITS FALSE NEIGHBOUR: 'it returns false'. Refute it at one input. -/
def clockOrderWrong : ChangeSpec := { name := "clockOrder", fn := fun _ => fun
  | [d1, d2] => { results := [.lit (.bool false)], args := [d1, d2] }
  | _ => none }
def ClockOrderWrongFalsely : Prop := clockOrderRow.holds Tryd.pinned (OpenSpec.ofChange clockOrderWrong)

/-- 'wheelhouselaw03.ClockSpans': WHATEVER THE INPUT: true; the input reads as it did. -/
def clockSpansSpec : ChangeSpec := { name := "clockSpans", fn := fun _ => fun
  | [d] => { results := [.lit (.bool true)], args := [d] }
  | _ => none }
def clockSpansRow : OpenClaim := { program := "ytnbabfjacnonfaadoor", sum := "ccf0fe4e3a74ac777ac0b3b7ef29351da5482a1aa0ca7033b3f82c9144e06a3d", func := "wheelhouse/wheelhouselaw03.ClockSpans", spec := "clockSpans", inPlace := ["internal/abi.NoEscape", "internal/bytealg.MakeNoZero"], recurses := true, named := ["wheelhouse/clock.monthDays"], apart := false, laid := [("wheelhouse/clock.monthDays", laid_wheelhouse_clock_monthDays)] }
def ClockSpansSaid : Prop := clockSpansRow.holds Tryd.pinned (OpenSpec.ofChange clockSpansSpec)

/-- ITS FALSE NEIGHBOUR: 'it returns false'. Refute it at one input. -/
def clockSpansWrong : ChangeSpec := { name := "clockSpans", fn := fun _ => fun
  | [d] => { results := [.lit (.bool false)], args := [d] }
  | _ => none }
def ClockSpansWrongFalsely : Prop := clockSpansRow.holds Tryd.pinned (OpenSpec.ofChange clockSpansWrong)

/- THE SECOND FORM. 'bulk': how many values and letters a reading holds, each counted each time it is reached (what is shared counts as often as it is met; a slice's spare places count too). A statement '..UptoSaid' is the law's where the arguments, and the package variables that the reading takes, are together of bulk at most 1048576: NARROWER than '..Said'. Prove '..Said' where nothing that the law and all that it calls make is longer than what came in: it says more and counts as full. Else prove '..UptoSaid'. A law counts once. -/
mutual
def uptoBulk {H : Type} : DataW H → Nat
  | .lit (.string bytes) => bytes.length + 1
  | .lit _ => 1
  | .nil => 1
  | .ptr d => uptoBulk d + 1
  | .slice elems spare => uptoBulkAll elems + uptoBulkAll spare + 1
  | .agg parts => uptoBulkAll parts + 1
  | .iface _ d => uptoBulk d + 1
  | .map entries => uptoBulkEntries entries + 1
  | .held _ => 1
def uptoBulkAll {H : Type} : List (DataW H) → Nat
  | [] => 0
  | d :: r => uptoBulk d + uptoBulkAll r
def uptoBulkEntries {H : Type} : List (Lit × DataW H) → Nat
  | [] => 0
  | x :: r => uptoBulkEntry x + uptoBulkEntries r
def uptoBulkEntry {H : Type} : Lit × DataW H → Nat
  | (.string bytes, d) => bytes.length + uptoBulk d + 1
  | (_, d) => uptoBulk d + 1
 end
def uptoSmall : (H : Type) → List (DataW H) → Bool := fun _ ds => decide (uptoBulkAll ds ≤ 1048576)
def OpenSpec.upto (s : _root_.Go.ChangeSpec) : _root_.Go.OpenSpec := { _root_.Go.OpenSpec.ofChange s with cond := some uptoSmall }

/-- 'wheelhouselaw03.ClockStamps', WHERE WHAT IT READS IS OF BULK AT MOST 1048576: true; the input reads as it did. -/
def clockStampsUptoRow : OpenClaim := { program := "ytnbabfjacnonfaadoor", sum := "ccf0fe4e3a74ac777ac0b3b7ef29351da5482a1aa0ca7033b3f82c9144e06a3d", func := "wheelhouse/wheelhouselaw03.ClockStamps", spec := "clockStamps", inPlace := ["internal/abi.NoEscape", "internal/bytealg.MakeNoZero"], recurses := true, named := ["wheelhouse/clock.monthDays"], apart := false, laid := [("wheelhouse/clock.monthDays", laid_wheelhouse_clock_monthDays)], narrowed := true }
def ClockStampsUptoSaid : Prop := clockStampsUptoRow.holds Tryd.pinned (OpenSpec.upto clockStampsSpec)

/-- 'wheelhouselaw03.ClockReads', WHERE WHAT IT READS IS OF BULK AT MOST 1048576: true; the input reads as it did. -/
def clockReadsUptoRow : OpenClaim := { program := "ytnbabfjacnonfaadoor", sum := "ccf0fe4e3a74ac777ac0b3b7ef29351da5482a1aa0ca7033b3f82c9144e06a3d", func := "wheelhouse/wheelhouselaw03.ClockReads", spec := "clockReads", inPlace := ["internal/abi.NoEscape", "internal/bytealg.MakeNoZero"], recurses := true, named := ["wheelhouse/clock.monthDays"], apart := false, laid := [("wheelhouse/clock.monthDays", laid_wheelhouse_clock_monthDays)], narrowed := true }
def ClockReadsUptoSaid : Prop := clockReadsUptoRow.holds Tryd.pinned (OpenSpec.upto clockReadsSpec)

/-- 'wheelhouselaw03.ClockOrder', WHERE WHAT IT READS IS OF BULK AT MOST 1048576: true; the input reads as it did. -/
def clockOrderUptoRow : OpenClaim := { program := "ytnbabfjacnonfaadoor", sum := "ccf0fe4e3a74ac777ac0b3b7ef29351da5482a1aa0ca7033b3f82c9144e06a3d", func := "wheelhouse/wheelhouselaw03.ClockOrder", spec := "clockOrder", inPlace := ["internal/abi.NoEscape", "internal/bytealg.MakeNoZero"], named := ["wheelhouse/clock.monthDays"], apart := false, laid := [("wheelhouse/clock.monthDays", laid_wheelhouse_clock_monthDays)], narrowed := true }
def ClockOrderUptoSaid : Prop := clockOrderUptoRow.holds Tryd.pinned (OpenSpec.upto clockOrderSpec)

/-- 'wheelhouselaw03.ClockSpans', WHERE WHAT IT READS IS OF BULK AT MOST 1048576: true; the input reads as it did. -/
def clockSpansUptoRow : OpenClaim := { program := "ytnbabfjacnonfaadoor", sum := "ccf0fe4e3a74ac777ac0b3b7ef29351da5482a1aa0ca7033b3f82c9144e06a3d", func := "wheelhouse/wheelhouselaw03.ClockSpans", spec := "clockSpans", inPlace := ["internal/abi.NoEscape", "internal/bytealg.MakeNoZero"], recurses := true, named := ["wheelhouse/clock.monthDays"], apart := false, laid := [("wheelhouse/clock.monthDays", laid_wheelhouse_clock_monthDays)], narrowed := true }
def ClockSpansUptoSaid : Prop := clockSpansUptoRow.holds Tryd.pinned (OpenSpec.upto clockSpansSpec)

end Rows
end Go.Proofs.YtnbabfjacnonfaaDoor

/-
  No cell of these rows narrows 'for every input' (looked for: loops, veiled, ifaces, maps, wideKeys, modest, calm, conditions, laid).
  DERIVED. THE GIVEN ROWS OF THIS SEAT. 4 by the template 'for every input the law returns true; each argument reads behind the call as it read before'; 0 by the template 'total and deterministic' (their statements: YtffdlfkmkbckgaaTotals.lean).
  GIVEN WITH THE SEED: the statements are not yours to turn. If you find one false, say at which input.
  Laid BY PROGRAM, IN A SANDBOX (cutbox-rows.mjs): the forced cells as the released guide's own fill.sh prints them over the translation 1cd5ab4cb2a1631d… (all of the seat's roots in one cut). By AI agents, Wed Nov 11 2026. No macro, syntax, notation, axiom, sorry.
-/
import Derived.Test.YtffdlfkmkbckgaaChecked
import GoSem.Claim
import GoSem.ClaimJoined
import GoSem.ClaimMapViews
import Derived.JoinedTies
import Derived.KernelRfl
namespace Go.Proofs.Ytffdlfkmkbckgaa
/- THE CELL 'sum', in the pinned program and in every row, IS THE sha256 OF THE DUMP (.gsa) THAT YtffdlfkmkbckgaaProg.lean LOADS. Nothing in Lean hashes anything: it is a label: what it is worth is what the hold of that sum in a sandbox is worth. -/
noncomputable def Try.pinned : Pinned := { name := "ytffdlfkmkbckgaa", sum := "1cd5ab4cb2a1631dd839004bf5832bff2e6d5d7691bb5e6bd0bb73dd277b1dc6", checked := Try.checked }
namespace Rows
def none {H : Type} : Left H := { results := [], args := [] }

/-- 'wheelhouselaw01.CalcSums': WHATEVER THE INPUT: true; the input reads as it did. -/
def calcSumsSpec : ChangeSpec := { name := "calcSums", fn := fun _ => fun
  | [d1, d2] => { results := [.lit (.bool true)], args := [d1, d2] }
  | _ => none }
def calcSumsRow : OpenClaim := { program := "ytffdlfkmkbckgaa", sum := "1cd5ab4cb2a1631dd839004bf5832bff2e6d5d7691bb5e6bd0bb73dd277b1dc6", func := "wheelhouse/wheelhouselaw01.CalcSums", spec := "calcSums", apart := false }
def CalcSumsSaid : Prop := calcSumsRow.holds Try.pinned (OpenSpec.ofChange calcSumsSpec)

/-- ITS FALSE NEIGHBOUR: 'it returns false'. Refute it at one input. -/
def calcSumsWrong : ChangeSpec := { name := "calcSums", fn := fun _ => fun
  | [d1, d2] => { results := [.lit (.bool false)], args := [d1, d2] }
  | _ => none }
def CalcSumsWrongFalsely : Prop := calcSumsRow.holds Try.pinned (OpenSpec.ofChange calcSumsWrong)

/-- 'wheelhouselaw01.CalcProducts': WHATEVER THE INPUT: true; the input reads as it did. -/
def calcProductsSpec : ChangeSpec := { name := "calcProducts", fn := fun _ => fun
  | [d1, d2] => { results := [.lit (.bool true)], args := [d1, d2] }
  | _ => none }
def calcProductsRow : OpenClaim := { program := "ytffdlfkmkbckgaa", sum := "1cd5ab4cb2a1631dd839004bf5832bff2e6d5d7691bb5e6bd0bb73dd277b1dc6", func := "wheelhouse/wheelhouselaw01.CalcProducts", spec := "calcProducts", apart := false }
def CalcProductsSaid : Prop := calcProductsRow.holds Try.pinned (OpenSpec.ofChange calcProductsSpec)

/-- ITS FALSE NEIGHBOUR: 'it returns false'. Refute it at one input. -/
def calcProductsWrong : ChangeSpec := { name := "calcProducts", fn := fun _ => fun
  | [d1, d2] => { results := [.lit (.bool false)], args := [d1, d2] }
  | _ => none }
def CalcProductsWrongFalsely : Prop := calcProductsRow.holds Try.pinned (OpenSpec.ofChange calcProductsWrong)

/-- 'wheelhouselaw01.CalcDoubles': WHATEVER THE INPUT: true; the input reads as it did. -/
def calcDoublesSpec : ChangeSpec := { name := "calcDoubles", fn := fun _ => fun
  | [d1, d2, d3] => { results := [.lit (.bool true)], args := [d1, d2, d3] }
  | _ => none }
def calcDoublesRow : OpenClaim := { program := "ytffdlfkmkbckgaa", sum := "1cd5ab4cb2a1631dd839004bf5832bff2e6d5d7691bb5e6bd0bb73dd277b1dc6", func := "wheelhouse/wheelhouselaw01.CalcDoubles", spec := "calcDoubles", apart := false }
def CalcDoublesSaid : Prop := calcDoublesRow.holds Try.pinned (OpenSpec.ofChange calcDoublesSpec)

/-- ITS FALSE NEIGHBOUR: 'it returns false'. Refute it at one input. -/
def calcDoublesWrong : ChangeSpec := { name := "calcDoubles", fn := fun _ => fun
  | [d1, d2, d3] => { results := [.lit (.bool false)], args := [d1, d2, d3] }
  | _ => none }
def CalcDoublesWrongFalsely : Prop := calcDoublesRow.holds Try.pinned (OpenSpec.ofChange calcDoublesWrong)

/-- 'wheelhouselaw01.CalcTotals': WHATEVER THE INPUT: true; the input reads as it did. -/
def calcTotalsSpec : ChangeSpec := { name := "calcTotals", fn := fun _ => fun
  | [d1, d2, d3] => { results := [.lit (.bool true)], args := [d1, d2, d3] }
  | _ => none }
def calcTotalsRow : OpenClaim := { program := "ytffdlfkmkbckgaa", sum := "1cd5ab4cb2a1631dd839004bf5832bff2e6d5d7691bb5e6bd0bb73dd277b1dc6", func := "wheelhouse/wheelhouselaw01.CalcTotals", spec := "calcTotals", apart := false }
def CalcTotalsSaid : Prop := calcTotalsRow.holds Try.pinned (OpenSpec.ofChange calcTotalsSpec)

/-- ITS FALSE NEIGHBOUR: 'it returns false'. Refute it at one input. -/
def calcTotalsWrong : ChangeSpec := { name := "calcTotals", fn := fun _ => fun
  | [d1, d2, d3] => { results := [.lit (.bool false)], args := [d1, d2, d3] }
  | _ => none }
def CalcTotalsWrongFalsely : Prop := calcTotalsRow.holds Try.pinned (OpenSpec.ofChange calcTotalsWrong)

/- THE SECOND FORM. 'bulk': how many values and letters a reading holds, each counted each time it is reached (what is shared counts as often as it is met; a slice's spare places count too). A statement '..UptoSaid' is the law's where the arguments, and the package variables that the reading takes, are together of bulk at most 1048576: NARROWER than '..Said'. Prove '..Said' where nothing that the law and all that it calls make is longer than what came in: it says more and counts as full. Else prove '..UptoSaid'. A law counts once. -/
mutual
def uptoBulk {H : Type} : DataW H → Nat
  | .lit (.string bytes) => bytes.length + 1
  | .lit _ => 1
  | .nil => 1
  | .ptr d => uptoBulk d + 1
  | .slice elems spare => uptoBulkAll elems + uptoBulkAll spare + 1
  | .agg parts => uptoBulkAll parts + 1
  | .iface _ d => uptoBulk d + 1
  | .map entries => uptoBulkEntries entries + 1
  | .held _ => 1
def uptoBulkAll {H : Type} : List (DataW H) → Nat
  | [] => 0
  | d :: r => uptoBulk d + uptoBulkAll r
def uptoBulkEntries {H : Type} : List (Lit × DataW H) → Nat
  | [] => 0
  | x :: r => uptoBulkEntry x + uptoBulkEntries r
def uptoBulkEntry {H : Type} : Lit × DataW H → Nat
  | (.string bytes, d) => bytes.length + uptoBulk d + 1
  | (_, d) => uptoBulk d + 1
 end
def uptoSmall : (H : Type) → List (DataW H) → Bool := fun _ ds => decide (uptoBulkAll ds ≤ 1048576)
def OpenSpec.upto (s : _root_.Go.ChangeSpec) : _root_.Go.OpenSpec := { _root_.Go.OpenSpec.ofChange s with cond := some uptoSmall }

/-- 'wheelhouselaw01.CalcSums', WHERE WHAT IT READS IS OF BULK AT MOST 1048576: true; the input reads as it did. -/
def calcSumsUptoRow : OpenClaim := { program := "ytffdlfkmkbckgaa", sum := "1cd5ab4cb2a1631dd839004bf5832bff2e6d5d7691bb5e6bd0bb73dd277b1dc6", func := "wheelhouse/wheelhouselaw01.CalcSums", spec := "calcSums", apart := false, narrowed := true }
def CalcSumsUptoSaid : Prop := calcSumsUptoRow.holds Try.pinned (OpenSpec.upto calcSumsSpec)

/-- 'wheelhouselaw01.CalcProducts', WHERE WHAT IT READS IS OF BULK AT MOST 1048576: true; the input reads as it did. -/
def calcProductsUptoRow : OpenClaim := { program := "ytffdlfkmkbckgaa", sum := "1cd5ab4cb2a1631dd839004bf5832bff2e6d5d7691bb5e6bd0bb73dd277b1dc6", func := "wheelhouse/wheelhouselaw01.CalcProducts", spec := "calcProducts", apart := false, narrowed := true }
def CalcProductsUptoSaid : Prop := calcProductsUptoRow.holds Try.pinned (OpenSpec.upto calcProductsSpec)

/-- 'wheelhouselaw01.CalcDoubles', WHERE WHAT IT READS IS OF BULK AT MOST 1048576: true; the input reads as it did. -/
def calcDoublesUptoRow : OpenClaim := { program := "ytffdlfkmkbckgaa", sum := "1cd5ab4cb2a1631dd839004bf5832bff2e6d5d7691bb5e6bd0bb73dd277b1dc6", func := "wheelhouse/wheelhouselaw01.CalcDoubles", spec := "calcDoubles", apart := false, narrowed := true }
def CalcDoublesUptoSaid : Prop := calcDoublesUptoRow.holds Try.pinned (OpenSpec.upto calcDoublesSpec)

/-- 'wheelhouselaw01.CalcTotals', WHERE WHAT IT READS IS OF BULK AT MOST 1048576: true; the input reads as it did. -/
def calcTotalsUptoRow : OpenClaim := { program := "ytffdlfkmkbckgaa", sum := "1cd5ab4cb2a1631dd839004bf5832bff2e6d5d7691bb5e6bd0bb73dd277b1dc6", func := "wheelhouse/wheelhouselaw01.CalcTotals", spec := "calcTotals", apart := false, narrowed := true }
def CalcTotalsUptoSaid : Prop := calcTotalsUptoRow.holds Try.pinned (OpenSpec.upto calcTotalsSpec)

end Rows
end Go.Proofs.Ytffdlfkmkbckgaa

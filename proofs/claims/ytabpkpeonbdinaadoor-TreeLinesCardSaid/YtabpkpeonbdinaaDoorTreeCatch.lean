/-
  Layer 13 (tree): the closure that catches what was given up.
-/
import Derived.Test.YtabpkpeonbdinaaDoorTreeAll
import Derived.Recover
import Derived.Defers
import Derived.Stop.Asserts
namespace Go.Proofs.YtabpkpeonbdinaaDoor.Tree
open Go.RowKit Go.Stop Go.Proofs.YtabpkpeonbdinaaDoor.Own Go.Proofs.YtabpkpeonbdinaaDoor.Rw Go.Proofs.YtabpkpeonbdinaaDoor.Lex

theorem isErr (v : Value) (xT : TypeId) (w : World) : (Instr.typeAssert (.iface 49 v) xT 25 true).run Tryd.prog w = .ok (.tuple #[.iface 49 v, .bool true]) w := run_typeAssert_hasB Tryd.underlying25 (by kernel_rfl) v xT w
theorem noErr (xT : TypeId) (w : World) : (Instr.typeAssert .nilIface xT 25 true).run Tryd.prog w = .ok (.tuple #[.nilIface, .bool false]) w := by kernel_rfl

set_option maxRecDepth 100000 in
set_option maxHeartbeats 4000000 in
theorem catch_panicking (p : Addr) (v0 x : Value) (older : List PanicEntry) (w : World) (hc : w.cell? p = some v0) (hz : w.frozen? p = false) :
    CallsD Tryd.prog 12 #[.pointer (some p)] (.panicking ({ v := .iface 49 x, recovered := false } :: older)) w fun e u' w' =>
      e = .returned (.tuple #[]) ∧ u' = .panicking ({ v := .iface 49 x, recovered := true } :: older) ∧ w' = w.setCell p (.iface 49 x) := by
  have hA := isErr x
  refine callsD_of_wpS Tryd.func12 rfl fun c₀ cs hu => ?_
  apply wpS_seq
  apply wpS_region
  simp [wpOpsS, go_sem, recoverD, hu, Tryd.ntmps12, Exit.thenS, hA]
  apply wpS_seq
  apply wpS_region
  simp [wpOpsS, go_sem, Exit.thenS]
  refine wpS_cond (t := true) (by simp [Act.eval, Array.replicate]) ?_
  simp only [if_true]
  apply wpS_region
  simp [wpOpsS, go_sem, hc, hz, bodyPostS, results, Tryd.results12]

set_option maxRecDepth 100000 in
set_option maxHeartbeats 4000000 in
theorem catch_idle (p : Addr) (w : World) :
    CallsD Tryd.prog 12 #[.pointer (some p)] .returning w fun e u' w' => e = .returned (.tuple #[]) ∧ u' = .returning ∧ w' = w := by
  have hA := noErr
  refine callsD_of_wpS Tryd.func12 rfl fun c₀ cs hu => ?_
  apply wpS_seq
  apply wpS_region
  simp [wpOpsS, go_sem, recoverD, hu, Tryd.ntmps12, Exit.thenS, hA]
  apply wpS_seq
  apply wpS_region
  simp [wpOpsS, go_sem, Exit.thenS]
  refine wpS_cond (t := false) (by simp [Act.eval, Array.replicate]) ?_
  simp only [Bool.false_eq_true, if_false]
  refine wpS_of_wp (wp_skip ?_)
  cases c₀
  simp_all [bodyPostS, results, Tryd.results12]
end Go.Proofs.YtabpkpeonbdinaaDoor.Tree

/-
  Layer 15 (conf): Usual.
-/
import Derived.Test.YtomnkmcabkoagaaConfMemC
namespace Go.Proofs.Ytomnkmcabkoagaa.Conf
open Go.RowKit Go.Proofs.Ytomnkmcabkoagaa.Own Go.Proofs.Ytomnkmcabkoagaa.Rw

def usualV : Value := .agg #[.string ⟨#[]⟩, .int .i64 1, .int .i64 20, .int .i64 4096, .int .i64 3, .int .i64 4096, .int .i64 1, .int .i64 64, .int .i64 4, .string ⟨#[]⟩]
set_option maxRecDepth 100000 in
theorem usual_calls (w : World) : Calls Try.prog 47 #[] w fun e w' => e = .returned usualV ∧ Below w.heap.size w w' := by
  go_enter Try.func47, Try.ntmps47
  go_wp2_with fail
  have N := at_new w (.cells #[.string ⟨#[]⟩, .int .i64 1, .int .i64 20, .int .i64 4096, .int .i64 3, .int .i64 4096, .int .i64 1, .int .i64 64, .int .i64 4, .string ⟨#[]⟩] 47)
  have c0 := (at_cell N 0 : _ = some (Value.string ⟨#[]⟩))
  have c1 := (at_cell N 1 : _ = some (Value.int .i64 1))
  have c2 := (at_cell N 2 : _ = some (Value.int .i64 20))
  have c3 := (at_cell N 3 : _ = some (Value.int .i64 4096))
  have c4 := (at_cell N 4 : _ = some (Value.int .i64 3))
  have c5 := (at_cell N 5 : _ = some (Value.int .i64 4096))
  have c6 := (at_cell N 6 : _ = some (Value.int .i64 1))
  have c7 := (at_cell N 7 : _ = some (Value.int .i64 64))
  have c8 := (at_cell N 8 : _ = some (Value.int .i64 4))
  have c9 := (at_cell N 9 : _ = some (Value.string ⟨#[]⟩))
  refine bodyPost_ret (v := usualV) ?_ rfl ?_
  · simp [results, Try.results47, go_sem, usualV, *]
  · exact ⟨rfl, (Below.refl w.heap.size w).alloc (Nat.le_refl _) _⟩
end Go.Proofs.Ytomnkmcabkoagaa.Conf

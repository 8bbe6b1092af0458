/-
  Layer 14 (brk): op; a step's text.
-/
import Derived.Test.YtiblmhjlngcidaaBrkKind
namespace Go.Proofs.Ytiblmhjlngcidaa.Brk
open Go.RowKit Go.Proofs.Ytiblmhjlngcidaa.Digit Go.Proofs.Ytiblmhjlngcidaa.Own

theorem as_send (v : Value) (w : World) : (Instr.typeAssert (.iface 58 v) 37 58 true).run Try.prog w = .ok (.tuple #[v, .bool true]) w := by kernel_rfl
theorem as_wait (v : Value) (w : World) : (Instr.typeAssert (.iface 59 v) 37 59 true).run Try.prog w = .ok (.tuple #[v, .bool true]) w := by kernel_rfl
theorem as_pulse (v : Value) (w : World) : (Instr.typeAssert (.iface 61 v) 37 61 true).run Try.prog w = .ok (.tuple #[v, .bool true]) w := by kernel_rfl
theorem wait_send (v : Value) (w : World) : (Instr.typeAssert (.iface 59 v) 37 58 true).run Try.prog w = .ok (.tuple #[.string ⟨#[]⟩, .bool false]) w := by kernel_rfl
theorem pulse_send (v : Value) (w : World) : (Instr.typeAssert (.iface 61 v) 37 58 true).run Try.prog w = .ok (.tuple #[.string ⟨#[]⟩, .bool false]) w := by kernel_rfl
theorem pulse_wait (v : Value) (w : World) : (Instr.typeAssert (.iface 61 v) 37 59 true).run Try.prog w = .ok (.tuple #[.int .i64 0, .bool false]) w := by kernel_rfl

theorem row3 {w : World} {b : Nat} {x y z : Value} {T : TypeId} {fr : Nat × Nat} (h : w.heap[b]? = some (.cells #[x, y, z] T fr)) :
    w.cell? ⟨b, 0, none⟩ = some x ∧ w.cell? ⟨b, 1, none⟩ = some y ∧ w.cell? ⟨b, 2, none⟩ = some z := ⟨at_cell h 0, at_cell h 1, at_cell h 2⟩
theorem frz3 {w : World} {b : Nat} {c : Array Value} {T : TypeId} (h : w.heap[b]? = some (.cells c T (0, 0))) :
    w.frozen? ⟨b, 0, none⟩ = false ∧ w.frozen? ⟨b, 1, none⟩ = false ∧ w.frozen? ⟨b, 2, none⟩ = false := ⟨at_frozen h 0, at_frozen h 1, at_frozen h 2⟩

set_option maxRecDepth 100000 in
set_option maxHeartbeats 2000000 in
theorem op_send (s : List UInt8) (hs : s ≠ []) (w : World) :
    Calls Try.prog 18 #[.iface 58 (.string ⟨s.toArray⟩)] w fun e w' => e = .returned (.agg #[.int .i64 1, .string ⟨s.toArray⟩, .int .i64 0]) ∧ Below w.heap.size w w' := by
  have HC := Lib.hid (kind_calls 0 s 0)
  rw [show kd ⟨0, s, 0⟩ = 1 by simp [kd, hs]] at HC
  have f1 := as_send (.string ⟨s.toArray⟩)
  clear hs
  go_enter Try.func18, Try.ntmps18
  go_wp2_with fail
  refine (HC.out _).mono ?_
  rintro e w1 ⟨rfl, hb1⟩
  have r0 := (hb1.block w.heap.size (by simp; omega)).trans (at_old (w.alloc _) _ (at_new w _))
  have r1 := (hb1.block (w.heap.size + 1) (by simp)).trans (at_newk (w.alloc _) _ (by simp))
  have B1 := Lib.hid ((((Below.refl w.heap.size w).alloc (Nat.le_refl _) _).alloc (by simp) _).trans (hb1.mono (by simp; omega)))
  clear hb1
  obtain ⟨a0, a1, a2⟩ := row3 r0
  obtain ⟨c0, c1, c2⟩ := row3 r1
  obtain ⟨d0, d1, d2⟩ := frz3 r0
  obtain ⟨e0, e1, e2⟩ := frz3 r1
  have l0 := at_lt r0
  have l1 := at_lt r1
  have R0 := Lib.hid r0
  clear r0 r1
  go_wp2_with fail
  have hrow := at_set (at_set (at_set ((at_set_other w1 (b := w.heap.size + 1) (k := w.heap.size) (by omega) 0 (.int .i64 1)).trans R0.out) 0 (.int .i64 1)) 1 (.string ⟨s.toArray⟩)) 2 (.int .i64 0)
  refine bodyPost_ret (results_cell_row rfl _ _ w.heap.size _ #[.int .i64 1, .string ⟨s.toArray⟩, .int .i64 0] _ _ rfl hrow Try.underlying32 rfl (by kernel_rfl)) rfl ?_
  exact ⟨rfl, (((B1.out.setCell (by simp) _).setCell (by simp) _).setCell (by simp) _).setCell (by simp) _⟩
set_option maxRecDepth 100000 in
set_option maxHeartbeats 2000000 in
theorem op_wait (n : Int) (hn : 0 < n) (w : World) :
    Calls Try.prog 18 #[.iface 59 (.int .i64 n)] w fun e w' => e = .returned (.agg #[.int .i64 2, .string ⟨#[]⟩, .int .i64 n]) ∧ Below w.heap.size w w' := by
  have HC := Lib.hid (kind_calls 0 [] n)
  rw [show kd ⟨0, [], n⟩ = 2 by rw [kd, if_pos rfl, if_neg (by show ¬ n = 0; omega), if_pos hn]] at HC
  have f1 := as_wait (.int .i64 n)
  have f2 := wait_send (.int .i64 n)
  go_enter Try.func18, Try.ntmps18
  go_wp2_with fail
  refine (HC.out _).mono ?_
  rintro e w1 ⟨rfl, hb1⟩
  have r0 := (hb1.block w.heap.size (by simp; omega)).trans (at_old (w.alloc _) _ (at_new w _))
  have r1 := (hb1.block (w.heap.size + 1) (by simp)).trans (at_newk (w.alloc _) _ (by simp))
  have B1 := Lib.hid ((((Below.refl w.heap.size w).alloc (Nat.le_refl _) _).alloc (by simp) _).trans (hb1.mono (by simp; omega)))
  clear hb1
  obtain ⟨a0, a1, a2⟩ := row3 r0
  obtain ⟨c0, c1, c2⟩ := row3 r1
  obtain ⟨d0, d1, d2⟩ := frz3 r0
  obtain ⟨e0, e1, e2⟩ := frz3 r1
  have l0 := at_lt r0
  have l1 := at_lt r1
  have R0 := Lib.hid r0
  clear r0 r1
  go_wp2_with fail
  have hrow := at_set (at_set (at_set ((at_set_other w1 (b := w.heap.size + 1) (k := w.heap.size) (by omega) 0 (.int .i64 2)).trans R0.out) 0 (.int .i64 2)) 1 (.string ⟨#[]⟩)) 2 (.int .i64 n)
  refine bodyPost_ret (results_cell_row rfl _ _ w.heap.size _ #[.int .i64 2, .string ⟨#[]⟩, .int .i64 n] _ _ rfl hrow Try.underlying32 rfl (by kernel_rfl)) rfl ?_
  exact ⟨rfl, (((B1.out.setCell (by simp) _).setCell (by simp) _).setCell (by simp) _).setCell (by simp) _⟩
set_option maxRecDepth 100000 in
set_option maxHeartbeats 2000000 in
theorem op_pulse (w : World) :
    Calls Try.prog 18 #[.iface 61 (.agg #[])] w fun e w' => e = .returned (.agg #[.int .i64 3, .string ⟨#[]⟩, .int .i64 0]) ∧ Below w.heap.size w w' := by
  have HC := Lib.hid (kind_calls 0 [] 0)
  rw [show kd ⟨0, [], 0⟩ = 3 by rfl] at HC
  have f1 := as_pulse (.agg #[])
  have f2 := pulse_send (.agg #[])
  have f3 := pulse_wait (.agg #[])
  go_enter Try.func18, Try.ntmps18
  go_wp2_with fail
  refine (HC.out _).mono ?_
  rintro e w1 ⟨rfl, hb1⟩
  have r0 := (hb1.block w.heap.size (by simp; omega)).trans (at_old ((w.alloc _).alloc _) _ (at_old (w.alloc _) _ (at_new w _)))
  have r1 := (hb1.block (w.heap.size + 1) (by simp)).trans (at_old ((w.alloc _).alloc _) _ (at_newk (w.alloc _) _ (by simp)))
  have B1 := Lib.hid (((((Below.refl w.heap.size w).alloc (Nat.le_refl _) _).alloc (by simp) _).alloc (by simp; omega) _).trans (hb1.mono (by simp; omega)))
  clear hb1
  obtain ⟨a0, a1, a2⟩ := row3 r0
  obtain ⟨c0, c1, c2⟩ := row3 r1
  obtain ⟨d0, d1, d2⟩ := frz3 r0
  obtain ⟨e0, e1, e2⟩ := frz3 r1
  have l0 := at_lt r0
  have l1 := at_lt r1
  have R0 := Lib.hid r0
  clear r0 r1
  go_wp2_with fail
  have hrow := at_set (at_set (at_set ((at_set_other w1 (b := w.heap.size + 1) (k := w.heap.size) (by omega) 0 (.int .i64 3)).trans R0.out) 0 (.int .i64 3)) 1 (.string ⟨#[]⟩)) 2 (.int .i64 0)
  refine bodyPost_ret (results_cell_row rfl _ _ w.heap.size _ #[.int .i64 3, .string ⟨#[]⟩, .int .i64 0] _ _ rfl hrow Try.underlying32 rfl (by kernel_rfl)) rfl ?_
  exact ⟨rfl, (((B1.out.setCell (by simp) _).setCell (by simp) _).setCell (by simp) _).setCell (by simp) _⟩
theorem op_calls (x : Op) (h : Ok x) (w : World) :
    Calls Try.prog 18 #[stV x] w fun e w' => e = .returned (.agg #[.int .i64 x.k, .string ⟨x.s.toArray⟩, .int .i64 x.n]) ∧ Below w.heap.size w w' := by
  obtain ⟨k, s, n⟩ := x
  rcases h with ⟨a, b, c⟩ | ⟨a, b, c⟩ | ⟨a, b, c⟩
  · simp only at a b c; subst a c; exact op_send s b w
  · simp only at a b c; subst a b; exact op_wait n (by omega) w
  · simp only at a b c; subst a b c; exact op_pulse w
end Go.Proofs.Ytiblmhjlngcidaa.Brk

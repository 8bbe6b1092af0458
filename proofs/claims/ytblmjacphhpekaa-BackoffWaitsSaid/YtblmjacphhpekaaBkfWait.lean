/-
  Layer 18 (backoff): a wait in memory; New, isMade, Tries, Good, walked.
-/
import Derived.Test.YtblmjacphhpekaaBkfLow
namespace Go.Proofs.Ytblmjacphhpekaa.Bkf
open Go.RowKit Go.Proofs.Ytblmjacphhpekaa.Own Go.Proofs.Ytblmjacphhpekaa.Rw Go.Proofs.Ytblmjacphhpekaa.Tree Go.Proofs.Ytblmjacphhpekaa.Calc

/-- block k is a wait with so many failures -/
abbrev IsW (w : World) (k : Nat) (b c j a : Int) : Prop := w.heap[k]? = some (.cells #[.int .i64 b, .int .i64 c, .int .i64 j, .int .i64 a] 42 (0, 0))
theorem IsW.out {w w' : World} {k : Nat} {b c j a : Int} {S : Nat → Prop} (h : IsW w k b c j a) (ho : Out S w w') (hs : ¬ S k) : IsW w' k b c j a := ho.at_ h hs
theorem IsW.below {w w' : World} {k : Nat} {b c j a : Int} (h : IsW w k b c j a) (ho : Below w.heap.size w w') : IsW w' k b c j a := (Out.ofNew (S := fun _ => False) ho).at_ h id
theorem row4 {w : World} {B : Nat} {x0 x1 x2 x3 : Value} {T : TypeId} (h : w.heap[B]? = some (.cells #[x0, x1, x2, x3] T (0, 0))) : w.cell? ⟨B, 0, none⟩ = some x0 ∧ w.cell? ⟨B, 1, none⟩ = some x1 ∧ w.cell? ⟨B, 2, none⟩ = some x2 ∧ w.cell? ⟨B, 3, none⟩ = some x3 := ⟨at_cell h 0, at_cell h 1, at_cell h 2, at_cell h 3⟩
set_option maxRecDepth 100000 in
set_option maxHeartbeats 2000000 in
theorem made_calls {w : World} {k : Nat} {b c j a : Int} (h : IsW w k b c j a) (ha : a ≠ 0) :
    Calls Try.prog 16 #[.pointer (some ⟨k, 0, none⟩)] w fun e w' => e = .returned (.bool true) ∧ ∃ n, w' = w.drewN n := by
  obtain ⟨c0, c1, c2, c3⟩ := row4 h
  have ha2 : (a == 0) = false := by simpa using ha
  clear h ha
  go_enter Try.func16, Try.ntmps16
  go_wp2_with fail
  go_big_quiet (fail)
  go_wp2_with fail
  go_ret
  exact ⟨rfl, _, rfl⟩
set_option maxRecDepth 100000 in
set_option maxHeartbeats 2000000 in
theorem tries_calls {w : World} {k : Nat} {b c j : Int} {n : Nat} (hn : n < 1000000000000000000) (h : IsW w k b c j (n + 1)) :
    Calls Try.prog 12 #[.pointer (some ⟨k, 0, none⟩)] w fun e w' => e = .returned (.int .i64 n) ∧ ∃ n, w' = w.drewN n := by
  have HM := Lib.hid (made_calls h (by omega))
  obtain ⟨c0, c1, c2, c3⟩ := row4 h
  clear h
  go_enter Try.func12, Try.ntmps12
  go_wp2_with fail
  refine HM.out.mono ?_
  rintro e w' ⟨rfl, m, rfl⟩
  go_wp2_with fail
  go_ret
  exact ⟨ret_int (by omega), _, rfl⟩
set_option maxRecDepth 100000 in
set_option maxHeartbeats 2000000 in
theorem good_calls {w : World} {k : Nat} {b c j a : Int} (h : IsW w k b c j a) (ha : a ≠ 0) :
    Calls Try.prog 9 #[.pointer (some ⟨k, 0, none⟩)] w fun e w' => e = .returned (.tuple #[]) ∧ IsW w' k b c j 1 ∧ Out (fun i => i = k) w w' := by
  have HM := Lib.hid (made_calls h ha)
  have HW := Lib.hid h
  obtain ⟨c0, c1, c2, c3⟩ := row4 h
  have hlt := at_lt h
  have hf := at_frozen h 3
  clear h ha
  go_enter Try.func9, Try.ntmps9
  go_wp2_with fail
  refine HM.out.mono ?_
  rintro e w' ⟨rfl, m, rfl⟩
  go_wp2_with fail
  go_end0
  exact ⟨rfl, at_set (w := w.drewN m) HW.out 3 _, ((Out.refl (fun i => i = k) w).drewN m).setCell (p := ⟨k, 3, none⟩) (fun _ => rfl) _⟩
set_option maxRecDepth 100000 in
set_option maxHeartbeats 2000000 in
theorem new_yes (b c j : Int) (h : okR b c j) (w : World) :
    Calls Try.prog 6 #[.agg #[.int .i64 b, .int .i64 c, .int .i64 j]] w fun e w' => ∃ k, e = .returned (.tuple #[.pointer (some ⟨k, 0, none⟩), .int .i64 0]) ∧ IsW w' k b c j 1 ∧ w.heap.size ≤ k ∧ Below w.heap.size w w' := by
  have HC := Lib.hid (chk_ok h)
  clear h
  go_enter Try.func6, Try.ntmps6
  go_wp2_with fail
  refine (check_calls b c j _).mono ?_
  rintro e w1 ⟨rfl, hb⟩
  rw [HC.out]
  obtain ⟨c0, c1, c2⟩ := row3i ((hb.block w.heap.size (by simp)).trans (at_new w _))
  have B1 := Lib.hid (((Below.refl w.heap.size w).alloc (Nat.le_refl _) _).trans (hb.mono (by simp)))
  clear hb
  go_wp2_with fail
  go_ret2
  exact ⟨_, rfl, at_new w1 _, B1.out.size, B1.out.alloc B1.out.size _⟩
set_option maxRecDepth 100000 in
set_option maxHeartbeats 2000000 in
theorem new_no (b c j : Int) (h : ¬ okR b c j) (w : World) :
    Calls Try.prog 6 #[.agg #[.int .i64 b, .int .i64 c, .int .i64 j]] w fun e w' => e = .returned (.tuple #[.pointer none, .int .i64 2]) ∧ Below w.heap.size w w' := by
  have HC := Lib.hid (chk_no h)
  clear h
  go_enter Try.func6, Try.ntmps6
  go_wp2_with fail
  refine (check_calls b c j _).mono ?_
  rintro e w1 ⟨rfl, hb⟩
  rw [HC.out]
  have B1 := Lib.hid (((Below.refl w.heap.size w).alloc (Nat.le_refl _) _).trans (hb.mono (by simp)))
  clear hb
  go_wp2_with fail
  go_ret2
  exact ⟨rfl, B1.out⟩
end Go.Proofs.Ytblmjacphhpekaa.Bkf

/-
  Layer 6 (timer): the law's example, over the timer's face.
-/
import Derived.Test.YtmmgpifidlekaaaTimerFace
namespace Go.Proofs.Ytmmgpifidlekaaa.Timer
open Go.RowKit Go.Proofs.Ytmmgpifidlekaaa.Own Go.Proofs.Ytmmgpifidlekaaa.Hp

theorem own_two {w : World} {B : Nat} {p : Option Addr} {n c : Nat} {a b : Int} (h : w.ownsRow B 3 1 (.slice p n c) 2 (iv [a, b])) : ∃ g, p = some ⟨g, 0, none⟩ ∧ w.cell? ⟨g, 0, none⟩ = some (.int .i64 a) ∧ w.cell? ⟨g, 1, none⟩ = some (.int .i64 b) ∧ g < w.heap.size := by
  have hc := @World.ownsRow.cells _ _ _ _ _ _ _ h
  rcases h.2 with ⟨_, h0⟩ | ⟨g, cap, cur, e, _, hg, _⟩
  · omega
  · cases e
    have h0 := hc (g := g) rfl 0 _ rfl
    have h1 := hc (g := g) rfl 1 _ rfl
    rw [add_at] at h0 h1
    exact ⟨g, rfl, h0, h1, at_lt hg⟩

theorem r100 : ∀ n : Int, -100 ≤ n ∧ n ≤ 100 → i64 n := fun n h => ⟨by omega, by omega⟩
theorem ex1 : setC [] 2 5 30 = 0 ∧ setL [] 2 5 30 = [(5, 30)] := ⟨by kernel_rfl, by kernel_rfl⟩
theorem ex2 : setC [(5, 30)] 2 7 20 = 0 ∧ setL [(5, 30)] 2 7 20 = [(7, 20), (5, 30)] := ⟨by kernel_rfl, by kernel_rfl⟩
theorem ex3 : setC [(7, 20), (5, 30)] 2 9 1 = 6 ∧ setL [(7, 20), (5, 30)] 2 9 1 = [(7, 20), (5, 30)] := ⟨by kernel_rfl, by kernel_rfl⟩
theorem ex4 : setC [(7, 20), (5, 30)] 2 5 (-1) = 1 ∧ setL [(7, 20), (5, 30)] 2 5 (-1) = [(7, 20), (5, 30)] := ⟨by kernel_rfl, by kernel_rfl⟩
theorem ex5 : setC [(7, 20), (5, 30)] 2 5 10 = 0 ∧ setL [(7, 20), (5, 30)] 2 5 10 = [(5, 10), (7, 20)] := ⟨by kernel_rfl, by kernel_rfl⟩
theorem ex6 : due [(5, 10), (7, 20)] 9 = [] ∧ rest [(5, 10), (7, 20)] 9 = [(5, 10), (7, 20)] := ⟨by kernel_rfl, by kernel_rfl⟩
theorem ex7 : due [(5, 10), (7, 20)] 20 = [(5, 10), (7, 20)] ∧ rest [(5, 10), (7, 20)] 20 = [] := ⟨by kernel_rfl, by kernel_rfl⟩
theorem ex8 : isIn [] 5 = false ∧ delL [] 5 = [] := ⟨rfl, rfl⟩

section
variable {IsT : TRel}
theorem wk_next (F : Face IsT) {W w : World} {tb : Nat} (h : Mine IsT W w tb 2 [(5, 10), (7, 20)]) : Calls Try.prog 15 #[.pointer (some ⟨tb, 0, none⟩)] w fun e w' =>
    e = .returned (.tuple #[.int .i64 5, .int .i64 10, .bool true]) ∧ Mine IsT W w' tb 2 [(5, 10), (7, 20)] := h.next F
theorem wk_due1 (F : Face IsT) {W w : World} {tb : Nat} (h : Mine IsT W w tb 2 [(5, 10), (7, 20)]) : Calls Try.prog 14 #[.pointer (some ⟨tb, 0, none⟩), .int .i64 9] w fun e w' =>
    ∃ p c, e = .returned (.slice p 0 c) ∧ Mine IsT W w' tb 2 [(5, 10), (7, 20)] :=
  (h.due_ F 9 ⟨by omega, by omega⟩ ex6.1 ex6.2).mono fun _ _ ⟨p, c, a, _, b⟩ => ⟨p, c, a, b⟩
theorem wk_due2 (F : Face IsT) {W w : World} {tb : Nat} (h : Mine IsT W w tb 2 [(5, 10), (7, 20)]) : Calls Try.prog 14 #[.pointer (some ⟨tb, 0, none⟩), .int .i64 20] w fun e w' =>
    ∃ g c, e = .returned (.slice (some ⟨g, 0, none⟩) 2 c) ∧ w'.cell? ⟨g, 0, none⟩ = some (.int .i64 5) ∧ w'.cell? ⟨g, 1, none⟩ = some (.int .i64 7) ∧ Mine IsT W w' tb 2 [] := by
  refine (h.due_ F 20 ⟨by omega, by omega⟩ ex7.1 ex7.2).mono ?_
  rintro e w' ⟨p, c, rfl, o, b⟩
  obtain ⟨g, rfl, x0, x1, _⟩ := own_two o
  exact ⟨g, c, rfl, x0, x1, b⟩
theorem wk_len (F : Face IsT) {W w : World} {tb : Nat} (h : Mine IsT W w tb 2 []) : Calls Try.prog 18 #[.pointer (some ⟨tb, 0, none⟩)] w fun e w' =>
    e = .returned (.int .i64 0) ∧ Mine IsT W w' tb 2 [] := h.len_ F

set_option maxRecDepth 100000 in
set_option maxHeartbeats 2000000 in
theorem works_walk (F : Face IsT) (w : World) : Calls Try.prog 6 #[] w fun e w' => e = .returned (.bool true) ∧ Below w.heap.size w w' := by
  go_enter Try.func6, Try.ntmps6
  go_wp2_with fail
  refine (Mine.new F (Below.refl _ w) 2 (by omega) (by omega)).mono ?_
  rintro e w0 ⟨tb, rfl, m⟩
  have M0 := Lib.hid m
  clear m
  go_wp2_with fail
  refine (F.new_none 0 _ (by omega)).mono ?_
  rintro e w1 ⟨rfl, hb⟩
  have M1 := Lib.hid (M0.out.below F hb)
  clear hb
  go_wp2_with fail
  refine (M1.out.set_ F 5 30 (r100 _ (by omega)) (r100 _ (by omega)) ex1.1 ex1.2).mono ?_
  rintro e w2 ⟨rfl, m⟩
  have M2 := Lib.hid m
  clear m
  go_wp2_with fail
  refine (M2.out.set_ F 7 20 (r100 _ (by omega)) (r100 _ (by omega)) ex2.1 ex2.2).mono ?_
  rintro e w3 ⟨rfl, m⟩
  have M3 := Lib.hid m
  clear m
  go_wp2_with fail
  refine (M3.out.set_ F 9 1 (r100 _ (by omega)) (r100 _ (by omega)) ex3.1 ex3.2).mono ?_
  rintro e w4 ⟨rfl, m⟩
  have M4 := Lib.hid m
  clear m
  go_wp2_with fail
  refine (M4.out.set_ F 5 (-1) (r100 _ (by omega)) (r100 _ (by omega)) ex4.1 ex4.2).mono ?_
  rintro e w5 ⟨rfl, m⟩
  have M5 := Lib.hid m
  clear m
  go_wp2_with fail
  refine (M5.out.set_ F 5 10 (r100 _ (by omega)) (r100 _ (by omega)) ex5.1 ex5.2).mono ?_
  rintro e w6 ⟨rfl, m⟩
  have M6 := Lib.hid m
  clear m
  go_wp2_with fail
  refine (wk_next F M6.out).mono ?_
  rintro e w7 ⟨rfl, m⟩
  have M7 := Lib.hid m
  clear m
  go_wp2_with fail
  refine (wk_due1 F M7.out).mono ?_
  rintro e w8 ⟨p8, c8, rfl, m⟩
  have M8 := Lib.hid m
  clear m
  go_wp2_with fail
  refine (wk_due2 F M8.out).mono ?_
  rintro e w9 ⟨g9, c9, rfl, x0, x1, m⟩
  have M9 := Lib.hid m
  clear m
  go_wp2_with fail
  refine (wk_len F M9.out).mono ?_
  rintro e w10 ⟨rfl, m⟩
  have M10 := Lib.hid m
  clear m
  go_wp2_with fail
  refine (M10.out.cancel F 5 (r100 _ (by omega)) ex8.1 ex8.2).mono ?_
  rintro e w11 ⟨rfl, m⟩
  have M11 := Lib.hid m
  clear m
  go_wp2_with fail
  go_ret
  exact ⟨rfl, M11.out.1⟩
end
end Go.Proofs.Ytmmgpifidlekaaa.Timer

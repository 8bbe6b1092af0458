/-
  Layer 17 (runner): isStep, over, Step, walked.
-/
import Derived.Test.YtciighiecoalmaaRunMem
import Derived.Test.YtciighiecoalmaaRunRef2
import Derived.Test.YtciighiecoalmaaCalcAdd
namespace Go.Proofs.Ytciighiecoalmaa.Run
open Go.RowKit Go.Proofs.Ytciighiecoalmaa.Own Go.Proofs.Ytciighiecoalmaa.Brk Go.Proofs.Ytciighiecoalmaa.Calc

/-- whether it is a step -/
def isB (x : Op) : Bool := decide (Is x)
set_option maxRecDepth 100000 in
set_option maxHeartbeats 2000000 in
theorem isStep_calls (x : Op) (w : World) :
    Calls Try.prog 21 #[.agg #[.int .i64 x.k, .string ⟨x.s.toArray⟩, .int .i64 x.n]] w fun e w' => e = .returned (.bool (isB x)) ∧ Below w.heap.size w w' := by
  have HK := kinds x
  obtain ⟨xk, xs, xn⟩ := x
  simp only at HK
  rcases HK with ⟨HI, HK⟩ | ⟨HI, HK⟩
  · have HE := Lib.hid (show isB ⟨xk, xs, xn⟩ = false from by unfold isB; simpa using HI)
    clear HI
    rcases HK with ⟨k1, k2, k3⟩ | ⟨rfl, rfl⟩ | ⟨rfl, s1, n1⟩ | ⟨rfl, s1⟩ | ⟨rfl, rfl, n1⟩ | ⟨rfl, s1⟩ | ⟨rfl, rfl, n1⟩ <;>
    · go_enter Try.func21, Try.ntmps21
      go_wp2_with fail
      go_ret
      exact ⟨ret_bool HE.out.symm, (Below.refl _ _).alloc (Nat.le_refl _) _⟩
  · have HE := Lib.hid (show isB ⟨xk, xs, xn⟩ = true from by unfold isB; simpa using HI)
    clear HI
    rcases HK with ⟨rfl, s1, rfl⟩ | ⟨rfl, rfl, n1⟩ | ⟨rfl, rfl, rfl⟩ <;>
    · go_enter Try.func21, Try.ntmps21
      go_wp2_with fail
      go_ret
      exact ⟨ret_bool HE.out.symm, (Below.refl _ _).alloc (Nat.le_refl _) _⟩

theorem ret_ov {a b c d : Int} (h : a = b) (g : c = d) : Ending.returned (.tuple #[.int .i64 a, .int .i64 c]) = .returned (.tuple #[.int .i64 b, .int .i64 d]) := by rw [h, g]
set_option maxRecDepth 100000 in
set_option maxHeartbeats 2000000 in
theorem over_calls (a : Int) (x : Op) (w : World) :
    Calls Try.prog 19 #[.int .i64 a, .agg #[.int .i64 x.k, .string ⟨x.s.toArray⟩, .int .i64 x.n]] w fun e w' => e = .returned (.tuple #[.int .i64 (ovV a x), .int .i64 (ovC a x)]) ∧ Below w.heap.size w w' := by
  have HS := Lib.hid (isStep_calls x)
  by_cases hI : Is x
  · rw [show isB x = true from by unfold isB; simpa using hI] at HS
    have hx : ∃ s c, addC a x.n = c ∧ addV a x.n = s := ⟨_, _, rfl, rfl⟩
    obtain ⟨s, c, hc, hs⟩ := hx
    have HA := Lib.hid (add_calls a x.n)
    rw [hc, hs] at HA
    have HV : Hid (if c = 0 then ovC a x = 0 ∧ ovV a x = s else ovC a x = 2 ∧ ovV a x = 0) := by
      show if c = 0 then _ else _
      split
      · rename_i h0
        have h1 := ov_ok hI (a := a) (by rw [hc, h0])
        refine ⟨h1, ?_⟩
        unfold ovV; rw [if_pos h1, ← hs, addV_some (by rw [hc, h0])]
      · rename_i h0
        have h1 := ov_far hI (a := a) (by rw [hc]; exact h0)
        refine ⟨h1, ?_⟩
        unfold ovV; rw [h1, if_neg (by omega)]
    obtain ⟨xk, xs, xn⟩ := x
    clear hI hc hs
    simp only at HA
    by_cases h0 : c = 0
    · subst h0
      have HW := Lib.hid (show _ ∧ _ from by have := HV.out; rwa [if_pos rfl] at this)
      clear HV
      go_enter Try.func19, Try.ntmps19
      go_wp2_with fail
      refine (HS.out _).mono ?_
      rintro e w1 ⟨rfl, hb1⟩
      have r0 := (hb1.block w.heap.size (by simp)).trans (at_new w _)
      have B1 := Lib.hid (((Below.refl w.heap.size w).alloc (Nat.le_refl _) _).trans (hb1.mono (by simp)))
      obtain ⟨a0, a1, a2⟩ := row3 r0
      clear hb1 r0
      go_wp2_with (go_at_call 22; refine (HA.out _).mono ?_; rintro e w' ⟨rfl, rfl⟩)
      go_ret2
      exact ⟨ret_ov HW.out.2.symm HW.out.1.symm, B1.out⟩
    · have HW := Lib.hid (show _ ∧ _ from by have := HV.out; rwa [if_neg h0] at this)
      have hb3 : (c != 0) = true := by simpa using h0
      clear HV
      go_enter Try.func19, Try.ntmps19
      go_wp2_with fail
      refine (HS.out _).mono ?_
      rintro e w1 ⟨rfl, hb1⟩
      have r0 := (hb1.block w.heap.size (by simp)).trans (at_new w _)
      have B1 := Lib.hid (((Below.refl w.heap.size w).alloc (Nat.le_refl _) _).trans (hb1.mono (by simp)))
      obtain ⟨a0, a1, a2⟩ := row3 r0
      clear hb1 r0
      go_wp2_with (go_at_call 22; refine (HA.out _).mono ?_; rintro e w' ⟨rfl, rfl⟩)
      go_ret2
      exact ⟨ret_ov HW.out.2.symm HW.out.1.symm, B1.out⟩
  · rw [show isB x = false from by unfold isB; simpa using hI] at HS
    have HW := Lib.hid (show ovC a x = 1 ∧ ovV a x = 0 from ⟨ov_no hI, by unfold ovV; rw [ov_no hI, if_neg (by omega)]⟩)
    obtain ⟨xk, xs, xn⟩ := x
    clear hI
    go_enter Try.func19, Try.ntmps19
    go_wp2_with fail
    refine (HS.out _).mono ?_
    rintro e w1 ⟨rfl, hb1⟩
    have B1 := Lib.hid (((Below.refl w.heap.size w).alloc (Nat.le_refl _) _).trans (hb1.mono (by simp)))
    clear hb1
    go_wp2_with fail
    go_ret2
    exact ⟨ret_ov HW.out.2.symm HW.out.1.symm, B1.out⟩

/-- a slice's end, from its second element on -/
theorem cut1 (q o n c : Nat) (h : n ≤ c) : ∃ p' : Option Addr, (0 < n → p' = some ⟨q, o + 4, none⟩) ∧ ∀ W, (Instr.sliceAt 47 (.slice (some ⟨q, o, none⟩) (n + 1) (c + 1)) (some (.int .i64 1)) none none).run Try.prog W = .ok (.slice p' n c) W := by
  have ht : Try.prog.underlying 47 = some (.slice (Try.prog.elem 47)) := by kernel_rfl
  have he : Try.prog.elem 47 = 56 := by kernel_rfl
  have hI : (Try.prog.info? 56).map (fun i => i.size) = some 4 := by kernel_rfl
  cases hi : Try.prog.info? 56 with
  | none => rw [hi] at hI; cases hI
  | some i =>
    rw [hi] at hI
    have hz : i.size = 4 := by simpa using hI
    refine ⟨if c + 1 = 1 then some ⟨q, o, none⟩ else some ⟨q, o + 4, none⟩, fun hn => by rw [if_neg (by omega)], fun W => ?_⟩
    have hs : (sizeOf 56).run Try.prog W = .ok 4 W := by simp [sizeOf, typeInfo, hi, hz]
    rw [run_sliceAt_slice W _ _ _ _ _ ht, run_slice_l W _ _ _ _ ht .i64 1 (by omega) (by omega), he, hs]
    simp only [Result.andThen, sliced]
    simp [Addr.add]
/-- how many were not told yet -/
def leftLen (w : World) (b : Nat) : Nat := match w.cell? ⟨b, 0, none⟩ with
  | some (.slice _ n _) => n
  | _ => 0
theorem left_len {w : World} {b n c : Nat} {p : Option Addr} {x y : Value} {T : TypeId} {fr : Nat × Nat} (h : w.heap[b]? = some (.cells #[.slice p n c, x, y] T fr)) : leftLen w b = n := by
  unfold leftLen; rw [at_cell h 0]; rfl
end Go.Proofs.Ytciighiecoalmaa.Run

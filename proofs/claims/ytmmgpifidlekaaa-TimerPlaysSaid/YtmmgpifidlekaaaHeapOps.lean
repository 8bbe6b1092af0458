/-
  container/heap's Fix, Push, Remove over up and down (XHeapWalk), whatever keeps the entries.
-/
import Derived.Test.YtmmgpifidlekaaaHeapWalk
namespace Go.Proofs.Ytmmgpifidlekaaa.Hp
open Go.RowKit

/-- a method that is found by its name, at each world that keeps the entries, and entered -/
structure Finds (Rep : World → List Ent → Prop) (T : TypeId) (rv : Value) (name : String) (r : Value) (g : Nat) : Prop where
  find : ∀ {w l}, Rep w l → (method (Try.prog.types.size + 100) T rv name).run Try.prog w = .ok (g, r) w
  enters : ∀ args w, (callFunc g args).run Try.prog w = .ok (.enter g args) w

section
variable {Rep : World → List Ent → Prop} {T : TypeId} {rv rl rs rn rp : Value} {gl gs gn gp : Nat}

theorem fix_calls (M : Meth Rep T rv rl rs gl gs) (F : Finds Rep T rv "Len" rn gn) (hlen : ∀ {w l}, Rep w l → Calls Try.prog gn #[rn] w fun e w' => e = .returned (.int .i64 l.length) ∧ Rep w' l)
    (l : List Ent) (i : Nat) (hi : i < l.length) (hl : l.length < 2305843009213693952) (w : World) (hr : Rep w l) :
    Calls Try.prog 25 #[.iface T rv, .int .i64 i] w fun e w' => e = .returned (.tuple #[]) ∧ Rep w' (fix l i l.length) := by
  have tn := (show Try.prog.types.size = _ from Try.types_size)
  have mN := F.find hr
  simp only [tn, Nat.reduceAdd] at mN
  have eN := F.enters
  have hN := hlen hr
  have hD := fun w1 (R1 : Rep w1 l) => down_calls M l i l.length (Nat.le_refl _) hi hl w1 R1
  cases hc : decide (i < (hdn l i l.length).2)
  · rw [hc] at hD
    have hU := fun w1 (R1 : Rep w1 (hdn l i l.length).1) => up_calls M _ i (by rw [hdn_len (Nat.le_refl _) hi]; exact hi) (by rw [hdn_len (Nat.le_refl _) hi]; omega) w1 R1
    go_enter Try.func25, Try.ntmps25
    go_wp2_with (first
      | (go_at_fn gn; refine hN.mono ?_; rintro e w1 ⟨rfl, R1⟩)
      | (go_at_call 28; refine (hD _ R1).mono ?_; rintro e w2 ⟨rfl, R2⟩)
      | (go_at_call 29; refine (hU _ R2).mono ?_; rintro e w3 ⟨rfl, R3⟩))
    go_end0
    have : fix l i l.length = hup (hdn l i l.length).1 i := by simp at hc; simp [fix]; omega
    exact ⟨rfl, by rw [this]; exact R3⟩
  · rw [hc] at hD
    go_enter Try.func25, Try.ntmps25
    go_wp2_with (first
      | (go_at_fn gn; refine hN.mono ?_; rintro e w1 ⟨rfl, R1⟩)
      | (go_at_call 28; refine (hD _ R1).mono ?_; rintro e w2 ⟨rfl, R2⟩))
    go_end0
    have : fix l i l.length = (hdn l i l.length).1 := by simp at hc; simp [fix, hc]
    exact ⟨rfl, by rw [this]; exact R2⟩

theorem push_calls (M : Meth Rep T rv rl rs gl gs) (F : Finds Rep T rv "Len" rn gn) (hlen : ∀ {w l}, Rep w l → Calls Try.prog gn #[rn] w fun e w' => e = .returned (.int .i64 l.length) ∧ Rep w' l)
    (w : World) (mP : (method (Try.prog.types.size + 100) T rv "Push").run Try.prog w = .ok (gp, rp) w) (eP : ∀ args w, (callFunc gp args).run Try.prog w = .ok (.enter gp args) w)
    (x : Value) (l : List Ent) (hl0 : 0 < l.length) (hl : l.length < 2305843009213693952)
    (hP : Calls Try.prog gp #[rp, x] w fun e w' => e = .returned (.tuple #[]) ∧ Rep w' l) :
    Calls Try.prog 26 #[.iface T rv, x] w fun e w' => e = .returned (.tuple #[]) ∧ Rep w' (hup l (l.length - 1)) := by
  have tn := (show Try.prog.types.size = _ from Try.types_size)
  have mN := fun w1 (R1 : Rep w1 l) => F.find R1
  simp only [tn, Nat.reduceAdd] at mN mP
  have eN := F.enters
  have hN := fun w1 (R1 : Rep w1 l) => hlen R1
  have hU := fun w1 (R1 : Rep w1 l) => up_calls M l (l.length - 1) (by omega) (by omega) w1 R1
  have e1 : IntKind.i64.wrap ((l.length : Int) - 1) = ((l.length - 1 : Nat) : Int) := by rw [IntWalk.i64_in _ (by omega)]; omega
  generalize l.length - 1 = m at *
  go_enter Try.func26, Try.ntmps26
  go_wp2_with (first
    | (go_at_fn gp; refine hP.mono ?_; rintro e w1 ⟨rfl, R1⟩; have mN1 := mN _ R1)
    | (go_at_fn gn; refine (hN _ R1).mono ?_; rintro e w2 ⟨rfl, R2⟩)
    | (go_at_call 29; refine (hU _ R2).mono ?_; rintro e w3 ⟨rfl, R3⟩))
  go_end0
  exact ⟨rfl, R3⟩

/-- what comes of the last one taken -/
abbrev Post := Value → World → Prop

set_option maxHeartbeats 2000000 in
theorem remove_calls (M : Meth Rep T rv rl rs gl gs) (F : Finds Rep T rv "Len" rn gn) (hlen : ∀ {w l}, Rep w l → Calls Try.prog gn #[rn] w fun e w' => e = .returned (.int .i64 l.length) ∧ Rep w' l)
    (G : Finds Rep T rv "Pop" rp gp) (l : List Ent) (i : Nat) (hi : i < l.length) (hl : l.length < 2305843009213693952) (Q : Post) (l' : List Ent)
    (hl' : l' = if i = l.length - 1 then l else fix (swp l i (l.length - 1)) i (l.length - 1))
    (hpop : ∀ w1, Rep w1 l' → Calls Try.prog gp #[rp] w1 fun e w' => ∃ v, e = .returned v ∧ Q v w')
    (w : World) (hr : Rep w l) :
    Calls Try.prog 27 #[.iface T rv, .int .i64 i] w fun e w' => ∃ v, e = .returned v ∧ Q v w' := by
  have tn := (show Try.prog.types.size = _ from Try.types_size)
  have mN := F.find hr
  have mS := fun w1 (R1 : Rep w1 l) => M.findS R1
  have mP := fun w1 (R1 : Rep w1 l') => G.find R1
  simp only [tn, Nat.reduceAdd] at mN mS mP
  have eN := F.enters
  have eS := M.entersS
  have eP := G.enters
  have hN := hlen hr
  have e1 : IntKind.i64.wrap ((l.length : Int) - 1) = ((l.length - 1 : Nat) : Int) := by rw [IntWalk.i64_in _ (by omega)]; omega
  by_cases hc : i = l.length - 1
  · rw [if_pos hc] at hl'
    subst hl'
    rw [← hc] at e1
    clear hc
    go_enter Try.func27, Try.ntmps27
    go_wp2_with (first
      | (go_at_fn gn; refine hN.mono ?_; rintro e w1 ⟨rfl, R1⟩; have mP1 := mP _ R1)
      | (go_at_fn gp; refine (hpop _ R1).mono ?_; rintro e w4 ⟨v, rfl, hq⟩))
    go_ret
    exact ⟨v, rfl, hq⟩
  · rw [if_neg hc] at hl'
    have hS := fun w1 (R1 : Rep w1 l) => M.swap R1 i (l.length - 1) hi (by omega)
    have hD := fun w1 (R1 : Rep w1 (swp l i (l.length - 1))) => down_calls M _ i (l.length - 1) (by rw [swp_len]; omega) (by rw [swp_len]; omega) (by rw [swp_len]; omega) w1 R1
    have hU := fun w1 (R1 : Rep w1 (hdn (swp l i (l.length - 1)) i (l.length - 1)).1) => up_calls M _ i (by rw [hdn_len (by rw [swp_len]; omega) (by rw [swp_len]; omega), swp_len]; omega) (by rw [hdn_len (by rw [swp_len]; omega) (by rw [swp_len]; omega), swp_len]; omega) w1 R1
    generalize l.length - 1 = m at *
    have hne : (m : Int) ≠ (i : Int) := by omega
    cases hd : decide (i < (hdn (swp l i m) i m).2)
    · rw [hd] at hD
      have hf : l' = hup (hdn (swp l i m) i m).1 i := by rw [hl', fix, if_neg (by simpa using hd)]
      rw [← hf] at hU
      clear hc hd
      go_enter Try.func27, Try.ntmps27
      go_wp2_with (first
        | (go_at_fn gn; refine hN.mono ?_; rintro e w1 ⟨rfl, R1⟩; have mS1 := mS _ R1)
        | (go_at_fn gs; refine (hS _ R1).mono ?_; rintro e w2 ⟨rfl, R2⟩)
        | (go_at_call 28; refine (hD _ R2).mono ?_; rintro e w3 ⟨rfl, R3⟩)
        | (go_at_call 29; refine (hU _ R3).mono ?_; rintro e w4 ⟨rfl, R4⟩; have mP4 := mP _ R4)
        | (go_at_fn gp; refine (hpop _ R4).mono ?_; rintro e w5 ⟨v, rfl, hq⟩))
      go_ret
      exact ⟨v, rfl, hq⟩
    · rw [hd] at hD
      have hf : l' = (hdn (swp l i m) i m).1 := by rw [hl', fix, if_pos (by simpa using hd)]
      rw [← hf] at hD
      clear hc hd
      go_enter Try.func27, Try.ntmps27
      go_wp2_with (first
        | (go_at_fn gn; refine hN.mono ?_; rintro e w1 ⟨rfl, R1⟩; have mS1 := mS _ R1)
        | (go_at_fn gs; refine (hS _ R1).mono ?_; rintro e w2 ⟨rfl, R2⟩)
        | (go_at_call 28; refine (hD _ R2).mono ?_; rintro e w3 ⟨rfl, R3⟩; have mP3 := mP _ R3)
        | (go_at_fn gp; refine (hpop _ R3).mono ?_; rintro e w5 ⟨v, rfl, hq⟩))
      go_ret
      exact ⟨v, rfl, hq⟩
end
end Go.Proofs.Ytmmgpifidlekaaa.Hp

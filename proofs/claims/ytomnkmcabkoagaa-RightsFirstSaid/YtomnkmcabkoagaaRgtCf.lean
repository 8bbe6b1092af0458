/-
  Layer 16 (rights): all calls, over a small configuration in memory.
-/
import Derived.Test.YtomnkmcabkoagaaRgtRef4
import Derived.Test.YtomnkmcabkoagaaRgtFewM
namespace Go.Proofs.Ytomnkmcabkoagaa.Rgt
open Go.RowKit Go.Proofs.Ytomnkmcabkoagaa.Own Go.Proofs.Ytomnkmcabkoagaa.Rw Go.Proofs.Ytomnkmcabkoagaa.Tree Go.Proofs.Ytomnkmcabkoagaa.Conf

section
variable {c : Cf} (hs : Few c 12 8 8 12) {v0 v1 v2 v3 : Value} (b0 b1 b2 b3 b4 b5 b6 b7 b8 b9 : Bs) {w : World} (h : CfR w v0 v1 v2 v3 c)
include hs h
set_option linter.unusedVariables false in
theorem Level_cf (u q : Bs) (hu : u.length ≤ 65536) (hc : q.length ≤ 65536) : Calls Try.prog 9 #[confV v0 v1 v2 v3 b0 b1 b2 b3 b4 b5 b6 b7 b8 b9, .string ⟨u.toArray⟩, .string ⟨q.toArray⟩] w (fun e w' => e = .returned (.int .i64 (lvlM c.accs u q)) ∧ Below w.heap.size w w') := by
  obtain ⟨p0, k0, rfl, r0⟩ := h.cons
  obtain ⟨p1, k1, gs, rfl, r1, rg⟩ := h.grps
  obtain ⟨p2, k2, rfl, r2⟩ := h.usrs
  obtain ⟨p3, k3, rfl, r3⟩ := h.accs
  have hx : ∀ x ∈ c.cons, x.name.length ≤ 65536 := fun x hx => Nat.le_trans (hs.cons x hx) (by decide)
  have hl0 : c.cons.length ≤ 65536 := Nat.le_trans hs.l0 (by decide)
  have hl1 : c.grps.length ≤ 65536 := Nat.le_trans hs.l1 (by decide)
  have hl2 : c.usrs.length ≤ 65536 := Nat.le_trans hs.l2 (by decide)
  have hl3 : c.accs.length ≤ 65536 := Nat.le_trans hs.l3 (by decide)
  have hps : ∀ g ∈ c.grps, g.2.length ≤ 65536 := fun g hg => Nat.le_trans (hs.grps g hg).1 (by decide)
  have hpp : ∀ g ∈ c.grps, ∀ p ∈ g.2, p.length ≤ 65536 := fun g hg p hp => Nat.le_trans ((hs.grps g hg).2 p hp) (by decide)
  have hsm : Sml c.accs := fun a ha => ⟨Nat.le_trans (hs.accs a ha).1 (by decide), Nat.le_trans (hs.accs a ha).2 (by decide)⟩
  exact Level_calls c.accs u q hu hc p3 k3 _ _ _ _ b0 b1 b2 b3 b4 b5 b6 b7 b8 b9 rfl hl3 w r3
set_option linter.unusedVariables false in
theorem May_cf (u q : Bs) (need : Int) (hu : u.length ≤ 65536) (hc : q.length ≤ 65536) : Calls Try.prog 10 #[confV v0 v1 v2 v3 b0 b1 b2 b3 b4 b5 b6 b7 b8 b9, .string ⟨u.toArray⟩, .string ⟨q.toArray⟩, .int .i64 need] w (fun e w' => e = .returned (.bool (decide (need ≤ lvlM c.accs u q))) ∧ Below w.heap.size w w') := by
  obtain ⟨p0, k0, rfl, r0⟩ := h.cons
  obtain ⟨p1, k1, gs, rfl, r1, rg⟩ := h.grps
  obtain ⟨p2, k2, rfl, r2⟩ := h.usrs
  obtain ⟨p3, k3, rfl, r3⟩ := h.accs
  have hx : ∀ x ∈ c.cons, x.name.length ≤ 65536 := fun x hx => Nat.le_trans (hs.cons x hx) (by decide)
  have hl0 : c.cons.length ≤ 65536 := Nat.le_trans hs.l0 (by decide)
  have hl1 : c.grps.length ≤ 65536 := Nat.le_trans hs.l1 (by decide)
  have hl2 : c.usrs.length ≤ 65536 := Nat.le_trans hs.l2 (by decide)
  have hl3 : c.accs.length ≤ 65536 := Nat.le_trans hs.l3 (by decide)
  have hps : ∀ g ∈ c.grps, g.2.length ≤ 65536 := fun g hg => Nat.le_trans (hs.grps g hg).1 (by decide)
  have hpp : ∀ g ∈ c.grps, ∀ p ∈ g.2, p.length ≤ 65536 := fun g hg p hp => Nat.le_trans ((hs.grps g hg).2 p hp) (by decide)
  have hsm : Sml c.accs := fun a ha => ⟨Nat.le_trans (hs.accs a ha).1 (by decide), Nat.le_trans (hs.accs a ha).2 (by decide)⟩
  exact May_calls c.accs u q need hu hc p3 k3 _ _ _ _ b0 b1 b2 b3 b4 b5 b6 b7 b8 b9 rfl hl3 w r3
set_option linter.unusedVariables false in
theorem Sees_cf (u : Bs) (hu : u.length ≤ 65536) : Calls Try.prog 12 #[confV v0 v1 v2 v3 b0 b1 b2 b3 b4 b5 b6 b7 b8 b9, .string ⟨u.toArray⟩] w (PlPost w (seesM c u)) := by
  obtain ⟨p0, k0, rfl, r0⟩ := h.cons
  obtain ⟨p1, k1, gs, rfl, r1, rg⟩ := h.grps
  obtain ⟨p2, k2, rfl, r2⟩ := h.usrs
  obtain ⟨p3, k3, rfl, r3⟩ := h.accs
  have hx : ∀ x ∈ c.cons, x.name.length ≤ 65536 := fun x hx => Nat.le_trans (hs.cons x hx) (by decide)
  have hl0 : c.cons.length ≤ 65536 := Nat.le_trans hs.l0 (by decide)
  have hl1 : c.grps.length ≤ 65536 := Nat.le_trans hs.l1 (by decide)
  have hl2 : c.usrs.length ≤ 65536 := Nat.le_trans hs.l2 (by decide)
  have hl3 : c.accs.length ≤ 65536 := Nat.le_trans hs.l3 (by decide)
  have hps : ∀ g ∈ c.grps, g.2.length ≤ 65536 := fun g hg => Nat.le_trans (hs.grps g hg).1 (by decide)
  have hpp : ∀ g ∈ c.grps, ∀ p ∈ g.2, p.length ≤ 65536 := fun g hg p hp => Nat.le_trans ((hs.grps g hg).2 p hp) (by decide)
  have hsm : Sml c.accs := fun a ha => ⟨Nat.le_trans (hs.accs a ha).1 (by decide), Nat.le_trans (hs.accs a ha).2 (by decide)⟩
  exact Sees_calls c.cons c.accs u hu hx p0 p3 k0 _ k3 _ _ _ b0 b1 b2 b3 b4 b5 b6 b7 b8 b9 rfl hl0 rfl hl3 w r0 r3
set_option linter.unusedVariables false in
theorem Enter_cf (u q : Bs) : Calls Try.prog 14 #[confV v0 v1 v2 v3 b0 b1 b2 b3 b4 b5 b6 b7 b8 b9, .string ⟨u.toArray⟩, .string ⟨q.toArray⟩] w (fun e w' => e = .returned (.int .i64 (entM c u q)) ∧ Below w.heap.size w w') := by
  obtain ⟨p0, k0, rfl, r0⟩ := h.cons
  obtain ⟨p1, k1, gs, rfl, r1, rg⟩ := h.grps
  obtain ⟨p2, k2, rfl, r2⟩ := h.usrs
  obtain ⟨p3, k3, rfl, r3⟩ := h.accs
  have hx : ∀ x ∈ c.cons, x.name.length ≤ 65536 := fun x hx => Nat.le_trans (hs.cons x hx) (by decide)
  have hl0 : c.cons.length ≤ 65536 := Nat.le_trans hs.l0 (by decide)
  have hl1 : c.grps.length ≤ 65536 := Nat.le_trans hs.l1 (by decide)
  have hl2 : c.usrs.length ≤ 65536 := Nat.le_trans hs.l2 (by decide)
  have hl3 : c.accs.length ≤ 65536 := Nat.le_trans hs.l3 (by decide)
  have hps : ∀ g ∈ c.grps, g.2.length ≤ 65536 := fun g hg => Nat.le_trans (hs.grps g hg).1 (by decide)
  have hpp : ∀ g ∈ c.grps, ∀ p ∈ g.2, p.length ≤ 65536 := fun g hg p hp => Nat.le_trans ((hs.grps g hg).2 p hp) (by decide)
  have hsm : Sml c.accs := fun a ha => ⟨Nat.le_trans (hs.accs a ha).1 (by decide), Nat.le_trans (hs.accs a ha).2 (by decide)⟩
  exact Enter_calls c u q p0 p1 p2 k0 _ k1 _ k2 _ _ b0 b1 b2 b3 b4 b5 b6 b7 b8 b9 rfl hl2 w r2
set_option linter.unusedVariables false in
theorem Fit_cf (u : Bs) : Calls Try.prog 21 #[confV v0 v1 v2 v3 b0 b1 b2 b3 b4 b5 b6 b7 b8 b9, .string ⟨u.toArray⟩] w (PlPost w (fitM c u)) := by
  obtain ⟨p0, k0, rfl, r0⟩ := h.cons
  obtain ⟨p1, k1, gs, rfl, r1, rg⟩ := h.grps
  obtain ⟨p2, k2, rfl, r2⟩ := h.usrs
  obtain ⟨p3, k3, rfl, r3⟩ := h.accs
  have hx : ∀ x ∈ c.cons, x.name.length ≤ 65536 := fun x hx => Nat.le_trans (hs.cons x hx) (by decide)
  have hl0 : c.cons.length ≤ 65536 := Nat.le_trans hs.l0 (by decide)
  have hl1 : c.grps.length ≤ 65536 := Nat.le_trans hs.l1 (by decide)
  have hl2 : c.usrs.length ≤ 65536 := Nat.le_trans hs.l2 (by decide)
  have hl3 : c.accs.length ≤ 65536 := Nat.le_trans hs.l3 (by decide)
  have hps : ∀ g ∈ c.grps, g.2.length ≤ 65536 := fun g hg => Nat.le_trans (hs.grps g hg).1 (by decide)
  have hpp : ∀ g ∈ c.grps, ∀ p ∈ g.2, p.length ≤ 65536 := fun g hg p hp => Nat.le_trans ((hs.grps g hg).2 p hp) (by decide)
  have hsm : Sml c.accs := fun a ha => ⟨Nat.le_trans (hs.accs a ha).1 (by decide), Nat.le_trans (hs.accs a ha).2 (by decide)⟩
  exact Fit_calls c.cons u hx p0 p1 p2 k0 _ k1 _ k2 _ _ b0 b1 b2 b3 b4 b5 b6 b7 b8 b9 rfl hl0 w r0
set_option linter.unusedVariables false in
theorem Group_cf (u : Bs) : Calls Try.prog 17 #[confV v0 v1 v2 v3 b0 b1 b2 b3 b4 b5 b6 b7 b8 b9, .string ⟨u.toArray⟩] w (GrPost w (grpM c u)) := by
  obtain ⟨p0, k0, rfl, r0⟩ := h.cons
  obtain ⟨p1, k1, gs, rfl, r1, rg⟩ := h.grps
  obtain ⟨p2, k2, rfl, r2⟩ := h.usrs
  obtain ⟨p3, k3, rfl, r3⟩ := h.accs
  have hx : ∀ x ∈ c.cons, x.name.length ≤ 65536 := fun x hx => Nat.le_trans (hs.cons x hx) (by decide)
  have hl0 : c.cons.length ≤ 65536 := Nat.le_trans hs.l0 (by decide)
  have hl1 : c.grps.length ≤ 65536 := Nat.le_trans hs.l1 (by decide)
  have hl2 : c.usrs.length ≤ 65536 := Nat.le_trans hs.l2 (by decide)
  have hl3 : c.accs.length ≤ 65536 := Nat.le_trans hs.l3 (by decide)
  have hps : ∀ g ∈ c.grps, g.2.length ≤ 65536 := fun g hg => Nat.le_trans (hs.grps g hg).1 (by decide)
  have hpp : ∀ g ∈ c.grps, ∀ p ∈ g.2, p.length ≤ 65536 := fun g hg p hp => Nat.le_trans ((hs.grps g hg).2 p hp) (by decide)
  have hsm : Sml c.accs := fun a ha => ⟨Nat.le_trans (hs.accs a ha).1 (by decide), Nat.le_trans (hs.accs a ha).2 (by decide)⟩
  exact Group_calls c u hx hps p0 p1 p2 k0 _ k1 _ k2 _ _ b0 b1 b2 b3 b4 b5 b6 b7 b8 b9 rfl hl0 rfl hl1 w r0 r1 rg
set_option linter.unusedVariables false in
theorem Pick_cf (u q : Bs) (hu : u.length ≤ 65536) : Calls Try.prog 19 #[confV v0 v1 v2 v3 b0 b1 b2 b3 b4 b5 b6 b7 b8 b9, .string ⟨u.toArray⟩, .string ⟨q.toArray⟩] w (fun e w' => e = .returned (.tuple #[.int .i64 (pickM c u q).1, .int .i64 (pickM c u q).2]) ∧ Below w.heap.size w w') := by
  obtain ⟨p0, k0, rfl, r0⟩ := h.cons
  obtain ⟨p1, k1, gs, rfl, r1, rg⟩ := h.grps
  obtain ⟨p2, k2, rfl, r2⟩ := h.usrs
  obtain ⟨p3, k3, rfl, r3⟩ := h.accs
  have hx : ∀ x ∈ c.cons, x.name.length ≤ 65536 := fun x hx => Nat.le_trans (hs.cons x hx) (by decide)
  have hl0 : c.cons.length ≤ 65536 := Nat.le_trans hs.l0 (by decide)
  have hl1 : c.grps.length ≤ 65536 := Nat.le_trans hs.l1 (by decide)
  have hl2 : c.usrs.length ≤ 65536 := Nat.le_trans hs.l2 (by decide)
  have hl3 : c.accs.length ≤ 65536 := Nat.le_trans hs.l3 (by decide)
  have hps : ∀ g ∈ c.grps, g.2.length ≤ 65536 := fun g hg => Nat.le_trans (hs.grps g hg).1 (by decide)
  have hpp : ∀ g ∈ c.grps, ∀ p ∈ g.2, p.length ≤ 65536 := fun g hg p hp => Nat.le_trans ((hs.grps g hg).2 p hp) (by decide)
  have hsm : Sml c.accs := fun a ha => ⟨Nat.le_trans (hs.accs a ha).1 (by decide), Nat.le_trans (hs.accs a ha).2 (by decide)⟩
  exact Pick_calls c u q hu hx p0 p3 k0 _ k3 _ _ _ b0 b1 b2 b3 b4 b5 b6 b7 b8 b9 rfl hl0 rfl hl3 w r0 r3
set_option linter.unusedVariables false in
theorem rLevel_cf (u q : Bs) (hu : u.length ≤ 65536) (hc : q.length ≤ 65536) : Calls Try.prog 8 #[confV v0 v1 v2 v3 b0 b1 b2 b3 b4 b5 b6 b7 b8 b9, .string ⟨u.toArray⟩, .string ⟨q.toArray⟩] w (fun e w' => e = .returned (.int .i64 (lvlM c.accs u q)) ∧ Below w.heap.size w w') := by
  obtain ⟨p0, k0, rfl, r0⟩ := h.cons
  obtain ⟨p1, k1, gs, rfl, r1, rg⟩ := h.grps
  obtain ⟨p2, k2, rfl, r2⟩ := h.usrs
  obtain ⟨p3, k3, rfl, r3⟩ := h.accs
  have hx : ∀ x ∈ c.cons, x.name.length ≤ 65536 := fun x hx => Nat.le_trans (hs.cons x hx) (by decide)
  have hl0 : c.cons.length ≤ 65536 := Nat.le_trans hs.l0 (by decide)
  have hl1 : c.grps.length ≤ 65536 := Nat.le_trans hs.l1 (by decide)
  have hl2 : c.usrs.length ≤ 65536 := Nat.le_trans hs.l2 (by decide)
  have hl3 : c.accs.length ≤ 65536 := Nat.le_trans hs.l3 (by decide)
  have hps : ∀ g ∈ c.grps, g.2.length ≤ 65536 := fun g hg => Nat.le_trans (hs.grps g hg).1 (by decide)
  have hpp : ∀ g ∈ c.grps, ∀ p ∈ g.2, p.length ≤ 65536 := fun g hg p hp => Nat.le_trans ((hs.grps g hg).2 p hp) (by decide)
  have hsm : Sml c.accs := fun a ha => ⟨Nat.le_trans (hs.accs a ha).1 (by decide), Nat.le_trans (hs.accs a ha).2 (by decide)⟩
  exact rLevel_calls c.accs hsm u q hu hc p3 k3 _ _ _ _ b0 b1 b2 b3 b4 b5 b6 b7 b8 b9 rfl w r3
set_option linter.unusedVariables false in
theorem rSees_cf (u : Bs) (hu : u.length ≤ 65536) : Calls Try.prog 13 #[confV v0 v1 v2 v3 b0 b1 b2 b3 b4 b5 b6 b7 b8 b9, .string ⟨u.toArray⟩] w (PlPost w (seesM c u)) := by
  obtain ⟨p0, k0, rfl, r0⟩ := h.cons
  obtain ⟨p1, k1, gs, rfl, r1, rg⟩ := h.grps
  obtain ⟨p2, k2, rfl, r2⟩ := h.usrs
  obtain ⟨p3, k3, rfl, r3⟩ := h.accs
  have hx : ∀ x ∈ c.cons, x.name.length ≤ 65536 := fun x hx => Nat.le_trans (hs.cons x hx) (by decide)
  have hl0 : c.cons.length ≤ 65536 := Nat.le_trans hs.l0 (by decide)
  have hl1 : c.grps.length ≤ 65536 := Nat.le_trans hs.l1 (by decide)
  have hl2 : c.usrs.length ≤ 65536 := Nat.le_trans hs.l2 (by decide)
  have hl3 : c.accs.length ≤ 65536 := Nat.le_trans hs.l3 (by decide)
  have hps : ∀ g ∈ c.grps, g.2.length ≤ 65536 := fun g hg => Nat.le_trans (hs.grps g hg).1 (by decide)
  have hpp : ∀ g ∈ c.grps, ∀ p ∈ g.2, p.length ≤ 65536 := fun g hg p hp => Nat.le_trans ((hs.grps g hg).2 p hp) (by decide)
  have hsm : Sml c.accs := fun a ha => ⟨Nat.le_trans (hs.accs a ha).1 (by decide), Nat.le_trans (hs.accs a ha).2 (by decide)⟩
  exact rSees_calls c.cons c.accs hsm u hu hx p0 p3 k0 _ k3 _ _ _ b0 b1 b2 b3 b4 b5 b6 b7 b8 b9 rfl hl0 rfl w r0 r3
set_option linter.unusedVariables false in
theorem rEnter_cf (u q : Bs) : Calls Try.prog 15 #[confV v0 v1 v2 v3 b0 b1 b2 b3 b4 b5 b6 b7 b8 b9, .string ⟨u.toArray⟩, .string ⟨q.toArray⟩] w (fun e w' => e = .returned (.int .i64 (entM c u q)) ∧ Below w.heap.size w w') := by
  obtain ⟨p0, k0, rfl, r0⟩ := h.cons
  obtain ⟨p1, k1, gs, rfl, r1, rg⟩ := h.grps
  obtain ⟨p2, k2, rfl, r2⟩ := h.usrs
  obtain ⟨p3, k3, rfl, r3⟩ := h.accs
  have hx : ∀ x ∈ c.cons, x.name.length ≤ 65536 := fun x hx => Nat.le_trans (hs.cons x hx) (by decide)
  have hl0 : c.cons.length ≤ 65536 := Nat.le_trans hs.l0 (by decide)
  have hl1 : c.grps.length ≤ 65536 := Nat.le_trans hs.l1 (by decide)
  have hl2 : c.usrs.length ≤ 65536 := Nat.le_trans hs.l2 (by decide)
  have hl3 : c.accs.length ≤ 65536 := Nat.le_trans hs.l3 (by decide)
  have hps : ∀ g ∈ c.grps, g.2.length ≤ 65536 := fun g hg => Nat.le_trans (hs.grps g hg).1 (by decide)
  have hpp : ∀ g ∈ c.grps, ∀ p ∈ g.2, p.length ≤ 65536 := fun g hg p hp => Nat.le_trans ((hs.grps g hg).2 p hp) (by decide)
  have hsm : Sml c.accs := fun a ha => ⟨Nat.le_trans (hs.accs a ha).1 (by decide), Nat.le_trans (hs.accs a ha).2 (by decide)⟩
  exact rEnter_calls c u q p2 k2 _ _ _ _ b0 b1 b2 b3 b4 b5 b6 b7 b8 b9 rfl w r2
set_option linter.unusedVariables false in
theorem rFit_cf (ps : List Bs) (hp : ∀ p ∈ ps, p.length ≤ 65536) (q : Option Addr) (m d : Nat) (hm : m = ps.length) (ht : Texts w q d ps) : Calls Try.prog 22 #[confV v0 v1 v2 v3 b0 b1 b2 b3 b4 b5 b6 b7 b8 b9, .slice q m d] w (PlPost w (fitsM c ps)) := by
  obtain ⟨p0, k0, rfl, r0⟩ := h.cons
  obtain ⟨p1, k1, gs, rfl, r1, rg⟩ := h.grps
  obtain ⟨p2, k2, rfl, r2⟩ := h.usrs
  obtain ⟨p3, k3, rfl, r3⟩ := h.accs
  have hx : ∀ x ∈ c.cons, x.name.length ≤ 65536 := fun x hx => Nat.le_trans (hs.cons x hx) (by decide)
  have hl0 : c.cons.length ≤ 65536 := Nat.le_trans hs.l0 (by decide)
  have hl1 : c.grps.length ≤ 65536 := Nat.le_trans hs.l1 (by decide)
  have hl2 : c.usrs.length ≤ 65536 := Nat.le_trans hs.l2 (by decide)
  have hl3 : c.accs.length ≤ 65536 := Nat.le_trans hs.l3 (by decide)
  have hps : ∀ g ∈ c.grps, g.2.length ≤ 65536 := fun g hg => Nat.le_trans (hs.grps g hg).1 (by decide)
  have hpp : ∀ g ∈ c.grps, ∀ p ∈ g.2, p.length ≤ 65536 := fun g hg p hp => Nat.le_trans ((hs.grps g hg).2 p hp) (by decide)
  have hsm : Sml c.accs := fun a ha => ⟨Nat.le_trans (hs.accs a ha).1 (by decide), Nat.le_trans (hs.accs a ha).2 (by decide)⟩
  exact rFit_calls c.cons ps hx hp p0 k0 _ _ _ _ q m d hm b0 b1 b2 b3 b4 b5 b6 b7 b8 b9 rfl hl0 w r0 ht
set_option linter.unusedVariables false in
theorem rGroup_cf (u : Bs) : Calls Try.prog 18 #[confV v0 v1 v2 v3 b0 b1 b2 b3 b4 b5 b6 b7 b8 b9, .string ⟨u.toArray⟩] w (GrPost w (grpM c u)) := by
  obtain ⟨p0, k0, rfl, r0⟩ := h.cons
  obtain ⟨p1, k1, gs, rfl, r1, rg⟩ := h.grps
  obtain ⟨p2, k2, rfl, r2⟩ := h.usrs
  obtain ⟨p3, k3, rfl, r3⟩ := h.accs
  have hx : ∀ x ∈ c.cons, x.name.length ≤ 65536 := fun x hx => Nat.le_trans (hs.cons x hx) (by decide)
  have hl0 : c.cons.length ≤ 65536 := Nat.le_trans hs.l0 (by decide)
  have hl1 : c.grps.length ≤ 65536 := Nat.le_trans hs.l1 (by decide)
  have hl2 : c.usrs.length ≤ 65536 := Nat.le_trans hs.l2 (by decide)
  have hl3 : c.accs.length ≤ 65536 := Nat.le_trans hs.l3 (by decide)
  have hps : ∀ g ∈ c.grps, g.2.length ≤ 65536 := fun g hg => Nat.le_trans (hs.grps g hg).1 (by decide)
  have hpp : ∀ g ∈ c.grps, ∀ p ∈ g.2, p.length ≤ 65536 := fun g hg p hp => Nat.le_trans ((hs.grps g hg).2 p hp) (by decide)
  have hsm : Sml c.accs := fun a ha => ⟨Nat.le_trans (hs.accs a ha).1 (by decide), Nat.le_trans (hs.accs a ha).2 (by decide)⟩
  exact rGroup_calls c u hx hpp p0 p1 k0 _ k1 _ _ _ b0 b1 b2 b3 b4 b5 b6 b7 b8 b9 rfl hl0 rfl w r0 r1 rg
set_option linter.unusedVariables false in
theorem rPick_cf (u q : Bs) (hu : u.length ≤ 65536) : Calls Try.prog 20 #[confV v0 v1 v2 v3 b0 b1 b2 b3 b4 b5 b6 b7 b8 b9, .string ⟨u.toArray⟩, .string ⟨q.toArray⟩] w (fun e w' => e = .returned (.tuple #[.int .i64 (pickM c u q).1, .int .i64 (pickM c u q).2]) ∧ Below w.heap.size w w') := by
  obtain ⟨p0, k0, rfl, r0⟩ := h.cons
  obtain ⟨p1, k1, gs, rfl, r1, rg⟩ := h.grps
  obtain ⟨p2, k2, rfl, r2⟩ := h.usrs
  obtain ⟨p3, k3, rfl, r3⟩ := h.accs
  have hx : ∀ x ∈ c.cons, x.name.length ≤ 65536 := fun x hx => Nat.le_trans (hs.cons x hx) (by decide)
  have hl0 : c.cons.length ≤ 65536 := Nat.le_trans hs.l0 (by decide)
  have hl1 : c.grps.length ≤ 65536 := Nat.le_trans hs.l1 (by decide)
  have hl2 : c.usrs.length ≤ 65536 := Nat.le_trans hs.l2 (by decide)
  have hl3 : c.accs.length ≤ 65536 := Nat.le_trans hs.l3 (by decide)
  have hps : ∀ g ∈ c.grps, g.2.length ≤ 65536 := fun g hg => Nat.le_trans (hs.grps g hg).1 (by decide)
  have hpp : ∀ g ∈ c.grps, ∀ p ∈ g.2, p.length ≤ 65536 := fun g hg p hp => Nat.le_trans ((hs.grps g hg).2 p hp) (by decide)
  have hsm : Sml c.accs := fun a ha => ⟨Nat.le_trans (hs.accs a ha).1 (by decide), Nat.le_trans (hs.accs a ha).2 (by decide)⟩
  exact rPick_calls c hsm u q hu hx p0 p3 k0 _ k3 _ _ _ b0 b1 b2 b3 b4 b5 b6 b7 b8 b9 rfl hl0 rfl w r0 r3
end
end Go.Proofs.Ytomnkmcabkoagaa.Rgt

/-
  Layer 16 (rights): what the laws begin with.
-/
import Derived.Test.YtomnkmcabkoagaaRgtArg
import Derived.Test.YtomnkmcabkoagaaRgtCf
import Derived.Test.YtomnkmcabkoagaaRgtWorks
import Derived.Test.YtomnkmcabkoagaaRegSat
namespace Go.Proofs.Ytomnkmcabkoagaa.Rgt
open Go.RowKit Go.Proofs.Ytomnkmcabkoagaa.Own Go.Proofs.Ytomnkmcabkoagaa.Rw Go.Proofs.Ytomnkmcabkoagaa.Tree Go.Proofs.Ytomnkmcabkoagaa.Conf

theorem CfA.keep {w w' : World} {v0 v1 v2 v3 : Value} {c : Cf} (h : CfA w v0 v1 v2 v3 c) (hb : Below w.heap.size w w') : CfA w' v0 v1 v2 v3 c := by
  obtain ⟨p1, k1, e1, r1⟩ := h.cons
  obtain ⟨p2, k2, gs, e2, r2, g2⟩ := h.grps
  obtain ⟨p3, k3, e3, r3⟩ := h.usrs
  obtain ⟨p4, k4, e4, r4⟩ := h.accs
  exact ⟨⟨p1, k1, e1, r1.below hb⟩, ⟨p2, k2, gs, e2, r2.below hb, g2.keep hb⟩, ⟨p3, k3, e3, r3.below hb⟩, ⟨p4, k4, e4, r4.below hb⟩⟩
def FewP (w : World) (e : Ending) (w' : World) : Prop := ∃ v0 v1 v2 v3 d0 d1 d2 d3 d4 d5 d6 d7 d8 d9 c, e = .returned (confV v0 v1 v2 v3 d0 d1 d2 d3 d4 d5 d6 d7 d8 d9) ∧ (∀ Y, Out (fun k => k < w.heap.size) w' Y → CfR Y v0 v1 v2 v3 c) ∧ Few c 12 8 8 12 ∧ Below w.heap.size w w'
def FewSpec : Prop := ∀ (c : Cf) (p0 p1 p2 p3 : Option Addr) (n0 n1 n2 n3 k0 k1 k2 k3 : Nat) (b0 b1 b2 b3 b4 b5 b6 b7 b8 b9 : Bs) (w : World), CfA w (.slice p0 n0 k0) (.slice p1 n1 k1) (.slice p2 n2 k2) (.slice p3 n3 k3) c → Calls Try.prog 6 #[confV (.slice p0 n0 k0) (.slice p1 n1 k1) (.slice p2 n2 k2) (.slice p3 n3 k3) b0 b1 b2 b3 b4 b5 b6 b7 b8 b9] w (FewP w)
/-- a configuration in a box -/
structure Bxd (Y : World) (b : Nat) (v0 v1 v2 v3 : Value) (d0 d1 d2 d3 d4 d5 d6 d7 d8 d9 : Bs) (m : Cf) : Prop where
  at_ : Y.heap[b]? = some (.cells #[v0, v1, v2, v3, .string ⟨d0.toArray⟩, .string ⟨d1.toArray⟩, .string ⟨d2.toArray⟩, .string ⟨d3.toArray⟩, .string ⟨d4.toArray⟩, .string ⟨d5.toArray⟩, .string ⟨d6.toArray⟩, .string ⟨d7.toArray⟩, .string ⟨d8.toArray⟩, .string ⟨d9.toArray⟩] 28 (0, 0))
  rd : CfR Y v0 v1 v2 v3 m
  few : Few m 12 8 8 12
/-- a row of places, to be read, as what is known of a value -/
def rdK (l : List Nat) : Reg.Kn := ⟨fun w v => ∃ q d, v = .slice q l.length d ∧ Rd w 1 q d l.length (nsv l), fun _ _ _ hb h => by obtain ⟨q, d, e, r⟩ := h; exact ⟨q, d, e, r.below hb⟩, none, fun _ _ _ h => nomatch h⟩
theorem pl_rd {w : World} {l : List Nat} {e : Ending} {w' : World} (h : PlPost w l e w') : ∃ v, e = .returned v ∧ (rdK l).sat w' v ∧ Below w.heap.size w w' := by
  obtain ⟨v, rfl, ho, hb⟩ := h
  obtain ⟨q, d, rfl, r⟩ := own_rd ho
  exact ⟨_, rfl, ⟨q, d, rfl, r⟩, hb⟩
theorem rd_same {w : World} {l : List Nat} {v u : Value} (h1 : (rdK l).sat w v) (h2 : (rdK l).sat w u) : Calls Try.prog 11 #[v, u] w fun e w' => e = .returned (.bool true) ∧ Below w.heap.size w w' := by
  obtain ⟨q, d, rfl, r⟩ := h1
  obtain ⟨q', d', rfl, r'⟩ := h2
  exact same_calls l q q' d d' l.length w r r'
theorem cut_le (s : Bs) : (cutM s).length ≤ 40 := by unfold cutM; simp; omega
end Go.Proofs.Ytomnkmcabkoagaa.Rgt

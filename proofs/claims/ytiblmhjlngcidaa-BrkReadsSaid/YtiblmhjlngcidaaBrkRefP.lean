/-
  Layer 14 (brk): what the document's own one asks, number by number.
-/
import Derived.Test.YtiblmhjlngcidaaBrkPlain
namespace Go.Proofs.Ytiblmhjlngcidaa.Brk
open Go.Proofs.Ytiblmhjlngcidaa.Digit

def Wm (l : List UInt8) (n : Nat) : Prop := 4 ≤ l.length ∧ l.take 4 = 92 :: 119 :: two n
def Am (l : List UInt8) (n : Nat) : Prop := 4 ≤ l.length ∧ l.take 4 = 92 :: 120 :: hexS n
def Bm (l : List UInt8) (n : Nat) : Prop := (sgn n).length = 2 ∧ 2 ≤ l.length ∧ l.take 2 = sgn n
theorem bm_iff (d : UInt8) (r : List UInt8) (n : Nat) : Bm (92 :: d :: r) n ↔ (n = 92 ∧ d = 92) ∨ (n = 10 ∧ d = 110) ∨ (n = 13 ∧ d = 114) ∨ (n = 9 ∧ d = 116) := by
  have e : (92 :: d :: r).take 2 = [92, d] := by simp
  unfold Bm
  rw [e]
  constructor
  · rintro ⟨h1, -, h2⟩
    by_cases e1 : n = 92
    · subst e1; exact .inl ⟨rfl, (List.cons.inj (List.cons.inj h2).2).1⟩
    by_cases e2 : n = 10
    · subst e2; exact .inr (.inl ⟨rfl, (List.cons.inj (List.cons.inj h2).2).1⟩)
    by_cases e3 : n = 13
    · subst e3; exact .inr (.inr (.inl ⟨rfl, (List.cons.inj (List.cons.inj h2).2).1⟩))
    by_cases e4 : n = 9
    · subst e4; exact .inr (.inr (.inr ⟨rfl, (List.cons.inj (List.cons.inj h2).2).1⟩))
    rw [sgn_other e1 e2 e3 e4] at h1
    split at h1
    · simp [hexS] at h1
    · simp at h1
  · have hl : 2 ≤ (92 :: d :: r).length := by simp
    rintro (⟨rfl, rfl⟩ | ⟨rfl, rfl⟩ | ⟨rfl, rfl⟩ | ⟨rfl, rfl⟩)
    · exact ⟨rfl, hl, rfl⟩
    · exact ⟨rfl, hl, rfl⟩
    · exact ⟨rfl, hl, rfl⟩
    · exact ⟨rfl, hl, rfl⟩
theorem take4 (d : UInt8) (r : List UInt8) : (92 :: d :: r).take 4 = 92 :: d :: r.take 2 := rfl
theorem am_iff (d : UInt8) (r : List UInt8) (n : Nat) : Am (92 :: d :: r) n ↔ d = 120 ∧ r.take 2 = hexS n := by
  unfold Am
  rw [take4]
  constructor
  · rintro ⟨_, h⟩
    have h1 := List.cons.inj (List.cons.inj h).2
    exact ⟨h1.1, h1.2⟩
  · rintro ⟨rfl, h⟩
    have hl := congrArg List.length h
    rw [List.length_take] at hl
    have : (hexS n).length = 2 := rfl
    exact ⟨by simp only [List.length_cons]; omega, by rw [h]⟩
theorem wm_iff (d : UInt8) (r : List UInt8) (n : Nat) : Wm (92 :: d :: r) n ↔ d = 119 ∧ r.take 2 = two n := by
  unfold Wm
  rw [take4]
  constructor
  · rintro ⟨_, h⟩
    have h1 := List.cons.inj (List.cons.inj h).2
    exact ⟨h1.1, h1.2⟩
  · rintro ⟨rfl, h⟩
    have hl := congrArg List.length h
    rw [List.length_take] at hl
    have : (two n).length = 2 := rfl
    exact ⟨by simp only [List.length_cons]; omega, by rw [h]⟩
/-- what the second loop finds -/
def Ways (l : List UInt8) : Prop :=
  (∃ M, M < 256 ∧ (∀ k, k < M → ¬ Am l k ∧ ¬ Bm l k) ∧ ((Am l M ∧ one l = (⟨1, [M.toUInt8], 0⟩, 4)) ∨ (¬ Am l M ∧ Bm l M ∧ one l = (⟨1, [M.toUInt8], 0⟩, 2)))) ∨
  ((∀ k, k < 256 → ¬ Am l k ∧ ¬ Bm l k) ∧ one l = no)
theorem way_two {d : UInt8} {r : List UInt8} (M : Nat) (hM : M < 256) (h0 : d ≠ 120) (hu : ∀ k, Bm (92 :: d :: r) k ↔ k = M) (h : esc d r = (⟨1, [M.toUInt8], 0⟩, 2)) : Ways (92 :: d :: r) := by
  have ha : ∀ k, ¬ Am (92 :: d :: r) k := fun k g => h0 ((am_iff d r k).1 g).1
  refine .inl ⟨M, hM, fun k hk => ⟨ha k, fun g => by have := (hu k).1 g; omega⟩, .inr ⟨ha M, (hu M).2 rfl, by rw [one_esc]; exact h⟩⟩
theorem way_none {d : UInt8} {r : List UInt8} (h0 : d ≠ 120) (hu : ∀ k, ¬ Bm (92 :: d :: r) k) (h : esc d r = no) : Ways (92 :: d :: r) :=
  .inr ⟨fun k _ => ⟨fun g => h0 ((am_iff d r k).1 g).1, hu k⟩, by rw [one_esc]; exact h⟩
theorem ref_ways (t : List UInt8) (h1 : ∀ r, t ≠ 100 :: r) (h2 : ∀ r, t ≠ 122 :: r) :
    (∃ n, 1 ≤ n ∧ n ≤ 99 ∧ Wm (92 :: t) n ∧ (∀ k, k < n → ¬ Wm (92 :: t) k) ∧ one (92 :: t) = (⟨2, [], n⟩, 4)) ∨
    ((∀ k, 1 ≤ k → k ≤ 99 → ¬ Wm (92 :: t) k) ∧ Ways (92 :: t)) := by
  match t with
  | [] =>
    refine .inr ⟨fun k _ _ h => ?_, .inr ⟨fun k _ => ⟨fun h => ?_, fun h => ?_⟩, one_lone⟩⟩
    · have := h.1; simp at this
    · have := h.1; simp at this
    · have := h.2.1; simp at this
  | d :: r =>
    have nw : d ≠ 119 → ∀ k, 1 ≤ k → k ≤ 99 → ¬ Wm (92 :: d :: r) k := fun h k _ _ g => h ((wm_iff d r k).1 g).1
    by_cases e1 : d = 92
    · refine .inr ⟨nw (by rw [e1]; decide), way_two 92 (by omega) (by rw [e1]; decide) (fun k => ?_) (if_pos e1)⟩
      rw [bm_iff, e1]; simp
    by_cases e2 : d = 114
    · refine .inr ⟨nw (by rw [e2]; decide), way_two 13 (by omega) (by rw [e2]; decide) (fun k => ?_) ((if_neg e1).trans (if_pos e2))⟩
      rw [bm_iff, e2]; simp
    by_cases e3 : d = 110
    · refine .inr ⟨nw (by rw [e3]; decide), way_two 10 (by omega) (by rw [e3]; decide) (fun k => ?_) ((if_neg e1).trans ((if_neg e2).trans (if_pos e3)))⟩
      rw [bm_iff, e3]; simp
    by_cases e4 : d = 116
    · refine .inr ⟨nw (by rw [e4]; decide), way_two 9 (by omega) (by rw [e4]; decide) (fun k => ?_) ((if_neg e1).trans ((if_neg e2).trans ((if_neg e3).trans (if_pos e4))))⟩
      rw [bm_iff, e4]; simp
    have hb : ∀ k, ¬ Bm (92 :: d :: r) k := fun k => by rw [bm_iff]; simp [e1, e2, e3, e4]
    have e5 : d ≠ 100 := fun e => h1 r (by rw [e])
    have e6 : d ≠ 122 := fun e => h2 r (by rw [e])
    have he : esc d r = if d = 120 then (if rhC (r.take 2) = 0 then (⟨1, [(rhV (r.take 2)).toNat.toUInt8], 0⟩, 4) else no) else if d = 119 then (if tk (r.take 2) = 0 then no else (⟨2, [], tk (r.take 2)⟩, 4)) else no := by
      unfold esc
      rw [if_neg e1, if_neg e2, if_neg e3, if_neg e4, if_neg e5, if_neg e6]
    by_cases e7 : d = 120
    · rw [if_pos e7] at he
      refine .inr ⟨nw (by rw [e7]; decide), ?_⟩
      by_cases hc : rhC (r.take 2) = 0
      · rw [if_pos hc] at he
        obtain ⟨c, hc2, hx, hv⟩ := rh_is hc
        refine .inl ⟨c, hc2, fun k hk => ⟨fun g => ?_, hb k⟩, .inl ⟨(am_iff d r c).2 ⟨e7, hx.symm⟩, ?_⟩⟩
        · have := ((am_iff d r k).1 g).2
          have := hexS_inj (by omega) hc2 (this.symm.trans hx.symm)
          omega
        · rw [one_esc, he, hv]; simp
      · rw [if_neg hc] at he
        refine .inr ⟨fun k hk => ⟨fun g => hc ?_, hb k⟩, by rw [one_esc]; exact he⟩
        rw [((am_iff d r k).1 g).2]; exact (rh_some hk).2
    rw [if_neg e7] at he
    by_cases e8 : d = 119
    · rw [if_pos e8] at he
      by_cases hc : tk (r.take 2) = 0
      · rw [if_pos hc] at he
        refine .inr ⟨fun k k1 k2 g => ?_, way_none e7 hb he⟩
        have := ((wm_iff d r k).1 g).2
        rw [this, tk_some k1 k2] at hc
        omega
      · rw [if_neg hc] at he
        obtain ⟨t1, t2, t3⟩ := tk_is hc
        refine .inl ⟨tk (r.take 2), t1, t2, (wm_iff d r _).2 ⟨e8, t3.symm⟩, fun k hk g => ?_, by rw [one_esc]; exact he⟩
        have := ((wm_iff d r k).1 g).2
        have := two_inj (by omega) t2 (this.symm.trans t3.symm)
        omega
    · rw [if_neg e8] at he
      exact .inr ⟨nw e8, way_none e7 hb he⟩
end Go.Proofs.Ytiblmhjlngcidaa.Brk

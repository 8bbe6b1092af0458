/-
  Layer 17 (runner): the law of the pieces: its state.
-/
import Derived.Test.YtciighiecoalmaaRunTells
namespace Go.Proofs.Ytciighiecoalmaa.Run
open Go.RowKit Go.Proofs.Ytciighiecoalmaa.Own Go.Proofs.Ytciighiecoalmaa.Rw Go.Proofs.Ytciighiecoalmaa.Brk Go.Proofs.Ytciighiecoalmaa.Calc Go.Proofs.Ytciighiecoalmaa.Tree

theorem ov_one' (L : List Op) : ∀ u ∈ ov L, u.oneCell' = true := by
  intro u hu
  simp only [ov, List.mem_flatMap] at hu
  obtain ⟨e, _, h⟩ := hu
  simp [ov1] at h
  rcases h with rfl | rfl | rfl <;> rfl
/-- what is appended, out of a row of the call's own -/
theorem news_of {w : World} {B : Nat} {v : Value} {T : List Op} (h : Mine w B v T) : ∃ ao c, v = .slice ao T.length c ∧ (ao = none → T.length = 0 ∧ c = 0) ∧ ∀ ad, ao = some ad → ∀ j u, (ov T)[j]? = some u → w.cell? (ad.add j) = some u := by
  have hc := @World.ownsRow.cells _ _ _ _ _ _ _ h
  rcases h.2 with ⟨rfl, h0⟩ | ⟨g, cap, cur, rfl, hB, hh, h3, h4, _⟩
  · exact ⟨none, 0, by rw [h0], fun _ => ⟨h0, rfl⟩, (fun _ h => nomatch h)⟩
  · refine ⟨some ⟨g, 0, none⟩, cap, rfl, (fun h => nomatch h), ?_⟩
    rintro ad ⟨⟩ j u hu
    exact hc rfl j u hu
/-- two runners of the same steps, and what was got of the first -/
structure Pc (w W : World) (B : Nat) (D : List (Int × Op)) (E : Int) (ba qa bb qb : Nat) (wa wb : Int) (v : Value) (T : List Op) : Prop where
  ra : Asked W ba qa D E wa
  rb : Asked W bb qb D E wb
  own : Mine W B v T
  n1 : ba ≠ bb
  n2 : ba ≠ qb
  n3 : bb ≠ qa
  l1 : w.heap.size ≤ ba
  l2 : w.heap.size ≤ bb
  b1 : ba < B
  b2 : bb < B
  b3 : qa < B
  b4 : qb < B
  size : B ≤ W.heap.size
  below : Below w.heap.size w W
section
variable {w W W' : World} {B : Nat} {D : List (Int × Op)} {E : Int} {ba qa bb qb : Nat} {wa wb : Int} {v : Value} {T : List Op}
theorem Pc.keep (h : Pc w W B D E ba qa bb qb wa wb v T) (hb : Below W.heap.size W W') : Pc w W' B D E ba qa bb qb wa wb v T :=
  ⟨h.ra.below hb, h.rb.below hb, mine_below h.own hb, h.n1, h.n2, h.n3, h.l1, h.l2, h.b1, h.b2, h.b3, h.b4, Nat.le_trans h.size hb.size, h.below.trans (hb.mono h.below.size)⟩
theorem mine_out {S : Nat → Prop} (h : Mine W B v T) (ho : Out S W W') (hS : ∀ k, S k → k < B) : Mine W' B v T := own_out h ho fun k hk hs => by have := (own_lt h hk).1; have := hS k hs; omega
theorem Pc.stepA {tt : Int} (h : Pc w W B D E ba qa bb qb wa wb v T) (hr : Asked W' ba qa D E tt) (ho : Out (fun k => k = ba) W W') : Pc w W' B D E ba qa bb qb tt wb v T :=
  ⟨hr, h.rb.out ho (fun e => h.n1 e.symm) (fun e => h.n2 e.symm), mine_out h.own ho fun k e => by rw [e]; exact h.b1, h.n1, h.n2, h.n3, h.l1, h.l2, h.b1, h.b2, h.b3, h.b4, Nat.le_trans h.size ho.size, h.below.trans (ho.below h.below.size fun i e => by rw [e]; exact h.l1)⟩
theorem Pc.stepB {tt : Int} (h : Pc w W B D E ba qa bb qb wa wb v T) (hr : Asked W' bb qb D E tt) (ho : Out (fun k => k = bb) W W') : Pc w W' B D E ba qa bb qb wa tt v T :=
  ⟨h.ra.out ho (fun e => h.n1 e) (fun e => h.n3 e.symm), hr, mine_out h.own ho fun k e => by rw [e]; exact h.b2, h.n1, h.n2, h.n3, h.l1, h.l2, h.b1, h.b2, h.b3, h.b4, Nat.le_trans h.size ho.size, h.below.trans (ho.below h.below.size fun i e => by rw [e]; exact h.l2)⟩
theorem Pc.put {v' : Value} {T' : List Op} (h : Pc w W B D E ba qa bb qb wa wb v T) (ho : Mine W B v' T') : Pc w W B D E ba qa bb qb wa wb v' T' :=
  ⟨h.ra, h.rb, ho, h.n1, h.n2, h.n3, h.l1, h.l2, h.b1, h.b2, h.b3, h.b4, h.size, h.below⟩
theorem Pc.append {v' : Value} {T' : List Op} {n : Nat} (h : Pc w W B D E ba qa bb qb wa wb v T) (hg : W.grownBy W' v.ownBlock) (ho : W'.ownsRow B 42 3 v' n (ov T ++ ov T')) (hn : n = T.length + T'.length) : Pc w W' B D E ba qa bb qb wa wb v' (T ++ T') := by
  have hk : ∀ k, v.ownBlock = some k → B ≤ k := fun k e => (own_lt h.own e).1
  have hO := grown_out hg
  have hw := Nat.lt_of_le_of_lt h.l1 h.b1
  refine ⟨h.ra.out hO (fun e => by have := hk _ e; have := h.b1; omega) (fun e => by have := hk _ e; have := h.b3; omega), h.rb.out hO (fun e => by have := hk _ e; have := h.b2; omega) (fun e => by have := hk _ e; have := h.b4; omega), ?_, h.n1, h.n2, h.n3, h.l1, h.l2, h.b1, h.b2, h.b3, h.b4, Nat.le_trans h.size hg.size, h.below.grown hg h.below.size fun k e => by have := hk k e; omega⟩
  unfold Mine
  rw [ov_app, List.length_append, ← hn]
  exact ho
def PcSt (w W : World) (B : Nat) (D : List (Int × Op)) (E : Int) (ba qa bb qb : Nat) (wa wb tt : Int) (v : Value) (T : List Op) (r : Ending) (w' : World) : Prop :=
  ∃ v', r = .returned v' ∧ Mine w' W.heap.size v' (told D wa tt) ∧ Pc w w' B D E ba qa bb qb tt wb v T
theorem pc_stepA (h : Pc w W B D E ba qa bb qb wa wb v T) (hP : Plan D E) (tt : Int) (ht : wa ≤ tt) : Calls Try.prog 15 #[.pointer (some ⟨ba, 0, none⟩), .int .i64 tt] W (PcSt w W B D E ba qa bb qb wa wb tt v T) := by
  refine (step_calls tt hP h.ra ht).mono ?_
  rintro r w' ⟨v', rfl, h1, h2, h3⟩
  exact ⟨v', rfl, h1, h.stepA h2 h3⟩
theorem pc_stepB (h : Pc w W B D E ba qa bb qb wa wb v T) (hP : Plan D E) (tt : Int) (ht : wb ≤ tt) : Calls Try.prog 15 #[.pointer (some ⟨bb, 0, none⟩), .int .i64 tt] W fun r w' => ∃ v', r = .returned v' ∧ Mine w' W.heap.size v' (told D wb tt) ∧ Pc w w' B D E ba qa bb qb wa tt v T := by
  refine (step_calls tt hP h.rb ht).mono ?_
  rintro r w' ⟨v', rfl, h1, h2, h3⟩
  exact ⟨v', rfl, h1, h.stepB h2 h3⟩
end
/-- how far the asking has come -/
def PcL (w wr : World) (B : Nat) (D : List (Int × Op)) (E : Int) (ba qa bb qb : Nat) (k : Nat) (nv : Int) (v : Value) : Prop :=
  ∃ wa, Pc w wr B D E ba qa bb qb wa 4 v (told D 4 wa) ∧ 4 ≤ wa ∧ wa ≤ nv ∧ (k ≠ 0 → wa = nv) ∧ (k = 0 → wa = 4 ∧ nv = 5)
theorem pc_start {w w1 w2 : World} {l : List Op} {ba qa bb qb : Nat} (hA : Asked w1 ba qa (dues 5 l) (ends 5 l) 4) (h1 : w.heap.size ≤ ba) (h3 : Below w.heap.size w w1) (hB : Asked w2 bb qb (dues 5 l) (ends 5 l) 4) (h4 : w1.heap.size ≤ bb) (h5 : w1.heap.size ≤ qb) (h6 : Below w1.heap.size w1 w2) :
    PcL w w2 w2.heap.size (dues 5 l) (ends 5 l) ba qa bb qb 0 5 (.slice none 0 0) := by
  have a1 := hA.at_lt
  have a2 := hA.lt
  have b1 := hB.at_lt
  have b2 := hB.lt
  have s3 := h3.size
  refine ⟨4, ⟨hA.below h6, hB, ?_, by omega, by omega, by omega, h1, by omega, by omega, b1, by omega, b2, Nat.le_refl _, h3.trans (h6.mono h3.size)⟩, by omega, by omega, fun h => absurd rfl h, fun _ => ⟨rfl, rfl⟩⟩
  rw [told_back (Int.le_refl _)]
  exact mine_nil _ _
theorem dues_map (l : List Op) (mx : Int) (hg : go 5 l = 0) (hm : ends 5 l ≤ mx) : told (dues 5 l) 4 mx = l.filter fun x => decide (x.k ≠ 2) := by
  rw [told_all (fun p hp => by have := dues_range hg p hp; omega), dues_steps]
theorem filt_wait {l : List Op} {k : Nat} (h : k < l.length) (h2 : l[k].k = 2) : (l.take (k + 1)).filter (fun x => decide (x.k ≠ 2)) = (l.take k).filter fun x => decide (x.k ≠ 2) := by
  rw [List.take_add_one, List.getElem?_eq_getElem h, List.filter_append]; simp [h2]
theorem filt_one {l : List Op} {k : Nat} (h : k < l.length) (h2 : l[k].k ≠ 2) : (l.take (k + 1)).filter (fun x => decide (x.k ≠ 2)) = (l.take k).filter (fun x => decide (x.k ≠ 2)) ++ [l[k]] := by
  rw [List.take_add_one, List.getElem?_eq_getElem h, List.filter_append]; simp [h2]
end Go.Proofs.Ytciighiecoalmaa.Run

/-
  Layer 17 (runner): a runner that was asked up to some time.
-/
import Derived.Test.YtciighiecoalmaaRunStep
import Derived.Test.YtciighiecoalmaaRunNewC
namespace Go.Proofs.Ytciighiecoalmaa.Run
open Go.RowKit Go.Proofs.Ytciighiecoalmaa.Own Go.Proofs.Ytciighiecoalmaa.Brk Go.Proofs.Ytciighiecoalmaa.Calc Go.Proofs.Ytciighiecoalmaa.Tree

set_option maxRecDepth 100000 in
set_option maxHeartbeats 1000000 in
theorem step_off {w : World} {b q : Nat} {L : List (Int × Op)} {e : Int} (now : Int) (h : IsRun w b q L e false) :
    Calls Try.prog 15 #[.pointer (some ⟨b, 0, none⟩), .int .i64 now] w fun r w' => r = .returned (.slice none 0 0) ∧ w = w' := by
  have HD := Lib.hid (done_calls h)
  clear h
  go_enter Try.func15, Try.ntmps15
  go_wp2_with (go_at_call 13; refine (HD.out).mono ?_; rintro e w' ⟨rfl, rfl⟩)
  go_ret
  exact ⟨rfl, rfl⟩
/-- steps and when they are due, in order, none behind the end -/
structure Plan (D : List (Int × Op)) (E : Int) : Prop where
  sorted : D.Pairwise (fun p q => p.1 ≤ q.1)
  last : ∀ p ∈ D, p.1 ≤ E
  few : D.length ≤ 1000
/-- a runner that was asked last then -/
abbrev Asked (w : World) (b q : Nat) (D : List (Int × Op)) (E was : Int) : Prop := IsRun w b q (rest D was) E (decide (was < E))
def StPost (w : World) (b q : Nat) (D : List (Int × Op)) (E was tt : Int) (r : Ending) (w' : World) : Prop :=
  ∃ v, r = .returned v ∧ Mine w' w.heap.size v (told D was tt) ∧ Asked w' b q D E tt ∧ Out (fun k => k = b) w w'
theorem step_calls {w : World} {b q : Nat} {D : List (Int × Op)} {E was : Int} (tt : Int) (hP : Plan D E) (h : Asked w b q D E was) (hwt : was ≤ tt) :
    Calls Try.prog 15 #[.pointer (some ⟨b, 0, none⟩), .int .i64 tt] w (StPost w b q D E was tt) := by
  by_cases hE : was < E
  · have h' : IsRun w b q (rest D was) E true := by have := h; unfold Asked at this; rwa [decide_eq_true hE] at this
    refine (step_on tt h' (Nat.le_trans (List.length_filter_le _ _) hP.few)).mono ?_
    rintro r w' ⟨v, rfl, h1, h2, h3⟩
    refine ⟨v, rfl, ?_, ?_, h3⟩
    · unfold tk at h1; rwa [take_told hP.sorted] at h1
    · unfold lv at h2; rwa [drop_rest hwt hP.sorted] at h2
  · have h' : IsRun w b q (rest D was) E false := by have := h; unfold Asked at this; rwa [decide_eq_false hE] at this
    have hl : ∀ t, E ≤ t → ∀ p ∈ D, p.1 ≤ t := fun t ht p hp => by have := hP.last p hp; omega
    refine (step_off tt h').mono ?_
    rintro r w' ⟨rfl, rfl⟩
    refine ⟨_, rfl, by rw [told_none (hl was (by omega))]; exact mine_nil _ _, ?_, Out.refl _ _⟩
    unfold Asked
    rw [rest_none (hl tt (by omega)), decide_eq_false (by omega)]
    rwa [rest_none (hl was (by omega))] at h'
theorem next_at {w : World} {b q : Nat} {D : List (Int × Op)} {E was : Int} (h : Asked w b q D E was) :
    Calls Try.prog 11 #[.pointer (some ⟨b, 0, none⟩)] w fun r w' => r = .returned (.tuple #[.int .i64 (nxV D E was), .bool (nxB E was)]) ∧ w = w' := by
  refine (next_calls h).mono ?_
  rintro r w' ⟨rfl, rfl⟩
  refine ⟨?_, rfl⟩
  unfold nextV nxV nxB
  by_cases hE : was < E
  · rw [decide_eq_true hE, if_pos hE]
    cases rest D was with
    | nil => rfl
    | cons p r => rfl
  · rw [decide_eq_false hE, if_neg hE]
theorem done_at {w : World} {b q : Nat} {D : List (Int × Op)} {E was : Int} (h : Asked w b q D E was) :
    Calls Try.prog 13 #[.pointer (some ⟨b, 0, none⟩)] w fun r w' => r = .returned (.bool !nxB E was) ∧ w = w' := done_calls h
/-- New, where there is a runner -/
def NewYes (l : List Op) (now was : Int) (w : World) (e : Ending) (w' : World) : Prop :=
  ∃ b q, e = .returned (.tuple #[.pointer (some ⟨b, 0, none⟩), .int .i64 0]) ∧ Asked w' b q (dues now l) (ends now l) was ∧ w.heap.size ≤ b ∧ w.heap.size ≤ q ∧ Below w.heap.size w w'
theorem plan_of {now : Int} {l : List Op} (h : chk now l = 0) (hl : l.length ≤ 1000) : Plan (dues now l) (ends now l) := by
  obtain ⟨_, hg⟩ := chk_inv h
  exact ⟨dues_sorted hg, fun p hp => (dues_range hg p hp).2, Nat.le_trans (dues_len _ _) hl⟩
theorem new_yes (l : List Op) (m : Nat) (hm : l.length = m) (hm2 : m ≤ 1000) (now was : Int) (hw : was < now) (p : Option Addr) (c : Nat) (w : World) (h : Ops w l p c) (hc : chk now l = 0) :
    Calls Try.prog 7 #[.slice p m c, .int .i64 now] w (NewYes l now was w) := by
  refine (new_calls l m hm hm2 now p c w h).mono ?_
  rintro e w' (⟨h1, _⟩ | ⟨_, b, q, rfl, hr, h1, h2, h3⟩)
  · exact absurd hc h1
  · obtain ⟨_, hg⟩ := chk_inv hc
    have he := ends_ge hg
    refine ⟨b, q, rfl, ?_, h1, h2, h3⟩
    unfold Asked
    rw [rest_all (fun p hp => by have := dues_range hg p hp; omega), decide_eq_true (by omega)]
    exact hr
theorem new_no (l : List Op) (m : Nat) (hm : l.length = m) (hm2 : m ≤ 1000) (now : Int) (p : Option Addr) (c : Nat) (w : World) (h : Ops w l p c) (cd : Int) (hc : chk now l = cd) (h0 : cd ≠ 0) :
    Calls Try.prog 7 #[.slice p m c, .int .i64 now] w fun e w' => e = .returned (.tuple #[.pointer none, .int .i64 cd]) ∧ Below w.heap.size w w' := by
  refine (new_calls l m hm hm2 now p c w h).mono ?_
  rintro e w' (⟨_, rfl, h1⟩ | ⟨h2, _⟩)
  · exact ⟨by rw [hc], h1⟩
  · exact absurd (hc.symm.trans h2) h0
/-- a literal slice of ops -/
theorem ops_lit (w : World) (L : List Op) (g : Nat) (hg : g = w.heap.size) (cs : Array Value) (hcs : cs = (ov L).toArray) : Ops (w.alloc (.cells cs 42)) L (some ⟨g, 0, none⟩) L.length ∨ maxLen < L.length := by
  subst hg
  subst hcs
  rcases Nat.lt_or_ge maxLen L.length with h | h
  · exact .inr h
  · refine .inl ⟨Nat.le_refl _, h, .inr ⟨w.heap.size, 0, rfl, by simp, fun i hi => ?_⟩⟩
    have e0 := ov_get hi 0 (by omega)
    have e1 := ov_get hi 1 (by omega)
    have e2 := ov_get hi 2 (by omega)
    have hn := at_new w (.cells (ov L).toArray 42)
    rw [Nat.zero_add]
    exact ⟨(at_cell hn _).trans ((List.getElem?_toArray ..).trans e0), (at_cell hn _).trans ((List.getElem?_toArray ..).trans e1), (at_cell hn _).trans ((List.getElem?_toArray ..).trans e2)⟩
end Go.Proofs.Ytciighiecoalmaa.Run

/-
  Layer 17 (runner): a runner in memory; Done, Ends, Next, walked.
-/
import Derived.Test.YtciighiecoalmaaRunPlain
import Derived.Test.YtciighiecoalmaaBrkOps
import Derived.Test.YtciighiecoalmaaOwnOut
namespace Go.Proofs.Ytciighiecoalmaa.Run
open Go.RowKit Go.Proofs.Ytciighiecoalmaa.Own Go.Proofs.Ytciighiecoalmaa.Brk Go.Proofs.Ytciighiecoalmaa.Calc

/-- steps with their times, as cells -/
def dv1 (p : Int × Op) : List Value := [.int .i64 p.1, .int .i64 p.2.k, .string ⟨p.2.s.toArray⟩, .int .i64 p.2.n]
def dv (L : List (Int × Op)) : List Value := L.flatMap dv1
theorem dv_len (L : List (Int × Op)) : (dv L).length = L.length * 4 := by
  induction L with
  | nil => rfl
  | cons x r ih =>
    have : dv (x :: r) = dv1 x ++ dv r := rfl
    rw [this, List.length_append, ih]
    simp [dv1]; omega
theorem dv_app (L M : List (Int × Op)) : dv (L ++ M) = dv L ++ dv M := by simp [dv]
theorem dv_get {L : List (Int × Op)} {i : Nat} (h : i < L.length) (j : Nat) (hj : j < 4) : (dv L)[i * 4 + j]? = (dv1 L[i])[j]? := by
  induction L generalizing i with
  | nil => simp at h
  | cons x r ih =>
    have e : dv (x :: r) = dv1 x ++ dv r := rfl
    have l3 : (dv1 x).length = 4 := rfl
    rw [e]
    cases i with
    | zero => rw [List.getElem?_append_left (by omega)]; simp
    | succ i =>
      rw [List.getElem?_append_right (by omega), show (i + 1) * 4 + j - (dv1 x).length = i * 4 + j by omega]
      exact ih (by simpa using h)
/-- a slice that holds steps with their times, in block q -/
def Dus (w : World) (q : Nat) (p : Option Addr) (L : List (Int × Op)) : Prop :=
  L = [] ∨ ∃ o, p = some ⟨q, o, none⟩ ∧ ∀ i (hi : i < L.length), w.cell? ⟨q, o + i * 4, none⟩ = some (.int .i64 L[i].1) ∧ w.cell? ⟨q, o + i * 4 + 1, none⟩ = some (.int .i64 L[i].2.k) ∧ w.cell? ⟨q, o + i * 4 + 2, none⟩ = some (.string ⟨L[i].2.s.toArray⟩) ∧ w.cell? ⟨q, o + i * 4 + 3, none⟩ = some (.int .i64 L[i].2.n)
theorem Dus.same {w w' : World} {q : Nat} {p : Option Addr} {L : List (Int × Op)} (h : Dus w q p L) (hq : w'.heap[q]? = w.heap[q]?) : Dus w' q p L := by
  refine h.imp id ?_
  rintro ⟨o, e, k⟩
  have hc : ∀ j, w'.cell? ⟨q, j, none⟩ = w.cell? ⟨q, j, none⟩ := fun j => World.cell?_of_block (a := ⟨q, j, none⟩) hq
  exact ⟨o, e, fun i hi => by obtain ⟨k0, k1, k2, k3⟩ := k i hi; rw [hc, hc, hc, hc]; exact ⟨k0, k1, k2, k3⟩⟩
theorem Dus.tail {w : World} {q o : Nat} {p p' : Option Addr} {x : Int × Op} {L : List (Int × Op)} (h : Dus w q p (x :: L)) (he : p = some ⟨q, o, none⟩) (hp : L ≠ [] → p' = some ⟨q, o + 4, none⟩) : Dus w q p' L := by
  rcases h with h | ⟨o', e, k⟩
  · cases h
  · rw [he] at e
    obtain rfl : o = o' := by simpa using e
    by_cases hl : L = []
    · exact .inl hl
    · refine .inr ⟨o + 4, hp hl, fun i hi => ?_⟩
      have := k (i + 1) (by simpa using hi)
      simp only [List.getElem_cons_succ] at this
      rw [show o + (i + 1) * 4 = o + 4 + i * 4 by omega] at this
      exact this
theorem Dus.head {w : World} {q : Nat} {p : Option Addr} {x : Int × Op} {L : List (Int × Op)} (h : Dus w q p (x :: L)) : ∃ o, p = some ⟨q, o, none⟩ ∧ w.cell? ⟨q, o, none⟩ = some (.int .i64 x.1) ∧ w.cell? ⟨q, o + 1, none⟩ = some (.int .i64 x.2.k) ∧ w.cell? ⟨q, o + 1 + 1, none⟩ = some (.string ⟨x.2.s.toArray⟩) ∧ w.cell? ⟨q, o + 1 + 2, none⟩ = some (.int .i64 x.2.n) := by
  rcases h with h | ⟨o, e, k⟩
  · cases h
  · have := k 0 (by simp)
    simpa using ⟨o, e, this⟩
theorem own_dus {w : World} {B n : Nat} {v : Value} {L : List (Int × Op)} (h : w.ownsRow B 56 4 v n (dv L)) (hn : n = L.length) : ∃ p c, v = .slice p L.length c ∧ L.length ≤ c ∧ c ≤ maxLen ∧ (L = [] ∨ ∃ q, B ≤ q ∧ q < w.heap.size ∧ v.ownBlock = some q ∧ Dus w q p L) := by
  subst hn
  have hc := @World.ownsRow.cells _ _ _ _ _ _ _ h
  rcases h.2 with ⟨rfl, h0⟩ | ⟨g, cap, cur, rfl, hB, hh, h3, h4, _⟩
  · exact ⟨none, 0, by rw [h0], by omega, by unfold maxLen; omega, .inl (List.eq_nil_of_length_eq_zero h0)⟩
  · refine ⟨_, cap, rfl, h3, h4, .inr ⟨g, hB, at_lt hh, rfl, .inr ⟨0, rfl, fun i hi => ?_⟩⟩⟩
    have e0 := dv_get hi 0 (by omega)
    have e1 := dv_get hi 1 (by omega)
    have e2 := dv_get hi 2 (by omega)
    have e3 := dv_get hi 3 (by omega)
    have a0 := hc (g := g) rfl _ _ (e0.trans rfl)
    have a1 := hc (g := g) rfl _ _ (e1.trans rfl)
    have a2 := hc (g := g) rfl _ _ (e2.trans rfl)
    have a3 := hc (g := g) rfl _ _ (e3.trans rfl)
    rw [add0] at a0 a1 a2 a3
    rw [Nat.zero_add]
    exact ⟨a0, a1, a2, a3⟩

/-- block b is a runner: what was not told yet lies in block q -/
structure IsRun (w : World) (b q : Nat) (L : List (Int × Op)) (e : Int) (on : Bool) : Prop where
  row : ∃ p n c, n = L.length ∧ w.heap[b]? = some (.cells #[.slice p n c, .int .i64 e, .bool on] 49 (0, 0)) ∧ n ≤ c ∧ c ≤ maxLen ∧ Dus w q p L
  ne : q ≠ b
  lt : q < w.heap.size
theorem IsRun.at_lt {w : World} {b q : Nat} {L : List (Int × Op)} {e : Int} {on : Bool} (h : IsRun w b q L e on) : b < w.heap.size := by
  obtain ⟨p, n, c, _, hr, _⟩ := h.row
  exact Own.at_lt hr
theorem IsRun.out {w w' : World} {b q : Nat} {L : List (Int × Op)} {e : Int} {on : Bool} {S : Nat → Prop} (h : IsRun w b q L e on) (ho : Out S w w') (hb : ¬ S b) (hq : ¬ S q) : IsRun w' b q L e on := by
  obtain ⟨p, n, c, hn, hr, h1, h2, h3⟩ := h.row
  exact ⟨⟨p, n, c, hn, ho.at_ hr hb, h1, h2, h3.same (ho.block q h.lt hq)⟩, h.ne, Nat.lt_of_lt_of_le h.lt ho.size⟩
theorem IsRun.below {w w' : World} {b q : Nat} {L : List (Int × Op)} {e : Int} {on : Bool} (h : IsRun w b q L e on) (hb : Below w.heap.size w w') : IsRun w' b q L e on :=
  h.out (S := fun _ => False) (Out.ofNew hb) id id
theorem IsRun.tail {w : World} {b q n c : Nat} {p p' : Option Addr} {x : Int × Op} {L : List (Int × Op)} {e : Int} {on : Bool} (h : w.heap[b]? = some (.cells #[.slice p (n + 1) (c + 1), .int .i64 e, .bool on] 49 (0, 0))) (hn : n = L.length) (hnc : n ≤ c) (hc : c ≤ maxLen) (hd : Dus w q p (x :: L))
    (hp : ∀ o, p = some ⟨q, o, none⟩ → L ≠ [] → p' = some ⟨q, o + 4, none⟩) (hne : q ≠ b) (hlt : q < w.heap.size) : IsRun (w.setCell ⟨b, 0, none⟩ (.slice p' n c)) b q L e on := by
  refine ⟨⟨p', n, c, hn, at_set h 0 _, hnc, hc, ?_⟩, hne, by simpa [World.setCell] using hlt⟩
  obtain ⟨o, e1, _⟩ := hd.head
  exact (hd.tail e1 (hp o e1)).same (at_set_other w hne 0 _)
theorem IsRun.turned {w : World} {b q : Nat} {L : List (Int × Op)} {e : Int} {on : Bool} (h : IsRun w b q L e on) (on' : Bool) : IsRun (w.setCell ⟨b, 2, none⟩ (.bool on')) b q L e on' := by
  obtain ⟨p, n, c, hn, hr, h1, h2, h3⟩ := h.row
  exact ⟨⟨p, n, c, hn, at_set hr 2 _, h1, h2, h3.same (at_set_other w h.ne 2 _)⟩, h.ne, by simpa [World.setCell] using h.lt⟩

theorem ret_bool {a b : Bool} (h : a = b) : Ending.returned (.bool a) = .returned (.bool b) := by rw [h]
set_option maxRecDepth 100000 in
set_option maxHeartbeats 1000000 in
theorem done_calls {w : World} {b q : Nat} {L : List (Int × Op)} {e : Int} {on : Bool} (h : IsRun w b q L e on) :
    Calls Try.prog 13 #[.pointer (some ⟨b, 0, none⟩)] w fun e w' => e = .returned (.bool !on) ∧ w = w' := by
  obtain ⟨p, n, c, hn, hr, h1, h2, h3⟩ := h.row
  have c2 := at_cell hr 2
  clear h3 h1 h2 hn h hr
  go_enter Try.func13, Try.ntmps13
  go_wp2_with fail
  go_ret
  exact ⟨rfl, rfl⟩
set_option maxRecDepth 100000 in
set_option maxHeartbeats 1000000 in
theorem ends_calls {w : World} {b q : Nat} {L : List (Int × Op)} {e : Int} {on : Bool} (h : IsRun w b q L e on) :
    Calls Try.prog 9 #[.pointer (some ⟨b, 0, none⟩)] w fun r w' => r = .returned (.int .i64 e) ∧ w = w' := by
  obtain ⟨p, n, c, hn, hr, h1, h2, h3⟩ := h.row
  have c1 := at_cell hr 1
  clear h3 h1 h2 hn h hr
  go_enter Try.func9, Try.ntmps9
  go_wp2_with fail
  go_ret
  exact ⟨rfl, rfl⟩
/-- what Next tells -/
def nextV (L : List (Int × Op)) (e : Int) (on : Bool) : Int := match on with
  | false => 0
  | true => match L with
    | [] => e
    | p :: _ => p.1
set_option maxRecDepth 100000 in
set_option maxHeartbeats 1000000 in
theorem next_calls {w : World} {b q : Nat} {L : List (Int × Op)} {e : Int} {on : Bool} (h : IsRun w b q L e on) :
    Calls Try.prog 11 #[.pointer (some ⟨b, 0, none⟩)] w fun r w' => r = .returned (.tuple #[.int .i64 (nextV L e on), .bool on]) ∧ w = w' := by
  have HD := Lib.hid (done_calls h)
  obtain ⟨p, n, c, hn, hr, h1, h2, h3⟩ := h.row
  unfold maxLen at h2
  have c0 := at_cell hr 0
  have c1 := at_cell hr 1
  cases on with
  | false =>
    clear h3 h hr
    go_enter Try.func11, Try.ntmps11
    go_wp2_with (go_at_call 13; refine (HD.out).mono ?_; rintro e w' ⟨rfl, rfl⟩)
    go_ret2
    exact ⟨rfl, rfl⟩
  | true =>
    cases L with
    | nil =>
      obtain rfl : n = 0 := hn
      clear h3 h hr
      go_enter Try.func11, Try.ntmps11
      go_wp2_with (go_at_call 13; refine (HD.out).mono ?_; rintro e w' ⟨rfl, rfl⟩)
      go_ret2
      exact ⟨rfl, rfl⟩
    | cons x L =>
      obtain ⟨o, rfl, d0, _⟩ := h3.head
      have n0 : 0 < n := by rw [hn]; simp
      have n1 : (0 : Int) < (n : Int) := by omega
      have n2 : decide ((0 : Int) < (n : Int)) = true := by simpa using n0
      clear h3 h hr hn
      go_enter Try.func11, Try.ntmps11
      go_wp2_with (go_at_call 13; refine (HD.out).mono ?_; rintro e w' ⟨rfl, rfl⟩)
      go_ret2
      exact ⟨rfl, rfl⟩
end Go.Proofs.Ytciighiecoalmaa.Run

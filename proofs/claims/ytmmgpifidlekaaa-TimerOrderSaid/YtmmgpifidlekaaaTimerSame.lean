/-
  Layer 6 (timer): the law's own comparison of two rows of numbers.
-/
import Derived.Test.YtmmgpifidlekaaaTimerWorks
namespace Go.Proofs.Ytmmgpifidlekaaa.Timer
open Go.RowKit Go.Proofs.Ytmmgpifidlekaaa.Own Go.Proofs.Ytmmgpifidlekaaa.Hp

def gi (l : List Int) (i : Nat) : Int := l.getD i 0
/-- a slice that holds numbers -/
structure Si (w : World) (A : List Int) (p : Option Addr) (c : Nat) : Prop where
  cap : A.length ≤ c
  max : c ≤ maxLen
  cells : (A = []) ∨ ∃ g, p = some ⟨g, 0, none⟩ ∧ ∀ i, i < A.length → w.cell? ⟨g, i, none⟩ = some (.int .i64 (gi A i))
theorem owns_si {w : World} {B : Nat} {p : Option Addr} {n c : Nat} {A : List Int} (h : w.ownsRow B 3 1 (.slice p n c) n (iv A)) (hn : n = A.length) : Si w A p c := by
  subst hn
  have hc := @World.ownsRow.cells _ _ _ _ _ _ _ h
  rcases h.2 with ⟨e, h0⟩ | ⟨g, cap, cur, e, _, _, h3, h4, _⟩
  · simp only [Value.slice.injEq] at e
    obtain ⟨rfl, _, rfl⟩ := e
    exact ⟨by omega, by unfold maxLen; omega, .inl (List.eq_nil_of_length_eq_zero h0)⟩
  · simp only [Value.slice.injEq] at e
    obtain ⟨rfl, _, rfl⟩ := e
    refine ⟨h3, h4, .inr ⟨g, rfl, fun i hi => ?_⟩⟩
    have := hc (g := g) rfl i (.int .i64 (gi A i)) (by simp [iv, gi, hi])
    rw [add_at] at this; exact this
theorem Si.kept {w w' : World} {A : List Int} {p : Option Addr} {c : Nat} (h : Si w A p c) (hb : Below w.heap.size w w') : Si w' A p c :=
  ⟨h.cap, h.max, h.cells.imp id fun ⟨g, e, k⟩ => ⟨g, e, fun i hi => (hb.cell (World.block_lt_of_cell? w _ (k i hi))).trans (k i hi)⟩⟩

theorem bel_drewN {B : Nat} {a w : World} (h : Below B a w) (n : Nat) : Below B a (w.drewN n) := h.trans ⟨rfl, rfl, rfl, Nat.le_refl _, fun _ _ => rfl⟩
theorem gi_ext {A B : List Int} (hl : A.length = B.length) (h : ∀ j, j < A.length → gi A j = gi B j) : A = B := by
  apply List.ext_getElem? 
  intro i
  by_cases hi : i < A.length
  · have e1 : A[i]? = some (gi A i) := by simp [gi, hi]
    have e2 : B[i]? = some (gi B i) := by simp [gi, show i < B.length by omega]
    rw [e1, e2, h i hi]
  · rw [List.getElem?_eq_none (by omega), List.getElem?_eq_none (by omega)]

theorem same_calls (A B : List Int) (p q : Option Addr) (c d : Nat) (w : World) (ha : Si w A p c) (hb : Si w B q d) :
    Calls Try.prog 13 #[.slice p A.length c, .slice q B.length d] w fun e w' => e = .returned (.bool (decide (A = B))) ∧ Below w.heap.size w w' := by
  have m1 : (A.length : Int) ≤ 9223372036854775807 := by have := ha.cap; have := ha.max; unfold maxLen at this; omega
  by_cases hl : A.length = B.length
  · rcases Nat.eq_zero_or_pos A.length with h0 | hpos
    · have hA : A = [] := List.eq_nil_of_length_eq_zero h0
      have hB : B = [] := List.eq_nil_of_length_eq_zero (by omega)
      subst hA hB
      clear ha hb
      go_enter Try.func13, Try.ntmps13
      go_wp2_with fail
      go_loop [5] (fun i => i = .int .i64 0) (fun _ => 0)
      case atStart => rfl
      case round =>
        obtain rfl := hrel
        go_wp2_with fail
        go_ret
        exact ⟨rfl, Below.refl _ _⟩
    · rcases ha.cells with h | ⟨g, rfl, c1⟩
      · subst h; simp at hpos
      · rcases hb.cells with h | ⟨g', rfl, c2⟩
        · subst h; rw [List.length_nil] at hl; omega
        · clear ha hb
          have hdec : decide (A = B) = decide (∀ j, j < A.length → gi A j = gi B j) := by
            congr 1
            exact propext ⟨fun e => by subst e; exact fun _ _ => rfl, gi_ext hl⟩
          have HD := Lib.hid hdec
          clear hdec
          generalize A.length = n at *
          subst hl
          go_enter Try.func13, Try.ntmps13
          go_wp2_with fail
          go_loopw [5] (fun i wr => ∃ k m : Nat, k ≤ B.length ∧ (∀ j, j < k → gi A j = gi B j) ∧ i = .int .i64 k ∧ wr = w.drewN m) (fun i _ => B.length - (intOf i).toNat)
          case atStart => exact ⟨0, 0, by omega, fun j hj => by omega, rfl, rfl⟩
          case round =>
            obtain ⟨k, m, hk, hall, rfl, rfl⟩ := hrel
            rcases Nat.lt_or_ge k B.length with hlt | hge
            · have d1 := c1 k hlt
              have d2 := c2 k hlt
              have q1 : (k : Int) < (B.length : Int) := by omega
              obtain ⟨x, hx⟩ : ∃ x, x = gi A k := ⟨_, rfl⟩
              obtain ⟨y, hy⟩ : ∃ y, y = gi B k := ⟨_, rfl⟩
              rw [← hx] at d1
              rw [← hy] at d2
              clear c1 c2
              by_cases hxy : x = y
              · have hb1 : (x != y) = false := by simpa using hxy
                have HN := Lib.hid (show ∀ j, j < k + 1 → gi A j = gi B j from fun j hj => by
                  rcases Nat.lt_or_eq_of_le (Nat.le_of_lt_succ hj) with h | rfl
                  · exact hall j h
                  · rw [← hx, ← hy]; exact hxy)
                clear hx hy hall hxy
                go_wp2_with fail
                go_quiet (fail)
                go_wp2_with fail
                go_roundw
                case rel => exact ⟨k + 1, _, by omega, HN.out, by go_num, rfl⟩
                case measure => simp [intOf]; omega
              · have hb1 : (x != y) = true := by simpa using hxy
                have HN := Lib.hid (show decide (A = B) = false by
                  rw [HD.out]; simp only [decide_eq_false_iff_not]; exact fun h => hxy (by rw [hx, hy]; exact h k hlt))
                clear hx hy hall hxy
                go_wp2_with fail
                go_quiet (fail)
                go_wp2_with fail
                go_ret
                exact ⟨by rw [HN.out]; rfl, bel_drewN (bel_drewN (Below.refl _ _) _) _⟩
            · have q1 : (B.length : Int) ≤ (k : Int) := by omega
              have HN := Lib.hid (show decide (A = B) = true by
                rw [HD.out]; simp only [decide_eq_true_eq]; exact fun j hj => hall j (by omega))
              clear hall c1 c2
              go_wp2_with fail
              go_ret
              exact ⟨by rw [HN.out]; rfl, bel_drewN (Below.refl _ _) _⟩
  · have hb0 : ((A.length : Int) != (B.length : Int)) = true := by simp; omega
    have HN := Lib.hid (show decide (A = B) = false by simp only [decide_eq_false_iff_not]; rintro rfl; exact hl rfl)
    clear ha hb
    go_enter Try.func13, Try.ntmps13
    go_wp2_with fail
    go_ret
    exact ⟨by rw [HN.out]; rfl, Below.refl _ _⟩
end Go.Proofs.Ytmmgpifidlekaaa.Timer

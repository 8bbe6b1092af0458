/-
  Layer 14 (brk): kind, op, isOne, stepOf.
-/
import Derived.Test.YtiblmhjlngcidaaBrkOne
import Derived.Test.YtiblmhjlngcidaaOwn
import Derived.Deep.RegionHeld3
namespace Go.Proofs.Ytiblmhjlngcidaa.Brk
open Go.RowKit Go.Proofs.Ytiblmhjlngcidaa.Digit Go.Proofs.Ytiblmhjlngcidaa.Own

/-- an op -/
def opV (x : Op) : Value := .agg #[.int .i64 x.k, .string ⟨x.s.toArray⟩, .int .i64 x.n]
def opC (x : Op) : Array Value := #[.int .i64 x.k, .string ⟨x.s.toArray⟩, .int .i64 x.n]
def kd (x : Op) : Int := if x.s = [] then (if x.n = 0 then 3 else if 0 < x.n then 2 else 0) else if x.n = 0 then 1 else 0
theorem Ok.kd {x : Op} (h : Ok x) : kd x = x.k := by
  obtain ⟨k, s, n⟩ := x
  rcases h with ⟨a, b, c⟩ | ⟨a, b, c⟩ | ⟨a, b, c⟩
  · simp only at a b c; subst a c; simp [Brk.kd, b]
  · simp only at a b c; subst a b; simp [Brk.kd]; omega
  · simp only at a b c; subst a b c; simp [Brk.kd]
theorem ok_kd {x : Op} (h : x.k = kd x) (h0 : x.k ≠ 0) : Ok x := by
  obtain ⟨k, s, n⟩ := x
  simp only [Brk.kd] at h h0
  by_cases hs : s = []
  · rw [if_pos hs] at h
    by_cases hn : n = 0
    · rw [if_pos hn] at h; exact .inr (.inr ⟨h, hs, hn⟩)
    · rw [if_neg hn] at h
      by_cases hp : 0 < n
      · rw [if_pos hp] at h; exact .inr (.inl ⟨h, hs, hp⟩)
      · rw [if_neg hp] at h; exact absurd h h0
  · rw [if_neg hs] at h
    by_cases hn : n = 0
    · rw [if_pos hn] at h; exact .inl ⟨h, hs, hn⟩
    · rw [if_neg hn] at h; exact absurd h h0

set_option maxRecDepth 100000 in
set_option maxHeartbeats 1000000 in
theorem kind_calls (k : Int) (s : List UInt8) (n : Int) (w : World) :
    Calls Try.prog 26 #[.agg #[.int .i64 k, .string ⟨s.toArray⟩, .int .i64 n]] w fun e w' => e = .returned (.int .i64 (kd ⟨k, s, n⟩)) ∧ Below w.heap.size w w' := by
  by_cases hs : s = []
  · by_cases hn : n = 0
    · have H := Lib.hid (show kd ⟨k, s, n⟩ = 3 by rw [kd, if_pos hs, if_pos hn])
      subst hs hn
      go_enter Try.func26, Try.ntmps26
      go_wp2_with fail
      go_ret
      exact ⟨by rw [H.out]; rfl, (Below.refl _ _).alloc (Nat.le_refl _) _⟩
    · by_cases hp : 0 < n
      · have H := Lib.hid (show kd ⟨k, s, n⟩ = 2 by rw [kd, if_pos hs, if_neg hn, if_pos hp])
        have b : (n == 0) = false := by simpa using hn
        subst hs
        clear hn
        go_enter Try.func26, Try.ntmps26
        go_wp2_with fail
        go_ret
        exact ⟨by rw [H.out]; rfl, (Below.refl _ _).alloc (Nat.le_refl _) _⟩
      · have H := Lib.hid (show kd ⟨k, s, n⟩ = 0 by rw [kd, if_pos hs, if_neg hn, if_neg hp])
        have b : (n == 0) = false := by simpa using hn
        subst hs
        clear hn
        go_enter Try.func26, Try.ntmps26
        go_wp2_with fail
        go_ret
        exact ⟨by rw [H.out]; rfl, (Below.refl _ _).alloc (Nat.le_refl _) _⟩
  · have b0 : s.isEmpty = false := by simpa using hs
    by_cases hn : n = 0
    · have H := Lib.hid (show kd ⟨k, s, n⟩ = 1 by rw [kd, if_neg hs, if_pos hn])
      subst hn
      clear hs
      go_enter Try.func26, Try.ntmps26
      go_wp2_with fail
      go_ret
      exact ⟨by rw [H.out]; rfl, (Below.refl _ _).alloc (Nat.le_refl _) _⟩
    · have H := Lib.hid (show kd ⟨k, s, n⟩ = 0 by rw [kd, if_neg hs, if_neg hn])
      have b : (n == 0) = false := by simpa using hn
      clear hs hn
      go_enter Try.func26, Try.ntmps26
      go_wp2_with fail
      go_ret
      exact ⟨by rw [H.out]; rfl, (Below.refl _ _).alloc (Nat.le_refl _) _⟩
theorem isOne_iff (x y : Op) : isOne x y = true ↔ x.k = y.k ∧ x.k ≠ 3 := by simp [isOne]
set_option maxRecDepth 100000 in
set_option maxHeartbeats 1000000 in
theorem one_calls (x y : Op) (w : World) :
    Calls Try.prog 23 #[.agg #[.int .i64 x.k, .string ⟨x.s.toArray⟩, .int .i64 x.n], .agg #[.int .i64 y.k, .string ⟨y.s.toArray⟩, .int .i64 y.n]] w fun e w' => e = .returned (.bool (isOne x y)) ∧ Below w.heap.size w w' := by
  have HB := Lib.hid (((Below.refl w.heap.size w).alloc (Nat.le_refl _) (.cells #[.int .i64 x.k, .string ⟨x.s.toArray⟩, .int .i64 x.n] 32 (0, 0))).alloc (by simp) (.cells #[.int .i64 y.k, .string ⟨y.s.toArray⟩, .int .i64 y.n] 32 (0, 0)))
  by_cases h : x.k = y.k
  · have b : (x.k == y.k) = true := by simpa using h
    by_cases h3 : x.k = 3
    · have H := Lib.hid (show isOne x y = false by rw [isOne, b, h3]; rfl)
      have b3 : (x.k != 3) = false := by simp [h3]
      have b4 : (x.k == 3) = true := by simp [h3]
      clear h h3
      go_enter Try.func23, Try.ntmps23
      go_wp2_with fail
      go_ret
      exact ⟨by rw [H.out]; rfl, HB.out⟩
    · have b3 : (x.k != 3) = true := by simp [h3]
      have b4 : (x.k == 3) = false := by simp [h3]
      have H := Lib.hid (show isOne x y = true by rw [isOne, b, b3]; rfl)
      clear h h3
      go_enter Try.func23, Try.ntmps23
      go_wp2_with fail
      go_ret
      exact ⟨by rw [H.out]; rfl, HB.out⟩
  · have b : (x.k == y.k) = false := by simpa using h
    have H := Lib.hid (show isOne x y = false by rw [isOne, b]; rfl)
    clear h
    go_enter Try.func23, Try.ntmps23
    go_wp2_with fail
    go_ret
    exact ⟨by rw [H.out]; rfl, HB.out⟩

/-- the step that an op tells, if any -/
def stepV (x : Op) : Value := if x.k = kd x then stV x else .nilIface
def stepB (x : Op) : Bool := x.k == kd x && x.k != 0
theorem stepB_iff (x : Op) : stepB x = true ↔ Ok x := by
  constructor
  · intro h
    simp only [stepB, Bool.and_eq_true, beq_iff_eq, bne_iff_ne] at h
    exact ok_kd h.1 h.2
  · intro h
    have e := h.kd
    simp only [stepB, Bool.and_eq_true, beq_iff_eq, bne_iff_ne]
    refine ⟨e.symm, ?_⟩
    rcases h with ⟨a, _⟩ | ⟨a, _⟩ | ⟨a, _⟩ <;> omega
theorem kd_bd (x : Op) : kd x = 0 ∨ kd x = 1 ∨ kd x = 2 ∨ kd x = 3 := by
  unfold kd
  split
  · split
    · simp
    · split <;> simp
  · split <;> simp
theorem below_drew {B : Nat} {w w' : World} {m : Nat} (h : Below B w w') : Below B w (w'.drewN m) := ⟨h.os, h.tape, h.output, h.size, h.block⟩
theorem held3 {w w' : World} {g o : Nat} {x y z : Value} (hb : Below w.heap.size w w') (hl : g < w.heap.size) (h0 : w.cell? ⟨g, o, none⟩ = some x) (h1 : w.cell? ⟨g, o + 1, none⟩ = some y) (h2 : w.cell? ⟨g, o + 2, none⟩ = some z) :
    Below w.heap.size w w' ∧ w'.cell? ⟨g, o, none⟩ = some x ∧ w'.cell? ⟨g, o + 1, none⟩ = some y ∧ w'.cell? ⟨g, o + 2, none⟩ = some z :=
  ⟨hb, (hb.cell (p := ⟨g, o, none⟩) hl).trans h0, (hb.cell (p := ⟨g, o + 1, none⟩) hl).trans h1, (hb.cell (p := ⟨g, o + 2, none⟩) hl).trans h2⟩

set_option maxRecDepth 100000 in
set_option maxHeartbeats 2000000 in
theorem stepOf_calls (x : Op) (w : World) :
    Calls Try.prog 22 #[.agg #[.int .i64 x.k, .string ⟨x.s.toArray⟩, .int .i64 x.n]] w fun e w' => e = .returned (.tuple #[stepV x, .bool (stepB x)]) ∧ Below w.heap.size w w' := by
  obtain ⟨k, s, n⟩ := x
  have hk := kd_bd ⟨k, s, n⟩
  have HC := Lib.hid (kind_calls k s n)
  have HN := Lib.hid (at_new w (.cells #[.int .i64 k, .string ⟨s.toArray⟩, .int .i64 n] 32 (0, 0)))
  have HB := Lib.hid ((Below.refl w.heap.size w).alloc (Nat.le_refl _) (.cells #[.int .i64 k, .string ⟨s.toArray⟩, .int .i64 n] 32 (0, 0)))
  have HV := Lib.hid (show stepV ⟨k, s, n⟩ = if k = kd ⟨k, s, n⟩ then stV ⟨k, s, n⟩ else .nilIface from rfl)
  have HBB := Lib.hid (show stepB ⟨k, s, n⟩ = (k == kd ⟨k, s, n⟩ && k != 0) from rfl)
  generalize kd ⟨k, s, n⟩ = K at *
  show Calls Try.prog 22 #[.agg #[.int .i64 k, .string ⟨s.toArray⟩, .int .i64 n]] w _
  generalize stepV ⟨k, s, n⟩ = V at *
  generalize stepB ⟨k, s, n⟩ = B at *
  by_cases h : k = K
  · subst h
    have b1 : (k != k) = false := by simp
    have b2 : (k == k) = true := by simp
    rw [if_pos rfl] at HV
    go_enter Try.func22, Try.ntmps22
    go_wp2_with fail
    obtain ⟨w1, hw1⟩ : ∃ w1, w1 = w.alloc (.cells #[.int .i64 k, .string ⟨s.toArray⟩, .int .i64 n] 32 (0, 0)) := ⟨_, rfl⟩
    rw [← hw1] at HN HB ⊢
    have hlt := at_lt HN.out
    have x0 := (at_cell HN.out 0 : _ = some (Value.int .i64 k))
    have x1 := (at_cell HN.out 1 : _ = some (Value.string ⟨s.toArray⟩))
    have x2 := (at_cell HN.out 2 : _ = some (Value.int .i64 n))
    generalize hg : w.heap.size = g at HN hlt x0 x1 x2 ⊢
    clear hg
    clear hw1
    go_region_held3 (fun w' => Below w1.heap.size w1 w' ∧ w'.cell? ⟨g, 0, none⟩ = some (.int .i64 k) ∧ w'.cell? ⟨g, 0 + 1, none⟩ = some (.string ⟨s.toArray⟩) ∧ w'.cell? ⟨g, 0 + 2, none⟩ = some (.int .i64 n))
      (first
        | exact held3 (below_drew (Below.refl _ _)) hlt x0 x1 x2
        | exact held3 hb5 hlt x0 x1 x2)
      (first
        | (go_at_call 26; go_split_ands; refine (HC.out _).mono ?_; rintro e w5 ⟨rfl, hb5⟩; replace hb5 := Below.trans (by assumption) (hb5.mono (Below.size (by assumption)))))
    obtain ⟨-, y0, y1, y2⟩ := held3 hb5 hlt x0 x1 x2
    have B5 := Lib.hid (HB.out.trans (hb5.mono HB.out.size))
    clear x0 x1 x2 hb5 HN HC HB
    have y1' : w5.cell? ⟨g, 1, none⟩ = some (.string ⟨s.toArray⟩) := y1
    have y2' : w5.cell? ⟨g, 2, none⟩ = some (.int .i64 n) := y2
    clear y1 y2 b1 b2
    rcases hk with rfl | rfl | rfl | rfl
    all_goals
      go_wp2_with fail
      go_ret2
      exact ⟨by rw [HV.out, HBB.out]; rfl, B5.out⟩
  · have b1 : (k != K) = true := by simpa using h
    have b2 : (k == K) = false := by simpa using h
    rw [if_neg h] at HV
    rw [b2] at HBB
    clear h hk
    go_enter Try.func22, Try.ntmps22
    go_wp2_with fail
    obtain ⟨w1, hw1⟩ : ∃ w1, w1 = w.alloc (.cells #[.int .i64 k, .string ⟨s.toArray⟩, .int .i64 n] 32 (0, 0)) := ⟨_, rfl⟩
    rw [← hw1] at HN HB ⊢
    have hlt := at_lt HN.out
    have x0 := (at_cell HN.out 0 : _ = some (Value.int .i64 k))
    have x1 := (at_cell HN.out 1 : _ = some (Value.string ⟨s.toArray⟩))
    have x2 := (at_cell HN.out 2 : _ = some (Value.int .i64 n))
    generalize hg : w.heap.size = g at HN hlt x0 x1 x2 ⊢
    clear hg
    clear hw1
    go_region_held3 (fun w' => Below w1.heap.size w1 w' ∧ w'.cell? ⟨g, 0, none⟩ = some (.int .i64 k) ∧ w'.cell? ⟨g, 0 + 1, none⟩ = some (.string ⟨s.toArray⟩) ∧ w'.cell? ⟨g, 0 + 2, none⟩ = some (.int .i64 n))
      (first
        | exact held3 (below_drew (Below.refl _ _)) hlt x0 x1 x2
        | exact held3 hb5 hlt x0 x1 x2)
      (first
        | (go_at_call 26; go_split_ands; refine (HC.out _).mono ?_; rintro e w5 ⟨rfl, hb5⟩; replace hb5 := Below.trans (by assumption) (hb5.mono (Below.size (by assumption)))))
    have B5 := Lib.hid (HB.out.trans (hb5.mono HB.out.size))
    clear x0 x1 x2 hb5 HN HC HB
    go_wp2_with fail
    go_ret2
    exact ⟨by rw [HV.out, HBB.out]; rfl, B5.out⟩
end Go.Proofs.Ytiblmhjlngcidaa.Brk

/-
  Layer 18 (backoff) in plain Lean: which rules there may be, and how long is waited.
-/
import Derived.Test.YtblmjacphhpekaaCalcPlain
namespace Go.Proofs.Ytblmjacphhpekaa.Bkf
open Go.RowKit Go.Proofs.Ytblmjacphhpekaa.Calc

/-- a rule that may be -/
def okR (b c j : Int) : Prop := 1 ≤ b ∧ b ≤ 3600 ∧ b ≤ c ∧ c ≤ 86400 ∧ 0 ≤ j ∧ j ≤ 3600
instance (b c j : Int) : Decidable (okR b c j) := by unfold okR; exact inferInstance
def chkR (b c j : Int) : Int := if okR b c j then 0 else 2
theorem chk_ok {b c j : Int} (h : okR b c j) : chkR b c j = 0 := if_pos h
theorem chk_no {b c j : Int} (h : ¬ okR b c j) : chkR b c j = 2 := if_neg h

/-- what is left, from 0 on -/
def lf (r m : Int) : Int := r % m
theorem lf_rng {r m : Int} (h : 0 < m) : 0 ≤ lf r m ∧ lf r m < m := ⟨Int.emod_nonneg _ (by omega), Int.emod_lt_of_pos _ h⟩
theorem lf_tmod {r m : Int} (h : 0 < m) : (Int.tmod r m < 0 → lf r m = Int.tmod r m + m) ∧ (¬ Int.tmod r m < 0 → lf r m = Int.tmod r m) ∧ -m < Int.tmod r m ∧ Int.tmod r m < m := by
  have h2 := lf_rng (r := r) h
  have h6 := Int.tmod_eq_emod (a := r) (b := m)
  have h7 : (m.natAbs : Int) = m := Int.natAbs_of_nonneg (by omega)
  unfold lf at *
  by_cases h8 : 0 ≤ r ∨ m ∣ r
  · rw [if_pos h8] at h6
    exact ⟨fun _ => by omega, fun _ => by omega, by omega, by omega⟩
  · rw [if_neg h8] at h6
    have h9 : r % m ≠ 0 := fun e => h8 (.inr (Int.dvd_of_emod_eq_zero e))
    exact ⟨fun _ => by omega, fun _ => by omega, by omega, by omega⟩

/-- how long is waited at least behind n failures -/
def lowR (b c : Int) (n : Nat) : Int := dbl b n c
theorem low_rng {b c j : Int} (h : okR b c j) (n : Nat) : b ≤ lowR b c n ∧ lowR b c n ≤ c := dbl_mono b n c (by have := h.1; omega) h.2.2.1
theorem low_zero {b c j : Int} (h : okR b c j) : lowR b c 0 = b := by
  have := h.2.2.1
  unfold lowR dbl
  simp; omega
theorem low_up {b c j : Int} (h : okR b c j) (n : Nat) : lowR b c n ≤ lowR b c (n + 1) := by
  have h1 := low_rng h n
  have h2 := h.1
  unfold lowR at *
  rw [dbl_succ b n c (by omega) (by omega)]
  omega
theorem low_val {b c j : Int} (h : okR b c j) (n : Nat) : dblV b n c = lowR b c n := by
  obtain ⟨h1, h2, h3, h4, _, _⟩ := h
  unfold dblV
  rw [dblB_iff.2 ⟨isT_iff.2 (by omega), isT_iff.2 (by omega), h3, by omega⟩, if_pos rfl]
  rfl
/-- until when is waited -/
def atR (b c j : Int) (n : Nat) (now r : Int) : Int := now + lowR b c n + lf r (j + 1)
theorem at_rng {b c j : Int} (h : okR b c j) (n : Nat) (now r : Int) : now + lowR b c n ≤ atR b c j n now r ∧ atR b c j n now r ≤ now + lowR b c n + j := by
  have := lf_rng (r := r) (m := j + 1) (by have := h.2.2.2.2.1; omega)
  unfold atR
  omega
/-- all three together -/
theorem total_at3 {b c j : Int} (h : okR b c j) (n : Nat) (now r : Int) (hn : isT now = true) :
    total 0 [now, lowR b c n, lf r (j + 1)] = if isT (atR b c j n now r) = true then (atR b c j n now r, 0) else (0, 2) := by
  obtain ⟨n0, n1⟩ := isT_iff.1 hn
  have h1 := low_rng h n
  obtain ⟨h2, h3, h4, h5, h6, h7⟩ := h
  have h8 := lf_rng (r := r) (m := j + 1) (by omega)
  have t0 : isT 0 = true := by decide
  have tl : isT (lowR b c n) = true := isT_iff.2 (by omega)
  have tf : isT (lf r (j + 1)) = true := isT_iff.2 (by omega)
  have e0 : addC 0 now = 0 := addC_nought t0 hn (by simpa using hn)
  have v0 : addV 0 now = now := by rw [addV_some e0, Int.zero_add]
  simp only [total]
  rw [if_pos e0, v0]
  by_cases hA : isT (now + lowR b c n) = true
  · have e1 := addC_nought hn tl hA
    rw [if_pos e1, addV_some e1]
    by_cases hB : isT (atR b c j n now r) = true
    · have e2 : addC (now + lowR b c n) (lf r (j + 1)) = 0 := addC_nought hA tf hB
      rw [if_pos e2, addV_some e2, if_pos hB]
      rfl
    · have hB' : isT (now + lowR b c n + lf r (j + 1)) = false := by simpa [atR] using hB
      have e2 := addC_two hA tf hB'
      rw [if_neg (by omega), e2, if_neg hB]
  · have hA' : isT (now + lowR b c n) = false := by simpa using hA
    have e1 := addC_two hn tl hA'
    have hB : ¬ isT (atR b c j n now r) = true := fun hB => hA (by
      have := isT_iff.1 hB
      rw [isT_iff]
      unfold atR at this
      omega)
    rw [if_neg (by omega), e1, if_neg hB]
end Go.Proofs.Ytblmjacphhpekaa.Bkf

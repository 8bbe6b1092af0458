/-
  Layer 7 (sum): sums as bytes, the sum of two texts by powers; plain Lean.
-/
import Derived.Test.YtfdpmbnjjnmdiaaSumPlain
namespace Go.Proofs.Ytfdpmbnjjnmdiaa.Sum

/-! powers -/
theorem pow_mod (a : Int) (k : Nat) : ((a % 2147483647) ^ k) % 2147483647 = (a ^ k) % 2147483647 := by
  induction k with
  | zero => rw [Int.pow_zero, Int.pow_zero]
  | succ k ih => rw [Int.pow_succ, Int.pow_succ, Int.mul_emod, ih, Int.emod_emod, ← Int.mul_emod]
theorem mul_mod_l (a b : Int) : ((a % 2147483647) * b) % 2147483647 = (a * b) % 2147483647 := by
  rw [Int.mul_emod, Int.emod_emod, ← Int.mul_emod]
theorem mul_mod_r (a b : Int) : (a * (b % 2147483647)) % 2147483647 = (a * b) % 2147483647 := by
  rw [Int.mul_emod, Int.emod_emod, ← Int.mul_emod]
theorem shift_pow (n : Nat) : ∀ a : Int, 0 ≤ a → a < 2147483647 → shift a n = (a * 257 ^ n) % 2147483647 := by
  induction n with
  | zero => intro a h1 h2; show a = (a * 1) % 2147483647; omega
  | succ n ih =>
    intro a h1 h2
    show shift (257 * a % 2147483647) n = _
    rw [ih _ (by omega) (by omega), mul_mod_l, Int.pow_succ, show 257 * a * 257 ^ n = a * (257 ^ n * 257) by rw [Int.mul_comm 257 a, Int.mul_assoc, Int.mul_comm 257]]
def pw (n : Int) : Int := 257 ^ n.toNat % 2147483647
theorem pw_range (n : Int) : 0 ≤ pw n ∧ pw n < 2147483647 := by unfold pw; omega
theorem shift_pw {a : Int} (h1 : 0 ≤ a) (h2 : a < 2147483647) (b n : Int) : (a * pw n + b) % 2147483647 = (shift a n.toNat + b) % 2147483647 := by
  have e : (a * pw n) % 2147483647 = shift a n.toNat := by rw [shift_pow _ _ h1 h2]; unfold pw; exact mul_mod_r _ _
  rw [← e]; omega
/-- what is left to be multiplied -/
def Left (N m p q : Int) : Prop := (p * q ^ m.toNat) % 2147483647 = pw N
theorem left_start (N : Int) : Left N N 1 257 := by unfold Left pw; rw [Int.one_mul]
theorem left_even {N m p q : Int} (h : Left N m p q) (h0 : 0 < m) (he : m % 2 = 0) : Left N (m / 2) p (q * q % 2147483647) := by
  obtain ⟨k, rfl⟩ : ∃ k : Nat, m = 2 * k := ⟨(m / 2).toNat, by omega⟩
  unfold Left at h ⊢
  rw [← h, show (2 * (k : Int) / 2).toNat = k by omega, show (2 * (k : Int)).toNat = 2 * k by omega, ← mul_mod_r p, pow_mod, mul_mod_r, Int.pow_mul, show q ^ 2 = q * q by rw [Int.pow_succ, Int.pow_succ, Int.pow_zero, Int.one_mul]]
theorem left_odd {N m p q : Int} (h : Left N m p q) (h0 : 0 < m) (he : m % 2 = 1) : Left N (m / 2) (p * q % 2147483647) (q * q % 2147483647) := by
  obtain ⟨k, rfl⟩ : ∃ k : Nat, m = 2 * k + 1 := ⟨(m / 2).toNat, by omega⟩
  unfold Left at h ⊢
  rw [← h, show ((2 * (k : Int) + 1) / 2).toNat = k by omega, show (2 * (k : Int) + 1).toNat = 2 * k + 1 by omega, mul_mod_l, ← mul_mod_r (p * q), pow_mod, mul_mod_r, Int.pow_succ, Int.pow_mul, show q ^ 2 = q * q by rw [Int.pow_succ, Int.pow_succ, Int.pow_zero, Int.one_mul], Int.mul_assoc p q, Int.mul_comm q]
theorem left_end {N p q : Int} (h : Left N 0 p q) (h1 : 0 ≤ p) (h2 : p < 2147483647) : p = pw N := by
  unfold Left at h
  rw [show (0 : Int).toNat = 0 from rfl, Int.pow_zero, Int.mul_one] at h
  omega
theorem prod_range {a b : Int} (a0 : 0 ≤ a) (a1 : a < 2147483647) (b0 : 0 ≤ b) (b1 : b < 2147483647) : 0 ≤ a * b ∧ a * b ≤ 4611686009837453316 :=
  ⟨Int.mul_nonneg a0 b0, Int.le_trans (Int.mul_le_mul (c := 2147483646) (d := 2147483646) (by omega) (by omega) b0 (by omega)) (by omega)⟩

/-! two texts -/
def jok (a b n : Int) : Bool := isSum a && isSum b && decide (0 ≤ n)
def jV (a b n : Int) : Int := if jok a b n = true then (shift a n.toNat + b) % 2147483647 else 0
def jC (a b n : Int) : Int := if jok a b n = true then 0 else 1
theorem jok_iff {a b n : Int} : jok a b n = true ↔ 0 ≤ a ∧ a < 2147483647 ∧ 0 ≤ b ∧ b < 2147483647 ∧ 0 ≤ n := by
  simp [jok, isSum_iff, and_assoc]
theorem j_some {a b n : Int} (h : 0 ≤ a ∧ a < 2147483647 ∧ 0 ≤ b ∧ b < 2147483647 ∧ 0 ≤ n) : jV a b n = (shift a n.toNat + b) % 2147483647 ∧ jC a b n = 0 :=
  ⟨if_pos (jok_iff.2 h), if_pos (jok_iff.2 h)⟩
theorem j_none {a b n : Int} (h : ¬ (0 ≤ a ∧ a < 2147483647 ∧ 0 ≤ b ∧ b < 2147483647 ∧ 0 ≤ n)) : jV a b n = 0 ∧ jC a b n = 1 :=
  ⟨if_neg fun k => h (jok_iff.1 k), if_neg fun k => h (jok_iff.1 k)⟩
theorem j_app (s t : List UInt8) : jV (sumOf s) (sumOf t) t.length = sumOf (s ++ t) ∧ jC (sumOf s) (sumOf t) t.length = 0 := by
  have r1 := sumOf_range s
  have r2 := sumOf_range t
  have h := j_some (a := sumOf s) (b := sumOf t) (n := t.length) ⟨r1.1, r1.2, r2.1, r2.2, by omega⟩
  rw [sumOf_app]
  exact ⟨h.1.trans (by rw [show ((t.length : Int)).toNat = t.length by omega]), h.2⟩

/-! sums as bytes -/
def byteI (n : Int) : UInt8 := n.toNat.toUInt8
theorem byteI_back {n : Int} (h0 : 0 ≤ n) (h1 : n < 256) : ((byteI n).toNat : Int) = n := by
  unfold byteI
  have : n.toNat.toUInt8.toNat = n.toNat % 256 := by simp
  omega
def four (n : Int) : List UInt8 := [byteI (n / 16777216 % 256), byteI (n / 65536 % 256), byteI (n / 256 % 256), byteI (n % 256)]
def putL (n : Int) : List UInt8 := if isSum n = true then four n else []
theorem put_some {n : Int} (h0 : 0 ≤ n) (h1 : n < 2147483647) : putL n = four n := if_pos (isSum_iff.2 ⟨h0, h1⟩)
theorem put_none {n : Int} (h : n < 0 ∨ 2147483647 ≤ n) : putL n = [] := if_neg (by rw [isSum_not.2 h]; decide)
def be (l : List UInt8) : Int := l.foldl (fun n b => n * 256 + (b.toNat : Int)) 0
def rdok (l : List UInt8) : Bool := decide (l.length = 4) && decide (be l < 2147483647)
def rdV (l : List UInt8) : Int := if rdok l = true then be l else 0
def rdC (l : List UInt8) : Int := if l.length = 4 then (if be l < 2147483647 then 0 else 2) else 5
theorem rd_some {l : List UInt8} (h : l.length = 4) (h2 : be l < 2147483647) : rdV l = be l ∧ rdC l = 0 :=
  ⟨if_pos (by simp [rdok, h, h2]), by rw [rdC, if_pos h, if_pos h2]⟩
theorem rd_over {l : List UInt8} (h : l.length = 4) (h2 : ¬ be l < 2147483647) : rdV l = 0 ∧ rdC l = 2 :=
  ⟨if_neg (by simp [rdok]; omega), by rw [rdC, if_pos h, if_neg h2]⟩
theorem rd_size {l : List UInt8} (h : ¬ l.length = 4) : rdV l = 0 ∧ rdC l = 5 :=
  ⟨if_neg (by simp [rdok, h]), by rw [rdC, if_neg h]⟩
theorem be_four (a b c d : UInt8) : be [a, b, c, d] = (((a.toNat : Int) * 256 + b.toNat) * 256 + c.toNat) * 256 + d.toNat := by simp [be]
theorem be_put {n : Int} (h0 : 0 ≤ n) (h1 : n < 2147483647) : be (four n) = n := by
  unfold four
  rw [be_four, byteI_back (by omega) (by omega), byteI_back (by omega) (by omega), byteI_back (by omega) (by omega), byteI_back (by omega) (by omega)]
  omega
theorem rd_put {n : Int} (h0 : 0 ≤ n) (h1 : n < 2147483647) : rdV (putL n) = n ∧ rdC (putL n) = 0 := by
  rw [put_some h0 h1]
  have h := rd_some (l := four n) rfl (by rw [be_put h0 h1]; exact h1)
  rw [be_put h0 h1] at h
  exact h

/-! a text with its sum behind -/
def fits (l : List UInt8) : Bool := decide (4 ≤ l.length) && (putL (sumOf (l.take (l.length - 4))) == l.drop (l.length - 4))
theorem fits_short {l : List UInt8} (h : l.length < 4) : fits l = false := by simp [fits]; omega
theorem fits_long {l : List UInt8} (h : 4 ≤ l.length) : fits l = (putL (sumOf (l.take (l.length - 4))) == l.drop (l.length - 4)) := by simp [fits, h]
theorem four_len (n : Int) : (four n).length = 4 := rfl
theorem put_sum (l : List UInt8) : putL (sumOf l) = four (sumOf l) := put_some (sumOf_range l).1 (sumOf_range l).2
theorem fits_put (l : List UInt8) : fits (l ++ putL (sumOf l)) = true := by
  rw [put_sum, fits_long (by simp [four_len])]
  have e : (l ++ four (sumOf l)).length - 4 = l.length := by simp [four_len]
  rw [e, List.take_left, List.drop_left, put_sum]
  simp
end Go.Proofs.Ytfdpmbnjjnmdiaa.Sum

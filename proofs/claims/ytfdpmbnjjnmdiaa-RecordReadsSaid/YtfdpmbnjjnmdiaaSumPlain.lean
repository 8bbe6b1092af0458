/-
  Layer 7 (sum): sums of bytes by a polynomial; plain Lean.
-/
namespace Go.Proofs.Ytfdpmbnjjnmdiaa.Sum

/-- one byte more -/
def st (h : Int) (b : UInt8) : Int := (257 * h + (b.toNat : Int) + 1) % 2147483647
def sumFrom (h : Int) (l : List UInt8) : Int := l.foldl st h
def sumOf (l : List UInt8) : Int := sumFrom 0 l
/-- so many bytes behind that count as nothing -/
def shift (a : Int) : Nat → Int
  | 0 => a
  | n + 1 => shift (257 * a % 2147483647) n
def isSum (n : Int) : Bool := decide (0 ≤ n) && decide (n < 2147483647)

theorem isSum_iff {n : Int} : isSum n = true ↔ 0 ≤ n ∧ n < 2147483647 := by simp [isSum]
theorem isSum_not {n : Int} : isSum n = false ↔ n < 0 ∨ 2147483647 ≤ n := by
  rw [← Bool.not_eq_true, isSum_iff]; omega
theorem st_range (h : Int) (b : UInt8) : 0 ≤ st h b ∧ st h b < 2147483647 := by unfold st; omega
theorem sumFrom_nil (h : Int) : sumFrom h [] = h := rfl
theorem sumFrom_cons (h : Int) (b : UInt8) (l : List UInt8) : sumFrom h (b :: l) = sumFrom (st h b) l := rfl
theorem sumFrom_app (h : Int) (l m : List UInt8) : sumFrom h (l ++ m) = sumFrom (sumFrom h l) m := by simp [sumFrom, List.foldl_append]
theorem sumFrom_snoc (h : Int) (l : List UInt8) (b : UInt8) : sumFrom h (l ++ [b]) = st (sumFrom h l) b := by rw [sumFrom_app]; rfl
theorem sumFrom_range (l : List UInt8) : ∀ h : Int, 0 ≤ h → h < 2147483647 → 0 ≤ sumFrom h l ∧ sumFrom h l < 2147483647 := by
  induction l with
  | nil => intro h a b; exact ⟨a, b⟩
  | cons b l ih => intro h _ _; exact ih _ (st_range h b).1 (st_range h b).2
theorem sumOf_range (l : List UInt8) : 0 ≤ sumOf l ∧ sumOf l < 2147483647 := sumFrom_range l 0 (by omega) (by omega)
theorem sumOf_take (l : List UInt8) {k : Nat} (h : k < l.length) : sumOf (l.take (k + 1)) = st (sumOf (l.take k)) l[k] := by
  rw [List.take_add_one, List.getElem?_eq_getElem h]
  exact sumFrom_snoc _ _ _

/-! the sum of two texts -/
theorem sumFrom_step (a b x : Int) (c : UInt8) (h : (a - b) % 2147483647 = x % 2147483647) : (st a c - st b c) % 2147483647 = (257 * x) % 2147483647 := by
  unfold st; omega
theorem sumFrom_shift (l : List UInt8) : ∀ a b : Int, 0 ≤ a → a < 2147483647 → 0 ≤ b → b < 2147483647 → (sumFrom a l - sumFrom b l) % 2147483647 = shift ((a - b) % 2147483647) l.length := by
  induction l with
  | nil => intro a b _ _ _ _; rfl
  | cons c l ih =>
    intro a b _ _ _ _
    rw [sumFrom_cons, sumFrom_cons, ih _ _ (st_range a c).1 (st_range a c).2 (st_range b c).1 (st_range b c).2, List.length_cons]
    show _ = shift (257 * ((a - b) % 2147483647) % 2147483647) l.length
    congr 1
    have := sumFrom_step a b ((a - b) % 2147483647) c (by omega)
    rw [this]
theorem shift_range (n : Nat) : ∀ a : Int, 0 ≤ a → a < 2147483647 → 0 ≤ shift a n ∧ shift a n < 2147483647 := by
  induction n with
  | zero => intro a h1 h2; exact ⟨h1, h2⟩
  | succ n ih => intro a _ _; exact ih _ (by omega) (by omega)
theorem sumOf_app (s t : List UInt8) : sumOf (s ++ t) = (shift (sumOf s) t.length + sumOf t) % 2147483647 := by
  have r1 := sumOf_range s
  have r2 := sumOf_range t
  have r3 := sumOf_range (s ++ t)
  have r4 := shift_range t.length (sumOf s) r1.1 r1.2
  have h := sumFrom_shift t (sumOf s) 0 r1.1 r1.2 (by omega) (by omega)
  have e : sumFrom (sumOf s) t = sumOf (s ++ t) := (sumFrom_app 0 s t).symm
  rw [e, show (sumOf s - 0) % 2147483647 = sumOf s by omega] at h
  have e2 : sumFrom 0 t = sumOf t := rfl
  rw [e2] at h
  omega

/-! a byte that was turned is found -/
theorem unmul {x : Int} (h : (257 * x) % 2147483647 = 0) : x % 2147483647 = 0 := by omega
theorem unmul256 {x : Int} (h : (256 * x) % 2147483647 = 0) : x % 2147483647 = 0 := by omega
theorem sumFrom_inj (l : List UInt8) : ∀ a b : Int, 0 ≤ a → a < 2147483647 → 0 ≤ b → b < 2147483647 → sumFrom a l = sumFrom b l → a = b := by
  induction l with
  | nil => intro a b _ _ _ _ h; exact h
  | cons c l ih =>
    intro a b a0 a1 b0 b1 h
    have e := ih _ _ (st_range a c).1 (st_range a c).2 (st_range b c).1 (st_range b c).2 h
    have h2 : (257 * (a - b)) % 2147483647 = 0 := by
      have := sumFrom_step a b (a - b) c rfl
      rw [← this]
      simp only [sumFrom_cons] at h
      rw [e]; omega
    have := unmul h2
    omega
theorem st_inj {h : Int} {b c : UInt8} (e : st h b = st h c) : b = c := by
  have h1 := b.toNat_lt
  have h2 := c.toNat_lt
  unfold st at e
  apply UInt8.toNat_inj.1
  omega
theorem turned {l : List UInt8} {i : Nat} (hi : i < l.length) (b : UInt8) : sumOf (l.set i b) = sumOf l ↔ b = l[i] := by
  constructor
  · intro h
    have e1 : l.set i b = l.take i ++ (b :: l.drop (i + 1)) := by rw [List.set_eq_take_append_cons_drop, if_pos hi]
    have e2 : l = l.take i ++ (l[i] :: l.drop (i + 1)) := by rw [List.getElem_cons_drop, List.take_append_drop]
    have r := sumOf_range (l.take i)
    rw [e1] at h
    conv at h => rhs; rw [e2]
    unfold sumOf at h r
    rw [sumFrom_app, sumFrom_app, sumFrom_cons, sumFrom_cons] at h
    exact st_inj (sumFrom_inj _ _ _ (st_range _ _).1 (st_range _ _).2 (st_range _ _).1 (st_range _ _).2 h)
  · rintro rfl; simp
theorem st_swap {h : Int} {b c : UInt8} (e : st (st h b) c = st (st h c) b) : b = c := by
  have h1 := b.toNat_lt
  have h2 := c.toNat_lt
  unfold st at e
  apply UInt8.toNat_inj.1
  have h3 : (256 * ((b.toNat : Int) - c.toNat)) % 2147483647 = 0 := by omega
  have := unmul256 h3
  omega
theorem swapped {l : List UInt8} {i : Nat} (hi : i + 1 < l.length) : sumOf ((l.set i l[i + 1]).set (i + 1) l[i]) = sumOf l ↔ l[i] = l[i + 1] := by
  constructor
  · intro h
    have e2 : l = l.take i ++ (l[i] :: l[i + 1] :: l.drop (i + 2)) := by
      rw [List.getElem_cons_drop, List.getElem_cons_drop, List.take_append_drop]
    have e1 : (l.set i l[i + 1]).set (i + 1) l[i] = l.take i ++ (l[i + 1] :: l[i] :: l.drop (i + 2)) := by
      have hl : (l.take i).length = i := by simp; omega
      conv => lhs; rw [show l.set i l[i + 1] = l.take i ++ (l[i + 1] :: l[i + 1] :: l.drop (i + 2)) by
        rw [List.set_eq_take_append_cons_drop, if_pos (by omega), List.getElem_cons_drop]]
      rw [List.set_append_right _ _ (by omega), hl, show i + 1 - i = 1 by omega]
      rfl
    rw [e1] at h
    conv at h => rhs; rw [e2]
    unfold sumOf at h
    rw [sumFrom_app, sumFrom_app, sumFrom_cons, sumFrom_cons, sumFrom_cons, sumFrom_cons] at h
    exact (st_swap (sumFrom_inj _ _ _ (st_range _ _).1 (st_range _ _).2 (st_range _ _).1 (st_range _ _).2 h)).symm
  · intro e
    have a : l.set i l[i + 1] = l := by
      conv => lhs; rw [← e]
      simp
    rw [a, e]; simp
end Go.Proofs.Ytfdpmbnjjnmdiaa.Sum

/-
  Layer 3 (clock): plain: what numbers a text holds, and what a stamp's are.
-/
import Derived.Test.YtnbabfjacnonfaaDoorClockPlain
namespace Go.Proofs.YtnbabfjacnonfaaDoor.Clock
open Go.Proofs.YtnbabfjacnonfaaDoor.Digit

/-- the document's own number of two signs -/
def two2 : List UInt8 → Int
  | a :: b :: _ => if 48 ≤ a.toNat ∧ a.toNat ≤ 57 ∧ 48 ≤ b.toNat ∧ b.toNat ≤ 57 then 10 * ((a.toNat : Int) - 48) + (b.toNat : Int) - 48 else 0
  | _ => 0
def twoI (s : List UInt8) (k : Int) : Int := two2 (s.drop k.toNat)
theorem two2_bd : ∀ l : List UInt8, 0 ≤ two2 l ∧ two2 l ≤ 99
  | [] => by simp [two2]
  | [_] => by simp [two2]
  | a :: b :: l => by simp only [two2]; split <;> omega
theorem twoI_bd (s : List UInt8) (k : Int) : 0 ≤ twoI s k ∧ twoI s k ≤ 99 := two2_bd _
theorem two2_d2 {x : Int} (h0 : 0 ≤ x) (h : x < 100) (r : List UInt8) : two2 (d2 x ++ r) = x := by
  have e1 := hexd_toNat (n := (x / 10).toNat) (by omega)
  have e2 := hexd_toNat (n := (x % 10).toNat) (by omega)
  simp only [d2, List.cons_append, two2, e1, e2]
  rw [if_pos (by omega)]; omega
theorem twoI_drop {s t : List UInt8} {k : Nat} {x : Int} (h : s.drop k = d2 x ++ t) (h0 : 0 ≤ x) (h1 : x < 100) : twoI s k = x := by
  rw [twoI, show (k : Int).toNat = k from rfl, h, two2_d2 h0 h1]
theorem twoI_none {s : ByteArray} {k : Nat} (h : s.size < k + 2) : twoI s.data.toList k = 0 := by
  have hl : (s.data.toList.drop k).length < 2 := by rw [List.length_drop]; show s.size - k < 2; omega
  rw [twoI, show (k : Int).toNat = k from rfl]
  match hd : s.data.toList.drop k, hl with
  | [], _ => rfl
  | [_], _ => rfl
theorem twoI_some {s : ByteArray} {k : Nat} (h : k + 1 < s.size) : twoI s.data.toList k = if 48 ≤ s[k].toNat ∧ s[k].toNat ≤ 57 ∧ 48 ≤ s[k + 1].toNat ∧ s[k + 1].toNat ≤ 57 then 10 * ((s[k].toNat : Int) - 48) + (s[k + 1].toNat : Int) - 48 else 0 := by
  have h1 : k < s.data.toList.length := by show k < s.size; omega
  have h2 : k + 1 < s.data.toList.length := by show k + 1 < s.size; omega
  have e : s.data.toList.drop k = s[k] :: s[k + 1] :: s.data.toList.drop (k + 2) := by
    rw [List.drop_eq_getElem_cons h1, List.drop_eq_getElem_cons h2]; rfl
  rw [twoI, show (k : Int).toNat = k from rfl, e]; rfl

/-- the program's number of signs -/
def dv (c : UInt8) : Int := if 48 ≤ c.toNat then (c.toNat : Int) - 48 else (c.toNat : Int) + 208
def numV (a : Int) : List UInt8 → Int
  | [] => a
  | c :: l => numV (10 * a + dv c) l
theorem dv_bd (c : UInt8) : 0 ≤ dv c ∧ dv c ≤ 255 := by
  have := c.toNat_lt; unfold dv; split <;> omega
theorem numV_append (a : Int) (l m : List UInt8) : numV a (l ++ m) = numV (numV a l) m := by
  induction l generalizing a with
  | nil => rfl
  | cons c l ih => exact ih _
theorem numV_bd (l : List UInt8) (a : Int) (h : 0 ≤ a) : 0 ≤ numV a l ∧ numV a l + 29 ≤ (a + 29) * 10 ^ l.length := by
  induction l generalizing a with
  | nil => simp [numV]; omega
  | cons c l ih =>
    have hc := dv_bd c
    have := ih (10 * a + dv c) (by omega)
    have e : (10 * a + dv c + 29) * 10 ^ l.length ≤ (a + 29) * 10 ^ (l.length + 1) := by
      rw [Int.pow_succ, Int.mul_comm (10 ^ l.length) 10, ← Int.mul_assoc]
      exact Int.mul_le_mul_of_nonneg_right (by omega) (Int.pow_nonneg (by omega))
    simp only [numV, List.length_cons]
    omega
theorem numV_4 (l : List UInt8) (h : l.length ≤ 4) : 0 ≤ numV 0 l ∧ numV 0 l ≤ 290000 := by
  have := numV_bd l 0 (by omega)
  have e : l.length = 0 ∨ l.length = 1 ∨ l.length = 2 ∨ l.length = 3 ∨ l.length = 4 := by omega
  rcases e with e | e | e | e | e <;> rw [e] at this <;> omega
theorem numV_2 (l : List UInt8) (h : l.length ≤ 2) : 0 ≤ numV 0 l ∧ numV 0 l ≤ 2900 := by
  have := numV_bd l 0 (by omega)
  have e : l.length = 0 ∨ l.length = 1 ∨ l.length = 2 := by omega
  rcases e with e | e | e <;> rw [e] at this <;> omega
theorem numV_snoc (s : ByteArray) (k : Nat) (h : k < s.size) : numV 0 (s.data.toList.take (k + 1)) = 10 * numV 0 (s.data.toList.take k) + dv s[k] := by
  rw [take_snoc s k h, numV_append]; rfl
theorem dv_hexd {n : Nat} (h : n < 10) : dv (hexd n) = n := by
  have := hexd_toNat h; unfold dv; rw [if_pos (by omega)]; omega
theorem numV_d2 {x : Int} (h0 : 0 ≤ x) (h : x < 100) (a : Int) : numV a (d2 x) = 100 * a + x := by
  simp only [d2, numV, dv_hexd (n := (x / 10).toNat) (by omega), dv_hexd (n := (x % 10).toNat) (by omega)]; omega
theorem numV_d4 {x : Int} (h0 : 0 ≤ x) (h : x < 10000) : numV 0 (d2 (x / 100) ++ d2 (x % 100)) = x := by
  rw [numV_append, numV_d2 (by omega) (by omega), numV_d2 (by omega) (by omega)]; omega

/-- the tick of a day and a time -/
def tickOf (y m d h mi se : Int) : Int := (d - 1 + dty y + cum y m) * 86400 + h * 3600 + mi * 60 + se
theorem tickOf_day {t y m d : Int} (hd : IsDay (t / 86400) y m d) : tickOf y m d (t % 86400 / 3600) (t % 86400 % 3600 / 60) (t % 86400 % 60) = t := by
  have := hd.2.2.2.2.2
  unfold tickOf
  rw [show d - 1 + dty y + cum y m = t / 86400 by omega]; omega

/-- a text that is the stamp of a tick -/
def IsStamp (s : List UInt8) (t : Int) : Prop := 0 ≤ t ∧ t ≤ 252455615999 ∧ stmp t = s
/-- what a stamp's signs tell, by both ways of telling -/
theorem stamp_parts {s : List UInt8} {t : Int} (h : IsStamp s t) : ∃ y m d, IsDay (t / 86400) y m d ∧ y ≤ 9999 ∧ d ≤ 31 ∧ s = stm y m d (t % 86400) := by
  obtain ⟨h0, h1, rfl⟩ := h
  obtain ⟨y, m, d, hd, hy⟩ := has_day h0 h1
  exact ⟨y, m, d, hd, hy, isday_d hd, stmp_some h0 h1 hd⟩
theorem stm_two {y m d r : Int} (hy0 : 0 ≤ y) (hy : y ≤ 9999) (hm0 : 0 ≤ m) (hm : m < 100) (hd0 : 0 ≤ d) (hd : d < 100) (hr0 : 0 ≤ r) (hr : r < 86400) :
    100 * twoI (stm y m d r) 0 + twoI (stm y m d r) 2 = y ∧ twoI (stm y m d r) 5 = m ∧ twoI (stm y m d r) 8 = d ∧ twoI (stm y m d r) 11 = r / 3600 ∧ twoI (stm y m d r) 14 = r % 3600 / 60 ∧ twoI (stm y m d r) 17 = r % 60 := by
  have a0 : twoI (stm y m d r) 0 = y / 100 := twoI_drop (k := 0) (x := y / 100) (t := (stm y m d r).drop 2) rfl (by omega) (by omega)
  have a2 : twoI (stm y m d r) 2 = y % 100 := twoI_drop (k := 2) (x := y % 100) (t := (stm y m d r).drop 4) rfl (by omega) (by omega)
  exact ⟨by omega, twoI_drop (k := 5) (x := m) (t := (stm y m d r).drop 7) rfl hm0 hm, twoI_drop (k := 8) (x := d) (t := (stm y m d r).drop 10) rfl hd0 hd,
    twoI_drop (k := 11) (x := r / 3600) (t := (stm y m d r).drop 13) rfl (by omega) (by omega), twoI_drop (k := 14) (x := r % 3600 / 60) (t := (stm y m d r).drop 16) rfl (by omega) (by omega),
    twoI_drop (k := 17) (x := r % 60) (t := []) rfl (by omega) (by omega)⟩
theorem stm_num {y m d r : Int} (hy0 : 0 ≤ y) (hy : y ≤ 9999) (hm0 : 0 ≤ m) (hm : m < 100) (hd0 : 0 ≤ d) (hd : d < 100) (hr0 : 0 ≤ r) (hr : r < 86400) :
    numV 0 ((stm y m d r).take 4) = y ∧ numV 0 (((stm y m d r).drop 5).take 2) = m ∧ numV 0 (((stm y m d r).drop 8).take 2) = d ∧ numV 0 (((stm y m d r).drop 11).take 2) = r / 3600 ∧ numV 0 (((stm y m d r).drop 14).take 2) = r % 3600 / 60 ∧ numV 0 (((stm y m d r).drop 17).take 2) = r % 60 := by
  refine ⟨numV_d4 hy0 (by omega), ?_, ?_, ?_, ?_, ?_⟩
  · exact (numV_d2 (x := m) hm0 hm 0).trans (by omega)
  · exact (numV_d2 (x := d) hd0 hd 0).trans (by omega)
  · exact (numV_d2 (x := r / 3600) (by omega) (by omega) 0).trans (by omega)
  · exact (numV_d2 (x := r % 3600 / 60) (by omega) (by omega) 0).trans (by omega)
  · exact (numV_d2 (x := r % 60) (by omega) (by omega) 0).trans (by omega)
theorem stamp_of {s : ByteArray} (hs : s.size = 19) {n : Int} (h : stmp n = s.data.toList) : IsStamp s.data.toList n := by
  by_cases hn : n < 0 ∨ 252455615999 < n
  · rw [stmp_none hn] at h
    have : s.data.toList.length = 19 := hs
    rw [← h] at this; cases this
  · exact ⟨by omega, by omega, h⟩
theorem stamp_size {s : ByteArray} {t : Int} (h : IsStamp s.data.toList t) : s.size = 19 := by
  have := stmp_len h.1 h.2.1
  rw [h.2.2] at this; exact this

end Go.Proofs.YtnbabfjacnonfaaDoor.Clock

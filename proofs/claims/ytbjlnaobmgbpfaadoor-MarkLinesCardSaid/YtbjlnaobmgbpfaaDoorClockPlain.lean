/-
  Layer 3 (clock): the plain mathematics: the calendar, stamps, their order.
-/
import Derived.Test.YtbjlnaobmgbpfaaDoorDigitPlain
import GoSem.Op.String
namespace Go.Proofs.YtbjlnaobmgbpfaaDoor.Clock
open Go.Proofs.YtbjlnaobmgbpfaaDoor.Digit

/-- how many leap years there are from the year 1 to this one -/
def lp (y : Int) : Int := if y < 0 then 0 else y / 4 - y / 100 + y / 400
/-- how many days there are from the first tick to a year -/
def dty (y : Int) : Int := 365 * (y - 2000) + lp (y - 1) - 484
def leapI (y : Int) : Int := if y % 400 = 0 ∨ (¬ y % 100 = 0 ∧ y % 4 = 0) then 1 else 0
def mdt (m : Int) : Int := if m = 4 ∨ m = 6 ∨ m = 9 ∨ m = 11 then 30 else if m = 2 then 28 else 31
/-- how long a month is -/
def lng (y m : Int) : Int := mdt m + if m = 2 then leapI y else 0
def cumT (m : Int) : Int := if m = 1 then 0 else if m = 2 then 31 else if m = 3 then 59 else if m = 4 then 90 else if m = 5 then 120 else if m = 6 then 151 else if m = 7 then 181 else if m = 8 then 212 else if m = 9 then 243 else if m = 10 then 273 else if m = 11 then 304 else 334
/-- how many days of the year are ahead of a month -/
def cum (y m : Int) : Int := cumT m + if 2 < m then leapI y else 0

theorem leap_bd (y : Int) : 0 ≤ leapI y ∧ leapI y ≤ 1 := by unfold leapI; split <;> omega
theorem lp_step {y : Int} (h : 1 ≤ y) : lp y - lp (y - 1) = leapI y := by
  unfold lp leapI
  rw [if_neg (by omega), if_neg (by omega)]
  split <;> omega
theorem lp_bd {y : Int} (h : -1 ≤ y) (h1 : y ≤ 300000) : 0 ≤ lp y ∧ lp y ≤ 80000 := by
  unfold lp; split <;> omega
theorem dty_step {y : Int} (h : 1 ≤ y) : dty (y + 1) = dty y + 365 + leapI y := by
  unfold dty; rw [← lp_step h, show y + 1 - 1 = y by omega]; omega
theorem dty_mono {a b : Int} (h0 : 1 ≤ a) (h : a ≤ b) : dty a + 365 * (b - a) ≤ dty b := by
  unfold dty lp; rw [if_neg (by omega), if_neg (by omega)]; omega
theorem dty_bd {y : Int} (h0 : 0 ≤ y) (h : y ≤ 300000) : -800000 ≤ dty y ∧ dty y ≤ 110000000 := by
  have := lp_bd (y := y - 1) (by omega) (by omega)
  unfold dty; omega
theorem dty_2000 : dty 2000 = 0 := by decide
theorem dty_10000 : dty 10000 = 2921940 := by decide
theorem lng_bd {y m : Int} : 28 ≤ lng y m ∧ lng y m ≤ 31 := by
  have := leap_bd y
  unfold lng mdt; repeat' split
  all_goals omega
theorem cum_step {y m : Int} (h1 : 1 ≤ m) (h : m < 12) : cum y (m + 1) = cum y m + lng y m := by
  have h : m = 1 ∨ m = 2 ∨ m = 3 ∨ m = 4 ∨ m = 5 ∨ m = 6 ∨ m = 7 ∨ m = 8 ∨ m = 9 ∨ m = 10 ∨ m = 11 := by omega
  rcases h with rfl | rfl | rfl | rfl | rfl | rfl | rfl | rfl | rfl | rfl | rfl <;> simp [cum, cumT, lng, mdt] <;> omega
theorem cum_1 (y : Int) : cum y 1 = 0 := by simp [cum, cumT]
theorem cum_end (y : Int) : cum y 12 + lng y 12 = 365 + leapI y := by simp [cum, cumT, lng, mdt]; omega
theorem cum_more {y m : Int} (j : Nat) (h1 : 1 ≤ m) (h : m + 1 + j ≤ 12) : cum y m + lng y m ≤ cum y (m + 1 + j) := by
  induction j with
  | zero => rw [show m + 1 + ((0 : Nat) : Int) = m + 1 by omega, cum_step h1 (by omega)]; omega
  | succ j ih =>
    have := ih (by omega)
    have h2 := cum_step (y := y) (m := m + 1 + j) (by omega) (by omega)
    have h3 := lng_bd (y := y) (m := m + 1 + j)
    rw [show m + 1 + ((j + 1 : Nat) : Int) = m + 1 + j + 1 by omega]; omega
theorem cum_mono {y m m' : Int} (h1 : 1 ≤ m) (h : m < m') (h2 : m' ≤ 12) : cum y m + lng y m ≤ cum y m' := by
  have := cum_more (y := y) (m := m) (m' - m - 1).toNat h1 (by omega)
  rwa [show m + 1 + ((m' - m - 1).toNat : Int) = m' by omega] at this
theorem cum_pos (y m : Int) : 0 ≤ cum y m := by
  have := leap_bd y
  unfold cum cumT; repeat' split
  all_goals omega
theorem cum_lng {y m : Int} (h1 : 1 ≤ m) (h2 : m ≤ 12) : cum y m + lng y m ≤ 365 + leapI y := by
  rw [← cum_end y]
  by_cases h : m = 12
  · rw [h]; omega
  · have := cum_mono (y := y) h1 (show m < 12 by omega) (by omega)
    have := lng_bd (y := y) (m := 12)
    omega

/-- the day number k is that day -/
def IsDay (k y m d : Int) : Prop := 2000 ≤ y ∧ 1 ≤ m ∧ m ≤ 12 ∧ 1 ≤ d ∧ d ≤ lng y m ∧ k = dty y + cum y m + (d - 1)
def LexDay (y m d y' m' d' : Int) : Prop := y < y' ∨ y = y' ∧ (m < m' ∨ m = m' ∧ d < d')

theorem isday_year {k y m d : Int} (h : IsDay k y m d) : dty y ≤ k ∧ k < dty (y + 1) := by
  obtain ⟨h1, h2, h3, h4, h5, rfl⟩ := h
  have := cum_pos y m
  have := cum_lng (y := y) h2 h3
  rw [dty_step (by omega)]; omega
theorem isday_lt {k y m d k' y' m' d' : Int} (h : IsDay k y m d) (h' : IsDay k' y' m' d') (hl : LexDay y m d y' m' d') : k < k' := by
  have a := isday_year h
  have a' := isday_year h'
  obtain ⟨h1, h2, h3, h4, h5, e⟩ := h
  obtain ⟨h1', h2', h3', h4', h5', e'⟩ := h'
  rcases hl with hl | ⟨rfl, hl | ⟨rfl, hl⟩⟩
  · have := dty_mono (a := y + 1) (b := y') (by omega) (by omega); omega
  · have := cum_mono (y := y) h2 hl h3'; omega
  · omega
theorem isday_uniq {k y m d y' m' d' : Int} (h : IsDay k y m d) (h' : IsDay k y' m' d') : y = y' ∧ m = m' ∧ d = d' := by
  by_cases hl : LexDay y m d y' m' d'
  · have := isday_lt h h' hl; omega
  · by_cases hl' : LexDay y' m' d' y m d
    · have := isday_lt h' h hl'; omega
    · unfold LexDay at hl hl'; omega
theorem isday_lex {k y m d k' y' m' d' : Int} (h : IsDay k y m d) (h' : IsDay k' y' m' d') (hk : k < k') : LexDay y m d y' m' d' := by
  by_cases hl : LexDay y m d y' m' d'
  · exact hl
  · by_cases hl' : LexDay y' m' d' y m d
    · have := isday_lt h' h hl'; omega
    · obtain ⟨rfl, rfl, rfl⟩ : y = y' ∧ m = m' ∧ d = d' := by unfold LexDay at hl hl'; omega
      have := h.2.2.2.2.2; have := h'.2.2.2.2.2; omega

/-- the day on -/
def nxt (p : Int × Int × Int) : Int × Int × Int := if p.2.2 < lng p.1 p.2.1 then (p.1, p.2.1, p.2.2 + 1) else if p.2.1 < 12 then (p.1, p.2.1 + 1, 1) else (p.1 + 1, 1, 1)
def ymd : Nat → Int × Int × Int
  | 0 => (2000, 1, 1)
  | k + 1 => nxt (ymd k)
theorem nxt_d {y m d : Int} (h : d < lng y m) : nxt (y, m, d) = (y, m, d + 1) := if_pos h
theorem nxt_m {y m d : Int} (h : ¬ d < lng y m) (h2 : m < 12) : nxt (y, m, d) = (y, m + 1, 1) := (if_neg h).trans (if_pos h2)
theorem nxt_y {y m d : Int} (h : ¬ d < lng y m) (h2 : ¬ m < 12) : nxt (y, m, d) = (y + 1, 1, 1) := (if_neg h).trans (if_neg h2)
theorem isday_nxt {k : Int} : ∀ {p : Int × Int × Int}, IsDay k p.1 p.2.1 p.2.2 → IsDay (k + 1) (nxt p).1 (nxt p).2.1 (nxt p).2.2
  | (y, m, d), h => by
    simp only at h
    obtain ⟨h1, h2, h3, h4, h5, e⟩ := h
    by_cases hd : d < lng y m
    · rw [nxt_d hd]
      exact ⟨h1, h2, h3, (by omega : 1 ≤ d + 1), hd, (by omega : k + 1 = dty y + cum y m + (d + 1 - 1))⟩
    · by_cases hm : m < 12
      · rw [nxt_m hd hm]
        have := lng_bd (y := y) (m := m + 1)
        have := cum_step (y := y) h2 hm
        exact ⟨h1, (by omega : 1 ≤ m + 1), (by omega : m + 1 ≤ 12), Int.le_refl _, (by omega : 1 ≤ lng y (m + 1)), (by omega : k + 1 = dty y + cum y (m + 1) + (1 - 1))⟩
      · rw [nxt_y hd hm]
        obtain rfl : m = 12 := by omega
        have := lng_bd (y := y + 1) (m := 1)
        have := cum_end y
        have := dty_step (y := y) (by omega)
        have := cum_1 (y + 1)
        exact ⟨(by omega : 2000 ≤ y + 1), Int.le_refl _, (by omega : (1 : Int) ≤ 12), Int.le_refl _, (by omega : 1 ≤ lng (y + 1) 1), (by omega : k + 1 = dty (y + 1) + cum (y + 1) 1 + (1 - 1))⟩
theorem isday_ymd (k : Nat) : IsDay k (ymd k).1 (ymd k).2.1 (ymd k).2.2 := by
  induction k with
  | zero => exact ⟨by decide, by decide, by decide, by decide, by decide, by decide⟩
  | succ k ih => exact isday_nxt ih
theorem ymd_of {k : Nat} {y m d : Int} (h : IsDay k y m d) : ymd k = (y, m, d) := by
  obtain ⟨h1, h2, h3⟩ := isday_uniq (isday_ymd k) h
  rw [← h1, ← h2, ← h3]
theorem isday_9999 {k y m d : Int} (h : IsDay k y m d) (hk : k < 2921940) : y ≤ 9999 := by
  by_cases hy : y ≤ 9999
  · exact hy
  · have := dty_mono (a := 10000) (b := y) (by omega) (by omega)
    have := isday_year h
    rw [dty_10000] at *; omega
theorem isday_0 {k y m d : Int} (h : IsDay k y m d) : 0 ≤ k := by
  have := dty_mono (a := 2000) (b := y) (by omega) h.1
  have := isday_year h
  have := h.1
  rw [dty_2000] at *; omega
theorem isday_top {k y m d : Int} (h : IsDay k y m d) (hy : y ≤ 9999) : k < 2921940 := by
  have := dty_mono (a := y + 1) (b := 10000) (by have := h.1; omega) (by omega)
  have := isday_year h
  rw [dty_10000] at *; omega

def Last : Int := 252455615999
/-- two digits, four digits -/
def d2 (x : Int) : List UInt8 := [hexd (x / 10).toNat, hexd (x % 10).toNat]
theorem pad_2 {x : Int} (h0 : 0 ≤ x) (h : x < 100) : padI x 2 = d2 x := by
  rw [padI_some (by omega)]
  by_cases h1 : x < 10
  · rw [dec_lt h0 h1, padL, d2, show x / 10 = 0 by omega, show x % 10 = x by omega]; rfl
  · rw [dec_ge (by omega), dec_lt (by omega) (by omega), padL, d2]; rfl
theorem dec_4 {x : Int} (h0 : 1000 ≤ x) (h : x ≤ 9999) : dec x = d2 (x / 100) ++ d2 (x % 100) := by
  rw [dec_ge (by omega), dec_ge (by omega), dec_ge (by omega), dec_lt (by omega) (by omega), d2, d2,
    show x / 10 / 10 / 10 = x / 100 / 10 by omega, show x / 10 / 10 % 10 = x / 100 % 10 by omega, show x / 10 % 10 = x % 100 / 10 by omega, show x % 100 % 10 = x % 10 by omega]
  rfl
theorem pad_4 {x : Int} (h0 : 1000 ≤ x) (h : x ≤ 9999) : padI x 4 = d2 (x / 100) ++ d2 (x % 100) := by
  rw [padI_some (by omega), padL, dec_4 h0 h]; rfl

def clk (r : Int) : List UInt8 := d2 (r / 3600) ++ [58] ++ d2 (r % 3600 / 60) ++ [58] ++ d2 (r % 60)
def day (y m d : Int) : List UInt8 := d2 (y / 100) ++ d2 (y % 100) ++ [45] ++ d2 m ++ [45] ++ d2 d
def stm (y m d r : Int) : List UInt8 := day y m d ++ [32] ++ clk r
def stmp (t : Int) : List UInt8 := if t < 0 ∨ Last < t then [] else stm (ymd (t / 86400).toNat).1 (ymd (t / 86400).toNat).2.1 (ymd (t / 86400).toNat).2.2 (t % 86400)
theorem stmp_none {t : Int} (h : t < 0 ∨ 252455615999 < t) : stmp t = [] := by rw [stmp, if_pos (by unfold Last; omega)]
theorem stmp_some {t y m d : Int} (h0 : 0 ≤ t) (h : t ≤ 252455615999) (hd : IsDay (t / 86400) y m d) : stmp t = stm y m d (t % 86400) := by
  rw [stmp, if_neg (by unfold Last; omega), ymd_of (k := (t / 86400).toNat) (by rwa [show ((t / 86400).toNat : Int) = t / 86400 by omega])]
theorem has_day {t : Int} (h0 : 0 ≤ t) (h : t ≤ 252455615999) : ∃ y m d, IsDay (t / 86400) y m d ∧ y ≤ 9999 := by
  have hd := isday_ymd (t / 86400).toNat
  rw [show ((t / 86400).toNat : Int) = t / 86400 by omega] at hd
  exact ⟨_, _, _, hd, isday_9999 hd (by omega)⟩
theorem stm_len (y m d r : Int) : (stm y m d r).length = 19 := rfl
theorem stmp_len {t : Int} (h0 : 0 ≤ t) (h : t ≤ 252455615999) : (stmp t).length = 19 := by
  obtain ⟨y, m, d, hd, -⟩ := has_day h0 h
  rw [stmp_some h0 h hd]; rfl

/-- the order of bytes -/
theorem less_app (a : List UInt8) {x y : List UInt8} : Op.bytesLess (a ++ x) (a ++ y) = Op.bytesLess x y := by
  induction a with
  | nil => rfl
  | cons c a ih => simp [Op.bytesLess, ih]
theorem less_irr (a : List UInt8) : Op.bytesLess a a = false := by
  induction a with
  | nil => rfl
  | cons c a ih => simp [Op.bytesLess, ih]
theorem less_asym : ∀ (a b : List UInt8), Op.bytesLess a b = true → Op.bytesLess b a = false
  | _, [] => by simp [Op.bytesLess]
  | [], _ :: _ => by simp [Op.bytesLess]
  | a :: x, b :: y => by
    simp only [Op.bytesLess, Bool.or_eq_true, decide_eq_true_eq, Bool.and_eq_true, beq_iff_eq, Bool.or_eq_false_iff, decide_eq_false_iff_not, Bool.and_eq_false_iff]
    rintro (h | ⟨rfl, h⟩)
    · exact ⟨UInt8.not_lt.2 (UInt8.le_of_lt h), .inl (by simp; intro e; subst e; exact absurd h (UInt8.lt_irrefl _))⟩
    · exact ⟨UInt8.lt_irrefl _, .inr (less_asym x y h)⟩
theorem less_head {c d : UInt8} (h : c < d) (x y : List UInt8) : Op.bytesLess (c :: x) (d :: y) = true := by simp [Op.bytesLess, h]
theorem less_same {c d : UInt8} (h : c = d) {x y : List UInt8} (hl : Op.bytesLess x y = true) : Op.bytesLess (c :: x) (d :: y) = true := by simp [Op.bytesLess, h, hl]
theorem hexd_lt {a b : Nat} (h : a < b) (hb : b < 10) : hexd a < hexd b := by
  have e1 := hexd_toNat (n := a) (by omega)
  have e2 := hexd_toNat hb
  rw [UInt8.lt_iff_toNat_lt]; omega
theorem less_d2 {a b : Int} (h0 : 0 ≤ a) (h : a < b) (hb : b < 100) (x y : List UInt8) : Op.bytesLess (d2 a ++ x) (d2 b ++ y) = true := by
  unfold d2
  by_cases h1 : a / 10 < b / 10
  · exact less_head (hexd_lt (by omega) (by omega)) _ _
  · exact less_same (by rw [show a / 10 = b / 10 by omega]) (less_head (hexd_lt (by omega) (by omega)) _ _)
theorem less_clk {a b : Int} (h0 : 0 ≤ a) (h : a < b) (hb : b < 86400) : Op.bytesLess (clk a) (clk b) = true := by
  have e : ∀ r, clk r = d2 (r / 3600) ++ ([58] ++ (d2 (r % 3600 / 60) ++ ([58] ++ (d2 (r % 60) ++ [])))) := fun r => by simp [clk]
  rw [e, e]
  by_cases h1 : a / 3600 < b / 3600
  · exact less_d2 (by omega) h1 (by omega) _ _
  · rw [show a / 3600 = b / 3600 by omega, less_app, less_app]
    by_cases h2 : a % 3600 / 60 < b % 3600 / 60
    · exact less_d2 (by omega) h2 (by omega) _ _
    · rw [show a % 3600 / 60 = b % 3600 / 60 by omega, less_app, less_app]
      exact less_d2 (by omega) (by omega) (by omega) _ _
theorem less_day {y m d y' m' d' : Int} (hy : 0 ≤ y) (hy' : y' ≤ 9999) (hm : 0 ≤ m) (hm' : m' < 100) (hd : 0 ≤ d) (hd' : d' < 100) (hl : LexDay y m d y' m' d') (r r' : List UInt8) : Op.bytesLess (day y m d ++ r) (day y' m' d' ++ r') = true := by
  have e : ∀ y m d r, day y m d ++ r = d2 (y / 100) ++ (d2 (y % 100) ++ ([45] ++ (d2 m ++ ([45] ++ (d2 d ++ r))))) := fun y m d r => by simp [day]
  rw [e, e]
  rcases hl with hl | ⟨rfl, hl | ⟨rfl, hl⟩⟩
  · by_cases h1 : y / 100 < y' / 100
    · exact less_d2 (by omega) h1 (by omega) _ _
    · rw [show y / 100 = y' / 100 by omega, less_app]
      exact less_d2 (by omega) (by omega) (by omega) _ _
  · rw [less_app, less_app, less_app]; exact less_d2 hm hl hm' _ _
  · rw [less_app, less_app, less_app, less_app, less_app]; exact less_d2 hd hl hd' _ _
theorem isday_d {k y m d : Int} (h : IsDay k y m d) : d ≤ 31 := by
  have := lng_bd (y := y) (m := m); have := h.2.2.2.2.1; omega
/-- an earlier tick's stamp stands ahead -/
theorem stmp_less {s t : Int} (h0 : 0 ≤ s) (h : s < t) (ht : t ≤ 252455615999) : Op.bytesLess (stmp s) (stmp t) = true := by
  obtain ⟨y, m, d, hd, hy⟩ := has_day h0 (by omega)
  obtain ⟨y', m', d', hd', hy'⟩ := has_day (t := t) (by omega) ht
  rw [stmp_some h0 (by omega) hd, stmp_some (by omega) ht hd', stm, stm, List.append_assoc, List.append_assoc]
  have q := isday_d hd
  have q' := isday_d hd'
  by_cases hk : s / 86400 < t / 86400
  · have hl := isday_lex hd hd' hk
    obtain ⟨h1, h2, h3, h4, h5, -⟩ := hd
    obtain ⟨h1', h2', h3', h4', h5', -⟩ := hd'
    exact less_day (by omega) hy' (by omega) (by omega) (by omega) (by omega) hl _ _
  · have e : s / 86400 = t / 86400 := by omega
    rw [e] at hd
    obtain ⟨rfl, rfl, rfl⟩ := isday_uniq hd hd'
    rw [less_app, less_app]
    exact less_clk (by omega) (by omega) (by omega)
theorem stmp_inj {s t : Int} (h0 : 0 ≤ s) (hs : s ≤ 252455615999) (h1 : 0 ≤ t) (ht : t ≤ 252455615999) (e : stmp s = stmp t) : s = t := by
  by_cases h : s < t
  · have := stmp_less h0 h ht; rw [e, less_irr] at this; cases this
  · by_cases h' : t < s
    · have := stmp_less h1 h' hs; rw [e, less_irr] at this; cases this
    · omega

end Go.Proofs.YtbjlnaobmgbpfaaDoor.Clock

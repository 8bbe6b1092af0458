/-
  Layer 10 (word): plain facts: names, patterns, and what a pattern stands for.
-/
import Derived.Lib.Bytealg
namespace Go.Proofs.Ytomnkmcabkoagaa.Word

def ltr (n : Nat) : Bool := decide (97 ≤ n ∧ n ≤ 122 ∨ 65 ≤ n ∧ n ≤ 90)
def inn (n : Nat) : Bool := ltr n || decide (48 ≤ n ∧ n ≤ 57 ∨ n = 45 ∨ n = 95 ∨ n = 46)
def pat (n : Nat) : Bool := inn n || decide (n = 42 ∨ n = 63)
def sized (l : List UInt8) : Bool := decide (1 ≤ l.length ∧ l.length ≤ 32)
def allP (p : Nat → Bool) (l : List UInt8) : Bool := l.all fun c => p c.toNat
def headP (p : Nat → Bool) : List UInt8 → Bool
  | [] => true
  | c :: _ => p c.toNat
def isName (l : List UInt8) : Bool := sized l && (headP ltr l && allP inn l)
def isPat (l : List UInt8) : Bool := sized l && allP pat l

theorem allP_nil (p : Nat → Bool) : allP p [] = true := rfl
theorem allP_snoc (p : Nat → Bool) (l : List UInt8) (c : UInt8) : allP p (l ++ [c]) = (allP p l && p c.toNat) := by simp [allP]
theorem allP_mono {p q : Nat → Bool} (h : ∀ n, p n = true → q n = true) {l : List UInt8} (hl : allP p l = true) : allP q l = true := by
  rw [allP, List.all_eq_true] at hl ⊢
  exact fun c hc => h _ (hl c hc)
theorem inn_pat {n : Nat} (h : inn n = true) : pat n = true := by simp [pat, h]
theorem name_pat {l : List UInt8} (h : isName l = true) : isPat l = true := by
  simp only [isName, isPat, Bool.and_eq_true] at h ⊢
  exact ⟨h.1, allP_mono (fun _ => inn_pat) h.2.2⟩
theorem take_snoc {α : Type} (l : List α) (k : Nat) (h : k < l.length) : l.take (k + 1) = l.take k ++ [l[k]] := by
  rw [List.take_add_one, List.getElem?_eq_getElem h]; rfl
theorem drop_cons {α : Type} (l : List α) (k : Nat) (h : k < l.length) : l.drop k = l[k] :: l.drop (k + 1) := List.drop_eq_getElem_cons h
theorem headP_take (p : Nat → Bool) (l : List UInt8) (k : Nat) (h : 0 < k) : headP p (l.take k) = headP p l := by
  cases l with
  | nil => simp [headP]
  | cons c t => obtain ⟨j, rfl⟩ : ∃ j, k = j + 1 := ⟨k - 1, by omega⟩; rfl

/-! ### what a pattern stands for -/
def anyTail (f : List UInt8 → Bool) : List UInt8 → Bool
  | [] => f []
  | c :: t => f (c :: t) || anyTail f t
def one (x : UInt8) (f : List UInt8 → Bool) : List UInt8 → Bool
  | [] => false
  | c :: t => (x == 63 || x == c) && f t
def glob : List UInt8 → List UInt8 → Bool
  | [] => fun s => s.isEmpty
  | x :: p => if x = 42 then anyTail (glob p) else one x (glob p)

theorem anyTail_iff (f : List UInt8 → Bool) (s : List UInt8) : anyTail f s = true ↔ ∃ k, k ≤ s.length ∧ f (s.drop k) = true := by
  induction s with
  | nil =>
    constructor
    · intro h; exact ⟨0, Nat.le_refl _, h⟩
    · rintro ⟨k, hk, h⟩; simpa [anyTail] using h
  | cons c t ih =>
    simp only [anyTail, Bool.or_eq_true, ih]
    constructor
    · rintro (h | ⟨k, hk, h⟩)
      · exact ⟨0, Nat.zero_le _, h⟩
      · exact ⟨k + 1, by simp; omega, h⟩
    · rintro ⟨k, hk, h⟩
      cases k with
      | zero => exact .inl h
      | succ k => exact .inr ⟨k, by simp at hk; omega, h⟩

theorem glob_nil (s : List UInt8) : glob [] s = s.isEmpty := rfl
theorem glob_star (p s : List UInt8) : glob (42 :: p) s = anyTail (glob p) s := by simp [glob]
theorem glob_star_iff (p s : List UInt8) : glob (42 :: p) s = true ↔ ∃ k, k ≤ s.length ∧ glob p (s.drop k) = true := by rw [glob_star, anyTail_iff]
theorem glob_end {x : UInt8} (h : x ≠ 42) (p : List UInt8) : glob (x :: p) [] = false := by simp [glob, h, one]
theorem glob_one {x : UInt8} (h : x ≠ 42) (p t : List UInt8) (c : UInt8) : glob (x :: p) (c :: t) = ((x == 63 || x == c) && glob p t) := by simp [glob, h, one]
theorem glob_star_cons (p t : List UInt8) (c : UInt8) : glob (42 :: p) (c :: t) = (glob p (c :: t) || glob (42 :: p) t) := by rw [glob_star, glob_star]; rfl
theorem glob_any (s : List UInt8) : glob [42] s = true := by
  rw [glob_star_iff]; exact ⟨s.length, Nat.le_refl _, by simp [glob_nil]⟩

theorem glob_append (p q : List UInt8) : ∀ s, glob (p ++ q) s = true ↔ ∃ k, k ≤ s.length ∧ glob p (s.take k) = true ∧ glob q (s.drop k) = true := by
  induction p with
  | nil =>
    intro s
    constructor
    · intro h; exact ⟨0, Nat.zero_le _, by simp [glob_nil], h⟩
    · rintro ⟨k, hk, h1, h2⟩
      have : k = 0 := by
        have := congrArg List.length (List.isEmpty_iff.1 (by simpa [glob_nil] using h1 : (s.take k).isEmpty = true))
        rw [List.length_take, List.length_nil] at this; omega
      subst this; exact h2
  | cons x p ih =>
    intro s
    rw [List.cons_append]
    by_cases hx : x = 42
    · subst hx
      rw [glob_star_iff]
      constructor
      · rintro ⟨j, hj, h⟩
        obtain ⟨m, hm, h1, h2⟩ := (ih _).1 h
        rw [List.length_drop] at hm
        refine ⟨j + m, by omega, ?_, by rwa [List.drop_drop] at h2⟩
        rw [glob_star_iff]
        refine ⟨j, by rw [List.length_take]; omega, ?_⟩
        rw [List.drop_take, Nat.add_sub_cancel_left]; exact h1
      · rintro ⟨k, hk, h1, h2⟩
        rw [glob_star_iff] at h1
        obtain ⟨j, hj, h1⟩ := h1
        rw [List.length_take] at hj
        refine ⟨j, by omega, (ih _).2 ⟨k - j, by rw [List.length_drop]; omega, ?_, ?_⟩⟩
        · rw [List.drop_take] at h1; exact h1
        · rw [List.drop_drop, show j + (k - j) = k by omega]; exact h2
    · cases s with
      | nil =>
        rw [glob_end hx]
        constructor
        · intro h; cases h
        · rintro ⟨k, hk, h1, _⟩; simp [glob_end hx] at h1
      | cons c t =>
        rw [glob_one hx, Bool.and_eq_true, ih]
        constructor
        · rintro ⟨h0, k, hk, h1, h2⟩
          exact ⟨k + 1, by simp; omega, by rw [List.take_succ_cons, glob_one hx, h0, h1]; rfl, h2⟩
        · rintro ⟨k, hk, h1, h2⟩
          cases k with
          | zero => simp [glob_end hx] at h1
          | succ k =>
            rw [List.take_succ_cons, glob_one hx, Bool.and_eq_true] at h1
            exact ⟨h1.1, k, by simp at hk; omega, h1.2, h2⟩

theorem glob_more (p s more : List UInt8) (h : glob p s = true) : glob (p ++ [42]) (s ++ more) = true :=
  (glob_append _ _ _).2 ⟨s.length, by simp, by simpa using h, glob_any _⟩
theorem glob_less (p s more : List UInt8) (h : glob p s = true) : glob (42 :: p) (more ++ s) = true :=
  (glob_star_iff _ _).2 ⟨more.length, by simp, by simpa using h⟩
theorem glob_self {p : List UInt8} (h : ∀ x ∈ p, x ≠ 42 ∧ x ≠ 63) : ∀ s, glob p s = (p == s) := by
  induction p with
  | nil => intro s; cases s <;> rfl
  | cons x p ih =>
    intro s
    have hx := h x (by simp)
    cases s with
    | nil => rw [glob_end hx.1]; rfl
    | cons c t =>
      rw [glob_one hx.1, ih (fun y hy => h y (by simp [hy]))]
      have : (x == (63 : UInt8)) = false := by simpa using hx.2
      rw [this, Bool.false_or]; rfl
theorem name_self {l : List UInt8} (h : isName l = true) (s : List UInt8) : glob l s = (l == s) := by
  refine glob_self (fun x hx => ?_) s
  simp only [isName, Bool.and_eq_true, allP, List.all_eq_true] at h
  have := h.2.2 x hx
  constructor
  · rintro rfl; revert this; decide
  · rintro rfl; revert this; decide

/-! ### row by row -/
theorem row_zero (p : List UInt8) (x : UInt8) : glob (p ++ [x]) [] = (x == 42 && glob p []) := by
  rw [Bool.eq_iff_iff, glob_append, Bool.and_eq_true]
  constructor
  · rintro ⟨k, hk, h1, h2⟩
    obtain rfl : k = 0 := by simpa using hk
    refine ⟨?_, h1⟩
    by_cases hx : x = 42
    · simp [hx]
    · rw [List.drop_zero, glob_end hx] at h2; cases h2
  · rintro ⟨hx, h⟩
    obtain rfl : x = 42 := by simpa using hx
    exact ⟨0, Nat.le_refl _, h, glob_any _⟩
theorem row_star (p s : List UInt8) (c : UInt8) : glob (p ++ [42]) (s ++ [c]) = (glob p (s ++ [c]) || glob (p ++ [42]) s) := by
  rw [Bool.eq_iff_iff, glob_append, Bool.or_eq_true, glob_append]
  constructor
  · rintro ⟨k, hk, h1, _⟩
    rw [List.length_append, List.length_singleton] at hk
    by_cases hk' : k ≤ s.length
    · exact .inr ⟨k, hk', by rwa [List.take_append_of_le_length hk'] at h1, glob_any _⟩
    · obtain rfl : k = s.length + 1 := by omega
      refine .inl ?_
      rwa [List.take_of_length_le (by simp)] at h1
  · rintro (h | ⟨k, hk, h1, _⟩)
    · exact ⟨(s ++ [c]).length, Nat.le_refl _, by rw [List.take_length]; exact h, glob_any _⟩
    · exact ⟨k, by simp; omega, by rwa [List.take_append_of_le_length hk], glob_any _⟩
theorem row_one {x : UInt8} (hx : x ≠ 42) (p s : List UInt8) (c : UInt8) : glob (p ++ [x]) (s ++ [c]) = (glob p s && (x == 63 || x == c)) := by
  rw [Bool.eq_iff_iff, glob_append, Bool.and_eq_true]
  constructor
  · rintro ⟨k, hk, h1, h2⟩
    rw [List.length_append, List.length_singleton] at hk
    by_cases h : k = s.length
    · subst h
      rw [List.take_append_of_le_length (Nat.le_refl _), List.take_length] at h1
      rw [List.drop_append_of_le_length (Nat.le_refl _), List.drop_length, List.nil_append, glob_one hx, glob_nil] at h2
      exact ⟨h1, by simpa using h2⟩
    · exfalso
      by_cases h' : k = s.length + 1
      · subst h'
        rw [List.drop_of_length_le (by simp), glob_end hx] at h2; cases h2
      · obtain ⟨a, b, t, e⟩ : ∃ a b t, (s ++ [c]).drop k = a :: b :: t := by
          have hl : ((s ++ [c]).drop k).length = s.length + 1 - k := by simp
          match hd : (s ++ [c]).drop k with
          | [] => rw [hd] at hl; simp at hl; omega
          | [a] => rw [hd] at hl; simp at hl; omega
          | a :: b :: t => exact ⟨a, b, t, rfl⟩
        rw [e, glob_one hx, glob_nil] at h2; simp at h2
  · rintro ⟨h1, h2⟩
    refine ⟨s.length, by simp, by rwa [List.take_append_of_le_length (Nat.le_refl _), List.take_length], ?_⟩
    rw [List.drop_append_of_le_length (Nat.le_refl _), List.drop_length, List.nil_append, glob_one hx, glob_nil, h2]; rfl

/-! ### star by star -/
def Ans (p s : List UInt8) (at' done behind taken : Nat) : Prop :=
  at' ≤ p.length ∧ done ≤ s.length ∧
  (behind = 0 ∧ taken = 0 ∧ glob p s = glob (p.drop at') (s.drop done) ∨
   0 < behind ∧ behind ≤ at' ∧ done = taken + (at' - behind) ∧ glob p s = glob (42 :: p.drop behind) (s.drop taken) ∧
   (∀ t, t ≤ s.length → glob (p.drop behind) (s.drop t) = true → t + (at' - behind) ≤ s.length ∧ glob (p.drop at') (s.drop (t + (at' - behind))) = true) ∧
   (glob (p.drop at') (s.drop done) = true → glob (p.drop behind) (s.drop taken) = true))

theorem ans_start (p s : List UInt8) : Ans p s 0 0 0 0 := ⟨Nat.zero_le _, Nat.zero_le _, .inl ⟨rfl, rfl, rfl⟩⟩
theorem star_drop {q s : List UInt8} {a b : Nat} (hab : a ≤ b) (hb : b ≤ s.length) (h : glob (42 :: q) (s.drop b) = true) : glob (42 :: q) (s.drop a) = true := by
  rw [glob_star_iff] at h ⊢
  obtain ⟨k, hk, h⟩ := h
  rw [List.length_drop] at hk
  refine ⟨b - a + k, by rw [List.length_drop]; omega, ?_⟩
  rw [List.drop_drop] at h ⊢
  rwa [show a + (b - a + k) = b + k by omega]
theorem ans_star {p s : List UInt8} {i d b t : Nat} (h : Ans p s i d b t) (hi : i < p.length) (hx : p[i] = 42) : Ans p s (i + 1) d (i + 1) d := by
  obtain ⟨h1, h2, h⟩ := h
  have hd : p.drop i = 42 :: p.drop (i + 1) := by rw [drop_cons p i hi, hx]
  refine ⟨hi, h2, .inr ⟨by omega, Nat.le_refl _, by omega, ?_, ?_, fun h => h⟩⟩
  · rcases h with ⟨_, _, h⟩ | ⟨hb0, hbi, hdt, hg, hA, hB⟩
    · rw [h, hd]
    · rw [hg, Bool.eq_iff_iff]
      constructor
      · intro h
        rw [glob_star_iff] at h
        obtain ⟨k, hk, h⟩ := h
        rw [List.length_drop] at hk
        rw [List.drop_drop] at h
        obtain ⟨h3, h4⟩ := hA (t + k) (by omega) h
        rw [hd] at h4
        exact star_drop (by omega) h3 h4
      · intro h
        rw [← hd] at h
        rw [glob_star_iff]
        exact ⟨0, Nat.zero_le _, by rw [List.drop_zero]; exact hB h⟩
  · intro u hu h
    rw [Nat.sub_self]
    exact ⟨hu, h⟩
theorem ans_step {p s : List UInt8} {i d b t : Nat} (h : Ans p s i d b t) (hi : i < p.length) (hx : p[i] ≠ 42) (hds : d < s.length) (hm : p[i] = 63 ∨ p[i] = s[d]) : Ans p s (i + 1) (d + 1) b t := by
  obtain ⟨h1, h2, h⟩ := h
  have hd := drop_cons p i hi
  have he := drop_cons s d hds
  have hm' : (p[i] == 63 || p[i] == s[d]) = true := by simpa using hm
  have hgg : glob (p.drop i) (s.drop d) = glob (p.drop (i + 1)) (s.drop (d + 1)) := by rw [hd, he, glob_one hx, hm']; rfl
  refine ⟨hi, hds, ?_⟩
  rcases h with ⟨hb, ht, h⟩ | ⟨hb0, hbi, hdt, hg, hA, hB⟩
  · exact .inl ⟨hb, ht, by rw [h, hgg]⟩
  · refine .inr ⟨hb0, by omega, by omega, hg, ?_, fun h => hB (by rw [hgg]; exact h)⟩
    intro u hu h
    obtain ⟨h3, h4⟩ := hA u hu h
    rw [hd] at h4
    by_cases hl : u + (i - b) < s.length
    · rw [drop_cons s _ hl, glob_one hx, Bool.and_eq_true] at h4
      rw [show i + 1 - b = i - b + 1 by omega]
      exact ⟨by omega, by rw [← Nat.add_assoc]; exact h4.2⟩
    · rw [show s.drop (u + (i - b)) = [] from List.drop_of_length_le (by omega), glob_end hx] at h4; cases h4
theorem ans_back {p s : List UInt8} {i d b t : Nat} (h : Ans p s i d b t) (hb : b ≠ 0) (hds : d < s.length) (hm : i < p.length → p[i]! ≠ 42 ∧ p[i]! ≠ 63 ∧ p[i]! ≠ s[d]) : Ans p s b (t + 1) b (t + 1) := by
  obtain ⟨h1, h2, h⟩ := h
  rcases h with ⟨hb', _⟩ | ⟨hb0, hbi, hdt, hg, hA, hB⟩
  · exact absurd hb' hb
  have hF : glob (p.drop i) (s.drop d) = false := by
    rw [drop_cons s d hds]
    by_cases hi : i < p.length
    · have := hm hi
      rw [getElem!_pos p i hi] at this
      rw [drop_cons p i hi, glob_one this.1]
      have e : (p[i] == 63 || p[i] == s[d]) = false := by simpa using this.2
      rw [e]; rfl
    · rw [List.drop_of_length_le (by omega)]; rfl
  refine ⟨by omega, by omega, .inr ⟨hb0, Nat.le_refl _, by omega, ?_, ?_, fun h => h⟩⟩
  · have : glob (p.drop b) (s.drop t) = false := by
      cases hc : glob (p.drop b) (s.drop t) with
      | false => rfl
      | true => have h4 := (hA t (by omega) hc).2; rw [← hdt, hF] at h4; cases h4
    rw [drop_cons s t (by omega)] at this
    rw [hg, drop_cons s t (by omega), glob_star_cons, this]; rfl
  · intro u hu h
    rw [Nat.sub_self]
    exact ⟨hu, h⟩
theorem ans_end {p s : List UInt8} {i d b t : Nat} (h : Ans p s i d b t) (hd : d = s.length) (hm : i < p.length → p[i]! ≠ 42) : glob p s = decide (i = p.length) := by
  obtain ⟨h1, h2, h⟩ := h
  have hs : s.drop d = [] := List.drop_of_length_le (by omega)
  by_cases hi : i = p.length
  · have hp : p.drop i = [] := List.drop_of_length_le (by omega)
    rw [decide_eq_true hi]
    rcases h with ⟨_, _, h⟩ | ⟨hb0, hbi, hdt, hg, hA, hB⟩
    · rw [h, hp, hs]; rfl
    · rw [hg, glob_star_iff]
      exact ⟨0, Nat.zero_le _, by rw [List.drop_zero]; exact hB (by rw [hp, hs]; rfl)⟩
  · have hi' : i < p.length := by omega
    have hx := hm hi'
    rw [getElem!_pos p i hi'] at hx
    have hF : glob (p.drop i) (s.drop d) = false := by rw [hs, drop_cons p i hi', glob_end hx]
    rw [decide_eq_false hi]
    rcases h with ⟨_, _, h⟩ | ⟨hb0, hbi, hdt, hg, hA, hB⟩
    · rw [h, hF]
    · rw [hg]
      cases hc : glob (42 :: p.drop b) (s.drop t) with
      | false => rfl
      | true =>
        rw [glob_star_iff] at hc
        obtain ⟨k, hk, hc⟩ := hc
        rw [List.length_drop] at hk
        rw [List.drop_drop] at hc
        obtain ⟨h3, h4⟩ := hA (t + k) (by omega) hc
        rw [show t + k + (i - b) = d by omega, hF] at h4; cases h4
theorem ans_none {p s : List UInt8} {i d t : Nat} (h : Ans p s i d 0 t) (hds : d < s.length) (hm : i < p.length → p[i]! ≠ 42 ∧ p[i]! ≠ 63 ∧ p[i]! ≠ s[d]) : glob p s = false := by
  obtain ⟨h1, h2, h⟩ := h
  rcases h with ⟨_, _, h⟩ | ⟨hb0, _⟩
  · rw [h, drop_cons s d hds]
    by_cases hi : i < p.length
    · have := hm hi
      rw [getElem!_pos p i hi] at this
      rw [drop_cons p i hi, glob_one this.1]
      have e : (p[i] == 63 || p[i] == s[d]) = false := by simpa using this.2
      rw [e]; rfl
    · rw [List.drop_of_length_le (by omega)]; rfl
  · omega
theorem ans_taken {p s : List UInt8} {i d b t : Nat} (h : Ans p s i d b t) : t ≤ d ∧ i ≤ p.length ∧ d ≤ s.length ∧ b ≤ i := by
  obtain ⟨h1, h2, h⟩ := h
  rcases h with ⟨rfl, rfl, _⟩ | ⟨_, _, hdt, _⟩ <;> omega

end Go.Proofs.Ytomnkmcabkoagaa.Word

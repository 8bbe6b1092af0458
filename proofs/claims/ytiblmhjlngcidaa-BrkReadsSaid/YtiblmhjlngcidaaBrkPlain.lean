/-
  Layer 14 (brk): the plain mathematics: steps, their text, what a text tells.
-/
import Derived.Test.YtiblmhjlngcidaaDigitPlain
namespace Go.Proofs.Ytiblmhjlngcidaa.Brk
open Go.Proofs.Ytiblmhjlngcidaa.Digit

structure Op where
  k : Int
  s : List UInt8
  n : Int

/-- two decimal digits -/
def two (n : Nat) : List UInt8 := [hexd (n / 10), hexd (n % 10)]
theorem two_inj {m n : Nat} (hm : m ≤ 99) (hn : n ≤ 99) (h : two m = two n) : m = n := by
  unfold two at h
  have h1 := hexd_inj (by omega) (by omega) (List.cons.inj h).1
  have h2 := hexd_inj (by omega) (by omega) (List.cons.inj (List.cons.inj h).2).1
  omega
theorem pad_two {n : Nat} (h : n ≤ 99) : padI n 2 = two n := by
  rw [padI_some (by omega)]
  by_cases h9 : n < 10
  · rw [dec_lt (by omega) (by omega)]
    simp only [padL, two, Int.toNat_natCast, show n / 10 = 0 by omega, show n % 10 = n by omega]
    rfl
  · rw [dec_ge (by omega), dec_lt (by omega) (by omega)]
    simp only [padL, two, show ((n : Int) / 10).toNat = n / 10 by omega, show ((n : Int) % 10).toNat = n % 10 by omega]
    rfl
theorem dec_long {n : Nat} (h : 99 < n) : 3 ≤ (dec n).length := by
  have h1 := decN_pos (n / 10 / 10)
  unfold dec
  rw [if_neg (by omega), Int.toNat_natCast, decN_ge (by omega), decN_ge (by omega), List.length_append, List.length_append, List.length_singleton, List.length_singleton]
  omega
theorem pad_long {n : Nat} (h : 99 < n) : padI n 2 = dec n := by
  have := dec_long h
  rw [padI_some (by omega), padL, show (2 : Int).toNat - (dec (n : Int)).length = 0 by omega]
  rfl

open Classical in
/-- the number of two digits that are not both 0 -/
noncomputable def tk (l : List UInt8) : Nat := if h : ∃ n, 1 ≤ n ∧ n ≤ 99 ∧ two n = l then h.choose else 0
theorem tk_some {n : Nat} (h1 : 1 ≤ n) (h2 : n ≤ 99) : tk (two n) = n := by
  have g : ∃ m, 1 ≤ m ∧ m ≤ 99 ∧ two m = two n := ⟨n, h1, h2, rfl⟩
  rw [tk, dif_pos g]
  exact two_inj g.choose_spec.2.1 h2 g.choose_spec.2.2
theorem tk_none {l : List UInt8} (h : ¬ ∃ n, 1 ≤ n ∧ n ≤ 99 ∧ two n = l) : tk l = 0 := by rw [tk, dif_neg h]
theorem tk_is {l : List UInt8} (h : tk l ≠ 0) : 1 ≤ tk l ∧ tk l ≤ 99 ∧ two (tk l) = l := by
  by_cases g : ∃ n, 1 ≤ n ∧ n ≤ 99 ∧ two n = l
  · obtain ⟨n, h1, h2, rfl⟩ := g
    rw [tk_some h1 h2]; exact ⟨h1, h2, rfl⟩
  · exact absurd (tk_none g) h
theorem rh_is {l : List UInt8} (h : rhC l = 0) : ∃ c : Nat, c < 256 ∧ hexS c = l ∧ rhV l = c := by
  by_cases g : ∃ c : Nat, c < 256 ∧ hexS c = l
  · obtain ⟨c, hc, rfl⟩ := g
    exact ⟨c, hc, rfl, (rh_some hc).1⟩
  · rw [(rh_none g).2] at h; omega

/-- no step -/
def no : Op × Nat := (⟨0, [], 0⟩, 0)
/-- the step behind a backslash -/
noncomputable def esc (d : UInt8) (r : List UInt8) : Op × Nat :=
  if d = 92 then (⟨1, [92], 0⟩, 2) else if d = 114 then (⟨1, [13], 0⟩, 2) else if d = 110 then (⟨1, [10], 0⟩, 2) else if d = 116 then (⟨1, [9], 0⟩, 2)
  else if d = 100 then (⟨2, [], 1⟩, 2) else if d = 122 then (⟨3, [], 0⟩, 2)
  else if d = 120 then (if rhC (r.take 2) = 0 then (⟨1, [(rhV (r.take 2)).toNat.toUInt8], 0⟩, 4) else no)
  else if d = 119 then (if tk (r.take 2) = 0 then no else (⟨2, [], tk (r.take 2)⟩, 4)) else no
/-- the step that a text begins with, and how many bytes it has; 0: none -/
noncomputable def one : List UInt8 → Op × Nat
  | [] => no
  | [c] => if 32 ≤ c.toNat ∧ c.toNat ≤ 126 ∧ c ≠ 92 then (⟨1, [c], 0⟩, 1) else no
  | c :: d :: r => if c = 92 then esc d r else if 32 ≤ c.toNat ∧ c.toNat ≤ 126 then (⟨1, [c], 0⟩, 1) else no
theorem one_nil : one [] = no := rfl
theorem one_plain {c : UInt8} (t : List UInt8) (h1 : 32 ≤ c.toNat) (h2 : c.toNat ≤ 126) (h3 : c ≠ 92) : one (c :: t) = (⟨1, [c], 0⟩, 1) := by
  cases t with
  | nil => rw [one, if_pos ⟨h1, h2, h3⟩]
  | cons d r => rw [one, if_neg h3, if_pos ⟨h1, h2⟩]
theorem one_bad {c : UInt8} (t : List UInt8) (h : ¬ (32 ≤ c.toNat ∧ c.toNat ≤ 126)) (h3 : c ≠ 92) : one (c :: t) = no := by
  cases t with
  | nil => rw [one, if_neg (fun g => h ⟨g.1, g.2.1⟩)]
  | cons d r => rw [one, if_neg h3, if_neg h]
theorem one_lone : one [92] = no := by rw [one, if_neg (by simp)]
theorem one_esc (d : UInt8) (r : List UInt8) : one (92 :: d :: r) = esc d r := by rw [one, if_pos rfl]

/-- a step of one sign -/
def St (x : Op) : Prop := (∃ c, x = ⟨1, [c], 0⟩) ∨ (∃ n : Nat, 1 ≤ n ∧ n ≤ 99 ∧ x = ⟨2, [], n⟩) ∨ x = ⟨3, [], 0⟩
theorem esc_st (d : UInt8) (r : List UInt8) : esc d r = no ∨ (St (esc d r).1 ∧ 1 ≤ (esc d r).2 ∧ (esc d r).2 ≤ r.length + 2) := by
  unfold esc
  by_cases e1 : d = 92
  · rw [if_pos e1]; exact .inr ⟨.inl ⟨_, rfl⟩, by simp, by simp⟩
  rw [if_neg e1]
  by_cases e2 : d = 114
  · rw [if_pos e2]; exact .inr ⟨.inl ⟨_, rfl⟩, by simp, by simp⟩
  rw [if_neg e2]
  by_cases e3 : d = 110
  · rw [if_pos e3]; exact .inr ⟨.inl ⟨_, rfl⟩, by simp, by simp⟩
  rw [if_neg e3]
  by_cases e4 : d = 116
  · rw [if_pos e4]; exact .inr ⟨.inl ⟨_, rfl⟩, by simp, by simp⟩
  rw [if_neg e4]
  by_cases e5 : d = 100
  · rw [if_pos e5]; exact .inr ⟨.inr (.inl ⟨1, by omega, by omega, rfl⟩), by simp, by simp⟩
  rw [if_neg e5]
  by_cases e6 : d = 122
  · rw [if_pos e6]; exact .inr ⟨.inr (.inr rfl), by simp, by simp⟩
  rw [if_neg e6]
  by_cases e7 : d = 120
  · rw [if_pos e7]
    by_cases h : rhC (r.take 2) = 0
    · rw [if_pos h]
      obtain ⟨c, _, e, _⟩ := rh_is h
      have hl := congrArg List.length e
      rw [List.length_take] at hl
      refine .inr ⟨.inl ⟨_, rfl⟩, by simp, ?_⟩
      simp [hexS] at hl ⊢; omega
    · rw [if_neg h]; exact .inl rfl
  rw [if_neg e7]
  by_cases e8 : d = 119
  · rw [if_pos e8]
    by_cases h : tk (r.take 2) = 0
    · rw [if_pos h]; exact .inl rfl
    · rw [if_neg h]
      obtain ⟨h1, h2, e⟩ := tk_is h
      have hl := congrArg List.length e
      rw [List.length_take] at hl
      refine .inr ⟨.inr (.inl ⟨_, h1, h2, rfl⟩), by simp, ?_⟩
      simp [two] at hl ⊢; omega
  · rw [if_neg e8]; exact .inl rfl
theorem one_st (l : List UInt8) : one l = no ∨ (St (one l).1 ∧ 1 ≤ (one l).2 ∧ (one l).2 ≤ l.length) := by
  match l with
  | [] => exact .inl rfl
  | [c] =>
    rw [one]
    by_cases h : 32 ≤ c.toNat ∧ c.toNat ≤ 126 ∧ c ≠ 92
    · rw [if_pos h]; exact .inr ⟨.inl ⟨_, rfl⟩, by simp, by simp⟩
    · rw [if_neg h]; exact .inl rfl
  | c :: d :: r =>
    rw [one]
    by_cases h : c = 92
    · rw [if_pos h]; simpa using esc_st d r
    · rw [if_neg h]
      by_cases h : 32 ≤ c.toNat ∧ c.toNat ≤ 126
      · rw [if_pos h]; exact .inr ⟨.inl ⟨_, rfl⟩, by simp, by simp⟩
      · rw [if_neg h]; exact .inl rfl
theorem one_no {l : List UInt8} (h : (one l).2 = 0) : one l = no := by
  rcases one_st l with h1 | ⟨_, h1, _⟩
  · exact h1
  · omega
theorem one_yes {l : List UInt8} (h : (one l).2 ≠ 0) : St (one l).1 ∧ 1 ≤ (one l).2 ∧ (one l).2 ≤ l.length := by
  rcases one_st l with h1 | h1
  · rw [h1] at h; exact absurd rfl h
  · exact h1

/-- two steps that are to be one -/
def isOne (x y : Op) : Bool := x.k == y.k && x.k != 3
def glue (x y : Op) : Op := ⟨x.k, x.s ++ y.s, x.n + y.n⟩
/-- a step put behind others -/
def bhd (acc : List Op) (x : Op) : List Op :=
  match acc.getLast? with
  | none => [x]
  | some y => if isOne y x = true then acc.dropLast ++ [glue y x] else acc ++ [x]
theorem bhd_nil (x : Op) : bhd [] x = [x] := rfl
theorem bhd_one {L : List Op} {y x : Op} (h : isOne y x = true) : bhd (L ++ [y]) x = L ++ [glue y x] := by
  unfold bhd
  rw [List.getLast?_concat]
  show (if isOne y x = true then _ else _) = _
  rw [if_pos h, List.dropLast_concat]
theorem bhd_two {L : List Op} {y x : Op} (h : isOne y x = false) : bhd (L ++ [y]) x = L ++ [y] ++ [x] := by
  unfold bhd
  rw [List.getLast?_concat]
  show (if isOne y x = true then _ else _) = _
  rw [if_neg (by simp [h])]
theorem snoc_cases {α : Type} (l : List α) : l = [] ∨ ∃ L y, l = L ++ [y] := by
  by_cases h : l = []
  · exact .inl h
  · exact .inr ⟨_, _, (List.dropLast_concat_getLast h).symm⟩

def endO (acc : List Op) : List UInt8 → Option (List Op)
  | [] => some acc
  | _ :: _ => none
/-- the steps of a text, behind others -/
noncomputable def rdF (acc : List Op) (l : List UInt8) : Option (List Op) :=
  if _h : (one l).2 = 0 then endO acc l else rdF (bhd acc (one l).1) (l.drop (one l).2)
termination_by l.length
decreasing_by
  have := one_yes _h
  rw [List.length_drop]; omega
theorem rdF_nil (acc : List Op) : rdF acc [] = some acc := by rw [rdF, dif_pos (show (one []).2 = 0 from rfl)]; rfl
theorem rdF_no {acc : List Op} {l : List UInt8} (h0 : l ≠ []) (h : (one l).2 = 0) : rdF acc l = none := by
  rw [rdF, dif_pos h]
  cases l with
  | nil => exact absurd rfl h0
  | cons a t => rfl
theorem rdF_yes {acc : List Op} {l : List UInt8} (h : (one l).2 ≠ 0) : rdF acc l = rdF (bhd acc (one l).1) (l.drop (one l).2) := by
  rw [rdF, dif_neg h]
theorem rdF_step {acc : List Op} {t r : List UInt8} {x : Op} (h : one (t ++ r) = (x, t.length)) (ht : t ≠ []) : rdF acc (t ++ r) = rdF (bhd acc x) r := by
  have := List.length_pos_iff.2 ht
  rw [rdF_yes (by rw [h]; show t.length ≠ 0; omega), h]
  simp

/-- Read's answer -/
noncomputable def rdO (l : List UInt8) : Option (List Op) := rdF [] l
def oC : Option (List Op) → Int
  | some _ => 0
  | none => 3
def oV : Option (List Op) → List Op
  | some l => l
  | none => []
noncomputable def rC (l : List UInt8) : Int := if 255 < l.length then 5 else oC (rdF [] l)
noncomputable def rV (l : List UInt8) : List Op := if 255 < l.length then [] else oV (rdF [] l)
theorem r_big {l : List UInt8} (h : 255 < l.length) : rC l = 5 ∧ rV l = [] := by rw [rC, rV, if_pos h, if_pos h]; exact ⟨rfl, rfl⟩
theorem r_some {l : List UInt8} {r : List Op} (h : ¬ 255 < l.length) (hr : rdF [] l = some r) : rC l = 0 ∧ rV l = r := by rw [rC, rV, if_neg h, if_neg h, hr]; exact ⟨rfl, rfl⟩
theorem r_none {l : List UInt8} (h : ¬ 255 < l.length) (hr : rdF [] l = none) : rC l = 3 ∧ rV l = [] := by rw [rC, rV, if_neg h, if_neg h, hr]; exact ⟨rfl, rfl⟩

/-! ### how much they are -/
def cst : List Op → Int
  | [] => 0
  | x :: l => x.n + cst l
def byt : List Op → List UInt8
  | [] => []
  | x :: l => x.s ++ byt l
theorem cst_app (l m : List Op) : cst (l ++ m) = cst l + cst m := by
  induction l with
  | nil => simp [cst]
  | cons x l ih => simp only [List.cons_append, cst, ih]; omega
theorem byt_app (l m : List Op) : byt (l ++ m) = byt l ++ byt m := by
  induction l with
  | nil => simp [byt]
  | cons x l ih => simp only [List.cons_append, byt, ih, List.append_assoc]
theorem cst_one (x : Op) : cst [x] = x.n := by simp [cst]
theorem byt_one (x : Op) : byt [x] = x.s := by simp [byt]
/-- a step that may be -/
def Ok (x : Op) : Prop := (x.k = 1 ∧ x.s ≠ [] ∧ x.n = 0) ∨ (x.k = 2 ∧ x.s = [] ∧ 1 ≤ x.n) ∨ (x.k = 3 ∧ x.s = [] ∧ x.n = 0)
theorem St.ok {x : Op} (h : St x) : Ok x := by
  rcases h with ⟨c, rfl⟩ | ⟨n, h1, _, rfl⟩ | rfl
  · exact .inl ⟨rfl, by simp, rfl⟩
  · exact .inr (.inl ⟨rfl, rfl, by show (1 : Int) ≤ (n : Int); omega⟩)
  · exact .inr (.inr ⟨rfl, rfl, rfl⟩)
theorem Ok.pos {x : Op} (h : Ok x) : 0 ≤ x.n := by rcases h with ⟨_, _, h⟩ | ⟨_, _, h⟩ | ⟨_, _, h⟩ <;> omega
theorem Ok.glue {x y : Op} (h : Ok x) (g : Ok y) (e : isOne x y = true) : Ok (glue x y) := by
  simp only [isOne, Bool.and_eq_true, beq_iff_eq, bne_iff_ne] at e
  obtain ⟨e1, e2⟩ := e
  rcases h with ⟨a, b, c⟩ | ⟨a, b, c⟩ | ⟨a, b, c⟩
  · rcases g with ⟨a', b', c'⟩ | ⟨a', _⟩ | ⟨a', _⟩
    · exact .inl ⟨a, by simp [Brk.glue, b], by show x.n + y.n = 0; omega⟩
    · omega
    · omega
  · rcases g with ⟨a', b', c'⟩ | ⟨a', b', c'⟩ | ⟨a', _⟩
    · omega
    · exact .inr (.inl ⟨a, by simp [Brk.glue, b, b'], by show 1 ≤ x.n + y.n; omega⟩)
    · omega
  · omega
/-- how much was read out of so many bytes -/
structure Bd (acc : List Op) (c : Nat) : Prop where
  len : acc.length ≤ c
  byt : (byt acc).length ≤ c
  cst : cst acc ≤ 99 * c
  ok : ∀ x ∈ acc, Ok x
theorem St.cst {x : Op} (h : St x) : x.n ≤ 99 ∧ x.s.length ≤ 1 := by
  rcases h with ⟨c, rfl⟩ | ⟨n, _, h2, rfl⟩ | rfl
  · exact ⟨by show (0 : Int) ≤ 99; omega, by simp⟩
  · exact ⟨by show (n : Int) ≤ 99; omega, by simp⟩
  · exact ⟨by show (0 : Int) ≤ 99; omega, by simp⟩
theorem Bd.nil : Bd [] 0 := ⟨by simp, by simp [Brk.byt], by simp [Brk.cst], fun _ h => by simp at h⟩
theorem Bd.mono {acc : List Op} {c d : Nat} (h : Bd acc c) (hd : c ≤ d) : Bd acc d := ⟨Nat.le_trans h.len hd, Nat.le_trans h.byt hd, by have := h.cst; omega, h.ok⟩
theorem Bd.step {acc : List Op} {c m : Nat} {x : Op} (h : Bd acc c) (hx : St x) (hm : 1 ≤ m) : Bd (bhd acc x) (c + m) := by
  obtain ⟨x1, x2⟩ := hx.cst
  obtain ⟨h1, h2, h3, h4⟩ := h
  rcases snoc_cases acc with rfl | ⟨L, y, rfl⟩
  · rw [bhd_nil]
    exact ⟨by simp; omega, by rw [byt_one]; omega, by rw [cst_one]; omega, fun z hz => by rw [List.mem_singleton.1 hz]; exact hx.ok⟩
  · rw [List.length_append, List.length_singleton] at h1
    rw [byt_app, byt_one, List.length_append] at h2
    rw [cst_app, cst_one] at h3
    cases e : isOne y x with
    | true =>
      rw [bhd_one e]
      refine ⟨by rw [List.length_append, List.length_singleton]; omega, ?_, ?_, fun z hz => ?_⟩
      · rw [byt_app, byt_one, List.length_append]
        show (Brk.byt L).length + (y.s ++ x.s).length ≤ _
        rw [List.length_append]; omega
      · rw [cst_app, cst_one]
        show Brk.cst L + (y.n + x.n) ≤ _
        omega
      · rcases List.mem_append.1 hz with hz | hz
        · exact h4 z (List.mem_append.2 (.inl hz))
        · rw [List.mem_singleton.1 hz]
          exact (h4 y (List.mem_append.2 (.inr (List.mem_singleton.2 rfl)))).glue hx.ok e
    | false =>
      rw [bhd_two e]
      refine ⟨by simp only [List.length_append, List.length_singleton]; omega, ?_, ?_, fun z hz => ?_⟩
      · rw [byt_app, byt_app, byt_one, byt_one, List.length_append, List.length_append]; omega
      · rw [cst_app, cst_app, cst_one, cst_one]; omega
      · rcases List.mem_append.1 hz with hz | hz
        · exact h4 z hz
        · rw [List.mem_singleton.1 hz]; exact hx.ok
theorem rd_bd : ∀ (k : Nat) (l : List UInt8) (acc r : List Op) (c : Nat), l.length = k → Bd acc c → rdF acc l = some r → Bd r (c + l.length) := by
  intro k
  induction k using Nat.strongRecOn with
  | ind k ih =>
    intro l acc r c hk h hr
    by_cases h0 : (one l).2 = 0
    · cases l with
      | nil => rw [rdF_nil] at hr; cases hr; exact h.mono (by omega)
      | cons a t => rw [rdF_no (by simp) h0] at hr; cases hr
    · obtain ⟨s1, s2, s3⟩ := one_yes h0
      rw [rdF_yes h0] at hr
      have := ih (l.drop (one l).2).length (by rw [List.length_drop]; omega) (l.drop (one l).2) _ r (c + (one l).2) rfl (h.step s1 s2) hr
      rw [List.length_drop] at this
      exact this.mono (by omega)
theorem r_bd (l : List UInt8) : Bd (rV l) l.length := by
  by_cases h : 255 < l.length
  · rw [(r_big h).2]; exact Bd.nil.mono (Nat.zero_le _)
  · cases hr : rdF [] l with
    | none => rw [(r_none h hr).2]; exact Bd.nil.mono (Nat.zero_le _)
    | some r =>
      rw [(r_some h hr).2]
      have := rd_bd _ l [] r 0 rfl Bd.nil hr
      rwa [Nat.zero_add] at this

/-! ### steps that may stand so -/
def okAt (l : List Op) (i : Nat) : Prop := ∃ x, l[i]? = some x ∧ Ok x ∧ (0 < i → ∃ y, l[i - 1]? = some y ∧ isOne y x = false)
def Good (l : List Op) : Prop := ∀ i, i < l.length → okAt l i
theorem good_nil : Good [] := fun i h => absurd h (by simp)
theorem good_snoc {l : List Op} {x : Op} (h : Good l) (hx : Ok x) (hy : ∀ L y, l = L ++ [y] → isOne y x = false) : Good (l ++ [x]) := by
  intro i hi
  rw [List.length_append, List.length_singleton] at hi
  by_cases hlt : i < l.length
  · obtain ⟨z, e, ho, hp⟩ := h i hlt
    refine ⟨z, by rw [List.getElem?_append_left hlt]; exact e, ho, fun h0 => ?_⟩
    obtain ⟨y, e2, hq⟩ := hp h0
    exact ⟨y, by rw [List.getElem?_append_left (by omega)]; exact e2, hq⟩
  · obtain rfl : i = l.length := by omega
    refine ⟨x, by simp, hx, fun h0 => ?_⟩
    rcases snoc_cases l with rfl | ⟨L, y, rfl⟩
    · simp at h0
    · refine ⟨y, ?_, hy L y rfl⟩
      rw [List.getElem?_append_left (by omega), List.length_append, List.length_singleton, Nat.add_sub_cancel]
      simp
theorem good_left {l m : List Op} (h : Good (l ++ m)) : Good l := by
  intro i hi
  obtain ⟨x, e, ho, hp⟩ := h i (by rw [List.length_append]; omega)
  rw [List.getElem?_append_left hi] at e
  refine ⟨x, e, ho, fun h0 => ?_⟩
  obtain ⟨y, e2, hq⟩ := hp h0
  rw [List.getElem?_append_left (by omega)] at e2
  exact ⟨y, e2, hq⟩
theorem good_mid {l m : List Op} {x : Op} (h : Good (l ++ x :: m)) : Ok x ∧ ∀ L y, l = L ++ [y] → isOne y x = false := by
  obtain ⟨z, e, ho, hp⟩ := h l.length (by simp)
  have e' : z = x := by
    rw [List.getElem?_append_right (by omega), Nat.sub_self] at e
    simpa using e.symm
  subst e'
  refine ⟨ho, fun L y hL => ?_⟩
  subst hL
  obtain ⟨y', e2, hq⟩ := hp (by simp)
  rw [List.getElem?_append_left (by simp), List.length_append, List.length_singleton, Nat.add_sub_cancel] at e2
  have : y' = y := by simpa using e2.symm
  rw [← this]; exact hq
theorem good_bhd {acc : List Op} {x : Op} (h : Good acc) (hx : St x) : Good (bhd acc x) := by
  rcases snoc_cases acc with rfl | ⟨L, y, rfl⟩
  · rw [bhd_nil]; exact good_snoc good_nil hx.ok fun L y e => by simp at e
  · cases e : isOne y x with
    | true =>
      rw [bhd_one e]
      obtain ⟨hy, hp⟩ := good_mid (m := []) h
      refine good_snoc (good_left h) (hy.glue hx.ok e) fun M z hM => ?_
      have := hp M z hM
      simpa [isOne, glue] using this
    | false =>
      rw [bhd_two e]
      refine good_snoc h hx.ok fun M z hM => ?_
      have := List.append_inj_right' hM rfl
      rw [← (List.cons.inj this).1]; exact e
theorem rd_good : ∀ (k : Nat) (l : List UInt8) (acc r : List Op), l.length = k → Good acc → rdF acc l = some r → Good r := by
  intro k
  induction k using Nat.strongRecOn with
  | ind k ih =>
    intro l acc r hk h hr
    by_cases h0 : (one l).2 = 0
    · cases l with
      | nil => rw [rdF_nil] at hr; cases hr; exact h
      | cons a t => rw [rdF_no (by simp) h0] at hr; cases hr
    · obtain ⟨s1, s2, s3⟩ := one_yes h0
      rw [rdF_yes h0] at hr
      exact ih (l.drop (one l).2).length (by rw [List.length_drop]; omega) (l.drop (one l).2) _ r rfl (good_bhd h s1) hr
theorem r_good (l : List UInt8) : Good (rV l) := by
  by_cases h : 255 < l.length
  · rw [(r_big h).2]; exact good_nil
  · cases hr : rdF [] l with
    | none => rw [(r_none h hr).2]; exact good_nil
    | some r => rw [(r_some h hr).2]; exact rd_good _ l [] r rfl good_nil hr

/-! ### steps as text -/
def wsg (n : Nat) : List UInt8 := if n = 1 then [92, 100] else 92 :: 119 :: two n
def w99 : List UInt8 := [92, 119, 57, 57]
def wtx (n : Nat) : List UInt8 := if _h : n ≤ 99 then wsg n else w99 ++ wtx (n - 99)
termination_by n
theorem wtx_le {n : Nat} (h : n ≤ 99) : wtx n = wsg n := by rw [wtx, dif_pos h]
theorem wtx_gt {n : Nat} (h : ¬ n ≤ 99) : wtx n = w99 ++ wtx (n - 99) := by rw [wtx, dif_neg h]
theorem wsg_len (n : Nat) : 2 ≤ (wsg n).length ∧ (wsg n).length ≤ 4 := by
  unfold wsg; split <;> simp [two]
theorem w99_is : wsg 99 = w99 := by decide
def reps (f : Nat) : List UInt8 := (List.replicate f w99).flatten
theorem reps_succ (f : Nat) : reps (f + 1) = w99 ++ reps f := by simp [reps, List.replicate_succ]
theorem reps_snoc (f : Nat) : reps (f + 1) = reps f ++ w99 := by
  induction f with
  | zero => simp [reps]
  | succ f ih => rw [reps_succ (f + 1), reps_succ f, List.append_assoc, ← ih, reps_succ]
theorem reps_len (f : Nat) : (reps f).length = 4 * f := by
  induction f with
  | zero => rfl
  | succ f ih => rw [reps_succ, List.length_append, ih]; simp [w99]; omega
theorem wtx_reps (f k : Nat) (h1 : 1 ≤ k) : wtx (99 * f + k) = reps f ++ wtx k := by
  induction f with
  | zero => simp [reps]
  | succ f ih =>
    rw [wtx_gt (by omega), show 99 * (f + 1) + k - 99 = 99 * f + k by omega, ih, reps_succ, List.append_assoc]
theorem wtx_long {n : Nat} (h : 6336 < n) : 255 < (wtx n).length := by
  have := wtx_reps 64 (n - 6336) (by omega)
  rw [show 99 * 64 + (n - 6336) = n by omega] at this
  rw [this, List.length_append, reps_len]; omega
def tx (x : Op) : List UInt8 := if x.k = 1 then shw x.s else if x.k = 2 then wtx x.n.toNat else [92, 122]
def txt (l : List Op) : List UInt8 := l.flatMap tx
theorem txt_cons (x : Op) (l : List Op) : txt (x :: l) = tx x ++ txt l := by simp [txt]
theorem txt_app (l m : List Op) : txt (l ++ m) = txt l ++ txt m := by simp [txt]
theorem txt_one (x : Op) : txt [x] = tx x := by simp [txt]
theorem shw_ge (l : List UInt8) : l.length ≤ (shw l).length := by
  induction l with
  | nil => simp
  | cons c l ih => rw [shw_cons, List.length_append, List.length_cons]; have := sgn_len c.toNat; omega

/-- the same, as far as it may matter -/
def Near (T t : List UInt8) : Prop := T = t ∨ (255 < T.length ∧ 255 < t.length)
theorem Near.refl (t : List UInt8) : Near t t := .inl rfl
theorem Near.app {T t U u : List UInt8} (h : Near T t) (g : Near U u) : Near (T ++ U) (t ++ u) := by
  rcases h with rfl | ⟨h1, h2⟩
  · rcases g with rfl | ⟨g1, g2⟩
    · exact .inl rfl
    · exact .inr ⟨by rw [List.length_append]; omega, by rw [List.length_append]; omega⟩
  · exact .inr ⟨by rw [List.length_append]; omega, by rw [List.length_append]; omega⟩
theorem Near.big {T t : List UInt8} (h : Near T t) (U : List UInt8) (ht : 255 < t.length) : Near (T ++ U) t := by
  rcases h with rfl | ⟨h1, h2⟩
  · exact .inr ⟨by rw [List.length_append]; omega, ht⟩
  · exact .inr ⟨by rw [List.length_append]; omega, h2⟩
theorem Near.fit {T t : List UInt8} (h : Near T t) (ht : ¬ 255 < t.length) : T = t := by
  rcases h with h | ⟨_, h⟩
  · exact h
  · exact absurd h ht
theorem Near.not {T t : List UInt8} (h : Near T t) (ht : 255 < t.length) : 255 < T.length := by
  rcases h with rfl | ⟨h, _⟩
  · exact ht
  · exact h
theorem near_show (l : List UInt8) : Near (shw l) (shw (l.take 256)) := by
  by_cases h : l.length ≤ 256
  · rw [List.take_of_length_le h]; exact .inl rfl
  · have h1 := shw_ge l
    have h2 := shw_ge (l.take 256)
    rw [List.length_take] at h2
    exact .inr ⟨by omega, by omega⟩

open Classical in
/-- Put's answer -/
noncomputable def pC (l : List Op) : Int := if Good l then (if 255 < (txt l).length then 5 else 0) else 1
open Classical in
noncomputable def pV (l : List Op) : List UInt8 := if Good l then (if 255 < (txt l).length then [] else txt l) else []
theorem p_bad {l : List Op} (h : ¬ Good l) : pC l = 1 ∧ pV l = [] := by rw [pC, pV, if_neg h, if_neg h]; exact ⟨rfl, rfl⟩
theorem p_big {l : List Op} (h : Good l) (hl : 255 < (txt l).length) : pC l = 5 ∧ pV l = [] := by rw [pC, pV, if_pos h, if_pos h, if_pos hl, if_pos hl]; exact ⟨rfl, rfl⟩
theorem p_fit {l : List Op} (h : Good l) (hl : ¬ 255 < (txt l).length) : pC l = 0 ∧ pV l = txt l := by rw [pC, pV, if_pos h, if_pos h, if_neg hl, if_neg hl]; exact ⟨rfl, rfl⟩

/-! ### what is put is read -/
set_option maxRecDepth 100000 in
theorem one_sgn (c : UInt8) (r : List UInt8) : one (sgn c.toNat ++ r) = (⟨1, [c], 0⟩, (sgn c.toNat).length) := by
  have back : ∀ n : Nat, c.toNat = n → c = n.toUInt8 := fun n e => by rw [← e]; simp
  by_cases e1 : c.toNat = 92
  · have := back 92 e1; subst this; exact one_esc 92 r
  by_cases e2 : c.toNat = 10
  · have := back 10 e2; subst this; exact one_esc 110 r
  by_cases e3 : c.toNat = 13
  · have := back 13 e3; subst this; exact one_esc 114 r
  by_cases e4 : c.toNat = 9
  · have := back 9 e4; subst this; exact one_esc 116 r
  rw [sgn_other e1 e2 e3 e4]
  by_cases h : c.toNat < 32 ∨ 126 < c.toNat
  · rw [if_pos h]
    show one (92 :: 120 :: (hexS c.toNat ++ r)) = _
    have e : (hexS c.toNat ++ r).take 2 = hexS c.toNat := by simp [hexS]
    obtain ⟨h1, h2⟩ := rh_some c.toNat_lt
    have ec : esc 120 (hexS c.toNat ++ r) = if rhC ((hexS c.toNat ++ r).take 2) = 0 then (⟨1, [(rhV ((hexS c.toNat ++ r).take 2)).toNat.toUInt8], 0⟩, 4) else no := rfl
    rw [one_esc, ec, e, h1, h2, if_pos rfl]
    simp [hexS]
  · rw [if_neg h]
    have : c.toNat.toUInt8 = c := by simp
    rw [this]
    exact one_plain r (by omega) (by omega) (fun e => e1 (by rw [e]; rfl))
theorem one_wsg {n : Nat} (h1 : 1 ≤ n) (h2 : n ≤ 99) (r : List UInt8) : one (wsg n ++ r) = (⟨2, [], n⟩, (wsg n).length) := by
  by_cases e : n = 1
  · subst e; exact one_esc 100 r
  · have ew : wsg n = 92 :: 119 :: two n := if_neg e
    rw [ew]
    show one (92 :: 119 :: (two n ++ r)) = _
    have et : (two n ++ r).take 2 = two n := by simp [two]
    have ec : esc 119 (two n ++ r) = if tk ((two n ++ r).take 2) = 0 then no else (⟨2, [], tk ((two n ++ r).take 2)⟩, 4) := rfl
    rw [one_esc, ec, et, tk_some h1 h2, if_neg (by omega)]
    simp [two]
theorem one_brk (r : List UInt8) : one ([92, 122] ++ r) = (⟨3, [], 0⟩, 2) := one_esc 122 r
theorem sgn_ne (n : Nat) : sgn n ≠ [] := fun e => by have := (sgn_len n).1; rw [e] at this; simp at this
theorem wsg_ne (n : Nat) : wsg n ≠ [] := fun e => by have := (wsg_len n).1; rw [e] at this; simp at this
theorem send_more (cs : List UInt8) : ∀ (acc : List Op) (p r : List UInt8), rdF (acc ++ [⟨1, p, 0⟩]) (shw cs ++ r) = rdF (acc ++ [⟨1, p ++ cs, 0⟩]) r := by
  induction cs with
  | nil => intro acc p r; simp [shw]
  | cons c cs ih =>
    intro acc p r
    rw [shw_cons, List.append_assoc, rdF_step (one_sgn c _) (sgn_ne _), bhd_one (by rfl)]
    show rdF (acc ++ [⟨1, p ++ [c], 0⟩]) _ = _
    rw [ih, List.append_assoc]; rfl
theorem wait_more : ∀ (k N : Nat), N = k → 1 ≤ N → ∀ (acc : List Op) (m : Int) (r : List UInt8), rdF (acc ++ [⟨2, [], m⟩]) (wtx N ++ r) = rdF (acc ++ [⟨2, [], m + N⟩]) r := by
  intro k
  induction k using Nat.strongRecOn with
  | ind k ih =>
    intro N hk h1 acc m r
    by_cases h : N ≤ 99
    · rw [wtx_le h, rdF_step (one_wsg h1 h r) (wsg_ne _), bhd_one (by rfl)]; rfl
    · rw [wtx_gt h, List.append_assoc, ← w99_is, rdF_step (one_wsg (by omega) (by omega) _) (wsg_ne _), bhd_one (by rfl)]
      show rdF (acc ++ [⟨2, [], m + 99⟩]) _ = _
      rw [ih (N - 99) (by omega) (N - 99) rfl (by omega)]
      rw [show m + 99 + ((N - 99 : Nat) : Int) = m + (N : Int) by omega]
theorem bhd_new {acc : List Op} {x : Op} (h : ∀ L y, acc = L ++ [y] → isOne y x = false) : bhd acc x = acc ++ [x] := by
  rcases snoc_cases acc with rfl | ⟨L, y, rfl⟩
  · rfl
  · exact bhd_two (h L y rfl)
theorem rd_one {acc : List Op} {x : Op} (hx : Ok x) (h : ∀ L y, acc = L ++ [y] → isOne y x = false) (r : List UInt8) : rdF acc (tx x ++ r) = rdF (acc ++ [x]) r := by
  obtain ⟨k, s, n⟩ := x
  rcases hx with ⟨a, b, c⟩ | ⟨a, b, c⟩ | ⟨a, b, c⟩
  · simp only at a b c
    subst a c
    cases s with
    | nil => exact absurd rfl b
    | cons c cs =>
      show rdF acc (shw (c :: cs) ++ r) = _
      rw [shw_cons, List.append_assoc, rdF_step (one_sgn c _) (sgn_ne _), bhd_new (x := ⟨1, [c], 0⟩) (fun L y e => h L y e), send_more]; rfl
  · simp only at a b c
    subst a b
    obtain ⟨N, rfl⟩ : ∃ N : Nat, n = N := ⟨n.toNat, by omega⟩
    show rdF acc (wtx N ++ r) = _
    by_cases h9 : N ≤ 99
    · rw [wtx_le h9, rdF_step (one_wsg (by omega) h9 r) (wsg_ne _), bhd_new (fun L y e => h L y e)]
    · rw [wtx_gt h9, List.append_assoc, ← w99_is, rdF_step (one_wsg (by omega) (by omega) _) (wsg_ne _), bhd_new (x := ⟨2, [], (99 : Nat)⟩) (fun L y e => h L y e), wait_more _ _ rfl (by omega)]
      rw [show ((99 : Nat) : Int) + ((N - 99 : Nat) : Int) = (N : Int) by omega]
  · simp only at a b c
    subst a b c
    show rdF acc ([92, 122] ++ r) = _
    rw [rdF_step (one_brk r) (by simp), bhd_new (fun L y e => h L y e)]
theorem rd_txt (l : List Op) : ∀ (acc : List Op) (r : List UInt8), Good (acc ++ l) → rdF acc (txt l ++ r) = rdF (acc ++ l) r := by
  induction l with
  | nil => intro acc r _; simp [txt]
  | cons x l ih =>
    intro acc r h
    obtain ⟨hx, hp⟩ := good_mid h
    rw [txt_cons, List.append_assoc, rd_one hx hp, ih _ _ (by simpa using h)]
    simp
theorem read_put {l : List Op} (h : Good l) (hl : ¬ 255 < (txt l).length) : rC (txt l) = 0 ∧ rV (txt l) = l := by
  refine r_some hl ?_
  have := rd_txt l [] [] (by simpa using h)
  simpa [rdF_nil] using this
end Go.Proofs.Ytiblmhjlngcidaa.Brk

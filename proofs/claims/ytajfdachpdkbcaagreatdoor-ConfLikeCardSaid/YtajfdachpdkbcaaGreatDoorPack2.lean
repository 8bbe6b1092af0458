/-
Layer 2 (digit): the plain mathematics: decimal texts, digits, signs.
Layer 14 (brk): the plain mathematics: steps, their text, what a text tells.
Layer 10 (word): plain facts: names, patterns, and what a pattern stands for.
-/
import Derived.Test.YtajfdachpdkbcaaGreatDoorPack1
import Derived.Lib.Bytealg
section
namespace Go.Proofs.YtajfdachpdkbcaaGreatDoor.Digit

def hexd (n : Nat) : UInt8 := if n < 10 then (48 + n).toUInt8 else (87 + n).toUInt8
def decN (n : Nat) : List UInt8 := if _h : n < 10 then [hexd n] else decN (n / 10) ++ [hexd (n % 10)]
termination_by n
decreasing_by omega
def dec (n : Int) : List UInt8 := if n < 0 then 45 :: decN n.natAbs else decN n.toNat
def hexS (c : Nat) : List UInt8 := [hexd (c / 16), hexd (c % 16)]

theorem decN_lt {n : Nat} (h : n < 10) : decN n = [hexd n] := by rw [decN, dif_pos h]
theorem decN_ge {n : Nat} (h : ¬ n < 10) : decN n = decN (n / 10) ++ [hexd (n % 10)] := by rw [decN, dif_neg h]

theorem hexd_toNat {n : Nat} (h : n < 10) : (hexd n).toNat = 48 + n := by
  unfold hexd; rw [if_pos h]; simp; omega

theorem decN_ne (n : Nat) : decN n ≠ [] := by
  by_cases h : n < 10
  · rw [decN_lt h]; simp
  · rw [decN_ge h]; simp

theorem decN_len (k n : Nat) (h : n < 10 ^ (k + 1)) : (decN n).length ≤ k + 1 := by
  induction k generalizing n with
  | zero => rw [decN_lt (by simpa using h)]; simp
  | succ k ih =>
    by_cases h1 : n < 10
    · rw [decN_lt h1]; simp
    · rw [decN_ge h1]
      have := ih (n / 10) (by rw [Nat.pow_succ] at h; omega)
      simp; omega

theorem decN_pos (n : Nat) : 0 < (decN n).length := List.length_pos_iff.2 (decN_ne n)

theorem dec_len {n : Int} (h1 : -9223372036854775808 ≤ n) (h2 : n ≤ 9223372036854775807) : (dec n).length ≤ 20 := by
  unfold dec
  split
  · have := decN_len 18 n.natAbs (by omega); simp; omega
  · have := decN_len 18 n.toNat (by omega); omega

/-- the number that digits tell, whatever they are -/
def scan (a : Int) : List UInt8 → Int
  | [] => a
  | c :: l => scan (10 * a + (c.toNat : Int) - 48) l

theorem scan_append (a : Int) (l m : List UInt8) : scan a (l ++ m) = scan (scan a l) m := by
  induction l generalizing a with
  | nil => rfl
  | cons c l ih => exact ih _

theorem scan_decN (n : Nat) : scan 0 (decN n) = n := by
  induction n using Nat.strongRecOn with
  | ind n ih =>
    by_cases h : n < 10
    · rw [decN_lt h]; simp only [scan]; have := hexd_toNat h; omega
    · rw [decN_ge h, scan_append, ih (n / 10) (by omega)]
      simp only [scan]; have := hexd_toNat (n := n % 10) (by omega); omega

theorem decN_digit (n : Nat) : ∀ c ∈ decN n, 48 ≤ c.toNat ∧ c.toNat ≤ 57 := by
  induction n using Nat.strongRecOn with
  | ind n ih =>
    by_cases h : n < 10
    · rw [decN_lt h]; intro c hc; simp at hc; subst hc; have := hexd_toNat h; omega
    · rw [decN_ge h]
      intro c hc
      rcases List.mem_append.1 hc with hc | hc
      · exact ih (n / 10) (by omega) c hc
      · simp at hc; subst hc; have := hexd_toNat (n := n % 10) (by omega); omega

theorem decN_inj {m n : Nat} (h : decN m = decN n) : m = n := by
  have := congrArg (scan 0) h; rw [scan_decN, scan_decN] at this; omega

theorem dec_inj {m n : Int} (h : dec m = dec n) : m = n := by
  unfold dec at h
  split at h <;> split at h
  · have := decN_inj (List.cons.inj h).2; omega
  · have := decN_digit n.toNat 45 (h ▸ List.mem_cons_self); simp at this
  · have := decN_digit m.toNat 45 (h ▸ List.mem_cons_self); simp at this
  · have := decN_inj h; omega

theorem dec_lt {n : Int} (h0 : 0 ≤ n) (h : n < 10) : dec n = [hexd n.toNat] := by
  unfold dec; rw [if_neg (by omega), decN_lt (by omega)]
theorem dec_neg_lt {n : Int} (h0 : n < 0) (h : -10 < n) : dec n = [45, hexd (-n).toNat] := by
  unfold dec; rw [if_pos h0, decN_lt (by omega), show n.natAbs = (-n).toNat by omega]
theorem dec_ge {n : Int} (h : 10 ≤ n) : dec n = dec (n / 10) ++ [hexd (n % 10).toNat] := by
  unfold dec; rw [if_neg (by omega), if_neg (by omega), decN_ge (by omega), show (n / 10).toNat = n.toNat / 10 by omega, show (n % 10).toNat = n.toNat % 10 by omega]
theorem dec_le {n : Int} (h : n ≤ -10) : dec n = dec (n.tdiv 10) ++ [hexd (-(n.tmod 10)).toNat] := by
  have e1 : n.tdiv 10 = -(((n.natAbs / 10 : Nat)) : Int) := by
    obtain ⟨m, rfl⟩ : ∃ m : Nat, n = -(m : Int) := ⟨n.natAbs, by omega⟩
    rw [Int.neg_tdiv, Int.natAbs_neg, Int.natAbs_natCast, Int.tdiv_eq_ediv_of_nonneg (by omega)]; rfl
  have e2 : -(n.tmod 10) = ((n.natAbs % 10 : Nat) : Int) := by
    obtain ⟨m, rfl⟩ : ∃ m : Nat, n = -(m : Int) := ⟨n.natAbs, by omega⟩
    rw [Int.neg_tmod, Int.natAbs_neg, Int.natAbs_natCast, Int.neg_neg, Int.tmod_eq_emod_of_nonneg (by omega)]; rfl
  rw [e1, e2]
  have h10 : ¬ n.natAbs < 10 := by omega
  unfold dec
  rw [if_pos (by omega), if_pos (by omega), decN_ge h10, Int.natAbs_neg, Int.natAbs_natCast, Int.toNat_natCast]
  rfl

theorem tdiv_facts {n : Int} (h : n < 0) : n < n.tdiv 10 ∧ n.tdiv 10 ≤ 0 ∧ n.tmod 10 ≤ 0 ∧ -10 < n.tmod 10 := by
  obtain ⟨m, rfl⟩ : ∃ m : Nat, n = -(m : Int) := ⟨n.natAbs, by omega⟩
  rw [Int.neg_tdiv, Int.neg_tmod, Int.tdiv_eq_ediv_of_nonneg (by omega), Int.tmod_eq_emod_of_nonneg (by omega)]
  omega

def padL (d : List UInt8) (width : Nat) : List UInt8 := List.replicate (width - d.length) 48 ++ d
def padI (n width : Int) : List UInt8 := if n < 0 ∨ width < 0 ∨ 20 < width then [] else padL (dec n) width.toNat
def PadAt (d l : List UInt8) (width : Nat) : Prop := ∃ k, l = List.replicate k 48 ++ d ∧ k ≤ width - d.length
theorem pad_start (d : List UInt8) (width : Nat) : PadAt d d width := ⟨0, by simp, by omega⟩
theorem pad_next {d l : List UInt8} {width : Nat} (h : PadAt d l width) (hl : l.length < width) : PadAt d (48 :: l) width := by
  obtain ⟨k, rfl, hk⟩ := h
  exact ⟨k + 1, by simp [List.replicate_succ], by simp at hl; omega⟩
theorem pad_done {d l : List UInt8} {width : Nat} (h : PadAt d l width) (hl : ¬ l.length < width) : l = padL d width := by
  obtain ⟨k, rfl, hk⟩ := h
  simp at hl
  rw [padL, show k = width - d.length by omega]
theorem padI_none {n width : Int} (h : n < 0 ∨ width < 0 ∨ 20 < width) : padI n width = [] := by rw [padI, if_pos h]
theorem padI_some {n width : Int} (h : ¬ (n < 0 ∨ width < 0 ∨ 20 < width)) : padI n width = padL (dec n) width.toNat := by rw [padI, if_neg h]

theorem hexd_inj {m n : Nat} (hm : m < 16) (hn : n < 16) (h : hexd m = hexd n) : m = n := by
  have key : ∀ a : Fin 16, ∀ b : Fin 16, hexd a.val = hexd b.val → a = b := by decide
  exact congrArg Fin.val (key ⟨m, hm⟩ ⟨n, hn⟩ h)
theorem hexS_inj {m n : Nat} (hm : m < 256) (hn : n < 256) (h : hexS m = hexS n) : m = n := by
  unfold hexS at h
  have h1 := hexd_inj (by omega) (by omega) (List.cons.inj h).1
  have h2 := hexd_inj (by omega) (by omega) (List.cons.inj (List.cons.inj h).2).1
  omega
open Classical in
/-- the byte of two digits, and why there is none -/
noncomputable def rhV (s : List UInt8) : Int := if h : ∃ c : Nat, c < 256 ∧ hexS c = s then (h.choose : Int) else 0
open Classical in
noncomputable def rhC (s : List UInt8) : Int := if ∃ c : Nat, c < 256 ∧ hexS c = s then 0 else 3
theorem rh_some {c : Nat} (hc : c < 256) : rhV (hexS c) = c ∧ rhC (hexS c) = 0 := by
  have h : ∃ d : Nat, d < 256 ∧ hexS d = hexS c := ⟨c, hc, rfl⟩
  constructor
  · rw [rhV, dif_pos h]; exact congrArg Int.ofNat (hexS_inj h.choose_spec.1 hc h.choose_spec.2)
  · rw [rhC, if_pos h]
theorem rh_none {s : List UInt8} (h : ¬ ∃ c : Nat, c < 256 ∧ hexS c = s) : rhV s = 0 ∧ rhC s = 3 := by
  constructor
  · rw [rhV, dif_neg h]
  · rw [rhC, if_neg h]

def IsTick (s : List UInt8) (n : Int) : Prop := 0 ≤ n ∧ n ≤ 1099511627776 ∧ dec n = s
open Classical in
/-- the tick of a text, and why there is none -/
noncomputable def rdV (s : List UInt8) : Int := if h : ∃ n, IsTick s n then h.choose else 0
open Classical in
noncomputable def rdC (s : List UInt8) : Int := if ∃ n, IsTick s n then 0 else 3
theorem rd_some {s : List UInt8} {n : Int} (h : IsTick s n) : rdV s = n ∧ rdC s = 0 := by
  have g : ∃ n, IsTick s n := ⟨n, h⟩
  constructor
  · rw [rdV, dif_pos g]; exact dec_inj (g.choose_spec.2.2.trans h.2.2.symm)
  · rw [rdC, if_pos g]
theorem rd_none {s : List UInt8} (h : ¬ ∃ n, IsTick s n) : rdV s = 0 ∧ rdC s = 3 := by
  constructor
  · rw [rdV, dif_neg h]
  · rw [rdC, if_neg h]

theorem scan_bd (l : List UInt8) (a : Int) (M : Nat) (h1 : -M ≤ a) (h2 : a ≤ M) : -((M + 30 : Nat) * 10 ^ l.length : Nat) ≤ scan a l ∧ scan a l ≤ ((M + 30 : Nat) * 10 ^ l.length : Nat) := by
  induction l generalizing a M with
  | nil => simp [scan]; omega
  | cons c l ih =>
    have hc := c.toNat_lt
    have := ih (10 * a + (c.toNat : Int) - 48) (10 * M + 256) (by omega) (by omega)
    have e : (10 * M + 256 + 30) * 10 ^ l.length ≤ (M + 30) * 10 ^ (l.length + 1) := by
      rw [Nat.pow_succ, ← Nat.mul_assoc, Nat.mul_right_comm]; exact Nat.mul_le_mul_right _ (by omega)
    simp only [scan, List.length_cons]
    omega
theorem scan_14 (l : List UInt8) (h : l.length ≤ 14) : -3000000000000000 ≤ scan 0 l ∧ scan 0 l ≤ 3000000000000000 := by
  have := scan_bd l 0 0 (by omega) (by omega)
  have e : 10 ^ l.length ≤ 10 ^ 14 := Nat.pow_le_pow_right (by omega) h
  omega
theorem tick_scan {s : List UInt8} {n : Int} (h : IsTick s n) : scan 0 s = n ∧ s.length ≤ 13 := by
  obtain ⟨h0, h1, rfl⟩ := h
  unfold dec
  rw [if_neg (by omega)]
  exact ⟨by rw [scan_decN]; omega, decN_len 12 _ (by omega)⟩
theorem take_snoc (s : ByteArray) (k : Nat) (h : k < s.size) : s.data.toList.take (k + 1) = s.data.toList.take k ++ [s[k]] := by
  rw [List.take_succ_eq_append_getElem (by simpa using h)]; rfl
theorem scan_snoc (s : ByteArray) (k : Nat) (h : k < s.size) : scan 0 (s.data.toList.take (k + 1)) = 10 * scan 0 (s.data.toList.take k) + (s[k].toNat : Int) - 48 := by
  rw [take_snoc s k h, scan_append]; rfl

/-- what stands for a byte -/
def sgn (n : Nat) : List UInt8 :=
  if n = 92 then [92, 92] else if n = 10 then [92, 110] else if n = 13 then [92, 114] else if n = 9 then [92, 116]
  else if n < 32 ∨ 126 < n then 92 :: 120 :: hexS n else [n.toUInt8]
def shw (l : List UInt8) : List UInt8 := l.flatMap fun c => sgn c.toNat

theorem sgn_other {n : Nat} (h1 : n ≠ 92) (h2 : n ≠ 10) (h3 : n ≠ 13) (h4 : n ≠ 9) : sgn n = if n < 32 ∨ 126 < n then 92 :: 120 :: hexS n else [n.toUInt8] := by
  unfold sgn; rw [if_neg h1, if_neg h2, if_neg h3, if_neg h4]
theorem sgn_len (n : Nat) : 1 ≤ (sgn n).length ∧ (sgn n).length ≤ 4 := by
  unfold sgn; repeat' split
  all_goals simp [hexS]

theorem shw_append (l m : List UInt8) : shw (l ++ m) = shw l ++ shw m := by simp [shw]
theorem shw_cons (c : UInt8) (l : List UInt8) : shw (c :: l) = sgn c.toNat ++ shw l := by simp [shw]
theorem shw_len (l : List UInt8) : (shw l).length ≤ 4 * l.length := by
  induction l with
  | nil => simp [shw]
  | cons c l ih => rw [shw_cons, List.length_append, List.length_cons]; have := sgn_len c.toNat; omega
theorem shw_snoc (s : ByteArray) (k : Nat) (h : k < s.size) : shw (s.data.toList.take (k + 1)) = shw (s.data.toList.take k) ++ sgn s[k].toNat := by
  rw [take_snoc s k h, shw_append]; simp [shw]

/-- with which byte's sign a text begins, if with any -/
noncomputable def mean : List UInt8 → Nat
  | [] => 0
  | a :: t => if a ≠ 92 then a.toNat else match t with
    | [] => 92
    | b :: u => if b = 110 then 10 else if b = 114 then 13 else if b = 116 then 9 else if b = 120 then (rhV (u.take 2)).toNat else 92

theorem rhV_bd (s : List UInt8) : 0 ≤ rhV s ∧ rhV s < 256 := by
  by_cases h : ∃ c : Nat, c < 256 ∧ hexS c = s
  · obtain ⟨c, hc, rfl⟩ := h; rw [(rh_some hc).1]; omega
  · rw [(rh_none h).1]; omega
theorem mean_bd (l : List UInt8) : mean l < 256 := by
  match l with
  | [] => simp [mean]
  | a :: t =>
    simp only [mean]
    split
    · exact a.toNat_lt
    · match t with
      | [] => simp
      | b :: u =>
        have := rhV_bd (u.take 2)
        simp only
        repeat' split
        all_goals omega
theorem mean_sgn (c : Nat) (hc : c < 256) (r : List UInt8) : mean (sgn c ++ r) = c := by
  unfold sgn
  split
  · subst c; simp [mean]
  split
  · subst c; simp [mean]
  split
  · subst c; simp [mean]
  split
  · subst c; simp [mean]
  split
  · have h := (rh_some hc).1
    have e : mean (92 :: 120 :: hexS c ++ r) = (rhV ((hexS c ++ r).take 2)).toNat := by simp [mean]
    have e2 : (hexS c ++ r).take 2 = hexS c := by simp [hexS]
    rw [e, e2, h]; simp
  · have h1 : (c.toUInt8) ≠ 92 := by
      intro h
      have := congrArg UInt8.toNat h
      simp at this; omega
    simp only [List.cons_append, List.nil_append, mean, ne_eq, h1, not_false_eq_true, if_true]
    simp; omega
theorem mean_pre {l : List UInt8} {c : Nat} (hc : c < 256) (h : sgn c <+: l) : mean l = c := by
  obtain ⟨r, rfl⟩ := h; exact mean_sgn c hc r

open Classical in
/-- the bytes of signs -/
noncomputable def uns (l : List UInt8) : Option (List UInt8) :=
  if _h : l = [] then some [] else if sgn (mean l) <+: l then (uns (l.drop (sgn (mean l)).length)).map ((mean l).toUInt8 :: ·) else none
termination_by l.length
decreasing_by
  have := (sgn_len (mean l)).1
  have := List.length_pos_iff.2 _h
  simp; omega
theorem uns_nil : uns [] = some [] := by rw [uns, dif_pos rfl]
theorem uns_none {l : List UInt8} (h0 : l ≠ []) (h : ¬ sgn (mean l) <+: l) : uns l = none := by rw [uns, dif_neg h0, if_neg h]
theorem uns_some {l : List UInt8} (h0 : l ≠ []) (h : sgn (mean l) <+: l) : uns l = (uns (l.drop (sgn (mean l)).length)).map ((mean l).toUInt8 :: ·) := by rw [uns, dif_neg h0, if_pos h]
theorem uns_shw (l : List UInt8) : uns (shw l) = some l := by
  induction l with
  | nil => exact uns_nil
  | cons c l ih =>
    have hc := c.toNat_lt
    have hm := mean_sgn c.toNat hc (shw l)
    rw [← shw_cons] at hm
    rw [uns_some, hm]
    · rw [shw_cons, List.drop_left, ih]; simp
    · rw [shw_cons]; have := (sgn_len c.toNat).1; intro h; simp at h; simp [h] at this
    · rw [hm, shw_cons]; exact List.prefix_append _ _
theorem shw_uns (l : List UInt8) : ∀ r, uns l = some r → shw r = l := by
  induction h : l.length using Nat.strongRecOn generalizing l with
  | ind n ih =>
    subst h
    intro r hr
    by_cases h0 : l = []
    · subst h0; rw [uns_nil] at hr; cases hr; rfl
    · by_cases h1 : sgn (mean l) <+: l
      · rw [uns_some h0 h1] at hr
        obtain ⟨q, hq, rfl⟩ := Option.map_eq_some_iff.1 hr
        have hs := (sgn_len (mean l)).1
        have := ih _ (by have := List.length_pos_iff.2 h0; simp; omega) _ rfl q hq
        rw [shw_cons, this]
        have hb := mean_bd l
        rw [show (mean l).toUInt8.toNat = mean l by simp; omega]
        exact List.prefix_iff_eq_append.1 h1
      · rw [uns_none h0 h1] at hr; cases hr
noncomputable def unV (l : List UInt8) : List UInt8 := (uns l).getD []
noncomputable def unC (l : List UInt8) : Int := if (uns l).isSome then 0 else 3

/-- of l the bytes acc are unshown, and m is left -/
def UnAt (l acc m : List UInt8) : Prop := uns l = (uns m).map (acc ++ ·) ∧ acc.length + m.length ≤ l.length
theorem un_start (l : List UInt8) : UnAt l [] l := ⟨by simp, by simp⟩
theorem un_done {l acc : List UInt8} (h : UnAt l acc []) : unV l = acc ∧ unC l = 0 := by
  have h1 := h.1
  rw [uns_nil] at h1
  simp [unV, unC, h1]
theorem un_next {l acc m : List UInt8} (h : UnAt l acc m) (h0 : m ≠ []) (hp : sgn (mean m) <+: m) : UnAt l (acc ++ [(mean m).toUInt8]) (m.drop (sgn (mean m)).length) := by
  refine ⟨?_, ?_⟩
  · rw [h.1, uns_some h0 hp]; simp [Function.comp_def]
  · have := h.2; have := (sgn_len (mean m)).1; have := List.length_pos_iff.2 h0; simp; omega
theorem un_stop {l acc m : List UInt8} (h : UnAt l acc m) (h0 : m ≠ []) (hp : ¬ sgn (mean m) <+: m) : unV l = [] ∧ unC l = 3 := by
  have h1 := h.1
  rw [uns_none h0 hp] at h1
  simp [unV, unC, h1]

theorem scan_up (l : List UInt8) (h : ∀ c ∈ l, 48 ≤ c.toNat ∧ c.toNat ≤ 57) (a : Int) (ha : 0 ≤ a) : a ≤ scan a l := by
  induction l generalizing a with
  | nil => exact Int.le_refl _
  | cons c l ih =>
    have hc := h c List.mem_cons_self
    have := ih (fun d hd => h d (List.mem_cons_of_mem _ hd)) (10 * a + (c.toNat : Int) - 48) (by omega)
    simp only [scan]; omega
theorem tick_digit {s : List UInt8} {n : Int} (h : IsTick s n) : ∀ c ∈ s, 48 ≤ c.toNat ∧ c.toNat ≤ 57 := by
  obtain ⟨h0, h1, rfl⟩ := h
  unfold dec
  rw [if_neg (by omega)]
  exact decN_digit _
theorem tick_part {s : List UInt8} {n : Int} (h : IsTick s n) (k : Nat) : 0 ≤ scan 0 (s.take k) ∧ scan 0 (s.take k) ≤ 1099511627776 := by
  have hd := tick_digit h
  refine ⟨scan_up _ (fun c hc => hd c (List.mem_of_mem_take hc)) 0 (by omega), ?_⟩
  have h1 := scan_up (s.drop k) (fun c hc => hd c (List.mem_of_mem_drop hc)) (scan 0 (s.take k)) (scan_up _ (fun c hc => hd c (List.mem_of_mem_take hc)) 0 (by omega))
  rw [← scan_append, List.take_append_drop, (tick_scan h).1] at h1
  have := h.2.1
  omega
theorem tick_pos {s : List UInt8} {n : Int} (h : IsTick s n) : 0 < s.length := by
  obtain ⟨h0, h1, rfl⟩ := h
  unfold dec
  rw [if_neg (by omega)]
  exact decN_pos _

def hexTab : List UInt8 := [48, 49, 50, 51, 52, 53, 54, 55, 56, 57, 97, 98, 99, 100, 101, 102]
theorem idx_all : ∀ n : Fin 256, (Lib.indexByte hexTab n.val.toUInt8 = -1 ∧ ∀ d : Fin 16, hexd d.val ≠ n.val.toUInt8) ∨ (0 ≤ Lib.indexByte hexTab n.val.toUInt8 ∧ Lib.indexByte hexTab n.val.toUInt8 < 16 ∧ hexd (Lib.indexByte hexTab n.val.toUInt8).toNat = n.val.toUInt8) := by decide +kernel
theorem idx_spec (c : UInt8) : (Lib.indexByte hexTab c = -1 ∧ ∀ d, d < 16 → hexd d ≠ c) ∨ (0 ≤ Lib.indexByte hexTab c ∧ Lib.indexByte hexTab c < 16 ∧ hexd (Lib.indexByte hexTab c).toNat = c) := by
  have h := idx_all ⟨c.toNat, c.toNat_lt⟩
  have e : c.toNat.toUInt8 = c := by simp
  simp only [e] at h
  rcases h with ⟨h1, h2⟩ | h
  · exact .inl ⟨h1, fun d hd => h2 ⟨d, hd⟩⟩
  · exact .inr h

theorem list_one (s : ByteArray) (h : 0 < s.size) : ∃ t, s.data.toList = s[0] :: t := by
  have hl : 0 < s.data.toList.length := h
  match hs : s.data.toList, hl with
  | a :: t, _ =>
    have e0 : s[0] = s.data.toList[0] := rfl
    exact ⟨t, by simp [e0, hs]⟩
theorem list_two (s : ByteArray) (h : 1 < s.size) : ∃ u, s.data.toList = s[0] :: s[1] :: u := by
  have hl : 1 < s.data.toList.length := h
  match hs : s.data.toList, hl with
  | a :: b :: u, _ =>
    have e0 : s[0] = s.data.toList[0] := rfl
    have e1 : s[1] = s.data.toList[1] := rfl
    exact ⟨u, by simp [e0, e1, hs]⟩
theorem ne_byte {a : UInt8} {n : Nat} (h : ¬ (a.toNat : Int) = n) (hn : n < 256) : a ≠ n.toUInt8 := by
  intro e; subst e; apply h; simp; omega
theorem eq_byte {a : UInt8} {n : Nat} (h : (a.toNat : Int) = n) : a = n.toUInt8 := by
  have : a.toNat = n := by omega
  subst this; simp
theorem mean_plain (s : ByteArray) (h : 0 < s.size) (h0 : ¬ (s[0].toNat : Int) = 92) : mean s.data.toList = s[0].toNat := by
  obtain ⟨t, ht⟩ := list_one s h
  have : s[0] ≠ 92 := ne_byte (n := 92) h0 (by omega)
  rw [ht]; simp only [mean]; rw [if_pos this]
theorem mean_lone (s : ByteArray) (h : s.size = 1) : mean s.data.toList = s[0].toNat := by
  obtain ⟨t, ht⟩ := list_one s (by omega)
  have hl : s.data.toList.length = 1 := h
  rw [ht] at hl
  obtain rfl : t = [] := by simpa using hl
  rw [ht]; simp only [mean]
  split
  · rfl
  · rename_i h; simp at h; rw [h]; rfl
theorem mean_sign (s : ByteArray) (h : 1 < s.size) (h0 : (s[0].toNat : Int) = 92) : mean s.data.toList = if (s[1].toNat : Int) = 110 then 10 else if (s[1].toNat : Int) = 114 then 13 else if (s[1].toNat : Int) = 116 then 9 else if (s[1].toNat : Int) = 120 then (rhV ((s.data.toList.drop 2).take 2)).toNat else 92 := by
  obtain ⟨u, hu⟩ := list_two s h
  have e0 : s[0] = 92 := eq_byte (n := 92) h0
  have key : ∀ (n : Nat) (hn : n < 256), (s[1] = n.toUInt8) = ((s[1].toNat : Int) = n) := fun n hn => propext ⟨fun e => by rw [e]; simp; omega, fun e => eq_byte e⟩
  have k1 := key 110 (by omega); have k2 := key 114 (by omega); have k3 := key 116 (by omega); have k4 := key 120 (by omega)
  rw [hu, e0]
  simp only [mean, ne_eq, not_true_eq_false, if_false]
  have d : List.drop 2 ((92 : UInt8) :: s[1] :: u) = u := rfl
  rw [d]
  simp only [show (110 : UInt8) = (110 : Nat).toUInt8 from rfl, show (114 : UInt8) = (114 : Nat).toUInt8 from rfl, show (116 : UInt8) = (116 : Nat).toUInt8 from rfl, show (120 : UInt8) = (120 : Nat).toUInt8 from rfl, k1, k2, k3, k4]
  rfl
theorem size_list (s : ByteArray) : s.data.toList.length = s.size := rfl

end Go.Proofs.YtajfdachpdkbcaaGreatDoor.Digit
end

section
namespace Go.Proofs.YtajfdachpdkbcaaGreatDoor.Brk
open Go.Proofs.YtajfdachpdkbcaaGreatDoor.Digit

structure Op where
  k : Int
  s : List UInt8
  n : Int

/-- two decimal digits -/
def two (n : Nat) : List UInt8 := [hexd (n / 10), hexd (n % 10)]
theorem two_inj {m n : Nat} (hm : m ≤ 99) (hn : n ≤ 99) (h : two m = two n) : m = n := by
  unfold two at h
  have h1 := hexd_inj (by omega) (by omega) (List.cons.inj h).1
  have h2 := hexd_inj (by omega) (by omega) (List.cons.inj (List.cons.inj h).2).1
  omega
theorem pad_two {n : Nat} (h : n ≤ 99) : padI n 2 = two n := by
  rw [padI_some (by omega)]
  by_cases h9 : n < 10
  · rw [dec_lt (by omega) (by omega)]
    simp only [padL, two, Int.toNat_natCast, show n / 10 = 0 by omega, show n % 10 = n by omega]
    rfl
  · rw [dec_ge (by omega), dec_lt (by omega) (by omega)]
    simp only [padL, two, show ((n : Int) / 10).toNat = n / 10 by omega, show ((n : Int) % 10).toNat = n % 10 by omega]
    rfl
theorem dec_long {n : Nat} (h : 99 < n) : 3 ≤ (dec n).length := by
  have h1 := decN_pos (n / 10 / 10)
  unfold dec
  rw [if_neg (by omega), Int.toNat_natCast, decN_ge (by omega), decN_ge (by omega), List.length_append, List.length_append, List.length_singleton, List.length_singleton]
  omega
theorem pad_long {n : Nat} (h : 99 < n) : padI n 2 = dec n := by
  have := dec_long h
  rw [padI_some (by omega), padL, show (2 : Int).toNat - (dec (n : Int)).length = 0 by omega]
  rfl

open Classical in
/-- the number of two digits that are not both 0 -/
noncomputable def tk (l : List UInt8) : Nat := if h : ∃ n, 1 ≤ n ∧ n ≤ 99 ∧ two n = l then h.choose else 0
theorem tk_some {n : Nat} (h1 : 1 ≤ n) (h2 : n ≤ 99) : tk (two n) = n := by
  have g : ∃ m, 1 ≤ m ∧ m ≤ 99 ∧ two m = two n := ⟨n, h1, h2, rfl⟩
  rw [tk, dif_pos g]
  exact two_inj g.choose_spec.2.1 h2 g.choose_spec.2.2
theorem tk_none {l : List UInt8} (h : ¬ ∃ n, 1 ≤ n ∧ n ≤ 99 ∧ two n = l) : tk l = 0 := by rw [tk, dif_neg h]
theorem tk_is {l : List UInt8} (h : tk l ≠ 0) : 1 ≤ tk l ∧ tk l ≤ 99 ∧ two (tk l) = l := by
  by_cases g : ∃ n, 1 ≤ n ∧ n ≤ 99 ∧ two n = l
  · obtain ⟨n, h1, h2, rfl⟩ := g
    rw [tk_some h1 h2]; exact ⟨h1, h2, rfl⟩
  · exact absurd (tk_none g) h
theorem rh_is {l : List UInt8} (h : rhC l = 0) : ∃ c : Nat, c < 256 ∧ hexS c = l ∧ rhV l = c := by
  by_cases g : ∃ c : Nat, c < 256 ∧ hexS c = l
  · obtain ⟨c, hc, rfl⟩ := g
    exact ⟨c, hc, rfl, (rh_some hc).1⟩
  · rw [(rh_none g).2] at h; omega

/-- no step -/
def no : Op × Nat := (⟨0, [], 0⟩, 0)
/-- the step behind a backslash -/
noncomputable def esc (d : UInt8) (r : List UInt8) : Op × Nat :=
  if d = 92 then (⟨1, [92], 0⟩, 2) else if d = 114 then (⟨1, [13], 0⟩, 2) else if d = 110 then (⟨1, [10], 0⟩, 2) else if d = 116 then (⟨1, [9], 0⟩, 2)
  else if d = 100 then (⟨2, [], 1⟩, 2) else if d = 122 then (⟨3, [], 0⟩, 2)
  else if d = 120 then (if rhC (r.take 2) = 0 then (⟨1, [(rhV (r.take 2)).toNat.toUInt8], 0⟩, 4) else no)
  else if d = 119 then (if tk (r.take 2) = 0 then no else (⟨2, [], tk (r.take 2)⟩, 4)) else no
/-- the step that a text begins with, and how many bytes it has; 0: none -/
noncomputable def one : List UInt8 → Op × Nat
  | [] => no
  | [c] => if 32 ≤ c.toNat ∧ c.toNat ≤ 126 ∧ c ≠ 92 then (⟨1, [c], 0⟩, 1) else no
  | c :: d :: r => if c = 92 then esc d r else if 32 ≤ c.toNat ∧ c.toNat ≤ 126 then (⟨1, [c], 0⟩, 1) else no
theorem one_nil : one [] = no := rfl
theorem one_plain {c : UInt8} (t : List UInt8) (h1 : 32 ≤ c.toNat) (h2 : c.toNat ≤ 126) (h3 : c ≠ 92) : one (c :: t) = (⟨1, [c], 0⟩, 1) := by
  cases t with
  | nil => rw [one, if_pos ⟨h1, h2, h3⟩]
  | cons d r => rw [one, if_neg h3, if_pos ⟨h1, h2⟩]
theorem one_bad {c : UInt8} (t : List UInt8) (h : ¬ (32 ≤ c.toNat ∧ c.toNat ≤ 126)) (h3 : c ≠ 92) : one (c :: t) = no := by
  cases t with
  | nil => rw [one, if_neg (fun g => h ⟨g.1, g.2.1⟩)]
  | cons d r => rw [one, if_neg h3, if_neg h]
theorem one_lone : one [92] = no := by rw [one, if_neg (by simp)]
theorem one_esc (d : UInt8) (r : List UInt8) : one (92 :: d :: r) = esc d r := by rw [one, if_pos rfl]

/-- a step of one sign -/
def St (x : Op) : Prop := (∃ c, x = ⟨1, [c], 0⟩) ∨ (∃ n : Nat, 1 ≤ n ∧ n ≤ 99 ∧ x = ⟨2, [], n⟩) ∨ x = ⟨3, [], 0⟩
theorem esc_st (d : UInt8) (r : List UInt8) : esc d r = no ∨ (St (esc d r).1 ∧ 1 ≤ (esc d r).2 ∧ (esc d r).2 ≤ r.length + 2) := by
  unfold esc
  by_cases e1 : d = 92
  · rw [if_pos e1]; exact .inr ⟨.inl ⟨_, rfl⟩, by simp, by simp⟩
  rw [if_neg e1]
  by_cases e2 : d = 114
  · rw [if_pos e2]; exact .inr ⟨.inl ⟨_, rfl⟩, by simp, by simp⟩
  rw [if_neg e2]
  by_cases e3 : d = 110
  · rw [if_pos e3]; exact .inr ⟨.inl ⟨_, rfl⟩, by simp, by simp⟩
  rw [if_neg e3]
  by_cases e4 : d = 116
  · rw [if_pos e4]; exact .inr ⟨.inl ⟨_, rfl⟩, by simp, by simp⟩
  rw [if_neg e4]
  by_cases e5 : d = 100
  · rw [if_pos e5]; exact .inr ⟨.inr (.inl ⟨1, by omega, by omega, rfl⟩), by simp, by simp⟩
  rw [if_neg e5]
  by_cases e6 : d = 122
  · rw [if_pos e6]; exact .inr ⟨.inr (.inr rfl), by simp, by simp⟩
  rw [if_neg e6]
  by_cases e7 : d = 120
  · rw [if_pos e7]
    by_cases h : rhC (r.take 2) = 0
    · rw [if_pos h]
      obtain ⟨c, _, e, _⟩ := rh_is h
      have hl := congrArg List.length e
      rw [List.length_take] at hl
      refine .inr ⟨.inl ⟨_, rfl⟩, by simp, ?_⟩
      simp [hexS] at hl ⊢; omega
    · rw [if_neg h]; exact .inl rfl
  rw [if_neg e7]
  by_cases e8 : d = 119
  · rw [if_pos e8]
    by_cases h : tk (r.take 2) = 0
    · rw [if_pos h]; exact .inl rfl
    · rw [if_neg h]
      obtain ⟨h1, h2, e⟩ := tk_is h
      have hl := congrArg List.length e
      rw [List.length_take] at hl
      refine .inr ⟨.inr (.inl ⟨_, h1, h2, rfl⟩), by simp, ?_⟩
      simp [two] at hl ⊢; omega
  · rw [if_neg e8]; exact .inl rfl
theorem one_st (l : List UInt8) : one l = no ∨ (St (one l).1 ∧ 1 ≤ (one l).2 ∧ (one l).2 ≤ l.length) := by
  match l with
  | [] => exact .inl rfl
  | [c] =>
    rw [one]
    by_cases h : 32 ≤ c.toNat ∧ c.toNat ≤ 126 ∧ c ≠ 92
    · rw [if_pos h]; exact .inr ⟨.inl ⟨_, rfl⟩, by simp, by simp⟩
    · rw [if_neg h]; exact .inl rfl
  | c :: d :: r =>
    rw [one]
    by_cases h : c = 92
    · rw [if_pos h]; simpa using esc_st d r
    · rw [if_neg h]
      by_cases h : 32 ≤ c.toNat ∧ c.toNat ≤ 126
      · rw [if_pos h]; exact .inr ⟨.inl ⟨_, rfl⟩, by simp, by simp⟩
      · rw [if_neg h]; exact .inl rfl
theorem one_no {l : List UInt8} (h : (one l).2 = 0) : one l = no := by
  rcases one_st l with h1 | ⟨_, h1, _⟩
  · exact h1
  · omega
theorem one_yes {l : List UInt8} (h : (one l).2 ≠ 0) : St (one l).1 ∧ 1 ≤ (one l).2 ∧ (one l).2 ≤ l.length := by
  rcases one_st l with h1 | h1
  · rw [h1] at h; exact absurd rfl h
  · exact h1

/-- two steps that are to be one -/
def isOne (x y : Op) : Bool := x.k == y.k && x.k != 3
def glue (x y : Op) : Op := ⟨x.k, x.s ++ y.s, x.n + y.n⟩
/-- a step put behind others -/
def bhd (acc : List Op) (x : Op) : List Op :=
  match acc.getLast? with
  | none => [x]
  | some y => if isOne y x = true then acc.dropLast ++ [glue y x] else acc ++ [x]
theorem bhd_nil (x : Op) : bhd [] x = [x] := rfl
theorem bhd_one {L : List Op} {y x : Op} (h : isOne y x = true) : bhd (L ++ [y]) x = L ++ [glue y x] := by
  unfold bhd
  rw [List.getLast?_concat]
  show (if isOne y x = true then _ else _) = _
  rw [if_pos h, List.dropLast_concat]
theorem bhd_two {L : List Op} {y x : Op} (h : isOne y x = false) : bhd (L ++ [y]) x = L ++ [y] ++ [x] := by
  unfold bhd
  rw [List.getLast?_concat]
  show (if isOne y x = true then _ else _) = _
  rw [if_neg (by simp [h])]
theorem snoc_cases {α : Type} (l : List α) : l = [] ∨ ∃ L y, l = L ++ [y] := by
  by_cases h : l = []
  · exact .inl h
  · exact .inr ⟨_, _, (List.dropLast_concat_getLast h).symm⟩

def endO (acc : List Op) : List UInt8 → Option (List Op)
  | [] => some acc
  | _ :: _ => none
/-- the steps of a text, behind others -/
noncomputable def rdF (acc : List Op) (l : List UInt8) : Option (List Op) :=
  if _h : (one l).2 = 0 then endO acc l else rdF (bhd acc (one l).1) (l.drop (one l).2)
termination_by l.length
decreasing_by
  have := one_yes _h
  rw [List.length_drop]; omega
theorem rdF_nil (acc : List Op) : rdF acc [] = some acc := by rw [rdF, dif_pos (show (one []).2 = 0 from rfl)]; rfl
theorem rdF_no {acc : List Op} {l : List UInt8} (h0 : l ≠ []) (h : (one l).2 = 0) : rdF acc l = none := by
  rw [rdF, dif_pos h]
  cases l with
  | nil => exact absurd rfl h0
  | cons a t => rfl
theorem rdF_yes {acc : List Op} {l : List UInt8} (h : (one l).2 ≠ 0) : rdF acc l = rdF (bhd acc (one l).1) (l.drop (one l).2) := by
  rw [rdF, dif_neg h]
theorem rdF_step {acc : List Op} {t r : List UInt8} {x : Op} (h : one (t ++ r) = (x, t.length)) (ht : t ≠ []) : rdF acc (t ++ r) = rdF (bhd acc x) r := by
  have := List.length_pos_iff.2 ht
  rw [rdF_yes (by rw [h]; show t.length ≠ 0; omega), h]
  simp

/-- Read's answer -/
noncomputable def rdO (l : List UInt8) : Option (List Op) := rdF [] l
def oC : Option (List Op) → Int
  | some _ => 0
  | none => 3
def oV : Option (List Op) → List Op
  | some l => l
  | none => []
noncomputable def rC (l : List UInt8) : Int := if 255 < l.length then 5 else oC (rdF [] l)
noncomputable def rV (l : List UInt8) : List Op := if 255 < l.length then [] else oV (rdF [] l)
theorem r_big {l : List UInt8} (h : 255 < l.length) : rC l = 5 ∧ rV l = [] := by rw [rC, rV, if_pos h, if_pos h]; exact ⟨rfl, rfl⟩
theorem r_some {l : List UInt8} {r : List Op} (h : ¬ 255 < l.length) (hr : rdF [] l = some r) : rC l = 0 ∧ rV l = r := by rw [rC, rV, if_neg h, if_neg h, hr]; exact ⟨rfl, rfl⟩
theorem r_none {l : List UInt8} (h : ¬ 255 < l.length) (hr : rdF [] l = none) : rC l = 3 ∧ rV l = [] := by rw [rC, rV, if_neg h, if_neg h, hr]; exact ⟨rfl, rfl⟩

/-! ### how much they are -/
def cst : List Op → Int
  | [] => 0
  | x :: l => x.n + cst l
def byt : List Op → List UInt8
  | [] => []
  | x :: l => x.s ++ byt l
theorem cst_app (l m : List Op) : cst (l ++ m) = cst l + cst m := by
  induction l with
  | nil => simp [cst]
  | cons x l ih => simp only [List.cons_append, cst, ih]; omega
theorem byt_app (l m : List Op) : byt (l ++ m) = byt l ++ byt m := by
  induction l with
  | nil => simp [byt]
  | cons x l ih => simp only [List.cons_append, byt, ih, List.append_assoc]
theorem cst_one (x : Op) : cst [x] = x.n := by simp [cst]
theorem byt_one (x : Op) : byt [x] = x.s := by simp [byt]
/-- a step that may be -/
def Ok (x : Op) : Prop := (x.k = 1 ∧ x.s ≠ [] ∧ x.n = 0) ∨ (x.k = 2 ∧ x.s = [] ∧ 1 ≤ x.n) ∨ (x.k = 3 ∧ x.s = [] ∧ x.n = 0)
theorem St.ok {x : Op} (h : St x) : Ok x := by
  rcases h with ⟨c, rfl⟩ | ⟨n, h1, _, rfl⟩ | rfl
  · exact .inl ⟨rfl, by simp, rfl⟩
  · exact .inr (.inl ⟨rfl, rfl, by show (1 : Int) ≤ (n : Int); omega⟩)
  · exact .inr (.inr ⟨rfl, rfl, rfl⟩)
theorem Ok.pos {x : Op} (h : Ok x) : 0 ≤ x.n := by rcases h with ⟨_, _, h⟩ | ⟨_, _, h⟩ | ⟨_, _, h⟩ <;> omega
theorem Ok.glue {x y : Op} (h : Ok x) (g : Ok y) (e : isOne x y = true) : Ok (glue x y) := by
  simp only [isOne, Bool.and_eq_true, beq_iff_eq, bne_iff_ne] at e
  obtain ⟨e1, e2⟩ := e
  rcases h with ⟨a, b, c⟩ | ⟨a, b, c⟩ | ⟨a, b, c⟩
  · rcases g with ⟨a', b', c'⟩ | ⟨a', _⟩ | ⟨a', _⟩
    · exact .inl ⟨a, by simp [Brk.glue, b], by show x.n + y.n = 0; omega⟩
    · omega
    · omega
  · rcases g with ⟨a', b', c'⟩ | ⟨a', b', c'⟩ | ⟨a', _⟩
    · omega
    · exact .inr (.inl ⟨a, by simp [Brk.glue, b, b'], by show 1 ≤ x.n + y.n; omega⟩)
    · omega
  · omega
/-- how much was read out of so many bytes -/
structure Bd (acc : List Op) (c : Nat) : Prop where
  len : acc.length ≤ c
  byt : (byt acc).length ≤ c
  cst : cst acc ≤ 99 * c
  ok : ∀ x ∈ acc, Ok x
theorem St.cst {x : Op} (h : St x) : x.n ≤ 99 ∧ x.s.length ≤ 1 := by
  rcases h with ⟨c, rfl⟩ | ⟨n, _, h2, rfl⟩ | rfl
  · exact ⟨by show (0 : Int) ≤ 99; omega, by simp⟩
  · exact ⟨by show (n : Int) ≤ 99; omega, by simp⟩
  · exact ⟨by show (0 : Int) ≤ 99; omega, by simp⟩
theorem Bd.nil : Bd [] 0 := ⟨by simp, by simp [Brk.byt], by simp [Brk.cst], fun _ h => by simp at h⟩
theorem Bd.mono {acc : List Op} {c d : Nat} (h : Bd acc c) (hd : c ≤ d) : Bd acc d := ⟨Nat.le_trans h.len hd, Nat.le_trans h.byt hd, by have := h.cst; omega, h.ok⟩
theorem Bd.step {acc : List Op} {c m : Nat} {x : Op} (h : Bd acc c) (hx : St x) (hm : 1 ≤ m) : Bd (bhd acc x) (c + m) := by
  obtain ⟨x1, x2⟩ := hx.cst
  obtain ⟨h1, h2, h3, h4⟩ := h
  rcases snoc_cases acc with rfl | ⟨L, y, rfl⟩
  · rw [bhd_nil]
    exact ⟨by simp; omega, by rw [byt_one]; omega, by rw [cst_one]; omega, fun z hz => by rw [List.mem_singleton.1 hz]; exact hx.ok⟩
  · rw [List.length_append, List.length_singleton] at h1
    rw [byt_app, byt_one, List.length_append] at h2
    rw [cst_app, cst_one] at h3
    cases e : isOne y x with
    | true =>
      rw [bhd_one e]
      refine ⟨by rw [List.length_append, List.length_singleton]; omega, ?_, ?_, fun z hz => ?_⟩
      · rw [byt_app, byt_one, List.length_append]
        show (Brk.byt L).length + (y.s ++ x.s).length ≤ _
        rw [List.length_append]; omega
      · rw [cst_app, cst_one]
        show Brk.cst L + (y.n + x.n) ≤ _
        omega
      · rcases List.mem_append.1 hz with hz | hz
        · exact h4 z (List.mem_append.2 (.inl hz))
        · rw [List.mem_singleton.1 hz]
          exact (h4 y (List.mem_append.2 (.inr (List.mem_singleton.2 rfl)))).glue hx.ok e
    | false =>
      rw [bhd_two e]
      refine ⟨by simp only [List.length_append, List.length_singleton]; omega, ?_, ?_, fun z hz => ?_⟩
      · rw [byt_app, byt_app, byt_one, byt_one, List.length_append, List.length_append]; omega
      · rw [cst_app, cst_app, cst_one, cst_one]; omega
      · rcases List.mem_append.1 hz with hz | hz
        · exact h4 z hz
        · rw [List.mem_singleton.1 hz]; exact hx.ok
theorem rd_bd : ∀ (k : Nat) (l : List UInt8) (acc r : List Op) (c : Nat), l.length = k → Bd acc c → rdF acc l = some r → Bd r (c + l.length) := by
  intro k
  induction k using Nat.strongRecOn with
  | ind k ih =>
    intro l acc r c hk h hr
    by_cases h0 : (one l).2 = 0
    · cases l with
      | nil => rw [rdF_nil] at hr; cases hr; exact h.mono (by omega)
      | cons a t => rw [rdF_no (by simp) h0] at hr; cases hr
    · obtain ⟨s1, s2, s3⟩ := one_yes h0
      rw [rdF_yes h0] at hr
      have := ih (l.drop (one l).2).length (by rw [List.length_drop]; omega) (l.drop (one l).2) _ r (c + (one l).2) rfl (h.step s1 s2) hr
      rw [List.length_drop] at this
      exact this.mono (by omega)
theorem r_bd (l : List UInt8) : Bd (rV l) l.length := by
  by_cases h : 255 < l.length
  · rw [(r_big h).2]; exact Bd.nil.mono (Nat.zero_le _)
  · cases hr : rdF [] l with
    | none => rw [(r_none h hr).2]; exact Bd.nil.mono (Nat.zero_le _)
    | some r =>
      rw [(r_some h hr).2]
      have := rd_bd _ l [] r 0 rfl Bd.nil hr
      rwa [Nat.zero_add] at this

/-! ### steps that may stand so -/
def okAt (l : List Op) (i : Nat) : Prop := ∃ x, l[i]? = some x ∧ Ok x ∧ (0 < i → ∃ y, l[i - 1]? = some y ∧ isOne y x = false)
def Good (l : List Op) : Prop := ∀ i, i < l.length → okAt l i
theorem good_nil : Good [] := fun i h => absurd h (by simp)
theorem good_snoc {l : List Op} {x : Op} (h : Good l) (hx : Ok x) (hy : ∀ L y, l = L ++ [y] → isOne y x = false) : Good (l ++ [x]) := by
  intro i hi
  rw [List.length_append, List.length_singleton] at hi
  by_cases hlt : i < l.length
  · obtain ⟨z, e, ho, hp⟩ := h i hlt
    refine ⟨z, by rw [List.getElem?_append_left hlt]; exact e, ho, fun h0 => ?_⟩
    obtain ⟨y, e2, hq⟩ := hp h0
    exact ⟨y, by rw [List.getElem?_append_left (by omega)]; exact e2, hq⟩
  · obtain rfl : i = l.length := by omega
    refine ⟨x, by simp, hx, fun h0 => ?_⟩
    rcases snoc_cases l with rfl | ⟨L, y, rfl⟩
    · simp at h0
    · refine ⟨y, ?_, hy L y rfl⟩
      rw [List.getElem?_append_left (by omega), List.length_append, List.length_singleton, Nat.add_sub_cancel]
      simp
theorem good_left {l m : List Op} (h : Good (l ++ m)) : Good l := by
  intro i hi
  obtain ⟨x, e, ho, hp⟩ := h i (by rw [List.length_append]; omega)
  rw [List.getElem?_append_left hi] at e
  refine ⟨x, e, ho, fun h0 => ?_⟩
  obtain ⟨y, e2, hq⟩ := hp h0
  rw [List.getElem?_append_left (by omega)] at e2
  exact ⟨y, e2, hq⟩
theorem good_mid {l m : List Op} {x : Op} (h : Good (l ++ x :: m)) : Ok x ∧ ∀ L y, l = L ++ [y] → isOne y x = false := by
  obtain ⟨z, e, ho, hp⟩ := h l.length (by simp)
  have e' : z = x := by
    rw [List.getElem?_append_right (by omega), Nat.sub_self] at e
    simpa using e.symm
  subst e'
  refine ⟨ho, fun L y hL => ?_⟩
  subst hL
  obtain ⟨y', e2, hq⟩ := hp (by simp)
  rw [List.getElem?_append_left (by simp), List.length_append, List.length_singleton, Nat.add_sub_cancel] at e2
  have : y' = y := by simpa using e2.symm
  rw [← this]; exact hq
theorem good_bhd {acc : List Op} {x : Op} (h : Good acc) (hx : St x) : Good (bhd acc x) := by
  rcases snoc_cases acc with rfl | ⟨L, y, rfl⟩
  · rw [bhd_nil]; exact good_snoc good_nil hx.ok fun L y e => by simp at e
  · cases e : isOne y x with
    | true =>
      rw [bhd_one e]
      obtain ⟨hy, hp⟩ := good_mid (m := []) h
      refine good_snoc (good_left h) (hy.glue hx.ok e) fun M z hM => ?_
      have := hp M z hM
      simpa [isOne, glue] using this
    | false =>
      rw [bhd_two e]
      refine good_snoc h hx.ok fun M z hM => ?_
      have := List.append_inj_right' hM rfl
      rw [← (List.cons.inj this).1]; exact e
theorem rd_good : ∀ (k : Nat) (l : List UInt8) (acc r : List Op), l.length = k → Good acc → rdF acc l = some r → Good r := by
  intro k
  induction k using Nat.strongRecOn with
  | ind k ih =>
    intro l acc r hk h hr
    by_cases h0 : (one l).2 = 0
    · cases l with
      | nil => rw [rdF_nil] at hr; cases hr; exact h
      | cons a t => rw [rdF_no (by simp) h0] at hr; cases hr
    · obtain ⟨s1, s2, s3⟩ := one_yes h0
      rw [rdF_yes h0] at hr
      exact ih (l.drop (one l).2).length (by rw [List.length_drop]; omega) (l.drop (one l).2) _ r rfl (good_bhd h s1) hr
theorem r_good (l : List UInt8) : Good (rV l) := by
  by_cases h : 255 < l.length
  · rw [(r_big h).2]; exact good_nil
  · cases hr : rdF [] l with
    | none => rw [(r_none h hr).2]; exact good_nil
    | some r => rw [(r_some h hr).2]; exact rd_good _ l [] r rfl good_nil hr

/-! ### steps as text -/
def wsg (n : Nat) : List UInt8 := if n = 1 then [92, 100] else 92 :: 119 :: two n
def w99 : List UInt8 := [92, 119, 57, 57]
def wtx (n : Nat) : List UInt8 := if _h : n ≤ 99 then wsg n else w99 ++ wtx (n - 99)
termination_by n
theorem wtx_le {n : Nat} (h : n ≤ 99) : wtx n = wsg n := by rw [wtx, dif_pos h]
theorem wtx_gt {n : Nat} (h : ¬ n ≤ 99) : wtx n = w99 ++ wtx (n - 99) := by rw [wtx, dif_neg h]
theorem wsg_len (n : Nat) : 2 ≤ (wsg n).length ∧ (wsg n).length ≤ 4 := by
  unfold wsg; split <;> simp [two]
theorem w99_is : wsg 99 = w99 := by decide
def reps (f : Nat) : List UInt8 := (List.replicate f w99).flatten
theorem reps_succ (f : Nat) : reps (f + 1) = w99 ++ reps f := by simp [reps, List.replicate_succ]
theorem reps_snoc (f : Nat) : reps (f + 1) = reps f ++ w99 := by
  induction f with
  | zero => simp [reps]
  | succ f ih => rw [reps_succ (f + 1), reps_succ f, List.append_assoc, ← ih, reps_succ]
theorem reps_len (f : Nat) : (reps f).length = 4 * f := by
  induction f with
  | zero => rfl
  | succ f ih => rw [reps_succ, List.length_append, ih]; simp [w99]; omega
theorem wtx_reps (f k : Nat) (h1 : 1 ≤ k) : wtx (99 * f + k) = reps f ++ wtx k := by
  induction f with
  | zero => simp [reps]
  | succ f ih =>
    rw [wtx_gt (by omega), show 99 * (f + 1) + k - 99 = 99 * f + k by omega, ih, reps_succ, List.append_assoc]
theorem wtx_long {n : Nat} (h : 6336 < n) : 255 < (wtx n).length := by
  have := wtx_reps 64 (n - 6336) (by omega)
  rw [show 99 * 64 + (n - 6336) = n by omega] at this
  rw [this, List.length_append, reps_len]; omega
def tx (x : Op) : List UInt8 := if x.k = 1 then shw x.s else if x.k = 2 then wtx x.n.toNat else [92, 122]
def txt (l : List Op) : List UInt8 := l.flatMap tx
theorem txt_cons (x : Op) (l : List Op) : txt (x :: l) = tx x ++ txt l := by simp [txt]
theorem txt_app (l m : List Op) : txt (l ++ m) = txt l ++ txt m := by simp [txt]
theorem txt_one (x : Op) : txt [x] = tx x := by simp [txt]
theorem shw_ge (l : List UInt8) : l.length ≤ (shw l).length := by
  induction l with
  | nil => simp
  | cons c l ih => rw [shw_cons, List.length_append, List.length_cons]; have := sgn_len c.toNat; omega

/-- the same, as far as it may matter -/
def Near (T t : List UInt8) : Prop := T = t ∨ (255 < T.length ∧ 255 < t.length)
theorem Near.refl (t : List UInt8) : Near t t := .inl rfl
theorem Near.app {T t U u : List UInt8} (h : Near T t) (g : Near U u) : Near (T ++ U) (t ++ u) := by
  rcases h with rfl | ⟨h1, h2⟩
  · rcases g with rfl | ⟨g1, g2⟩
    · exact .inl rfl
    · exact .inr ⟨by rw [List.length_append]; omega, by rw [List.length_append]; omega⟩
  · exact .inr ⟨by rw [List.length_append]; omega, by rw [List.length_append]; omega⟩
theorem Near.big {T t : List UInt8} (h : Near T t) (U : List UInt8) (ht : 255 < t.length) : Near (T ++ U) t := by
  rcases h with rfl | ⟨h1, h2⟩
  · exact .inr ⟨by rw [List.length_append]; omega, ht⟩
  · exact .inr ⟨by rw [List.length_append]; omega, h2⟩
theorem Near.fit {T t : List UInt8} (h : Near T t) (ht : ¬ 255 < t.length) : T = t := by
  rcases h with h | ⟨_, h⟩
  · exact h
  · exact absurd h ht
theorem Near.not {T t : List UInt8} (h : Near T t) (ht : 255 < t.length) : 255 < T.length := by
  rcases h with rfl | ⟨h, _⟩
  · exact ht
  · exact h
theorem near_show (l : List UInt8) : Near (shw l) (shw (l.take 256)) := by
  by_cases h : l.length ≤ 256
  · rw [List.take_of_length_le h]; exact .inl rfl
  · have h1 := shw_ge l
    have h2 := shw_ge (l.take 256)
    rw [List.length_take] at h2
    exact .inr ⟨by omega, by omega⟩

open Classical in
/-- Put's answer -/
noncomputable def pC (l : List Op) : Int := if Good l then (if 255 < (txt l).length then 5 else 0) else 1
open Classical in
noncomputable def pV (l : List Op) : List UInt8 := if Good l then (if 255 < (txt l).length then [] else txt l) else []
theorem p_bad {l : List Op} (h : ¬ Good l) : pC l = 1 ∧ pV l = [] := by rw [pC, pV, if_neg h, if_neg h]; exact ⟨rfl, rfl⟩
theorem p_big {l : List Op} (h : Good l) (hl : 255 < (txt l).length) : pC l = 5 ∧ pV l = [] := by rw [pC, pV, if_pos h, if_pos h, if_pos hl, if_pos hl]; exact ⟨rfl, rfl⟩
theorem p_fit {l : List Op} (h : Good l) (hl : ¬ 255 < (txt l).length) : pC l = 0 ∧ pV l = txt l := by rw [pC, pV, if_pos h, if_pos h, if_neg hl, if_neg hl]; exact ⟨rfl, rfl⟩

/-! ### what is put is read -/
set_option maxRecDepth 100000 in
theorem one_sgn (c : UInt8) (r : List UInt8) : one (sgn c.toNat ++ r) = (⟨1, [c], 0⟩, (sgn c.toNat).length) := by
  have back : ∀ n : Nat, c.toNat = n → c = n.toUInt8 := fun n e => by rw [← e]; simp
  by_cases e1 : c.toNat = 92
  · have := back 92 e1; subst this; exact one_esc 92 r
  by_cases e2 : c.toNat = 10
  · have := back 10 e2; subst this; exact one_esc 110 r
  by_cases e3 : c.toNat = 13
  · have := back 13 e3; subst this; exact one_esc 114 r
  by_cases e4 : c.toNat = 9
  · have := back 9 e4; subst this; exact one_esc 116 r
  rw [sgn_other e1 e2 e3 e4]
  by_cases h : c.toNat < 32 ∨ 126 < c.toNat
  · rw [if_pos h]
    show one (92 :: 120 :: (hexS c.toNat ++ r)) = _
    have e : (hexS c.toNat ++ r).take 2 = hexS c.toNat := by simp [hexS]
    obtain ⟨h1, h2⟩ := rh_some c.toNat_lt
    have ec : esc 120 (hexS c.toNat ++ r) = if rhC ((hexS c.toNat ++ r).take 2) = 0 then (⟨1, [(rhV ((hexS c.toNat ++ r).take 2)).toNat.toUInt8], 0⟩, 4) else no := rfl
    rw [one_esc, ec, e, h1, h2, if_pos rfl]
    simp [hexS]
  · rw [if_neg h]
    have : c.toNat.toUInt8 = c := by simp
    rw [this]
    exact one_plain r (by omega) (by omega) (fun e => e1 (by rw [e]; rfl))
theorem one_wsg {n : Nat} (h1 : 1 ≤ n) (h2 : n ≤ 99) (r : List UInt8) : one (wsg n ++ r) = (⟨2, [], n⟩, (wsg n).length) := by
  by_cases e : n = 1
  · subst e; exact one_esc 100 r
  · have ew : wsg n = 92 :: 119 :: two n := if_neg e
    rw [ew]
    show one (92 :: 119 :: (two n ++ r)) = _
    have et : (two n ++ r).take 2 = two n := by simp [two]
    have ec : esc 119 (two n ++ r) = if tk ((two n ++ r).take 2) = 0 then no else (⟨2, [], tk ((two n ++ r).take 2)⟩, 4) := rfl
    rw [one_esc, ec, et, tk_some h1 h2, if_neg (by omega)]
    simp [two]
theorem one_brk (r : List UInt8) : one ([92, 122] ++ r) = (⟨3, [], 0⟩, 2) := one_esc 122 r
theorem sgn_ne (n : Nat) : sgn n ≠ [] := fun e => by have := (sgn_len n).1; rw [e] at this; simp at this
theorem wsg_ne (n : Nat) : wsg n ≠ [] := fun e => by have := (wsg_len n).1; rw [e] at this; simp at this
theorem send_more (cs : List UInt8) : ∀ (acc : List Op) (p r : List UInt8), rdF (acc ++ [⟨1, p, 0⟩]) (shw cs ++ r) = rdF (acc ++ [⟨1, p ++ cs, 0⟩]) r := by
  induction cs with
  | nil => intro acc p r; simp [shw]
  | cons c cs ih =>
    intro acc p r
    rw [shw_cons, List.append_assoc, rdF_step (one_sgn c _) (sgn_ne _), bhd_one (by rfl)]
    show rdF (acc ++ [⟨1, p ++ [c], 0⟩]) _ = _
    rw [ih, List.append_assoc]; rfl
theorem wait_more : ∀ (k N : Nat), N = k → 1 ≤ N → ∀ (acc : List Op) (m : Int) (r : List UInt8), rdF (acc ++ [⟨2, [], m⟩]) (wtx N ++ r) = rdF (acc ++ [⟨2, [], m + N⟩]) r := by
  intro k
  induction k using Nat.strongRecOn with
  | ind k ih =>
    intro N hk h1 acc m r
    by_cases h : N ≤ 99
    · rw [wtx_le h, rdF_step (one_wsg h1 h r) (wsg_ne _), bhd_one (by rfl)]; rfl
    · rw [wtx_gt h, List.append_assoc, ← w99_is, rdF_step (one_wsg (by omega) (by omega) _) (wsg_ne _), bhd_one (by rfl)]
      show rdF (acc ++ [⟨2, [], m + 99⟩]) _ = _
      rw [ih (N - 99) (by omega) (N - 99) rfl (by omega)]
      rw [show m + 99 + ((N - 99 : Nat) : Int) = m + (N : Int) by omega]
theorem bhd_new {acc : List Op} {x : Op} (h : ∀ L y, acc = L ++ [y] → isOne y x = false) : bhd acc x = acc ++ [x] := by
  rcases snoc_cases acc with rfl | ⟨L, y, rfl⟩
  · rfl
  · exact bhd_two (h L y rfl)
theorem rd_one {acc : List Op} {x : Op} (hx : Ok x) (h : ∀ L y, acc = L ++ [y] → isOne y x = false) (r : List UInt8) : rdF acc (tx x ++ r) = rdF (acc ++ [x]) r := by
  obtain ⟨k, s, n⟩ := x
  rcases hx with ⟨a, b, c⟩ | ⟨a, b, c⟩ | ⟨a, b, c⟩
  · simp only at a b c
    subst a c
    cases s with
    | nil => exact absurd rfl b
    | cons c cs =>
      show rdF acc (shw (c :: cs) ++ r) = _
      rw [shw_cons, List.append_assoc, rdF_step (one_sgn c _) (sgn_ne _), bhd_new (x := ⟨1, [c], 0⟩) (fun L y e => h L y e), send_more]; rfl
  · simp only at a b c
    subst a b
    obtain ⟨N, rfl⟩ : ∃ N : Nat, n = N := ⟨n.toNat, by omega⟩
    show rdF acc (wtx N ++ r) = _
    by_cases h9 : N ≤ 99
    · rw [wtx_le h9, rdF_step (one_wsg (by omega) h9 r) (wsg_ne _), bhd_new (fun L y e => h L y e)]
    · rw [wtx_gt h9, List.append_assoc, ← w99_is, rdF_step (one_wsg (by omega) (by omega) _) (wsg_ne _), bhd_new (x := ⟨2, [], (99 : Nat)⟩) (fun L y e => h L y e), wait_more _ _ rfl (by omega)]
      rw [show ((99 : Nat) : Int) + ((N - 99 : Nat) : Int) = (N : Int) by omega]
  · simp only at a b c
    subst a b c
    show rdF acc ([92, 122] ++ r) = _
    rw [rdF_step (one_brk r) (by simp), bhd_new (fun L y e => h L y e)]
theorem rd_txt (l : List Op) : ∀ (acc : List Op) (r : List UInt8), Good (acc ++ l) → rdF acc (txt l ++ r) = rdF (acc ++ l) r := by
  induction l with
  | nil => intro acc r _; simp [txt]
  | cons x l ih =>
    intro acc r h
    obtain ⟨hx, hp⟩ := good_mid h
    rw [txt_cons, List.append_assoc, rd_one hx hp, ih _ _ (by simpa using h)]
    simp
theorem read_put {l : List Op} (h : Good l) (hl : ¬ 255 < (txt l).length) : rC (txt l) = 0 ∧ rV (txt l) = l := by
  refine r_some hl ?_
  have := rd_txt l [] [] (by simpa using h)
  simpa [rdF_nil] using this
end Go.Proofs.YtajfdachpdkbcaaGreatDoor.Brk
end

section
namespace Go.Proofs.YtajfdachpdkbcaaGreatDoor.Word

def ltr (n : Nat) : Bool := decide (97 ≤ n ∧ n ≤ 122 ∨ 65 ≤ n ∧ n ≤ 90)
def inn (n : Nat) : Bool := ltr n || decide (48 ≤ n ∧ n ≤ 57 ∨ n = 45 ∨ n = 95 ∨ n = 46)
def pat (n : Nat) : Bool := inn n || decide (n = 42 ∨ n = 63)
def sized (l : List UInt8) : Bool := decide (1 ≤ l.length ∧ l.length ≤ 32)
def allP (p : Nat → Bool) (l : List UInt8) : Bool := l.all fun c => p c.toNat
def headP (p : Nat → Bool) : List UInt8 → Bool
  | [] => true
  | c :: _ => p c.toNat
def isName (l : List UInt8) : Bool := sized l && (headP ltr l && allP inn l)
def isPat (l : List UInt8) : Bool := sized l && allP pat l

theorem allP_nil (p : Nat → Bool) : allP p [] = true := rfl
theorem allP_snoc (p : Nat → Bool) (l : List UInt8) (c : UInt8) : allP p (l ++ [c]) = (allP p l && p c.toNat) := by simp [allP]
theorem allP_mono {p q : Nat → Bool} (h : ∀ n, p n = true → q n = true) {l : List UInt8} (hl : allP p l = true) : allP q l = true := by
  rw [allP, List.all_eq_true] at hl ⊢
  exact fun c hc => h _ (hl c hc)
theorem inn_pat {n : Nat} (h : inn n = true) : pat n = true := by simp [pat, h]
theorem name_pat {l : List UInt8} (h : isName l = true) : isPat l = true := by
  simp only [isName, isPat, Bool.and_eq_true] at h ⊢
  exact ⟨h.1, allP_mono (fun _ => inn_pat) h.2.2⟩
theorem take_snoc {α : Type} (l : List α) (k : Nat) (h : k < l.length) : l.take (k + 1) = l.take k ++ [l[k]] := by
  rw [List.take_add_one, List.getElem?_eq_getElem h]; rfl
theorem drop_cons {α : Type} (l : List α) (k : Nat) (h : k < l.length) : l.drop k = l[k] :: l.drop (k + 1) := List.drop_eq_getElem_cons h
theorem headP_take (p : Nat → Bool) (l : List UInt8) (k : Nat) (h : 0 < k) : headP p (l.take k) = headP p l := by
  cases l with
  | nil => simp [headP]
  | cons c t => obtain ⟨j, rfl⟩ : ∃ j, k = j + 1 := ⟨k - 1, by omega⟩; rfl

/-! ### what a pattern stands for -/
def anyTail (f : List UInt8 → Bool) : List UInt8 → Bool
  | [] => f []
  | c :: t => f (c :: t) || anyTail f t
def one (x : UInt8) (f : List UInt8 → Bool) : List UInt8 → Bool
  | [] => false
  | c :: t => (x == 63 || x == c) && f t
def glob : List UInt8 → List UInt8 → Bool
  | [] => fun s => s.isEmpty
  | x :: p => if x = 42 then anyTail (glob p) else one x (glob p)

theorem anyTail_iff (f : List UInt8 → Bool) (s : List UInt8) : anyTail f s = true ↔ ∃ k, k ≤ s.length ∧ f (s.drop k) = true := by
  induction s with
  | nil =>
    constructor
    · intro h; exact ⟨0, Nat.le_refl _, h⟩
    · rintro ⟨k, hk, h⟩; simpa [anyTail] using h
  | cons c t ih =>
    simp only [anyTail, Bool.or_eq_true, ih]
    constructor
    · rintro (h | ⟨k, hk, h⟩)
      · exact ⟨0, Nat.zero_le _, h⟩
      · exact ⟨k + 1, by simp; omega, h⟩
    · rintro ⟨k, hk, h⟩
      cases k with
      | zero => exact .inl h
      | succ k => exact .inr ⟨k, by simp at hk; omega, h⟩

theorem glob_nil (s : List UInt8) : glob [] s = s.isEmpty := rfl
theorem glob_star (p s : List UInt8) : glob (42 :: p) s = anyTail (glob p) s := by simp [glob]
theorem glob_star_iff (p s : List UInt8) : glob (42 :: p) s = true ↔ ∃ k, k ≤ s.length ∧ glob p (s.drop k) = true := by rw [glob_star, anyTail_iff]
theorem glob_end {x : UInt8} (h : x ≠ 42) (p : List UInt8) : glob (x :: p) [] = false := by simp [glob, h, one]
theorem glob_one {x : UInt8} (h : x ≠ 42) (p t : List UInt8) (c : UInt8) : glob (x :: p) (c :: t) = ((x == 63 || x == c) && glob p t) := by simp [glob, h, one]
theorem glob_star_cons (p t : List UInt8) (c : UInt8) : glob (42 :: p) (c :: t) = (glob p (c :: t) || glob (42 :: p) t) := by rw [glob_star, glob_star]; rfl
theorem glob_any (s : List UInt8) : glob [42] s = true := by
  rw [glob_star_iff]; exact ⟨s.length, Nat.le_refl _, by simp [glob_nil]⟩

theorem glob_append (p q : List UInt8) : ∀ s, glob (p ++ q) s = true ↔ ∃ k, k ≤ s.length ∧ glob p (s.take k) = true ∧ glob q (s.drop k) = true := by
  induction p with
  | nil =>
    intro s
    constructor
    · intro h; exact ⟨0, Nat.zero_le _, by simp [glob_nil], h⟩
    · rintro ⟨k, hk, h1, h2⟩
      have : k = 0 := by
        have := congrArg List.length (List.isEmpty_iff.1 (by simpa [glob_nil] using h1 : (s.take k).isEmpty = true))
        rw [List.length_take, List.length_nil] at this; omega
      subst this; exact h2
  | cons x p ih =>
    intro s
    rw [List.cons_append]
    by_cases hx : x = 42
    · subst hx
      rw [glob_star_iff]
      constructor
      · rintro ⟨j, hj, h⟩
        obtain ⟨m, hm, h1, h2⟩ := (ih _).1 h
        rw [List.length_drop] at hm
        refine ⟨j + m, by omega, ?_, by rwa [List.drop_drop] at h2⟩
        rw [glob_star_iff]
        refine ⟨j, by rw [List.length_take]; omega, ?_⟩
        rw [List.drop_take, Nat.add_sub_cancel_left]; exact h1
      · rintro ⟨k, hk, h1, h2⟩
        rw [glob_star_iff] at h1
        obtain ⟨j, hj, h1⟩ := h1
        rw [List.length_take] at hj
        refine ⟨j, by omega, (ih _).2 ⟨k - j, by rw [List.length_drop]; omega, ?_, ?_⟩⟩
        · rw [List.drop_take] at h1; exact h1
        · rw [List.drop_drop, show j + (k - j) = k by omega]; exact h2
    · cases s with
      | nil =>
        rw [glob_end hx]
        constructor
        · intro h; cases h
        · rintro ⟨k, hk, h1, _⟩; simp [glob_end hx] at h1
      | cons c t =>
        rw [glob_one hx, Bool.and_eq_true, ih]
        constructor
        · rintro ⟨h0, k, hk, h1, h2⟩
          exact ⟨k + 1, by simp; omega, by rw [List.take_succ_cons, glob_one hx, h0, h1]; rfl, h2⟩
        · rintro ⟨k, hk, h1, h2⟩
          cases k with
          | zero => simp [glob_end hx] at h1
          | succ k =>
            rw [List.take_succ_cons, glob_one hx, Bool.and_eq_true] at h1
            exact ⟨h1.1, k, by simp at hk; omega, h1.2, h2⟩

theorem glob_more (p s more : List UInt8) (h : glob p s = true) : glob (p ++ [42]) (s ++ more) = true :=
  (glob_append _ _ _).2 ⟨s.length, by simp, by simpa using h, glob_any _⟩
theorem glob_less (p s more : List UInt8) (h : glob p s = true) : glob (42 :: p) (more ++ s) = true :=
  (glob_star_iff _ _).2 ⟨more.length, by simp, by simpa using h⟩
theorem glob_self {p : List UInt8} (h : ∀ x ∈ p, x ≠ 42 ∧ x ≠ 63) : ∀ s, glob p s = (p == s) := by
  induction p with
  | nil => intro s; cases s <;> rfl
  | cons x p ih =>
    intro s
    have hx := h x (by simp)
    cases s with
    | nil => rw [glob_end hx.1]; rfl
    | cons c t =>
      rw [glob_one hx.1, ih (fun y hy => h y (by simp [hy]))]
      have : (x == (63 : UInt8)) = false := by simpa using hx.2
      rw [this, Bool.false_or]; rfl
theorem name_self {l : List UInt8} (h : isName l = true) (s : List UInt8) : glob l s = (l == s) := by
  refine glob_self (fun x hx => ?_) s
  simp only [isName, Bool.and_eq_true, allP, List.all_eq_true] at h
  have := h.2.2 x hx
  constructor
  · rintro rfl; revert this; decide
  · rintro rfl; revert this; decide

/-! ### row by row -/
theorem row_zero (p : List UInt8) (x : UInt8) : glob (p ++ [x]) [] = (x == 42 && glob p []) := by
  rw [Bool.eq_iff_iff, glob_append, Bool.and_eq_true]
  constructor
  · rintro ⟨k, hk, h1, h2⟩
    obtain rfl : k = 0 := by simpa using hk
    refine ⟨?_, h1⟩
    by_cases hx : x = 42
    · simp [hx]
    · rw [List.drop_zero, glob_end hx] at h2; cases h2
  · rintro ⟨hx, h⟩
    obtain rfl : x = 42 := by simpa using hx
    exact ⟨0, Nat.le_refl _, h, glob_any _⟩
theorem row_star (p s : List UInt8) (c : UInt8) : glob (p ++ [42]) (s ++ [c]) = (glob p (s ++ [c]) || glob (p ++ [42]) s) := by
  rw [Bool.eq_iff_iff, glob_append, Bool.or_eq_true, glob_append]
  constructor
  · rintro ⟨k, hk, h1, _⟩
    rw [List.length_append, List.length_singleton] at hk
    by_cases hk' : k ≤ s.length
    · exact .inr ⟨k, hk', by rwa [List.take_append_of_le_length hk'] at h1, glob_any _⟩
    · obtain rfl : k = s.length + 1 := by omega
      refine .inl ?_
      rwa [List.take_of_length_le (by simp)] at h1
  · rintro (h | ⟨k, hk, h1, _⟩)
    · exact ⟨(s ++ [c]).length, Nat.le_refl _, by rw [List.take_length]; exact h, glob_any _⟩
    · exact ⟨k, by simp; omega, by rwa [List.take_append_of_le_length hk], glob_any _⟩
theorem row_one {x : UInt8} (hx : x ≠ 42) (p s : List UInt8) (c : UInt8) : glob (p ++ [x]) (s ++ [c]) = (glob p s && (x == 63 || x == c)) := by
  rw [Bool.eq_iff_iff, glob_append, Bool.and_eq_true]
  constructor
  · rintro ⟨k, hk, h1, h2⟩
    rw [List.length_append, List.length_singleton] at hk
    by_cases h : k = s.length
    · subst h
      rw [List.take_append_of_le_length (Nat.le_refl _), List.take_length] at h1
      rw [List.drop_append_of_le_length (Nat.le_refl _), List.drop_length, List.nil_append, glob_one hx, glob_nil] at h2
      exact ⟨h1, by simpa using h2⟩
    · exfalso
      by_cases h' : k = s.length + 1
      · subst h'
        rw [List.drop_of_length_le (by simp), glob_end hx] at h2; cases h2
      · obtain ⟨a, b, t, e⟩ : ∃ a b t, (s ++ [c]).drop k = a :: b :: t := by
          have hl : ((s ++ [c]).drop k).length = s.length + 1 - k := by simp
          match hd : (s ++ [c]).drop k with
          | [] => rw [hd] at hl; simp at hl; omega
          | [a] => rw [hd] at hl; simp at hl; omega
          | a :: b :: t => exact ⟨a, b, t, rfl⟩
        rw [e, glob_one hx, glob_nil] at h2; simp at h2
  · rintro ⟨h1, h2⟩
    refine ⟨s.length, by simp, by rwa [List.take_append_of_le_length (Nat.le_refl _), List.take_length], ?_⟩
    rw [List.drop_append_of_le_length (Nat.le_refl _), List.drop_length, List.nil_append, glob_one hx, glob_nil, h2]; rfl

/-! ### star by star -/
def Ans (p s : List UInt8) (at' done behind taken : Nat) : Prop :=
  at' ≤ p.length ∧ done ≤ s.length ∧
  (behind = 0 ∧ taken = 0 ∧ glob p s = glob (p.drop at') (s.drop done) ∨
   0 < behind ∧ behind ≤ at' ∧ done = taken + (at' - behind) ∧ glob p s = glob (42 :: p.drop behind) (s.drop taken) ∧
   (∀ t, t ≤ s.length → glob (p.drop behind) (s.drop t) = true → t + (at' - behind) ≤ s.length ∧ glob (p.drop at') (s.drop (t + (at' - behind))) = true) ∧
   (glob (p.drop at') (s.drop done) = true → glob (p.drop behind) (s.drop taken) = true))

theorem ans_start (p s : List UInt8) : Ans p s 0 0 0 0 := ⟨Nat.zero_le _, Nat.zero_le _, .inl ⟨rfl, rfl, rfl⟩⟩
theorem star_drop {q s : List UInt8} {a b : Nat} (hab : a ≤ b) (hb : b ≤ s.length) (h : glob (42 :: q) (s.drop b) = true) : glob (42 :: q) (s.drop a) = true := by
  rw [glob_star_iff] at h ⊢
  obtain ⟨k, hk, h⟩ := h
  rw [List.length_drop] at hk
  refine ⟨b - a + k, by rw [List.length_drop]; omega, ?_⟩
  rw [List.drop_drop] at h ⊢
  rwa [show a + (b - a + k) = b + k by omega]
theorem ans_star {p s : List UInt8} {i d b t : Nat} (h : Ans p s i d b t) (hi : i < p.length) (hx : p[i] = 42) : Ans p s (i + 1) d (i + 1) d := by
  obtain ⟨h1, h2, h⟩ := h
  have hd : p.drop i = 42 :: p.drop (i + 1) := by rw [drop_cons p i hi, hx]
  refine ⟨hi, h2, .inr ⟨by omega, Nat.le_refl _, by omega, ?_, ?_, fun h => h⟩⟩
  · rcases h with ⟨_, _, h⟩ | ⟨hb0, hbi, hdt, hg, hA, hB⟩
    · rw [h, hd]
    · rw [hg, Bool.eq_iff_iff]
      constructor
      · intro h
        rw [glob_star_iff] at h
        obtain ⟨k, hk, h⟩ := h
        rw [List.length_drop] at hk
        rw [List.drop_drop] at h
        obtain ⟨h3, h4⟩ := hA (t + k) (by omega) h
        rw [hd] at h4
        exact star_drop (by omega) h3 h4
      · intro h
        rw [← hd] at h
        rw [glob_star_iff]
        exact ⟨0, Nat.zero_le _, by rw [List.drop_zero]; exact hB h⟩
  · intro u hu h
    rw [Nat.sub_self]
    exact ⟨hu, h⟩
theorem ans_step {p s : List UInt8} {i d b t : Nat} (h : Ans p s i d b t) (hi : i < p.length) (hx : p[i] ≠ 42) (hds : d < s.length) (hm : p[i] = 63 ∨ p[i] = s[d]) : Ans p s (i + 1) (d + 1) b t := by
  obtain ⟨h1, h2, h⟩ := h
  have hd := drop_cons p i hi
  have he := drop_cons s d hds
  have hm' : (p[i] == 63 || p[i] == s[d]) = true := by simpa using hm
  have hgg : glob (p.drop i) (s.drop d) = glob (p.drop (i + 1)) (s.drop (d + 1)) := by rw [hd, he, glob_one hx, hm']; rfl
  refine ⟨hi, hds, ?_⟩
  rcases h with ⟨hb, ht, h⟩ | ⟨hb0, hbi, hdt, hg, hA, hB⟩
  · exact .inl ⟨hb, ht, by rw [h, hgg]⟩
  · refine .inr ⟨hb0, by omega, by omega, hg, ?_, fun h => hB (by rw [hgg]; exact h)⟩
    intro u hu h
    obtain ⟨h3, h4⟩ := hA u hu h
    rw [hd] at h4
    by_cases hl : u + (i - b) < s.length
    · rw [drop_cons s _ hl, glob_one hx, Bool.and_eq_true] at h4
      rw [show i + 1 - b = i - b + 1 by omega]
      exact ⟨by omega, by rw [← Nat.add_assoc]; exact h4.2⟩
    · rw [show s.drop (u + (i - b)) = [] from List.drop_of_length_le (by omega), glob_end hx] at h4; cases h4
theorem ans_back {p s : List UInt8} {i d b t : Nat} (h : Ans p s i d b t) (hb : b ≠ 0) (hds : d < s.length) (hm : i < p.length → p[i]! ≠ 42 ∧ p[i]! ≠ 63 ∧ p[i]! ≠ s[d]) : Ans p s b (t + 1) b (t + 1) := by
  obtain ⟨h1, h2, h⟩ := h
  rcases h with ⟨hb', _⟩ | ⟨hb0, hbi, hdt, hg, hA, hB⟩
  · exact absurd hb' hb
  have hF : glob (p.drop i) (s.drop d) = false := by
    rw [drop_cons s d hds]
    by_cases hi : i < p.length
    · have := hm hi
      rw [getElem!_pos p i hi] at this
      rw [drop_cons p i hi, glob_one this.1]
      have e : (p[i] == 63 || p[i] == s[d]) = false := by simpa using this.2
      rw [e]; rfl
    · rw [List.drop_of_length_le (by omega)]; rfl
  refine ⟨by omega, by omega, .inr ⟨hb0, Nat.le_refl _, by omega, ?_, ?_, fun h => h⟩⟩
  · have : glob (p.drop b) (s.drop t) = false := by
      cases hc : glob (p.drop b) (s.drop t) with
      | false => rfl
      | true => have h4 := (hA t (by omega) hc).2; rw [← hdt, hF] at h4; cases h4
    rw [drop_cons s t (by omega)] at this
    rw [hg, drop_cons s t (by omega), glob_star_cons, this]; rfl
  · intro u hu h
    rw [Nat.sub_self]
    exact ⟨hu, h⟩
theorem ans_end {p s : List UInt8} {i d b t : Nat} (h : Ans p s i d b t) (hd : d = s.length) (hm : i < p.length → p[i]! ≠ 42) : glob p s = decide (i = p.length) := by
  obtain ⟨h1, h2, h⟩ := h
  have hs : s.drop d = [] := List.drop_of_length_le (by omega)
  by_cases hi : i = p.length
  · have hp : p.drop i = [] := List.drop_of_length_le (by omega)
    rw [decide_eq_true hi]
    rcases h with ⟨_, _, h⟩ | ⟨hb0, hbi, hdt, hg, hA, hB⟩
    · rw [h, hp, hs]; rfl
    · rw [hg, glob_star_iff]
      exact ⟨0, Nat.zero_le _, by rw [List.drop_zero]; exact hB (by rw [hp, hs]; rfl)⟩
  · have hi' : i < p.length := by omega
    have hx := hm hi'
    rw [getElem!_pos p i hi'] at hx
    have hF : glob (p.drop i) (s.drop d) = false := by rw [hs, drop_cons p i hi', glob_end hx]
    rw [decide_eq_false hi]
    rcases h with ⟨_, _, h⟩ | ⟨hb0, hbi, hdt, hg, hA, hB⟩
    · rw [h, hF]
    · rw [hg]
      cases hc : glob (42 :: p.drop b) (s.drop t) with
      | false => rfl
      | true =>
        rw [glob_star_iff] at hc
        obtain ⟨k, hk, hc⟩ := hc
        rw [List.length_drop] at hk
        rw [List.drop_drop] at hc
        obtain ⟨h3, h4⟩ := hA (t + k) (by omega) hc
        rw [show t + k + (i - b) = d by omega, hF] at h4; cases h4
theorem ans_none {p s : List UInt8} {i d t : Nat} (h : Ans p s i d 0 t) (hds : d < s.length) (hm : i < p.length → p[i]! ≠ 42 ∧ p[i]! ≠ 63 ∧ p[i]! ≠ s[d]) : glob p s = false := by
  obtain ⟨h1, h2, h⟩ := h
  rcases h with ⟨_, _, h⟩ | ⟨hb0, _⟩
  · rw [h, drop_cons s d hds]
    by_cases hi : i < p.length
    · have := hm hi
      rw [getElem!_pos p i hi] at this
      rw [drop_cons p i hi, glob_one this.1]
      have e : (p[i] == 63 || p[i] == s[d]) = false := by simpa using this.2
      rw [e]; rfl
    · rw [List.drop_of_length_le (by omega)]; rfl
  · omega
theorem ans_taken {p s : List UInt8} {i d b t : Nat} (h : Ans p s i d b t) : t ≤ d ∧ i ≤ p.length ∧ d ≤ s.length ∧ b ≤ i := by
  obtain ⟨h1, h2, h⟩ := h
  rcases h with ⟨rfl, rfl, _⟩ | ⟨_, _, hdt, _⟩ <;> omega

end Go.Proofs.YtajfdachpdkbcaaGreatDoor.Word
end


/-
Layer 2 (digit): the plain mathematics: decimal texts, digits, signs.
Layer 14 (brk): the plain mathematics: steps, their text, what a text tells.
Layer 19 (line) in plain Lean: what a line is, and what befalls it.
Layer 1 (calc): the walk of Double.
Layer 18 (backoff): within, Check, left, Bounds, walked.
Layer 18 (backoff): a wait in memory; New, isMade, Tries, Good, walked.
Layer 1 (calc): the walk of Total, over ticks that lie one behind the other.
Layer 18 (backoff): Fail, walked.
Layer 1 (calc): Hold, walked.
-/
import Derived.Test.YtnkhdpenmekhdaaGreatPPack3
import Derived.Lib.Bytealg
import Derived.Deep.QuietTactic
import Derived.BigQuiet
import Derived.LoopTactic
import Derived.Deep.RegionHeld3
section
namespace Go.Proofs.YtnkhdpenmekhdaaGreat.Digit

def hexd (n : Nat) : UInt8 := if n < 10 then (48 + n).toUInt8 else (87 + n).toUInt8
def decN (n : Nat) : List UInt8 := if _h : n < 10 then [hexd n] else decN (n / 10) ++ [hexd (n % 10)]
termination_by n
decreasing_by omega
def dec (n : Int) : List UInt8 := if n < 0 then 45 :: decN n.natAbs else decN n.toNat
def hexS (c : Nat) : List UInt8 := [hexd (c / 16), hexd (c % 16)]

theorem decN_lt {n : Nat} (h : n < 10) : decN n = [hexd n] := by rw [decN, dif_pos h]
theorem decN_ge {n : Nat} (h : ¬ n < 10) : decN n = decN (n / 10) ++ [hexd (n % 10)] := by rw [decN, dif_neg h]

theorem hexd_toNat {n : Nat} (h : n < 10) : (hexd n).toNat = 48 + n := by
  unfold hexd; rw [if_pos h]; simp; omega

theorem decN_ne (n : Nat) : decN n ≠ [] := by
  by_cases h : n < 10
  · rw [decN_lt h]; simp
  · rw [decN_ge h]; simp

theorem decN_len (k n : Nat) (h : n < 10 ^ (k + 1)) : (decN n).length ≤ k + 1 := by
  induction k generalizing n with
  | zero => rw [decN_lt (by simpa using h)]; simp
  | succ k ih =>
    by_cases h1 : n < 10
    · rw [decN_lt h1]; simp
    · rw [decN_ge h1]
      have := ih (n / 10) (by rw [Nat.pow_succ] at h; omega)
      simp; omega

theorem decN_pos (n : Nat) : 0 < (decN n).length := List.length_pos_iff.2 (decN_ne n)

theorem dec_len {n : Int} (h1 : -9223372036854775808 ≤ n) (h2 : n ≤ 9223372036854775807) : (dec n).length ≤ 20 := by
  unfold dec
  split
  · have := decN_len 18 n.natAbs (by omega); simp; omega
  · have := decN_len 18 n.toNat (by omega); omega

/-- the number that digits tell, whatever they are -/
def scan (a : Int) : List UInt8 → Int
  | [] => a
  | c :: l => scan (10 * a + (c.toNat : Int) - 48) l

theorem scan_append (a : Int) (l m : List UInt8) : scan a (l ++ m) = scan (scan a l) m := by
  induction l generalizing a with
  | nil => rfl
  | cons c l ih => exact ih _

theorem scan_decN (n : Nat) : scan 0 (decN n) = n := by
  induction n using Nat.strongRecOn with
  | ind n ih =>
    by_cases h : n < 10
    · rw [decN_lt h]; simp only [scan]; have := hexd_toNat h; omega
    · rw [decN_ge h, scan_append, ih (n / 10) (by omega)]
      simp only [scan]; have := hexd_toNat (n := n % 10) (by omega); omega

theorem decN_digit (n : Nat) : ∀ c ∈ decN n, 48 ≤ c.toNat ∧ c.toNat ≤ 57 := by
  induction n using Nat.strongRecOn with
  | ind n ih =>
    by_cases h : n < 10
    · rw [decN_lt h]; intro c hc; simp at hc; subst hc; have := hexd_toNat h; omega
    · rw [decN_ge h]
      intro c hc
      rcases List.mem_append.1 hc with hc | hc
      · exact ih (n / 10) (by omega) c hc
      · simp at hc; subst hc; have := hexd_toNat (n := n % 10) (by omega); omega

theorem decN_inj {m n : Nat} (h : decN m = decN n) : m = n := by
  have := congrArg (scan 0) h; rw [scan_decN, scan_decN] at this; omega

theorem dec_inj {m n : Int} (h : dec m = dec n) : m = n := by
  unfold dec at h
  split at h <;> split at h
  · have := decN_inj (List.cons.inj h).2; omega
  · have := decN_digit n.toNat 45 (h ▸ List.mem_cons_self); simp at this
  · have := decN_digit m.toNat 45 (h ▸ List.mem_cons_self); simp at this
  · have := decN_inj h; omega

theorem dec_lt {n : Int} (h0 : 0 ≤ n) (h : n < 10) : dec n = [hexd n.toNat] := by
  unfold dec; rw [if_neg (by omega), decN_lt (by omega)]
theorem dec_neg_lt {n : Int} (h0 : n < 0) (h : -10 < n) : dec n = [45, hexd (-n).toNat] := by
  unfold dec; rw [if_pos h0, decN_lt (by omega), show n.natAbs = (-n).toNat by omega]
theorem dec_ge {n : Int} (h : 10 ≤ n) : dec n = dec (n / 10) ++ [hexd (n % 10).toNat] := by
  unfold dec; rw [if_neg (by omega), if_neg (by omega), decN_ge (by omega), show (n / 10).toNat = n.toNat / 10 by omega, show (n % 10).toNat = n.toNat % 10 by omega]
theorem dec_le {n : Int} (h : n ≤ -10) : dec n = dec (n.tdiv 10) ++ [hexd (-(n.tmod 10)).toNat] := by
  have e1 : n.tdiv 10 = -(((n.natAbs / 10 : Nat)) : Int) := by
    obtain ⟨m, rfl⟩ : ∃ m : Nat, n = -(m : Int) := ⟨n.natAbs, by omega⟩
    rw [Int.neg_tdiv, Int.natAbs_neg, Int.natAbs_natCast, Int.tdiv_eq_ediv_of_nonneg (by omega)]; rfl
  have e2 : -(n.tmod 10) = ((n.natAbs % 10 : Nat) : Int) := by
    obtain ⟨m, rfl⟩ : ∃ m : Nat, n = -(m : Int) := ⟨n.natAbs, by omega⟩
    rw [Int.neg_tmod, Int.natAbs_neg, Int.natAbs_natCast, Int.neg_neg, Int.tmod_eq_emod_of_nonneg (by omega)]; rfl
  rw [e1, e2]
  have h10 : ¬ n.natAbs < 10 := by omega
  unfold dec
  rw [if_pos (by omega), if_pos (by omega), decN_ge h10, Int.natAbs_neg, Int.natAbs_natCast, Int.toNat_natCast]
  rfl

theorem tdiv_facts {n : Int} (h : n < 0) : n < n.tdiv 10 ∧ n.tdiv 10 ≤ 0 ∧ n.tmod 10 ≤ 0 ∧ -10 < n.tmod 10 := by
  obtain ⟨m, rfl⟩ : ∃ m : Nat, n = -(m : Int) := ⟨n.natAbs, by omega⟩
  rw [Int.neg_tdiv, Int.neg_tmod, Int.tdiv_eq_ediv_of_nonneg (by omega), Int.tmod_eq_emod_of_nonneg (by omega)]
  omega

def padL (d : List UInt8) (width : Nat) : List UInt8 := List.replicate (width - d.length) 48 ++ d
def padI (n width : Int) : List UInt8 := if n < 0 ∨ width < 0 ∨ 20 < width then [] else padL (dec n) width.toNat
def PadAt (d l : List UInt8) (width : Nat) : Prop := ∃ k, l = List.replicate k 48 ++ d ∧ k ≤ width - d.length
theorem pad_start (d : List UInt8) (width : Nat) : PadAt d d width := ⟨0, by simp, by omega⟩
theorem pad_next {d l : List UInt8} {width : Nat} (h : PadAt d l width) (hl : l.length < width) : PadAt d (48 :: l) width := by
  obtain ⟨k, rfl, hk⟩ := h
  exact ⟨k + 1, by simp [List.replicate_succ], by simp at hl; omega⟩
theorem pad_done {d l : List UInt8} {width : Nat} (h : PadAt d l width) (hl : ¬ l.length < width) : l = padL d width := by
  obtain ⟨k, rfl, hk⟩ := h
  simp at hl
  rw [padL, show k = width - d.length by omega]
theorem padI_none {n width : Int} (h : n < 0 ∨ width < 0 ∨ 20 < width) : padI n width = [] := by rw [padI, if_pos h]
theorem padI_some {n width : Int} (h : ¬ (n < 0 ∨ width < 0 ∨ 20 < width)) : padI n width = padL (dec n) width.toNat := by rw [padI, if_neg h]

theorem hexd_inj {m n : Nat} (hm : m < 16) (hn : n < 16) (h : hexd m = hexd n) : m = n := by
  have key : ∀ a : Fin 16, ∀ b : Fin 16, hexd a.val = hexd b.val → a = b := by decide
  exact congrArg Fin.val (key ⟨m, hm⟩ ⟨n, hn⟩ h)
theorem hexS_inj {m n : Nat} (hm : m < 256) (hn : n < 256) (h : hexS m = hexS n) : m = n := by
  unfold hexS at h
  have h1 := hexd_inj (by omega) (by omega) (List.cons.inj h).1
  have h2 := hexd_inj (by omega) (by omega) (List.cons.inj (List.cons.inj h).2).1
  omega
open Classical in
/-- the byte of two digits, and why there is none -/
noncomputable def rhV (s : List UInt8) : Int := if h : ∃ c : Nat, c < 256 ∧ hexS c = s then (h.choose : Int) else 0
open Classical in
noncomputable def rhC (s : List UInt8) : Int := if ∃ c : Nat, c < 256 ∧ hexS c = s then 0 else 3
theorem rh_some {c : Nat} (hc : c < 256) : rhV (hexS c) = c ∧ rhC (hexS c) = 0 := by
  have h : ∃ d : Nat, d < 256 ∧ hexS d = hexS c := ⟨c, hc, rfl⟩
  constructor
  · rw [rhV, dif_pos h]; exact congrArg Int.ofNat (hexS_inj h.choose_spec.1 hc h.choose_spec.2)
  · rw [rhC, if_pos h]
theorem rh_none {s : List UInt8} (h : ¬ ∃ c : Nat, c < 256 ∧ hexS c = s) : rhV s = 0 ∧ rhC s = 3 := by
  constructor
  · rw [rhV, dif_neg h]
  · rw [rhC, if_neg h]

def IsTick (s : List UInt8) (n : Int) : Prop := 0 ≤ n ∧ n ≤ 1099511627776 ∧ dec n = s
open Classical in
/-- the tick of a text, and why there is none -/
noncomputable def rdV (s : List UInt8) : Int := if h : ∃ n, IsTick s n then h.choose else 0
open Classical in
noncomputable def rdC (s : List UInt8) : Int := if ∃ n, IsTick s n then 0 else 3
theorem rd_some {s : List UInt8} {n : Int} (h : IsTick s n) : rdV s = n ∧ rdC s = 0 := by
  have g : ∃ n, IsTick s n := ⟨n, h⟩
  constructor
  · rw [rdV, dif_pos g]; exact dec_inj (g.choose_spec.2.2.trans h.2.2.symm)
  · rw [rdC, if_pos g]
theorem rd_none {s : List UInt8} (h : ¬ ∃ n, IsTick s n) : rdV s = 0 ∧ rdC s = 3 := by
  constructor
  · rw [rdV, dif_neg h]
  · rw [rdC, if_neg h]

theorem scan_bd (l : List UInt8) (a : Int) (M : Nat) (h1 : -M ≤ a) (h2 : a ≤ M) : -((M + 30 : Nat) * 10 ^ l.length : Nat) ≤ scan a l ∧ scan a l ≤ ((M + 30 : Nat) * 10 ^ l.length : Nat) := by
  induction l generalizing a M with
  | nil => simp [scan]; omega
  | cons c l ih =>
    have hc := c.toNat_lt
    have := ih (10 * a + (c.toNat : Int) - 48) (10 * M + 256) (by omega) (by omega)
    have e : (10 * M + 256 + 30) * 10 ^ l.length ≤ (M + 30) * 10 ^ (l.length + 1) := by
      rw [Nat.pow_succ, ← Nat.mul_assoc, Nat.mul_right_comm]; exact Nat.mul_le_mul_right _ (by omega)
    simp only [scan, List.length_cons]
    omega
theorem scan_14 (l : List UInt8) (h : l.length ≤ 14) : -3000000000000000 ≤ scan 0 l ∧ scan 0 l ≤ 3000000000000000 := by
  have := scan_bd l 0 0 (by omega) (by omega)
  have e : 10 ^ l.length ≤ 10 ^ 14 := Nat.pow_le_pow_right (by omega) h
  omega
theorem tick_scan {s : List UInt8} {n : Int} (h : IsTick s n) : scan 0 s = n ∧ s.length ≤ 13 := by
  obtain ⟨h0, h1, rfl⟩ := h
  unfold dec
  rw [if_neg (by omega)]
  exact ⟨by rw [scan_decN]; omega, decN_len 12 _ (by omega)⟩
theorem take_snoc (s : ByteArray) (k : Nat) (h : k < s.size) : s.data.toList.take (k + 1) = s.data.toList.take k ++ [s[k]] := by
  rw [List.take_succ_eq_append_getElem (by simpa using h)]; rfl
theorem scan_snoc (s : ByteArray) (k : Nat) (h : k < s.size) : scan 0 (s.data.toList.take (k + 1)) = 10 * scan 0 (s.data.toList.take k) + (s[k].toNat : Int) - 48 := by
  rw [take_snoc s k h, scan_append]; rfl

/-- what stands for a byte -/
def sgn (n : Nat) : List UInt8 :=
  if n = 92 then [92, 92] else if n = 10 then [92, 110] else if n = 13 then [92, 114] else if n = 9 then [92, 116]
  else if n < 32 ∨ 126 < n then 92 :: 120 :: hexS n else [n.toUInt8]
def shw (l : List UInt8) : List UInt8 := l.flatMap fun c => sgn c.toNat

theorem sgn_other {n : Nat} (h1 : n ≠ 92) (h2 : n ≠ 10) (h3 : n ≠ 13) (h4 : n ≠ 9) : sgn n = if n < 32 ∨ 126 < n then 92 :: 120 :: hexS n else [n.toUInt8] := by
  unfold sgn; rw [if_neg h1, if_neg h2, if_neg h3, if_neg h4]
theorem sgn_len (n : Nat) : 1 ≤ (sgn n).length ∧ (sgn n).length ≤ 4 := by
  unfold sgn; repeat' split
  all_goals simp [hexS]

theorem shw_append (l m : List UInt8) : shw (l ++ m) = shw l ++ shw m := by simp [shw]
theorem shw_cons (c : UInt8) (l : List UInt8) : shw (c :: l) = sgn c.toNat ++ shw l := by simp [shw]
theorem shw_len (l : List UInt8) : (shw l).length ≤ 4 * l.length := by
  induction l with
  | nil => simp [shw]
  | cons c l ih => rw [shw_cons, List.length_append, List.length_cons]; have := sgn_len c.toNat; omega
theorem shw_snoc (s : ByteArray) (k : Nat) (h : k < s.size) : shw (s.data.toList.take (k + 1)) = shw (s.data.toList.take k) ++ sgn s[k].toNat := by
  rw [take_snoc s k h, shw_append]; simp [shw]

/-- with which byte's sign a text begins, if with any -/
noncomputable def mean : List UInt8 → Nat
  | [] => 0
  | a :: t => if a ≠ 92 then a.toNat else match t with
    | [] => 92
    | b :: u => if b = 110 then 10 else if b = 114 then 13 else if b = 116 then 9 else if b = 120 then (rhV (u.take 2)).toNat else 92

theorem rhV_bd (s : List UInt8) : 0 ≤ rhV s ∧ rhV s < 256 := by
  by_cases h : ∃ c : Nat, c < 256 ∧ hexS c = s
  · obtain ⟨c, hc, rfl⟩ := h; rw [(rh_some hc).1]; omega
  · rw [(rh_none h).1]; omega
theorem mean_bd (l : List UInt8) : mean l < 256 := by
  match l with
  | [] => simp [mean]
  | a :: t =>
    simp only [mean]
    split
    · exact a.toNat_lt
    · match t with
      | [] => simp
      | b :: u =>
        have := rhV_bd (u.take 2)
        simp only
        repeat' split
        all_goals omega
theorem mean_sgn (c : Nat) (hc : c < 256) (r : List UInt8) : mean (sgn c ++ r) = c := by
  unfold sgn
  split
  · subst c; simp [mean]
  split
  · subst c; simp [mean]
  split
  · subst c; simp [mean]
  split
  · subst c; simp [mean]
  split
  · have h := (rh_some hc).1
    have e : mean (92 :: 120 :: hexS c ++ r) = (rhV ((hexS c ++ r).take 2)).toNat := by simp [mean]
    have e2 : (hexS c ++ r).take 2 = hexS c := by simp [hexS]
    rw [e, e2, h]; simp
  · have h1 : (c.toUInt8) ≠ 92 := by
      intro h
      have := congrArg UInt8.toNat h
      simp at this; omega
    simp only [List.cons_append, List.nil_append, mean, ne_eq, h1, not_false_eq_true, if_true]
    simp; omega
theorem mean_pre {l : List UInt8} {c : Nat} (hc : c < 256) (h : sgn c <+: l) : mean l = c := by
  obtain ⟨r, rfl⟩ := h; exact mean_sgn c hc r

open Classical in
/-- the bytes of signs -/
noncomputable def uns (l : List UInt8) : Option (List UInt8) :=
  if _h : l = [] then some [] else if sgn (mean l) <+: l then (uns (l.drop (sgn (mean l)).length)).map ((mean l).toUInt8 :: ·) else none
termination_by l.length
decreasing_by
  have := (sgn_len (mean l)).1
  have := List.length_pos_iff.2 _h
  simp; omega
theorem uns_nil : uns [] = some [] := by rw [uns, dif_pos rfl]
theorem uns_none {l : List UInt8} (h0 : l ≠ []) (h : ¬ sgn (mean l) <+: l) : uns l = none := by rw [uns, dif_neg h0, if_neg h]
theorem uns_some {l : List UInt8} (h0 : l ≠ []) (h : sgn (mean l) <+: l) : uns l = (uns (l.drop (sgn (mean l)).length)).map ((mean l).toUInt8 :: ·) := by rw [uns, dif_neg h0, if_pos h]
theorem uns_shw (l : List UInt8) : uns (shw l) = some l := by
  induction l with
  | nil => exact uns_nil
  | cons c l ih =>
    have hc := c.toNat_lt
    have hm := mean_sgn c.toNat hc (shw l)
    rw [← shw_cons] at hm
    rw [uns_some, hm]
    · rw [shw_cons, List.drop_left, ih]; simp
    · rw [shw_cons]; have := (sgn_len c.toNat).1; intro h; simp at h; simp [h] at this
    · rw [hm, shw_cons]; exact List.prefix_append _ _
theorem shw_uns (l : List UInt8) : ∀ r, uns l = some r → shw r = l := by
  induction h : l.length using Nat.strongRecOn generalizing l with
  | ind n ih =>
    subst h
    intro r hr
    by_cases h0 : l = []
    · subst h0; rw [uns_nil] at hr; cases hr; rfl
    · by_cases h1 : sgn (mean l) <+: l
      · rw [uns_some h0 h1] at hr
        obtain ⟨q, hq, rfl⟩ := Option.map_eq_some_iff.1 hr
        have hs := (sgn_len (mean l)).1
        have := ih _ (by have := List.length_pos_iff.2 h0; simp; omega) _ rfl q hq
        rw [shw_cons, this]
        have hb := mean_bd l
        rw [show (mean l).toUInt8.toNat = mean l by simp; omega]
        exact List.prefix_iff_eq_append.1 h1
      · rw [uns_none h0 h1] at hr; cases hr
noncomputable def unV (l : List UInt8) : List UInt8 := (uns l).getD []
noncomputable def unC (l : List UInt8) : Int := if (uns l).isSome then 0 else 3

/-- of l the bytes acc are unshown, and m is left -/
def UnAt (l acc m : List UInt8) : Prop := uns l = (uns m).map (acc ++ ·) ∧ acc.length + m.length ≤ l.length
theorem un_start (l : List UInt8) : UnAt l [] l := ⟨by simp, by simp⟩
theorem un_done {l acc : List UInt8} (h : UnAt l acc []) : unV l = acc ∧ unC l = 0 := by
  have h1 := h.1
  rw [uns_nil] at h1
  simp [unV, unC, h1]
theorem un_next {l acc m : List UInt8} (h : UnAt l acc m) (h0 : m ≠ []) (hp : sgn (mean m) <+: m) : UnAt l (acc ++ [(mean m).toUInt8]) (m.drop (sgn (mean m)).length) := by
  refine ⟨?_, ?_⟩
  · rw [h.1, uns_some h0 hp]; simp [Function.comp_def]
  · have := h.2; have := (sgn_len (mean m)).1; have := List.length_pos_iff.2 h0; simp; omega
theorem un_stop {l acc m : List UInt8} (h : UnAt l acc m) (h0 : m ≠ []) (hp : ¬ sgn (mean m) <+: m) : unV l = [] ∧ unC l = 3 := by
  have h1 := h.1
  rw [uns_none h0 hp] at h1
  simp [unV, unC, h1]

theorem scan_up (l : List UInt8) (h : ∀ c ∈ l, 48 ≤ c.toNat ∧ c.toNat ≤ 57) (a : Int) (ha : 0 ≤ a) : a ≤ scan a l := by
  induction l generalizing a with
  | nil => exact Int.le_refl _
  | cons c l ih =>
    have hc := h c List.mem_cons_self
    have := ih (fun d hd => h d (List.mem_cons_of_mem _ hd)) (10 * a + (c.toNat : Int) - 48) (by omega)
    simp only [scan]; omega
theorem tick_digit {s : List UInt8} {n : Int} (h : IsTick s n) : ∀ c ∈ s, 48 ≤ c.toNat ∧ c.toNat ≤ 57 := by
  obtain ⟨h0, h1, rfl⟩ := h
  unfold dec
  rw [if_neg (by omega)]
  exact decN_digit _
theorem tick_part {s : List UInt8} {n : Int} (h : IsTick s n) (k : Nat) : 0 ≤ scan 0 (s.take k) ∧ scan 0 (s.take k) ≤ 1099511627776 := by
  have hd := tick_digit h
  refine ⟨scan_up _ (fun c hc => hd c (List.mem_of_mem_take hc)) 0 (by omega), ?_⟩
  have h1 := scan_up (s.drop k) (fun c hc => hd c (List.mem_of_mem_drop hc)) (scan 0 (s.take k)) (scan_up _ (fun c hc => hd c (List.mem_of_mem_take hc)) 0 (by omega))
  rw [← scan_append, List.take_append_drop, (tick_scan h).1] at h1
  have := h.2.1
  omega
theorem tick_pos {s : List UInt8} {n : Int} (h : IsTick s n) : 0 < s.length := by
  obtain ⟨h0, h1, rfl⟩ := h
  unfold dec
  rw [if_neg (by omega)]
  exact decN_pos _

def hexTab : List UInt8 := [48, 49, 50, 51, 52, 53, 54, 55, 56, 57, 97, 98, 99, 100, 101, 102]
theorem idx_all : ∀ n : Fin 256, (Lib.indexByte hexTab n.val.toUInt8 = -1 ∧ ∀ d : Fin 16, hexd d.val ≠ n.val.toUInt8) ∨ (0 ≤ Lib.indexByte hexTab n.val.toUInt8 ∧ Lib.indexByte hexTab n.val.toUInt8 < 16 ∧ hexd (Lib.indexByte hexTab n.val.toUInt8).toNat = n.val.toUInt8) := by decide +kernel
theorem idx_spec (c : UInt8) : (Lib.indexByte hexTab c = -1 ∧ ∀ d, d < 16 → hexd d ≠ c) ∨ (0 ≤ Lib.indexByte hexTab c ∧ Lib.indexByte hexTab c < 16 ∧ hexd (Lib.indexByte hexTab c).toNat = c) := by
  have h := idx_all ⟨c.toNat, c.toNat_lt⟩
  have e : c.toNat.toUInt8 = c := by simp
  simp only [e] at h
  rcases h with ⟨h1, h2⟩ | h
  · exact .inl ⟨h1, fun d hd => h2 ⟨d, hd⟩⟩
  · exact .inr h

theorem list_one (s : ByteArray) (h : 0 < s.size) : ∃ t, s.data.toList = s[0] :: t := by
  have hl : 0 < s.data.toList.length := h
  match hs : s.data.toList, hl with
  | a :: t, _ =>
    have e0 : s[0] = s.data.toList[0] := rfl
    exact ⟨t, by simp [e0, hs]⟩
theorem list_two (s : ByteArray) (h : 1 < s.size) : ∃ u, s.data.toList = s[0] :: s[1] :: u := by
  have hl : 1 < s.data.toList.length := h
  match hs : s.data.toList, hl with
  | a :: b :: u, _ =>
    have e0 : s[0] = s.data.toList[0] := rfl
    have e1 : s[1] = s.data.toList[1] := rfl
    exact ⟨u, by simp [e0, e1, hs]⟩
theorem ne_byte {a : UInt8} {n : Nat} (h : ¬ (a.toNat : Int) = n) (hn : n < 256) : a ≠ n.toUInt8 := by
  intro e; subst e; apply h; simp; omega
theorem eq_byte {a : UInt8} {n : Nat} (h : (a.toNat : Int) = n) : a = n.toUInt8 := by
  have : a.toNat = n := by omega
  subst this; simp
theorem mean_plain (s : ByteArray) (h : 0 < s.size) (h0 : ¬ (s[0].toNat : Int) = 92) : mean s.data.toList = s[0].toNat := by
  obtain ⟨t, ht⟩ := list_one s h
  have : s[0] ≠ 92 := ne_byte (n := 92) h0 (by omega)
  rw [ht]; simp only [mean]; rw [if_pos this]
theorem mean_lone (s : ByteArray) (h : s.size = 1) : mean s.data.toList = s[0].toNat := by
  obtain ⟨t, ht⟩ := list_one s (by omega)
  have hl : s.data.toList.length = 1 := h
  rw [ht] at hl
  obtain rfl : t = [] := by simpa using hl
  rw [ht]; simp only [mean]
  split
  · rfl
  · rename_i h; simp at h; rw [h]; rfl
theorem mean_sign (s : ByteArray) (h : 1 < s.size) (h0 : (s[0].toNat : Int) = 92) : mean s.data.toList = if (s[1].toNat : Int) = 110 then 10 else if (s[1].toNat : Int) = 114 then 13 else if (s[1].toNat : Int) = 116 then 9 else if (s[1].toNat : Int) = 120 then (rhV ((s.data.toList.drop 2).take 2)).toNat else 92 := by
  obtain ⟨u, hu⟩ := list_two s h
  have e0 : s[0] = 92 := eq_byte (n := 92) h0
  have key : ∀ (n : Nat) (hn : n < 256), (s[1] = n.toUInt8) = ((s[1].toNat : Int) = n) := fun n hn => propext ⟨fun e => by rw [e]; simp; omega, fun e => eq_byte e⟩
  have k1 := key 110 (by omega); have k2 := key 114 (by omega); have k3 := key 116 (by omega); have k4 := key 120 (by omega)
  rw [hu, e0]
  simp only [mean, ne_eq, not_true_eq_false, if_false]
  have d : List.drop 2 ((92 : UInt8) :: s[1] :: u) = u := rfl
  rw [d]
  simp only [show (110 : UInt8) = (110 : Nat).toUInt8 from rfl, show (114 : UInt8) = (114 : Nat).toUInt8 from rfl, show (116 : UInt8) = (116 : Nat).toUInt8 from rfl, show (120 : UInt8) = (120 : Nat).toUInt8 from rfl, k1, k2, k3, k4]
  rfl
theorem size_list (s : ByteArray) : s.data.toList.length = s.size := rfl

end Go.Proofs.YtnkhdpenmekhdaaGreat.Digit
end

section
namespace Go.Proofs.YtnkhdpenmekhdaaGreat.Brk
open Go.Proofs.YtnkhdpenmekhdaaGreat.Digit


/-- two decimal digits -/
def two (n : Nat) : List UInt8 := [hexd (n / 10), hexd (n % 10)]
theorem two_inj {m n : Nat} (hm : m ≤ 99) (hn : n ≤ 99) (h : two m = two n) : m = n := by
  unfold two at h
  have h1 := hexd_inj (by omega) (by omega) (List.cons.inj h).1
  have h2 := hexd_inj (by omega) (by omega) (List.cons.inj (List.cons.inj h).2).1
  omega
theorem pad_two {n : Nat} (h : n ≤ 99) : padI n 2 = two n := by
  rw [padI_some (by omega)]
  by_cases h9 : n < 10
  · rw [dec_lt (by omega) (by omega)]
    simp only [padL, two, Int.toNat_natCast, show n / 10 = 0 by omega, show n % 10 = n by omega]
    rfl
  · rw [dec_ge (by omega), dec_lt (by omega) (by omega)]
    simp only [padL, two, show ((n : Int) / 10).toNat = n / 10 by omega, show ((n : Int) % 10).toNat = n % 10 by omega]
    rfl
theorem dec_long {n : Nat} (h : 99 < n) : 3 ≤ (dec n).length := by
  have h1 := decN_pos (n / 10 / 10)
  unfold dec
  rw [if_neg (by omega), Int.toNat_natCast, decN_ge (by omega), decN_ge (by omega), List.length_append, List.length_append, List.length_singleton, List.length_singleton]
  omega
theorem pad_long {n : Nat} (h : 99 < n) : padI n 2 = dec n := by
  have := dec_long h
  rw [padI_some (by omega), padL, show (2 : Int).toNat - (dec (n : Int)).length = 0 by omega]
  rfl

open Classical in
/-- the number of two digits that are not both 0 -/
noncomputable def tk (l : List UInt8) : Nat := if h : ∃ n, 1 ≤ n ∧ n ≤ 99 ∧ two n = l then h.choose else 0
theorem tk_some {n : Nat} (h1 : 1 ≤ n) (h2 : n ≤ 99) : tk (two n) = n := by
  have g : ∃ m, 1 ≤ m ∧ m ≤ 99 ∧ two m = two n := ⟨n, h1, h2, rfl⟩
  rw [tk, dif_pos g]
  exact two_inj g.choose_spec.2.1 h2 g.choose_spec.2.2
theorem tk_none {l : List UInt8} (h : ¬ ∃ n, 1 ≤ n ∧ n ≤ 99 ∧ two n = l) : tk l = 0 := by rw [tk, dif_neg h]
theorem tk_is {l : List UInt8} (h : tk l ≠ 0) : 1 ≤ tk l ∧ tk l ≤ 99 ∧ two (tk l) = l := by
  by_cases g : ∃ n, 1 ≤ n ∧ n ≤ 99 ∧ two n = l
  · obtain ⟨n, h1, h2, rfl⟩ := g
    rw [tk_some h1 h2]; exact ⟨h1, h2, rfl⟩
  · exact absurd (tk_none g) h
theorem rh_is {l : List UInt8} (h : rhC l = 0) : ∃ c : Nat, c < 256 ∧ hexS c = l ∧ rhV l = c := by
  by_cases g : ∃ c : Nat, c < 256 ∧ hexS c = l
  · obtain ⟨c, hc, rfl⟩ := g
    exact ⟨c, hc, rfl, (rh_some hc).1⟩
  · rw [(rh_none g).2] at h; omega

/-- no step -/
def no : Op × Nat := (⟨0, [], 0⟩, 0)
/-- the step behind a backslash -/
noncomputable def esc (d : UInt8) (r : List UInt8) : Op × Nat :=
  if d = 92 then (⟨1, [92], 0⟩, 2) else if d = 114 then (⟨1, [13], 0⟩, 2) else if d = 110 then (⟨1, [10], 0⟩, 2) else if d = 116 then (⟨1, [9], 0⟩, 2)
  else if d = 100 then (⟨2, [], 1⟩, 2) else if d = 122 then (⟨3, [], 0⟩, 2)
  else if d = 120 then (if rhC (r.take 2) = 0 then (⟨1, [(rhV (r.take 2)).toNat.toUInt8], 0⟩, 4) else no)
  else if d = 119 then (if tk (r.take 2) = 0 then no else (⟨2, [], tk (r.take 2)⟩, 4)) else no
/-- the step that a text begins with, and how many bytes it has; 0: none -/
noncomputable def one : List UInt8 → Op × Nat
  | [] => no
  | [c] => if 32 ≤ c.toNat ∧ c.toNat ≤ 126 ∧ c ≠ 92 then (⟨1, [c], 0⟩, 1) else no
  | c :: d :: r => if c = 92 then esc d r else if 32 ≤ c.toNat ∧ c.toNat ≤ 126 then (⟨1, [c], 0⟩, 1) else no
theorem one_nil : one [] = no := rfl
theorem one_plain {c : UInt8} (t : List UInt8) (h1 : 32 ≤ c.toNat) (h2 : c.toNat ≤ 126) (h3 : c ≠ 92) : one (c :: t) = (⟨1, [c], 0⟩, 1) := by
  cases t with
  | nil => rw [one, if_pos ⟨h1, h2, h3⟩]
  | cons d r => rw [one, if_neg h3, if_pos ⟨h1, h2⟩]
theorem one_bad {c : UInt8} (t : List UInt8) (h : ¬ (32 ≤ c.toNat ∧ c.toNat ≤ 126)) (h3 : c ≠ 92) : one (c :: t) = no := by
  cases t with
  | nil => rw [one, if_neg (fun g => h ⟨g.1, g.2.1⟩)]
  | cons d r => rw [one, if_neg h3, if_neg h]
theorem one_lone : one [92] = no := by rw [one, if_neg (by simp)]
theorem one_esc (d : UInt8) (r : List UInt8) : one (92 :: d :: r) = esc d r := by rw [one, if_pos rfl]

/-- a step of one sign -/
def St (x : Op) : Prop := (∃ c, x = ⟨1, [c], 0⟩) ∨ (∃ n : Nat, 1 ≤ n ∧ n ≤ 99 ∧ x = ⟨2, [], n⟩) ∨ x = ⟨3, [], 0⟩
theorem esc_st (d : UInt8) (r : List UInt8) : esc d r = no ∨ (St (esc d r).1 ∧ 1 ≤ (esc d r).2 ∧ (esc d r).2 ≤ r.length + 2) := by
  unfold esc
  by_cases e1 : d = 92
  · rw [if_pos e1]; exact .inr ⟨.inl ⟨_, rfl⟩, by simp, by simp⟩
  rw [if_neg e1]
  by_cases e2 : d = 114
  · rw [if_pos e2]; exact .inr ⟨.inl ⟨_, rfl⟩, by simp, by simp⟩
  rw [if_neg e2]
  by_cases e3 : d = 110
  · rw [if_pos e3]; exact .inr ⟨.inl ⟨_, rfl⟩, by simp, by simp⟩
  rw [if_neg e3]
  by_cases e4 : d = 116
  · rw [if_pos e4]; exact .inr ⟨.inl ⟨_, rfl⟩, by simp, by simp⟩
  rw [if_neg e4]
  by_cases e5 : d = 100
  · rw [if_pos e5]; exact .inr ⟨.inr (.inl ⟨1, by omega, by omega, rfl⟩), by simp, by simp⟩
  rw [if_neg e5]
  by_cases e6 : d = 122
  · rw [if_pos e6]; exact .inr ⟨.inr (.inr rfl), by simp, by simp⟩
  rw [if_neg e6]
  by_cases e7 : d = 120
  · rw [if_pos e7]
    by_cases h : rhC (r.take 2) = 0
    · rw [if_pos h]
      obtain ⟨c, _, e, _⟩ := rh_is h
      have hl := congrArg List.length e
      rw [List.length_take] at hl
      refine .inr ⟨.inl ⟨_, rfl⟩, by simp, ?_⟩
      simp [hexS] at hl ⊢; omega
    · rw [if_neg h]; exact .inl rfl
  rw [if_neg e7]
  by_cases e8 : d = 119
  · rw [if_pos e8]
    by_cases h : tk (r.take 2) = 0
    · rw [if_pos h]; exact .inl rfl
    · rw [if_neg h]
      obtain ⟨h1, h2, e⟩ := tk_is h
      have hl := congrArg List.length e
      rw [List.length_take] at hl
      refine .inr ⟨.inr (.inl ⟨_, h1, h2, rfl⟩), by simp, ?_⟩
      simp [two] at hl ⊢; omega
  · rw [if_neg e8]; exact .inl rfl
theorem one_st (l : List UInt8) : one l = no ∨ (St (one l).1 ∧ 1 ≤ (one l).2 ∧ (one l).2 ≤ l.length) := by
  match l with
  | [] => exact .inl rfl
  | [c] =>
    rw [one]
    by_cases h : 32 ≤ c.toNat ∧ c.toNat ≤ 126 ∧ c ≠ 92
    · rw [if_pos h]; exact .inr ⟨.inl ⟨_, rfl⟩, by simp, by simp⟩
    · rw [if_neg h]; exact .inl rfl
  | c :: d :: r =>
    rw [one]
    by_cases h : c = 92
    · rw [if_pos h]; simpa using esc_st d r
    · rw [if_neg h]
      by_cases h : 32 ≤ c.toNat ∧ c.toNat ≤ 126
      · rw [if_pos h]; exact .inr ⟨.inl ⟨_, rfl⟩, by simp, by simp⟩
      · rw [if_neg h]; exact .inl rfl
theorem one_no {l : List UInt8} (h : (one l).2 = 0) : one l = no := by
  rcases one_st l with h1 | ⟨_, h1, _⟩
  · exact h1
  · omega
theorem one_yes {l : List UInt8} (h : (one l).2 ≠ 0) : St (one l).1 ∧ 1 ≤ (one l).2 ∧ (one l).2 ≤ l.length := by
  rcases one_st l with h1 | h1
  · rw [h1] at h; exact absurd rfl h
  · exact h1

/-- two steps that are to be one -/
def isOne (x y : Op) : Bool := x.k == y.k && x.k != 3
def glue (x y : Op) : Op := ⟨x.k, x.s ++ y.s, x.n + y.n⟩
/-- a step put behind others -/
def bhd (acc : List Op) (x : Op) : List Op :=
  match acc.getLast? with
  | none => [x]
  | some y => if isOne y x = true then acc.dropLast ++ [glue y x] else acc ++ [x]
theorem bhd_nil (x : Op) : bhd [] x = [x] := rfl
theorem bhd_one {L : List Op} {y x : Op} (h : isOne y x = true) : bhd (L ++ [y]) x = L ++ [glue y x] := by
  unfold bhd
  rw [List.getLast?_concat]
  show (if isOne y x = true then _ else _) = _
  rw [if_pos h, List.dropLast_concat]
theorem bhd_two {L : List Op} {y x : Op} (h : isOne y x = false) : bhd (L ++ [y]) x = L ++ [y] ++ [x] := by
  unfold bhd
  rw [List.getLast?_concat]
  show (if isOne y x = true then _ else _) = _
  rw [if_neg (by simp [h])]
theorem snoc_cases {α : Type} (l : List α) : l = [] ∨ ∃ L y, l = L ++ [y] := by
  by_cases h : l = []
  · exact .inl h
  · exact .inr ⟨_, _, (List.dropLast_concat_getLast h).symm⟩

def endO (acc : List Op) : List UInt8 → Option (List Op)
  | [] => some acc
  | _ :: _ => none
/-- the steps of a text, behind others -/
noncomputable def rdF (acc : List Op) (l : List UInt8) : Option (List Op) :=
  if _h : (one l).2 = 0 then endO acc l else rdF (bhd acc (one l).1) (l.drop (one l).2)
termination_by l.length
decreasing_by
  have := one_yes _h
  rw [List.length_drop]; omega
theorem rdF_nil (acc : List Op) : rdF acc [] = some acc := by rw [rdF, dif_pos (show (one []).2 = 0 from rfl)]; rfl
theorem rdF_no {acc : List Op} {l : List UInt8} (h0 : l ≠ []) (h : (one l).2 = 0) : rdF acc l = none := by
  rw [rdF, dif_pos h]
  cases l with
  | nil => exact absurd rfl h0
  | cons a t => rfl
theorem rdF_yes {acc : List Op} {l : List UInt8} (h : (one l).2 ≠ 0) : rdF acc l = rdF (bhd acc (one l).1) (l.drop (one l).2) := by
  rw [rdF, dif_neg h]
theorem rdF_step {acc : List Op} {t r : List UInt8} {x : Op} (h : one (t ++ r) = (x, t.length)) (ht : t ≠ []) : rdF acc (t ++ r) = rdF (bhd acc x) r := by
  have := List.length_pos_iff.2 ht
  rw [rdF_yes (by rw [h]; show t.length ≠ 0; omega), h]
  simp

/-- Read's answer -/
noncomputable def rdO (l : List UInt8) : Option (List Op) := rdF [] l
def oC : Option (List Op) → Int
  | some _ => 0
  | none => 3
def oV : Option (List Op) → List Op
  | some l => l
  | none => []
noncomputable def rC (l : List UInt8) : Int := if 255 < l.length then 5 else oC (rdF [] l)
noncomputable def rV (l : List UInt8) : List Op := if 255 < l.length then [] else oV (rdF [] l)
theorem r_big {l : List UInt8} (h : 255 < l.length) : rC l = 5 ∧ rV l = [] := by rw [rC, rV, if_pos h, if_pos h]; exact ⟨rfl, rfl⟩
theorem r_some {l : List UInt8} {r : List Op} (h : ¬ 255 < l.length) (hr : rdF [] l = some r) : rC l = 0 ∧ rV l = r := by rw [rC, rV, if_neg h, if_neg h, hr]; exact ⟨rfl, rfl⟩
theorem r_none {l : List UInt8} (h : ¬ 255 < l.length) (hr : rdF [] l = none) : rC l = 3 ∧ rV l = [] := by rw [rC, rV, if_neg h, if_neg h, hr]; exact ⟨rfl, rfl⟩

/-! ### how much they are -/
def cst : List Op → Int
  | [] => 0
  | x :: l => x.n + cst l
def byt : List Op → List UInt8
  | [] => []
  | x :: l => x.s ++ byt l
theorem cst_app (l m : List Op) : cst (l ++ m) = cst l + cst m := by
  induction l with
  | nil => simp [cst]
  | cons x l ih => simp only [List.cons_append, cst, ih]; omega
theorem byt_app (l m : List Op) : byt (l ++ m) = byt l ++ byt m := by
  induction l with
  | nil => simp [byt]
  | cons x l ih => simp only [List.cons_append, byt, ih, List.append_assoc]
theorem cst_one (x : Op) : cst [x] = x.n := by simp [cst]
theorem byt_one (x : Op) : byt [x] = x.s := by simp [byt]
/-- a step that may be -/
def Ok (x : Op) : Prop := (x.k = 1 ∧ x.s ≠ [] ∧ x.n = 0) ∨ (x.k = 2 ∧ x.s = [] ∧ 1 ≤ x.n) ∨ (x.k = 3 ∧ x.s = [] ∧ x.n = 0)
theorem St.ok {x : Op} (h : St x) : Ok x := by
  rcases h with ⟨c, rfl⟩ | ⟨n, h1, _, rfl⟩ | rfl
  · exact .inl ⟨rfl, by simp, rfl⟩
  · exact .inr (.inl ⟨rfl, rfl, by show (1 : Int) ≤ (n : Int); omega⟩)
  · exact .inr (.inr ⟨rfl, rfl, rfl⟩)
theorem Ok.pos {x : Op} (h : Ok x) : 0 ≤ x.n := by rcases h with ⟨_, _, h⟩ | ⟨_, _, h⟩ | ⟨_, _, h⟩ <;> omega
theorem Ok.glue {x y : Op} (h : Ok x) (g : Ok y) (e : isOne x y = true) : Ok (glue x y) := by
  simp only [isOne, Bool.and_eq_true, beq_iff_eq, bne_iff_ne] at e
  obtain ⟨e1, e2⟩ := e
  rcases h with ⟨a, b, c⟩ | ⟨a, b, c⟩ | ⟨a, b, c⟩
  · rcases g with ⟨a', b', c'⟩ | ⟨a', _⟩ | ⟨a', _⟩
    · exact .inl ⟨a, by simp [Brk.glue, b], by show x.n + y.n = 0; omega⟩
    · omega
    · omega
  · rcases g with ⟨a', b', c'⟩ | ⟨a', b', c'⟩ | ⟨a', _⟩
    · omega
    · exact .inr (.inl ⟨a, by simp [Brk.glue, b, b'], by show 1 ≤ x.n + y.n; omega⟩)
    · omega
  · omega
/-- how much was read out of so many bytes -/
structure Bd (acc : List Op) (c : Nat) : Prop where
  len : acc.length ≤ c
  byt : (byt acc).length ≤ c
  cst : cst acc ≤ 99 * c
  ok : ∀ x ∈ acc, Ok x
theorem St.cst {x : Op} (h : St x) : x.n ≤ 99 ∧ x.s.length ≤ 1 := by
  rcases h with ⟨c, rfl⟩ | ⟨n, _, h2, rfl⟩ | rfl
  · exact ⟨by show (0 : Int) ≤ 99; omega, by simp⟩
  · exact ⟨by show (n : Int) ≤ 99; omega, by simp⟩
  · exact ⟨by show (0 : Int) ≤ 99; omega, by simp⟩
theorem Bd.nil : Bd [] 0 := ⟨by simp, by simp [Brk.byt], by simp [Brk.cst], fun _ h => by simp at h⟩
theorem Bd.mono {acc : List Op} {c d : Nat} (h : Bd acc c) (hd : c ≤ d) : Bd acc d := ⟨Nat.le_trans h.len hd, Nat.le_trans h.byt hd, by have := h.cst; omega, h.ok⟩
theorem Bd.step {acc : List Op} {c m : Nat} {x : Op} (h : Bd acc c) (hx : St x) (hm : 1 ≤ m) : Bd (bhd acc x) (c + m) := by
  obtain ⟨x1, x2⟩ := hx.cst
  obtain ⟨h1, h2, h3, h4⟩ := h
  rcases snoc_cases acc with rfl | ⟨L, y, rfl⟩
  · rw [bhd_nil]
    exact ⟨by simp; omega, by rw [byt_one]; omega, by rw [cst_one]; omega, fun z hz => by rw [List.mem_singleton.1 hz]; exact hx.ok⟩
  · rw [List.length_append, List.length_singleton] at h1
    rw [byt_app, byt_one, List.length_append] at h2
    rw [cst_app, cst_one] at h3
    cases e : isOne y x with
    | true =>
      rw [bhd_one e]
      refine ⟨by rw [List.length_append, List.length_singleton]; omega, ?_, ?_, fun z hz => ?_⟩
      · rw [byt_app, byt_one, List.length_append]
        show (Brk.byt L).length + (y.s ++ x.s).length ≤ _
        rw [List.length_append]; omega
      · rw [cst_app, cst_one]
        show Brk.cst L + (y.n + x.n) ≤ _
        omega
      · rcases List.mem_append.1 hz with hz | hz
        · exact h4 z (List.mem_append.2 (.inl hz))
        · rw [List.mem_singleton.1 hz]
          exact (h4 y (List.mem_append.2 (.inr (List.mem_singleton.2 rfl)))).glue hx.ok e
    | false =>
      rw [bhd_two e]
      refine ⟨by simp only [List.length_append, List.length_singleton]; omega, ?_, ?_, fun z hz => ?_⟩
      · rw [byt_app, byt_app, byt_one, byt_one, List.length_append, List.length_append]; omega
      · rw [cst_app, cst_app, cst_one, cst_one]; omega
      · rcases List.mem_append.1 hz with hz | hz
        · exact h4 z hz
        · rw [List.mem_singleton.1 hz]; exact hx.ok
theorem rd_bd : ∀ (k : Nat) (l : List UInt8) (acc r : List Op) (c : Nat), l.length = k → Bd acc c → rdF acc l = some r → Bd r (c + l.length) := by
  intro k
  induction k using Nat.strongRecOn with
  | ind k ih =>
    intro l acc r c hk h hr
    by_cases h0 : (one l).2 = 0
    · cases l with
      | nil => rw [rdF_nil] at hr; cases hr; exact h.mono (by omega)
      | cons a t => rw [rdF_no (by simp) h0] at hr; cases hr
    · obtain ⟨s1, s2, s3⟩ := one_yes h0
      rw [rdF_yes h0] at hr
      have := ih (l.drop (one l).2).length (by rw [List.length_drop]; omega) (l.drop (one l).2) _ r (c + (one l).2) rfl (h.step s1 s2) hr
      rw [List.length_drop] at this
      exact this.mono (by omega)
theorem r_bd (l : List UInt8) : Bd (rV l) l.length := by
  by_cases h : 255 < l.length
  · rw [(r_big h).2]; exact Bd.nil.mono (Nat.zero_le _)
  · cases hr : rdF [] l with
    | none => rw [(r_none h hr).2]; exact Bd.nil.mono (Nat.zero_le _)
    | some r =>
      rw [(r_some h hr).2]
      have := rd_bd _ l [] r 0 rfl Bd.nil hr
      rwa [Nat.zero_add] at this

/-! ### steps that may stand so -/
def okAt (l : List Op) (i : Nat) : Prop := ∃ x, l[i]? = some x ∧ Ok x ∧ (0 < i → ∃ y, l[i - 1]? = some y ∧ isOne y x = false)
def Good (l : List Op) : Prop := ∀ i, i < l.length → okAt l i
theorem good_nil : Good [] := fun i h => absurd h (by simp)
theorem good_snoc {l : List Op} {x : Op} (h : Good l) (hx : Ok x) (hy : ∀ L y, l = L ++ [y] → isOne y x = false) : Good (l ++ [x]) := by
  intro i hi
  rw [List.length_append, List.length_singleton] at hi
  by_cases hlt : i < l.length
  · obtain ⟨z, e, ho, hp⟩ := h i hlt
    refine ⟨z, by rw [List.getElem?_append_left hlt]; exact e, ho, fun h0 => ?_⟩
    obtain ⟨y, e2, hq⟩ := hp h0
    exact ⟨y, by rw [List.getElem?_append_left (by omega)]; exact e2, hq⟩
  · obtain rfl : i = l.length := by omega
    refine ⟨x, by simp, hx, fun h0 => ?_⟩
    rcases snoc_cases l with rfl | ⟨L, y, rfl⟩
    · simp at h0
    · refine ⟨y, ?_, hy L y rfl⟩
      rw [List.getElem?_append_left (by omega), List.length_append, List.length_singleton, Nat.add_sub_cancel]
      simp
theorem good_left {l m : List Op} (h : Good (l ++ m)) : Good l := by
  intro i hi
  obtain ⟨x, e, ho, hp⟩ := h i (by rw [List.length_append]; omega)
  rw [List.getElem?_append_left hi] at e
  refine ⟨x, e, ho, fun h0 => ?_⟩
  obtain ⟨y, e2, hq⟩ := hp h0
  rw [List.getElem?_append_left (by omega)] at e2
  exact ⟨y, e2, hq⟩
theorem good_mid {l m : List Op} {x : Op} (h : Good (l ++ x :: m)) : Ok x ∧ ∀ L y, l = L ++ [y] → isOne y x = false := by
  obtain ⟨z, e, ho, hp⟩ := h l.length (by simp)
  have e' : z = x := by
    rw [List.getElem?_append_right (by omega), Nat.sub_self] at e
    simpa using e.symm
  subst e'
  refine ⟨ho, fun L y hL => ?_⟩
  subst hL
  obtain ⟨y', e2, hq⟩ := hp (by simp)
  rw [List.getElem?_append_left (by simp), List.length_append, List.length_singleton, Nat.add_sub_cancel] at e2
  have : y' = y := by simpa using e2.symm
  rw [← this]; exact hq
theorem good_bhd {acc : List Op} {x : Op} (h : Good acc) (hx : St x) : Good (bhd acc x) := by
  rcases snoc_cases acc with rfl | ⟨L, y, rfl⟩
  · rw [bhd_nil]; exact good_snoc good_nil hx.ok fun L y e => by simp at e
  · cases e : isOne y x with
    | true =>
      rw [bhd_one e]
      obtain ⟨hy, hp⟩ := good_mid (m := []) h
      refine good_snoc (good_left h) (hy.glue hx.ok e) fun M z hM => ?_
      have := hp M z hM
      simpa [isOne, glue] using this
    | false =>
      rw [bhd_two e]
      refine good_snoc h hx.ok fun M z hM => ?_
      have := List.append_inj_right' hM rfl
      rw [← (List.cons.inj this).1]; exact e
theorem rd_good : ∀ (k : Nat) (l : List UInt8) (acc r : List Op), l.length = k → Good acc → rdF acc l = some r → Good r := by
  intro k
  induction k using Nat.strongRecOn with
  | ind k ih =>
    intro l acc r hk h hr
    by_cases h0 : (one l).2 = 0
    · cases l with
      | nil => rw [rdF_nil] at hr; cases hr; exact h
      | cons a t => rw [rdF_no (by simp) h0] at hr; cases hr
    · obtain ⟨s1, s2, s3⟩ := one_yes h0
      rw [rdF_yes h0] at hr
      exact ih (l.drop (one l).2).length (by rw [List.length_drop]; omega) (l.drop (one l).2) _ r rfl (good_bhd h s1) hr
theorem r_good (l : List UInt8) : Good (rV l) := by
  by_cases h : 255 < l.length
  · rw [(r_big h).2]; exact good_nil
  · cases hr : rdF [] l with
    | none => rw [(r_none h hr).2]; exact good_nil
    | some r => rw [(r_some h hr).2]; exact rd_good _ l [] r rfl good_nil hr

/-! ### steps as text -/
def wsg (n : Nat) : List UInt8 := if n = 1 then [92, 100] else 92 :: 119 :: two n
def w99 : List UInt8 := [92, 119, 57, 57]
def wtx (n : Nat) : List UInt8 := if _h : n ≤ 99 then wsg n else w99 ++ wtx (n - 99)
termination_by n
theorem wtx_le {n : Nat} (h : n ≤ 99) : wtx n = wsg n := by rw [wtx, dif_pos h]
theorem wtx_gt {n : Nat} (h : ¬ n ≤ 99) : wtx n = w99 ++ wtx (n - 99) := by rw [wtx, dif_neg h]
theorem wsg_len (n : Nat) : 2 ≤ (wsg n).length ∧ (wsg n).length ≤ 4 := by
  unfold wsg; split <;> simp [two]
theorem w99_is : wsg 99 = w99 := by decide
def reps (f : Nat) : List UInt8 := (List.replicate f w99).flatten
theorem reps_succ (f : Nat) : reps (f + 1) = w99 ++ reps f := by simp [reps, List.replicate_succ]
theorem reps_snoc (f : Nat) : reps (f + 1) = reps f ++ w99 := by
  induction f with
  | zero => simp [reps]
  | succ f ih => rw [reps_succ (f + 1), reps_succ f, List.append_assoc, ← ih, reps_succ]
theorem reps_len (f : Nat) : (reps f).length = 4 * f := by
  induction f with
  | zero => rfl
  | succ f ih => rw [reps_succ, List.length_append, ih]; simp [w99]; omega
theorem wtx_reps (f k : Nat) (h1 : 1 ≤ k) : wtx (99 * f + k) = reps f ++ wtx k := by
  induction f with
  | zero => simp [reps]
  | succ f ih =>
    rw [wtx_gt (by omega), show 99 * (f + 1) + k - 99 = 99 * f + k by omega, ih, reps_succ, List.append_assoc]
theorem wtx_long {n : Nat} (h : 6336 < n) : 255 < (wtx n).length := by
  have := wtx_reps 64 (n - 6336) (by omega)
  rw [show 99 * 64 + (n - 6336) = n by omega] at this
  rw [this, List.length_append, reps_len]; omega
def tx (x : Op) : List UInt8 := if x.k = 1 then shw x.s else if x.k = 2 then wtx x.n.toNat else [92, 122]
def txt (l : List Op) : List UInt8 := l.flatMap tx
theorem txt_cons (x : Op) (l : List Op) : txt (x :: l) = tx x ++ txt l := by simp [txt]
theorem txt_app (l m : List Op) : txt (l ++ m) = txt l ++ txt m := by simp [txt]
theorem txt_one (x : Op) : txt [x] = tx x := by simp [txt]
theorem shw_ge (l : List UInt8) : l.length ≤ (shw l).length := by
  induction l with
  | nil => simp
  | cons c l ih => rw [shw_cons, List.length_append, List.length_cons]; have := sgn_len c.toNat; omega

/-- the same, as far as it may matter -/
def Near (T t : List UInt8) : Prop := T = t ∨ (255 < T.length ∧ 255 < t.length)
theorem Near.refl (t : List UInt8) : Near t t := .inl rfl
theorem Near.app {T t U u : List UInt8} (h : Near T t) (g : Near U u) : Near (T ++ U) (t ++ u) := by
  rcases h with rfl | ⟨h1, h2⟩
  · rcases g with rfl | ⟨g1, g2⟩
    · exact .inl rfl
    · exact .inr ⟨by rw [List.length_append]; omega, by rw [List.length_append]; omega⟩
  · exact .inr ⟨by rw [List.length_append]; omega, by rw [List.length_append]; omega⟩
theorem Near.big {T t : List UInt8} (h : Near T t) (U : List UInt8) (ht : 255 < t.length) : Near (T ++ U) t := by
  rcases h with rfl | ⟨h1, h2⟩
  · exact .inr ⟨by rw [List.length_append]; omega, ht⟩
  · exact .inr ⟨by rw [List.length_append]; omega, h2⟩
theorem Near.fit {T t : List UInt8} (h : Near T t) (ht : ¬ 255 < t.length) : T = t := by
  rcases h with h | ⟨_, h⟩
  · exact h
  · exact absurd h ht
theorem Near.not {T t : List UInt8} (h : Near T t) (ht : 255 < t.length) : 255 < T.length := by
  rcases h with rfl | ⟨h, _⟩
  · exact ht
  · exact h
theorem near_show (l : List UInt8) : Near (shw l) (shw (l.take 256)) := by
  by_cases h : l.length ≤ 256
  · rw [List.take_of_length_le h]; exact .inl rfl
  · have h1 := shw_ge l
    have h2 := shw_ge (l.take 256)
    rw [List.length_take] at h2
    exact .inr ⟨by omega, by omega⟩

open Classical in
/-- Put's answer -/
noncomputable def pC (l : List Op) : Int := if Good l then (if 255 < (txt l).length then 5 else 0) else 1
open Classical in
noncomputable def pV (l : List Op) : List UInt8 := if Good l then (if 255 < (txt l).length then [] else txt l) else []
theorem p_bad {l : List Op} (h : ¬ Good l) : pC l = 1 ∧ pV l = [] := by rw [pC, pV, if_neg h, if_neg h]; exact ⟨rfl, rfl⟩
theorem p_big {l : List Op} (h : Good l) (hl : 255 < (txt l).length) : pC l = 5 ∧ pV l = [] := by rw [pC, pV, if_pos h, if_pos h, if_pos hl, if_pos hl]; exact ⟨rfl, rfl⟩
theorem p_fit {l : List Op} (h : Good l) (hl : ¬ 255 < (txt l).length) : pC l = 0 ∧ pV l = txt l := by rw [pC, pV, if_pos h, if_pos h, if_neg hl, if_neg hl]; exact ⟨rfl, rfl⟩

/-! ### what is put is read -/
set_option maxRecDepth 100000 in
theorem one_sgn (c : UInt8) (r : List UInt8) : one (sgn c.toNat ++ r) = (⟨1, [c], 0⟩, (sgn c.toNat).length) := by
  have back : ∀ n : Nat, c.toNat = n → c = n.toUInt8 := fun n e => by rw [← e]; simp
  by_cases e1 : c.toNat = 92
  · have := back 92 e1; subst this; exact one_esc 92 r
  by_cases e2 : c.toNat = 10
  · have := back 10 e2; subst this; exact one_esc 110 r
  by_cases e3 : c.toNat = 13
  · have := back 13 e3; subst this; exact one_esc 114 r
  by_cases e4 : c.toNat = 9
  · have := back 9 e4; subst this; exact one_esc 116 r
  rw [sgn_other e1 e2 e3 e4]
  by_cases h : c.toNat < 32 ∨ 126 < c.toNat
  · rw [if_pos h]
    show one (92 :: 120 :: (hexS c.toNat ++ r)) = _
    have e : (hexS c.toNat ++ r).take 2 = hexS c.toNat := by simp [hexS]
    obtain ⟨h1, h2⟩ := rh_some c.toNat_lt
    have ec : esc 120 (hexS c.toNat ++ r) = if rhC ((hexS c.toNat ++ r).take 2) = 0 then (⟨1, [(rhV ((hexS c.toNat ++ r).take 2)).toNat.toUInt8], 0⟩, 4) else no := rfl
    rw [one_esc, ec, e, h1, h2, if_pos rfl]
    simp [hexS]
  · rw [if_neg h]
    have : c.toNat.toUInt8 = c := by simp
    rw [this]
    exact one_plain r (by omega) (by omega) (fun e => e1 (by rw [e]; rfl))
theorem one_wsg {n : Nat} (h1 : 1 ≤ n) (h2 : n ≤ 99) (r : List UInt8) : one (wsg n ++ r) = (⟨2, [], n⟩, (wsg n).length) := by
  by_cases e : n = 1
  · subst e; exact one_esc 100 r
  · have ew : wsg n = 92 :: 119 :: two n := if_neg e
    rw [ew]
    show one (92 :: 119 :: (two n ++ r)) = _
    have et : (two n ++ r).take 2 = two n := by simp [two]
    have ec : esc 119 (two n ++ r) = if tk ((two n ++ r).take 2) = 0 then no else (⟨2, [], tk ((two n ++ r).take 2)⟩, 4) := rfl
    rw [one_esc, ec, et, tk_some h1 h2, if_neg (by omega)]
    simp [two]
theorem one_brk (r : List UInt8) : one ([92, 122] ++ r) = (⟨3, [], 0⟩, 2) := one_esc 122 r
theorem sgn_ne (n : Nat) : sgn n ≠ [] := fun e => by have := (sgn_len n).1; rw [e] at this; simp at this
theorem wsg_ne (n : Nat) : wsg n ≠ [] := fun e => by have := (wsg_len n).1; rw [e] at this; simp at this
theorem send_more (cs : List UInt8) : ∀ (acc : List Op) (p r : List UInt8), rdF (acc ++ [⟨1, p, 0⟩]) (shw cs ++ r) = rdF (acc ++ [⟨1, p ++ cs, 0⟩]) r := by
  induction cs with
  | nil => intro acc p r; simp [shw]
  | cons c cs ih =>
    intro acc p r
    rw [shw_cons, List.append_assoc, rdF_step (one_sgn c _) (sgn_ne _), bhd_one (by rfl)]
    show rdF (acc ++ [⟨1, p ++ [c], 0⟩]) _ = _
    rw [ih, List.append_assoc]; rfl
theorem wait_more : ∀ (k N : Nat), N = k → 1 ≤ N → ∀ (acc : List Op) (m : Int) (r : List UInt8), rdF (acc ++ [⟨2, [], m⟩]) (wtx N ++ r) = rdF (acc ++ [⟨2, [], m + N⟩]) r := by
  intro k
  induction k using Nat.strongRecOn with
  | ind k ih =>
    intro N hk h1 acc m r
    by_cases h : N ≤ 99
    · rw [wtx_le h, rdF_step (one_wsg h1 h r) (wsg_ne _), bhd_one (by rfl)]; rfl
    · rw [wtx_gt h, List.append_assoc, ← w99_is, rdF_step (one_wsg (by omega) (by omega) _) (wsg_ne _), bhd_one (by rfl)]
      show rdF (acc ++ [⟨2, [], m + 99⟩]) _ = _
      rw [ih (N - 99) (by omega) (N - 99) rfl (by omega)]
      rw [show m + 99 + ((N - 99 : Nat) : Int) = m + (N : Int) by omega]
theorem bhd_new {acc : List Op} {x : Op} (h : ∀ L y, acc = L ++ [y] → isOne y x = false) : bhd acc x = acc ++ [x] := by
  rcases snoc_cases acc with rfl | ⟨L, y, rfl⟩
  · rfl
  · exact bhd_two (h L y rfl)
theorem rd_one {acc : List Op} {x : Op} (hx : Ok x) (h : ∀ L y, acc = L ++ [y] → isOne y x = false) (r : List UInt8) : rdF acc (tx x ++ r) = rdF (acc ++ [x]) r := by
  obtain ⟨k, s, n⟩ := x
  rcases hx with ⟨a, b, c⟩ | ⟨a, b, c⟩ | ⟨a, b, c⟩
  · simp only at a b c
    subst a c
    cases s with
    | nil => exact absurd rfl b
    | cons c cs =>
      show rdF acc (shw (c :: cs) ++ r) = _
      rw [shw_cons, List.append_assoc, rdF_step (one_sgn c _) (sgn_ne _), bhd_new (x := ⟨1, [c], 0⟩) (fun L y e => h L y e), send_more]; rfl
  · simp only at a b c
    subst a b
    obtain ⟨N, rfl⟩ : ∃ N : Nat, n = N := ⟨n.toNat, by omega⟩
    show rdF acc (wtx N ++ r) = _
    by_cases h9 : N ≤ 99
    · rw [wtx_le h9, rdF_step (one_wsg (by omega) h9 r) (wsg_ne _), bhd_new (fun L y e => h L y e)]
    · rw [wtx_gt h9, List.append_assoc, ← w99_is, rdF_step (one_wsg (by omega) (by omega) _) (wsg_ne _), bhd_new (x := ⟨2, [], (99 : Nat)⟩) (fun L y e => h L y e), wait_more _ _ rfl (by omega)]
      rw [show ((99 : Nat) : Int) + ((N - 99 : Nat) : Int) = (N : Int) by omega]
  · simp only at a b c
    subst a b c
    show rdF acc ([92, 122] ++ r) = _
    rw [rdF_step (one_brk r) (by simp), bhd_new (fun L y e => h L y e)]
theorem rd_txt (l : List Op) : ∀ (acc : List Op) (r : List UInt8), Good (acc ++ l) → rdF acc (txt l ++ r) = rdF (acc ++ l) r := by
  induction l with
  | nil => intro acc r _; simp [txt]
  | cons x l ih =>
    intro acc r h
    obtain ⟨hx, hp⟩ := good_mid h
    rw [txt_cons, List.append_assoc, rd_one hx hp, ih _ _ (by simpa using h)]
    simp
theorem read_put {l : List Op} (h : Good l) (hl : ¬ 255 < (txt l).length) : rC (txt l) = 0 ∧ rV (txt l) = l := by
  refine r_some hl ?_
  have := rd_txt l [] [] (by simpa using h)
  simpa [rdF_nil] using this
end Go.Proofs.YtnkhdpenmekhdaaGreat.Brk
end

section
namespace Go.Proofs.YtnkhdpenmekhdaaGreat.Lin
open Go.Proofs.YtnkhdpenmekhdaaGreat.Calc Go.Proofs.YtnkhdpenmekhdaaGreat.Run Go.Proofs.YtnkhdpenmekhdaaGreat.Bkf


abbrev Op := Go.Proofs.YtnkhdpenmekhdaaGreat.Brk.Op
abbrev Ou := Int × List UInt8
def oF (x : Op) : Ou := if x.k = 1 then (3, x.s) else (4, [])
theorem oF_one {x : Op} (h : x.k = 1) : oF x = (3, x.s) := if_pos h
theorem oF_no {x : Op} (h : x.k ≠ 1) : oF x = (4, []) := if_neg h
def oW (s : List UInt8) : List Ou := if s = [] then [] else [(3, s)]
theorem oW_nil : oW [] = [] := rfl
theorem oW_one {s : List UInt8} (h : s ≠ []) : oW s = [(3, s)] := if_neg h
/-- whether something may befall a line then -/
def bef (now : Int) : Bool := decide (0 ≤ now) && decide (now ≤ 549755813888)
theorem bef_iff {now : Int} : bef now = true ↔ 0 ≤ now ∧ now ≤ 549755813888 := by simp [bef]
theorem bef_tick {now : Int} (h : bef now = true) : isT now = true := isT_iff.2 (by have := bef_iff.1 h; omega)

/-- a line: its rule, what it is sent first, its state, failures, until when is waited; what is done, till when, up to when it was asked; what waits -/
structure Ln where
  b : Int
  c : Int
  j : Int
  F : List Op
  st : Int
  n : Nat
  un : Int
  D : List (Int × Op)
  E : Int
  was : Int
  H : List UInt8

/-- no steps, nothing waits -/
def calm (x : Ln) (s : Int) : Ln := ⟨x.b, x.c, x.j, x.F, s, x.n, 0, [], 0, 0, []⟩
def zero (x : Ln) : Ln := { x with n := 0 }
/-- what is due -/
def dueO (x : Ln) (now : Int) : List Ou := (told x.D x.was now).map oF
def goL (x : Ln) (now : Int) : Ln := if now < x.E then { x with was := now } else calm x 4
def goO (x : Ln) (now : Int) : List Ou := if now < x.E then dueO x now else dueO x now ++ oW x.H
theorem goL_on {x : Ln} {now : Int} (h : now < x.E) : goL x now = { x with was := now } := if_pos h
theorem goL_off {x : Ln} {now : Int} (h : ¬ now < x.E) : goL x now = calm x 4 := if_neg h
theorem goO_on {x : Ln} {now : Int} (h : now < x.E) : goO x now = dueO x now := if_pos h
theorem goO_off {x : Ln} {now : Int} (h : ¬ now < x.E) : goO x now = dueO x now ++ oW x.H := if_neg h
/-- steps that begin -/
def runs (x : Ln) (s : Int) (ops : List Op) (now : Int) : Ln := { x with st := s, D := dues now ops, E := ends now ops, was := now - 1 }
def begL (x : Ln) (s : Int) (ops : List Op) (now : Int) : Ln := if chk now ops = 0 then goL (runs x s ops now) now else x
def begO (x : Ln) (s : Int) (ops : List Op) (now : Int) : List Ou := if chk now ops = 0 then goO (runs x s ops now) now else []
theorem begL_yes {x : Ln} {s : Int} {ops : List Op} {now : Int} (h : chk now ops = 0) : begL x s ops now = goL (runs x s ops now) now := if_pos h
theorem begL_no {x : Ln} {s : Int} {ops : List Op} {now : Int} (h : chk now ops ≠ 0) : begL x s ops now = x := if_neg h
theorem begO_yes {x : Ln} {s : Int} {ops : List Op} {now : Int} (h : chk now ops = 0) : begO x s ops now = goO (runs x s ops now) now := if_pos h
theorem begO_no {x : Ln} {s : Int} {ops : List Op} {now : Int} (h : chk now ops ≠ 0) : begO x s ops now = [] := if_neg h
/-- it failed -/
def atL (x : Ln) (now r : Int) : Int := atR x.b x.c x.j x.n now r
def failL (x : Ln) (now r : Int) : Ln := if isT (atL x now r) = true then ⟨x.b, x.c, x.j, x.F, 1, x.n + 1, atL x now r, [], 0, 0, []⟩ else ⟨x.b, x.c, x.j, x.F, 1, x.n, 1099511627776, [], 0, 0, []⟩
theorem failL_yes {x : Ln} {now r : Int} (h : isT (atL x now r) = true) : failL x now r = ⟨x.b, x.c, x.j, x.F, 1, x.n + 1, atL x now r, [], 0, 0, []⟩ := if_pos h
theorem failL_no {x : Ln} {now r : Int} (h : ¬ isT (atL x now r) = true) : failL x now r = ⟨x.b, x.c, x.j, x.F, 1, x.n, 1099511627776, [], 0, 0, []⟩ := if_neg h

def startL (x : Ln) : Ln := if x.st = 0 then calm (zero x) 2 else x
def startO (x : Ln) : List Ou := if x.st = 0 then [(1, [])] else []
def stopL (x : Ln) : Ln := if x.st = 0 then x else calm x 0
def stopO (x : Ln) : List Ou := if x.st = 0 ∨ x.st = 1 then [] else [(2, [])]
/-- whether steps go on -/
def goes (x : Ln) : Prop := x.st = 3 ∨ x.st = 5
instance (x : Ln) : Decidable (goes x) := by unfold goes; exact inferInstance
def openB (x : Ln) (now : Int) : Bool := decide (x.st = 2) && bef now
def openL (x : Ln) (now : Int) (ok : Bool) (r : Int) : Ln := if openB x now = true then (if ok = true then begL (zero x) 3 x.F now else failL x now r) else x
def openO (x : Ln) (now : Int) (ok : Bool) : List Ou := if openB x now = true ∧ ok = true then begO (zero x) 3 x.F now else []
def lostB (x : Ln) (now : Int) : Bool := decide (3 ≤ x.st) && bef now
def lostL (x : Ln) (now r : Int) : Ln := if lostB x now = true then failL x now r else x
def nextI (x : Ln) : Bool := decide (x.st = 1) || decide (goes x)
def nextV (x : Ln) : Int := if x.st = 1 then x.un else if goes x then nxV x.D x.E x.was else 0
def tickB (x : Ln) (now : Int) : Bool := nextI x && (decide (nextV x ≤ now) && bef now)
def tickL (x : Ln) (now : Int) : Ln := if tickB x now = true then (if x.st = 1 then calm x 2 else goL x now) else x
def tickO (x : Ln) (now : Int) : List Ou := if tickB x now = true then (if x.st = 1 then [(1, [])] else goO x now) else []
/-- whether bytes fit behind what waits -/
def fits (x : Ln) (s : List UInt8) : Prop := goes x ∧ s.length + x.H.length ≤ 4096
instance (x : Ln) (s : List UInt8) : Decidable (fits x s) := by unfold fits; exact inferInstance
def sendB (x : Ln) (s : List UInt8) : Bool := decide (x.st = 4) || decide (fits x s)
def sendL (x : Ln) (s : List UInt8) : Ln := if fits x s then { x with H := x.H ++ s } else x
def sendO (x : Ln) (s : List UInt8) : List Ou := if x.st = 4 then oW s else []
def brkC (x : Ln) (now : Int) (ops : List Op) : Int := if x.st = 4 then (if bef now = true then chk now ops else 1) else 9
def brkL (x : Ln) (now : Int) (ops : List Op) : Ln := if brkC x now ops = 0 then goL (runs x 5 ops now) now else x
def brkO (x : Ln) (now : Int) (ops : List Op) : List Ou := if brkC x now ops = 0 then goO (runs x 5 ops now) now else []

/-- what holds of a line that New made -/
structure Good (x : Ln) : Prop where
  rule : okR x.b x.c x.j
  st : 0 ≤ x.st ∧ x.st ≤ 5
  held : x.H.length ≤ 4096
  few : x.F.length ≤ 1000
  first : ∀ now, bef now = true → chk now x.F = 0
  run : goes x → x.was < x.E ∧ Plan x.D x.E
  un : x.st = 1 → 0 ≤ x.un ∧ x.un ≤ 1099511627776
theorem good_calm {x : Ln} (h : Good x) (s : Int) (hs : 0 ≤ s ∧ s ≤ 5) (h3 : s ≠ 3) (h5 : s ≠ 5) : Good (calm x s) := ⟨h.rule, hs, by simp [calm], h.few, h.first, fun hg => by rcases hg with e | e <;> simp [calm] at e <;> omega, fun _ => ⟨by simp [calm], by simp [calm]⟩⟩
theorem good_zero {x : Ln} (h : Good x) : Good (zero x) := ⟨h.rule, h.st, h.held, h.few, h.first, h.run, h.un⟩
theorem good_go {x : Ln} (h : Good x) (hg : goes x) (now : Int) : Good (goL x now) := by
  by_cases hE : now < x.E
  · rw [goL_on hE]
    exact ⟨h.rule, h.st, h.held, h.few, h.first, fun _ => ⟨hE, (h.run hg).2⟩, h.un⟩
  · rw [goL_off hE]
    exact good_calm h 4 (by omega) (by omega) (by omega)
theorem good_runs {x : Ln} (h : Good x) {s : Int} (hs : s = 3 ∨ s = 5) {ops : List Op} {now : Int} (hc : chk now ops = 0) (hl : ops.length ≤ 1000) : Good (runs x s ops now) :=
  ⟨h.rule, by show 0 ≤ s ∧ s ≤ 5; omega, h.held, h.few, h.first, fun _ => ⟨by have := ends_ge (chk_inv hc).2; show now - 1 < ends now ops; omega, plan_of hc hl⟩, fun e => by have e : s = 1 := e; omega⟩
theorem good_fail {x : Ln} (h : Good x) (now r : Int) : Good (failL x now r) := by
  by_cases hT : isT (atL x now r) = true
  · rw [failL_yes hT]
    exact ⟨h.rule, ⟨by show (0 : Int) ≤ 1; omega, by show (1 : Int) ≤ 5; omega⟩, by simp, h.few, h.first, fun hg => by rcases hg with e | e <;> simp at e, fun _ => isT_iff.1 hT⟩
  · rw [failL_no hT]
    exact ⟨h.rule, ⟨by show (0 : Int) ≤ 1; omega, by show (1 : Int) ≤ 5; omega⟩, by simp, h.few, h.first, fun hg => by rcases hg with e | e <;> simp at e, fun _ => ⟨by show (0 : Int) ≤ 1099511627776; omega, Int.le_refl _⟩⟩
theorem goes_runs {x : Ln} {s : Int} (hs : s = 3 ∨ s = 5) (ops : List Op) (now : Int) : goes (runs x s ops now) := hs
/-- steps that Init tells can always be done -/
theorem first_good {s : List UInt8} (h : Brk.rC s = 0) : (Brk.rV s).length ≤ 255 ∧ ∀ now, bef now = true → chk now (Brk.rV s) = 0 := by
  have hs : s.length ≤ 255 := by
    rcases Nat.lt_or_ge 255 s.length with hb | hb
    · rw [(Brk.r_big hb).1] at h; omega
    · exact hb
  have hb := Brk.r_bd s
  refine ⟨Nat.le_trans hb.len hs, fun now hn => ?_⟩
  rw [chk_in (bef_tick hn)]
  have key : ∀ (l : List Op) (a : Int), (∀ x ∈ l, Brk.Ok x) → 0 ≤ a → a + Brk.cst l ≤ 1099511627776 → go a l = 0 := by
    intro l
    induction l with
    | nil => intro a _ _ _; rfl
    | cons x r ih =>
      intro a hl ha hE
      have hx := hl x (by simp)
      have hr : ∀ y ∈ r, Brk.Ok y := fun y hy => hl y (List.mem_cons_of_mem _ hy)
      have hp := hx.pos
      have hcr : 0 ≤ Brk.cst r := by
        clear ih hE hl
        induction r with
        | nil => simp [Brk.cst]
        | cons y r ih => have := ih fun z hz => hr z (List.mem_cons_of_mem _ hz); have := (hr y (by simp)).pos; simp only [Brk.cst]; omega
      simp only [Brk.cst] at hE
      have hI : Is x := by
        rcases hx with ⟨h1, h2, h3⟩ | ⟨h1, h2, h3⟩ | ⟨h1, h2, h3⟩
        · exact .inl ⟨h1, h2, h3⟩
        · exact .inr (.inl ⟨h1, h2, by omega⟩)
        · exact .inr (.inr ⟨h1, h2, h3⟩)
      have h0 : ovC a x = 0 := ov_ok hI ((ov_fit (isT_iff.2 (by omega)) hI).2 (by omega))
      rw [go_ok h0]
      exact ih _ hr (by omega) (by omega)
  have := bef_iff.1 hn
  have := hb.cst
  exact key _ _ hb.ok (by omega) (by omega)
end Go.Proofs.YtnkhdpenmekhdaaGreat.Lin
end

section
namespace Go.Proofs.YtnkhdpenmekhdaaGreat.Calc
open Go.RowKit

theorem dbl_calls (base n most : Int) (w : World) :
    Calls Tryz.prog 80 #[.int .i64 base, .int .i64 n, .int .i64 most] w fun e w' => e = .returned (.tuple #[.int .i64 (dblV base n most), .int .i64 (dblC base n most)]) ∧ w = w' := by
  cases ha : isT base
  · have H : Hid (dblB base n most = false) := Lib.hid (by unfold dblB; rw [ha]; rfl)
    go_enter Tryz.func80, Tryz.ntmps80
    go_wp2_with (go_at_call 68; refine (is_calls _ _).mono ?_; rintro e w' ⟨rfl, rfl⟩)
    go_ret2
    exact ⟨ret_two (by rw [dblV, H.out]; rfl) (by rw [dblC, H.out]; rfl), rfl⟩
  · cases hb : isT most
    · have H : Hid (dblB base n most = false) := Lib.hid (by unfold dblB; rw [ha, hb]; rfl)
      go_enter Tryz.func80, Tryz.ntmps80
      go_wp2_with (go_at_call 68; refine (is_calls _ _).mono ?_; rintro e w' ⟨rfl, rfl⟩)
      go_ret2
      exact ⟨ret_two (by rw [dblV, H.out]; rfl) (by rw [dblC, H.out]; rfl), rfl⟩
    · by_cases hm : most < base
      · have H : Hid (dblB base n most = false) := Lib.hid (by unfold dblB; rw [ha, hb, decide_eq_false (by omega)]; rfl)
        go_enter Tryz.func80, Tryz.ntmps80
        go_wp2_with (go_at_call 68; refine (is_calls _ _).mono ?_; rintro e w' ⟨rfl, rfl⟩)
        go_ret2
        exact ⟨ret_two (by rw [dblV, H.out]; rfl) (by rw [dblC, H.out]; rfl), rfl⟩
      · by_cases hn : n < 0
        · have H : Hid (dblB base n most = false) := Lib.hid (by unfold dblB; rw [decide_eq_false (p := 0 ≤ n) (by omega)]; simp)
          go_enter Tryz.func80, Tryz.ntmps80
          go_wp2_with (go_at_call 68; refine (is_calls _ _).mono ?_; rintro e w' ⟨rfl, rfl⟩)
          go_ret2
          exact ⟨ret_two (by rw [dblV, H.out]; rfl) (by rw [dblC, H.out]; rfl), rfl⟩
        · obtain ⟨a0, a1⟩ := isT_iff.1 ha
          obtain ⟨b0, b1⟩ := isT_iff.1 hb
          have n0 : 0 ≤ n := by omega
          have H : Hid (dblB base n most = true) := Lib.hid (dblB_iff.2 ⟨ha, hb, by omega, n0⟩)
          have HC : Hid (dbl base (min n.toNat 64) most = dbl base n.toNat most) := Lib.hid (dbl_cap base most n a0 (by omega) b1)
          have hq : (most / 2 ^ (min n.toNat 64) < base) ↔ most < base * 2 ^ (min n.toNat 64) := Int.ediv_lt_iff_lt_mul (pow_pos _)
          by_cases hc : most / 2 ^ (min n.toNat 64) < base
          · have HV : Hid (dbl base (min n.toNat 64) most = most) := Lib.hid (by have := hq.1 hc; unfold dbl; omega)
            clear hq
            go_enter Tryz.func80, Tryz.ntmps80
            go_wp2_with (go_at_call 68; refine (is_calls _ _).mono ?_; rintro e w' ⟨rfl, rfl⟩)
            go_ret2
            exact ⟨ret_two (by rw [dblV, H.out, ← HC.out, HV.out]; rfl) (by rw [dblC, H.out]; rfl), rfl⟩
          · have HV : Hid (dbl base (min n.toNat 64) most = base * 2 ^ (min n.toNat 64)) := Lib.hid (by have := mt hq.2 hc; unfold dbl; omega)
            have p0 : 0 ≤ base * 2 ^ (min n.toNat 64) := Int.mul_nonneg a0 (by have := pow_pos (min n.toNat 64); omega)
            have p1 : base * 2 ^ (min n.toNat 64) ≤ 1099511627776 := by have := mt hq.2 hc; omega
            clear hq
            go_enter Tryz.func80, Tryz.ntmps80
            go_wp2_with (go_at_call 68; refine (is_calls _ _).mono ?_; rintro e w' ⟨rfl, rfl⟩)
            go_ret2
            exact ⟨ret_two (by rw [dblV, H.out, ← HC.out, HV.out]; rfl) (by rw [dblC, H.out]; rfl), rfl⟩
end Go.Proofs.YtnkhdpenmekhdaaGreat.Calc
end

section
namespace Go.Proofs.YtnkhdpenmekhdaaGreat.Bkf
open Go.RowKit Go.Proofs.YtnkhdpenmekhdaaGreat.Own Go.Proofs.YtnkhdpenmekhdaaGreat.Rw Go.Proofs.YtnkhdpenmekhdaaGreat.Tree Go.Proofs.YtnkhdpenmekhdaaGreat.Calc

theorem ret_bool {a b : Bool} (h : a = b) : Ending.returned (.bool a) = .returned (.bool b) := by rw [h]
theorem ret_int {a b : Int} (h : a = b) : Ending.returned (.int .i64 a) = .returned (.int .i64 b) := by rw [h]
/-- whether it stands between -/
def inB (n low high : Int) : Bool := decide (low ≤ n ∧ n ≤ high)
set_option maxHeartbeats 1000000 in
theorem within_calls (n low high : Int) (w : World) :
    Calls Tryz.prog 59 #[.int .i64 n, .int .i64 low, .int .i64 high] w fun e w' => e = .returned (.bool (inB n low high)) ∧ w = w' := by
  by_cases h0 : low ≤ n
  · by_cases h1 : n ≤ high
    · have H : Hid (inB n low high = true) := Lib.hid (by simp [inB, h0, h1])
      go_enter Tryz.func59, Tryz.ntmps59
      go_wp2
      go_ret
      exact ⟨ret_bool (by rw [H.out]), rfl⟩
    · have H : Hid (inB n low high = false) := Lib.hid (by simp [inB, h1])
      go_enter Tryz.func59, Tryz.ntmps59
      go_wp2
      go_ret
      exact ⟨ret_bool (by rw [H.out]), rfl⟩
  · have H : Hid (inB n low high = false) := Lib.hid (by simp [inB, h0])
    go_enter Tryz.func59, Tryz.ntmps59
    go_wp2
    go_ret
    exact ⟨ret_bool (by rw [H.out]), rfl⟩
theorem ok_split (b c j : Int) : okR b c j ↔ (inB b 1 3600 = true ∧ inB c b 86400 = true ∧ inB j 0 3600 = true) := by
  unfold okR inB; simp; omega
abbrev ruleV (b c j : Int) : Value := .agg #[.int .i64 b, .int .i64 c, .int .i64 j]
set_option maxHeartbeats 2000000 in
theorem check_calls (b c j : Int) (w : World) :
    Calls Tryz.prog 45 #[.agg #[.int .i64 b, .int .i64 c, .int .i64 j]] w fun e w' => e = .returned (.int .i64 (chkR b c j)) ∧ Below w.heap.size w w' := by
  have hs := ok_split b c j
  have HB := Lib.hid ((Below.refl w.heap.size w).alloc (Nat.le_refl _) (.cells #[.int .i64 b, .int .i64 c, .int .i64 j] 66 (0, 0)))
  cases h0 : inB b 1 3600 with
  | false =>
    have H := Lib.hid (chk_no (b := b) (c := c) (j := j) (by rw [hs]; simp [h0]))
    go_enter Tryz.func45, Tryz.ntmps45
    go_wp2_with (go_at_call 59; refine (within_calls _ _ _ _).mono ?_; rintro e w' ⟨rfl, rfl⟩)
    go_ret
    exact ⟨ret_int H.out.symm, HB.out⟩
  | true => cases h1 : inB c b 86400 with
    | false =>
      have H := Lib.hid (chk_no (b := b) (c := c) (j := j) (by rw [hs]; simp [h1]))
      go_enter Tryz.func45, Tryz.ntmps45
      go_wp2_with (go_at_call 59; refine (within_calls _ _ _ _).mono ?_; rintro e w' ⟨rfl, rfl⟩)
      go_ret
      exact ⟨ret_int H.out.symm, HB.out⟩
    | true => cases h2 : inB j 0 3600 with
      | false =>
        have H := Lib.hid (chk_no (b := b) (c := c) (j := j) (by rw [hs]; simp [h2]))
        go_enter Tryz.func45, Tryz.ntmps45
        go_wp2_with (go_at_call 59; refine (within_calls _ _ _ _).mono ?_; rintro e w' ⟨rfl, rfl⟩)
        go_ret
        exact ⟨ret_int H.out.symm, HB.out⟩
      | true =>
        have H := Lib.hid (chk_ok (b := b) (c := c) (j := j) (by rw [hs]; simp [h0, h1, h2]))
        go_enter Tryz.func45, Tryz.ntmps45
        go_wp2_with (go_at_call 59; refine (within_calls _ _ _ _).mono ?_; rintro e w' ⟨rfl, rfl⟩)
        go_ret
        exact ⟨ret_int H.out.symm, HB.out⟩
set_option maxHeartbeats 1000000 in
theorem left_calls (r m : Int) (h0 : 0 < m) (h1 : m ≤ 1000000) (w : World) :
    Calls Tryz.prog 71 #[.int .i64 r, .int .i64 m] w fun e w' => e = .returned (.int .i64 (lf r m)) ∧ w = w' := by
  obtain ⟨h2, h3, h4, h5⟩ := lf_tmod (r := r) h0
  have hm : (m == 0) = false := by simp; omega
  by_cases hn : Int.tmod r m < 0
  · have H := Lib.hid (h2 hn)
    clear h2 h3
    go_enter Tryz.func71, Tryz.ntmps71
    go_wp2
    go_ret
    exact ⟨ret_int H.out.symm, rfl⟩
  · have H := Lib.hid (h3 hn)
    clear h2 h3
    go_enter Tryz.func71, Tryz.ntmps71
    go_wp2
    go_ret
    exact ⟨ret_int H.out.symm, rfl⟩
theorem row3i {w : World} {B : Nat} {x0 x1 x2 : Value} {T : TypeId} (h : w.heap[B]? = some (.cells #[x0, x1, x2] T (0, 0))) : w.cell? ⟨B, 0, none⟩ = some x0 ∧ w.cell? ⟨B, 1, none⟩ = some x1 ∧ w.cell? ⟨B, 2, none⟩ = some x2 := ⟨at_cell h 0, at_cell h 1, at_cell h 2⟩
set_option maxRecDepth 100000 in
set_option maxHeartbeats 2000000 in
theorem bounds_calls (b c j : Int) (h : okR b c j) (n : Nat) (w : World) :
    Calls Tryz.prog 69 #[.agg #[.int .i64 b, .int .i64 c, .int .i64 j], .int .i64 n] w fun e w' => e = .returned (.tuple #[.int .i64 (lowR b c n), .int .i64 (lowR b c n + j)]) ∧ Below w.heap.size w w' := by
  have h1 := low_rng h n
  have HV := Lib.hid (low_val h n)
  have HC := Lib.hid (chk_ok h)
  have hn0 : (0 : Int) ≤ (n : Int) := by omega
  have hn : ¬ ((n : Int) < 0) := by omega
  obtain ⟨h2, h3, h4, h5, h6, h7⟩ := h
  generalize hlv : lowR b c n = lv at *
  go_enter Tryz.func69, Tryz.ntmps69
  go_wp2_with fail
  refine (check_calls b c j _).mono ?_
  rintro e w1 ⟨rfl, hb⟩
  rw [HC.out]
  obtain ⟨c0, c1, c2⟩ := row3i ((hb.block w.heap.size (by simp)).trans (at_new w _))
  have B1 := Lib.hid (((Below.refl w.heap.size w).alloc (Nat.le_refl _) _).trans (hb.mono (by simp)))
  clear hb
  go_wp2_with fail
  refine (dbl_calls b n c w1).mono ?_
  rintro e w' ⟨rfl, rfl⟩
  rw [HV.out]
  go_wp2_with fail
  go_quiet (fail)
  go_wp2_with fail
  go_ret2
  exact ⟨rfl, below_drew B1.out⟩
end Go.Proofs.YtnkhdpenmekhdaaGreat.Bkf
end

section
namespace Go.Proofs.YtnkhdpenmekhdaaGreat.Bkf
open Go.RowKit Go.Proofs.YtnkhdpenmekhdaaGreat.Own Go.Proofs.YtnkhdpenmekhdaaGreat.Rw Go.Proofs.YtnkhdpenmekhdaaGreat.Tree Go.Proofs.YtnkhdpenmekhdaaGreat.Calc

/-- block k is a wait with so many failures -/
abbrev IsW (w : World) (k : Nat) (b c j a : Int) : Prop := w.heap[k]? = some (.cells #[.int .i64 b, .int .i64 c, .int .i64 j, .int .i64 a] 81 (0, 0))
theorem IsW.out {w w' : World} {k : Nat} {b c j a : Int} {S : Nat → Prop} (h : IsW w k b c j a) (ho : Out S w w') (hs : ¬ S k) : IsW w' k b c j a := ho.at_ h hs
theorem IsW.below {w w' : World} {k : Nat} {b c j a : Int} (h : IsW w k b c j a) (ho : Below w.heap.size w w') : IsW w' k b c j a := (Out.ofNew (S := fun _ => False) ho).at_ h id
theorem row4 {w : World} {B : Nat} {x0 x1 x2 x3 : Value} {T : TypeId} (h : w.heap[B]? = some (.cells #[x0, x1, x2, x3] T (0, 0))) : w.cell? ⟨B, 0, none⟩ = some x0 ∧ w.cell? ⟨B, 1, none⟩ = some x1 ∧ w.cell? ⟨B, 2, none⟩ = some x2 ∧ w.cell? ⟨B, 3, none⟩ = some x3 := ⟨at_cell h 0, at_cell h 1, at_cell h 2, at_cell h 3⟩
set_option maxRecDepth 100000 in
set_option maxHeartbeats 2000000 in
theorem made_calls {w : World} {k : Nat} {b c j a : Int} (h : IsW w k b c j a) (ha : a ≠ 0) :
    Calls Tryz.prog 35 #[.pointer (some ⟨k, 0, none⟩)] w fun e w' => e = .returned (.bool true) ∧ ∃ n, w' = w.drewN n := by
  obtain ⟨c0, c1, c2, c3⟩ := row4 h
  have ha2 : (a == 0) = false := by simpa using ha
  clear h ha
  go_enter Tryz.func35, Tryz.ntmps35
  go_wp2_with fail
  go_big_quiet (fail)
  go_wp2_with fail
  go_ret
  exact ⟨rfl, _, rfl⟩
set_option maxRecDepth 100000 in
set_option maxHeartbeats 2000000 in
theorem tries_calls {w : World} {k : Nat} {b c j : Int} {n : Nat} (hn : n < 1000000000000000000) (h : IsW w k b c j (n + 1)) :
    Calls Tryz.prog 12 #[.pointer (some ⟨k, 0, none⟩)] w fun e w' => e = .returned (.int .i64 n) ∧ ∃ n, w' = w.drewN n := by
  have HM := Lib.hid (made_calls h (by omega))
  obtain ⟨c0, c1, c2, c3⟩ := row4 h
  clear h
  go_enter Tryz.func12, Tryz.ntmps12
  go_wp2_with fail
  refine HM.out.mono ?_
  rintro e w' ⟨rfl, m, rfl⟩
  go_wp2_with fail
  go_ret
  exact ⟨ret_int (by omega), _, rfl⟩
set_option maxRecDepth 100000 in
set_option maxHeartbeats 2000000 in
theorem good_calls {w : World} {k : Nat} {b c j a : Int} (h : IsW w k b c j a) (ha : a ≠ 0) :
    Calls Tryz.prog 37 #[.pointer (some ⟨k, 0, none⟩)] w fun e w' => e = .returned (.tuple #[]) ∧ IsW w' k b c j 1 ∧ Out (fun i => i = k) w w' := by
  have HM := Lib.hid (made_calls h ha)
  have HW := Lib.hid h
  obtain ⟨c0, c1, c2, c3⟩ := row4 h
  have hlt := at_lt h
  have hf := at_frozen h 3
  clear h ha
  go_enter Tryz.func37, Tryz.ntmps37
  go_wp2_with fail
  refine HM.out.mono ?_
  rintro e w' ⟨rfl, m, rfl⟩
  go_wp2_with fail
  go_end0
  exact ⟨rfl, at_set (w := w.drewN m) HW.out 3 _, ((Out.refl (fun i => i = k) w).drewN m).setCell (p := ⟨k, 3, none⟩) (fun _ => rfl) _⟩
set_option maxRecDepth 100000 in
set_option maxHeartbeats 2000000 in
theorem new_yes (b c j : Int) (h : okR b c j) (w : World) :
    Calls Tryz.prog 21 #[.agg #[.int .i64 b, .int .i64 c, .int .i64 j]] w fun e w' => ∃ k, e = .returned (.tuple #[.pointer (some ⟨k, 0, none⟩), .int .i64 0]) ∧ IsW w' k b c j 1 ∧ w.heap.size ≤ k ∧ Below w.heap.size w w' := by
  have HC := Lib.hid (chk_ok h)
  clear h
  go_enter Tryz.func21, Tryz.ntmps21
  go_wp2_with fail
  refine (check_calls b c j _).mono ?_
  rintro e w1 ⟨rfl, hb⟩
  rw [HC.out]
  obtain ⟨c0, c1, c2⟩ := row3i ((hb.block w.heap.size (by simp)).trans (at_new w _))
  have B1 := Lib.hid (((Below.refl w.heap.size w).alloc (Nat.le_refl _) _).trans (hb.mono (by simp)))
  clear hb
  go_wp2_with fail
  go_ret2
  exact ⟨_, rfl, at_new w1 _, B1.out.size, B1.out.alloc B1.out.size _⟩
set_option maxRecDepth 100000 in
set_option maxHeartbeats 2000000 in
theorem new_no (b c j : Int) (h : ¬ okR b c j) (w : World) :
    Calls Tryz.prog 21 #[.agg #[.int .i64 b, .int .i64 c, .int .i64 j]] w fun e w' => e = .returned (.tuple #[.pointer none, .int .i64 2]) ∧ Below w.heap.size w w' := by
  have HC := Lib.hid (chk_no h)
  clear h
  go_enter Tryz.func21, Tryz.ntmps21
  go_wp2_with fail
  refine (check_calls b c j _).mono ?_
  rintro e w1 ⟨rfl, hb⟩
  rw [HC.out]
  have B1 := Lib.hid (((Below.refl w.heap.size w).alloc (Nat.le_refl _) _).trans (hb.mono (by simp)))
  clear hb
  go_wp2_with fail
  go_ret2
  exact ⟨rfl, B1.out⟩
end Go.Proofs.YtnkhdpenmekhdaaGreat.Bkf
end

section
namespace Go.Proofs.YtnkhdpenmekhdaaGreat.Calc
open Go.RowKit

theorem total_step (t : Int) (zs : List Int) (len k : Nat) (h : k < len) (hl : len ≤ zs.length) :
    total t ((zs.take len).drop k) = if addC t (zs.getD k 0) = 0 then total (addV t (zs.getD k 0)) ((zs.take len).drop (k + 1)) else (0, addC t (zs.getD k 0)) := by
  have hk : k < (zs.take len).length := by simp; omega
  rw [List.drop_eq_getElem_cons hk]
  have e : (zs.take len)[k] = zs.getD k 0 := by
    rw [List.getElem_take, List.getD_eq_getElem?_getD, List.getElem?_eq_getElem (by omega)]; rfl
  rw [e]; rfl

theorem total_at (b off len cap : Nat) (zs : List Int) (w : World) (hl : len ≤ zs.length) (hm : cap ≤ maxLen) (hz : len ≤ cap) (hcell : ∀ k, k < len → w.cell? ⟨b, off + k, none⟩ = some (.int .i64 (zs.getD k 0))) :
    Calls Tryz.prog 70 #[.slice (some ⟨b, off, none⟩) len cap] w fun e w' => e = .returned (.tuple #[.int .i64 (total 0 (zs.take len)).1, .int .i64 (total 0 (zs.take len)).2]) ∧ w = w' := by
  unfold maxLen at hm
  go_enter Tryz.func70, Tryz.ntmps70
  go_wp2
  go_loop [4, 11] (fun s i => ∃ (k : Nat) (t : Int), k ≤ len ∧ i = .int .i64 k ∧ s = .int .i64 t ∧ total 0 (zs.take len) = total t ((zs.take len).drop k)) (fun _ i => len - (intOf i).toNat)
  case atStart => exact ⟨0, 0, Nat.zero_le _, rfl, rfl, rfl⟩
  case round =>
    obtain ⟨k, t, hk, rfl, rfl, ht⟩ := hrel
    by_cases hlt : k < len
    · have hc := hcell k (by omega)
      have hs : Hid (total t ((zs.take len).drop k) = if addC t (zs.getD k 0) = 0 then total (addV t (zs.getD k 0)) ((zs.take len).drop (k + 1)) else (0, addC t (zs.getD k 0))) := Lib.hid (total_step t zs len k hlt (by omega))
      have HT := Lib.hid ht
      clear ht hcell
      generalize zs.getD k 0 = x at hc hs
      by_cases hx : addC t x = 0
      · have hb : (addC t x == 0) = true := by simp [hx]
        have HX := Lib.hid hx
        clear hx
        go_wp2_with (go_at_call 81; refine (add_calls _ _ _).mono ?_; rintro e w' ⟨rfl, rfl⟩)
        go_round
        case rel => exact ⟨k + 1, addV t x, by omega, by go_num, rfl, by rw [HT.out, hs.out, if_pos HX.out]⟩
        case measure => simp [intOf]; omega
      · have hb : (addC t x == 0) = false := by simp [hx]
        have HX := Lib.hid hx
        clear hx
        go_wp2_with (go_at_call 81; refine (add_calls _ _ _).mono ?_; rintro e w' ⟨rfl, rfl⟩)
        go_ret2
        exact ⟨ret_two (by rw [HT.out, hs.out, if_neg HX.out]) (by rw [HT.out, hs.out, if_neg HX.out]), rfl⟩
    · have HT : Hid (total 0 (zs.take len) = (t, 0)) := Lib.hid (by rw [ht, List.drop_eq_nil_of_le (by simp; omega)]; rfl)
      clear ht
      go_wp2
      go_ret2
      exact ⟨ret_two (by rw [HT.out]) (by rw [HT.out]), rfl⟩
end Go.Proofs.YtnkhdpenmekhdaaGreat.Calc
end

section
namespace Go.Proofs.YtnkhdpenmekhdaaGreat.Bkf
open Go.RowKit Go.Proofs.YtnkhdpenmekhdaaGreat.Own Go.Proofs.YtnkhdpenmekhdaaGreat.Rw Go.Proofs.YtnkhdpenmekhdaaGreat.Tree Go.Proofs.YtnkhdpenmekhdaaGreat.Calc

/-- what Fail answers and leaves -/
def FailPost (w : World) (k : Nat) (b c j : Int) (n : Nat) (now r : Int) (e : Ending) (w' : World) : Prop :=
  (isT now = false ∧ e = .returned (.tuple #[.int .i64 0, .int .i64 1]) ∧ Below w.heap.size w w') ∨
  (isT now = true ∧ isT (atR b c j n now r) = false ∧ e = .returned (.tuple #[.int .i64 0, .int .i64 2]) ∧ Below w.heap.size w w') ∨
  (isT now = true ∧ isT (atR b c j n now r) = true ∧ e = .returned (.tuple #[.int .i64 (atR b c j n now r), .int .i64 0]) ∧ IsW w' k b c j (n + 1 + 1) ∧ Out (fun i => i = k) w w')
theorem heldW {w w' : World} {k : Nat} {b c j a : Int} (h : IsW w k b c j a) (hb : Below w.heap.size w w') : Below w.heap.size w w' ∧ w'.cell? ⟨k, 0, none⟩ = some (.int .i64 b) ∧ w'.cell? ⟨k, 1, none⟩ = some (.int .i64 c) ∧ w'.cell? ⟨k, 2, none⟩ = some (.int .i64 j) :=
  ⟨hb, (row4 (h.below hb)).1, (row4 (h.below hb)).2.1, (row4 (h.below hb)).2.2.1⟩
set_option maxRecDepth 100000 in
set_option maxHeartbeats 4000000 in
theorem fail_calls {w : World} {k : Nat} {b c j : Int} (h : okR b c j) {n : Nat} (hn : n < 1000000000000000000) (hW : IsW w k b c j (n + 1)) (now r : Int) :
    Calls Tryz.prog 56 #[.pointer (some ⟨k, 0, none⟩), .int .i64 now, .int .i64 r] w (FailPost w k b c j n now r) := by
  have HM := Lib.hid (made_calls hW (by omega))
  have HH := Lib.hid h
  have HW := Lib.hid hW
  obtain ⟨c0, c1, c2, c3⟩ := row4 hW
  have hlt := at_lt hW
  have hf := at_frozen hW 3
  clear hW
  cases hT : isT now with
  | false =>
    go_enter Tryz.func56, Tryz.ntmps56
    go_wp2_with fail
    refine HM.out.mono ?_
    rintro e w' ⟨rfl, m, rfl⟩
    go_wp2_with (go_at_call 68; refine (is_calls _ _).mono ?_; rintro e w' ⟨rfl, rfl⟩)
    go_ret2
    exact .inl ⟨hT, rfl, below_drew (Below.refl _ _)⟩
  | true =>
    have HC := Lib.hid (chk_ok h)
    have HT := Lib.hid hT
    have hl := low_rng h n
    have H3 := Lib.hid (total_at3 h n now r hT)
    have hlf := lf_rng (r := r) (m := j + 1) (by have := h.2.2.2.2.1; omega)
    obtain ⟨g1, g2, g3, g4, g5, g6⟩ := h
    go_enter Tryz.func56, Tryz.ntmps56
    go_wp2_with fail
    refine HM.out.mono ?_
    rintro e w' ⟨rfl, m, rfl⟩
    go_wp2_with (go_at_call 68; refine (is_calls _ _).mono ?_; rw [HT.out]; rintro e w' ⟨rfl, rfl⟩)
    refine (check_calls b c j _).mono ?_
    rintro e w1 ⟨rfl, hb⟩
    rw [HC.out]
    have B1 : Hid (Below w.heap.size w w1) := Lib.hid ((below_drew (Below.refl w.heap.size w) (q := m)).trans hb)
    clear hb c0 c1 c2 c3 hf
    have W1 := Lib.hid (HW.out.below B1.out)
    go_wp2_with fail
    obtain ⟨c0, c1, c2, c3⟩ := row4 W1.out
    go_region_held3 (fun w' => Below w1.heap.size w1 w' ∧ w'.cell? ⟨k, 0, none⟩ = some (.int .i64 b) ∧ w'.cell? ⟨k, 1, none⟩ = some (.int .i64 c) ∧ w'.cell? ⟨k, 2, none⟩ = some (.int .i64 j))
      (first
        | exact heldW W1.out (below_drew (Below.refl _ _))
        | exact heldW W1.out hb5
        | exact heldW W1.out (below_drew hb5))
      (first
        | (go_at_call 12; go_split_ands; refine (tries_calls hn (IsW.below W1.out (by assumption))).mono ?_; rintro e w5 ⟨rfl, mq, rfl⟩; have hb5 := below_drew (q := mq) (show Below w1.heap.size w1 _ by assumption))
        | (go_at_call 69; go_split_ands; refine (bounds_calls b c j HH.out n _).mono ?_; rintro e w5 ⟨rfl, hb5⟩; replace hb5 := Below.trans (by assumption) (hb5.mono (Below.size (by assumption)))))
    have B5 := Lib.hid (B1.out.trans (hb5.mono B1.out.size))
    have W5 := Lib.hid (HW.out.below B5.out)
    have hlt5 := at_lt W5.out
    have hf5 := at_frozen W5.out 3
    obtain ⟨d0, d1, d2, d3⟩ := row4 W5.out
    clear hb5 c0 c1 c2 c3 W1
    have HA := Lib.hid (left_calls r (j + 1) (by omega) (by omega))
    obtain ⟨lv, hlv⟩ : ∃ lv, lowR b c n = lv := ⟨_, rfl⟩
    obtain ⟨fv, hfv⟩ : ∃ fv, lf r (j + 1) = fv := ⟨_, rfl⟩
    obtain ⟨av, hav⟩ : ∃ av, atR b c j n now r = av := ⟨_, rfl⟩
    have hl := low_rng HH.out n
    have hlf := lf_rng (r := r) (m := j + 1) (by omega)
    rw [hlv] at hl
    rw [hfv] at hlf
    rw [hlv, hfv, hav] at H3
    rw [hlv]
    rw [hfv] at HA
    have HAV := Lib.hid hav
    clear hlv hfv hav
    go_wp2_with (go_at_call 71; refine (HA.out _).mono ?_; rintro e w' ⟨rfl, rfl⟩)
    refine (total_at _ 0 3 3 [now, lv, fv] _ (by simp) (by unfold maxLen; omega) (Nat.le_refl _) (fun i hi => ?_)).mono ?_
    · have hn2 := at_new w5 (.cells #[.int .i64 now, .int .i64 lv, .int .i64 fv] 3 (0, 0))
      rw [Nat.zero_add]
      rcases (by omega : i = 0 ∨ i = 1 ∨ i = 2) with rfl | rfl | rfl
      · exact at_cell hn2 0
      · exact at_cell hn2 1
      · exact at_cell hn2 2
    rintro e w6 ⟨rfl, rfl⟩
    rw [show List.take 3 [now, lv, fv] = [now, lv, fv] from rfl, H3.out]
    cases hA : isT av with
    | true =>
      rw [if_pos rfl]
      have HE := Lib.hid hA
      go_wp2_with fail
      go_ret2
      refine .inr (.inr ⟨HT.out, by rw [HAV.out]; exact HE.out, by rw [HAV.out]; rfl, ?_, ?_⟩)
      · exact at_old _ _ (at_set W5.out 3 _)
      · exact ((Out.ofNew (S := fun i => i = k) B5.out).setCell (p := ⟨k, 3, none⟩) (fun _ => rfl) _).alloc _
    | false =>
      rw [if_neg (by simp)]
      have HE := Lib.hid hA
      go_wp2_with fail
      go_ret2
      exact .inr (.inl ⟨HT.out, by rw [HAV.out]; exact HE.out, rfl, B5.out.alloc B5.out.size _⟩)
end Go.Proofs.YtnkhdpenmekhdaaGreat.Bkf
end

section
namespace Go.Proofs.YtnkhdpenmekhdaaGreat.Calc
open Go.RowKit

theorem hold_calls (n low high : Int) (w : World) :
    Calls Tryz.prog 55 #[.int .i64 n, .int .i64 low, .int .i64 high] w fun e w' => e = .returned (.int .i64 (hold n low high)) ∧ w = w' := by
  by_cases h1 : n < low
  · have H : Hid (hold n low high = low) := Lib.hid (by unfold hold; rw [if_pos (.inl h1)])
    go_enter Tryz.func55, Tryz.ntmps55
    go_wp2
    go_ret
    exact ⟨by rw [H.out]; rfl, rfl⟩
  · by_cases h2 : high < low
    · have H : Hid (hold n low high = low) := Lib.hid (by unfold hold; rw [if_pos (.inr h2)])
      go_enter Tryz.func55, Tryz.ntmps55
      go_wp2
      go_ret
      exact ⟨by rw [H.out]; rfl, rfl⟩
    · by_cases h3 : high < n
      · have H : Hid (hold n low high = high) := Lib.hid (by unfold hold; rw [if_neg (by omega), if_pos h3])
        go_enter Tryz.func55, Tryz.ntmps55
        go_wp2
        go_ret
        exact ⟨by rw [H.out]; rfl, rfl⟩
      · have H : Hid (hold n low high = n) := Lib.hid (by unfold hold; rw [if_neg (by omega), if_neg h3])
        go_enter Tryz.func55, Tryz.ntmps55
        go_wp2
        go_ret
        exact ⟨by rw [H.out]; rfl, rfl⟩
end Go.Proofs.YtnkhdpenmekhdaaGreat.Calc
end


/-
  Layer 2 (digit): the plain mathematics: decimal texts, digits, signs.
-/
import Derived.Lib.Bytealg
namespace Go.Proofs.YtememmgnhnldaaaDoor.Digit

def hexd (n : Nat) : UInt8 := if n < 10 then (48 + n).toUInt8 else (87 + n).toUInt8
def decN (n : Nat) : List UInt8 := if _h : n < 10 then [hexd n] else decN (n / 10) ++ [hexd (n % 10)]
termination_by n
decreasing_by omega
def dec (n : Int) : List UInt8 := if n < 0 then 45 :: decN n.natAbs else decN n.toNat
def hexS (c : Nat) : List UInt8 := [hexd (c / 16), hexd (c % 16)]

theorem decN_lt {n : Nat} (h : n < 10) : decN n = [hexd n] := by rw [decN, dif_pos h]
theorem decN_ge {n : Nat} (h : ¬ n < 10) : decN n = decN (n / 10) ++ [hexd (n % 10)] := by rw [decN, dif_neg h]

theorem hexd_toNat {n : Nat} (h : n < 10) : (hexd n).toNat = 48 + n := by
  unfold hexd; rw [if_pos h]; simp; omega

theorem decN_ne (n : Nat) : decN n ≠ [] := by
  by_cases h : n < 10
  · rw [decN_lt h]; simp
  · rw [decN_ge h]; simp

theorem decN_len (k n : Nat) (h : n < 10 ^ (k + 1)) : (decN n).length ≤ k + 1 := by
  induction k generalizing n with
  | zero => rw [decN_lt (by simpa using h)]; simp
  | succ k ih =>
    by_cases h1 : n < 10
    · rw [decN_lt h1]; simp
    · rw [decN_ge h1]
      have := ih (n / 10) (by rw [Nat.pow_succ] at h; omega)
      simp; omega

theorem decN_pos (n : Nat) : 0 < (decN n).length := List.length_pos_iff.2 (decN_ne n)

theorem dec_len {n : Int} (h1 : -9223372036854775808 ≤ n) (h2 : n ≤ 9223372036854775807) : (dec n).length ≤ 20 := by
  unfold dec
  split
  · have := decN_len 18 n.natAbs (by omega); simp; omega
  · have := decN_len 18 n.toNat (by omega); omega

/-- the number that digits tell, whatever they are -/
def scan (a : Int) : List UInt8 → Int
  | [] => a
  | c :: l => scan (10 * a + (c.toNat : Int) - 48) l

theorem scan_append (a : Int) (l m : List UInt8) : scan a (l ++ m) = scan (scan a l) m := by
  induction l generalizing a with
  | nil => rfl
  | cons c l ih => exact ih _

theorem scan_decN (n : Nat) : scan 0 (decN n) = n := by
  induction n using Nat.strongRecOn with
  | ind n ih =>
    by_cases h : n < 10
    · rw [decN_lt h]; simp only [scan]; have := hexd_toNat h; omega
    · rw [decN_ge h, scan_append, ih (n / 10) (by omega)]
      simp only [scan]; have := hexd_toNat (n := n % 10) (by omega); omega

theorem decN_digit (n : Nat) : ∀ c ∈ decN n, 48 ≤ c.toNat ∧ c.toNat ≤ 57 := by
  induction n using Nat.strongRecOn with
  | ind n ih =>
    by_cases h : n < 10
    · rw [decN_lt h]; intro c hc; simp at hc; subst hc; have := hexd_toNat h; omega
    · rw [decN_ge h]
      intro c hc
      rcases List.mem_append.1 hc with hc | hc
      · exact ih (n / 10) (by omega) c hc
      · simp at hc; subst hc; have := hexd_toNat (n := n % 10) (by omega); omega

theorem decN_inj {m n : Nat} (h : decN m = decN n) : m = n := by
  have := congrArg (scan 0) h; rw [scan_decN, scan_decN] at this; omega

theorem dec_inj {m n : Int} (h : dec m = dec n) : m = n := by
  unfold dec at h
  split at h <;> split at h
  · have := decN_inj (List.cons.inj h).2; omega
  · have := decN_digit n.toNat 45 (h ▸ List.mem_cons_self); simp at this
  · have := decN_digit m.toNat 45 (h ▸ List.mem_cons_self); simp at this
  · have := decN_inj h; omega

theorem dec_lt {n : Int} (h0 : 0 ≤ n) (h : n < 10) : dec n = [hexd n.toNat] := by
  unfold dec; rw [if_neg (by omega), decN_lt (by omega)]
theorem dec_neg_lt {n : Int} (h0 : n < 0) (h : -10 < n) : dec n = [45, hexd (-n).toNat] := by
  unfold dec; rw [if_pos h0, decN_lt (by omega), show n.natAbs = (-n).toNat by omega]
theorem dec_ge {n : Int} (h : 10 ≤ n) : dec n = dec (n / 10) ++ [hexd (n % 10).toNat] := by
  unfold dec; rw [if_neg (by omega), if_neg (by omega), decN_ge (by omega), show (n / 10).toNat = n.toNat / 10 by omega, show (n % 10).toNat = n.toNat % 10 by omega]
theorem dec_le {n : Int} (h : n ≤ -10) : dec n = dec (n.tdiv 10) ++ [hexd (-(n.tmod 10)).toNat] := by
  have e1 : n.tdiv 10 = -(((n.natAbs / 10 : Nat)) : Int) := by
    obtain ⟨m, rfl⟩ : ∃ m : Nat, n = -(m : Int) := ⟨n.natAbs, by omega⟩
    rw [Int.neg_tdiv, Int.natAbs_neg, Int.natAbs_natCast, Int.tdiv_eq_ediv_of_nonneg (by omega)]; rfl
  have e2 : -(n.tmod 10) = ((n.natAbs % 10 : Nat) : Int) := by
    obtain ⟨m, rfl⟩ : ∃ m : Nat, n = -(m : Int) := ⟨n.natAbs, by omega⟩
    rw [Int.neg_tmod, Int.natAbs_neg, Int.natAbs_natCast, Int.neg_neg, Int.tmod_eq_emod_of_nonneg (by omega)]; rfl
  rw [e1, e2]
  have h10 : ¬ n.natAbs < 10 := by omega
  unfold dec
  rw [if_pos (by omega), if_pos (by omega), decN_ge h10, Int.natAbs_neg, Int.natAbs_natCast, Int.toNat_natCast]
  rfl

theorem tdiv_facts {n : Int} (h : n < 0) : n < n.tdiv 10 ∧ n.tdiv 10 ≤ 0 ∧ n.tmod 10 ≤ 0 ∧ -10 < n.tmod 10 := by
  obtain ⟨m, rfl⟩ : ∃ m : Nat, n = -(m : Int) := ⟨n.natAbs, by omega⟩
  rw [Int.neg_tdiv, Int.neg_tmod, Int.tdiv_eq_ediv_of_nonneg (by omega), Int.tmod_eq_emod_of_nonneg (by omega)]
  omega

def padL (d : List UInt8) (width : Nat) : List UInt8 := List.replicate (width - d.length) 48 ++ d
def padI (n width : Int) : List UInt8 := if n < 0 ∨ width < 0 ∨ 20 < width then [] else padL (dec n) width.toNat
def PadAt (d l : List UInt8) (width : Nat) : Prop := ∃ k, l = List.replicate k 48 ++ d ∧ k ≤ width - d.length
theorem pad_start (d : List UInt8) (width : Nat) : PadAt d d width := ⟨0, by simp, by omega⟩
theorem pad_next {d l : List UInt8} {width : Nat} (h : PadAt d l width) (hl : l.length < width) : PadAt d (48 :: l) width := by
  obtain ⟨k, rfl, hk⟩ := h
  exact ⟨k + 1, by simp [List.replicate_succ], by simp at hl; omega⟩
theorem pad_done {d l : List UInt8} {width : Nat} (h : PadAt d l width) (hl : ¬ l.length < width) : l = padL d width := by
  obtain ⟨k, rfl, hk⟩ := h
  simp at hl
  rw [padL, show k = width - d.length by omega]
theorem padI_none {n width : Int} (h : n < 0 ∨ width < 0 ∨ 20 < width) : padI n width = [] := by rw [padI, if_pos h]
theorem padI_some {n width : Int} (h : ¬ (n < 0 ∨ width < 0 ∨ 20 < width)) : padI n width = padL (dec n) width.toNat := by rw [padI, if_neg h]

theorem hexd_inj {m n : Nat} (hm : m < 16) (hn : n < 16) (h : hexd m = hexd n) : m = n := by
  have key : ∀ a : Fin 16, ∀ b : Fin 16, hexd a.val = hexd b.val → a = b := by decide
  exact congrArg Fin.val (key ⟨m, hm⟩ ⟨n, hn⟩ h)
theorem hexS_inj {m n : Nat} (hm : m < 256) (hn : n < 256) (h : hexS m = hexS n) : m = n := by
  unfold hexS at h
  have h1 := hexd_inj (by omega) (by omega) (List.cons.inj h).1
  have h2 := hexd_inj (by omega) (by omega) (List.cons.inj (List.cons.inj h).2).1
  omega
open Classical in
/-- the byte of two digits, and why there is none -/
noncomputable def rhV (s : List UInt8) : Int := if h : ∃ c : Nat, c < 256 ∧ hexS c = s then (h.choose : Int) else 0
open Classical in
noncomputable def rhC (s : List UInt8) : Int := if ∃ c : Nat, c < 256 ∧ hexS c = s then 0 else 3
theorem rh_some {c : Nat} (hc : c < 256) : rhV (hexS c) = c ∧ rhC (hexS c) = 0 := by
  have h : ∃ d : Nat, d < 256 ∧ hexS d = hexS c := ⟨c, hc, rfl⟩
  constructor
  · rw [rhV, dif_pos h]; exact congrArg Int.ofNat (hexS_inj h.choose_spec.1 hc h.choose_spec.2)
  · rw [rhC, if_pos h]
theorem rh_none {s : List UInt8} (h : ¬ ∃ c : Nat, c < 256 ∧ hexS c = s) : rhV s = 0 ∧ rhC s = 3 := by
  constructor
  · rw [rhV, dif_neg h]
  · rw [rhC, if_neg h]

def IsTick (s : List UInt8) (n : Int) : Prop := 0 ≤ n ∧ n ≤ 1099511627776 ∧ dec n = s
open Classical in
/-- the tick of a text, and why there is none -/
noncomputable def rdV (s : List UInt8) : Int := if h : ∃ n, IsTick s n then h.choose else 0
open Classical in
noncomputable def rdC (s : List UInt8) : Int := if ∃ n, IsTick s n then 0 else 3
theorem rd_some {s : List UInt8} {n : Int} (h : IsTick s n) : rdV s = n ∧ rdC s = 0 := by
  have g : ∃ n, IsTick s n := ⟨n, h⟩
  constructor
  · rw [rdV, dif_pos g]; exact dec_inj (g.choose_spec.2.2.trans h.2.2.symm)
  · rw [rdC, if_pos g]
theorem rd_none {s : List UInt8} (h : ¬ ∃ n, IsTick s n) : rdV s = 0 ∧ rdC s = 3 := by
  constructor
  · rw [rdV, dif_neg h]
  · rw [rdC, if_neg h]

theorem scan_bd (l : List UInt8) (a : Int) (M : Nat) (h1 : -M ≤ a) (h2 : a ≤ M) : -((M + 30 : Nat) * 10 ^ l.length : Nat) ≤ scan a l ∧ scan a l ≤ ((M + 30 : Nat) * 10 ^ l.length : Nat) := by
  induction l generalizing a M with
  | nil => simp [scan]; omega
  | cons c l ih =>
    have hc := c.toNat_lt
    have := ih (10 * a + (c.toNat : Int) - 48) (10 * M + 256) (by omega) (by omega)
    have e : (10 * M + 256 + 30) * 10 ^ l.length ≤ (M + 30) * 10 ^ (l.length + 1) := by
      rw [Nat.pow_succ, ← Nat.mul_assoc, Nat.mul_right_comm]; exact Nat.mul_le_mul_right _ (by omega)
    simp only [scan, List.length_cons]
    omega
theorem scan_14 (l : List UInt8) (h : l.length ≤ 14) : -3000000000000000 ≤ scan 0 l ∧ scan 0 l ≤ 3000000000000000 := by
  have := scan_bd l 0 0 (by omega) (by omega)
  have e : 10 ^ l.length ≤ 10 ^ 14 := Nat.pow_le_pow_right (by omega) h
  omega
theorem tick_scan {s : List UInt8} {n : Int} (h : IsTick s n) : scan 0 s = n ∧ s.length ≤ 13 := by
  obtain ⟨h0, h1, rfl⟩ := h
  unfold dec
  rw [if_neg (by omega)]
  exact ⟨by rw [scan_decN]; omega, decN_len 12 _ (by omega)⟩
theorem take_snoc (s : ByteArray) (k : Nat) (h : k < s.size) : s.data.toList.take (k + 1) = s.data.toList.take k ++ [s[k]] := by
  rw [List.take_succ_eq_append_getElem (by simpa using h)]; rfl
theorem scan_snoc (s : ByteArray) (k : Nat) (h : k < s.size) : scan 0 (s.data.toList.take (k + 1)) = 10 * scan 0 (s.data.toList.take k) + (s[k].toNat : Int) - 48 := by
  rw [take_snoc s k h, scan_append]; rfl

/-- what stands for a byte -/
def sgn (n : Nat) : List UInt8 :=
  if n = 92 then [92, 92] else if n = 10 then [92, 110] else if n = 13 then [92, 114] else if n = 9 then [92, 116]
  else if n < 32 ∨ 126 < n then 92 :: 120 :: hexS n else [n.toUInt8]
def shw (l : List UInt8) : List UInt8 := l.flatMap fun c => sgn c.toNat

theorem sgn_other {n : Nat} (h1 : n ≠ 92) (h2 : n ≠ 10) (h3 : n ≠ 13) (h4 : n ≠ 9) : sgn n = if n < 32 ∨ 126 < n then 92 :: 120 :: hexS n else [n.toUInt8] := by
  unfold sgn; rw [if_neg h1, if_neg h2, if_neg h3, if_neg h4]
theorem sgn_len (n : Nat) : 1 ≤ (sgn n).length ∧ (sgn n).length ≤ 4 := by
  unfold sgn; repeat' split
  all_goals simp [hexS]

theorem shw_append (l m : List UInt8) : shw (l ++ m) = shw l ++ shw m := by simp [shw]
theorem shw_cons (c : UInt8) (l : List UInt8) : shw (c :: l) = sgn c.toNat ++ shw l := by simp [shw]
theorem shw_len (l : List UInt8) : (shw l).length ≤ 4 * l.length := by
  induction l with
  | nil => simp [shw]
  | cons c l ih => rw [shw_cons, List.length_append, List.length_cons]; have := sgn_len c.toNat; omega
theorem shw_snoc (s : ByteArray) (k : Nat) (h : k < s.size) : shw (s.data.toList.take (k + 1)) = shw (s.data.toList.take k) ++ sgn s[k].toNat := by
  rw [take_snoc s k h, shw_append]; simp [shw]

/-- with which byte's sign a text begins, if with any -/
noncomputable def mean : List UInt8 → Nat
  | [] => 0
  | a :: t => if a ≠ 92 then a.toNat else match t with
    | [] => 92
    | b :: u => if b = 110 then 10 else if b = 114 then 13 else if b = 116 then 9 else if b = 120 then (rhV (u.take 2)).toNat else 92

theorem rhV_bd (s : List UInt8) : 0 ≤ rhV s ∧ rhV s < 256 := by
  by_cases h : ∃ c : Nat, c < 256 ∧ hexS c = s
  · obtain ⟨c, hc, rfl⟩ := h; rw [(rh_some hc).1]; omega
  · rw [(rh_none h).1]; omega
theorem mean_bd (l : List UInt8) : mean l < 256 := by
  match l with
  | [] => simp [mean]
  | a :: t =>
    simp only [mean]
    split
    · exact a.toNat_lt
    · match t with
      | [] => simp
      | b :: u =>
        have := rhV_bd (u.take 2)
        simp only
        repeat' split
        all_goals omega
theorem mean_sgn (c : Nat) (hc : c < 256) (r : List UInt8) : mean (sgn c ++ r) = c := by
  unfold sgn
  split
  · subst c; simp [mean]
  split
  · subst c; simp [mean]
  split
  · subst c; simp [mean]
  split
  · subst c; simp [mean]
  split
  · have h := (rh_some hc).1
    have e : mean (92 :: 120 :: hexS c ++ r) = (rhV ((hexS c ++ r).take 2)).toNat := by simp [mean]
    have e2 : (hexS c ++ r).take 2 = hexS c := by simp [hexS]
    rw [e, e2, h]; simp
  · have h1 : (c.toUInt8) ≠ 92 := by
      intro h
      have := congrArg UInt8.toNat h
      simp at this; omega
    simp only [List.cons_append, List.nil_append, mean, ne_eq, h1, not_false_eq_true, if_true]
    simp; omega
theorem mean_pre {l : List UInt8} {c : Nat} (hc : c < 256) (h : sgn c <+: l) : mean l = c := by
  obtain ⟨r, rfl⟩ := h; exact mean_sgn c hc r

open Classical in
/-- the bytes of signs -/
noncomputable def uns (l : List UInt8) : Option (List UInt8) :=
  if _h : l = [] then some [] else if sgn (mean l) <+: l then (uns (l.drop (sgn (mean l)).length)).map ((mean l).toUInt8 :: ·) else none
termination_by l.length
decreasing_by
  have := (sgn_len (mean l)).1
  have := List.length_pos_iff.2 _h
  simp; omega
theorem uns_nil : uns [] = some [] := by rw [uns, dif_pos rfl]
theorem uns_none {l : List UInt8} (h0 : l ≠ []) (h : ¬ sgn (mean l) <+: l) : uns l = none := by rw [uns, dif_neg h0, if_neg h]
theorem uns_some {l : List UInt8} (h0 : l ≠ []) (h : sgn (mean l) <+: l) : uns l = (uns (l.drop (sgn (mean l)).length)).map ((mean l).toUInt8 :: ·) := by rw [uns, dif_neg h0, if_pos h]
theorem uns_shw (l : List UInt8) : uns (shw l) = some l := by
  induction l with
  | nil => exact uns_nil
  | cons c l ih =>
    have hc := c.toNat_lt
    have hm := mean_sgn c.toNat hc (shw l)
    rw [← shw_cons] at hm
    rw [uns_some, hm]
    · rw [shw_cons, List.drop_left, ih]; simp
    · rw [shw_cons]; have := (sgn_len c.toNat).1; intro h; simp at h; simp [h] at this
    · rw [hm, shw_cons]; exact List.prefix_append _ _
theorem shw_uns (l : List UInt8) : ∀ r, uns l = some r → shw r = l := by
  induction h : l.length using Nat.strongRecOn generalizing l with
  | ind n ih =>
    subst h
    intro r hr
    by_cases h0 : l = []
    · subst h0; rw [uns_nil] at hr; cases hr; rfl
    · by_cases h1 : sgn (mean l) <+: l
      · rw [uns_some h0 h1] at hr
        obtain ⟨q, hq, rfl⟩ := Option.map_eq_some_iff.1 hr
        have hs := (sgn_len (mean l)).1
        have := ih _ (by have := List.length_pos_iff.2 h0; simp; omega) _ rfl q hq
        rw [shw_cons, this]
        have hb := mean_bd l
        rw [show (mean l).toUInt8.toNat = mean l by simp; omega]
        exact List.prefix_iff_eq_append.1 h1
      · rw [uns_none h0 h1] at hr; cases hr
noncomputable def unV (l : List UInt8) : List UInt8 := (uns l).getD []
noncomputable def unC (l : List UInt8) : Int := if (uns l).isSome then 0 else 3

/-- of l the bytes acc are unshown, and m is left -/
def UnAt (l acc m : List UInt8) : Prop := uns l = (uns m).map (acc ++ ·) ∧ acc.length + m.length ≤ l.length
theorem un_start (l : List UInt8) : UnAt l [] l := ⟨by simp, by simp⟩
theorem un_done {l acc : List UInt8} (h : UnAt l acc []) : unV l = acc ∧ unC l = 0 := by
  have h1 := h.1
  rw [uns_nil] at h1
  simp [unV, unC, h1]
theorem un_next {l acc m : List UInt8} (h : UnAt l acc m) (h0 : m ≠ []) (hp : sgn (mean m) <+: m) : UnAt l (acc ++ [(mean m).toUInt8]) (m.drop (sgn (mean m)).length) := by
  refine ⟨?_, ?_⟩
  · rw [h.1, uns_some h0 hp]; simp [Function.comp_def]
  · have := h.2; have := (sgn_len (mean m)).1; have := List.length_pos_iff.2 h0; simp; omega
theorem un_stop {l acc m : List UInt8} (h : UnAt l acc m) (h0 : m ≠ []) (hp : ¬ sgn (mean m) <+: m) : unV l = [] ∧ unC l = 3 := by
  have h1 := h.1
  rw [uns_none h0 hp] at h1
  simp [unV, unC, h1]

theorem scan_up (l : List UInt8) (h : ∀ c ∈ l, 48 ≤ c.toNat ∧ c.toNat ≤ 57) (a : Int) (ha : 0 ≤ a) : a ≤ scan a l := by
  induction l generalizing a with
  | nil => exact Int.le_refl _
  | cons c l ih =>
    have hc := h c List.mem_cons_self
    have := ih (fun d hd => h d (List.mem_cons_of_mem _ hd)) (10 * a + (c.toNat : Int) - 48) (by omega)
    simp only [scan]; omega
theorem tick_digit {s : List UInt8} {n : Int} (h : IsTick s n) : ∀ c ∈ s, 48 ≤ c.toNat ∧ c.toNat ≤ 57 := by
  obtain ⟨h0, h1, rfl⟩ := h
  unfold dec
  rw [if_neg (by omega)]
  exact decN_digit _
theorem tick_part {s : List UInt8} {n : Int} (h : IsTick s n) (k : Nat) : 0 ≤ scan 0 (s.take k) ∧ scan 0 (s.take k) ≤ 1099511627776 := by
  have hd := tick_digit h
  refine ⟨scan_up _ (fun c hc => hd c (List.mem_of_mem_take hc)) 0 (by omega), ?_⟩
  have h1 := scan_up (s.drop k) (fun c hc => hd c (List.mem_of_mem_drop hc)) (scan 0 (s.take k)) (scan_up _ (fun c hc => hd c (List.mem_of_mem_take hc)) 0 (by omega))
  rw [← scan_append, List.take_append_drop, (tick_scan h).1] at h1
  have := h.2.1
  omega
theorem tick_pos {s : List UInt8} {n : Int} (h : IsTick s n) : 0 < s.length := by
  obtain ⟨h0, h1, rfl⟩ := h
  unfold dec
  rw [if_neg (by omega)]
  exact decN_pos _

def hexTab : List UInt8 := [48, 49, 50, 51, 52, 53, 54, 55, 56, 57, 97, 98, 99, 100, 101, 102]
theorem idx_all : ∀ n : Fin 256, (Lib.indexByte hexTab n.val.toUInt8 = -1 ∧ ∀ d : Fin 16, hexd d.val ≠ n.val.toUInt8) ∨ (0 ≤ Lib.indexByte hexTab n.val.toUInt8 ∧ Lib.indexByte hexTab n.val.toUInt8 < 16 ∧ hexd (Lib.indexByte hexTab n.val.toUInt8).toNat = n.val.toUInt8) := by decide +kernel
theorem idx_spec (c : UInt8) : (Lib.indexByte hexTab c = -1 ∧ ∀ d, d < 16 → hexd d ≠ c) ∨ (0 ≤ Lib.indexByte hexTab c ∧ Lib.indexByte hexTab c < 16 ∧ hexd (Lib.indexByte hexTab c).toNat = c) := by
  have h := idx_all ⟨c.toNat, c.toNat_lt⟩
  have e : c.toNat.toUInt8 = c := by simp
  simp only [e] at h
  rcases h with ⟨h1, h2⟩ | h
  · exact .inl ⟨h1, fun d hd => h2 ⟨d, hd⟩⟩
  · exact .inr h

theorem list_one (s : ByteArray) (h : 0 < s.size) : ∃ t, s.data.toList = s[0] :: t := by
  have hl : 0 < s.data.toList.length := h
  match hs : s.data.toList, hl with
  | a :: t, _ =>
    have e0 : s[0] = s.data.toList[0] := rfl
    exact ⟨t, by simp [e0, hs]⟩
theorem list_two (s : ByteArray) (h : 1 < s.size) : ∃ u, s.data.toList = s[0] :: s[1] :: u := by
  have hl : 1 < s.data.toList.length := h
  match hs : s.data.toList, hl with
  | a :: b :: u, _ =>
    have e0 : s[0] = s.data.toList[0] := rfl
    have e1 : s[1] = s.data.toList[1] := rfl
    exact ⟨u, by simp [e0, e1, hs]⟩
theorem ne_byte {a : UInt8} {n : Nat} (h : ¬ (a.toNat : Int) = n) (hn : n < 256) : a ≠ n.toUInt8 := by
  intro e; subst e; apply h; simp; omega
theorem eq_byte {a : UInt8} {n : Nat} (h : (a.toNat : Int) = n) : a = n.toUInt8 := by
  have : a.toNat = n := by omega
  subst this; simp
theorem mean_plain (s : ByteArray) (h : 0 < s.size) (h0 : ¬ (s[0].toNat : Int) = 92) : mean s.data.toList = s[0].toNat := by
  obtain ⟨t, ht⟩ := list_one s h
  have : s[0] ≠ 92 := ne_byte (n := 92) h0 (by omega)
  rw [ht]; simp only [mean]; rw [if_pos this]
theorem mean_lone (s : ByteArray) (h : s.size = 1) : mean s.data.toList = s[0].toNat := by
  obtain ⟨t, ht⟩ := list_one s (by omega)
  have hl : s.data.toList.length = 1 := h
  rw [ht] at hl
  obtain rfl : t = [] := by simpa using hl
  rw [ht]; simp only [mean]
  split
  · rfl
  · rename_i h; simp at h; rw [h]; rfl
theorem mean_sign (s : ByteArray) (h : 1 < s.size) (h0 : (s[0].toNat : Int) = 92) : mean s.data.toList = if (s[1].toNat : Int) = 110 then 10 else if (s[1].toNat : Int) = 114 then 13 else if (s[1].toNat : Int) = 116 then 9 else if (s[1].toNat : Int) = 120 then (rhV ((s.data.toList.drop 2).take 2)).toNat else 92 := by
  obtain ⟨u, hu⟩ := list_two s h
  have e0 : s[0] = 92 := eq_byte (n := 92) h0
  have key : ∀ (n : Nat) (hn : n < 256), (s[1] = n.toUInt8) = ((s[1].toNat : Int) = n) := fun n hn => propext ⟨fun e => by rw [e]; simp; omega, fun e => eq_byte e⟩
  have k1 := key 110 (by omega); have k2 := key 114 (by omega); have k3 := key 116 (by omega); have k4 := key 120 (by omega)
  rw [hu, e0]
  simp only [mean, ne_eq, not_true_eq_false, if_false]
  have d : List.drop 2 ((92 : UInt8) :: s[1] :: u) = u := rfl
  rw [d]
  simp only [show (110 : UInt8) = (110 : Nat).toUInt8 from rfl, show (114 : UInt8) = (114 : Nat).toUInt8 from rfl, show (116 : UInt8) = (116 : Nat).toUInt8 from rfl, show (120 : UInt8) = (120 : Nat).toUInt8 from rfl, k1, k2, k3, k4]
  rfl
theorem size_list (s : ByteArray) : s.data.toList.length = s.size := rfl

end Go.Proofs.YtememmgnhnldaaaDoor.Digit

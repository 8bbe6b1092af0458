/-
  Layer 12 (lex): plain Lean: bytes of words and quotes, what is skipped, pieces, what is read.
-/
import Derived.Laws.RangeAny
import Derived.Lib.Hide
import Derived.RowKitTokens
import Derived.WalkKit
namespace Go.Proofs.YtabpkpeonbdinaaDoor.Lex
open Go.RowKit

/-- a byte of words -/
def wb (n : Nat) : Bool := decide (33 ≤ n) && decide (n ≤ 126) && n != 123 && n != 125 && n != 59 && n != 34 && n != 35 && n != 92
/-- a byte of quotes; one with a backslash ahead; one between pieces -/
def qb (n : Nat) : Bool := decide (32 ≤ n) && decide (n ≤ 126)
def eb (n : Nat) : Bool := n == 34 || n == 92
def bb (n : Nat) : Bool := n == 32 || n == 9 || n == 13
theorem wb_iff (n : Nat) : wb n = true ↔ 33 ≤ n ∧ n ≤ 126 ∧ n ≠ 123 ∧ n ≠ 125 ∧ n ≠ 59 ∧ n ≠ 34 ∧ n ≠ 35 ∧ n ≠ 92 := by simp [wb, and_assoc]
theorem qb_iff (n : Nat) : qb n = true ↔ 32 ≤ n ∧ n ≤ 126 := by simp [qb]
theorem eb_iff (n : Nat) : eb n = true ↔ n = 34 ∨ n = 92 := by simp [eb]
theorem bb_iff (n : Nat) : bb n = true ↔ n = 32 ∨ n = 9 ∨ n = 13 := by simp [bb, or_assoc]
theorem eb_qb {n : Nat} (h : eb n = true) : qb n = true := by rw [eb_iff] at h; rw [qb_iff]; omega
theorem wb_qb {n : Nat} (h : wb n = true) : qb n = true := by rw [wb_iff] at h; rw [qb_iff]; omega

/-- how long the word is with which a text begins -/
def wlen : List UInt8 → Nat
  | [] => 0
  | c :: r => if wb c.toNat then wlen r + 1 else 0
theorem wlen_nil : wlen [] = 0 := rfl
theorem wlen_yes {c : UInt8} (h : wb c.toNat = true) (r : List UInt8) : wlen (c :: r) = wlen r + 1 := by simp [wlen, h]
theorem wlen_no {c : UInt8} (h : wb c.toNat = false) (r : List UInt8) : wlen (c :: r) = 0 := by simp [wlen, h]
theorem wlen_le (l : List UInt8) : wlen l ≤ l.length := by
  induction l with
  | nil => exact Nat.le_refl _
  | cons c r ih =>
    cases h : wb c.toNat
    · rw [wlen_no h]; omega
    · rw [wlen_yes h, List.length_cons]; omega
theorem wlen_all {l : List UInt8} (h : ∀ c ∈ l, wb c.toNat = true) (m : List UInt8) : wlen (l ++ m) = l.length + wlen m := by
  induction l with
  | nil => simp
  | cons c r ih =>
    rw [List.cons_append, wlen_yes (h c (by simp)), ih (fun d hd => h d (by simp [hd])), List.length_cons]; omega
def isW (l : List UInt8) : Bool := !l.isEmpty && (wlen l == l.length)
theorem isW_all {l : List UInt8} (h : isW l = true) : l ≠ [] ∧ ∀ c ∈ l, wb c.toNat = true := by
  simp only [isW, Bool.and_eq_true, beq_iff_eq] at h
  refine ⟨by intro e; subst e; simp at h, ?_⟩
  have h2 := h.2
  clear h
  induction l with
  | nil => simp
  | cons c r ih =>
    cases hc : wb c.toNat
    · rw [wlen_no hc, List.length_cons] at h2; omega
    · rw [wlen_yes hc, List.length_cons] at h2
      intro d hd
      rcases List.mem_cons.1 hd with rfl | hd
      · exact hc
      · exact ih (by omega) d hd

/-- how many bytes there are ahead of a text's first piece, in a note or not; how many lines they lead on -/
def skip : Bool → List UInt8 → Nat
  | _, [] => 0
  | note, c :: r => if c.toNat = 10 then skip false r + 1 else if (note || bb c.toNat) = true then skip note r + 1 else if c.toNat = 35 then skip true r + 1 else 0
def skn : Bool → List UInt8 → Nat
  | _, [] => 0
  | note, c :: r => if c.toNat = 10 then skn false r + 1 else if (note || bb c.toNat) = true then skn note r else if c.toNat = 35 then skn true r else 0
theorem skip_nil (b : Bool) : skip b [] = 0 := by cases b <;> rfl
theorem skn_nil (b : Bool) : skn b [] = 0 := by cases b <;> rfl
theorem skip_line {c : UInt8} (h : c.toNat = 10) (b : Bool) (r : List UInt8) : skip b (c :: r) = skip false r + 1 := by rw [skip, if_pos h]
theorem skn_line {c : UInt8} (h : c.toNat = 10) (b : Bool) (r : List UInt8) : skn b (c :: r) = skn false r + 1 := by rw [skn, if_pos h]
theorem skip_go {c : UInt8} (h : c.toNat ≠ 10) {b : Bool} (k : (b || bb c.toNat) = true) (r : List UInt8) : skip b (c :: r) = skip b r + 1 := by rw [skip, if_neg h, if_pos k]
theorem skn_go {c : UInt8} (h : c.toNat ≠ 10) {b : Bool} (k : (b || bb c.toNat) = true) (r : List UInt8) : skn b (c :: r) = skn b r := by rw [skn, if_neg h, if_pos k]
theorem skip_note {c : UInt8} (h : c.toNat = 35) (r : List UInt8) : skip false (c :: r) = skip true r + 1 := by rw [skip, if_neg (by omega), if_neg (by rw [h]; decide), if_pos h]
theorem skn_note {c : UInt8} (h : c.toNat = 35) (r : List UInt8) : skn false (c :: r) = skn true r := by rw [skn, if_neg (by omega), if_neg (by rw [h]; decide), if_pos h]
theorem skip_end {c : UInt8} (h : c.toNat ≠ 10) (k : bb c.toNat = false) (j : c.toNat ≠ 35) (r : List UInt8) : skip false (c :: r) = 0 := by rw [skip, if_neg h, if_neg (by simp [k]), if_neg j]
theorem skn_end {c : UInt8} (h : c.toNat ≠ 10) (k : bb c.toNat = false) (j : c.toNat ≠ 35) (r : List UInt8) : skn false (c :: r) = 0 := by rw [skn, if_neg h, if_neg (by simp [k]), if_neg j]
theorem skip_le : ∀ (l : List UInt8) (b : Bool), skip b l ≤ l.length
  | [], b => by rw [skip_nil]; exact Nat.le_refl _
  | c :: r, b => by
    have h1 := skip_le r false; have h2 := skip_le r b; have h3 := skip_le r true
    rw [skip, List.length_cons]
    split
    · omega
    · split
      · omega
      · split <;> omega
/-- the lines are the line feeds among what is skipped -/
theorem skn_count : ∀ (l : List UInt8) (b : Bool), skn b l = (l.take (skip b l)).count 10
  | [], b => by rw [skn_nil, skip_nil]; rfl
  | c :: r, b => by
    by_cases h : c.toNat = 10
    · have hc : c = 10 := UInt8.toNat_inj.1 (by rw [h]; rfl)
      rw [skn_line h, skip_line h, List.take_succ_cons, skn_count r false, hc, List.count_cons_self]
    · have hc : c ≠ 10 := fun e => h (by rw [e]; rfl)
      by_cases k : (b || bb c.toNat) = true
      · rw [skn_go h k, skip_go h k, List.take_succ_cons, skn_count r b, List.count_cons_of_ne hc]
      · have k' : (b || bb c.toNat) = false := by simpa using k
        obtain ⟨rfl, kb⟩ : b = false ∧ bb c.toNat = false := by simpa using k'
        by_cases j : c.toNat = 35
        · rw [skn_note j, skip_note j, List.take_succ_cons, skn_count r true, List.count_cons_of_ne hc]
        · rw [skn_end h kb j, skip_end h kb j]; rfl
/-- behind the skipped there is nothing, or a byte that is not skipped -/
theorem skip_stop : ∀ (l : List UInt8) (b : Bool), skip false (l.drop (skip b l)) = 0
  | [], b => by rw [skip_nil]; exact skip_nil _
  | c :: r, b => by
    by_cases h : c.toNat = 10
    · rw [skip_line h, List.drop_succ_cons]; exact skip_stop r false
    · by_cases k : (b || bb c.toNat) = true
      · rw [skip_go h k, List.drop_succ_cons]; exact skip_stop r b
      · have k' : (b || bb c.toNat) = false := by simpa using k
        obtain ⟨rfl, kb⟩ : b = false ∧ bb c.toNat = false := by simpa using k'
        by_cases j : c.toNat = 35
        · rw [skip_note j, List.drop_succ_cons]; exact skip_stop r true
        · rw [skip_end h kb j, List.drop_zero]; exact skip_end h kb j r
/-- in a note bytes that are no line feeds are skipped, however many -/
theorem skip_high : ∀ (l m : List UInt8), (∀ c ∈ l, c.toNat ≠ 10) → skip true (l ++ m) = l.length + skip true m
  | [], m, _ => by simp
  | c :: r, m, h => by
    rw [List.cons_append, skip_go (h c (by simp)) (by simp), skip_high r m (fun d hd => h d (by simp [hd])), List.length_cons]; omega

/-- what a quote says, behind the sign that opens it, and how many bytes it takes with the sign that closes it -/
def unq : Bool → List UInt8 → Option (List UInt8 × Nat)
  | _, [] => none
  | b, c :: r =>
    if qb c.toNat = false ∨ b = true ∧ eb c.toNat = false then none
    else if b = false ∧ c.toNat = 92 then (unq true r).map fun x => (x.1, x.2 + 1)
    else if b = false ∧ c.toNat = 34 then some ([], 1)
    else (unq false r).map fun x => (c :: x.1, x.2 + 1)
theorem unq_nil (b : Bool) : unq b [] = none := by cases b <;> rfl
theorem unq_bad {c : UInt8} (h : qb c.toNat = false) (b : Bool) (r : List UInt8) : unq b (c :: r) = none := by rw [unq, if_pos (.inl h)]
theorem unq_lone {c : UInt8} (h : eb c.toNat = false) (r : List UInt8) : unq true (c :: r) = none := by rw [unq, if_pos (.inr ⟨rfl, h⟩)]
theorem unq_slash {c : UInt8} (h : c.toNat = 92) (r : List UInt8) : unq false (c :: r) = (unq true r).map fun x => (x.1, x.2 + 1) := by
  rw [unq, if_neg (by rw [h]; decide), if_pos ⟨rfl, h⟩]
theorem unq_end {c : UInt8} (h : c.toNat = 34) (r : List UInt8) : unq false (c :: r) = some ([], 1) := by
  rw [unq, if_neg (by rw [h]; decide), if_neg (by omega), if_pos ⟨rfl, h⟩]
theorem unq_plain {c : UInt8} (h : qb c.toNat = true) (k : eb c.toNat = false) (r : List UInt8) : unq false (c :: r) = (unq false r).map fun x => (c :: x.1, x.2 + 1) := by
  rw [unq, if_neg (by simp [h])]
  have : ¬ (c.toNat = 34 ∨ c.toNat = 92) := by rw [← eb_iff]; simp [k]
  rw [if_neg (by omega), if_neg (by omega)]
theorem unq_esc {c : UInt8} (h : eb c.toNat = true) (r : List UInt8) : unq true (c :: r) = (unq false r).map fun x => (c :: x.1, x.2 + 1) := by
  rw [unq, if_neg (by simp [h, eb_qb h]), if_neg (by simp), if_neg (by simp)]
theorem unq_le : ∀ (l : List UInt8) (b : Bool) (t : List UInt8) (n : Nat), unq b l = some (t, n) → 0 < n ∧ n ≤ l.length
  | [], b, t, n, h => by rw [unq_nil] at h; cases h
  | c :: r, b, t, n, h => by
    rw [unq] at h
    split at h
    · cases h
    · split at h
      · simp only [Option.map_eq_some_iff] at h
        obtain ⟨⟨t', n'⟩, h1, h2⟩ := h
        have := unq_le r true t' n' h1
        cases h2; simp; omega
      · split at h
        · cases h; simp
        · simp only [Option.map_eq_some_iff] at h
          obtain ⟨⟨t', n'⟩, h1, h2⟩ := h
          have := unq_le r false t' n' h1
          cases h2; simp; omega

/-- a piece: its kind, what it says, its line -/
structure Pc where
  kind : Int
  text : List UInt8
  line : Int
/-- the piece with which a text begins: its kind, what it says, how many bytes it has -/
def first : List UInt8 → Option (Int × List UInt8 × Nat)
  | [] => none
  | c :: r =>
    if c.toNat = 123 then some (3, [], 1) else if c.toNat = 125 then some (4, [], 1) else if c.toNat = 59 then some (5, [], 1)
    else if c.toNat = 34 then (unq false r).map fun x => (2, x.1, x.2 + 1)
    else if wb c.toNat = true then some (1, (c :: r).take (wlen (c :: r)), wlen (c :: r)) else none
theorem first_open {c : UInt8} (h : c.toNat = 123) (r : List UInt8) : first (c :: r) = some (3, [], 1) := by rw [first, if_pos h]
theorem first_close {c : UInt8} (h : c.toNat = 125) (r : List UInt8) : first (c :: r) = some (4, [], 1) := by rw [first, if_neg (by omega), if_pos h]
theorem first_semi {c : UInt8} (h : c.toNat = 59) (r : List UInt8) : first (c :: r) = some (5, [], 1) := by rw [first, if_neg (by omega), if_neg (by omega), if_pos h]
theorem first_quote {c : UInt8} (h : c.toNat = 34) (r : List UInt8) : first (c :: r) = (unq false r).map fun x => (2, x.1, x.2 + 1) := by
  rw [first, if_neg (by omega), if_neg (by omega), if_neg (by omega), if_pos h]
theorem first_word {c : UInt8} (h : wb c.toNat = true) (r : List UInt8) : first (c :: r) = some (1, (c :: r).take (wlen (c :: r)), wlen (c :: r)) := by
  have := (wb_iff _).1 h
  rw [first, if_neg (by omega), if_neg (by omega), if_neg (by omega), if_neg (by omega), if_pos h]
theorem first_none {c : UInt8} (h1 : c.toNat ≠ 123) (h2 : c.toNat ≠ 125) (h3 : c.toNat ≠ 59) (h4 : c.toNat ≠ 34) (h : wb c.toNat = false) (r : List UInt8) : first (c :: r) = none := by
  rw [first, if_neg h1, if_neg h2, if_neg h3, if_neg h4, if_neg (by simp [h])]
theorem first_le {l : List UInt8} {k : Int} {t : List UInt8} {n : Nat} (h : first l = some (k, t, n)) : 0 < n ∧ n ≤ l.length := by
  cases l with
  | nil => cases h
  | cons c r =>
    rw [first] at h
    split at h
    · cases h; simp
    · split at h
      · cases h; simp
      · split at h
        · cases h; simp
        · split at h
          · simp only [Option.map_eq_some_iff] at h
            obtain ⟨⟨t', n'⟩, h1, h2⟩ := h
            have := unq_le _ _ _ _ h1
            cases h2; simp; omega
          · split at h
            · rename_i hw
              cases h
              have := wlen_le (c :: r)
              rw [wlen_yes hw] at this ⊢
              omega
            · cases h

/-- what comes of reading: pieces, or a code and a line -/
inductive Res where
  | ok (l : List Pc)
  | err (c n : Int)
def Res.pcs : Res → List Pc
  | .ok l => l
  | .err _ _ => []
def Res.code : Res → Int
  | .ok _ => 0
  | .err c _ => c
def Res.line : Res → Int
  | .ok _ => 0
  | .err _ n => n
/-- all pieces of a text that begins with one, or is empty; some were found ahead -/
def read : Nat → List Pc → List UInt8 → Int → Res
  | 0, _, _, _ => .err 0 0
  | f + 1, acc, l, line =>
    if l = [] then .ok acc else if acc.length = 8192 then .err 15 line else
    match first l with
    | none => .err 3 line
    | some (k, t, n) => read f (acc ++ [⟨k, t, line⟩]) ((l.drop n).drop (skip false (l.drop n))) (line + skn false (l.drop n))
theorem read_nil (f : Nat) (acc : List Pc) (line : Int) : read (f + 1) acc [] line = .ok acc := by rw [read, if_pos rfl]
theorem read_many (f : Nat) {acc : List Pc} {l : List UInt8} (h : l ≠ []) (k : acc.length = 8192) (line : Int) : read (f + 1) acc l line = .err 15 line := by rw [read, if_neg h, if_pos k]
theorem read_bad (f : Nat) {acc : List Pc} {l : List UInt8} (h : l ≠ []) (k : acc.length ≠ 8192) (j : first l = none) (line : Int) : read (f + 1) acc l line = .err 3 line := by rw [read, if_neg h, if_neg k, j]
theorem read_some (f : Nat) {acc : List Pc} {l : List UInt8} (h : l ≠ []) (k : acc.length ≠ 8192) {x : Int} {t : List UInt8} {n : Nat} (j : first l = some (x, t, n)) (line : Int) :
    read (f + 1) acc l line = read f (acc ++ [⟨x, t, line⟩]) ((l.drop n).drop (skip false (l.drop n))) (line + skn false (l.drop n)) := by rw [read, if_neg h, if_neg k, j]
/-- what Read says of a text -/
def total (l : List UInt8) : Res := if 65536 < l.length then .err 5 0 else read (l.length + 1) [] (l.drop (skip false l)) (1 + skn false l)
theorem total_big {l : List UInt8} (h : 65536 < l.length) : total l = .err 5 0 := if_pos h
theorem total_fit {l : List UInt8} (h : ¬ 65536 < l.length) : total l = read (l.length + 1) [] (l.drop (skip false l)) (1 + skn false l) := if_neg h

/-- a quote's bytes -/
def esc (l : List UInt8) : List UInt8 := l.flatMap fun c => if eb c.toNat = true then [92, c] else [c]
theorem esc_nil : esc [] = [] := rfl
theorem esc_app (l m : List UInt8) : esc (l ++ m) = esc l ++ esc m := by simp [esc]
theorem esc_yes {c : UInt8} (h : eb c.toNat = true) : esc [c] = [92, c] := by simp [esc, h]
theorem esc_no {c : UInt8} (h : eb c.toNat = false) : esc [c] = [c] := by simp [esc, h]
theorem esc_cons (c : UInt8) (l : List UInt8) : esc (c :: l) = esc [c] ++ esc l := esc_app [c] l
theorem esc_len (l : List UInt8) : (esc l).length ≤ 2 * l.length := by
  induction l with
  | nil => simp [esc]
  | cons c r ih =>
    rw [esc_cons, List.length_append, List.length_cons]
    cases h : eb c.toNat
    · rw [esc_no h, List.length_singleton]; omega
    · rw [esc_yes h]; simp; omega
def allq (l : List UInt8) : Bool := l.all fun c => qb c.toNat
theorem allq_nil : allq [] = true := rfl
theorem allq_cons (c : UInt8) (l : List UInt8) : allq (c :: l) = (qb c.toNat && allq l) := rfl
theorem unq_esc_all : ∀ (l m : List UInt8), allq l = true → unq false (esc l ++ 34 :: m) = some (l, (esc l).length + 1)
  | [], m, _ => by rw [esc_nil, List.nil_append, unq_end rfl]; rfl
  | c :: r, m, h => by
    rw [allq_cons, Bool.and_eq_true] at h
    rw [esc_cons]
    cases he : eb c.toNat
    · rw [esc_no he, List.append_assoc, List.singleton_append, unq_plain h.1 he, unq_esc_all r m h.2]; simp
    · rw [esc_yes he]
      show unq false (92 :: c :: (esc r ++ 34 :: m)) = _
      rw [unq_slash rfl, unq_esc he, unq_esc_all r m h.2]; simp

/-- a piece as text, or why there is none -/
def ptC (k : Int) (t : List UInt8) : Int :=
  if k < 1 ∨ 5 < k then 1 else if k = 1 then (if isW t = true then 0 else 3) else if k = 2 then (if allq t = true then 0 else 3) else if t = [] then 0 else 3
def ptT (k : Int) (t : List UInt8) : List UInt8 :=
  if ptC k t ≠ 0 then [] else if k = 1 then t else if k = 2 then 34 :: esc t ++ [34] else if k = 3 then [123] else if k = 4 then [125] else [59]
theorem ptC_out {k : Int} (h : k < 1 ∨ 5 < k) (t : List UInt8) : ptC k t = 1 ∧ ptT k t = [] := by
  have : ptC k t = 1 := if_pos h
  exact ⟨this, by rw [ptT, if_pos (by omega)]⟩
theorem ptC_word (t : List UInt8) : (isW t = true → ptC 1 t = 0 ∧ ptT 1 t = t) ∧ (isW t = false → ptC 1 t = 3 ∧ ptT 1 t = []) := by
  constructor <;> intro h <;> simp [ptC, ptT, h]
theorem ptC_quote (t : List UInt8) : (allq t = true → ptC 2 t = 0 ∧ ptT 2 t = 34 :: esc t ++ [34]) ∧ (allq t = false → ptC 2 t = 3 ∧ ptT 2 t = []) := by
  constructor <;> intro h <;> simp [ptC, ptT, h]
theorem ptC_mark {k : Int} (h3 : 3 ≤ k) (h5 : k ≤ 5) {t : List UInt8} (h : t ≠ []) : ptC k t = 3 ∧ ptT k t = [] := by
  have : ptC k t = 3 := by rw [ptC, if_neg (by omega), if_neg (by omega), if_neg (by omega), if_neg h]
  exact ⟨this, by rw [ptT, if_pos (by omega)]⟩
theorem ptC_3 : ptC 3 [] = 0 ∧ ptT 3 [] = [123] := by decide
theorem ptC_4 : ptC 4 [] = 0 ∧ ptT 4 [] = [125] := by decide
theorem ptC_5 : ptC 5 [] = 0 ∧ ptT 5 [] = [59] := by decide
end Go.Proofs.YtabpkpeonbdinaaDoor.Lex

/-
Layer 12 (lex): plain Lean: bytes of words and quotes, what is skipped, pieces, what is read.
Layer 13 (tree): plain Lean: statements; what is read of pieces; the same but for lines; how many; a line of notes ahead.
Layer 13 (tree): plain Lean: statements as text.
Layer 12 (lex): plain Lean: what is put, with gaps between, is read as it was.
Layer 13 (tree): plain Lean: what is printed is read as the same: pieces with blanks around; the statements that such pieces are.
-/
import Derived.Laws.RangeAny
import Derived.Lib.Hide
import Derived.RowKitTokens
import Derived.WalkKit
import Derived.Lib.Join
import Derived.Lib.Repeat
section
namespace Go.Proofs.YtajfdachpdkbcaaGreatDoor.Lex
open Go.RowKit

/-- a byte of words -/
def wb (n : Nat) : Bool := decide (33 ≤ n) && decide (n ≤ 126) && n != 123 && n != 125 && n != 59 && n != 34 && n != 35 && n != 92
/-- a byte of quotes; one with a backslash ahead; one between pieces -/
def qb (n : Nat) : Bool := decide (32 ≤ n) && decide (n ≤ 126)
def eb (n : Nat) : Bool := n == 34 || n == 92
def bb (n : Nat) : Bool := n == 32 || n == 9 || n == 13
theorem wb_iff (n : Nat) : wb n = true ↔ 33 ≤ n ∧ n ≤ 126 ∧ n ≠ 123 ∧ n ≠ 125 ∧ n ≠ 59 ∧ n ≠ 34 ∧ n ≠ 35 ∧ n ≠ 92 := by simp [wb, and_assoc]
theorem qb_iff (n : Nat) : qb n = true ↔ 32 ≤ n ∧ n ≤ 126 := by simp [qb]
theorem eb_iff (n : Nat) : eb n = true ↔ n = 34 ∨ n = 92 := by simp [eb]
theorem bb_iff (n : Nat) : bb n = true ↔ n = 32 ∨ n = 9 ∨ n = 13 := by simp [bb, or_assoc]
theorem eb_qb {n : Nat} (h : eb n = true) : qb n = true := by rw [eb_iff] at h; rw [qb_iff]; omega
theorem wb_qb {n : Nat} (h : wb n = true) : qb n = true := by rw [wb_iff] at h; rw [qb_iff]; omega

/-- how long the word is with which a text begins -/
def wlen : List UInt8 → Nat
  | [] => 0
  | c :: r => if wb c.toNat then wlen r + 1 else 0
theorem wlen_nil : wlen [] = 0 := rfl
theorem wlen_yes {c : UInt8} (h : wb c.toNat = true) (r : List UInt8) : wlen (c :: r) = wlen r + 1 := by simp [wlen, h]
theorem wlen_no {c : UInt8} (h : wb c.toNat = false) (r : List UInt8) : wlen (c :: r) = 0 := by simp [wlen, h]
theorem wlen_le (l : List UInt8) : wlen l ≤ l.length := by
  induction l with
  | nil => exact Nat.le_refl _
  | cons c r ih =>
    cases h : wb c.toNat
    · rw [wlen_no h]; omega
    · rw [wlen_yes h, List.length_cons]; omega
theorem wlen_all {l : List UInt8} (h : ∀ c ∈ l, wb c.toNat = true) (m : List UInt8) : wlen (l ++ m) = l.length + wlen m := by
  induction l with
  | nil => simp
  | cons c r ih =>
    rw [List.cons_append, wlen_yes (h c (by simp)), ih (fun d hd => h d (by simp [hd])), List.length_cons]; omega
def isW (l : List UInt8) : Bool := !l.isEmpty && (wlen l == l.length)
theorem isW_all {l : List UInt8} (h : isW l = true) : l ≠ [] ∧ ∀ c ∈ l, wb c.toNat = true := by
  simp only [isW, Bool.and_eq_true, beq_iff_eq] at h
  refine ⟨by intro e; subst e; simp at h, ?_⟩
  have h2 := h.2
  clear h
  induction l with
  | nil => simp
  | cons c r ih =>
    cases hc : wb c.toNat
    · rw [wlen_no hc, List.length_cons] at h2; omega
    · rw [wlen_yes hc, List.length_cons] at h2
      intro d hd
      rcases List.mem_cons.1 hd with rfl | hd
      · exact hc
      · exact ih (by omega) d hd

/-- how many bytes there are ahead of a text's first piece, in a note or not; how many lines they lead on -/
def skip : Bool → List UInt8 → Nat
  | _, [] => 0
  | note, c :: r => if c.toNat = 10 then skip false r + 1 else if (note || bb c.toNat) = true then skip note r + 1 else if c.toNat = 35 then skip true r + 1 else 0
def skn : Bool → List UInt8 → Nat
  | _, [] => 0
  | note, c :: r => if c.toNat = 10 then skn false r + 1 else if (note || bb c.toNat) = true then skn note r else if c.toNat = 35 then skn true r else 0
theorem skip_nil (b : Bool) : skip b [] = 0 := by cases b <;> rfl
theorem skn_nil (b : Bool) : skn b [] = 0 := by cases b <;> rfl
theorem skip_line {c : UInt8} (h : c.toNat = 10) (b : Bool) (r : List UInt8) : skip b (c :: r) = skip false r + 1 := by rw [skip, if_pos h]
theorem skn_line {c : UInt8} (h : c.toNat = 10) (b : Bool) (r : List UInt8) : skn b (c :: r) = skn false r + 1 := by rw [skn, if_pos h]
theorem skip_go {c : UInt8} (h : c.toNat ≠ 10) {b : Bool} (k : (b || bb c.toNat) = true) (r : List UInt8) : skip b (c :: r) = skip b r + 1 := by rw [skip, if_neg h, if_pos k]
theorem skn_go {c : UInt8} (h : c.toNat ≠ 10) {b : Bool} (k : (b || bb c.toNat) = true) (r : List UInt8) : skn b (c :: r) = skn b r := by rw [skn, if_neg h, if_pos k]
theorem skip_note {c : UInt8} (h : c.toNat = 35) (r : List UInt8) : skip false (c :: r) = skip true r + 1 := by rw [skip, if_neg (by omega), if_neg (by rw [h]; decide), if_pos h]
theorem skn_note {c : UInt8} (h : c.toNat = 35) (r : List UInt8) : skn false (c :: r) = skn true r := by rw [skn, if_neg (by omega), if_neg (by rw [h]; decide), if_pos h]
theorem skip_end {c : UInt8} (h : c.toNat ≠ 10) (k : bb c.toNat = false) (j : c.toNat ≠ 35) (r : List UInt8) : skip false (c :: r) = 0 := by rw [skip, if_neg h, if_neg (by simp [k]), if_neg j]
theorem skn_end {c : UInt8} (h : c.toNat ≠ 10) (k : bb c.toNat = false) (j : c.toNat ≠ 35) (r : List UInt8) : skn false (c :: r) = 0 := by rw [skn, if_neg h, if_neg (by simp [k]), if_neg j]
theorem skip_le : ∀ (l : List UInt8) (b : Bool), skip b l ≤ l.length
  | [], b => by rw [skip_nil]; exact Nat.le_refl _
  | c :: r, b => by
    have h1 := skip_le r false; have h2 := skip_le r b; have h3 := skip_le r true
    rw [skip, List.length_cons]
    split
    · omega
    · split
      · omega
      · split <;> omega
/-- the lines are the line feeds among what is skipped -/
theorem skn_count : ∀ (l : List UInt8) (b : Bool), skn b l = (l.take (skip b l)).count 10
  | [], b => by rw [skn_nil, skip_nil]; rfl
  | c :: r, b => by
    by_cases h : c.toNat = 10
    · have hc : c = 10 := UInt8.toNat_inj.1 (by rw [h]; rfl)
      rw [skn_line h, skip_line h, List.take_succ_cons, skn_count r false, hc, List.count_cons_self]
    · have hc : c ≠ 10 := fun e => h (by rw [e]; rfl)
      by_cases k : (b || bb c.toNat) = true
      · rw [skn_go h k, skip_go h k, List.take_succ_cons, skn_count r b, List.count_cons_of_ne hc]
      · have k' : (b || bb c.toNat) = false := by simpa using k
        obtain ⟨rfl, kb⟩ : b = false ∧ bb c.toNat = false := by simpa using k'
        by_cases j : c.toNat = 35
        · rw [skn_note j, skip_note j, List.take_succ_cons, skn_count r true, List.count_cons_of_ne hc]
        · rw [skn_end h kb j, skip_end h kb j]; rfl
/-- behind the skipped there is nothing, or a byte that is not skipped -/
theorem skip_stop : ∀ (l : List UInt8) (b : Bool), skip false (l.drop (skip b l)) = 0
  | [], b => by rw [skip_nil]; exact skip_nil _
  | c :: r, b => by
    by_cases h : c.toNat = 10
    · rw [skip_line h, List.drop_succ_cons]; exact skip_stop r false
    · by_cases k : (b || bb c.toNat) = true
      · rw [skip_go h k, List.drop_succ_cons]; exact skip_stop r b
      · have k' : (b || bb c.toNat) = false := by simpa using k
        obtain ⟨rfl, kb⟩ : b = false ∧ bb c.toNat = false := by simpa using k'
        by_cases j : c.toNat = 35
        · rw [skip_note j, List.drop_succ_cons]; exact skip_stop r true
        · rw [skip_end h kb j, List.drop_zero]; exact skip_end h kb j r
/-- in a note bytes that are no line feeds are skipped, however many -/
theorem skip_high : ∀ (l m : List UInt8), (∀ c ∈ l, c.toNat ≠ 10) → skip true (l ++ m) = l.length + skip true m
  | [], m, _ => by simp
  | c :: r, m, h => by
    rw [List.cons_append, skip_go (h c (by simp)) (by simp), skip_high r m (fun d hd => h d (by simp [hd])), List.length_cons]; omega

/-- what a quote says, behind the sign that opens it, and how many bytes it takes with the sign that closes it -/
def unq : Bool → List UInt8 → Option (List UInt8 × Nat)
  | _, [] => none
  | b, c :: r =>
    if qb c.toNat = false ∨ b = true ∧ eb c.toNat = false then none
    else if b = false ∧ c.toNat = 92 then (unq true r).map fun x => (x.1, x.2 + 1)
    else if b = false ∧ c.toNat = 34 then some ([], 1)
    else (unq false r).map fun x => (c :: x.1, x.2 + 1)
theorem unq_nil (b : Bool) : unq b [] = none := by cases b <;> rfl
theorem unq_bad {c : UInt8} (h : qb c.toNat = false) (b : Bool) (r : List UInt8) : unq b (c :: r) = none := by rw [unq, if_pos (.inl h)]
theorem unq_lone {c : UInt8} (h : eb c.toNat = false) (r : List UInt8) : unq true (c :: r) = none := by rw [unq, if_pos (.inr ⟨rfl, h⟩)]
theorem unq_slash {c : UInt8} (h : c.toNat = 92) (r : List UInt8) : unq false (c :: r) = (unq true r).map fun x => (x.1, x.2 + 1) := by
  rw [unq, if_neg (by rw [h]; decide), if_pos ⟨rfl, h⟩]
theorem unq_end {c : UInt8} (h : c.toNat = 34) (r : List UInt8) : unq false (c :: r) = some ([], 1) := by
  rw [unq, if_neg (by rw [h]; decide), if_neg (by omega), if_pos ⟨rfl, h⟩]
theorem unq_plain {c : UInt8} (h : qb c.toNat = true) (k : eb c.toNat = false) (r : List UInt8) : unq false (c :: r) = (unq false r).map fun x => (c :: x.1, x.2 + 1) := by
  rw [unq, if_neg (by simp [h])]
  have : ¬ (c.toNat = 34 ∨ c.toNat = 92) := by rw [← eb_iff]; simp [k]
  rw [if_neg (by omega), if_neg (by omega)]
theorem unq_esc {c : UInt8} (h : eb c.toNat = true) (r : List UInt8) : unq true (c :: r) = (unq false r).map fun x => (c :: x.1, x.2 + 1) := by
  rw [unq, if_neg (by simp [h, eb_qb h]), if_neg (by simp), if_neg (by simp)]
theorem unq_le : ∀ (l : List UInt8) (b : Bool) (t : List UInt8) (n : Nat), unq b l = some (t, n) → 0 < n ∧ n ≤ l.length
  | [], b, t, n, h => by rw [unq_nil] at h; cases h
  | c :: r, b, t, n, h => by
    rw [unq] at h
    split at h
    · cases h
    · split at h
      · simp only [Option.map_eq_some_iff] at h
        obtain ⟨⟨t', n'⟩, h1, h2⟩ := h
        have := unq_le r true t' n' h1
        cases h2; simp; omega
      · split at h
        · cases h; simp
        · simp only [Option.map_eq_some_iff] at h
          obtain ⟨⟨t', n'⟩, h1, h2⟩ := h
          have := unq_le r false t' n' h1
          cases h2; simp; omega

/-- a piece: its kind, what it says, its line -/
structure Pc where
  kind : Int
  text : List UInt8
  line : Int
/-- the piece with which a text begins: its kind, what it says, how many bytes it has -/
def first : List UInt8 → Option (Int × List UInt8 × Nat)
  | [] => none
  | c :: r =>
    if c.toNat = 123 then some (3, [], 1) else if c.toNat = 125 then some (4, [], 1) else if c.toNat = 59 then some (5, [], 1)
    else if c.toNat = 34 then (unq false r).map fun x => (2, x.1, x.2 + 1)
    else if wb c.toNat = true then some (1, (c :: r).take (wlen (c :: r)), wlen (c :: r)) else none
theorem first_open {c : UInt8} (h : c.toNat = 123) (r : List UInt8) : first (c :: r) = some (3, [], 1) := by rw [first, if_pos h]
theorem first_close {c : UInt8} (h : c.toNat = 125) (r : List UInt8) : first (c :: r) = some (4, [], 1) := by rw [first, if_neg (by omega), if_pos h]
theorem first_semi {c : UInt8} (h : c.toNat = 59) (r : List UInt8) : first (c :: r) = some (5, [], 1) := by rw [first, if_neg (by omega), if_neg (by omega), if_pos h]
theorem first_quote {c : UInt8} (h : c.toNat = 34) (r : List UInt8) : first (c :: r) = (unq false r).map fun x => (2, x.1, x.2 + 1) := by
  rw [first, if_neg (by omega), if_neg (by omega), if_neg (by omega), if_pos h]
theorem first_word {c : UInt8} (h : wb c.toNat = true) (r : List UInt8) : first (c :: r) = some (1, (c :: r).take (wlen (c :: r)), wlen (c :: r)) := by
  have := (wb_iff _).1 h
  rw [first, if_neg (by omega), if_neg (by omega), if_neg (by omega), if_neg (by omega), if_pos h]
theorem first_none {c : UInt8} (h1 : c.toNat ≠ 123) (h2 : c.toNat ≠ 125) (h3 : c.toNat ≠ 59) (h4 : c.toNat ≠ 34) (h : wb c.toNat = false) (r : List UInt8) : first (c :: r) = none := by
  rw [first, if_neg h1, if_neg h2, if_neg h3, if_neg h4, if_neg (by simp [h])]
theorem first_le {l : List UInt8} {k : Int} {t : List UInt8} {n : Nat} (h : first l = some (k, t, n)) : 0 < n ∧ n ≤ l.length := by
  cases l with
  | nil => cases h
  | cons c r =>
    rw [first] at h
    split at h
    · cases h; simp
    · split at h
      · cases h; simp
      · split at h
        · cases h; simp
        · split at h
          · simp only [Option.map_eq_some_iff] at h
            obtain ⟨⟨t', n'⟩, h1, h2⟩ := h
            have := unq_le _ _ _ _ h1
            cases h2; simp; omega
          · split at h
            · rename_i hw
              cases h
              have := wlen_le (c :: r)
              rw [wlen_yes hw] at this ⊢
              omega
            · cases h

/-- what comes of reading: pieces, or a code and a line -/
inductive Res where
  | ok (l : List Pc)
  | err (c n : Int)
def Res.pcs : Res → List Pc
  | .ok l => l
  | .err _ _ => []
def Res.code : Res → Int
  | .ok _ => 0
  | .err c _ => c
def Res.line : Res → Int
  | .ok _ => 0
  | .err _ n => n
/-- all pieces of a text that begins with one, or is empty; some were found ahead -/
def read : Nat → List Pc → List UInt8 → Int → Res
  | 0, _, _, _ => .err 0 0
  | f + 1, acc, l, line =>
    if l = [] then .ok acc else if acc.length = 8192 then .err 15 line else
    match first l with
    | none => .err 3 line
    | some (k, t, n) => read f (acc ++ [⟨k, t, line⟩]) ((l.drop n).drop (skip false (l.drop n))) (line + skn false (l.drop n))
theorem read_nil (f : Nat) (acc : List Pc) (line : Int) : read (f + 1) acc [] line = .ok acc := by rw [read, if_pos rfl]
theorem read_many (f : Nat) {acc : List Pc} {l : List UInt8} (h : l ≠ []) (k : acc.length = 8192) (line : Int) : read (f + 1) acc l line = .err 15 line := by rw [read, if_neg h, if_pos k]
theorem read_bad (f : Nat) {acc : List Pc} {l : List UInt8} (h : l ≠ []) (k : acc.length ≠ 8192) (j : first l = none) (line : Int) : read (f + 1) acc l line = .err 3 line := by rw [read, if_neg h, if_neg k, j]
theorem read_some (f : Nat) {acc : List Pc} {l : List UInt8} (h : l ≠ []) (k : acc.length ≠ 8192) {x : Int} {t : List UInt8} {n : Nat} (j : first l = some (x, t, n)) (line : Int) :
    read (f + 1) acc l line = read f (acc ++ [⟨x, t, line⟩]) ((l.drop n).drop (skip false (l.drop n))) (line + skn false (l.drop n)) := by rw [read, if_neg h, if_neg k, j]
/-- what Read says of a text -/
def total (l : List UInt8) : Res := if 65536 < l.length then .err 5 0 else read (l.length + 1) [] (l.drop (skip false l)) (1 + skn false l)
theorem total_big {l : List UInt8} (h : 65536 < l.length) : total l = .err 5 0 := if_pos h
theorem total_fit {l : List UInt8} (h : ¬ 65536 < l.length) : total l = read (l.length + 1) [] (l.drop (skip false l)) (1 + skn false l) := if_neg h

/-- a quote's bytes -/
def esc (l : List UInt8) : List UInt8 := l.flatMap fun c => if eb c.toNat = true then [92, c] else [c]
theorem esc_nil : esc [] = [] := rfl
theorem esc_app (l m : List UInt8) : esc (l ++ m) = esc l ++ esc m := by simp [esc]
theorem esc_yes {c : UInt8} (h : eb c.toNat = true) : esc [c] = [92, c] := by simp [esc, h]
theorem esc_no {c : UInt8} (h : eb c.toNat = false) : esc [c] = [c] := by simp [esc, h]
theorem esc_cons (c : UInt8) (l : List UInt8) : esc (c :: l) = esc [c] ++ esc l := esc_app [c] l
theorem esc_len (l : List UInt8) : (esc l).length ≤ 2 * l.length := by
  induction l with
  | nil => simp [esc]
  | cons c r ih =>
    rw [esc_cons, List.length_append, List.length_cons]
    cases h : eb c.toNat
    · rw [esc_no h, List.length_singleton]; omega
    · rw [esc_yes h]; simp; omega
def allq (l : List UInt8) : Bool := l.all fun c => qb c.toNat
theorem allq_nil : allq [] = true := rfl
theorem allq_cons (c : UInt8) (l : List UInt8) : allq (c :: l) = (qb c.toNat && allq l) := rfl
theorem unq_esc_all : ∀ (l m : List UInt8), allq l = true → unq false (esc l ++ 34 :: m) = some (l, (esc l).length + 1)
  | [], m, _ => by rw [esc_nil, List.nil_append, unq_end rfl]; rfl
  | c :: r, m, h => by
    rw [allq_cons, Bool.and_eq_true] at h
    rw [esc_cons]
    cases he : eb c.toNat
    · rw [esc_no he, List.append_assoc, List.singleton_append, unq_plain h.1 he, unq_esc_all r m h.2]; simp
    · rw [esc_yes he]
      show unq false (92 :: c :: (esc r ++ 34 :: m)) = _
      rw [unq_slash rfl, unq_esc he, unq_esc_all r m h.2]; simp

/-- a piece as text, or why there is none -/
def ptC (k : Int) (t : List UInt8) : Int :=
  if k < 1 ∨ 5 < k then 1 else if k = 1 then (if isW t = true then 0 else 3) else if k = 2 then (if allq t = true then 0 else 3) else if t = [] then 0 else 3
def ptT (k : Int) (t : List UInt8) : List UInt8 :=
  if ptC k t ≠ 0 then [] else if k = 1 then t else if k = 2 then 34 :: esc t ++ [34] else if k = 3 then [123] else if k = 4 then [125] else [59]
theorem ptC_out {k : Int} (h : k < 1 ∨ 5 < k) (t : List UInt8) : ptC k t = 1 ∧ ptT k t = [] := by
  have : ptC k t = 1 := if_pos h
  exact ⟨this, by rw [ptT, if_pos (by omega)]⟩
theorem ptC_word (t : List UInt8) : (isW t = true → ptC 1 t = 0 ∧ ptT 1 t = t) ∧ (isW t = false → ptC 1 t = 3 ∧ ptT 1 t = []) := by
  constructor <;> intro h <;> simp [ptC, ptT, h]
theorem ptC_quote (t : List UInt8) : (allq t = true → ptC 2 t = 0 ∧ ptT 2 t = 34 :: esc t ++ [34]) ∧ (allq t = false → ptC 2 t = 3 ∧ ptT 2 t = []) := by
  constructor <;> intro h <;> simp [ptC, ptT, h]
theorem ptC_mark {k : Int} (h3 : 3 ≤ k) (h5 : k ≤ 5) {t : List UInt8} (h : t ≠ []) : ptC k t = 3 ∧ ptT k t = [] := by
  have : ptC k t = 3 := by rw [ptC, if_neg (by omega), if_neg (by omega), if_neg (by omega), if_neg h]
  exact ⟨this, by rw [ptT, if_pos (by omega)]⟩
theorem ptC_3 : ptC 3 [] = 0 ∧ ptT 3 [] = [123] := by decide
theorem ptC_4 : ptC 4 [] = 0 ∧ ptT 4 [] = [125] := by decide
theorem ptC_5 : ptC 5 [] = 0 ∧ ptT 5 [] = [59] := by decide
end Go.Proofs.YtajfdachpdkbcaaGreatDoor.Lex
end

section
namespace Go.Proofs.YtajfdachpdkbcaaGreatDoor.Tree
open Go.RowKit Go.Proofs.YtajfdachpdkbcaaGreatDoor.Lex

/-- a statement: its key, its arguments, has it a block, the statements of that, its line -/
inductive Nd where
  | mk (key : List UInt8) (args : List (List UInt8)) (block : Bool) (list : List Nd) (line : Int)
def Nd.key : Nd → List UInt8 | .mk k _ _ _ _ => k
def Nd.args : Nd → List (List UInt8) | .mk _ a _ _ _ => a
def Nd.block : Nd → Bool | .mk _ _ b _ _ => b
def Nd.list : Nd → List Nd | .mk _ _ _ l _ => l
def Nd.line : Nd → Int | .mk _ _ _ _ n => n

/-- what comes of reading: a code and a line, or something, and the pieces that are left -/
inductive Rs (α : Type) where
  | bad (code line : Int)
  | ok (a : α) (rest : List Pc)
/-- the arguments of a statement, and, if a block was opened behind them, in which line -/
def argsOf (last : Int) (as : List (List UInt8)) : List Pc → Rs (List (List UInt8) × Option Int)
  | [] => .bad 3 last
  | p :: r => if p.kind = 1 ∨ p.kind = 2 then (if as.length = 16 then .bad 15 p.line else argsOf last (as ++ [p.text]) r)
    else if p.kind = 3 then .ok (as, some p.line) r else if p.kind = 5 then .ok (as, none) r else .bad 3 p.line
/-- a statement that begins with a piece -/
def stm (last : Int) (B : Nat → List Pc → Rs (List Nd)) (d : Nat) (k : Pc) (r : List Pc) : Rs Nd :=
  if k.kind = 1 then
    match argsOf last [] r with
    | .bad c l => .bad c l
    | .ok (as, none) r1 => .ok (.mk k.text as false [] k.line) r1
    | .ok (as, some l) r1 => if d = 4 then .bad 15 l else
      match B (d + 1) r1 with
      | .bad c l => .bad c l
      | .ok ns r2 => .ok (.mk k.text as true ns k.line) r2
  else .bad 3 k.line
/-- the statements of a block -/
def blk (last : Int) : Nat → Nat → List Nd → List Pc → Rs (List Nd)
  | 0, _, _, _ => .bad 3 last
  | _ + 1, _, _, [] => .bad 3 last
  | f + 1, d, acc, p :: r => if p.kind = 4 then .ok acc r else
    match stm last (fun d r => blk last f d [] r) d p r with
    | .bad c l => .bad c l
    | .ok n r1 => blk last f d (acc ++ [n]) r1
/-- the statements that stand in no block -/
def alls (last : Int) : Nat → List Nd → List Pc → Rs (List Nd)
  | 0, _, _ => .bad 3 last
  | _ + 1, acc, [] => .ok acc []
  | f + 1, acc, p :: r =>
    match stm last (fun d r => blk last f d [] r) 0 p r with
    | .bad c l => .bad c l
    | .ok n r1 => alls last f (acc ++ [n]) r1
def lastOf (P : List Pc) : Int := match P.getLast? with | some p => p.line | none => 0
def treeOf (P : List Pc) : Rs (List Nd) := alls (lastOf P) (P.length + 1) [] P
/-- what Read says -/
inductive Tr where
  | ok (l : List Nd)
  | err (code line : Int)
def Tr.nds : Tr → List Nd
  | .ok l => l
  | .err _ _ => []
def Tr.code : Tr → Int
  | .ok _ => 0
  | .err c _ => c
def Tr.line : Tr → Int
  | .ok _ => 0
  | .err _ n => n
def readT (s : List UInt8) : Tr :=
  match total s with
  | .err c n => .err c n
  | .ok P => match treeOf P with
    | .bad c n => .err c n
    | .ok l _ => .ok l

theorem blk_nil (last : Int) (f d : Nat) (acc : List Nd) : blk last (f + 1) d acc [] = .bad 3 last := rfl
theorem blk_close (last : Int) (f d : Nat) (acc : List Nd) {p : Pc} (h : p.kind = 4) (r : List Pc) : blk last (f + 1) d acc (p :: r) = .ok acc r := by rw [blk, if_pos h]
theorem blk_bad (last : Int) (f d : Nat) (acc : List Nd) {p : Pc} (h : p.kind ≠ 4) {r : List Pc} {c l : Int} (k : stm last (fun d r => blk last f d [] r) d p r = .bad c l) : blk last (f + 1) d acc (p :: r) = .bad c l := by rw [blk, if_neg h, k]
theorem blk_ok (last : Int) (f d : Nat) (acc : List Nd) {p : Pc} (h : p.kind ≠ 4) {r r1 : List Pc} {n : Nd} (k : stm last (fun d r => blk last f d [] r) d p r = .ok n r1) : blk last (f + 1) d acc (p :: r) = blk last f d (acc ++ [n]) r1 := by rw [blk, if_neg h, k]
theorem alls_nil (last : Int) (f : Nat) (acc : List Nd) : alls last (f + 1) acc [] = .ok acc [] := rfl
theorem alls_bad (last : Int) (f : Nat) (acc : List Nd) {p : Pc} {r : List Pc} {c l : Int} (k : stm last (fun d r => blk last f d [] r) 0 p r = .bad c l) : alls last (f + 1) acc (p :: r) = .bad c l := by rw [alls, k]
theorem alls_ok (last : Int) (f : Nat) (acc : List Nd) {p : Pc} {r r1 : List Pc} {n : Nd} (k : stm last (fun d r => blk last f d [] r) 0 p r = .ok n r1) : alls last (f + 1) acc (p :: r) = alls last f (acc ++ [n]) r1 := by rw [alls, k]

/-! ### the same, but for lines -/
mutual
def Nd.same : Nd → Nd → Bool
  | .mk k a b l _, .mk k' a' b' l' _ => k == k' && (a == a' && (b == b' && sameL l l'))
def sameL : List Nd → List Nd → Bool
  | [], [] => true
  | x :: xs, y :: ys => x.same y && sameL xs ys
  | [], _ :: _ => false
  | _ :: _, [] => false
end
theorem sameL_cons (x y : Nd) (xs ys : List Nd) : sameL (x :: xs) (y :: ys) = (x.same y && sameL xs ys) := by rw [sameL]
theorem sameL_nil : sameL [] [] = true := by rw [sameL]
theorem same_mk (k k' : List UInt8) (a a' : List (List UInt8)) (b b' : Bool) (l l' : List Nd) (n n' : Int) : (Nd.mk k a b l n).same (.mk k' a' b' l' n') = (k == k' && (a == a' && (b == b' && sameL l l'))) := by rw [Nd.same]
theorem sameL_len : ∀ {a b : List Nd}, sameL a b = true → a.length = b.length
  | [], [], _ => rfl
  | [], _ :: _, h => by rw [sameL] at h; cases h
  | _ :: _, [], h => by rw [sameL] at h; cases h
  | x :: xs, y :: ys, h => by
    rw [sameL_cons, Bool.and_eq_true] at h
    rw [List.length_cons, List.length_cons, sameL_len h.2]
theorem sameL_ne {a b : List Nd} (h : a.length ≠ b.length) : sameL a b = false := by
  cases e : sameL a b
  · rfl
  · exact absurd (sameL_len e) h
theorem sameL_snoc : ∀ {a b : List Nd} {x y : Nd}, sameL a b = true → x.same y = true → sameL (a ++ [x]) (b ++ [y]) = true
  | [], [], x, y, _, h => by rw [List.nil_append, List.nil_append, sameL_cons, h, sameL_nil]; rfl
  | [], _ :: _, _, _, h, _ => by rw [sameL] at h; cases h
  | _ :: _, [], _, _, h, _ => by rw [sameL] at h; cases h
  | x :: xs, y :: ys, u, v, h, k => by
    rw [sameL_cons, Bool.and_eq_true] at h
    rw [List.cons_append, List.cons_append, sameL_cons, h.1, sameL_snoc h.2 k]; rfl

/-! ### how many -/
mutual
def Nd.kids : Nd → Nat
  | .mk _ _ _ l _ => cntL l
def cntL : List Nd → Nat
  | [] => 0
  | x :: xs => x.kids + 1 + cntL xs
end
theorem cntL_nil : cntL [] = 0 := by rw [cntL]
theorem cntL_cons (x : Nd) (xs : List Nd) : cntL (x :: xs) = x.kids + 1 + cntL xs := by rw [cntL]
theorem kids_mk (k : List UInt8) (a : List (List UInt8)) (b : Bool) (l : List Nd) (n : Int) : (Nd.mk k a b l n).kids = cntL l := by rw [Nd.kids]
theorem kids_list (x : Nd) : x.kids = cntL x.list := by cases x; rw [kids_mk]; rfl

/-! ### one line further on -/
def up (p : Pc) : Pc := ⟨p.kind, p.text, p.line + 1⟩
/-- all lines are some line -/
def Ln (n : Int) : Prop := 1 ≤ n ∧ n ≤ 100000
def Lined (l : List Pc) : Prop := ∀ p ∈ l, Ln p.line
inductive UpR {α : Type} (R : α → α → Prop) : Rs α → Rs α → Prop
  | bad (c n : Int) (h : Ln n) : UpR R (.bad c n) (.bad c (n + 1))
  | ok {a b : α} {r : List Pc} (h : R a b) (hr : Lined r) : UpR R (.ok a r) (.ok b (r.map up))
def UpA (a b : List (List UInt8) × Option Int) : Prop := a.1 = b.1 ∧ b.2 = a.2.map (· + 1) ∧ ∀ n, a.2 = some n → Ln n
theorem argsOf_up (last : Int) (hl : Ln last) : ∀ (r : List Pc) (as : List (List UInt8)), Lined r → UpR UpA (argsOf last as r) (argsOf (last + 1) as (r.map up))
  | [], as, _ => .bad 3 last hl
  | p :: r, as, h => by
    have hp : Ln p.line := h p (by simp)
    have hr : Lined r := fun q hq => h q (by simp [hq])
    rw [List.map_cons, argsOf, argsOf]
    show UpR UpA _ (if p.kind = 1 ∨ p.kind = 2 then (if as.length = 16 then .bad 15 (p.line + 1) else argsOf (last + 1) (as ++ [p.text]) (r.map up)) else if p.kind = 3 then .ok (as, some (p.line + 1)) (r.map up) else if p.kind = 5 then .ok (as, none) (r.map up) else .bad 3 (p.line + 1))
    by_cases h1 : p.kind = 1 ∨ p.kind = 2
    · rw [if_pos h1, if_pos h1]
      by_cases h2 : as.length = 16
      · rw [if_pos h2, if_pos h2]; exact .bad _ _ hp
      · rw [if_neg h2, if_neg h2]; exact argsOf_up last hl r _ hr
    · rw [if_neg h1, if_neg h1]
      by_cases h3 : p.kind = 3
      · rw [if_pos h3, if_pos h3]; exact .ok ⟨rfl, rfl, fun n hn => by cases hn; exact hp⟩ hr
      · rw [if_neg h3, if_neg h3]
        by_cases h5 : p.kind = 5
        · rw [if_pos h5, if_pos h5]; exact .ok ⟨rfl, rfl, fun n hn => by cases hn⟩ hr
        · rw [if_neg h5, if_neg h5]; exact .bad _ _ hp
def SameN (a b : Nd) : Prop := a.same b = true
def SameLs (a b : List Nd) : Prop := sameL a b = true
theorem stm_up (last : Int) (hl : Ln last) {B B' : Nat → List Pc → Rs (List Nd)} (hB : ∀ d r, Lined r → UpR SameLs (B d r) (B' d (r.map up))) (d : Nat) (k : Pc) (hk : Ln k.line) (r : List Pc) (hr : Lined r) :
    UpR SameN (stm last B d k r) (stm (last + 1) B' d (up k) (r.map up)) := by
  unfold stm
  show UpR SameN _ (if k.kind = 1 then _ else .bad 3 (k.line + 1))
  by_cases h1 : k.kind = 1
  · rw [if_pos h1, if_pos h1]
    have ha := argsOf_up last hl r [] hr
    generalize argsOf last [] r = A at ha
    generalize argsOf (last + 1) [] (r.map up) = A' at ha
    cases ha with
    | bad c n h => exact .bad _ _ h
    | @ok a b r1 h h1 =>
      obtain ⟨as, o⟩ := a
      obtain ⟨bs, o'⟩ := b
      obtain ⟨e1, e2, e3⟩ := h
      obtain rfl : as = bs := e1
      obtain rfl : o' = o.map (· + 1) := e2
      cases o with
      | none =>
        refine .ok ?_ h1
        show Nd.same _ _ = true
        rw [same_mk, sameL_nil]; simp [up]
      | some n =>
        by_cases h4 : d = 4
        · show UpR SameN (if d = 4 then _ else _) (if d = 4 then _ else _)
          rw [if_pos h4, if_pos h4]; exact .bad _ _ (e3 n rfl)
        · show UpR SameN (if d = 4 then _ else _) (if d = 4 then _ else _)
          rw [if_neg h4, if_neg h4]
          have hb := hB (d + 1) r1 h1
          generalize B (d + 1) r1 = b1 at hb
          generalize B' (d + 1) (r1.map up) = b2 at hb
          cases hb with
          | bad c n h => exact .bad _ _ h
          | @ok x y r2 h h2 =>
            refine .ok ?_ h2
            show Nd.same _ _ = true
            rw [same_mk, show sameL x y = true from h]; simp [up]
  · rw [if_neg h1, if_neg h1]; exact .bad _ _ hk
theorem blk_up (last : Int) (hl : Ln last) : ∀ (f d : Nat) (acc acc' : List Nd) (r : List Pc), SameLs acc acc' → Lined r → UpR SameLs (blk last f d acc r) (blk (last + 1) f d acc' (r.map up))
  | 0, _, _, _, _, _, _ => .bad 3 last hl
  | f + 1, d, acc, acc', [], _, _ => .bad 3 last hl
  | f + 1, d, acc, acc', p :: r, ha, hr => by
    have hp : Ln p.line := hr p (by simp)
    have hr' : Lined r := fun q hq => hr q (by simp [hq])
    rw [List.map_cons]
    by_cases h4 : p.kind = 4
    · rw [blk_close _ _ _ _ h4, blk_close (p := up p) _ _ _ _ h4]; exact .ok ha hr'
    · have hs := stm_up last hl (B := fun d r => blk last f d [] r) (B' := fun d r => blk (last + 1) f d [] r) (fun d r hr => blk_up last hl f d [] [] r sameL_nil hr) d p hp r hr'
      generalize e1 : stm last (fun d r => blk last f d [] r) d p r = s1 at hs
      generalize e2 : stm (last + 1) (fun d r => blk (last + 1) f d [] r) d (up p) (r.map up) = s2 at hs
      cases hs with
      | bad c n h => rw [blk_bad _ _ _ _ h4 e1, blk_bad (p := up p) _ _ _ _ h4 e2]; exact .bad _ _ h
      | ok h h1 => rw [blk_ok _ _ _ _ h4 e1, blk_ok (p := up p) _ _ _ _ h4 e2]; exact blk_up last hl f d _ _ _ (sameL_snoc ha h) h1
theorem alls_up (last : Int) (hl : Ln last) : ∀ (f : Nat) (acc acc' : List Nd) (r : List Pc), SameLs acc acc' → Lined r → UpR SameLs (alls last f acc r) (alls (last + 1) f acc' (r.map up))
  | 0, _, _, _, _, _ => .bad 3 last hl
  | f + 1, acc, acc', [], ha, hr => .ok ha hr
  | f + 1, acc, acc', p :: r, ha, hr => by
    have hp : Ln p.line := hr p (by simp)
    have hr' : Lined r := fun q hq => hr q (by simp [hq])
    rw [List.map_cons]
    have hs := stm_up last hl (B := fun d r => blk last f d [] r) (B' := fun d r => blk (last + 1) f d [] r) (fun d r hr => blk_up last hl f d [] [] r sameL_nil hr) 0 p hp r hr'
    generalize e1 : stm last (fun d r => blk last f d [] r) 0 p r = s1 at hs
    generalize e2 : stm (last + 1) (fun d r => blk (last + 1) f d [] r) 0 (up p) (r.map up) = s2 at hs
    cases hs with
    | bad c n h => rw [alls_bad _ _ _ e1, alls_bad (p := up p) _ _ _ e2]; exact .bad _ _ h
    | ok h h1 => rw [alls_ok _ _ _ e1, alls_ok (p := up p) _ _ _ e2]; exact alls_up last hl f _ _ _ (sameL_snoc ha h) h1
theorem lastOf_up {P : List Pc} (h : P ≠ []) : lastOf (P.map up) = lastOf P + 1 := by
  unfold lastOf
  rw [List.getLast?_map]
  cases e : P.getLast? with
  | none => exact absurd (List.getLast?_eq_none_iff.1 e) h
  | some p => rfl
theorem lastOf_one {P : List Pc} (h : P ≠ []) (hP : Lined P) : Ln (lastOf P) := by
  unfold lastOf
  cases e : P.getLast? with
  | none => exact absurd (List.getLast?_eq_none_iff.1 e) h
  | some p => exact hP p (List.mem_of_getLast? e)
theorem treeOf_up {P : List Pc} (hP : Lined P) : UpR SameLs (treeOf P) (treeOf (P.map up)) := by
  by_cases h : P = []
  · subst h; exact .ok sameL_nil hP
  · have := alls_up (lastOf P) (lastOf_one h hP) (P.length + 1) [] [] P sameL_nil hP
    unfold treeOf
    rw [lastOf_up h, List.length_map]
    exact this

/-! ### pieces of a text with a line of notes ahead -/
def upRes : Res → Res
  | .ok l => .ok (l.map up)
  | .err c n => .err c (n + 1)
def LinedRes : Res → Prop
  | .ok l => Lined l
  | .err _ n => Ln n
theorem read_more : ∀ (f f' : Nat) (acc : List Pc) (l : List UInt8) (line : Int), l.length < f → l.length < f' → read f acc l line = read f' acc l line
  | 0, _, _, _, _, h, _ => by omega
  | _ + 1, 0, _, _, _, _, h => by omega
  | f + 1, f' + 1, acc, l, line, h, h' => by
    by_cases hl : l = []
    · subst hl; rw [read_nil, read_nil]
    · by_cases h8 : acc.length = 8192
      · rw [read_many _ hl h8, read_many _ hl h8]
      · cases e : first l with
        | none => rw [read_bad _ hl h8 e, read_bad _ hl h8 e]
        | some x =>
          obtain ⟨k, t, n⟩ := x
          have := first_le e
          rw [read_some _ hl h8 e, read_some _ hl h8 e]
          refine read_more f f' _ _ _ ?_ ?_ <;> (rw [List.length_drop, List.length_drop]; omega)
theorem skn_skip (l : List UInt8) (b : Bool) : skn b l ≤ skip b l := by
  rw [skn_count]
  exact Nat.le_trans List.count_le_length (by rw [List.length_take]; omega)
theorem read_up : ∀ (f : Nat) (acc : List Pc) (l : List UInt8) (line : Int), 1 ≤ line ∧ line + l.length ≤ 100000 → Lined acc → l.length < f →
    read f (acc.map up) l (line + 1) = upRes (read f acc l line) ∧ LinedRes (read f acc l line)
  | 0, _, _, _, _, _, h => by omega
  | f + 1, acc, l, line, h1, ha, h => by
    have hm : (acc.map up).length = acc.length := List.length_map ..
    have hln : Ln line := ⟨h1.1, by omega⟩
    by_cases hl : l = []
    · subst hl; rw [read_nil, read_nil]; exact ⟨rfl, ha⟩
    · by_cases h8 : acc.length = 8192
      · rw [read_many _ hl h8, read_many _ hl (hm.trans h8)]; exact ⟨rfl, hln⟩
      · cases e : first l with
        | none => rw [read_bad _ hl h8 e, read_bad _ hl (by rw [hm]; exact h8) e]; exact ⟨rfl, hln⟩
        | some x =>
          obtain ⟨k, t, n⟩ := x
          have := first_le e
          rw [read_some _ hl h8 e, read_some _ hl (by rw [hm]; exact h8) e]
          have ih := read_up f (acc ++ [⟨k, t, line⟩]) ((l.drop n).drop (skip false (l.drop n))) (line + skn false (l.drop n)) (by
            have h3 := skn_skip (l.drop n) false
            have h4 := skip_le (l.drop n) false
            rw [List.length_drop] at h4
            rw [List.length_drop, List.length_drop]
            omega) (by
            intro q hq
            rcases List.mem_append.1 hq with hq | hq
            · exact ha q hq
            · rw [List.mem_singleton.1 hq]; exact hln) (by rw [List.length_drop, List.length_drop]; omega)
          rw [List.map_append, show line + (skn false (l.drop n) : Int) + 1 = line + 1 + skn false (l.drop n) by omega] at ih
          exact ih
def note : List UInt8 := [35, 32, 110, 111, 116, 101, 10]
theorem skip_ahead (s : List UInt8) : skip false (note ++ s) = skip false s + 7 ∧ skn false (note ++ s) = skn false s + 1 := by
  have e : note ++ s = 35 :: ([32, 110, 111, 116, 101] ++ 10 :: s) := rfl
  constructor
  · rw [e, skip_note rfl, skip_high _ _ (by decide), skip_line rfl]; simp; omega
  · rw [e, skn_note rfl]
    show skn true (32 :: 110 :: 111 :: 116 :: 101 :: 10 :: s) = _
    rw [skn_go (by decide) rfl, skn_go (by decide) rfl, skn_go (by decide) rfl, skn_go (by decide) rfl, skn_go (by decide) rfl, skn_line rfl]
theorem total_up (s : List UInt8) (h : s.length ≤ 65000) : total (note ++ s) = upRes (total s) ∧ LinedRes (total s) := by
  have hn : (note ++ s).length = s.length + 7 := by simp [note]
  have hd : (note ++ s).drop (skip false s + 7) = s.drop (skip false s) := by
    rw [Nat.add_comm, ← List.drop_drop]; rfl
  rw [total_fit (by omega), total_fit (by omega), hn, (skip_ahead s).1, (skip_ahead s).2, hd]
  have := read_up (s.length + 1) [] (s.drop (skip false s)) (1 + skn false s) (by
    have h3 := skn_skip s false
    have h4 := skip_le s false
    rw [List.length_drop]
    omega) (fun _ h => by cases h) (by rw [List.length_drop]; omega)
  rw [List.map_nil, show (1 : Int) + (skn false s : Int) + 1 = 1 + ((skn false s + 1 : Nat) : Int) by omega] at this
  rw [read_more _ (s.length + 1) _ _ _ (by rw [List.length_drop]; omega) (by rw [List.length_drop]; omega)]
  exact this
/-- the same is read, or the same is wrong, one line further on -/
inductive UpT : Tr → Tr → Prop
  | ok {a b : List Nd} (h : sameL a b = true) : UpT (.ok a) (.ok b)
  | err (c n : Int) (h : Ln n) : UpT (.err c n) (.err c (n + 1))
theorem readT_up (s : List UInt8) (h : s.length ≤ 65000) : UpT (readT s) (readT (note ++ s)) := by
  obtain ⟨h1, h2⟩ := total_up s h
  unfold readT
  rw [h1]
  generalize total s = r at h2
  cases r with
  | err c n => exact .err c n h2
  | ok P =>
    have ht := treeOf_up (P := P) h2
    show UpT (match treeOf P with | .bad c n => .err c n | .ok l _ => .ok l) (match treeOf (P.map up) with | .bad c n => .err c n | .ok l _ => .ok l)
    generalize treeOf P = a at ht
    generalize treeOf (P.map up) = b at ht
    cases ht with
    | bad c n h => exact .err c n h
    | ok h _ => exact .ok h
end Go.Proofs.YtajfdachpdkbcaaGreatDoor.Tree
end

section
namespace Go.Proofs.YtajfdachpdkbcaaGreatDoor.Tree
open Go.RowKit Go.Proofs.YtajfdachpdkbcaaGreatDoor.Lex

def argK (a : List UInt8) : Int := if isW a = true then 1 else 2
def argT (a : List UInt8) : List UInt8 := ptT (argK a) a
def argC (a : List UInt8) : Int := ptC (argK a) a
def okArgs (al : List (List UInt8)) : Bool := al.all fun a => argC a == 0
/-- a statement's key and arguments -/
def headT (k : List UInt8) (al : List (List UInt8)) : Option (List UInt8) :=
  if isW k = true ∧ al.length ≤ 16 ∧ okArgs al = true then some (Lib.join (k :: al.map argT) [32]) else none
def ind (d : Nat) : List UInt8 := Lib.repeatL [32, 32] d
mutual
def txtN (d : Nat) : Nd → Option (List UInt8)
  | .mk k a b l _ =>
    match headT k a with
    | none => none
    | some h => if b = true then (if d = 4 then none else (txtL (d + 1) l).map fun t => ind d ++ h ++ [32, 123, 10] ++ t ++ (ind d ++ [125, 10]))
      else if l.isEmpty = true then some (ind d ++ h ++ [59, 10]) else none
def txtL (d : Nat) : List Nd → Option (List UInt8)
  | [] => some []
  | x :: xs => (txtN d x).bind fun t => (txtL d xs).map fun r => t ++ r
end
theorem txtL_nil (d : Nat) : txtL d [] = some [] := by rw [txtL]
theorem txtL_cons (d : Nat) (x : Nd) (xs : List Nd) : txtL d (x :: xs) = (txtN d x).bind fun t => (txtL d xs).map fun r => t ++ r := by rw [txtL]
theorem txtN_open (d : Nat) (x : Nd) : txtN d x = (match headT x.key x.args with
    | none => none
    | some h => if x.block = true then (if d = 4 then none else (txtL (d + 1) x.list).map fun t => ind d ++ h ++ [32, 123, 10] ++ t ++ (ind d ++ [125, 10]))
      else if x.list.isEmpty = true then some (ind d ++ h ++ [59, 10]) else none) := by cases x; rw [txtN]; rfl

/-! ### how long it can be -/
def awt (al : List (List UInt8)) : Nat := (al.map fun a => 2 * a.length + 3).sum
mutual
def Nd.wt : Nd → Nat
  | .mk k a _ l _ => k.length + awt a + 64 + wtL l
def wtL : List Nd → Nat
  | [] => 0
  | x :: xs => x.wt + wtL xs
end
theorem wtL_nil : wtL [] = 0 := by rw [wtL]
theorem wtL_cons (x : Nd) (xs : List Nd) : wtL (x :: xs) = x.wt + wtL xs := by rw [wtL]
theorem wt_open (x : Nd) : x.wt = x.key.length + awt x.args + 64 + wtL x.list := by cases x; rw [Nd.wt]; rfl
theorem argT_len (a : List UInt8) : (argT a).length ≤ 2 * a.length + 2 := by
  unfold argT argK
  split
  · obtain ⟨h1, h2⟩ := ptC_word a
    cases h : isW a
    · rw [(h2 h).2]; simp
    · rw [(h1 h).2]; omega
  · obtain ⟨h1, h2⟩ := ptC_quote a
    cases h : allq a
    · rw [(h2 h).2]; simp
    · rw [(h1 h).2]
      have := esc_len a
      simp only [List.length_append, List.length_cons, List.length_nil]
      omega
theorem awt_cons (a : List UInt8) (al : List (List UInt8)) : awt (a :: al) = 2 * a.length + 3 + awt al := by simp [awt]
theorem tail_len : ∀ al : List (List UInt8), (Lib.joinTail [32] (al.map argT)).length ≤ awt al
  | [] => by simp [Lib.joinTail]
  | a :: al => by
    have h1 := tail_len al
    have h2 := argT_len a
    rw [awt_cons]
    simp only [Lib.joinTail, List.map_cons, List.flatten_cons, List.length_append, List.length_cons, List.length_nil] at h1 ⊢
    omega
theorem join_len (k : List UInt8) (al : List (List UInt8)) : (Lib.join (k :: al.map argT) [32]).length ≤ k.length + awt al := by
  rw [Lib.join_cons, List.length_append]
  have := tail_len al
  omega
theorem headT_len {k : List UInt8} {al : List (List UInt8)} {h : List UInt8} (e : headT k al = some h) : h.length ≤ k.length + awt al := by
  unfold headT at e
  split at e
  · cases e; exact join_len k al
  · cases e
theorem ind_len (d : Nat) : (ind d).length = 2 * d := by unfold ind; rw [Lib.repeatL_length]; simp; omega
theorem txt_len : ∀ (s : Nat) (l : List Nd) (d : Nat) (t : List UInt8), SizeOf.sizeOf l = s → d ≤ 4 → txtL d l = some t → t.length ≤ wtL l := by
  intro s
  induction s using Nat.strongRecOn with
  | ind s ih =>
  intro l d t hs hd e
  cases l with
  | nil => rw [txtL_nil] at e; cases e; simp
  | cons x xs =>
    rw [txtL_cons] at e
    rw [wtL_cons, wt_open]
    obtain ⟨u, hu, e⟩ := Option.bind_eq_some_iff.1 e
    obtain ⟨r, hr, rfl⟩ := Option.map_eq_some_iff.1 e
    have h1 := ih _ (by subst hs; simp; omega) xs d r rfl hd hr
    rw [List.length_append]
    suffices u.length ≤ x.key.length + awt x.args + 64 + wtL x.list by omega
    rw [txtN_open] at hu
    cases hh : headT x.key x.args with
    | none => rw [hh] at hu; cases hu
    | some h =>
      rw [hh] at hu
      have hl := headT_len hh
      have hi := ind_len d
      have hu : (if x.block = true then (if d = 4 then none else (txtL (d + 1) x.list).map fun t => ind d ++ h ++ [32, 123, 10] ++ t ++ (ind d ++ [125, 10])) else if x.list.isEmpty = true then some (ind d ++ h ++ [59, 10]) else none) = some u := hu
      split at hu
      · split at hu
        · cases hu
        · obtain ⟨t', ht', rfl⟩ := Option.map_eq_some_iff.1 hu
          have := ih _ (by
            subst hs
            have : SizeOf.sizeOf x.list < SizeOf.sizeOf x := by
              cases x
              simp only [Nd.list, Nd.mk.sizeOf_spec]
              omega
            simp; omega) x.list (d + 1) t' rfl (by omega) ht'
          simp only [List.length_append, List.length_cons, List.length_nil]
          omega
      · split at hu
        · cases hu
          simp only [List.length_append, List.length_cons, List.length_nil]
          omega
        · cases hu
end Go.Proofs.YtajfdachpdkbcaaGreatDoor.Tree
end

section
namespace Go.Proofs.YtajfdachpdkbcaaGreatDoor.Lex
open Go.RowKit

/-- a piece, and what stands behind it -/
structure Pt where
  k : Int
  t : List UInt8
  g : Int
def gapT (g : Int) : List UInt8 := if g % 4 = 0 then [32] else if g % 4 = 1 then [10] else if g % 4 = 2 then [35, 32, 97, 32, 123, 32, 98, 32, 34, 32, 99, 10] else [9, 13, 10, 32, 10]
def gapN (g : Int) : Int := if g % 4 = 0 then 0 else if g % 4 = 1 then 1 else if g % 4 = 2 then 1 else 2
theorem gap_cases (g : Int) : (g % 4 = 0 ∧ gapT g = [32] ∧ gapN g = 0) ∨ (g % 4 = 1 ∧ gapT g = [10] ∧ gapN g = 1) ∨ (g % 4 = 2 ∧ gapT g = [35, 32, 97, 32, 123, 32, 98, 32, 34, 32, 99, 10] ∧ gapN g = 1) ∨ (g % 4 = 3 ∧ gapT g = [9, 13, 10, 32, 10] ∧ gapN g = 2) := by
  have h : g % 4 = 0 ∨ g % 4 = 1 ∨ g % 4 = 2 ∨ g % 4 = 3 := by omega
  rcases h with h | h | h | h <;> simp [gapT, gapN, h]
theorem gapN_range (g : Int) : 0 ≤ gapN g ∧ gapN g ≤ 2 := by
  rcases gap_cases g with ⟨_, _, h⟩ | ⟨_, _, h⟩ | ⟨_, _, h⟩ | ⟨_, _, h⟩ <;> rw [h] <;> decide
theorem gapT_len (g : Int) : (gapT g).length ≤ 12 ∧ 1 ≤ (gapT g).length := by
  rcases gap_cases g with ⟨_, h, _⟩ | ⟨_, h, _⟩ | ⟨_, h, _⟩ | ⟨_, h, _⟩ <;> rw [h] <;> decide
theorem gap_skip (g : Int) (m : List UInt8) : skip false (gapT g ++ m) = (gapT g).length + skip false m ∧ (skn false (gapT g ++ m) : Int) = gapN g + skn false m := by
  rcases gap_cases g with ⟨_, h, k⟩ | ⟨_, h, k⟩ | ⟨_, h, k⟩ | ⟨_, h, k⟩
  all_goals rw [h, k]
  all_goals simp [skip, skn, bb]
  all_goals omega
theorem gap_word (g : Int) (m : List UInt8) : wlen (gapT g ++ m) = 0 := by
  rcases gap_cases g with ⟨_, h, k⟩ | ⟨_, h, k⟩ | ⟨_, h, k⟩ | ⟨_, h, k⟩
  all_goals rw [h]; rfl

/-- which pieces can be put -/
theorem put_kinds {k : Int} {t : List UInt8} (h : ptC k t = 0) : (k = 1 ∧ isW t = true ∧ ptT k t = t) ∨ (k = 2 ∧ allq t = true ∧ ptT k t = 34 :: esc t ++ [34]) ∨ (k = 3 ∧ t = [] ∧ ptT k t = [123]) ∨ (k = 4 ∧ t = [] ∧ ptT k t = [125]) ∨ (k = 5 ∧ t = [] ∧ ptT k t = [59]) := by
  by_cases hout : k < 1 ∨ 5 < k
  · rw [(ptC_out hout t).1] at h; cases h
  · rcases (show k = 1 ∨ k = 2 ∨ k = 3 ∨ k = 4 ∨ k = 5 by omega) with rfl | rfl | rfl | rfl | rfl
    · cases hw : isW t
      · rw [((ptC_word t).2 hw).1] at h; cases h
      · exact .inl ⟨rfl, rfl, ((ptC_word t).1 hw).2⟩
    · cases hw : allq t
      · rw [((ptC_quote t).2 hw).1] at h; cases h
      · exact .inr (.inl ⟨rfl, rfl, ((ptC_quote t).1 hw).2⟩)
    all_goals
      have ht : t = [] := by
        by_cases e : t = []
        · exact e
        · rw [(ptC_mark (by omega) (by omega) e).1] at h; cases h
      subst ht
    · exact .inr (.inr (.inl ⟨rfl, rfl, ptC_3.2⟩))
    · exact .inr (.inr (.inr (.inl ⟨rfl, rfl, ptC_4.2⟩)))
    · exact .inr (.inr (.inr (.inr ⟨rfl, rfl, ptC_5.2⟩)))
/-- a piece that was put, with a gap behind it: it is the first, and nothing is skipped ahead of it -/
theorem first_put {k : Int} {t : List UInt8} (h : ptC k t = 0) (g : Int) (m : List UInt8) : first (ptT k t ++ (gapT g ++ m)) = some (k, t, (ptT k t).length) ∧ skip false (ptT k t ++ (gapT g ++ m)) = 0 ∧ skn false (ptT k t ++ (gapT g ++ m)) = 0 ∧ 1 ≤ (ptT k t).length := by
  rcases put_kinds h with ⟨rfl, hw, e⟩ | ⟨rfl, hw, e⟩ | ⟨rfl, rfl, e⟩ | ⟨rfl, rfl, e⟩ | ⟨rfl, rfl, e⟩
  · rw [e]
    obtain ⟨hne, hall⟩ := isW_all hw
    have hl := wlen_all hall (gapT g ++ m)
    rw [gap_word, Nat.add_zero] at hl
    cases t with
    | nil => exact absurd rfl hne
    | cons c r =>
      have hc := hall c (by simp)
      have hc2 := (wb_iff _).1 hc
      have e2 : (c :: r) ++ (gapT g ++ m) = c :: (r ++ (gapT g ++ m)) := rfl
      refine ⟨?_, ?_, ?_, by simp⟩
      · have := first_word hc (r ++ (gapT g ++ m))
        rw [← e2, hl] at this
        rw [this, List.take_left']
        rfl
      · rw [e2]; exact skip_end (by omega) (by simp [bb]; omega) (by omega) _
      · rw [e2]; exact skn_end (by omega) (by simp [bb]; omega) (by omega) _
  · rw [e]
    have e2 : (34 :: esc t ++ [34]) ++ (gapT g ++ m) = 34 :: (esc t ++ 34 :: (gapT g ++ m)) := by simp
    rw [e2]
    refine ⟨?_, rfl, rfl, by simp⟩
    rw [first_quote rfl, unq_esc_all t _ hw]
    simp
  all_goals
    rw [e]
    exact ⟨rfl, rfl, rfl, by simp⟩

def txt (A : List Pt) : List UInt8 := A.flatMap fun x => ptT x.k x.t ++ gapT x.g
def lns : List Pt → Int
  | [] => 0
  | x :: r => gapN x.g + lns r
def wnt : Int → List Pt → List Pc
  | _, [] => []
  | n, x :: r => ⟨x.k, x.t, n⟩ :: wnt (n + gapN x.g) r
theorem txt_app (A : List Pt) (x : Pt) : txt (A ++ [x]) = txt A ++ ptT x.k x.t ++ gapT x.g := by simp [txt]
theorem txt_cons (x : Pt) (A : List Pt) : txt (x :: A) = ptT x.k x.t ++ (gapT x.g ++ txt A) := by simp [txt]
theorem lns_app (A : List Pt) (x : Pt) : lns (A ++ [x]) = lns A + gapN x.g := by
  induction A with
  | nil => simp [lns]
  | cons y r ih => rw [List.cons_append, lns, lns, ih]; omega
theorem wnt_len (A : List Pt) : ∀ n, (wnt n A).length = A.length := by
  induction A with
  | nil => intro n; rfl
  | cons y r ih => intro n; rw [wnt, List.length_cons, List.length_cons, ih]
theorem wnt_app (A : List Pt) (x : Pt) : ∀ n, wnt n (A ++ [x]) = wnt n A ++ [⟨x.k, x.t, n + lns A⟩] := by
  induction A with
  | nil => intro n; simp [wnt, lns]
  | cons y r ih => intro n; rw [List.cons_append, wnt, wnt, ih, lns, List.cons_append, Int.add_assoc]
theorem lns_range (A : List Pt) : 0 ≤ lns A ∧ lns A ≤ 2 * A.length := by
  induction A with
  | nil => simp [lns]
  | cons y r ih => have := gapN_range y.g; rw [lns, List.length_cons]; omega
theorem txt_len {A : List Pt} (h : ∀ x ∈ A, ptC x.k x.t = 0 ∧ x.t.length ≤ 60) : (txt A).length ≤ 134 * A.length ∧ A.length ≤ (txt A).length := by
  induction A with
  | nil => simp [txt]
  | cons y r ih =>
    have h1 := ih fun x hx => h x (by simp [hx])
    obtain ⟨hc, ht⟩ := h y (by simp)
    have hg := gapT_len y.g
    have hp : (ptT y.k y.t).length ≤ 122 := by
      rcases put_kinds hc with ⟨_, _, e⟩ | ⟨_, _, e⟩ | ⟨_, _, e⟩ | ⟨_, _, e⟩ | ⟨_, _, e⟩
      · rw [e]; omega
      · rw [e]; have := esc_len y.t; simp; omega
      all_goals rw [e]; simp
    rw [txt_cons, List.length_append, List.length_append, List.length_cons]
    omega
theorem txt_start {A : List Pt} (h : ∀ x ∈ A, ptC x.k x.t = 0) : skip false (txt A) = 0 ∧ skn false (txt A) = 0 := by
  cases A with
  | nil => exact ⟨rfl, rfl⟩
  | cons y r =>
    rw [txt_cons]
    obtain ⟨_, h1, h2, _⟩ := first_put (h y (by simp)) y.g (txt r)
    exact ⟨h1, h2⟩
theorem read_txt : ∀ (A : List Pt) (acc : List Pc) (line : Int) (f : Nat), (∀ x ∈ A, ptC x.k x.t = 0) → acc.length + A.length ≤ 8192 → A.length < f → read f acc (txt A) line = .ok (acc ++ wnt line A)
  | [], acc, line, f, _, _, hf => by
    obtain ⟨f', rfl⟩ : ∃ f', f = f' + 1 := ⟨f - 1, by simp at hf; omega⟩
    show read (f' + 1) acc [] line = _
    rw [read_nil, wnt, List.append_nil]
  | y :: r, acc, line, f, h, h8, hf => by
    rw [List.length_cons] at h8 hf
    obtain ⟨f', rfl⟩ : ∃ f', f = f' + 1 := ⟨f - 1, by omega⟩
    obtain ⟨h1, _, _, h2⟩ := first_put (h y (by simp)) y.g (txt r)
    obtain ⟨h3, h4⟩ := gap_skip y.g (txt r)
    obtain ⟨h5, h6⟩ := txt_start fun x hx => h x (List.mem_cons_of_mem _ hx)
    rw [txt_cons]
    have hd : (ptT y.k y.t ++ (gapT y.g ++ txt r)).drop (ptT y.k y.t).length = gapT y.g ++ txt r := List.drop_left' rfl
    have hd2 : (gapT y.g ++ txt r).drop (gapT y.g).length = txt r := List.drop_left' rfl
    rw [read_some f' (by intro e; rw [e] at h1; cases h1) (by omega) h1, hd, h3, h4, h5, h6, Nat.add_zero, hd2]
    have hr := read_txt r (acc ++ [⟨y.k, y.t, line⟩]) (line + (gapN y.g + ((0 : Nat) : Int))) f' (fun x hx => h x (List.mem_cons_of_mem _ hx)) (by rw [List.length_append, List.length_singleton]; omega) (by omega)
    rw [hr, wnt]
    simp
/-- what is put is read -/
theorem total_txt {A : List Pt} (h : ∀ x ∈ A, ptC x.k x.t = 0 ∧ x.t.length ≤ 60) (hA : A.length ≤ 30) : total (txt A) = .ok (wnt 1 A) := by
  have hl := txt_len h
  obtain ⟨h5, h6⟩ := txt_start fun x hx => (h x hx).1
  rw [total_fit (by omega), h5, h6, List.drop_zero]
  have := read_txt A [] 1 ((txt A).length + 1) (fun x hx => (h x hx).1) (by simp; omega) (by omega)
  simpa using this
end Go.Proofs.YtajfdachpdkbcaaGreatDoor.Lex
end

section
namespace Go.Proofs.YtajfdachpdkbcaaGreatDoor.Tree
open Go.RowKit Go.Proofs.YtajfdachpdkbcaaGreatDoor.Lex

/-- a piece, with blanks ahead and behind -/
structure Tk where
  g : List UInt8
  k : Int
  t : List UInt8
  e : List UInt8
def bl (l : List UInt8) : Prop := ∀ c ∈ l, c.toNat = 32 ∨ c.toNat = 10
def body : List Tk → List UInt8
  | [] => []
  | x :: A => x.g ++ (ptT x.k x.t ++ (x.e ++ body A))
theorem body_app : ∀ (A B : List Tk), body (A ++ B) = body A ++ body B
  | [], B => rfl
  | x :: A, B => by simp [body, body_app A B]
/-- may stand so, one behind the other -/
def good : List Tk → Prop
  | [] => True
  | x :: A => ptC x.k x.t = 0 ∧ bl x.g ∧ bl x.e ∧ (x.k = 1 → ∃ c r, x.e ++ body A = c :: r ∧ wb c.toNat = false) ∧ good A
theorem good_app : ∀ {A B : List Tk}, good A → good B → good (A ++ B)
  | [], B, _, h => h
  | x :: A, B, ⟨h1, h2, h3, h4, h5⟩, h => by
    refine ⟨h1, h2, h3, fun hk => ?_, good_app h5 h⟩
    obtain ⟨c, r, e, hc⟩ := h4 hk
    exact ⟨c, r ++ body B, by rw [show (A.append B) = A ++ B from rfl, body_app, ← List.append_assoc, e]; rfl, hc⟩
theorem bl_skip : ∀ (g m : List UInt8), bl g → skip false (g ++ m) = g.length + skip false m
  | [], m, _ => by simp
  | c :: g, m, h => by
    have ih := bl_skip g m fun x hx => h x (by simp [hx])
    rcases h c (by simp) with hc | hc
    · rw [List.cons_append, skip_go (by omega) (by rw [hc]; rfl), ih, List.length_cons]; omega
    · rw [List.cons_append, skip_line hc, ih, List.length_cons]; omega
theorem first_tk {k : Int} {t : List UInt8} (h : ptC k t = 0) (m : List UInt8) (hm : k = 1 → ∃ c r, m = c :: r ∧ wb c.toNat = false) :
    first (ptT k t ++ m) = some (k, t, (ptT k t).length) ∧ skip false (ptT k t ++ m) = 0 ∧ 1 ≤ (ptT k t).length := by
  rcases put_kinds h with ⟨rfl, hw, e⟩ | ⟨rfl, hw, e⟩ | ⟨rfl, rfl, e⟩ | ⟨rfl, rfl, e⟩ | ⟨rfl, rfl, e⟩
  · rw [e]
    obtain ⟨d, r', rfl, hd⟩ := hm rfl
    obtain ⟨hne, hall⟩ := isW_all hw
    have hl := wlen_all hall (d :: r')
    rw [wlen_no hd, Nat.add_zero] at hl
    cases t with
    | nil => exact absurd rfl hne
    | cons c r =>
      have hc := hall c (by simp)
      have hc2 := (wb_iff _).1 hc
      have e2 : (c :: r) ++ (d :: r') = c :: (r ++ (d :: r')) := rfl
      refine ⟨?_, ?_, by simp⟩
      · have := first_word hc (r ++ (d :: r'))
        rw [← e2, hl] at this
        rw [this, List.take_left']
        rfl
      · rw [e2]; exact skip_end (by omega) (by simp [bb]; omega) (by omega) _
  · rw [e]
    have e2 : (34 :: Lex.esc t ++ [34]) ++ m = 34 :: (Lex.esc t ++ 34 :: m) := by simp
    rw [e2]
    refine ⟨?_, rfl, by simp⟩
    rw [first_quote rfl, unq_esc_all t _ hw]
    simp
  all_goals
    rw [e]
    exact ⟨rfl, rfl, by simp⟩
def kt (p : Pc) : Int × List UInt8 := (p.kind, p.text)
def tkt (x : Tk) : Int × List UInt8 := (x.k, x.t)
theorem body_len : ∀ {A : List Tk}, good A → A.length ≤ (body A).length
  | [], _ => by simp [body]
  | x :: A, ⟨h1, _, _, h4, h5⟩ => by
    have := body_len h5
    have := (first_tk h1 _ h4).2.2
    simp only [body, List.length_append, List.length_cons]
    omega
theorem read_body : ∀ (A : List Tk) (acc : List Pc) (line : Int) (f : Nat), good A → acc.length + A.length ≤ 8192 → A.length < f →
    ∃ P, read f acc ((body A).drop (skip false (body A))) line = .ok (acc ++ P) ∧ P.map kt = A.map tkt
  | [], acc, line, f, _, _, hf => by
    obtain ⟨f', rfl⟩ : ∃ f', f = f' + 1 := ⟨f - 1, by simp at hf; omega⟩
    refine ⟨[], ?_, rfl⟩
    show read (f' + 1) acc [] line = _
    rw [read_nil, List.append_nil]
  | x :: A, acc, line, f, ⟨h1, h2, h3, h4, h5⟩, h8, hf => by
    rw [List.length_cons] at h8 hf
    obtain ⟨f', rfl⟩ : ∃ f', f = f' + 1 := ⟨f - 1, by omega⟩
    obtain ⟨e1, e2, e3⟩ := first_tk h1 _ h4
    have hd : (body (x :: A)).drop (skip false (body (x :: A))) = ptT x.k x.t ++ (x.e ++ body A) := by
      show (x.g ++ (ptT x.k x.t ++ (x.e ++ body A))).drop (skip false (x.g ++ (ptT x.k x.t ++ (x.e ++ body A)))) = _
      rw [bl_skip _ _ h2, e2, Nat.add_zero]
      exact List.drop_left' rfl
    have hd2 : (ptT x.k x.t ++ (x.e ++ body A)).drop (ptT x.k x.t).length = x.e ++ body A := List.drop_left' rfl
    rw [hd, read_some f' (by intro e; rw [e] at e1; cases e1) (by omega) e1, hd2, bl_skip _ _ h3, show (x.e ++ body A).drop (x.e.length + skip false (body A)) = (body A).drop (skip false (body A)) by rw [← List.drop_drop, List.drop_left' rfl]]
    obtain ⟨P, hP, hk⟩ := read_body A (acc ++ [⟨x.k, x.t, line⟩]) (line + (skn false (x.e ++ body A) : Int)) f' h5 (by rw [List.length_append, List.length_singleton]; omega) (by omega)
    exact ⟨⟨x.k, x.t, line⟩ :: P, by rw [hP]; simp, by rw [List.map_cons, List.map_cons, hk]; rfl⟩
theorem total_body {A : List Tk} (h : good A) (hl : (body A).length ≤ 65536) (hA : A.length ≤ 8192) : ∃ P, total (body A) = .ok P ∧ P.map kt = A.map tkt := by
  rw [total_fit (by omega)]
  have := body_len h
  obtain ⟨P, h1, h2⟩ := read_body A [] (1 + skn false (body A)) ((body A).length + 1) h (by simpa using hA) (by omega)
  exact ⟨P, by simpa using h1, h2⟩

/-! ### a statement's pieces -/
mutual
def tokN (d : Nat) : Nd → List Tk
  | .mk k a b l _ => ⟨ind d, 1, k, []⟩ :: (a.map fun a => (⟨[32], argK a, a, []⟩ : Tk)) ++ (if b = true then ⟨[32], 3, [], [10]⟩ :: (tokL (d + 1) l ++ [⟨ind d, 4, [], [10]⟩]) else [⟨[], 5, [], [10]⟩])
def tokL (d : Nat) : List Nd → List Tk
  | [] => []
  | x :: xs => tokN d x ++ tokL d xs
end
theorem tokL_nil (d : Nat) : tokL d [] = [] := by rw [tokL]
theorem tokL_cons (d : Nat) (x : Nd) (xs : List Nd) : tokL d (x :: xs) = tokN d x ++ tokL d xs := by rw [tokL]
theorem tokL_app (d : Nat) : ∀ (A B : List Nd), tokL d (A ++ B) = tokL d A ++ tokL d B
  | [], B => by rw [tokL_nil]; rfl
  | x :: A, B => by rw [List.cons_append, tokL_cons, tokL_cons, tokL_app d A B, List.append_assoc]
theorem tokN_open (d : Nat) (x : Nd) : tokN d x = ⟨ind d, 1, x.key, []⟩ :: (x.args.map fun a => (⟨[32], argK a, a, []⟩ : Tk)) ++ (if x.block = true then ⟨[32], 3, [], [10]⟩ :: (tokL (d + 1) x.list ++ [⟨ind d, 4, [], [10]⟩]) else [⟨[], 5, [], [10]⟩]) := by
  cases x; rw [tokN]; rfl
theorem bl_ind (d : Nat) : bl (ind d) := by
  intro c hc
  unfold ind at hc
  induction d with
  | zero => simp [Lib.repeatL] at hc
  | succ d ih =>
    rcases List.mem_append.1 (show c ∈ [32, 32] ++ Lib.repeatL [32, 32] d from hc) with h | h
    · simp at h; subst h; exact .inl rfl
    · exact ih h
theorem bl_10 : bl [10] := by intro c hc; simp at hc; subst hc; exact .inr rfl
theorem bl_32 : bl [32] := by intro c hc; simp at hc; subst hc; exact .inl rfl
theorem bl_nil : bl [] := by intro c hc; cases hc
theorem argK_cases (a : List UInt8) : argK a = 1 ∨ argK a = 2 := by unfold argK; split <;> simp
theorem args_body : ∀ (al : List (List UInt8)) (B : List Tk), body ((al.map fun a => (⟨[32], argK a, a, []⟩ : Tk)) ++ B) = Lib.joinTail [32] (al.map argT) ++ body B
  | [], B => by simp [Lib.joinTail]
  | a :: al, B => by
    rw [List.map_cons, List.cons_append, body, args_body al B, List.map_cons]
    simp [Lib.joinTail, argT]
theorem args_good {B : List Tk} (hB : good B) (hb : ∃ c r, body B = c :: r ∧ wb c.toNat = false) : ∀ {al : List (List UInt8)}, okArgs al = true → good ((al.map fun a => (⟨[32], argK a, a, []⟩ : Tk)) ++ B) ∧ ∃ c r, body ((al.map fun a => (⟨[32], argK a, a, []⟩ : Tk)) ++ B) = c :: r ∧ wb c.toNat = false
  | [], _ => ⟨hB, hb⟩
  | a :: al, h => by
    have h' : argC a = 0 ∧ okArgs al = true := by simpa [okArgs] using h
    obtain ⟨i1, i2⟩ := args_good hB hb h'.2
    exact ⟨⟨h'.1, bl_32, bl_nil, fun _ => i2, i1⟩, 32, _, rfl, rfl⟩
theorem headT_some {k : List UInt8} {al : List (List UInt8)} {h : List UInt8} (e : headT k al = some h) : (isW k = true ∧ al.length ≤ 16 ∧ okArgs al = true) ∧ h = Lib.join (k :: al.map argT) [32] := by
  unfold headT at e
  split at e
  · cases e; exact ⟨by assumption, rfl⟩
  · cases e
theorem good_tok : ∀ (s : Nat) (l : List Nd) (d : Nat) (t : List UInt8), SizeOf.sizeOf l = s → txtL d l = some t → good (tokL d l) ∧ body (tokL d l) = t := by
  intro s
  induction s using Nat.strongRecOn with
  | ind s ih =>
  intro l d t hs e
  cases l with
  | nil => rw [txtL_nil] at e; cases e; rw [tokL_nil]; exact ⟨trivial, rfl⟩
  | cons x xs =>
    rw [txtL_cons] at e
    obtain ⟨u, hu, e⟩ := Option.bind_eq_some_iff.1 e
    obtain ⟨r, hr, rfl⟩ := Option.map_eq_some_iff.1 e
    obtain ⟨g2, b2⟩ := ih _ (by subst hs; simp; omega) xs d r rfl hr
    rw [tokL_cons, body_app, b2]
    suffices good (tokN d x) ∧ body (tokN d x) = u from ⟨good_app this.1 g2, by rw [this.2]⟩
    rw [txtN_open] at hu
    rw [tokN_open]
    cases hh : headT x.key x.args with
    | none => rw [hh] at hu; cases hu
    | some h =>
      rw [hh] at hu
      obtain ⟨⟨hw, _, hok⟩, rfl⟩ := headT_some hh
      have hj : Lib.join (x.key :: x.args.map argT) [32] = x.key ++ Lib.joinTail [32] (x.args.map argT) := Lib.join_cons ..
      have hkw := (ptC_word x.key).1 hw
      have hu : (if x.block = true then (if d = 4 then none else (txtL (d + 1) x.list).map fun t => ind d ++ Lib.join (x.key :: x.args.map argT) [32] ++ [32, 123, 10] ++ t ++ (ind d ++ [125, 10])) else if x.list.isEmpty = true then some (ind d ++ Lib.join (x.key :: x.args.map argT) [32] ++ [59, 10]) else none) = some u := hu
      by_cases hb : x.block = true
      · rw [if_pos hb] at hu ⊢
        split at hu
        · cases hu
        · obtain ⟨t', ht', rfl⟩ := Option.map_eq_some_iff.1 hu
          obtain ⟨g3, b3⟩ := ih _ (by
            subst hs
            have : SizeOf.sizeOf x.list < SizeOf.sizeOf x := by
              cases x
              simp only [Nd.list, Nd.mk.sizeOf_spec]
              omega
            simp; omega) x.list (d + 1) t' rfl ht'
          have gB : good (⟨[32], 3, [], [10]⟩ :: (tokL (d + 1) x.list ++ [⟨ind d, 4, [], [10]⟩])) :=
            ⟨ptC_3.1, bl_32, bl_10, fun h => absurd (show (3 : Int) = 1 from h) (by decide), good_app g3 ⟨ptC_4.1, bl_ind d, bl_10, fun h => absurd (show (4 : Int) = 1 from h) (by decide), trivial⟩⟩
          obtain ⟨g4, c4⟩ := args_good gB ⟨32, _, rfl, rfl⟩ hok
          refine ⟨⟨hkw.1, bl_ind d, bl_nil, fun _ => c4, g4⟩, ?_⟩
          rw [List.cons_append, body, args_body, body, body_app, b3, hkw.2, hj]
          simp [body, ptC_3.2, ptC_4.2]
      · rw [if_neg hb] at hu ⊢
        split at hu
        · cases hu
          have gB : good [⟨[], 5, [], [10]⟩] := ⟨ptC_5.1, bl_nil, bl_10, fun h => absurd (show (5 : Int) = 1 from h) (by decide), trivial⟩
          obtain ⟨g4, c4⟩ := args_good gB ⟨59, [10], by simp [body, ptC_5.2], rfl⟩ hok
          refine ⟨⟨hkw.1, bl_ind d, bl_nil, fun _ => c4, g4⟩, ?_⟩
          rw [List.cons_append, body, args_body, hkw.2, hj]
          simp [body, ptC_5.2]
        · cases hu

/-! ### read back -/
/-- may be printed, standing in d blocks -/
inductive Fine : Nat → List Nd → Prop
  | nil (d : Nat) : Fine d []
  | flat {d : Nat} {k : List UInt8} {a : List (List UInt8)} {n : Int} {xs : List Nd} (ha : a.length ≤ 16) (r : Fine d xs) : Fine d (.mk k a false [] n :: xs)
  | deep {d : Nat} {k : List UInt8} {a : List (List UInt8)} {n : Int} {l xs : List Nd} (ha : a.length ≤ 16) (hd : d ≠ 4) (h : Fine (d + 1) l) (r : Fine d xs) : Fine d (.mk k a true l n :: xs)
theorem fine_txt : ∀ (s : Nat) (l : List Nd) (d : Nat) (t : List UInt8), SizeOf.sizeOf l = s → txtL d l = some t → Fine d l := by
  intro s
  induction s using Nat.strongRecOn with
  | ind s ih =>
  intro l d t hs e
  cases l with
  | nil => exact .nil d
  | cons x xs =>
    rw [txtL_cons] at e
    obtain ⟨u, hu, e⟩ := Option.bind_eq_some_iff.1 e
    obtain ⟨r, hr, rfl⟩ := Option.map_eq_some_iff.1 e
    have f2 := ih _ (by subst hs; simp; omega) xs d r rfl hr
    obtain ⟨k, a, b, l, n⟩ := x
    rw [txtN] at hu
    cases hh : headT k a with
    | none => rw [hh] at hu; cases hu
    | some h =>
      rw [hh] at hu
      obtain ⟨⟨hw, ha, hok⟩, rfl⟩ := headT_some hh
      dsimp only at hu
      cases b with
      | true =>
        rw [if_pos rfl] at hu
        split at hu
        · cases hu
        · obtain ⟨t', ht', rfl⟩ := Option.map_eq_some_iff.1 hu
          exact .deep ha (by assumption) (ih _ (by subst hs; simp; omega) l (d + 1) t' rfl ht') f2
      | false =>
        rw [if_neg (by simp)] at hu
        split at hu
        · rename_i he
          obtain rfl := List.isEmpty_iff.1 he
          exact .flat ha f2
        · cases hu
/-- the arguments of pieces -/
theorem args_read (last : Int) : ∀ (al : List (List UInt8)) (as : List (List UInt8)) (P r : List Pc), as.length + al.length ≤ 16 → P.map kt = al.map (fun a => (argK a, a)) → argsOf last as (P ++ r) = argsOf last (as ++ al) r
  | [], as, P, r, _, h => by
    obtain rfl : P = [] := by simpa using h
    simp
  | a :: al, as, P, r, hl, h => by
    cases P with
    | nil => simp at h
    | cons p P =>
      simp only [List.map_cons, List.cons.injEq] at h
      rw [List.length_cons] at hl
      have hk : p.kind = argK a := congrArg Prod.fst h.1
      have ht : p.text = a := congrArg Prod.snd h.1
      have h12 : p.kind = 1 ∨ p.kind = 2 := by rw [hk]; exact argK_cases a
      rw [List.cons_append, argsOf, if_pos h12, if_neg (by omega), ht, args_read last al (as ++ [a]) P r (by simp; omega) h.2]
      simp
theorem map_split {α β γ : Type} {f : α → γ} {g : β → γ} : ∀ {P : List α} {A B : List β}, P.map f = (A ++ B).map g → ∃ P1 P2, P = P1 ++ P2 ∧ P1.map f = A.map g ∧ P2.map f = B.map g
  | P, [], B, h => ⟨[], P, rfl, rfl, h⟩
  | [], a :: A, B, h => by simp at h
  | p :: P, a :: A, B, h => by
    simp only [List.cons_append, List.map_cons, List.cons.injEq] at h
    obtain ⟨P1, P2, rfl, h1, h2⟩ := map_split (A := A) (B := B) h.2
    exact ⟨p :: P1, P2, rfl, by simp [h.1, h1], h2⟩
/-- what is read of the pieces of statements: with fuel enough, whatever follows -/
theorem stm_read (last : Int) : ∀ (s : Nat) (x : Nd) (xs : List Nd) (d : Nat) (P : List Pc), SizeOf.sizeOf (x :: xs) = s → Fine d (x :: xs) → P.map kt = (tokN d x).map tkt →
    ∃ p P' x', P = p :: P' ∧ p.kind = 1 ∧ x'.same x = true ∧ ∀ f r, P.length ≤ f → stm last (fun d r => blk last f d [] r) d p (P' ++ r) = .ok x' r := by
  intro s
  induction s using Nat.strongRecOn with
  | ind s ih =>
  intro x xs d P hs hf hP
  rw [tokN_open, List.cons_append] at hP
  cases P with
  | nil => simp at hP
  | cons p P =>
    rw [List.map_cons, List.map_cons, List.cons.injEq] at hP
    obtain ⟨hp, hP⟩ := hP
    have hk : p.kind = 1 := congrArg Prod.fst hp
    have ht : p.text = x.key := congrArg Prod.snd hp
    obtain ⟨P1, P2, rfl, h1, h2⟩ := map_split hP
    rw [List.map_map] at h1
    have har : x.args.length ≤ 16 := by cases hf <;> assumption
    cases hf with
    | @flat _ k a n _ ha hr =>
      refine ⟨p, P1 ++ P2, .mk p.text a false [] p.line, rfl, hk, ?_, ?_⟩
      · rw [same_mk, sameL_nil, ht]; simp [Nd.key]
      · intro f r hf
        simp only [Nd.block] at h2
        cases P2 with
        | nil => simp at h2
        | cons q P2 =>
          simp only [Bool.false_eq_true, if_false, List.map_cons, List.map_nil, List.cons.injEq, List.map_eq_nil_iff] at h2
          obtain ⟨hq, rfl⟩ := h2
          have hq5 : q.kind = 5 := congrArg Prod.fst hq
          unfold stm
          rw [if_pos hk, List.append_assoc, args_read last a [] P1 _ (by simpa using ha) h1, List.nil_append, List.cons_append, argsOf, if_neg (by omega), if_neg (by omega), if_pos hq5, List.nil_append]
    | @deep _ k a n l _ ha hd hl hr =>
      simp only [Nd.block, Nd.list] at h2
      rw [if_pos trivial] at h2
      cases P2 with
      | nil => simp at h2
      | cons q P2 =>
        rw [List.map_cons, List.map_cons, List.cons.injEq] at h2
        obtain ⟨hq, h2⟩ := h2
        have hq3 : q.kind = 3 := congrArg Prod.fst hq
        obtain ⟨P3, P4, rfl, h3, h4⟩ := map_split h2
        cases P4 with
        | nil => simp at h4
        | cons z P4 =>
          simp only [List.map_cons, List.map_nil, List.cons.injEq, List.map_eq_nil_iff] at h4
          obtain ⟨hz, rfl⟩ := h4
          have hz4 : z.kind = 4 := congrArg Prod.fst hz
          have hB : ∀ (l : List Nd), SizeOf.sizeOf l < s → Fine (d + 1) l → ∀ P3 : List Pc, P3.map kt = (tokL (d + 1) l).map tkt → ∃ l', sameL l' l = true ∧ ∀ f acc r, P3.length < f → blk last f (d + 1) acc (P3 ++ z :: r) = .ok (acc ++ l') r := by
            intro l
            induction l with
            | nil =>
              intro _ _ P3 h3
              rw [tokL_nil] at h3
              obtain rfl : P3 = [] := by simpa using h3
              refine ⟨[], sameL_nil, fun f acc r hf => ?_⟩
              obtain ⟨f', rfl⟩ : ∃ f', f = f' + 1 := ⟨f - 1, by omega⟩
              rw [List.nil_append, blk_close _ _ _ _ hz4, List.append_nil]
            | cons y ys ih2 =>
              intro hsz hfy P3 h3
              rw [tokL_cons] at h3
              obtain ⟨Q1, Q2, rfl, k1, k2⟩ := map_split h3
              obtain ⟨p', P', y', rfl, hp1, hsame, hst⟩ := ih _ hsz y ys (d + 1) Q1 rfl hfy k1
              have hfys : Fine (d + 1) ys := by cases hfy <;> assumption
              obtain ⟨l', hl', hbl⟩ := ih2 (by simp at hsz ⊢; omega) hfys Q2 k2
              refine ⟨y' :: l', by rw [sameL_cons, hsame, hl']; rfl, fun f acc r hf => ?_⟩
              simp only [List.length_append, List.length_cons] at hf
              obtain ⟨f', rfl⟩ : ∃ f', f = f' + 1 := ⟨f - 1, by omega⟩
              rw [List.cons_append, List.cons_append, List.append_assoc, blk_ok last f' (d + 1) acc (by omega) (hst f' _ (by simp; omega)), hbl f' _ _ (by omega)]
              simp
          obtain ⟨l', hl', hbl⟩ := hB l (by subst hs; simp; omega) hl P3 h3
          refine ⟨p, _, .mk p.text a true l' p.line, rfl, hk, ?_, ?_⟩
          · rw [same_mk, hl', ht]; simp [Nd.key]
          · intro f r hf
            simp only [List.length_append, List.length_cons] at hf
            unfold stm
            rw [if_pos hk, List.append_assoc, args_read last a [] P1 _ (by simpa using ha) h1, List.nil_append, List.cons_append, argsOf, if_neg (by omega), if_pos hq3, List.append_assoc]
            dsimp only
            rw [if_neg hd, List.cons_append, List.nil_append, hbl f [] r (by omega), List.nil_append]
theorem alls_read (last : Int) : ∀ (l : List Nd) (P : List Pc), Fine 0 l → P.map kt = (tokL 0 l).map tkt → ∃ l', sameL l' l = true ∧ ∀ f acc, P.length < f → alls last f acc P = .ok (acc ++ l') []
  | [], P, _, h => by
    rw [tokL_nil] at h
    obtain rfl : P = [] := by simpa using h
    refine ⟨[], sameL_nil, fun f acc hf => ?_⟩
    obtain ⟨f', rfl⟩ : ∃ f', f = f' + 1 := ⟨f - 1, by omega⟩
    rw [alls_nil, List.append_nil]
  | y :: ys, P, hf, h => by
    rw [tokL_cons] at h
    obtain ⟨Q1, Q2, rfl, k1, k2⟩ := map_split h
    obtain ⟨p', P', y', rfl, hp1, hsame, hst⟩ := stm_read last _ y ys 0 Q1 rfl hf k1
    obtain ⟨l', hl', hbl⟩ := alls_read last ys Q2 (by cases hf <;> assumption) k2
    refine ⟨y' :: l', by rw [sameL_cons, hsame, hl']; rfl, fun f acc hf => ?_⟩
    simp only [List.length_append, List.length_cons] at hf
    obtain ⟨f', rfl⟩ : ∃ f', f = f' + 1 := ⟨f - 1, by omega⟩
    rw [List.cons_append, alls_ok last f' acc (hst f' _ (by simp; omega)), hbl f' _ (by omega)]
    simp
theorem treeOf_read {l : List Nd} {P : List Pc} (hf : Fine 0 l) (h : P.map kt = (tokL 0 l).map tkt) : ∃ l', sameL l' l = true ∧ treeOf P = .ok l' [] := by
  obtain ⟨l', h1, h2⟩ := alls_read (lastOf P) l P hf h
  exact ⟨l', h1, by unfold treeOf; rw [h2 _ _ (by omega), List.nil_append]⟩
/-- what is read of a text whose pieces are those of statements -/
theorem readT_body {A : List Tk} {l : List Nd} (hg : good A) (hf : Fine 0 l) (hA : A.map tkt = (tokL 0 l).map tkt) (hl : (body A).length ≤ 65536) (hn : A.length ≤ 8192) : ∃ l', sameL l' l = true ∧ readT (body A) = .ok l' := by
  obtain ⟨P, h1, h2⟩ := total_body hg hl hn
  obtain ⟨l', h3, h4⟩ := treeOf_read hf (h2.trans hA)
  exact ⟨l', h3, by unfold readT; rw [h1]; dsimp only; rw [h4]⟩
/-- what is printed is read as the same -/
theorem readT_txt {l : List Nd} {t : List UInt8} (h : txtL 0 l = some t) (hl : t.length ≤ 65536) (hn : (tokL 0 l).length ≤ 8192) : ∃ l', sameL l' l = true ∧ readT t = .ok l' := by
  obtain ⟨g, rfl⟩ := good_tok _ l 0 t rfl h
  exact readT_body g (fine_txt _ l 0 _ rfl h) rfl hl hn
end Go.Proofs.YtajfdachpdkbcaaGreatDoor.Tree
end


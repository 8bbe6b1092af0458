/-
  Layer 9 (fault): plain Lean: words, places, what errors say; errors in memory.
-/
import Derived.Test.YtpjjfcgebgejaaaDoorDigitPlain
import Derived.Test.YtpjjfcgebgejaaaDoorOwn
import Derived.Lib.Join
namespace Go.Proofs.YtpjjfcgebgejaaaDoor.Flt
open Go.RowKit Go.Proofs.YtpjjfcgebgejaaaDoor.Own Go.Proofs.YtpjjfcgebgejaaaDoor.Digit

def wordsL : List (List UInt8) := [[], [97, 114, 103, 117, 109, 101, 110, 116], [114, 97, 110, 103, 101], [102, 111, 114, 109], [115, 117, 109], [115, 105, 122, 101], [102, 117, 108, 108], [110, 111, 110, 101], [116, 119, 105, 99, 101], [115, 116, 97, 116, 101], [100, 101, 110, 105, 101, 100], [98, 117, 115, 121], [100, 101, 118, 105, 99, 101], [99, 117, 116], [110, 105, 108], [108, 105, 109, 105, 116]]
/-- a code's word -/
def wordL (c : Int) : List UInt8 := if c < 0 ∨ 16 ≤ c then [99, 111, 100, 101, 32] ++ dec c else wordsL.getD c.toNat []
theorem wordL_out {c : Int} (h : c < 0 ∨ 16 ≤ c) : wordL c = [99, 111, 100, 101, 32] ++ dec c := if_pos h
theorem wordL_in {c : Int} (h0 : 0 ≤ c) (h : c < 16) : wordL c = wordsL.getD c.toNat [] := if_neg (by omega)
theorem wordL_zero : wordL 0 = [] := rfl
/-- a line's words -/
def placeL (n : Int) : List UInt8 := if n ≤ 0 then [] else [108, 105, 110, 101, 32] ++ dec n
theorem placeL_none {n : Int} (h : n ≤ 0) : placeL n = [] := if_pos h
theorem placeL_some {n : Int} (h : 0 < n) : placeL n = [108, 105, 110, 101, 32] ++ dec n := if_neg (by omega)

/-- a fault: where it lies, its line, its text -/
structure Lay where
  blk : Nat
  line : Int
  what : List UInt8
def sep : List UInt8 := [58, 32]
def full (l : List (List UInt8)) : List (List UInt8) := l.filter fun s => !s.isEmpty
theorem full_nil : full [] = [] := rfl
theorem full_cons_nil (l : List (List UInt8)) : full ([] :: l) = full l := rfl
theorem full_cons {s : List UInt8} (h : s ≠ []) (l : List (List UInt8)) : full (s :: l) = s :: full l := by
  cases s with
  | nil => exact absurd rfl h
  | cons a r => rfl
theorem full_app (l m : List (List UInt8)) : full (l ++ m) = full l ++ full m := List.filter_append ..
theorem full_len (l : List (List UInt8)) : (full l).length ≤ l.length := List.length_filter_le ..
def pieces (l : List Lay) : List (List UInt8) := l.flatMap fun x => [placeL x.line, x.what]
theorem pieces_cons (x : Lay) (l : List Lay) : pieces (x :: l) = placeL x.line :: x.what :: pieces l := rfl
theorem pieces_app (l m : List Lay) : pieces (l ++ m) = pieces l ++ pieces m := by simp [pieces]
theorem pieces_len (l : List Lay) : (pieces l).length = 2 * l.length := by
  induction l with
  | nil => rfl
  | cons x r ih => rw [pieces_cons]; simp only [List.length_cons, ih]; omega
/-- what an error says -/
def textL (l : List Lay) (c : Int) : List UInt8 := Lib.join (full (pieces l ++ [wordL c])) sep
def lineOf : List Lay → Int
  | [] => 0
  | x :: r => if 0 < x.line then x.line else lineOf r
theorem lineOf_some {x : Lay} (h : 0 < x.line) (r : List Lay) : lineOf (x :: r) = x.line := if_pos h
theorem lineOf_none {x : Lay} (h : ¬ 0 < x.line) (r : List Lay) : lineOf (x :: r) = lineOf r := if_neg h
theorem lineOf_nil : lineOf [] = 0 := rfl
def hasB (c a : Int) : Bool := a != 0 && c == a

/-- one text, and one more behind -/
def wth (s m : List UInt8) : List UInt8 := if s = [] ∨ m = [] then s ++ m else s ++ sep ++ m
theorem wth_none {s m : List UInt8} (h : s = [] ∨ m = []) : wth s m = s ++ m := if_pos h
theorem wth_some {s m : List UInt8} (h : s ≠ []) (k : m ≠ []) : wth s m = s ++ sep ++ m := if_neg (by rintro (e | e); exact h e; exact k e)
theorem wth_nil (m : List UInt8) : wth [] m = m := rfl
theorem wth_nil' (s : List UInt8) : wth s [] = s := by simp [wth]
theorem wth_ne {s m : List UInt8} (h : s ≠ []) : wth s m ≠ [] := by
  by_cases hm : m = []
  · subst hm; rwa [wth_nil']
  · rw [wth_some h hm]; simp [h]
theorem join_glue (a b : List UInt8) (r : List (List UInt8)) : Lib.join ((a ++ sep ++ b) :: r) sep = Lib.join (a :: b :: r) sep := by
  rw [Lib.join_cons, Lib.join_cons]
  simp [Lib.joinTail, List.append_assoc]
theorem join_wth (s m : List UInt8) (r : List (List UInt8)) : Lib.join (full (wth s m :: r)) sep = Lib.join (full (s :: m :: r)) sep := by
  by_cases hs : s = []
  · subst hs; rw [wth_nil, full_cons_nil]
  · by_cases hm : m = []
    · subst hm; rw [wth_nil', full_cons hs, full_cons hs, full_cons_nil]
    · rw [full_cons (wth_ne hs), full_cons hs, full_cons hm, wth_some hs hm, join_glue]
theorem foldl_wth (ps : List (List UInt8)) : ∀ s, ps.foldl wth s = Lib.join (full (s :: ps)) sep := by
  induction ps with
  | nil =>
    intro s
    by_cases hs : s = []
    · subst hs; rfl
    · rw [full_cons hs, full_nil, Lib.join_one]; rfl
  | cons p r ih => intro s; rw [List.foldl_cons, ih, join_wth]
theorem foldl_full (ps : List (List UInt8)) : ps.foldl wth [] = Lib.join (full ps) sep := by rw [foldl_wth, full_cons_nil]

/-- a layer of the document's: a code, a line, a text -/
structure Trp where
  code : Int
  line : Int
  what : List UInt8
def rOf : List Trp → Int
  | [] => 0
  | t :: r => if t.code = 0 then rOf r else t.code
theorem rOf_none {t : Trp} (h : t.code = 0) (r : List Trp) : rOf (t :: r) = rOf r := if_pos h
theorem rOf_some {t : Trp} (h : t.code ≠ 0) (r : List Trp) : rOf (t :: r) = t.code := if_neg h
theorem rOf_nil : rOf [] = 0 := rfl
def rLine : List Trp → Int
  | [] => 0
  | t :: r => if 0 < t.line then t.line else rLine r
theorem rLine_some {t : Trp} (h : 0 < t.line) (r : List Trp) : rLine (t :: r) = t.line := if_pos h
theorem rLine_none {t : Trp} (h : ¬ 0 < t.line) (r : List Trp) : rLine (t :: r) = rLine r := if_neg h
theorem rLine_nil : rLine [] = 0 := rfl
def rHas (l : List Trp) (a : Int) : Bool := l.any fun t => t.code == a && a != 0
theorem rHas_cons (t : Trp) (r : List Trp) (a : Int) : rHas (t :: r) a = (t.code == a && a != 0 || rHas r a) := rfl
theorem rHas_nil (a : Int) : rHas [] a = false := rfl
def rPieces (l : List Trp) : List (List UInt8) := l.flatMap fun t => [placeL t.line, t.what, wordL t.code]
theorem rPieces_cons (t : Trp) (l : List Trp) : rPieces (t :: l) = placeL t.line :: t.what :: wordL t.code :: rPieces l := rfl
def rText (l : List Trp) : List UInt8 := (rPieces l).foldl wth []
theorem rText_app (l : List Trp) (t : Trp) : rText (l ++ [t]) = wth (wth (wth (rText l) (placeL t.line)) t.what) (wordL t.code) := by
  simp [rText, rPieces, List.foldl_append]

/-- layers whose last one alone has a code -/
def mk (c : Int) : List Lay → List Trp
  | [] => []
  | [x] => [⟨c, x.line, x.what⟩]
  | x :: y :: r => ⟨0, x.line, x.what⟩ :: mk c (y :: r)
theorem mk_app (c : Int) (l : List Lay) (x : Lay) : mk c (l ++ [x]) = (l.map fun y => (⟨0, y.line, y.what⟩ : Trp)) ++ [⟨c, x.line, x.what⟩] := by
  induction l with
  | nil => rfl
  | cons y r ih =>
    cases r with
    | nil => rfl
    | cons z s => simp only [List.cons_append] at ih ⊢; rw [mk, ih]; rfl
theorem mk_of (c : Int) (x : Lay) (l : List Lay) : rOf (mk c (x :: l)) = c := by
  induction l generalizing x with
  | nil =>
    by_cases h : c = 0
    · subst h; rfl
    · exact rOf_some h _
  | cons y r ih => rw [mk, rOf_none rfl]; exact ih y
theorem mk_line (c : Int) (l : List Lay) : rLine (mk c l) = lineOf l := by
  induction l with
  | nil => rfl
  | cons x r ih =>
    cases r with
    | nil => rfl
    | cons y s => rw [mk]; simp only [rLine, lineOf] at ih ⊢; rw [ih]
theorem mk_has (c a : Int) (x : Lay) (l : List Lay) : rHas (mk c (x :: l)) a = hasB c a := by
  induction l generalizing x with
  | nil => simp [mk, rHas, hasB, Bool.and_comm]
  | cons y r ih =>
    rw [mk, rHas_cons, ih y]
    by_cases ha : a = 0
    · subst ha; simp [hasB]
    · have : ((0 : Int) == a) = false := by simp; omega
      simp [this]
theorem full_word (l : List (List UInt8)) : full (wordL 0 :: l) = full l := rfl
theorem mk_full (c : Int) (x : Lay) (l : List Lay) : full (rPieces (mk c (x :: l))) = full (pieces (x :: l) ++ [wordL c]) := by
  induction l generalizing x with
  | nil => rfl
  | cons y r ih =>
    rw [mk, rPieces_cons, pieces_cons]
    have e : ∀ a b : List (List UInt8), full a = full b → ∀ s, full (s :: a) = full (s :: b) := fun a b h s => by
      by_cases hs : s = []
      · subst hs; exact h
      · rw [full_cons hs, full_cons hs, h]
    refine e _ _ (e _ _ ?_ _) _
    exact ih y
theorem mk_text (c : Int) (x : Lay) (l : List Lay) : rText (mk c (x :: l)) = textL (x :: l) c := by
  rw [rText, foldl_full, mk_full]; rfl

/-- an error in memory: faults, one around the other, and at the end a Kind -/
def Err (w : World) : Nat → Value → List Lay → Int → Prop
  | _, v, [], c => v = .iface 46 (.int .i64 c)
  | N, v, x :: r, c => v = .iface 41 (.pointer (some ⟨x.blk, 0, none⟩)) ∧ x.blk < N ∧ ∃ u, w.heap[x.blk]? = some (.cells #[.int .i64 x.line, .string ⟨x.what.toArray⟩, u] 43 (0, 0)) ∧ Err w x.blk u r c
theorem Err.same {w w' : World} : ∀ {l : List Lay} {N : Nat} {v : Value} {c : Int}, Err w N v l c → (∀ k o, k < N → w.heap[k]? = some o → w'.heap[k]? = some o) → Err w' N v l c
  | [], _, _, _, h, _ => h
  | _ :: _, _, _, _, ⟨h1, h2, u, h3, h4⟩, hs => ⟨h1, h2, u, hs _ _ h2 h3, Err.same h4 fun k o hk => hs k o (by omega)⟩
theorem Err.more {w : World} : ∀ {l : List Lay} {N N' : Nat} {v : Value} {c : Int}, Err w N v l c → N ≤ N' → Err w N' v l c
  | [], _, _, _, _, h, _ => h
  | _ :: _, _, _, _, _, ⟨h1, h2, u, h3, h4⟩, hs => ⟨h1, Nat.lt_of_lt_of_le h2 hs, u, h3, h4⟩
theorem Err.below {w w' : World} {B N : Nat} {v : Value} {l : List Lay} {c : Int} (h : Err w N v l c) (hb : Below B w w') (hN : N ≤ B) : Err w' N v l c :=
  h.same fun k o hk ho => (hb.block k (by omega)).trans ho
theorem Err.out {w w' : World} {S : Nat → Prop} {N : Nat} {v : Value} {l : List Lay} {c : Int} (h : Err w N v l c) (hb : Out S w w') (hN : ∀ i, S i → N ≤ i) : Err w' N v l c :=
  h.same fun k o hk ho => hb.at_ ho fun hs => by have := hN k hs; omega
/-- how deep an error lies -/
def deep : Value → Nat
  | .iface _ (.pointer (some a)) => a.block + 1
  | _ => 0

/-- what the tables of the packages hold -/
structure Tab (w : World) : Prop where
  words : ∀ i, i < 16 → w.cell? ⟨0, i, none⟩ = some (.string ⟨(wordsL.getD i []).toArray⟩)
  et : w.cell? ⟨1, 0, none⟩ = some (.iface 82 (.agg #[.pointer (some ⟨3, 28, none⟩)]))
theorem Tab.lt {w : World} (h : Tab w) : 0 < w.heap.size ∧ 1 < w.heap.size :=
  ⟨World.block_lt_of_cell? w _ (h.words 0 (by omega)), World.block_lt_of_cell? w _ h.et⟩
theorem Tab.below {w w' : World} (h : Tab w) (hb : Below w.heap.size w w') : Tab w' :=
  ⟨fun i hi => (hb.cell (p := ⟨_, i, none⟩) h.lt.1).trans (h.words i hi), (hb.cell (p := ⟨_, 0, none⟩) h.lt.2).trans h.et⟩
theorem Tab.out {w w' : World} {S : Nat → Prop} (h : Tab w) (hb : Out S w w') (h1 : ¬ S 0) (h2 : ¬ S 1) : Tab w' :=
  ⟨fun i hi => (hb.cell (p := ⟨_, i, none⟩) h.lt.1 h1).trans (h.words i hi), (hb.cell (p := ⟨_, 0, none⟩) h.lt.2 h2).trans h.et⟩

end Go.Proofs.YtpjjfcgebgejaaaDoor.Flt

/-
  Layer 20 (mark): items as a text that people read; plain Lean.
-/
import Derived.Test.YtbjlnaobmgbpfaaDoorClockPlain
import Derived.Test.YtbjlnaobmgbpfaaDoorItmP
namespace Go.Proofs.YtbjlnaobmgbpfaaDoor.Mark
open Go.Proofs.YtbjlnaobmgbpfaaDoor.Rec Go.Proofs.YtbjlnaobmgbpfaaDoor.Digit Go.Proofs.YtbjlnaobmgbpfaaDoor.Clock

/-- a stamp -/
def st (t : Int) : List UInt8 := [91] ++ stmp t ++ [93, 32]
theorem stmp_le (t : Int) : (stmp t).length ≤ 19 := by
  by_cases h : t < 0 ∨ 252455615999 < t
  · rw [stmp_none h]; simp
  · rw [stmp_len (by omega) (by omega)]; omega
theorem st_le (t : Int) : (st t).length ≤ 22 := by have := stmp_le t; simp [st]; omega
theorem st_len {t : Int} (h0 : 0 ≤ t) (h : t ≤ 252455615999) : (st t).length = 22 := by have := stmp_len h0 h; simp [st]; omega
/-- bytes, with a stamp ahead of each with which a line begins -/
def dat (o : Bool) (s : List UInt8) : List UInt8 → List UInt8
  | [] => []
  | c :: r => (if o then [] else s) ++ c :: dat (c != 10) s r
/-- is a line begun behind these bytes -/
def opn (o : Bool) : List UInt8 → Bool
  | [] => o
  | c :: r => opn (c != 10) r
theorem opn_app (o : Bool) (l m : List UInt8) : opn o (l ++ m) = opn (opn o l) m := by
  induction l generalizing o with
  | nil => rfl
  | cons c r ih => exact ih _
theorem opn_snoc (o : Bool) (l : List UInt8) (c : UInt8) : opn o (l ++ [c]) = (c != 10) := by rw [opn_app]; rfl
theorem dat_app (o : Bool) (s l m : List UInt8) : dat o s (l ++ m) = dat o s l ++ dat (opn o l) s m := by
  induction l generalizing o with
  | nil => rfl
  | cons c r ih => simp [dat, opn, ih]
theorem dat_snoc (o : Bool) (s l : List UInt8) (c : UInt8) : dat o s (l ++ [c]) = dat o s l ++ (if opn o l then [] else s) ++ [c] := by rw [dat_app]; simp [dat]
theorem opn_dat (o : Bool) (s l : List UInt8) : opn o (dat o s l) = opn o l := by
  induction l generalizing o with
  | nil => rfl
  | cons c r ih =>
    show opn o ((if o then [] else s) ++ c :: dat (c != 10) s r) = opn (c != 10) r
    rw [opn_app]; exact ih _
/-- a piece of one line -/
theorem dat_seg (o : Bool) (s : List UInt8) (l : List UInt8) (c : UInt8) (h : ∀ x ∈ l, x ≠ 10) : dat o s (l ++ [c]) = (if o then [] else s) ++ (l ++ [c]) := by
  induction l generalizing o with
  | nil => simp [dat]
  | cons a r ih =>
    have ha : (a != 10) = true := by simpa using h a (by simp)
    have := ih true fun x hx => h x (by simp [hx])
    rw [List.cons_append, dat, ha, this]
    simp
theorem dat_le (o : Bool) (s l : List UInt8) : (dat o s l).length ≤ l.length * (s.length + 1) := by
  induction l generalizing o with
  | nil => simp [dat]
  | cons c r ih =>
    have := ih (c != 10)
    rw [dat, List.length_append, List.length_cons, List.length_cons, Nat.succ_mul]
    have : (if o then [] else s : List UInt8).length ≤ s.length := by cases o <;> simp
    omega
/-- a line of its own -/
def lin (o : Bool) (s b : List UInt8) : List UInt8 := (if o then [10] else []) ++ s ++ b
def noteB (b : List UInt8) : List UInt8 := [45, 45, 32] ++ shw b ++ [32, 45, 45, 10]
def gapB (b : List UInt8) : List UInt8 := [45, 45, 32] ++ shw b ++ [32, 108, 111, 115, 116, 32, 45, 45, 10]
theorem lin_snoc (o : Bool) (s b : List UInt8) (c : UInt8) : lin o s (b ++ [c]) = lin o s b ++ [c] := by simp [lin]
theorem note_end (b : List UInt8) : noteB b = ([45, 45, 32] ++ shw b ++ [32, 45, 45]) ++ [10] := by simp [noteB]
theorem gap_end (b : List UInt8) : gapB b = ([45, 45, 32] ++ shw b ++ [32, 108, 111, 115, 116, 32, 45, 45]) ++ [10] := by simp [gapB]
/-- an item as text, and whether a line is begun behind it -/
def itT (o : Bool) (x : Itm) : List UInt8 :=
  if x.k = 1 then dat o (st x.a) x.b.data.toList else if x.k = 2 then lin o (st x.a) (noteB x.b.data.toList) else if x.k = 3 then lin o (st x.a) (gapB x.b.data.toList) else []
def itO (o : Bool) (x : Itm) : Bool :=
  if x.k = 1 then opn o x.b.data.toList else if x.k = 2 then false else if x.k = 3 then false else o
theorem itT_1 {o : Bool} {x : Itm} (h : x.k = 1) : itT o x = dat o (st x.a) x.b.data.toList := if_pos h
theorem itT_2 {o : Bool} {x : Itm} (h : x.k = 2) : itT o x = lin o (st x.a) (noteB x.b.data.toList) := by rw [itT, if_neg (by omega), if_pos h]
theorem itT_3 {o : Bool} {x : Itm} (h : x.k = 3) : itT o x = lin o (st x.a) (gapB x.b.data.toList) := by rw [itT, if_neg (by omega), if_neg (by omega), if_pos h]
theorem itT_0 {o : Bool} {x : Itm} (h1 : x.k ≠ 1) (h2 : x.k ≠ 2) (h3 : x.k ≠ 3) : itT o x = [] := by rw [itT, if_neg h1, if_neg h2, if_neg h3]
theorem itO_1 {o : Bool} {x : Itm} (h : x.k = 1) : itO o x = opn o x.b.data.toList := if_pos h
theorem itO_2 {o : Bool} {x : Itm} (h : x.k = 2) : itO o x = false := by rw [itO, if_neg (by omega), if_pos h]
theorem itO_3 {o : Bool} {x : Itm} (h : x.k = 3) : itO o x = false := by rw [itO, if_neg (by omega), if_neg (by omega), if_pos h]
theorem itO_0 {o : Bool} {x : Itm} (h1 : x.k ≠ 1) (h2 : x.k ≠ 2) (h3 : x.k ≠ 3) : itO o x = o := by rw [itO, if_neg h1, if_neg h2, if_neg h3]
theorem itT_le (o : Bool) (x : Itm) : (itT o x).length ≤ 40 + 23 * x.b.size := by
  have hs : x.b.data.toList.length = x.b.size := rfl
  have h1 := dat_le o (st x.a) x.b.data.toList
  have h2 := st_le x.a
  have h3 := shw_len x.b.data.toList
  have ho : (if o then [10] else [] : List UInt8).length ≤ 1 := by cases o <;> simp
  have h4 : x.b.data.toList.length * ((st x.a).length + 1) ≤ x.b.data.toList.length * 23 := Nat.mul_le_mul_left _ (by omega)
  unfold itT
  split
  · omega
  · split
    · simp only [lin, noteB, List.length_append, List.length_cons, List.length_nil]; omega
    · split
      · simp only [lin, gapB, List.length_append, List.length_cons, List.length_nil]; omega
      · simp
theorem opn_it (o : Bool) (x : Itm) : opn o (itT o x) = itO o x := by
  unfold itT itO
  split
  · exact opn_dat _ _ _
  · split
    · rw [note_end, lin_snoc, opn_snoc]; rfl
    · split
      · rw [gap_end, lin_snoc, opn_snoc]; rfl
      · rfl
/-- items as text -/
def txt (o : Bool) : List Itm → List UInt8
  | [] => []
  | x :: r => itT o x ++ txt (itO o x) r
def fin (o : Bool) : List Itm → Bool
  | [] => o
  | x :: r => fin (itO o x) r
theorem fin_app (o : Bool) (l m : List Itm) : fin o (l ++ m) = fin (fin o l) m := by
  induction l generalizing o with
  | nil => rfl
  | cons c r ih => exact ih _
theorem txt_app (o : Bool) (l m : List Itm) : txt o (l ++ m) = txt o l ++ txt (fin o l) m := by
  induction l generalizing o with
  | nil => rfl
  | cons c r ih => simp [txt, fin, ih]
theorem opn_txt (o : Bool) (l : List Itm) : opn o (txt o l) = fin o l := by
  induction l generalizing o with
  | nil => rfl
  | cons x r ih => rw [txt, opn_app, opn_it, ih]; rfl
theorem take_next {α : Type} {l : List α} {k : Nat} (h : k < l.length) : l.take (k + 1) = l.take k ++ [l[k]] := by rw [List.take_add_one]; simp [h]
theorem txt_next (o : Bool) {l : List Itm} {k : Nat} (h : k < l.length) : txt o (l.take (k + 1)) = txt o (l.take k) ++ itT (fin o (l.take k)) l[k] := by
  rw [take_next h, txt_app]; simp [txt]
theorem fin_next (o : Bool) {l : List Itm} {k : Nat} (h : k < l.length) : fin o (l.take (k + 1)) = itO (fin o (l.take k)) l[k] := by
  rw [take_next h, fin_app]; rfl
def tot (l : List Itm) : Nat := (l.map fun x => 40 + 23 * x.b.size).sum
theorem txt_le (o : Bool) (l : List Itm) : (txt o l).length ≤ tot l := by
  induction l generalizing o with
  | nil => simp [txt, tot]
  | cons x r ih =>
    have h1 := itT_le o x
    have h2 := ih (itO o x)
    rw [txt, List.length_append]
    unfold tot at h2 ⊢
    rw [List.map_cons, List.sum_cons]; omega
theorem tot_le {l : List Itm} {M : Nat} (h : ∀ x ∈ l, x.b.size ≤ M) : tot l ≤ l.length * (40 + 23 * M) := by
  induction l with
  | nil => simp [tot]
  | cons x r ih =>
    have h1 := ih fun y hy => h y (by simp [hy])
    have h2 := h x (by simp)
    unfold tot at h1 ⊢
    rw [List.map_cons, List.sum_cons, List.length_cons, Nat.add_one_mul r.length]
    have : 23 * x.b.size ≤ 23 * M := Nat.mul_le_mul_left _ h2
    omega
/-- the bytes that a console told -/
def dta : List Itm → List UInt8
  | [] => []
  | x :: r => (if x.k = 1 then x.b.data.toList else []) ++ dta r
theorem dta_app (l m : List Itm) : dta (l ++ m) = dta l ++ dta m := by
  induction l with
  | nil => rfl
  | cons c r ih => simp [dta, ih]
theorem dta_1 {l : List Itm} {k : Nat} (h : k < l.length) (hk : l[k].k = 1) : dta (l.take (k + 1)) = dta (l.take k) ++ l[k].b.data.toList := by
  rw [take_next h, dta_app]; simp [dta, hk]
theorem dta_0 {l : List Itm} {k : Nat} (h : k < l.length) (hk : l[k].k ≠ 1) : dta (l.take (k + 1)) = dta (l.take k) := by
  rw [take_next h, dta_app]; simp [dta, hk]
theorem dta_le (l : List Itm) : (dta l).length ≤ tot l := by
  induction l with
  | nil => simp [dta]
  | cons x r ih =>
    have hs : x.b.data.toList.length = x.b.size := rfl
    have : (if x.k = 1 then x.b.data.toList else []).length ≤ x.b.size := by split <;> simp_all
    unfold tot at ih ⊢
    rw [dta, List.length_append, List.map_cons, List.sum_cons]; omega
theorem tot_take {l : List Itm} (k : Nat) : tot (l.take k) ≤ tot l := by
  have : tot (l.take k) + tot (l.drop k) = tot l := by
    unfold tot
    rw [← List.sum_append_nat, ← List.map_append, List.take_append_drop]
  omega
theorem txt_take_le (o : Bool) (l : List Itm) (k : Nat) : (txt o (l.take k)).length ≤ tot l := Nat.le_trans (txt_le _ _) (tot_take k)
theorem dta_take_le (l : List Itm) (k : Nat) : (dta (l.take k)).length ≤ tot l := Nat.le_trans (dta_le _) (tot_take k)

/-- in which pieces bytes come -/
theorem pieces (o : Bool) (A C : List Itm) (x y z : Itm) (hx : x.k = 1) (hy : y.k = 1) (hz : z.k = 1) (ay : y.a = x.a) (az : z.a = x.a) (hb : x.b.data.toList = y.b.data.toList ++ z.b.data.toList) :
    txt o (A ++ [y, z] ++ C) = txt o (A ++ x :: C) := by
  rw [List.append_assoc, txt_app o A, txt_app o A]
  congr 1
  show itT _ y ++ (itT _ z ++ txt (itO (itO _ y) z) C) = itT _ x ++ txt (itO _ x) C
  rw [itT_1 hx, itT_1 hy, itT_1 hz, itO_1 hx, itO_1 hy, itO_1 hz, ay, az, hb, dat_app, opn_app, List.append_assoc]

end Go.Proofs.YtbjlnaobmgbpfaaDoor.Mark

/-
  Layer 13 (tree): plain Lean: statements; what is read of pieces; the same but for lines; how many; a line of notes ahead.
-/
import Derived.Test.YtabpkpeonbdinaaDoorLexPlain
namespace Go.Proofs.YtabpkpeonbdinaaDoor.Tree
open Go.RowKit Go.Proofs.YtabpkpeonbdinaaDoor.Lex

/-- a statement: its key, its arguments, has it a block, the statements of that, its line -/
inductive Nd where
  | mk (key : List UInt8) (args : List (List UInt8)) (block : Bool) (list : List Nd) (line : Int)
def Nd.key : Nd → List UInt8 | .mk k _ _ _ _ => k
def Nd.args : Nd → List (List UInt8) | .mk _ a _ _ _ => a
def Nd.block : Nd → Bool | .mk _ _ b _ _ => b
def Nd.list : Nd → List Nd | .mk _ _ _ l _ => l
def Nd.line : Nd → Int | .mk _ _ _ _ n => n

/-- what comes of reading: a code and a line, or something, and the pieces that are left -/
inductive Rs (α : Type) where
  | bad (code line : Int)
  | ok (a : α) (rest : List Pc)
/-- the arguments of a statement, and, if a block was opened behind them, in which line -/
def argsOf (last : Int) (as : List (List UInt8)) : List Pc → Rs (List (List UInt8) × Option Int)
  | [] => .bad 3 last
  | p :: r => if p.kind = 1 ∨ p.kind = 2 then (if as.length = 16 then .bad 15 p.line else argsOf last (as ++ [p.text]) r)
    else if p.kind = 3 then .ok (as, some p.line) r else if p.kind = 5 then .ok (as, none) r else .bad 3 p.line
/-- a statement that begins with a piece -/
def stm (last : Int) (B : Nat → List Pc → Rs (List Nd)) (d : Nat) (k : Pc) (r : List Pc) : Rs Nd :=
  if k.kind = 1 then
    match argsOf last [] r with
    | .bad c l => .bad c l
    | .ok (as, none) r1 => .ok (.mk k.text as false [] k.line) r1
    | .ok (as, some l) r1 => if d = 4 then .bad 15 l else
      match B (d + 1) r1 with
      | .bad c l => .bad c l
      | .ok ns r2 => .ok (.mk k.text as true ns k.line) r2
  else .bad 3 k.line
/-- the statements of a block -/
def blk (last : Int) : Nat → Nat → List Nd → List Pc → Rs (List Nd)
  | 0, _, _, _ => .bad 3 last
  | _ + 1, _, _, [] => .bad 3 last
  | f + 1, d, acc, p :: r => if p.kind = 4 then .ok acc r else
    match stm last (fun d r => blk last f d [] r) d p r with
    | .bad c l => .bad c l
    | .ok n r1 => blk last f d (acc ++ [n]) r1
/-- the statements that stand in no block -/
def alls (last : Int) : Nat → List Nd → List Pc → Rs (List Nd)
  | 0, _, _ => .bad 3 last
  | _ + 1, acc, [] => .ok acc []
  | f + 1, acc, p :: r =>
    match stm last (fun d r => blk last f d [] r) 0 p r with
    | .bad c l => .bad c l
    | .ok n r1 => alls last f (acc ++ [n]) r1
def lastOf (P : List Pc) : Int := match P.getLast? with | some p => p.line | none => 0
def treeOf (P : List Pc) : Rs (List Nd) := alls (lastOf P) (P.length + 1) [] P
/-- what Read says -/
inductive Tr where
  | ok (l : List Nd)
  | err (code line : Int)
def Tr.nds : Tr → List Nd
  | .ok l => l
  | .err _ _ => []
def Tr.code : Tr → Int
  | .ok _ => 0
  | .err c _ => c
def Tr.line : Tr → Int
  | .ok _ => 0
  | .err _ n => n
def readT (s : List UInt8) : Tr :=
  match total s with
  | .err c n => .err c n
  | .ok P => match treeOf P with
    | .bad c n => .err c n
    | .ok l _ => .ok l

theorem blk_nil (last : Int) (f d : Nat) (acc : List Nd) : blk last (f + 1) d acc [] = .bad 3 last := rfl
theorem blk_close (last : Int) (f d : Nat) (acc : List Nd) {p : Pc} (h : p.kind = 4) (r : List Pc) : blk last (f + 1) d acc (p :: r) = .ok acc r := by rw [blk, if_pos h]
theorem blk_bad (last : Int) (f d : Nat) (acc : List Nd) {p : Pc} (h : p.kind ≠ 4) {r : List Pc} {c l : Int} (k : stm last (fun d r => blk last f d [] r) d p r = .bad c l) : blk last (f + 1) d acc (p :: r) = .bad c l := by rw [blk, if_neg h, k]
theorem blk_ok (last : Int) (f d : Nat) (acc : List Nd) {p : Pc} (h : p.kind ≠ 4) {r r1 : List Pc} {n : Nd} (k : stm last (fun d r => blk last f d [] r) d p r = .ok n r1) : blk last (f + 1) d acc (p :: r) = blk last f d (acc ++ [n]) r1 := by rw [blk, if_neg h, k]
theorem alls_nil (last : Int) (f : Nat) (acc : List Nd) : alls last (f + 1) acc [] = .ok acc [] := rfl
theorem alls_bad (last : Int) (f : Nat) (acc : List Nd) {p : Pc} {r : List Pc} {c l : Int} (k : stm last (fun d r => blk last f d [] r) 0 p r = .bad c l) : alls last (f + 1) acc (p :: r) = .bad c l := by rw [alls, k]
theorem alls_ok (last : Int) (f : Nat) (acc : List Nd) {p : Pc} {r r1 : List Pc} {n : Nd} (k : stm last (fun d r => blk last f d [] r) 0 p r = .ok n r1) : alls last (f + 1) acc (p :: r) = alls last f (acc ++ [n]) r1 := by rw [alls, k]

/-! ### the same, but for lines -/
mutual
def Nd.same : Nd → Nd → Bool
  | .mk k a b l _, .mk k' a' b' l' _ => k == k' && (a == a' && (b == b' && sameL l l'))
def sameL : List Nd → List Nd → Bool
  | [], [] => true
  | x :: xs, y :: ys => x.same y && sameL xs ys
  | [], _ :: _ => false
  | _ :: _, [] => false
end
theorem sameL_cons (x y : Nd) (xs ys : List Nd) : sameL (x :: xs) (y :: ys) = (x.same y && sameL xs ys) := by rw [sameL]
theorem sameL_nil : sameL [] [] = true := by rw [sameL]
theorem same_mk (k k' : List UInt8) (a a' : List (List UInt8)) (b b' : Bool) (l l' : List Nd) (n n' : Int) : (Nd.mk k a b l n).same (.mk k' a' b' l' n') = (k == k' && (a == a' && (b == b' && sameL l l'))) := by rw [Nd.same]
theorem sameL_len : ∀ {a b : List Nd}, sameL a b = true → a.length = b.length
  | [], [], _ => rfl
  | [], _ :: _, h => by rw [sameL] at h; cases h
  | _ :: _, [], h => by rw [sameL] at h; cases h
  | x :: xs, y :: ys, h => by
    rw [sameL_cons, Bool.and_eq_true] at h
    rw [List.length_cons, List.length_cons, sameL_len h.2]
theorem sameL_ne {a b : List Nd} (h : a.length ≠ b.length) : sameL a b = false := by
  cases e : sameL a b
  · rfl
  · exact absurd (sameL_len e) h
theorem sameL_snoc : ∀ {a b : List Nd} {x y : Nd}, sameL a b = true → x.same y = true → sameL (a ++ [x]) (b ++ [y]) = true
  | [], [], x, y, _, h => by rw [List.nil_append, List.nil_append, sameL_cons, h, sameL_nil]; rfl
  | [], _ :: _, _, _, h, _ => by rw [sameL] at h; cases h
  | _ :: _, [], _, _, h, _ => by rw [sameL] at h; cases h
  | x :: xs, y :: ys, u, v, h, k => by
    rw [sameL_cons, Bool.and_eq_true] at h
    rw [List.cons_append, List.cons_append, sameL_cons, h.1, sameL_snoc h.2 k]; rfl

/-! ### how many -/
mutual
def Nd.kids : Nd → Nat
  | .mk _ _ _ l _ => cntL l
def cntL : List Nd → Nat
  | [] => 0
  | x :: xs => x.kids + 1 + cntL xs
end
theorem cntL_nil : cntL [] = 0 := by rw [cntL]
theorem cntL_cons (x : Nd) (xs : List Nd) : cntL (x :: xs) = x.kids + 1 + cntL xs := by rw [cntL]
theorem kids_mk (k : List UInt8) (a : List (List UInt8)) (b : Bool) (l : List Nd) (n : Int) : (Nd.mk k a b l n).kids = cntL l := by rw [Nd.kids]
theorem kids_list (x : Nd) : x.kids = cntL x.list := by cases x; rw [kids_mk]; rfl

/-! ### one line further on -/
def up (p : Pc) : Pc := ⟨p.kind, p.text, p.line + 1⟩
/-- all lines are some line -/
def Ln (n : Int) : Prop := 1 ≤ n ∧ n ≤ 100000
def Lined (l : List Pc) : Prop := ∀ p ∈ l, Ln p.line
inductive UpR {α : Type} (R : α → α → Prop) : Rs α → Rs α → Prop
  | bad (c n : Int) (h : Ln n) : UpR R (.bad c n) (.bad c (n + 1))
  | ok {a b : α} {r : List Pc} (h : R a b) (hr : Lined r) : UpR R (.ok a r) (.ok b (r.map up))
def UpA (a b : List (List UInt8) × Option Int) : Prop := a.1 = b.1 ∧ b.2 = a.2.map (· + 1) ∧ ∀ n, a.2 = some n → Ln n
theorem argsOf_up (last : Int) (hl : Ln last) : ∀ (r : List Pc) (as : List (List UInt8)), Lined r → UpR UpA (argsOf last as r) (argsOf (last + 1) as (r.map up))
  | [], as, _ => .bad 3 last hl
  | p :: r, as, h => by
    have hp : Ln p.line := h p (by simp)
    have hr : Lined r := fun q hq => h q (by simp [hq])
    rw [List.map_cons, argsOf, argsOf]
    show UpR UpA _ (if p.kind = 1 ∨ p.kind = 2 then (if as.length = 16 then .bad 15 (p.line + 1) else argsOf (last + 1) (as ++ [p.text]) (r.map up)) else if p.kind = 3 then .ok (as, some (p.line + 1)) (r.map up) else if p.kind = 5 then .ok (as, none) (r.map up) else .bad 3 (p.line + 1))
    by_cases h1 : p.kind = 1 ∨ p.kind = 2
    · rw [if_pos h1, if_pos h1]
      by_cases h2 : as.length = 16
      · rw [if_pos h2, if_pos h2]; exact .bad _ _ hp
      · rw [if_neg h2, if_neg h2]; exact argsOf_up last hl r _ hr
    · rw [if_neg h1, if_neg h1]
      by_cases h3 : p.kind = 3
      · rw [if_pos h3, if_pos h3]; exact .ok ⟨rfl, rfl, fun n hn => by cases hn; exact hp⟩ hr
      · rw [if_neg h3, if_neg h3]
        by_cases h5 : p.kind = 5
        · rw [if_pos h5, if_pos h5]; exact .ok ⟨rfl, rfl, fun n hn => by cases hn⟩ hr
        · rw [if_neg h5, if_neg h5]; exact .bad _ _ hp
def SameN (a b : Nd) : Prop := a.same b = true
def SameLs (a b : List Nd) : Prop := sameL a b = true
theorem stm_up (last : Int) (hl : Ln last) {B B' : Nat → List Pc → Rs (List Nd)} (hB : ∀ d r, Lined r → UpR SameLs (B d r) (B' d (r.map up))) (d : Nat) (k : Pc) (hk : Ln k.line) (r : List Pc) (hr : Lined r) :
    UpR SameN (stm last B d k r) (stm (last + 1) B' d (up k) (r.map up)) := by
  unfold stm
  show UpR SameN _ (if k.kind = 1 then _ else .bad 3 (k.line + 1))
  by_cases h1 : k.kind = 1
  · rw [if_pos h1, if_pos h1]
    have ha := argsOf_up last hl r [] hr
    generalize argsOf last [] r = A at ha
    generalize argsOf (last + 1) [] (r.map up) = A' at ha
    cases ha with
    | bad c n h => exact .bad _ _ h
    | @ok a b r1 h h1 =>
      obtain ⟨as, o⟩ := a
      obtain ⟨bs, o'⟩ := b
      obtain ⟨e1, e2, e3⟩ := h
      obtain rfl : as = bs := e1
      obtain rfl : o' = o.map (· + 1) := e2
      cases o with
      | none =>
        refine .ok ?_ h1
        show Nd.same _ _ = true
        rw [same_mk, sameL_nil]; simp [up]
      | some n =>
        by_cases h4 : d = 4
        · show UpR SameN (if d = 4 then _ else _) (if d = 4 then _ else _)
          rw [if_pos h4, if_pos h4]; exact .bad _ _ (e3 n rfl)
        · show UpR SameN (if d = 4 then _ else _) (if d = 4 then _ else _)
          rw [if_neg h4, if_neg h4]
          have hb := hB (d + 1) r1 h1
          generalize B (d + 1) r1 = b1 at hb
          generalize B' (d + 1) (r1.map up) = b2 at hb
          cases hb with
          | bad c n h => exact .bad _ _ h
          | @ok x y r2 h h2 =>
            refine .ok ?_ h2
            show Nd.same _ _ = true
            rw [same_mk, show sameL x y = true from h]; simp [up]
  · rw [if_neg h1, if_neg h1]; exact .bad _ _ hk
theorem blk_up (last : Int) (hl : Ln last) : ∀ (f d : Nat) (acc acc' : List Nd) (r : List Pc), SameLs acc acc' → Lined r → UpR SameLs (blk last f d acc r) (blk (last + 1) f d acc' (r.map up))
  | 0, _, _, _, _, _, _ => .bad 3 last hl
  | f + 1, d, acc, acc', [], _, _ => .bad 3 last hl
  | f + 1, d, acc, acc', p :: r, ha, hr => by
    have hp : Ln p.line := hr p (by simp)
    have hr' : Lined r := fun q hq => hr q (by simp [hq])
    rw [List.map_cons]
    by_cases h4 : p.kind = 4
    · rw [blk_close _ _ _ _ h4, blk_close (p := up p) _ _ _ _ h4]; exact .ok ha hr'
    · have hs := stm_up last hl (B := fun d r => blk last f d [] r) (B' := fun d r => blk (last + 1) f d [] r) (fun d r hr => blk_up last hl f d [] [] r sameL_nil hr) d p hp r hr'
      generalize e1 : stm last (fun d r => blk last f d [] r) d p r = s1 at hs
      generalize e2 : stm (last + 1) (fun d r => blk (last + 1) f d [] r) d (up p) (r.map up) = s2 at hs
      cases hs with
      | bad c n h => rw [blk_bad _ _ _ _ h4 e1, blk_bad (p := up p) _ _ _ _ h4 e2]; exact .bad _ _ h
      | ok h h1 => rw [blk_ok _ _ _ _ h4 e1, blk_ok (p := up p) _ _ _ _ h4 e2]; exact blk_up last hl f d _ _ _ (sameL_snoc ha h) h1
theorem alls_up (last : Int) (hl : Ln last) : ∀ (f : Nat) (acc acc' : List Nd) (r : List Pc), SameLs acc acc' → Lined r → UpR SameLs (alls last f acc r) (alls (last + 1) f acc' (r.map up))
  | 0, _, _, _, _, _ => .bad 3 last hl
  | f + 1, acc, acc', [], ha, hr => .ok ha hr
  | f + 1, acc, acc', p :: r, ha, hr => by
    have hp : Ln p.line := hr p (by simp)
    have hr' : Lined r := fun q hq => hr q (by simp [hq])
    rw [List.map_cons]
    have hs := stm_up last hl (B := fun d r => blk last f d [] r) (B' := fun d r => blk (last + 1) f d [] r) (fun d r hr => blk_up last hl f d [] [] r sameL_nil hr) 0 p hp r hr'
    generalize e1 : stm last (fun d r => blk last f d [] r) 0 p r = s1 at hs
    generalize e2 : stm (last + 1) (fun d r => blk (last + 1) f d [] r) 0 (up p) (r.map up) = s2 at hs
    cases hs with
    | bad c n h => rw [alls_bad _ _ _ e1, alls_bad (p := up p) _ _ _ e2]; exact .bad _ _ h
    | ok h h1 => rw [alls_ok _ _ _ e1, alls_ok (p := up p) _ _ _ e2]; exact alls_up last hl f _ _ _ (sameL_snoc ha h) h1
theorem lastOf_up {P : List Pc} (h : P ≠ []) : lastOf (P.map up) = lastOf P + 1 := by
  unfold lastOf
  rw [List.getLast?_map]
  cases e : P.getLast? with
  | none => exact absurd (List.getLast?_eq_none_iff.1 e) h
  | some p => rfl
theorem lastOf_one {P : List Pc} (h : P ≠ []) (hP : Lined P) : Ln (lastOf P) := by
  unfold lastOf
  cases e : P.getLast? with
  | none => exact absurd (List.getLast?_eq_none_iff.1 e) h
  | some p => exact hP p (List.mem_of_getLast? e)
theorem treeOf_up {P : List Pc} (hP : Lined P) : UpR SameLs (treeOf P) (treeOf (P.map up)) := by
  by_cases h : P = []
  · subst h; exact .ok sameL_nil hP
  · have := alls_up (lastOf P) (lastOf_one h hP) (P.length + 1) [] [] P sameL_nil hP
    unfold treeOf
    rw [lastOf_up h, List.length_map]
    exact this

/-! ### pieces of a text with a line of notes ahead -/
def upRes : Res → Res
  | .ok l => .ok (l.map up)
  | .err c n => .err c (n + 1)
def LinedRes : Res → Prop
  | .ok l => Lined l
  | .err _ n => Ln n
theorem read_more : ∀ (f f' : Nat) (acc : List Pc) (l : List UInt8) (line : Int), l.length < f → l.length < f' → read f acc l line = read f' acc l line
  | 0, _, _, _, _, h, _ => by omega
  | _ + 1, 0, _, _, _, _, h => by omega
  | f + 1, f' + 1, acc, l, line, h, h' => by
    by_cases hl : l = []
    · subst hl; rw [read_nil, read_nil]
    · by_cases h8 : acc.length = 8192
      · rw [read_many _ hl h8, read_many _ hl h8]
      · cases e : first l with
        | none => rw [read_bad _ hl h8 e, read_bad _ hl h8 e]
        | some x =>
          obtain ⟨k, t, n⟩ := x
          have := first_le e
          rw [read_some _ hl h8 e, read_some _ hl h8 e]
          refine read_more f f' _ _ _ ?_ ?_ <;> (rw [List.length_drop, List.length_drop]; omega)
theorem skn_skip (l : List UInt8) (b : Bool) : skn b l ≤ skip b l := by
  rw [skn_count]
  exact Nat.le_trans List.count_le_length (by rw [List.length_take]; omega)
theorem read_up : ∀ (f : Nat) (acc : List Pc) (l : List UInt8) (line : Int), 1 ≤ line ∧ line + l.length ≤ 100000 → Lined acc → l.length < f →
    read f (acc.map up) l (line + 1) = upRes (read f acc l line) ∧ LinedRes (read f acc l line)
  | 0, _, _, _, _, _, h => by omega
  | f + 1, acc, l, line, h1, ha, h => by
    have hm : (acc.map up).length = acc.length := List.length_map ..
    have hln : Ln line := ⟨h1.1, by omega⟩
    by_cases hl : l = []
    · subst hl; rw [read_nil, read_nil]; exact ⟨rfl, ha⟩
    · by_cases h8 : acc.length = 8192
      · rw [read_many _ hl h8, read_many _ hl (hm.trans h8)]; exact ⟨rfl, hln⟩
      · cases e : first l with
        | none => rw [read_bad _ hl h8 e, read_bad _ hl (by rw [hm]; exact h8) e]; exact ⟨rfl, hln⟩
        | some x =>
          obtain ⟨k, t, n⟩ := x
          have := first_le e
          rw [read_some _ hl h8 e, read_some _ hl (by rw [hm]; exact h8) e]
          have ih := read_up f (acc ++ [⟨k, t, line⟩]) ((l.drop n).drop (skip false (l.drop n))) (line + skn false (l.drop n)) (by
            have h3 := skn_skip (l.drop n) false
            have h4 := skip_le (l.drop n) false
            rw [List.length_drop] at h4
            rw [List.length_drop, List.length_drop]
            omega) (by
            intro q hq
            rcases List.mem_append.1 hq with hq | hq
            · exact ha q hq
            · rw [List.mem_singleton.1 hq]; exact hln) (by rw [List.length_drop, List.length_drop]; omega)
          rw [List.map_append, show line + (skn false (l.drop n) : Int) + 1 = line + 1 + skn false (l.drop n) by omega] at ih
          exact ih
def note : List UInt8 := [35, 32, 110, 111, 116, 101, 10]
theorem skip_ahead (s : List UInt8) : skip false (note ++ s) = skip false s + 7 ∧ skn false (note ++ s) = skn false s + 1 := by
  have e : note ++ s = 35 :: ([32, 110, 111, 116, 101] ++ 10 :: s) := rfl
  constructor
  · rw [e, skip_note rfl, skip_high _ _ (by decide), skip_line rfl]; simp; omega
  · rw [e, skn_note rfl]
    show skn true (32 :: 110 :: 111 :: 116 :: 101 :: 10 :: s) = _
    rw [skn_go (by decide) rfl, skn_go (by decide) rfl, skn_go (by decide) rfl, skn_go (by decide) rfl, skn_go (by decide) rfl, skn_line rfl]
theorem total_up (s : List UInt8) (h : s.length ≤ 65000) : total (note ++ s) = upRes (total s) ∧ LinedRes (total s) := by
  have hn : (note ++ s).length = s.length + 7 := by simp [note]
  have hd : (note ++ s).drop (skip false s + 7) = s.drop (skip false s) := by
    rw [Nat.add_comm, ← List.drop_drop]; rfl
  rw [total_fit (by omega), total_fit (by omega), hn, (skip_ahead s).1, (skip_ahead s).2, hd]
  have := read_up (s.length + 1) [] (s.drop (skip false s)) (1 + skn false s) (by
    have h3 := skn_skip s false
    have h4 := skip_le s false
    rw [List.length_drop]
    omega) (fun _ h => by cases h) (by rw [List.length_drop]; omega)
  rw [List.map_nil, show (1 : Int) + (skn false s : Int) + 1 = 1 + ((skn false s + 1 : Nat) : Int) by omega] at this
  rw [read_more _ (s.length + 1) _ _ _ (by rw [List.length_drop]; omega) (by rw [List.length_drop]; omega)]
  exact this
/-- the same is read, or the same is wrong, one line further on -/
inductive UpT : Tr → Tr → Prop
  | ok {a b : List Nd} (h : sameL a b = true) : UpT (.ok a) (.ok b)
  | err (c n : Int) (h : Ln n) : UpT (.err c n) (.err c (n + 1))
theorem readT_up (s : List UInt8) (h : s.length ≤ 65000) : UpT (readT s) (readT (note ++ s)) := by
  obtain ⟨h1, h2⟩ := total_up s h
  unfold readT
  rw [h1]
  generalize total s = r at h2
  cases r with
  | err c n => exact .err c n h2
  | ok P =>
    have ht := treeOf_up (P := P) h2
    show UpT (match treeOf P with | .bad c n => .err c n | .ok l _ => .ok l) (match treeOf (P.map up) with | .bad c n => .err c n | .ok l _ => .ok l)
    generalize treeOf P = a at ht
    generalize treeOf (P.map up) = b at ht
    cases ht with
    | bad c n h => exact .err c n h
    | ok h _ => exact .ok h
end Go.Proofs.YtabpkpeonbdinaaDoor.Tree

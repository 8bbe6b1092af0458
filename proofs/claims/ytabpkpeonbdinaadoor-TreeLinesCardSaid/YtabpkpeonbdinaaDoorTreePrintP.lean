/-
  Layer 13 (tree): plain Lean: statements as text.
-/
import Derived.Test.YtabpkpeonbdinaaDoorTreePlain
import Derived.Lib.Join
import Derived.Lib.Repeat
namespace Go.Proofs.YtabpkpeonbdinaaDoor.Tree
open Go.RowKit Go.Proofs.YtabpkpeonbdinaaDoor.Lex

def argK (a : List UInt8) : Int := if isW a = true then 1 else 2
def argT (a : List UInt8) : List UInt8 := ptT (argK a) a
def argC (a : List UInt8) : Int := ptC (argK a) a
def okArgs (al : List (List UInt8)) : Bool := al.all fun a => argC a == 0
/-- a statement's key and arguments -/
def headT (k : List UInt8) (al : List (List UInt8)) : Option (List UInt8) :=
  if isW k = true ∧ al.length ≤ 16 ∧ okArgs al = true then some (Lib.join (k :: al.map argT) [32]) else none
def ind (d : Nat) : List UInt8 := Lib.repeatL [32, 32] d
mutual
def txtN (d : Nat) : Nd → Option (List UInt8)
  | .mk k a b l _ =>
    match headT k a with
    | none => none
    | some h => if b = true then (if d = 4 then none else (txtL (d + 1) l).map fun t => ind d ++ h ++ [32, 123, 10] ++ t ++ (ind d ++ [125, 10]))
      else if l.isEmpty = true then some (ind d ++ h ++ [59, 10]) else none
def txtL (d : Nat) : List Nd → Option (List UInt8)
  | [] => some []
  | x :: xs => (txtN d x).bind fun t => (txtL d xs).map fun r => t ++ r
end
theorem txtL_nil (d : Nat) : txtL d [] = some [] := by rw [txtL]
theorem txtL_cons (d : Nat) (x : Nd) (xs : List Nd) : txtL d (x :: xs) = (txtN d x).bind fun t => (txtL d xs).map fun r => t ++ r := by rw [txtL]
theorem txtN_open (d : Nat) (x : Nd) : txtN d x = (match headT x.key x.args with
    | none => none
    | some h => if x.block = true then (if d = 4 then none else (txtL (d + 1) x.list).map fun t => ind d ++ h ++ [32, 123, 10] ++ t ++ (ind d ++ [125, 10]))
      else if x.list.isEmpty = true then some (ind d ++ h ++ [59, 10]) else none) := by cases x; rw [txtN]; rfl

/-! ### how long it can be -/
def awt (al : List (List UInt8)) : Nat := (al.map fun a => 2 * a.length + 3).sum
mutual
def Nd.wt : Nd → Nat
  | .mk k a _ l _ => k.length + awt a + 64 + wtL l
def wtL : List Nd → Nat
  | [] => 0
  | x :: xs => x.wt + wtL xs
end
theorem wtL_nil : wtL [] = 0 := by rw [wtL]
theorem wtL_cons (x : Nd) (xs : List Nd) : wtL (x :: xs) = x.wt + wtL xs := by rw [wtL]
theorem wt_open (x : Nd) : x.wt = x.key.length + awt x.args + 64 + wtL x.list := by cases x; rw [Nd.wt]; rfl
theorem argT_len (a : List UInt8) : (argT a).length ≤ 2 * a.length + 2 := by
  unfold argT argK
  split
  · obtain ⟨h1, h2⟩ := ptC_word a
    cases h : isW a
    · rw [(h2 h).2]; simp
    · rw [(h1 h).2]; omega
  · obtain ⟨h1, h2⟩ := ptC_quote a
    cases h : allq a
    · rw [(h2 h).2]; simp
    · rw [(h1 h).2]
      have := esc_len a
      simp only [List.length_append, List.length_cons, List.length_nil]
      omega
theorem awt_cons (a : List UInt8) (al : List (List UInt8)) : awt (a :: al) = 2 * a.length + 3 + awt al := by simp [awt]
theorem tail_len : ∀ al : List (List UInt8), (Lib.joinTail [32] (al.map argT)).length ≤ awt al
  | [] => by simp [Lib.joinTail]
  | a :: al => by
    have h1 := tail_len al
    have h2 := argT_len a
    rw [awt_cons]
    simp only [Lib.joinTail, List.map_cons, List.flatten_cons, List.length_append, List.length_cons, List.length_nil] at h1 ⊢
    omega
theorem join_len (k : List UInt8) (al : List (List UInt8)) : (Lib.join (k :: al.map argT) [32]).length ≤ k.length + awt al := by
  rw [Lib.join_cons, List.length_append]
  have := tail_len al
  omega
theorem headT_len {k : List UInt8} {al : List (List UInt8)} {h : List UInt8} (e : headT k al = some h) : h.length ≤ k.length + awt al := by
  unfold headT at e
  split at e
  · cases e; exact join_len k al
  · cases e
theorem ind_len (d : Nat) : (ind d).length = 2 * d := by unfold ind; rw [Lib.repeatL_length]; simp; omega
theorem txt_len : ∀ (s : Nat) (l : List Nd) (d : Nat) (t : List UInt8), SizeOf.sizeOf l = s → d ≤ 4 → txtL d l = some t → t.length ≤ wtL l := by
  intro s
  induction s using Nat.strongRecOn with
  | ind s ih =>
  intro l d t hs hd e
  cases l with
  | nil => rw [txtL_nil] at e; cases e; simp
  | cons x xs =>
    rw [txtL_cons] at e
    rw [wtL_cons, wt_open]
    obtain ⟨u, hu, e⟩ := Option.bind_eq_some_iff.1 e
    obtain ⟨r, hr, rfl⟩ := Option.map_eq_some_iff.1 e
    have h1 := ih _ (by subst hs; simp; omega) xs d r rfl hd hr
    rw [List.length_append]
    suffices u.length ≤ x.key.length + awt x.args + 64 + wtL x.list by omega
    rw [txtN_open] at hu
    cases hh : headT x.key x.args with
    | none => rw [hh] at hu; cases hu
    | some h =>
      rw [hh] at hu
      have hl := headT_len hh
      have hi := ind_len d
      have hu : (if x.block = true then (if d = 4 then none else (txtL (d + 1) x.list).map fun t => ind d ++ h ++ [32, 123, 10] ++ t ++ (ind d ++ [125, 10])) else if x.list.isEmpty = true then some (ind d ++ h ++ [59, 10]) else none) = some u := hu
      split at hu
      · split at hu
        · cases hu
        · obtain ⟨t', ht', rfl⟩ := Option.map_eq_some_iff.1 hu
          have := ih _ (by
            subst hs
            have : SizeOf.sizeOf x.list < SizeOf.sizeOf x := by
              cases x
              simp only [Nd.list, Nd.mk.sizeOf_spec]
              omega
            simp; omega) x.list (d + 1) t' rfl (by omega) ht'
          simp only [List.length_append, List.length_cons, List.length_nil]
          omega
      · split at hu
        · cases hu
          simp only [List.length_append, List.length_cons, List.length_nil]
          omega
        · cases hu
end Go.Proofs.YtabpkpeonbdinaaDoor.Tree

/-
Layer 15 (conf): plain Lean: configurations; what is loaded of statements; a configuration as statements.
Blocks that a call may write, and all others as they were: 'Out S w w''; a block known whole; copy into a block known whole.
Rows of the call's own: kept by Below, appended to from whatever source.
What came in: slices of strings, of structs of one-cell fields, out of their readings.
Slices of one-cell values: rows of texts, rows of bools; what a call's own row tells.
Layer 13 (tree): statements in memory.
Layer 13 (tree): slices of statements; slices.Equal of texts.
Layer 15 (conf): configurations in memory.
-/
import Derived.Test.YtajfdachpdkbcaaGreatDoorPack2
import Derived.Below
import Derived.Laws.CopyOwn
import Derived.Lib.Hide
import Derived.Deep.Draws
import Derived.IntWalk
import Derived.OwnWalk
import Derived.Laws.AppendOwnNone
import Derived.Laws.AppendOwn
import Derived.SliceStrings
import Derived.Deep.Slices
import Derived.Deep.Fields
import Derived.ChangeSame
import Derived.WideShapes
import Derived.Deep.DeepCutAuto
import Derived.Deep.QuietTactic
import Derived.BigQuiet
import Derived.WalkKit
import Derived.Maps.AppendAt
import Derived.Test.YtajfdachpdkbcaaGreatDoorProg
import Derived.WalkLawsBesides
import Derived.Laws.OwnMore
section
namespace Go.Proofs.YtajfdachpdkbcaaGreatDoor.Conf
open Go.RowKit Go.Proofs.YtajfdachpdkbcaaGreatDoor.Lex Go.Proofs.YtajfdachpdkbcaaGreatDoor.Tree Go.Proofs.YtajfdachpdkbcaaGreatDoor.Digit Go.Proofs.YtajfdachpdkbcaaGreatDoor.Word
open Go.Proofs.YtajfdachpdkbcaaGreatDoor.Brk (rC)

abbrev Bs := List UInt8
/-- a console -/
structure Cn where
  name : Bs
  kind : Int
  lines : Int
  bytes : Int
  gens : Int
  size : Int
  base : Int
  cap : Int
  jit : Int
  init : Bs
deriving DecidableEq
/-- a configuration -/
structure Cf where
  cons : List Cn
  grps : List (Bs × List Bs)
  usrs : List (Bs × Bs)
  accs : List (Bs × Bs × Int)
  brks : List Bs
deriving DecidableEq
def empty : Cf := ⟨[], [], [], [], List.replicate 10 []⟩
def usual : Cn := ⟨[], 1, 20, 4096, 3, 4096, 1, 64, 4, []⟩

def sConsole : Bs := [99, 111, 110, 115, 111, 108, 101]
def sDefault : Bs := [100, 101, 102, 97, 117, 108, 116]
def sGroup : Bs := [103, 114, 111, 117, 112]
def sUser : Bs := [117, 115, 101, 114]
def sAccess : Bs := [97, 99, 99, 101, 115, 115]
def sBreak : Bs := [98, 114, 101, 97, 107]
def sKind : Bs := [107, 105, 110, 100]
def sLines : Bs := [108, 105, 110, 101, 115]
def sBytes : Bs := [98, 121, 116, 101, 115]
def sGens : Bs := [103, 101, 110, 115]
def sSize : Bs := [115, 105, 122, 101]
def sRetry : Bs := [114, 101, 116, 114, 121]
def sInit : Bs := [105, 110, 105, 116]
def sLike : Bs := [108, 105, 107, 101]
def sSerial : Bs := [115, 101, 114, 105, 97, 108]
def sPty : Bs := [112, 116, 121]
def sNone : Bs := [110, 111, 110, 101]
def sLook : Bs := [108, 111, 111, 107]
def sHand : Bs := [104, 97, 110, 100]
def sChief : Bs := [99, 104, 105, 101, 102]

/-- what comes of loading: a code and a line, or something -/
inductive Rz (α : Type) where
  | bad (code line : Int)
  | ok (a : α)

/-! ### settings -/
noncomputable def numM (x : Cn) (a : Bs) (lo hi : Int) (y : Cn) : Int × Cn :=
  if rdC a ≠ 0 then (3, x) else if lo ≤ rdV a ∧ rdV a ≤ hi then (0, y) else (2, x)
noncomputable def retryM (x : Cn) : List Bs → Int × Cn
  | [a, b, c] => if rdC a ≠ 0 ∨ rdC b ≠ 0 ∨ rdC c ≠ 0 then (3, x)
      else if (1 ≤ rdV a ∧ rdV a ≤ 3600) ∧ (rdV a ≤ rdV b ∧ rdV b ≤ 86400) ∧ (0 ≤ rdV c ∧ rdV c ≤ 3600) then (0, { x with base := rdV a, cap := rdV b, jit := rdV c }) else (2, x)
  | _ => (3, x)
def kindM (x : Cn) (a : Bs) : Int × Cn := if a = sSerial then (0, { x with kind := 1 }) else if a = sPty then (0, { x with kind := 2 }) else (3, x)
noncomputable def initM (x : Cn) (a : Bs) : Int × Cn := if rC a = 0 then (0, { x with init := a }) else (rC a, x)
def findM (cs : List Cn) (a : Bs) : Option Cn := cs.find? fun y => y.name == a
def likeM (cs : List Cn) (x : Cn) (a : Bs) : Int × Cn :=
  match findM cs a with
  | none => (7, x)
  | some y => (0, { y with name := x.name })
noncomputable def oneM (cs : List Cn) (x : Cn) (key a : Bs) : Int × Cn :=
  if key = sKind then kindM x a
  else if key = sLines then numM x a 1 1024 { x with lines := rdV a }
  else if key = sBytes then numM x a 1 65536 { x with bytes := rdV a }
  else if key = sGens then numM x a 1 16 { x with gens := rdV a }
  else if key = sSize then numM x a 64 1048576 { x with size := rdV a }
  else if key = sInit then initM x a
  else if key = sLike then likeM cs x a
  else (3, x)
noncomputable def setM (cs : List Cn) (x : Cn) (key : Bs) (args : List Bs) (block : Bool) : Int × Cn :=
  if block = true then (3, x) else if key = sRetry then retryM x args else
  match args with
  | [a] => oneM cs x key a
  | _ => (3, x)
noncomputable def setsM (cs : List Cn) : Cn → List Nd → Rz Cn
  | x, [] => .ok x
  | x, n :: r => if (setM cs x n.key n.args n.block).1 = 0 then setsM cs (setM cs x n.key n.args n.block).2 r else .bad (setM cs x n.key n.args n.block).1 n.line

/-! ### statements -/
def callM (taken : Bool) (have' : Nat) (text : Bs) : Int := if isName text = false then 3 else if taken = true then 8 else if 4096 ≤ have' then 15 else 0
def lvl (a : Bs) : Int := if a = sNone then 0 else if a = sLook then 1 else if a = sHand then 2 else if a = sChief then 3 else -1
def takenC (cf : Cf) (a : Bs) : Bool := cf.cons.any fun x => x.name == a
def takenG (cf : Cf) (a : Bs) : Bool := cf.grps.any fun x => x.1 == a
def takenU (cf : Cf) (a : Bs) : Bool := cf.usrs.any fun x => x.1 == a
def groupM (cf : Cf) : List Bs → Int × Cf
  | nm :: p :: ps => if (p :: ps).all isPat = false then (3, cf) else
      if callM (takenG cf nm) cf.grps.length nm = 0 then (0, { cf with grps := cf.grps ++ [(nm, p :: ps)] }) else (callM (takenG cf nm) cf.grps.length nm, cf)
  | _ => (3, cf)
def userM (cf : Cf) : List Bs → Int × Cf
  | [nm, pw] => if isW pw = false ∨ 32 < pw.length then (3, cf) else
      if callM (takenU cf nm) cf.usrs.length nm = 0 then (0, { cf with usrs := cf.usrs ++ [(nm, pw)] }) else (callM (takenU cf nm) cf.usrs.length nm, cf)
  | _ => (3, cf)
def accM (cf : Cf) : List Bs → Int × Cf
  | [c, u, l] => if [c, u].all isPat = false then (3, cf) else if lvl l < 0 then (3, cf) else if 4096 ≤ cf.accs.length then (15, cf) else (0, { cf with accs := cf.accs ++ [(c, u, lvl l)] })
  | _ => (3, cf)
noncomputable def brkM (cf : Cf) : List Bs → Int × Cf
  | [k, t] => if rdC k ≠ 0 then (3, cf) else if ¬ (1 ≤ rdV k ∧ rdV k ≤ 9) then (2, cf) else if rC t ≠ 0 then (rC t, cf) else if t = [] then (3, cf)
      else if cf.brks[(rdV k).toNat]?.getD [] ≠ [] then (8, cf) else (0, { cf with brks := cf.brks.set (rdV k).toNat t })
  | _ => (3, cf)
noncomputable def plainM (cf : Cf) (key : Bs) (args : List Bs) (block : Bool) : Int × Cf :=
  if block = true then (3, cf) else if key = sGroup then groupM cf args else if key = sUser then userM cf args else if key = sAccess then accM cf args else if key = sBreak then brkM cf args else (3, cf)
structure Sa where
  cf : Cf
  us : Cn
noncomputable def conM (s : Sa) (n : Nd) : Rz Sa :=
  match n.args with
  | [nm] => if n.block = false then .bad 3 n.line else
      if callM (takenC s.cf nm) s.cf.cons.length nm ≠ 0 then .bad (callM (takenC s.cf nm) s.cf.cons.length nm) n.line else
      match setsM s.cf.cons { s.us with name := nm } n.list with
      | .bad c l => .bad c l
      | .ok x => .ok ⟨{ s.cf with cons := s.cf.cons ++ [x] }, s.us⟩
  | _ => .bad 3 n.line
noncomputable def defM (s : Sa) (n : Nd) : Rz Sa :=
  match n.args with
  | [] => if n.block = false then .bad 3 n.line else
      match setsM s.cf.cons s.us n.list with
      | .bad c l => .bad c l
      | .ok x => .ok ⟨s.cf, x⟩
  | _ => .bad 3 n.line
noncomputable def stepM (s : Sa) (n : Nd) : Rz Sa :=
  if n.key = sConsole then conM s n else if n.key = sDefault then defM s n else
  if (plainM s.cf n.key n.args n.block).1 = 0 then .ok ⟨(plainM s.cf n.key n.args n.block).2, s.us⟩ else .bad (plainM s.cf n.key n.args n.block).1 n.line
noncomputable def foldM : Sa → List Nd → Rz Sa
  | s, [] => .ok s
  | s, n :: r => match stepM s n with
    | .bad c l => .bad c l
    | .ok s' => foldM s' r
noncomputable def loadL (L : List Nd) : Rz Cf :=
  match foldM ⟨empty, usual⟩ L with
  | .bad c l => .bad c l
  | .ok s => .ok s.cf
noncomputable def loadT (s : Bs) : Rz Cf :=
  match readT s with
  | .err c n => .bad c n
  | .ok L => loadL L
theorem fold_nil (s : Sa) : foldM s [] = .ok s := rfl
theorem fold_bad {s : Sa} {n : Nd} {c l : Int} (h : stepM s n = .bad c l) (r : List Nd) : foldM s (n :: r) = .bad c l := by rw [foldM, h]
theorem fold_ok {s s' : Sa} {n : Nd} (h : stepM s n = .ok s') (r : List Nd) : foldM s (n :: r) = foldM s' r := by rw [foldM, h]
theorem fold_app : ∀ (A B : List Nd) (s s' : Sa), foldM s A = .ok s' → foldM s (A ++ B) = foldM s' B
  | [], B, s, s', h => by cases h; rfl
  | n :: A, B, s, s', h => by
    cases e : stepM s n with
    | bad c l => rw [fold_bad e] at h; cases h
    | ok s1 => rw [fold_ok e] at h; rw [List.cons_append, fold_ok e]; exact fold_app A B s1 s' h

/-! ### the same statements, on other lines -/
inductive Sim {α : Type} : Rz α → Rz α → Prop
  | bad (c l l' : Int) : Sim (.bad c l) (.bad c l')
  | ok (a : α) : Sim (.ok a) (.ok a)
theorem same_eq {x y : Nd} (h : x.same y = true) : x.key = y.key ∧ x.args = y.args ∧ x.block = y.block ∧ sameL x.list y.list = true := by
  cases x; cases y
  rw [same_mk] at h
  simpa [Nd.key, Nd.args, Nd.block, Nd.list] using h
theorem sets_sim (cs : List Cn) : ∀ (L L' : List Nd) (x : Cn), sameL L L' = true → Sim (setsM cs x L) (setsM cs x L')
  | [], [], x, _ => .ok x
  | [], _ :: _, _, h => by rw [sameL] at h; cases h
  | _ :: _, [], _, h => by rw [sameL] at h; cases h
  | n :: r, n' :: r', x, h => by
    rw [sameL_cons, Bool.and_eq_true] at h
    obtain ⟨e1, e2, e3, _⟩ := same_eq h.1
    rw [setsM, setsM, e1, e2, e3]
    split
    · exact sets_sim cs r r' _ h.2
    · exact .bad _ _ _
theorem step_sim (s : Sa) {n n' : Nd} (h : n.same n' = true) : Sim (stepM s n) (stepM s n') := by
  obtain ⟨e1, e2, e3, e4⟩ := same_eq h
  unfold stepM conM defM
  rw [e1, e2, e3]
  split
  · split
    · split
      · exact .bad _ _ _
      · split
        · exact .bad _ _ _
        · rename_i nm _ _ _
          have := sets_sim s.cf.cons n.list n'.list { s.us with name := nm } e4
          generalize setsM s.cf.cons { s.us with name := nm } n.list = A at this
          generalize setsM s.cf.cons { s.us with name := nm } n'.list = B at this
          cases this with
          | bad c l l' => exact .bad _ _ _
          | ok x => exact .ok _
    · exact .bad _ _ _
  · split
    · split
      · split
        · exact .bad _ _ _
        · have := sets_sim s.cf.cons n.list n'.list s.us e4
          generalize setsM s.cf.cons s.us n.list = A at this
          generalize setsM s.cf.cons s.us n'.list = B at this
          cases this with
          | bad c l l' => exact .bad _ _ _
          | ok x => exact .ok _
      · exact .bad _ _ _
    · split
      · exact .ok _
      · exact .bad _ _ _
theorem fold_sim : ∀ (L L' : List Nd) (s : Sa), sameL L L' = true → Sim (foldM s L) (foldM s L')
  | [], [], s, _ => .ok s
  | [], _ :: _, _, h => by rw [sameL] at h; cases h
  | _ :: _, [], _, h => by rw [sameL] at h; cases h
  | n :: r, n' :: r', s, h => by
    rw [sameL_cons, Bool.and_eq_true] at h
    have := step_sim s h.1
    rw [foldM, foldM]
    generalize stepM s n = A at this
    generalize stepM s n' = B at this
    cases this with
    | bad c l l' => exact .bad _ _ _
    | ok s1 => exact fold_sim r r' s1 h.2
theorem load_sim {L L' : List Nd} (h : sameL L L' = true) : Sim (loadL L) (loadL L') := by
  have := fold_sim L L' ⟨empty, usual⟩ h
  unfold loadL
  generalize foldM ⟨empty, usual⟩ L = A at this
  generalize foldM ⟨empty, usual⟩ L' = B at this
  cases this with
  | bad c l l' => exact .bad _ _ _
  | ok s => exact .ok _

/-! ### a configuration as statements -/
def kindW (k : Int) : Bs := if k = 1 then sSerial else if k = 2 then sPty else []
def lvlW (k : Int) : Bs := if k = 0 then sNone else if k = 1 then sLook else if k = 2 then sHand else if k = 3 then sChief else []
def flat1 (key : Bs) (args : List Bs) : Nd := .mk key args false [] 0
def setNs (x : Cn) : List Nd := [flat1 sKind [kindW x.kind], flat1 sLines [dec x.lines], flat1 sBytes [dec x.bytes], flat1 sGens [dec x.gens], flat1 sSize [dec x.size], flat1 sRetry [dec x.base, dec x.cap, dec x.jit], flat1 sInit [x.init]]
def conN (x : Cn) : Nd := .mk sConsole [x.name] true (setNs x) 0
def brkNs : Nat → List Bs → List Nd
  | _, [] => []
  | i, t :: r => if t = [] then brkNs (i + 1) r else flat1 sBreak [dec i, t] :: brkNs (i + 1) r
def grpN (g : Bs × List Bs) : Nd := flat1 sGroup (g.1 :: g.2)
def usrN (u : Bs × Bs) : Nd := flat1 sUser [u.1, u.2]
def accN (a : Bs × Bs × Int) : Nd := flat1 sAccess [a.1, a.2.1, lvlW a.2.2]
def nodes (c : Cf) : List Nd := brkNs 0 c.brks ++ (c.cons.map conN ++ (c.grps.map grpN ++ (c.usrs.map usrN ++ c.accs.map accN)))
/-- a configuration as text -/
def printT (c : Cf) : Option Bs := txtL 0 (nodes c)

/-! ### what may be -/
structure OkN (x : Cn) : Prop where
  kind : x.kind = 1 ∨ x.kind = 2
  lines : 1 ≤ x.lines ∧ x.lines ≤ 1024
  bytes : 1 ≤ x.bytes ∧ x.bytes ≤ 65536
  gens : 1 ≤ x.gens ∧ x.gens ≤ 16
  size : 64 ≤ x.size ∧ x.size ≤ 1048576
  base : 1 ≤ x.base ∧ x.base ≤ 3600
  cap : x.base ≤ x.cap ∧ x.cap ≤ 86400
  jit : 0 ≤ x.jit ∧ x.jit ≤ 3600
  init : rC x.init = 0
structure OkC (c : Cf) : Prop where
  cons : ∀ x ∈ c.cons, isName x.name = true ∧ OkN x
  consD : (c.cons.map (·.name)).Nodup
  consL : c.cons.length ≤ 4096
  grps : ∀ g ∈ c.grps, isName g.1 = true ∧ g.2 ≠ [] ∧ g.2.all isPat = true ∧ g.2.length ≤ 15
  grpsD : (c.grps.map (·.1)).Nodup
  grpsL : c.grps.length ≤ 4096
  usrs : ∀ u ∈ c.usrs, isName u.1 = true ∧ isW u.2 = true ∧ u.2.length ≤ 32
  usrsD : (c.usrs.map (·.1)).Nodup
  usrsL : c.usrs.length ≤ 4096
  accs : ∀ a ∈ c.accs, isPat a.1 = true ∧ isPat a.2.1 = true ∧ 0 ≤ a.2.2 ∧ a.2.2 ≤ 3
  accsL : c.accs.length ≤ 4096
  brksL : c.brks.length = 10
  brks0 : c.brks[0]? = some []
  brks : ∀ t ∈ c.brks, t ≠ [] → rC t = 0
structure OkS (s : Sa) : Prop where
  cf : OkC s.cf
  us : OkN s.us
theorem rC_nil : rC [] = 0 := (Brk.r_some (by simp) (Brk.rdF_nil [])).1
theorem ok_usual : OkN usual := ⟨.inl rfl, by decide, by decide, by decide, by decide, by decide, by decide, by decide, rC_nil⟩
theorem ok_empty : OkC empty := ⟨by simp [empty], by simp [empty], by simp [empty], by simp [empty], by simp [empty], by simp [empty], by simp [empty], by simp [empty], by simp [empty], by simp [empty], by simp [empty], rfl, rfl, by
  intro t ht h
  exact absurd (List.eq_of_mem_replicate ht) h⟩
theorem OkN.name {x : Cn} (h : OkN x) (nm : Bs) : OkN { x with name := nm } := ⟨h.1, h.2, h.3, h.4, h.5, h.6, h.7, h.8, h.9⟩
theorem num_ok {x y : Cn} {a : Bs} {lo hi : Int} (h : (numM x a lo hi y).1 = 0) : rdC a = 0 ∧ lo ≤ rdV a ∧ rdV a ≤ hi ∧ (numM x a lo hi y).2 = y := by
  unfold numM at h ⊢
  split at h
  · cases h
  · rename_i h0
    rw [if_neg h0]
    split at h
    · rename_i h1; rw [if_pos h1]; exact ⟨by simpa using h0, h1.1, h1.2, rfl⟩
    · cases h
theorem set_ok (cs : List Cn) (hcs : ∀ y ∈ cs, OkN y) {x : Cn} (hx : OkN x) {key : Bs} {args : List Bs} {b : Bool} (h : (setM cs x key args b).1 = 0) : OkN (setM cs x key args b).2 ∧ (setM cs x key args b).2.name = x.name := by
  unfold setM at h ⊢
  split at h
  · cases h
  · rename_i h0
    rw [if_neg h0]
    split at h
    · rename_i h1
      rw [if_pos h1]
      unfold retryM at h ⊢
      split at h
      · split at h
        · cases h
        · rename_i h2
          rw [if_neg h2]
          split at h
          · rename_i h3
            rw [if_pos h3]
            exact ⟨⟨hx.1, hx.2, hx.3, hx.4, hx.5, h3.1, h3.2.1, h3.2.2, hx.9⟩, rfl⟩
          · cases h
      · cases h
    · rename_i h1
      rw [if_neg h1]
      split at h
      · rename_i a
        unfold oneM at h ⊢
        split at h
        · rename_i k1
          rw [if_pos k1]
          unfold kindM at h ⊢
          split at h
          · rename_i h2; rw [if_pos h2]; exact ⟨⟨.inl rfl, hx.2, hx.3, hx.4, hx.5, hx.6, hx.7, hx.8, hx.9⟩, rfl⟩
          · rename_i h2
            rw [if_neg h2]
            split at h
            · rename_i h3; rw [if_pos h3]; exact ⟨⟨.inr rfl, hx.2, hx.3, hx.4, hx.5, hx.6, hx.7, hx.8, hx.9⟩, rfl⟩
            · cases h
        rename_i k1
        rw [if_neg k1]
        split at h
        · rename_i k2
          rw [if_pos k2]
          obtain ⟨_, a1, a2, e⟩ := num_ok h
          rw [e]; exact ⟨⟨hx.1, ⟨a1, a2⟩, hx.3, hx.4, hx.5, hx.6, hx.7, hx.8, hx.9⟩, rfl⟩
        rename_i k2
        rw [if_neg k2]
        split at h
        · rename_i k3
          rw [if_pos k3]
          obtain ⟨_, a1, a2, e⟩ := num_ok h
          rw [e]; exact ⟨⟨hx.1, hx.2, ⟨a1, a2⟩, hx.4, hx.5, hx.6, hx.7, hx.8, hx.9⟩, rfl⟩
        rename_i k3
        rw [if_neg k3]
        split at h
        · rename_i k4
          rw [if_pos k4]
          obtain ⟨_, a1, a2, e⟩ := num_ok h
          rw [e]; exact ⟨⟨hx.1, hx.2, hx.3, ⟨a1, a2⟩, hx.5, hx.6, hx.7, hx.8, hx.9⟩, rfl⟩
        rename_i k4
        rw [if_neg k4]
        split at h
        · rename_i k5
          rw [if_pos k5]
          obtain ⟨_, a1, a2, e⟩ := num_ok h
          rw [e]; exact ⟨⟨hx.1, hx.2, hx.3, hx.4, ⟨a1, a2⟩, hx.6, hx.7, hx.8, hx.9⟩, rfl⟩
        rename_i k5
        rw [if_neg k5]
        split at h
        · rename_i k6
          rw [if_pos k6]
          unfold initM at h ⊢
          split at h
          · rename_i h2
            rw [if_pos h2]
            exact ⟨⟨hx.1, hx.2, hx.3, hx.4, hx.5, hx.6, hx.7, hx.8, h2⟩, rfl⟩
          · rename_i h2; exact absurd h h2
        rename_i k6
        rw [if_neg k6]
        split at h
        · rename_i k7
          rw [if_pos k7]
          unfold likeM at h ⊢
          split at h
          · cases h
          · rename_i y hy
            exact ⟨(hcs y (List.mem_of_find?_eq_some hy)).name _, by rfl⟩
        · cases h
      · cases h
theorem sets_ok (cs : List Cn) (hcs : ∀ y ∈ cs, OkN y) : ∀ (L : List Nd) (x y : Cn), OkN x → setsM cs x L = .ok y → OkN y ∧ y.name = x.name
  | [], x, y, hx, h => by cases h; exact ⟨hx, rfl⟩
  | n :: r, x, y, hx, h => by
    rw [setsM] at h
    split at h
    · rename_i h0
      obtain ⟨h1, h2⟩ := set_ok cs hcs hx h0
      obtain ⟨h3, h4⟩ := sets_ok cs hcs r _ y h1 h
      exact ⟨h3, h4.trans h2⟩
    · cases h
theorem call_ok {t : Bool} {k : Nat} {a : Bs} (h : callM t k a = 0) : isName a = true ∧ t = false ∧ k < 4096 := by
  unfold callM at h
  split at h
  · cases h
  · split at h
    · cases h
    · split at h
      · cases h
      · rename_i h1 h2 h3
        exact ⟨by simpa using h1, by simpa using h2, by omega⟩
theorem call_yes {t : Bool} {k : Nat} {a : Bs} (h1 : isName a = true) (h2 : t = false) (h3 : k < 4096) : callM t k a = 0 := by
  unfold callM
  rw [if_neg (by simp [h1]), if_neg (by simp [h2]), if_neg (by omega)]
theorem lvl_cases (a : Bs) : (a = sNone ∧ lvl a = 0) ∨ (a = sLook ∧ lvl a = 1) ∨ (a = sHand ∧ lvl a = 2) ∨ (a = sChief ∧ lvl a = 3) ∨ lvl a = -1 := by
  unfold lvl
  split
  · exact .inl ⟨by assumption, rfl⟩
  · split
    · exact .inr (.inl ⟨by assumption, rfl⟩)
    · split
      · exact .inr (.inr (.inl ⟨by assumption, rfl⟩))
      · split
        · exact .inr (.inr (.inr (.inl ⟨by assumption, rfl⟩)))
        · exact .inr (.inr (.inr (.inr rfl)))
theorem nodup_snoc {α : Type} {l : List α} {x : α} (h : l.Nodup) (hx : x ∉ l) : (l ++ [x]).Nodup := by
  rw [List.nodup_append]
  exact ⟨h, by simp, fun a ha b hb => by rw [List.mem_singleton.1 hb]; intro e; exact hx (e ▸ ha)⟩
theorem plain_ok {c : Cf} (hc : OkC c) {key : Bs} {args : List Bs} {b : Bool} (ha : args.length ≤ 16) (h : (plainM c key args b).1 = 0) : OkC (plainM c key args b).2 := by
  unfold plainM at h ⊢
  split at h
  · cases h
  rename_i h0
  rw [if_neg h0]
  split at h
  · rename_i k1
    rw [if_pos k1]
    unfold groupM at h ⊢
    split at h
    · rename_i nm p ps
      split at h
      · cases h
      · rename_i h1
        rw [if_neg h1]
        split at h
        · rename_i h2
          rw [if_pos h2]
          obtain ⟨a1, a2, a3⟩ := call_ok h2
          have hn : nm ∉ c.grps.map (·.1) := by
            intro hm
            obtain ⟨g, hg, e⟩ := List.mem_map.1 hm
            have : takenG c nm = true := List.any_eq_true.2 ⟨g, hg, by simp [e]⟩
            rw [this] at a2; cases a2
          refine { hc with grps := ?_, grpsD := ?_, grpsL := ?_ }
          · intro g hg
            rcases List.mem_append.1 hg with hg | hg
            · exact hc.grps g hg
            · rw [List.mem_singleton.1 hg]
              refine ⟨a1, by simp, by simpa using h1, ?_⟩
              simp at ha ⊢; omega
          · show ((c.grps ++ [(nm, p :: ps)]).map (·.1)).Nodup
            rw [List.map_append]; exact nodup_snoc hc.grpsD hn
          · show (c.grps ++ [(nm, p :: ps)]).length ≤ 4096
            simp; omega
        · rename_i h2; exact absurd h h2
    · cases h
  rename_i k1
  rw [if_neg k1]
  split at h
  · rename_i k2
    rw [if_pos k2]
    unfold userM at h ⊢
    split at h
    · rename_i nm pw
      split at h
      · cases h
      · rename_i h1
        rw [if_neg h1]
        split at h
        · rename_i h2
          rw [if_pos h2]
          obtain ⟨a1, a2, a3⟩ := call_ok h2
          have hn : nm ∉ c.usrs.map (·.1) := by
            intro hm
            obtain ⟨g, hg, e⟩ := List.mem_map.1 hm
            have : takenU c nm = true := List.any_eq_true.2 ⟨g, hg, by simp [e]⟩
            rw [this] at a2; cases a2
          refine { hc with usrs := ?_, usrsD := ?_, usrsL := ?_ }
          · intro g hg
            rcases List.mem_append.1 hg with hg | hg
            · exact hc.usrs g hg
            · rw [List.mem_singleton.1 hg]
              simp only [not_or, Bool.not_eq_false, Nat.not_lt] at h1
              exact ⟨a1, h1.1, h1.2⟩
          · show ((c.usrs ++ [(nm, pw)]).map (·.1)).Nodup
            rw [List.map_append]; exact nodup_snoc hc.usrsD hn
          · show (c.usrs ++ [(nm, pw)]).length ≤ 4096
            simp; omega
        · rename_i h2; exact absurd h h2
    · cases h
  rename_i k2
  rw [if_neg k2]
  split at h
  · rename_i k3
    rw [if_pos k3]
    unfold accM at h ⊢
    split at h
    · rename_i x u l
      split at h
      · cases h
      · rename_i h1
        rw [if_neg h1]
        split at h
        · cases h
        · rename_i h2
          rw [if_neg h2]
          split at h
          · cases h
          · rename_i h3
            rw [if_neg h3]
            refine { hc with accs := ?_, accsL := ?_ }
            · intro g hg
              rcases List.mem_append.1 hg with hg | hg
              · exact hc.accs g hg
              · rw [List.mem_singleton.1 hg]
                have h1' : isPat x = true ∧ isPat u = true := by simpa using h1
                refine ⟨h1'.1, h1'.2, ?_⟩
                show 0 ≤ lvl l ∧ lvl l ≤ 3
                rcases lvl_cases l with ⟨_, e⟩ | ⟨_, e⟩ | ⟨_, e⟩ | ⟨_, e⟩ | e <;> omega
            · show (c.accs ++ [(x, u, lvl l)]).length ≤ 4096
              simp; omega
    · cases h
  rename_i k3
  rw [if_neg k3]
  split at h
  · rename_i k4
    rw [if_pos k4]
    unfold brkM at h ⊢
    split at h
    · rename_i k t
      split at h
      · cases h
      · rename_i h1
        rw [if_neg h1]
        split at h
        · cases h
        · rename_i h2
          rw [if_neg h2]
          split at h
          · rename_i h3; exact absurd h h3
          · rename_i h3
            rw [if_neg h3]
            split at h
            · cases h
            · rename_i h4
              rw [if_neg h4]
              split at h
              · cases h
              · rename_i h5
                rw [if_neg h5]
                refine { hc with brksL := ?_, brks0 := ?_, brks := ?_ }
                · show (c.brks.set _ t).length = 10
                  rw [List.length_set]; exact hc.brksL
                · show (c.brks.set _ t)[0]? = some []
                  rw [List.getElem?_set_ne (by omega)]; exact hc.brks0
                · intro y hy hne
                  rcases List.mem_or_eq_of_mem_set hy with hy | rfl
                  · exact hc.brks y hy hne
                  · simpa using h3
    · cases h
  · cases h
theorem step_ok {s s' : Sa} (hs : OkS s) {n : Nd} (ha : n.args.length ≤ 16) (h : stepM s n = .ok s') : OkS s' := by
  have hcs : ∀ y ∈ s.cf.cons, OkN y := fun y hy => (hs.cf.cons y hy).2
  unfold stepM at h
  split at h
  · unfold conM at h
    split at h
    · split at h
      · cases h
      · split at h
        · cases h
        · rename_i nm _ _ h2
          split at h
          · cases h
          · rename_i x hx
            cases h
            obtain ⟨a1, a2, a3⟩ := call_ok (by simpa using h2)
            obtain ⟨o1, o2⟩ := sets_ok _ hcs _ _ _ (hs.us.name nm) hx
            have o2 : x.name = nm := o2
            have hn : nm ∉ s.cf.cons.map (·.name) := by
              intro hm
              obtain ⟨g, hg, e⟩ := List.mem_map.1 hm
              have : takenC s.cf nm = true := List.any_eq_true.2 ⟨g, hg, by simp [e]⟩
              rw [this] at a2; cases a2
            refine ⟨{ hs.cf with cons := ?_, consD := ?_, consL := ?_ }, hs.us⟩
            · intro g hg
              rcases List.mem_append.1 hg with hg | hg
              · exact hs.cf.cons g hg
              · rw [List.mem_singleton.1 hg]; exact ⟨by rw [o2]; exact a1, o1⟩
            · show ((s.cf.cons ++ [x]).map (·.name)).Nodup
              rw [List.map_append]; exact nodup_snoc hs.cf.consD (by show x.name ∉ _; rw [o2]; exact hn)
            · show (s.cf.cons ++ [x]).length ≤ 4096
              simp; omega
    · cases h
  · split at h
    · unfold defM at h
      split at h
      · split at h
        · cases h
        · split at h
          · cases h
          · rename_i x hx
            cases h
            exact ⟨hs.cf, (sets_ok _ hcs _ _ _ hs.us hx).1⟩
      · cases h
    · split at h
      · rename_i h2
        cases h
        exact ⟨plain_ok hs.cf ha h2, hs.us⟩
      · cases h
theorem fold_good : ∀ (L : List Nd) (s s' : Sa), OkS s → (∀ n ∈ L, n.args.length ≤ 16) → foldM s L = .ok s' → OkS s'
  | [], s, s', hs, _, h => by cases h; exact hs
  | n :: r, s, s', hs, ha, h => by
    cases e : stepM s n with
    | bad c l => rw [fold_bad e] at h; cases h
    | ok s1 =>
      rw [fold_ok e] at h
      exact fold_good r s1 s' (step_ok hs (ha n (by simp)) e) (fun m hm => ha m (by simp [hm])) h
theorem load_good {L : List Nd} {c : Cf} (ha : ∀ n ∈ L, n.args.length ≤ 16) (h : loadL L = .ok c) : OkC c := by
  unfold loadL at h
  split at h
  · cases h
  · rename_i s hs
    cases h
    exact (fold_good L _ s ⟨ok_empty, ok_usual⟩ ha hs).cf
end Go.Proofs.YtajfdachpdkbcaaGreatDoor.Conf
end

section
namespace Go.Proofs.YtajfdachpdkbcaaGreatDoor.Own
open Go.RowKit

/-- all blocks that were there, but those of S, are as they were -/
structure Out (S : Nat → Prop) (w w' : World) : Prop where
  os : w'.os = w.os
  tape : w'.tape = w.tape
  output : w'.output = w.output
  size : w.heap.size ≤ w'.heap.size
  block : ∀ k, k < w.heap.size → ¬ S k → w'.heap[k]? = w.heap[k]?

theorem Out.refl (S : Nat → Prop) (w : World) : Out S w w := ⟨rfl, rfl, rfl, Nat.le_refl _, fun _ _ _ => rfl⟩
theorem Out.trans {S S' : Nat → Prop} {a b c : World} (h : Out S a b) (k : Out S' b c) (hs : ∀ i, i < a.heap.size → S' i → S i) : Out S a c :=
  ⟨k.os.trans h.os, k.tape.trans h.tape, k.output.trans h.output, Nat.le_trans h.size k.size, fun i hi hn =>
    (k.block i (Nat.lt_of_lt_of_le hi h.size) fun h' => hn (hs i hi h')).trans (h.block i hi hn)⟩
theorem Out.mono {S S' : Nat → Prop} {a b : World} (h : Out S a b) (hs : ∀ i, i < a.heap.size → S i → S' i) : Out S' a b := (Out.refl S' a).trans h hs
theorem Out.drew {S : Nat → Prop} {a w : World} (h : Out S a w) : Out S a w.drew := ⟨h.os, h.tape, h.output, h.size, h.block⟩
theorem Out.drewN {S : Nat → Prop} {a w : World} (h : Out S a w) (n : Nat) : Out S a (w.drewN n) := ⟨h.os, h.tape, h.output, h.size, h.block⟩
theorem Out.ofDrew {S : Nat → Prop} {a w : World} (h : Out S a.drew w) : Out S a w := ⟨h.os, h.tape, h.output, h.size, h.block⟩
theorem Out.ofDrewN {S : Nat → Prop} {a w : World} {n : Nat} (h : Out S (a.drewN n) w) : Out S a w := ⟨h.os, h.tape, h.output, h.size, h.block⟩
theorem Out.alloc {S : Nat → Prop} {a w : World} (h : Out S a w) (o : Obj) : Out S a (w.alloc o) :=
  h.trans (S' := fun _ => False) ⟨rfl, rfl, rfl, by simp, fun k hk _ => Below.heap_alloc _ _ _ hk⟩ (fun _ _ h => h.elim)
theorem Out.setCell {S : Nat → Prop} {a w : World} (h : Out S a w) {p : Addr} (hp : p.block < a.heap.size → S p.block) (u : Value) : Out S a (w.setCell p u) :=
  h.trans (S' := fun k => k = p.block) ⟨rfl, rfl, rfl, by simp [World.setCell], fun k _ hk => Below.heap_setCell _ _ _ _ hk⟩ (fun i hi e => by subst e; exact hp hi)
theorem Out.setRow {S : Nat → Prop} {a w : World} (h : Out S a w) {g : Nat} (hp : g < a.heap.size → S g) (cs : Array Value) : Out S a (w.setRow g cs) :=
  h.trans (S' := fun k => k = g) ⟨rfl, rfl, rfl, by simp [World.setRow], fun k _ hk => setRow_other w g k cs hk⟩ (fun i hi e => by subst e; exact hp hi)
theorem Out.ofBelow {S : Nat → Prop} {B : Nat} {a b : World} (h : Below B a b) (hs : ∀ i, i < a.heap.size → ¬ S i → i < B) : Out S a b :=
  ⟨h.os, h.tape, h.output, h.size, fun k hk hn => h.block k (hs k hk hn)⟩
theorem Out.ofNew {S : Nat → Prop} {a b : World} (h : Below a.heap.size a b) : Out S a b := Out.ofBelow h fun _ h _ => h
theorem Out.below {S : Nat → Prop} {B : Nat} {a b : World} (h : Out S a b) (hB : B ≤ a.heap.size) (hs : ∀ i, S i → B ≤ i) : Below B a b :=
  ⟨h.os, h.tape, h.output, h.size, fun k hk => h.block k (by omega) fun h' => by have := hs k h'; omega⟩
theorem Out.cell {S : Nat → Prop} {a b : World} (h : Out S a b) {p : Addr} (hp : p.block < a.heap.size) (hn : ¬ S p.block) : b.cell? p = a.cell? p := World.cell?_of_block (h.block _ hp hn)
theorem Out.frozen {S : Nat → Prop} {a b : World} (h : Out S a b) {p : Addr} (hp : p.block < a.heap.size) (hn : ¬ S p.block) : b.frozen? p = a.frozen? p := World.frozen?_of_block (h.block _ hp hn)
theorem Out.at_ {S : Nat → Prop} {a b : World} (h : Out S a b) {k : Nat} {o : Obj} (hk : a.heap[k]? = some o) (hn : ¬ S k) : b.heap[k]? = some o :=
  (h.block k (Array.getElem?_eq_some_iff.1 hk).1 hn).trans hk

section
variable {w : World} {b : Nat} {c : Array Value} {t : TypeId} {fr : Nat × Nat}
theorem at_lt {o : Obj} (h : w.heap[b]? = some o) : b < w.heap.size := (Array.getElem?_eq_some_iff.1 h).1
theorem at_cell (h : w.heap[b]? = some (.cells c t fr)) (o : Nat) : w.cell? ⟨b, o, none⟩ = c[o]? := by simp [World.cell?, h]
theorem at_frozen (h : w.heap[b]? = some (.cells c t (0, 0))) (o : Nat) : w.frozen? ⟨b, o, none⟩ = false := by simp [World.frozen?, h]
theorem at_set (h : w.heap[b]? = some (.cells c t fr)) (i : Nat) (v : Value) : (w.setCell ⟨b, i, none⟩ v).heap[b]? = some (.cells (c.setIfInBounds i v) t fr) := by
  have hlt := at_lt h
  have h' : w.heap[b] = .cells c t fr := by simpa [Array.getElem?_eq_getElem hlt] using h
  show (w.heap.modify b _)[b]? = _
  rw [Array.getElem?_eq_getElem (by simpa using hlt), Array.getElem_modify_self, h']
  rfl
theorem at_set_other (w : World) {k : Nat} (hk : k ≠ b) (i : Nat) (v : Value) : (w.setCell ⟨b, i, none⟩ v).heap[k]? = w.heap[k]? := Below.heap_setCell _ _ _ _ hk
theorem at_new (w : World) (o : Obj) : (w.alloc o).heap[w.heap.size]? = some o := heap_alloc_new w o
theorem at_newk (w : World) (o : Obj) {k : Nat} (h : k = w.heap.size) : (w.alloc o).heap[k]? = some o := by subst h; exact heap_alloc_new w o
theorem at_old (w : World) (o : Obj) {k : Nat} {x : Obj} (h : w.heap[k]? = some x) : (w.alloc o).heap[k]? = some x := (Below.heap_alloc w o k (at_lt h)).trans h
end

/-- bytes as cells -/
def bv (l : List UInt8) : List Value := l.map fun c => .int .u8 c.toNat
theorem bv_len (l : List UInt8) : (bv l).length = l.length := by simp [bv]
theorem bv_get (l : List UInt8) (i : Nat) : (bv l)[i]? = l[i]?.map fun c => Value.int .u8 (c.toNat : Int) := by simp [bv]
theorem bv_one (l : List UInt8) : ∀ v ∈ bv l, v.oneCell' = true := by
  intro v hv; simp only [bv, List.mem_map] at hv; obtain ⟨c, -, rfl⟩ := hv; rfl
theorem bv_app (l m : List UInt8) : bv (l ++ m) = bv l ++ bv m := by simp [bv]
theorem bv_take (l : List UInt8) (n : Nat) : (bv l).take n = bv (l.take n) := by simp [bv]
theorem bv_drop (l : List UInt8) (n : Nat) : (bv l).drop n = bv (l.drop n) := by simp [bv]
theorem bv_splice (l m : List UInt8) (n : Nat) : splice (bv l) n (bv m) = bv (splice l n m) := by simp [splice, bv]

section
variable {P : Program}
theorem run_copy_string (w : World) (dT sT ty elem : TypeId) (g o dLen dCap : Nat) (s : ByteArray) (cur : Array Value) (t : TypeId) (k : Nat)
    (hu : P.underlying dT = some (.slice elem)) (hs : (P.info? elem).map (·.size) = some 1)
    (hg : w.heap[g]? = some (.cells cur t (0, 0))) (hk : k = Nat.min s.size dLen) (hfit : o + k ≤ cur.size) :
    (Builtin.copy_ #[dT, sT] ty #[.slice (some ⟨g, o, none⟩) dLen dCap, .string s]).run P w =
      .ok (goInt k) (w.setRow g (cur.toList.take o ++ bv (s.data.toList.take k) ++ cur.toList.drop (o + k)).toArray) := by
  have hl : (bv (s.data.toList.take k)).length = k := by
    rw [bv_len, List.length_take]; show min k s.data.size = k; have : s.data.size = s.size := rfl
    rw [hk]; have := Nat.min_le_left s.size dLen; change Nat.min s.size dLen ≤ _ at this; omega
  have hst := run_storeCells_at P g o t (bv (s.data.toList.take k)) 0 cur w hg (by rw [hl]; simpa using hfit) (bv_one _)
  rw [hl] at hst
  cases hq : P.info? elem with
  | none => simp [hq] at hs
  | some i =>
    simp [Builtin.copy_, run_underlying hu, Builtin.lenOf, Builtin.firstCells, sizeOf, typeInfo, hq]
    rw [← hk, show List.take k (List.map (fun b : UInt8 => Value.int .u8 (b.toNat : Int)) s.data.toList) = bv (s.data.toList.take k) by simp [bv], hst]
    simp

theorem run_copy_string_none (w : World) (dT sT ty elem : TypeId) (d : Option Addr) (dLen dCap : Nat) (s : ByteArray)
    (hu : P.underlying dT = some (.slice elem)) (hs : (P.info? elem).map (·.size) = some 1) (hn : Nat.min s.size dLen = 0) :
    (Builtin.copy_ #[dT, sT] ty #[.slice d dLen dCap, .string s]).run P w = .ok (goInt 0) w := by
  cases hq : P.info? elem with
  | none => simp [hq] at hs
  | some i =>
    have hn' : min s.size dLen = 0 := hn
    cases d <;> simp [Builtin.copy_, run_underlying hu, Builtin.lenOf, Builtin.firstCells, sizeOf, typeInfo, hq, hn', storeCells]

variable {ops : Array Oper} {o : Oper} {a : Act} {w : World} {K : Act → World → Prop} {Q : Exit → Act → World → Prop} {E : Prop}

/-- copy(dst, src) of two slices of bytes, as a step of a region that draws its order -/
theorem step_copy_out (hgd : o.guard = none) (d s : Operand) (dT sT : TypeId)
    (ho : o.op = .call { callee := .builtin .copy, args := #[d, s], argTypes := #[dT, sT] }) (elem : TypeId) (hu : P.underlying dT = some (.slice elem)) (hsz : (P.info? elem).map (·.size) = some 1)
    (dp sp : Option Addr) (dLen dCap sLen sCap : Nat) (hd : a.eval d = .slice dp dLen dCap) (hs : a.eval s = .slice sp sLen sCap)
    (g off : Nat) (cur : List Value) (t : TypeId) (hg : w.heap[g]? = some (.cells cur.toArray t (0, 0))) (cs : List Value) (n : Nat) (hn : cs.length = n) (hm : n = min sLen dLen)
    (hpos : 0 < n → dp = some ⟨g, off, none⟩ ∧ ∃ ad, sp = some ad ∧ ∀ j v, cs[j]? = some v → w.cell? (ad.add j) = some v)
    (hfit : off + n ≤ cur.length) (h1 : ∀ v ∈ cs, v.oneCell' = true)
    (h : ∀ w', Hid (w'.heap[g]? = some (.cells (splice cur off cs).toArray t (0, 0))) → Out (fun k => k = g) w w' → K (a.put o.dst (.int .i64 n)) w') :
    if Region.wanted o (yielded ops a.tmps) = true then Oper.wp P o a w K Q else E := by
  have hw : Region.wanted o (yielded ops a.tmps) = true := by simp [Region.wanted, hgd]
  rw [if_pos hw]
  subst hn
  by_cases h0 : cs.length = 0
  · obtain rfl : cs = [] := List.eq_nil_of_length_eq_zero h0
    have hrun := run_copy_none (P := P) w dT sT o.type elem dp sp dLen dCap sLen sCap hu hsz (show Nat.min sLen dLen = 0 by simpa using hm.symm)
    unfold Oper.wp
    simp [execOp, ho, resolve, invoke, builtin, hd, hs, hrun, Result.andThen]
    exact h w (show _ = _ by simpa [splice] using hg) (Out.refl _ _)
  · obtain ⟨rfl, ad, rfl, hsrc⟩ := hpos (by omega)
    have hrun := run_copy_row (P := P) w dT sT o.type elem g off dLen dCap ad sLen sCap cur.toArray t cs hu hsz hg (show cs.length = Nat.min sLen dLen from hm) hsrc (by simpa using hfit) h1
    unfold Oper.wp
    simp [execOp, ho, resolve, invoke, builtin, hd, hs, hrun, Result.andThen]
    exact h _ (show _ = _ by simpa [splice] using setRow_heap w g _ _ t _ hg) ((Out.refl (fun k => k = g) _).setRow (fun _ => rfl) _)

/-- copy(dst, src), src a text -/
theorem step_copy_text (hgd : o.guard = none) (d s : Operand) (dT sT : TypeId)
    (ho : o.op = .call { callee := .builtin .copy, args := #[d, s], argTypes := #[dT, sT] }) (elem : TypeId) (hu : P.underlying dT = some (.slice elem)) (hsz : (P.info? elem).map (·.size) = some 1)
    (dp : Option Addr) (dLen dCap : Nat) (bs : ByteArray) (hd : a.eval d = .slice dp dLen dCap) (hs : a.eval s = .string bs)
    (g off : Nat) (cur : List Value) (t : TypeId) (hg : w.heap[g]? = some (.cells cur.toArray t (0, 0))) (n : Nat) (hm : n = min bs.size dLen)
    (hpos : 0 < n → dp = some ⟨g, off, none⟩) (hfit : off + n ≤ cur.length)
    (h : ∀ w', Hid (w'.heap[g]? = some (.cells (splice cur off (bv (bs.data.toList.take n))).toArray t (0, 0))) → Out (fun k => k = g) w w' → K (a.put o.dst (.int .i64 n)) w') :
    if Region.wanted o (yielded ops a.tmps) = true then Oper.wp P o a w K Q else E := by
  have hw : Region.wanted o (yielded ops a.tmps) = true := by simp [Region.wanted, hgd]
  rw [if_pos hw]
  have hl : (bv (bs.data.toList.take n)).length = n := by
    rw [bv_len, List.length_take]; show min n bs.data.size = n; have : bs.data.size = bs.size := rfl
    omega
  by_cases h0 : n = 0
  · subst h0
    have hrun := run_copy_string_none (P := P) w dT sT o.type elem dp dLen dCap bs hu hsz hm.symm
    unfold Oper.wp
    simp [execOp, ho, resolve, invoke, builtin, hd, hs, hrun, Result.andThen]
    exact h w (show _ = _ by simpa [splice, bv] using hg) (Out.refl _ _)
  · obtain rfl := hpos (by omega)
    have hrun := run_copy_string (P := P) w dT sT o.type elem g off dLen dCap bs cur.toArray t n hu hsz hg hm (by simpa using hfit)
    unfold Oper.wp
    simp [execOp, ho, resolve, invoke, builtin, hd, hs, hrun, Result.andThen]
    refine h _ (show _ = _ from ?_) ((Out.refl (fun k => k = g) _).setRow (fun _ => rfl) _)
    have := setRow_heap w g cur.toArray (cur.take off ++ bv (bs.data.toList.take n) ++ cur.drop (off + n)).toArray t _ hg
    rw [splice, hl]
    simpa using this
end
end Go.Proofs.YtajfdachpdkbcaaGreatDoor.Own
end

section
namespace Go.Proofs.YtajfdachpdkbcaaGreatDoor.Own
open Go.RowKit

theorem own_below {w w' : World} {B e size n : Nat} {v : Value} {xs : List Value} (h : w.ownsRow B e size v n xs) (hb : Below w.heap.size w w') : w'.ownsRow B e size v n xs := by
  refine ⟨h.1, ?_⟩
  rcases h.2 with h0 | ⟨g, cap, cur, hv, hg, hh, r⟩
  · exact .inl h0
  · exact .inr ⟨g, cap, cur, hv, hg, (hb.block g (at_lt hh)).trans hh, r⟩
theorem own_set {w : World} {B e size n : Nat} {v : Value} {xs : List Value} (h : w.ownsRow B e size v n xs) {k : Nat} (hk : k < B) (i : Nat) (x : Value) : (w.setCell ⟨k, i, none⟩ x).ownsRow B e size v n xs := by
  obtain ⟨h1, h2⟩ := h
  refine ⟨h1, ?_⟩
  rcases h2 with h2 | ⟨g, cap, cur, hv, hg, hh, r⟩
  · exact .inl h2
  · exact .inr ⟨g, cap, cur, hv, hg, by rw [at_set_other _ (by omega)]; exact hh, r⟩
theorem add0 (g n : Nat) : (⟨g, 0, none⟩ : Addr).add n = ⟨g, n, none⟩ := by cases n <;> simp [Addr.add]
/-- append onto an array of the call's own, whatever is appended -/
theorem append_any {P : Program} {w : World} {ops : Array Oper} {rest : List Oper} {o : Oper} {a : Act} {Q : Exit → Act → World → Prop} (hgd : o.guard = none) (s x : Operand) (t : TypeId)
    (ho : o.op = .call { callee := .builtin .append, args := #[s, x], argTypes := #[t, t] })
    (base : Nat) (e : TypeId) (i : TypeInfo) (z : Value) (size bytes : Nat) (ht : P.underlying t = some (.slice e)) (hi : P.info? e = some i) (hz : i.zero = some z)
    (hsize : i.size = size) (hby : i.bytes = bytes) (hzs : z.cells.size = size) (hsz : 0 < size)
    (v : Value) (n : Nat) (xs : List Value) (hs : a.eval s = v) (hown : w.ownsRow base e size v n xs)
    (ao : Option Addr) (m c : Nat) (news : List Value) (hx : a.eval x = .slice ao m c) (hnone : ao = none → m = 0 ∧ c = 0) (hl : news.length = m * size)
    (hnews : ∀ ad, ao = some ad → ∀ j u, news[j]? = some u → w.cell? (ad.add j) = some u) (h1 : ∀ u ∈ news, u.oneCell' = true)
    (h63 : n + m ≤ maxLen) (hbytes : (n + m) * bytes ≤ 140737488355328) (hbase : base ≤ w.heap.size)
    (h : ∀ v' w', w'.ownsRow base e size v' (n + m) (xs ++ news) → w.grownBy w' v.ownBlock → wpList P ops Q rest (a.put o.dst v') w') : wpList P ops Q (o :: rest) a w := by
  cases ao with
  | some ad => exact wpList_append_own w hgd s x t ho base e i z size bytes ht hi hz hsize hby hzs hsz v n xs hs hown ad m c news hx hl (hnews ad rfl) h1 h63 hbytes hbase fun v' w' a b _ => h v' w' a b
  | none =>
    obtain ⟨rfl, rfl⟩ := hnone rfl
    obtain rfl : news = [] := List.eq_nil_of_length_eq_zero (by simpa using hl)
    exact wpList_append_own_none hgd s x t ho base e i size ht hi v n xs hs hown hx (h v w (by simpa using hown) (World.grownBy.refl _ _))
theorem three_new (w : World) (x y z : Value) (T : TypeId) (g : Nat) (hg : g = w.heap.size) : ∀ ad, some (⟨g, 0, none⟩ : Addr) = some ad → ∀ j u, [x, y, z][j]? = some u → (w.alloc (.cells #[x, y, z] T (0, 0))).cell? (ad.add j) = some u := by
  subst hg
  rintro ad ⟨⟩ j u hu
  rw [add0, at_cell (at_new w _)]
  simpa using hu
end Go.Proofs.YtajfdachpdkbcaaGreatDoor.Own
end

section
namespace Go.Proofs.YtajfdachpdkbcaaGreatDoor.Own
open Go.RowKit Go.ChangeShapes Go.WideShapes Go.Deep

/-- a slice that came in: n elements of so many cells each -/
def Row (w : World) (v : Value) (n size : Nat) (E : Nat → Nat → Value) : Prop :=
  ∃ a cap, v = .slice a n cap ∧ n ≤ cap ∧ cap ≤ maxLen ∧ (n = 0 ∨ ∃ b off, a = some ⟨b, off, none⟩ ∧ b < w.heap.size ∧ ∀ i j, i < n → j < size → w.cell? ⟨b, off + i * size + j, none⟩ = some (E i j))

theorem Row.below {w w' : World} {v : Value} {n size : Nat} {E : Nat → Nat → Value} (h : Row w v n size E) (hb : Below w.heap.size w w') : Row w' v n size E := by
  obtain ⟨a, cap, rfl, h1, h2, h3⟩ := h
  refine ⟨a, cap, rfl, h1, h2, h3.imp id ?_⟩
  rintro ⟨b, off, rfl, h4, h5⟩
  exact ⟨b, off, rfl, Nat.lt_of_lt_of_le h4 hb.size, fun i j hi hj => by rw [hb.cell h4]; exact h5 i j hi hj⟩

section
variable {H : Type} {enc : TypeId × Value → H} {P : Program} {w : World} {base : Nat} {spare : Nat → Bool} {held : Bool}

theorem args_slice {t e : TypeId} {v : Value} {d : DataW H} {p : List MemPlace} {size : Nat} (ht : P.underlying t = some (.slice e)) (hC : P.cellsOf e = size) (h0 : 0 < size) (h : DataW.Trod enc P w base spare held t v d p) (hv : ∃ a n cap, v = .slice a n cap) :
    ∃ n E, Row w v n size E ∧ ∃ m, ∀ i, i < n → ∃ y, DataW.trod enc P w base spare held m e ((List.range size).map (E i)) = some y := by
  obtain ⟨a, n, cap, rfl⟩ := hv
  obtain ⟨fuel, hf⟩ := h
  rcases open_slice ht hf with ⟨hcs, _⟩ | ⟨x, l, c, m, k, D, Pl, hcs, hb, hl, hm, hmm, hx, hi⟩
  · simp [Value.cells] at hcs
    obtain ⟨rfl, rfl, rfl⟩ := hcs
    exact ⟨0, fun _ _ => undef, ⟨none, 0, rfl, Nat.le_refl _, Nat.zero_le _, .inl rfl⟩, 0, fun i hi => absurd hi (by omega)⟩
  · simp [Value.cells] at hcs
    obtain ⟨rfl, rfl, rfl⟩ := hcs
    rw [hC] at hi
    have hnm : n ≤ m := by rw [hmm]; split <;> omega
    refine ⟨n, fun i j => (w.cell? (x.add (i * size + j))).getD undef, ⟨some x, cap, rfl, hl, hm, ?_⟩, k, ?_⟩
    · by_cases hn : n = 0
      · exact .inl hn
      · right
        obtain ⟨b, off, spot⟩ := x
        obtain ⟨cs0, hc0, _⟩ := hi 0 (by omega)
        obtain ⟨_, _, hat0⟩ := World.cells?_some hc0
        have h00 := hat0 0 h0
        obtain ⟨_, hcl0, _⟩ := World.cells?_some hc0
        have hsp : spot = none := by
          have e : cs0[0]? = some (cs0[0]'(by omega)) := List.getElem?_eq_getElem (by omega)
          rw [e] at h00
          simpa [Addr.add] using World.cell?_spot h00
        subst hsp
        have hadd : ∀ o k, (⟨b, o, none⟩ : Addr).add k = ⟨b, o + k, none⟩ := fun o k => by unfold Addr.add; split <;> simp_all
        refine ⟨b, off, rfl, ?_, ?_⟩
        · have e : cs0[0]? = some (cs0[0]'(by omega)) := List.getElem?_eq_getElem (by omega)
          rw [e] at h00
          have := World.block_lt_of_cell? w _ h00
          simpa [hadd] using this
        · intro i j hin hj
          obtain ⟨cs, hc, _⟩ := hi i (by omega)
          obtain ⟨_, hcl, hat⟩ := World.cells?_some hc
          have hcell := hat j hj
          have e : cs[j]? = some (cs[j]'(by omega)) := List.getElem?_eq_getElem (by omega)
          rw [e] at hcell
          simp only [hadd] at hcell ⊢
          rw [← Nat.add_assoc, hcell]; simp
    · intro i hin
      obtain ⟨cs, hc, ht'⟩ := hi i (by omega)
      obtain ⟨_, hcl, hat⟩ := World.cells?_some hc
      refine ⟨(D i, Pl i), ?_⟩
      rw [← ht']
      congr 1
      apply List.ext_getElem?
      intro j
      by_cases hj : j < size
      · have hcell := hat j hj
        have e : cs[j]? = some (cs[j]'(by omega)) := List.getElem?_eq_getElem (by omega)
        rw [Go.Deep.add_add] at hcell
        rw [List.getElem?_map, List.getElem?_range hj, e]
        rw [e] at hcell
        simp [hcell]
      · rw [List.getElem?_eq_none (by simp; omega), List.getElem?_eq_none (by omega)]

variable {m : Nat} {y : DataW H × List MemPlace}
/-- a field of a struct -/
theorem leaf_field {e : TypeId} {fs : Array Field} {size : Nat} {E : Nat → Value} (he : P.underlying e = some (.struct fs)) (h : DataW.trod enc P w base spare held m e ((List.range size).map E) = some y)
    (j : Nat) (f : Field) (hf : fs[j]? = some f) (o c : Nat) (ho : f.offset = o) (hc : P.cellsOf f.type = c) (hs : o + c ≤ size) : ∃ m' y', DataW.trod enc P w base spare held m' f.type ((List.range c).map fun k => E (o + k)) = some y' := by
  obtain ⟨xs, n, _, _, _, hlen, hyl⟩ := DataW.trod_struct he h
  have hj : j < fs.size := (Array.getElem?_eq_some_iff.1 hf).1
  refine ⟨n, xs[j]'(by omega), ?_⟩
  have := hyl j f hf
  rw [ho, hc, List.getElem?_eq_getElem (by omega)] at this
  rw [← this]
  congr 1
  apply List.ext_getElem?
  intro k
  by_cases hk : k < c
  · rw [List.getElem?_map, List.getElem?_range hk, List.getElem?_take, if_pos hk, List.getElem?_drop, List.getElem?_map, List.getElem?_range (by omega)]; rfl
  · rw [List.getElem?_eq_none (by simp; omega), List.getElem?_eq_none (by simp; omega)]
theorem leaf_int {t : TypeId} {k : IntKind} {E : Nat → Value} (ht : P.underlying t = some (.int k)) (h : DataW.trod enc P w base spare held m t ((List.range 1).map E) = some y) : ∃ n, E 0 = .int k n ∧ (Lit.int k n).wf = true := by
  obtain ⟨n, hn, _, hw⟩ := DataW.trod_int ht h
  exact ⟨n, by simpa using hn, hw⟩
theorem leaf_string {t : TypeId} {E : Nat → Value} (ht : P.underlying t = some .string) (h : DataW.trod enc P w base spare held m t ((List.range 1).map E) = some y) : ∃ s, E 0 = .string s ∧ s.size ≤ maxLen := by
  obtain ⟨n, hn, _, hw⟩ := DataW.trod_string ht h
  exact ⟨n, by simpa using hn, hw⟩
theorem leaf_bool {t : TypeId} {E : Nat → Value} (ht : P.underlying t = some .bool) (h : DataW.trod enc P w base spare held m t ((List.range 1).map E) = some y) : ∃ b, E 0 = .bool b := by
  obtain ⟨n, hn, _⟩ := DataW.trod_bool ht h
  exact ⟨n, by simpa using hn⟩
theorem wf64 {n : Int} (h : (Lit.int .i64 n).wf = true) : -9223372036854775808 ≤ n ∧ n ≤ 9223372036854775807 := by
  simpa [Lit.wf, IntKind.min, IntKind.max, IntKind.bits, IntKind.signed] using h
theorem wf8 {n : Int} (h : (Lit.int .u8 n).wf = true) : 0 ≤ n ∧ n ≤ 255 := by
  simpa [Lit.wf, IntKind.min, IntKind.max, IntKind.bits, IntKind.signed] using h
theorem wf16 {n : Int} (h : (Lit.int .u16 n).wf = true) : 0 ≤ n ∧ n ≤ 65535 := by
  simpa [Lit.wf, IntKind.min, IntKind.max, IntKind.bits, IntKind.signed] using h

/-- a slice of strings that came in -/
theorem args_strings {t e : TypeId} {v : Value} {d : DataW H} {p : List MemPlace} (ht : P.underlying t = some (.slice e)) (he : P.underlying e = some .string) (hC : P.cellsOf e = 1) (h : DataW.Trod enc P w base spare held t v d p) (hv : ∃ a n cap, v = .slice a n cap) :
    ∃ n E, Row w v n 1 E ∧ ∀ i, i < n → ∃ s, E i 0 = .string s ∧ s.size ≤ maxLen := by
  obtain ⟨n, E, hr, m, hm⟩ := args_slice ht hC (by omega) h hv
  refine ⟨n, E, hr, fun i hi => ?_⟩
  obtain ⟨y, hy⟩ := hm i hi
  exact leaf_string he hy
end
end Go.Proofs.YtajfdachpdkbcaaGreatDoor.Own
end

section
namespace Go.Proofs.YtajfdachpdkbcaaGreatDoor.Rw
open Go.RowKit Go.Proofs.YtajfdachpdkbcaaGreatDoor.Own

/-- a slice of one-cell values -/
structure Row1 (w : World) (p : Option Addr) (c : Nat) (xs : List Value) : Prop where
  cap : xs.length ≤ c
  max : c ≤ maxLen
  cells : xs = [] ∨ ∃ b o, p = some ⟨b, o, none⟩ ∧ b < w.heap.size ∧ ∀ i x, xs[i]? = some x → w.cell? ⟨b, o + i, none⟩ = some x
theorem Row1.below {w w' : World} {p : Option Addr} {c : Nat} {xs : List Value} (h : Row1 w p c xs) (hb : Below w.heap.size w w') : Row1 w' p c xs :=
  ⟨h.cap, h.max, h.cells.imp id fun ⟨b, o, e, hl, k⟩ => ⟨b, o, e, Nat.lt_of_lt_of_le hl hb.size, fun i x hx => (hb.cell (p := ⟨b, o + i, none⟩) hl).trans (k i x hx)⟩⟩
theorem own_cell {w : World} {B : Nat} {e : TypeId} {v : Value} {n g c : Nat} {xs : List Value} (h : w.ownsRow B e 1 v n xs) (hv : v = .slice (some ⟨g, 0, none⟩) n c) {i : Nat} {x : Value} (hx : xs[i]? = some x) : w.cell? ⟨g, i, none⟩ = some x := by
  have hc := @World.ownsRow.cells _ _ _ _ _ _ _ h
  have := hc (g := g) (by rw [hv]; rfl) i x hx
  rwa [add0] at this
theorem own_shape {w : World} {B : Nat} {e : TypeId} {v : Value} {n : Nat} {xs : List Value} (h : w.ownsRow B e 1 v n xs) (hn : 0 < n) : ∃ g c, v = .slice (some ⟨g, 0, none⟩) n c ∧ B ≤ g ∧ g < w.heap.size ∧ n ≤ c ∧ c ≤ maxLen := by
  rcases h.2 with ⟨rfl, h0⟩ | ⟨g, cap, cur, rfl, hb, hh, h3, h4, _⟩
  · omega
  · exact ⟨g, cap, rfl, hb, at_lt hh, h3, h4⟩
theorem owns_row {w : World} {B : Nat} {e : TypeId} {v : Value} {n : Nat} {xs : List Value} (h : w.ownsRow B e 1 v n xs) (hn : n = xs.length) : ∃ p c, v = .slice p n c ∧ Row1 w p c xs := by
  rcases h.2 with ⟨rfl, h0⟩ | ⟨g, cap, cur, rfl, _, hh, h3, h4, _⟩
  · obtain rfl : n = 0 := h0
    exact ⟨none, 0, rfl, by omega, by unfold maxLen; omega, .inl (List.eq_nil_of_length_eq_zero hn.symm)⟩
  · refine ⟨_, cap, rfl, by omega, h4, .inr ⟨g, 0, rfl, at_lt hh, fun i x hx => ?_⟩⟩
    rw [Nat.zero_add]
    exact own_cell h rfl hx
theorem own_base {w : World} {B B' e size n : Nat} {v : Value} {xs : List Value} (h : w.ownsRow B' e size v n xs) (hb : B ≤ B') : w.ownsRow B e size v n xs := by
  refine ⟨h.1, h.2.imp id fun ⟨g, cap, cur, hv, hg, r⟩ => ⟨g, cap, cur, hv, by omega, r⟩⟩
theorem own_new (w : World) (xs : List Value) (e : TypeId) (g : Nat) (hg : g = w.heap.size) (hl : xs.length ≤ maxLen) : (w.alloc (.cells xs.toArray e (0, 0))).ownsRow w.heap.size e 1 (.slice (some ⟨g, 0, none⟩) xs.length xs.length) xs.length xs := by
  subst hg
  exact ⟨by omega, .inr ⟨_, _, xs.toArray, rfl, Nat.le_refl _, at_new w _, Nat.le_refl _, hl, by simp, by simp⟩⟩
theorem one_new (w : World) (x : Value) (T : TypeId) (g : Nat) (hg : g = w.heap.size) : ∀ ad, some (⟨g, 0, none⟩ : Addr) = some ad → ∀ j u, [x][j]? = some u → (w.alloc (.cells #[x] T (0, 0))).cell? (ad.add j) = some u := by
  subst hg
  rintro ad ⟨⟩ j u hu
  rw [add0, at_cell (at_new w _)]
  simpa using hu
theorem below_drew {B : Nat} {a w : World} (h : Below B a w) {q : Nat} : Below B a (w.drewN q) := ⟨h.os, h.tape, h.output, h.size, h.block⟩

/-! ### rows of texts -/
def str (l : List UInt8) : Value := .string ⟨l.toArray⟩
def strs (ts : List (List UInt8)) : List Value := ts.map str
theorem strs_len (ts : List (List UInt8)) : (strs ts).length = ts.length := by simp [strs]
theorem strs_app (ts us : List (List UInt8)) : strs (ts ++ us) = strs ts ++ strs us := by simp [strs]
theorem strs_at {ts : List (List UInt8)} {i : Nat} (h : i < ts.length) : (strs ts)[i]? = some (str ts[i]) := by simp [strs, h]
structure Texts (w : World) (p : Option Addr) (c : Nat) (ts : List (List UInt8)) : Prop where
  row : Row1 w p c (strs ts)
theorem Texts.below {w w' : World} {p : Option Addr} {c : Nat} {ts : List (List UInt8)} (h : Texts w p c ts) (hb : Below w.heap.size w w') : Texts w' p c ts := ⟨h.row.below hb⟩
theorem Texts.cap {w : World} {p : Option Addr} {c : Nat} {ts : List (List UInt8)} (h : Texts w p c ts) : ts.length ≤ c ∧ c ≤ maxLen := ⟨by have := h.row.cap; rwa [strs_len] at this, h.row.max⟩
theorem Texts.cells {w : World} {p : Option Addr} {c : Nat} {ts : List (List UInt8)} (h : Texts w p c ts) : ts = [] ∨ ∃ b o, p = some ⟨b, o, none⟩ ∧ b < w.heap.size ∧ ∀ i (hi : i < ts.length), w.cell? ⟨b, o + i, none⟩ = some (str ts[i]) := by
  rcases h.row.cells with h0 | ⟨b, o, e, hl, k⟩
  · exact .inl (by simpa [strs] using h0)
  · exact .inr ⟨b, o, e, hl, fun i hi => k i _ (strs_at hi)⟩
theorem texts_own {w : World} {B n : Nat} {e : TypeId} {v : Value} {ts : List (List UInt8)} (h : w.ownsRow B e 1 v n (strs ts)) (hn : n = ts.length) : ∃ p c, v = .slice p n c ∧ Texts w p c ts := by
  obtain ⟨p, c, e, hr⟩ := owns_row h (by rw [strs_len]; exact hn)
  exact ⟨p, c, e, ⟨hr⟩⟩
theorem texts_nil (w : World) : Texts w none 0 [] := ⟨⟨Nat.le_refl _, by unfold maxLen; omega, .inl rfl⟩⟩
theorem str_eq (s : ByteArray) : .string s = str s.data.toList := rfl

end Go.Proofs.YtajfdachpdkbcaaGreatDoor.Rw
end

section
namespace Go.Proofs.YtajfdachpdkbcaaGreatDoor.Tree
open Go.RowKit Go.Proofs.YtajfdachpdkbcaaGreatDoor.Own Go.Proofs.YtajfdachpdkbcaaGreatDoor.Rw

theorem own_out {w w' : World} {B e size n : Nat} {v : Value} {xs : List Value} {S : Nat → Prop} (h : w.ownsRow B e size v n xs) (hb : Out S w w') (hS : ∀ k, v.ownBlock = some k → ¬ S k) : w'.ownsRow B e size v n xs := by
  refine ⟨h.1, ?_⟩
  rcases h.2 with h0 | ⟨g, cap, cur, hv, hg, hh, r⟩
  · exact .inl h0
  · exact .inr ⟨g, cap, cur, hv, hg, hb.at_ hh (hS g (by rw [hv]; rfl)), r⟩
theorem out_grown {S : Nat → Prop} {a w w' : World} {row : Option Nat} (h : Out S a w) (hg : w.grownBy w' row) (hr : ∀ k, row = some k → k < a.heap.size → S k) : Out S a w' :=
  h.trans (S' := fun k => row = some k) ⟨hg.os, hg.tape, hg.output, hg.size, fun k hk hn => hg.block k hk fun e => hn e.symm⟩ fun i hi e => hr i e hi
theorem grown_out {w w' : World} {row : Option Nat} (hg : w.grownBy w' row) : Out (fun k => row = some k) w w' := out_grown (Out.refl _ _) hg fun _ h _ => h

section
variable {w : World} {b : Nat} {x0 x1 x2 x3 x4 : Value} {T : TypeId}
theorem row5 (h : w.heap[b]? = some (.cells #[x0, x1, x2, x3, x4] T (0, 0))) :
    (w.cell? ⟨b, 0, none⟩ = some x0 ∧ w.cell? ⟨b, 1, none⟩ = some x1 ∧ w.cell? ⟨b, 2, none⟩ = some x2 ∧ w.cell? ⟨b, 3, none⟩ = some x3 ∧ w.cell? ⟨b, 4, none⟩ = some x4) ∧
    w.frozen? ⟨b, 0, none⟩ = false ∧ w.frozen? ⟨b, 1, none⟩ = false ∧ w.frozen? ⟨b, 2, none⟩ = false ∧ w.frozen? ⟨b, 3, none⟩ = false ∧ w.frozen? ⟨b, 4, none⟩ = false :=
  ⟨⟨at_cell h 0, at_cell h 1, at_cell h 2, at_cell h 3, at_cell h 4⟩, at_frozen h 0, at_frozen h 1, at_frozen h 2, at_frozen h 3, at_frozen h 4⟩
theorem set5_row (h : w.heap[b]? = some (.cells #[x0, x1, x2, x3, x4] T (0, 0))) (y0 y1 y2 y3 y4 : Value) :
    (((((w.setCell ⟨b, 0, none⟩ y0).setCell ⟨b, 1, none⟩ y1).setCell ⟨b, 2, none⟩ y2).setCell ⟨b, 3, none⟩ y3).setCell ⟨b, 4, none⟩ y4).heap[b]? = some (.cells #[y0, y1, y2, y3, y4] T (0, 0)) :=
  at_set (at_set (at_set (at_set (at_set h 0 y0) 1 y1) 2 y2) 3 y3) 4 y4
theorem set5_self (w : World) (b : Nat) (y0 y1 y2 y3 y4 : Value) :
    Out (fun k => k = b) w (((((w.setCell ⟨b, 0, none⟩ y0).setCell ⟨b, 1, none⟩ y1).setCell ⟨b, 2, none⟩ y2).setCell ⟨b, 3, none⟩ y3).setCell ⟨b, 4, none⟩ y4) :=
  (((((Out.refl (fun k => k = b) w).setCell (p := ⟨b, 0, none⟩) (fun _ => rfl) _).setCell (p := ⟨b, 1, none⟩) (fun _ => rfl) _).setCell (p := ⟨b, 2, none⟩) (fun _ => rfl) _).setCell (p := ⟨b, 3, none⟩) (fun _ => rfl) _).setCell (p := ⟨b, 4, none⟩) (fun _ => rfl) _
end

/-- statements, as cells; no row of them lies in a block of X -/
inductive Ls (w : World) (X : Nat → Prop) : List Value → List Nd → Prop
  | nil : Ls w X [] []
  | cons {k : List UInt8} {a : List (List UInt8)} {b : Bool} {l : List Nd} {n : Int} {va vl : Value} {xs cs : List Value} {ns : List Nd}
      (ha : w.ownsRow 0 9 1 va a.length (strs a)) (xa : ∀ k, va.ownBlock = some k → ¬ X k)
      (hl : w.ownsRow 0 57 5 vl l.length xs) (xl : ∀ k, vl.ownBlock = some k → ¬ X k)
      (kids : Ls w X xs l) (rest : Ls w X cs ns) : Ls w X (str k :: va :: .bool b :: vl :: .int .i64 n :: cs) (.mk k a b l n :: ns)
theorem Ls.len {w : World} {X : Nat → Prop} {cs : List Value} {ns : List Nd} (h : Ls w X cs ns) : cs.length = ns.length * 5 := by
  induction h with
  | nil => rfl
  | cons _ _ _ _ _ _ _ ih => simp only [List.length_cons]; omega
theorem Ls.one {w : World} {X : Nat → Prop} {cs : List Value} {ns : List Nd} (h : Ls w X cs ns) : ∀ u ∈ cs, u.oneCell' = true := by
  induction h with
  | nil => intro u hu; cases hu
  | cons ha _ hl _ _ _ _ ih =>
    intro u hu
    rcases List.mem_cons.1 hu with rfl | hu
    · rfl
    rcases List.mem_cons.1 hu with rfl | hu
    · rcases ha.2 with ⟨rfl, _⟩ | ⟨g, cap, cur, rfl, _⟩ <;> rfl
    rcases List.mem_cons.1 hu with rfl | hu
    · rfl
    rcases List.mem_cons.1 hu with rfl | hu
    · rcases hl.2 with ⟨rfl, _⟩ | ⟨g, cap, cur, rfl, _⟩ <;> rfl
    rcases List.mem_cons.1 hu with rfl | hu
    · rfl
    · exact ih u hu
theorem own_lt {w : World} {B e size n : Nat} {v : Value} {xs : List Value} (h : w.ownsRow B e size v n xs) {k : Nat} (hk : v.ownBlock = some k) : B ≤ k ∧ k < w.heap.size := by
  rcases h.2 with ⟨rfl, _⟩ | ⟨g, cap, cur, rfl, hg, hh, _⟩
  · cases hk
  · obtain rfl : g = k := by simpa [Value.ownBlock] using hk
    exact ⟨hg, at_lt hh⟩
theorem Ls.avoid {w : World} {X X' : Nat → Prop} {cs : List Value} {ns : List Nd} (h : Ls w X cs ns) (hX : ∀ k, k < w.heap.size → X' k → X k) : Ls w X' cs ns := by
  induction h with
  | nil => exact .nil
  | cons ha xa hl xl _ _ ih1 ih2 => exact .cons ha (fun k e hk => xa k e (hX k (own_lt ha e).2 hk)) hl (fun k e hk => xl k e (hX k (own_lt hl e).2 hk)) ih1 ih2
theorem Ls.out {w w' : World} {X S : Nat → Prop} {cs : List Value} {ns : List Nd} (h : Ls w X cs ns) (hb : Out S w w') (hS : ∀ k, S k → X k) : Ls w' X cs ns := by
  induction h with
  | nil => exact .nil
  | cons ha xa hl xl _ _ ih1 ih2 => exact .cons (own_out ha hb fun k e hk => xa k e (hS k hk)) xa (own_out hl hb fun k e hk => xl k e (hS k hk)) xl ih1 ih2
theorem Ls.kept {w w' : World} {X : Nat → Prop} {cs : List Value} {ns : List Nd} (h : Ls w X cs ns) (hb : Below w.heap.size w w') : Ls w' X cs ns := by
  induction h with
  | nil => exact .nil
  | cons ha xa hl xl _ _ ih1 ih2 => exact .cons (own_below ha hb) xa (own_below hl hb) xl ih1 ih2
theorem Ls.app {w : World} {X : Nat → Prop} {cs ds : List Value} {ns ms : List Nd} (h : Ls w X cs ns) (h' : Ls w X ds ms) : Ls w X (cs ++ ds) (ns ++ ms) := by
  induction h with
  | nil => exact h'
  | cons ha xa hl xl hk _ _ ih2 => exact .cons ha xa hl xl hk ih2
/-- the i-th statement -/
theorem Ls.at_ {w : World} {X : Nat → Prop} {cs : List Value} {ns : List Nd} (h : Ls w X cs ns) : ∀ {i : Nat} (hi : i < ns.length),
    ∃ va vl xs, cs[i * 5]? = some (str ns[i].key) ∧ cs[i * 5 + 1]? = some va ∧ cs[i * 5 + 2]? = some (.bool ns[i].block) ∧ cs[i * 5 + 3]? = some vl ∧ cs[i * 5 + 4]? = some (.int .i64 ns[i].line)
      ∧ w.ownsRow 0 9 1 va ns[i].args.length (strs ns[i].args) ∧ w.ownsRow 0 57 5 vl ns[i].list.length xs ∧ Ls w X xs ns[i].list := by
  induction h with
  | nil => intro i hi; simp at hi
  | @cons k a b l n va vl xs cs ns ha xa hl xl hk hr _ ih =>
    intro i hi
    cases i with
    | zero => exact ⟨va, vl, xs, rfl, rfl, rfl, rfl, rfl, ha, hl, hk⟩
    | succ i =>
      obtain ⟨va, vl, xs, e0, e1, e2, e3, e4, r⟩ := ih (i := i) (by simpa using hi)
      rw [Nat.add_mul]
      exact ⟨va, vl, xs, e0, e1, e2, e3, e4, r⟩

/-- a slice that holds statements, all of it in blocks from B on -/
def Fo (B : Nat) (w : World) (v : Value) (ns : List Nd) : Prop := ∃ xs, w.ownsRow B 57 5 v ns.length xs ∧ Ls w (fun k => k < B ∨ v.ownBlock = some k) xs ns
theorem Fo.nil (B : Nat) (w : World) : Fo B w (.slice none 0 0) [] := ⟨[], World.ownsRow_nil _ _ _ _, .nil⟩
theorem Fo.below {B : Nat} {w w' : World} {v : Value} {ns : List Nd} (h : Fo B w v ns) (hb : Below w.heap.size w w') : Fo B w' v ns := by
  obtain ⟨xs, h1, h2⟩ := h
  exact ⟨xs, own_below h1 hb, h2.kept hb⟩
theorem Fo.out {B : Nat} {w w' : World} {v : Value} {ns : List Nd} {S : Nat → Prop} (h : Fo B w v ns) (hb : Out S w w') (hS : ∀ k, S k → k < B) : Fo B w' v ns := by
  obtain ⟨xs, h1, h2⟩ := h
  exact ⟨xs, own_out h1 hb fun k e hk => by have := (own_lt h1 e).1; have := hS k hk; omega, h2.out hb fun k hk => .inl (hS k hk)⟩
theorem Fo.base {B B' : Nat} {w : World} {v : Value} {ns : List Nd} (h : Fo B w v ns) (hB : B' ≤ B) : Fo B' w v ns := by
  obtain ⟨xs, h1, h2⟩ := h
  exact ⟨xs, own_base h1 hB, h2.avoid fun k _ hk => hk.imp (fun h => by omega) id⟩
theorem Fo.shape {B : Nat} {w : World} {v : Value} {ns : List Nd} (h : Fo B w v ns) : ∃ p c, v = .slice p ns.length c := by
  obtain ⟨xs, h1, _⟩ := h
  rcases h1.2 with ⟨rfl, h0⟩ | ⟨g, cap, cur, rfl, _⟩
  · exact ⟨none, 0, by rw [show ns.length = 0 from h0]⟩
  · exact ⟨_, _, rfl⟩
/-- a statement's cells, all it holds in blocks from B on -/
def No (B : Nat) (w : World) (cs : List Value) (n : Nd) : Prop := Ls w (fun k => k < B) cs [n]
theorem No.mk {B : Nat} {w : World} {k : List UInt8} {a : List (List UInt8)} {b : Bool} {l : List Nd} {n : Int} {va vl : Value}
    (ha : w.ownsRow B 9 1 va a.length (strs a)) (hl : Fo B w vl l) : No B w [str k, va, .bool b, vl, .int .i64 n] (.mk k a b l n) := by
  obtain ⟨xs, h1, h2⟩ := hl
  exact .cons (own_base ha (Nat.zero_le _)) (fun k e hk => by have := (own_lt ha e).1; omega) (own_base h1 (Nat.zero_le _)) (fun k e hk => by have := (own_lt h1 e).1; omega) (h2.avoid fun k _ hk => .inl hk) .nil
theorem No.shape {B : Nat} {w : World} {cs : List Value} {n : Nd} (h : No B w cs n) : ∃ va vl, cs = [str n.key, va, .bool n.block, vl, .int .i64 n.line] := by
  cases h with
  | cons ha xa hl xl hk hr => cases hr; exact ⟨_, _, rfl⟩
theorem No.below {B : Nat} {w w' : World} {cs : List Value} {n : Nd} (h : No B w cs n) (hb : Below w.heap.size w w') : No B w' cs n := Ls.kept h hb
/-- one statement more, that was made behind the slice -/
theorem Fo.snoc {B C : Nat} {w w' : World} {v v' : Value} {ns : List Nd} {n : Nd} {cs xs : List Value} (h2 : Ls w (fun k => k < B ∨ v.ownBlock = some k) xs ns) (hn : No C w cs n) (hC : B ≤ C) (hv : ∀ k, v.ownBlock = some k → k < C)
    (ho : w'.ownsRow B 57 5 v' (ns.length + 1) (xs ++ cs)) (hg : w.grownBy w' v.ownBlock) (hb : v'.ownBlock = v.ownBlock ∨ v'.ownBlock = some w.heap.size) : Fo B w' v' (ns ++ [n]) := by
  have ho' := ho
  refine ⟨xs ++ cs, by rw [List.length_append, List.length_singleton]; exact ho, ?_⟩
  have L : Ls w (fun k => k < B ∨ v.ownBlock = some k) (xs ++ cs) (ns ++ [n]) := h2.app (Ls.avoid hn fun k _ hk => by
    rcases hk with hk | hk
    · show k < C; omega
    · exact hv k hk)
  have L2 : Ls w (fun k => (k < B ∨ v.ownBlock = some k) ∨ v'.ownBlock = some k) (xs ++ cs) (ns ++ [n]) := L.avoid fun k hlt hk => by
    rcases hk with hk | hk
    · exact hk
    · rcases hb with hb | hb
      · exact .inr (hb ▸ hk)
      · rw [hb] at hk; obtain rfl := Option.some.inj hk; omega
  exact (L2.out (grown_out hg) fun k hk => .inl (.inr hk)).avoid fun k _ hk => hk.imp .inl id
end Go.Proofs.YtajfdachpdkbcaaGreatDoor.Tree
end

section
namespace Go.Proofs.YtajfdachpdkbcaaGreatDoor.Tree
open Go.RowKit Go.Proofs.YtajfdachpdkbcaaGreatDoor.Own Go.Proofs.YtajfdachpdkbcaaGreatDoor.Rw

def intOf : Value → Int
  | .int _ n => n
  | _ => 0
/-- a slice that holds statements -/
def Sl (w : World) (v : Value) (ns : List Nd) : Prop := ∃ xs, w.ownsRow 0 57 5 v ns.length xs ∧ Ls w (fun _ => False) xs ns
theorem Fo.sl {B : Nat} {w : World} {v : Value} {ns : List Nd} (h : Fo B w v ns) : Sl w v ns := by
  obtain ⟨xs, h1, h2⟩ := h
  exact ⟨xs, own_base h1 (Nat.zero_le _), h2.avoid fun _ _ h => h.elim⟩
theorem Sl.below {w w' : World} {v : Value} {ns : List Nd} (h : Sl w v ns) (hb : Below w.heap.size w w') : Sl w' v ns := by
  obtain ⟨xs, h1, h2⟩ := h
  exact ⟨xs, own_below h1 hb, h2.kept hb⟩
theorem own_slice {w : World} {B e n size : Nat} {v : Value} {xs : List Value} (h : w.ownsRow B e size v n xs) : ∃ p c, v = .slice p n c ∧ n ≤ c ∧ c ≤ maxLen := by
  rcases h.2 with ⟨rfl, h0⟩ | ⟨g, cap, cur, rfl, _, _, h3, h4, _⟩
  · exact ⟨none, 0, by rw [show n = 0 from h0], by rw [show n = 0 from h0]; exact Nat.le_refl _, by unfold maxLen; omega⟩
  · exact ⟨_, _, rfl, h3, h4⟩
theorem Sl.slice {w : World} {v : Value} {ns : List Nd} (h : Sl w v ns) : ∃ p c, v = .slice p ns.length c ∧ ns.length ≤ c ∧ c ≤ maxLen := by
  obtain ⟨xs, h1, _⟩ := h
  exact own_slice h1
theorem Sl.at_ {w : World} {p : Option Addr} {n c : Nat} {ns : List Nd} (h : Sl w (.slice p n c) ns) {i : Nat} (hi : i < ns.length) : ∃ g pa ca pl cl, p = some ⟨g, 0, none⟩ ∧ g < w.heap.size ∧
    (w.cell? ⟨g, i * 5, none⟩ = some (.string ⟨ns[i].key.toArray⟩) ∧ w.cell? ⟨g, i * 5 + 1, none⟩ = some (.slice pa ns[i].args.length ca) ∧ w.cell? ⟨g, i * 5 + 2, none⟩ = some (.bool ns[i].block) ∧ w.cell? ⟨g, i * 5 + 3, none⟩ = some (.slice pl ns[i].list.length cl) ∧ w.cell? ⟨g, i * 5 + 4, none⟩ = some (.int .i64 ns[i].line)) ∧
    w.ownsRow 0 9 1 (.slice pa ns[i].args.length ca) ns[i].args.length (strs ns[i].args) ∧ Sl w (.slice pl ns[i].list.length cl) ns[i].list := by
  obtain ⟨xs, h1, h2⟩ := h
  obtain ⟨va, vl, ys, e0, e1, e2, e3, e4, ha, hl, hk⟩ := h2.at_ hi
  obtain ⟨pa, ca, rfl, -⟩ := own_slice ha
  obtain ⟨pl, cl, rfl, -⟩ := own_slice hl
  have hc := @World.ownsRow.cells _ _ _ _ _ _ _ h1
  rcases h1.2 with ⟨_, h0⟩ | ⟨g, cap, cur, hv, _, hh, _⟩
  · rw [h0] at hi; omega
  · injection hv with hp _ _
    subst hp
    have cc : ∀ {j : Nat} {x : Value}, xs[j]? = some x → w.cell? ⟨g, j, none⟩ = some x := by
      intro j x hx
      have := hc (g := g) rfl j x hx
      rwa [add0] at this
    exact ⟨g, pa, ca, pl, cl, rfl, at_lt hh, ⟨cc e0, cc e1, cc e2, cc e3, cc e4⟩, ha, ys, hl, hk⟩
theorem list_lt (x : Nd) : SizeOf.sizeOf x.list < SizeOf.sizeOf x := by
  cases x
  simp only [Nd.list, Nd.mk.sizeOf_spec]
  omega
theorem list_lt_at {l : List Nd} {i : Nat} (h : i < l.length) : SizeOf.sizeOf l[i].list < SizeOf.sizeOf l := Nat.lt_trans (list_lt _) (List.sizeOf_lt_of_mem (List.getElem_mem h))

/-! ### slices of texts -/
theorem text_at {w : World} {e : TypeId} {p : Option Addr} {n c : Nat} {ts : List (List UInt8)} (h : w.ownsRow 0 e 1 (.slice p n c) n (strs ts)) {i : Nat} (hi : i < ts.length) : ∃ g, p = some ⟨g, 0, none⟩ ∧ g < w.heap.size ∧ w.cell? ⟨g, i, none⟩ = some (.string ⟨ts[i].toArray⟩) := by
  have hc := @World.ownsRow.cells _ _ _ _ _ _ _ h
  have hl := h.1
  rw [strs_len] at hl
  rcases h.2 with ⟨_, h0⟩ | ⟨g, cap, cur, hv, _, hh, _⟩
  · omega
  · injection hv with hp _ _
    subst hp
    have := hc (g := g) rfl i _ (strs_at hi)
    rw [add0] at this
    exact ⟨g, rfl, at_lt hh, this⟩
theorem ba_eq (a b : List UInt8) : ((⟨a.toArray⟩ : ByteArray).toList == (⟨b.toArray⟩ : ByteArray).toList) = (a == b) := by rw [ByteArray.toList_eq, ByteArray.toList_eq]

set_option maxRecDepth 100000 in
set_option maxHeartbeats 4000000 in
theorem equal_calls (ts us : List (List UInt8)) (p q : Option Addr) (n m c d : Nat) (hn : n = ts.length) (hm : m = us.length) (w : World) (h1 : w.ownsRow 0 9 1 (.slice p n c) n (strs ts)) (h2 : w.ownsRow 0 9 1 (.slice q m d) m (strs us)) :
    Calls Tryz.prog 56 #[.slice p n c, .slice q m d] w fun e w' => e = .returned (.bool (ts == us)) ∧ Below w.heap.size w w' := by
  have H1 := Lib.hid h1
  have H2 := Lib.hid h2
  obtain ⟨_, _, hv, hc1, hm1⟩ := own_slice h1
  obtain ⟨_, _, hv', hc2, hm2⟩ := own_slice h2
  injection hv with e1 _ e2
  injection hv' with e3 _ e4
  subst e1 e2 e3 e4
  unfold maxLen at hm1 hm2
  clear h1 h2
  by_cases hnm : n = m
  · have b1 : ((n : Int) != (m : Int)) = false := by simp [hnm]
    have b2 : (m : Int) = (n : Int) := by omega
    have HNM := Lib.hid hnm
    have HN := Lib.hid hn
    have HM := Lib.hid hm
    clear hnm hn hm b2
    go_enter Tryz.func56, Tryz.ntmps56
    go_wp2_with fail
    go_loopw [13] (fun i wr => ∃ k j : Nat, k ≤ n ∧ i = .int .i64 k ∧ wr = w.drewN j ∧ (ts.drop k == us.drop k) = (ts == us)) (fun i _ => n - (intOf i).toNat)
    case atStart => exact ⟨0, 0, by omega, rfl, rfl, rfl⟩
    case round =>
      obtain ⟨k, j, hk, rfl, rfl, hd⟩ := hrel
      rcases Nat.lt_or_eq_of_le hk with hlt | rfl
      · have hl1 : k < ts.length := by rw [← HN.out]; exact hlt
        have hl2 : k < us.length := by rw [← HM.out, ← HNM.out]; exact hlt
        obtain ⟨g, rfl, hg, c1⟩ := text_at H1.out hl1
        obtain ⟨g', rfl, hg', c2⟩ := text_at H2.out hl2
        have q1 : (k : Int) < (n : Int) := by omega
        have q2 : (k : Int) < (m : Int) := by have := HNM.out; omega
        have q3 : k < m := by have := HNM.out; omega
        rw [List.drop_eq_getElem_cons hl1, List.drop_eq_getElem_cons hl2] at hd
        have HD := Lib.hid hd
        generalize ts[k] = x at *
        generalize us[k] = y at *
        clear hd hl1 hl2
        by_cases hxy : x = y
        · have b3 : (x == y) = true := by simp [hxy]
          have HXY := Lib.hid hxy
          clear hxy
          go_wp2_with fail
          go_quiet (fail)
          go_wp2_with fail
          go_roundw
          case rel => exact ⟨k + 1, _, by omega, by go_num, rfl, by rw [← HD.out, HXY.out]; simp⟩
          case measure => simp [intOf]; omega
        · have b3 : (x == y) = false := by simp [hxy]
          have HXY := Lib.hid (show (ts == us) = false by rw [← HD.out]; simp [hxy])
          clear hxy
          go_wp2_with fail
          go_quiet (fail)
          go_wp2_with fail
          go_ret
          exact ⟨by rw [HXY.out]; rfl, below_drew (below_drew (Below.refl _ _))⟩
      · have HT := Lib.hid (show (ts == us) = true by
          rw [← hd, List.drop_eq_nil_of_le (by have := HN.out; omega), List.drop_eq_nil_of_le (by have := HM.out; have := HNM.out; omega)]; rfl)
        go_wp2_with fail
        go_ret
        exact ⟨by rw [HT.out]; rfl, below_drew (Below.refl _ _)⟩
  · have b1 : ((n : Int) != (m : Int)) = true := by simp; omega
    have HT := Lib.hid (show (ts == us) = false by
      cases e : ts == us with
      | false => rfl
      | true => exact absurd (by rw [hn, hm, eq_of_beq e]) hnm)
    go_enter Tryz.func56, Tryz.ntmps56
    go_wp2_with fail
    go_ret
    exact ⟨by rw [HT.out]; rfl, Below.refl _ _⟩

/-! ### statements -/
/-- a statement's cells as a value -/
def ndv (x : Nd) (pa : Option Addr) (ca : Nat) (pl : Option Addr) (cl : Nat) : Value := .agg #[.string ⟨x.key.toArray⟩, .slice pa x.args.length ca, .bool x.block, .slice pl x.list.length cl, .int .i64 x.line]
theorem same_open (x y : Nd) : x.same y = (x.key == y.key && (x.args == y.args && (x.block == y.block && sameL x.list y.list))) := by
  cases x; cases y; rw [same_mk]; rfl
end Go.Proofs.YtajfdachpdkbcaaGreatDoor.Tree
end

section
namespace Go.Proofs.YtajfdachpdkbcaaGreatDoor.Conf
open Go.RowKit Go.Proofs.YtajfdachpdkbcaaGreatDoor.Own Go.Proofs.YtajfdachpdkbcaaGreatDoor.Rw Go.Proofs.YtajfdachpdkbcaaGreatDoor.Tree

def cnv (x : Cn) : List Value := [str x.name, .int .i64 x.kind, .int .i64 x.lines, .int .i64 x.bytes, .int .i64 x.gens, .int .i64 x.size, .int .i64 x.base, .int .i64 x.cap, .int .i64 x.jit, str x.init]
def cnV (x : Cn) : Value := .agg #[.string ⟨x.name.toArray⟩, .int .i64 x.kind, .int .i64 x.lines, .int .i64 x.bytes, .int .i64 x.gens, .int .i64 x.size, .int .i64 x.base, .int .i64 x.cap, .int .i64 x.jit, .string ⟨x.init.toArray⟩]
def urv (u : Bs × Bs) : List Value := [str u.1, str u.2]
def acv (a : Bs × Bs × Int) : List Value := [str a.1, str a.2.1, .int .i64 a.2.2]

section
variable {α : Type} {f : α → List Value} {k : Nat}
theorem fm_len (hf : ∀ x, (f x).length = k) (L : List α) : (L.flatMap f).length = L.length * k := by
  induction L with
  | nil => simp
  | cons x r ih => rw [List.flatMap_cons, List.length_append, ih, hf, List.length_cons, Nat.succ_mul]; omega
theorem fm_get (hf : ∀ x, (f x).length = k) {L : List α} {i : Nat} (h : i < L.length) (j : Nat) (hj : j < k) : (L.flatMap f)[i * k + j]? = (f L[i])[j]? := by
  induction L generalizing i with
  | nil => simp at h
  | cons x r ih =>
    rw [List.flatMap_cons]
    cases i with
    | zero => rw [List.getElem?_append_left (by rw [hf]; omega)]; simp
    | succ i =>
      rw [List.getElem?_append_right (by rw [hf, Nat.succ_mul]; omega), hf, show (i + 1) * k + j - k = i * k + j by rw [Nat.succ_mul]; omega]
      exact ih (by simpa using h)
theorem fm_app (L M : List α) : (L ++ M).flatMap f = L.flatMap f ++ M.flatMap f := by simp
theorem fm_one (x : α) : [x].flatMap f = f x := by simp
end
theorem cnv_len (x : Cn) : (cnv x).length = 10 := rfl
theorem urv_len (x : Bs × Bs) : (urv x).length = 2 := rfl
theorem acv_len (x : Bs × Bs × Int) : (acv x).length = 3 := rfl

/-- a slice of rows of k cells, to be read -/
structure Rd (w : World) (k : Nat) (p : Option Addr) (c n : Nat) (xs : List Value) : Prop where
  cap : n ≤ c
  max : c ≤ maxLen
  len : xs.length = n * k
  cells : n = 0 ∨ ∃ b o, p = some ⟨b, o, none⟩ ∧ b < w.heap.size ∧ ∀ j x, xs[j]? = some x → w.cell? ⟨b, o + j, none⟩ = some x
theorem Rd.below {w w' : World} {k : Nat} {p : Option Addr} {c n : Nat} {xs : List Value} (h : Rd w k p c n xs) (hb : Below w.heap.size w w') : Rd w' k p c n xs :=
  ⟨h.cap, h.max, h.len, h.cells.imp id fun ⟨b, o, e, hl, g⟩ => ⟨b, o, e, Nat.lt_of_lt_of_le hl hb.size, fun j x hx => (hb.cell (p := ⟨b, o + j, none⟩) hl).trans (g j x hx)⟩⟩
theorem own_rd {w : World} {B k n : Nat} {e : TypeId} {v : Value} {xs : List Value} (h : w.ownsRow B e k v n xs) : ∃ p c, v = .slice p n c ∧ Rd w k p c n xs := by
  have hc := @World.ownsRow.cells _ _ _ _ _ _ _ h
  have hl := h.1
  rcases h.2 with ⟨rfl, h0⟩ | ⟨g, cap, cur, rfl, _, hh, h3, h4, _⟩
  · obtain rfl : n = 0 := h0
    exact ⟨none, 0, rfl, Nat.le_refl _, by unfold maxLen; omega, hl, .inl rfl⟩
  · refine ⟨_, cap, rfl, h3, h4, hl, .inr ⟨g, 0, rfl, at_lt hh, fun j x hx => ?_⟩⟩
    have := hc (g := g) rfl j x hx
    rw [add0] at this
    rw [Nat.zero_add]; exact this

/-- texts that lie in blocks below B -/
structure TxB (B : Nat) (w : World) (p : Option Addr) (c : Nat) (ts : List Bs) : Prop where
  tx : Texts w p c ts
  low : ∀ a, p = some a → a.block < B
  nil : p = none → c = 0
theorem TxB.keep {B : Nat} {w w' : World} {p : Option Addr} {c : Nat} {ts : List Bs} (h : TxB B w p c ts) (hb : Below B w w') : TxB B w' p c ts := by
  refine ⟨⟨h.tx.row.cap, h.tx.row.max, ?_⟩, h.low, h.nil⟩
  rcases h.tx.row.cells with h0 | ⟨b, o, rfl, hl, k⟩
  · exact .inl h0
  · have hlt := h.low _ rfl
    exact .inr ⟨b, o, rfl, Nat.lt_of_lt_of_le hl hb.size, fun i x hx => (World.cell?_of_block (a := ⟨b, o + i, none⟩) (hb.block b hlt)).trans (k i x hx)⟩
theorem TxB.up {B B' : Nat} {w : World} {p : Option Addr} {c : Nat} {ts : List Bs} (h : TxB B w p c ts) (hB : B ≤ B') : TxB B' w p c ts := ⟨h.tx, fun a e => Nat.lt_of_lt_of_le (h.low a e) hB, h.nil⟩
theorem TxB.cells {B : Nat} {w : World} {p : Option Addr} {c : Nat} {ts : List Bs} (h : TxB B w p c ts) (hn : ts ≠ []) : ∃ b o, p = some ⟨b, o, none⟩ ∧ b < B ∧ b < w.heap.size ∧ ∀ i (hi : i < ts.length), w.cell? ⟨b, o + i, none⟩ = some (str ts[i]) := by
  rcases h.tx.cells with h0 | ⟨b, o, rfl, hl, k⟩
  · exact absurd h0 hn
  · exact ⟨b, o, rfl, h.low _ rfl, hl, k⟩
theorem own_txB {B : Nat} {w : World} {p : Option Addr} {n c : Nat} {ts : List Bs} (h : w.ownsRow 0 9 1 (.slice p n c) n (strs ts)) (hn : n = ts.length) (hl : ∀ k, (Value.slice p n c).ownBlock = some k → k < B) : TxB B w p c ts := by
  have h0 : p = none → c = 0 := fun e => by
    subst e
    rcases h.2 with ⟨hv, _⟩ | ⟨g, cap, cur, hv, _⟩
    · injection hv
    · injection hv with e; cases e
  obtain ⟨p', c', e, ht⟩ := texts_own h hn
  injection e with e1 _ e2
  subst e1 e2
  exact ⟨ht, fun a ha => hl a.block (by rw [ha]; rfl), h0⟩

/-- groups as cells, their patterns in blocks below B -/
inductive Gs (B : Nat) (w : World) : List Value → List (Bs × List Bs) → Prop
  | nil : Gs B w [] []
  | cons {nm : Bs} {ps : List Bs} {p : Option Addr} {c : Nat} {cs : List Value} {L : List (Bs × List Bs)} (h : TxB B w p c ps) (r : Gs B w cs L) : Gs B w (str nm :: .slice p ps.length c :: cs) ((nm, ps) :: L)
theorem Gs.keep {B : Nat} {w w' : World} {cs : List Value} {L : List (Bs × List Bs)} (h : Gs B w cs L) (hb : Below B w w') : Gs B w' cs L := by
  induction h with
  | nil => exact .nil
  | cons h _ ih => exact .cons (h.keep hb) ih
theorem Gs.up {B B' : Nat} {w : World} {cs : List Value} {L : List (Bs × List Bs)} (h : Gs B w cs L) (hB : B ≤ B') : Gs B' w cs L := by
  induction h with
  | nil => exact .nil
  | cons h _ ih => exact .cons (h.up hB) ih
theorem Gs.len {B : Nat} {w : World} {cs : List Value} {L : List (Bs × List Bs)} (h : Gs B w cs L) : cs.length = L.length * 2 := by
  induction h with
  | nil => rfl
  | cons _ _ ih => simp only [List.length_cons]; omega
theorem Gs.app {B : Nat} {w : World} {cs ds : List Value} {L M : List (Bs × List Bs)} (h : Gs B w cs L) (g : Gs B w ds M) : Gs B w (cs ++ ds) (L ++ M) := by
  induction h with
  | nil => exact g
  | cons h _ ih => exact .cons h ih
theorem Gs.one {B : Nat} {w : World} {cs : List Value} {L : List (Bs × List Bs)} (h : Gs B w cs L) : ∀ u ∈ cs, u.oneCell' = true := by
  induction h with
  | nil => intro u hu; cases hu
  | cons _ _ ih =>
    intro u hu
    rcases List.mem_cons.1 hu with rfl | hu
    · rfl
    rcases List.mem_cons.1 hu with rfl | hu
    · rfl
    · exact ih u hu
theorem Gs.at_ {B : Nat} {w : World} {cs : List Value} {L : List (Bs × List Bs)} (h : Gs B w cs L) : ∀ {i : Nat} (hi : i < L.length), ∃ p c, cs[i * 2]? = some (str L[i].1) ∧ cs[i * 2 + 1]? = some (.slice p L[i].2.length c) ∧ TxB B w p c L[i].2 := by
  induction h with
  | nil => intro i hi; simp at hi
  | @cons nm ps p c cs L h _ ih =>
    intro i hi
    cases i with
    | zero => exact ⟨p, c, rfl, rfl, h⟩
    | succ i =>
      obtain ⟨p', c', e0, e1, r⟩ := ih (i := i) (by simpa using hi)
      rw [Nat.add_mul]
      exact ⟨p', c', e0, e1, r⟩

/-- a configuration's four slices, to be read -/
structure CfR (w : World) (v0 v1 v2 v3 : Value) (c : Cf) : Prop where
  cons : ∃ p k, v0 = .slice p c.cons.length k ∧ Rd w 10 p k c.cons.length (c.cons.flatMap cnv)
  grps : ∃ p k gs, v1 = .slice p c.grps.length k ∧ Rd w 2 p k c.grps.length gs ∧ Gs w.heap.size w gs c.grps
  usrs : ∃ p k, v2 = .slice p c.usrs.length k ∧ Rd w 2 p k c.usrs.length (c.usrs.flatMap urv)
  accs : ∃ p k, v3 = .slice p c.accs.length k ∧ Rd w 3 p k c.accs.length (c.accs.flatMap acv)
theorem CfR.below {w w' : World} {v0 v1 v2 v3 : Value} {c : Cf} (h : CfR w v0 v1 v2 v3 c) (hb : Below w.heap.size w w') : CfR w' v0 v1 v2 v3 c := by
  obtain ⟨p1, k1, e1, r1⟩ := h.cons
  obtain ⟨p2, k2, gs, e2, r2, g2⟩ := h.grps
  obtain ⟨p3, k3, e3, r3⟩ := h.usrs
  obtain ⟨p4, k4, e4, r4⟩ := h.accs
  exact ⟨⟨p1, k1, e1, r1.below hb⟩, ⟨p2, k2, gs, e2, r2.below hb, (g2.keep hb).up hb.size⟩, ⟨p3, k3, e3, r3.below hb⟩, ⟨p4, k4, e4, r4.below hb⟩⟩
/-- and as rows of the call's own, the patterns in blocks below B -/
structure CfO (B : Nat) (w : World) (v0 v1 v2 v3 : Value) (c : Cf) : Prop where
  cons : w.ownsRow B 42 10 v0 c.cons.length (c.cons.flatMap cnv)
  grps : ∃ gs, w.ownsRow B 65 2 v1 c.grps.length gs ∧ Gs B w gs c.grps
  usrs : w.ownsRow B 67 2 v2 c.usrs.length (c.usrs.flatMap urv)
  accs : w.ownsRow B 46 3 v3 c.accs.length (c.accs.flatMap acv)
theorem CfO.read {B : Nat} {w : World} {v0 v1 v2 v3 : Value} {c : Cf} (h : CfO B w v0 v1 v2 v3 c) (hB : B ≤ w.heap.size) : CfR w v0 v1 v2 v3 c := by
  obtain ⟨p1, k1, e1, r1⟩ := own_rd h.cons
  obtain ⟨gs, o2, g2⟩ := h.grps
  obtain ⟨p2, k2, e2, r2⟩ := own_rd o2
  obtain ⟨p3, k3, e3, r3⟩ := own_rd h.usrs
  obtain ⟨p4, k4, e4, r4⟩ := own_rd h.accs
  exact ⟨⟨p1, k1, e1, r1⟩, ⟨p2, k2, gs, e2, r2, g2.up hB⟩, ⟨p3, k3, e3, r3⟩, ⟨p4, k4, e4, r4⟩⟩
/-- a row of one type lies in no block of another -/
theorem own_type {w : World} {B size n b : Nat} {e T : TypeId} {v : Value} {xs : List Value} {C : Array Value} {fr : Nat × Nat} (h : w.ownsRow B e size v n xs) (hb : w.heap[b]? = some (.cells C T fr)) (hT : e ≠ T) : v.ownBlock ≠ some b := by
  intro hk
  rcases h.2 with ⟨rfl, _⟩ | ⟨g, cap, cur, rfl, _, hh, _⟩
  · cases hk
  · obtain rfl : g = b := by simpa [Value.ownBlock] using hk
    rw [hb] at hh
    simp at hh
    exact hT hh.2.1.symm
theorem own_other {w : World} {B B' s s' n n' : Nat} {e e' : TypeId} {v v' : Value} {xs xs' : List Value} (h : w.ownsRow B e s v n xs) (h' : w.ownsRow B' e' s' v' n' xs') (hT : e ≠ e') {k : Nat} (hk : v.ownBlock = some k) (hk' : v'.ownBlock = some k) : False := by
  rcases h'.2 with ⟨rfl, _⟩ | ⟨g, cap, cur, rfl, _, hh, _⟩
  · cases hk'
  · obtain rfl : g = k := by simpa [Value.ownBlock] using hk'
    exact own_type h hh hT hk
theorem own_map {w : World} {B size n b : Nat} {e : TypeId} {v : Value} {xs : List Value} {es : Array MapEntry} {c : Nat} (h : w.ownsRow B e size v n xs) (hb : w.heap[b]? = some (.map es c)) : v.ownBlock ≠ some b := by
  intro hk
  rcases h.2 with ⟨rfl, _⟩ | ⟨g, cap, cur, rfl, _, hh, _⟩
  · cases hk
  · obtain rfl : g = b := by simpa [Value.ownBlock] using hk
    rw [hb] at hh; cases hh
theorem CfO.out {B : Nat} {S : Nat → Prop} {w w' : World} {v0 v1 v2 v3 : Value} {c : Cf} (h : CfO B w v0 v1 v2 v3 c) (ho : Out S w w') (hB : ∀ k, S k → B ≤ k) (hz : B ≤ w.heap.size)
    (h0 : ∀ k, v0.ownBlock = some k → ¬ S k) (h1 : ∀ k, v1.ownBlock = some k → ¬ S k) (h2 : ∀ k, v2.ownBlock = some k → ¬ S k) (h3 : ∀ k, v3.ownBlock = some k → ¬ S k) : CfO B w' v0 v1 v2 v3 c := by
  obtain ⟨gs, o2, g2⟩ := h.grps
  exact ⟨own_out h.cons ho h0, ⟨gs, own_out o2 ho h1, g2.keep (ho.below hz hB)⟩, own_out h.usrs ho h2, own_out h.accs ho h3⟩

/-! ### statements in blocks below B -/
def Nl (B : Nat) (w : World) (v : Value) (ns : List Nd) : Prop := ∃ xs, w.ownsRow 0 57 5 v ns.length xs ∧ (∀ k, v.ownBlock = some k → k < B) ∧ Ls w (fun k => B ≤ k) xs ns
theorem out_up {B : Nat} {w w' : World} (hb : Below B w w') : Out (fun k => B ≤ k) w w' := Out.ofBelow hb fun k _ hk => by omega
theorem Nl.keep {B : Nat} {w w' : World} {v : Value} {ns : List Nd} (h : Nl B w v ns) (hb : Below B w w') : Nl B w' v ns := by
  obtain ⟨xs, h1, h2, h3⟩ := h
  exact ⟨xs, own_out h1 (out_up hb) fun k e hk => by have := h2 k e; omega, h2, h3.out (out_up hb) fun k hk => hk⟩
theorem fo_nl {B : Nat} {w : World} {v : Value} {ns : List Nd} (h : Fo B w v ns) : Nl w.heap.size w v ns := by
  obtain ⟨xs, h1, h2⟩ := h
  exact ⟨xs, own_base h1 (Nat.zero_le _), fun k e => (own_lt h1 e).2, h2.avoid fun k hk h => by have h : w.heap.size ≤ k := h; omega⟩
theorem Nl.shape {B : Nat} {w : World} {v : Value} {ns : List Nd} (h : Nl B w v ns) : ∃ p c, v = .slice p ns.length c ∧ ns.length ≤ c ∧ c ≤ maxLen := by
  obtain ⟨xs, h1, _⟩ := h
  exact own_slice h1
/-- what a statement's cells point at -/
structure NdB (B : Nat) (w : World) (x : Nd) (pa : Option Addr) (ca : Nat) (pl : Option Addr) (cl : Nat) : Prop where
  args : TxB B w pa ca x.args
  list : Nl B w (.slice pl x.list.length cl) x.list
theorem NdB.keep {B : Nat} {w w' : World} {x : Nd} {pa pl : Option Addr} {ca cl : Nat} (h : NdB B w x pa ca pl cl) (hb : Below B w w') : NdB B w' x pa ca pl cl := ⟨h.args.keep hb, h.list.keep hb⟩
theorem ls_low {w : World} {X : Nat → Prop} {cs : List Value} {ns : List Nd} (h : Ls w X cs ns) : ∀ {i : Nat} (hi : i < ns.length),
    ∃ va vl xs, cs[i * 5]? = some (str ns[i].key) ∧ cs[i * 5 + 1]? = some va ∧ cs[i * 5 + 2]? = some (.bool ns[i].block) ∧ cs[i * 5 + 3]? = some vl ∧ cs[i * 5 + 4]? = some (.int .i64 ns[i].line)
      ∧ w.ownsRow 0 9 1 va ns[i].args.length (strs ns[i].args) ∧ (∀ k, va.ownBlock = some k → ¬ X k) ∧ w.ownsRow 0 57 5 vl ns[i].list.length xs ∧ (∀ k, vl.ownBlock = some k → ¬ X k) ∧ Ls w X xs ns[i].list := by
  induction h with
  | nil => intro i hi; simp at hi
  | @cons k a b l n va vl xs cs ns ha xa hl xl hk hr _ ih =>
    intro i hi
    cases i with
    | zero => exact ⟨va, vl, xs, rfl, rfl, rfl, rfl, rfl, ha, xa, hl, xl, hk⟩
    | succ i =>
      obtain ⟨va, vl, xs, e0, e1, e2, e3, e4, r⟩ := ih (i := i) (by simpa using hi)
      rw [Nat.add_mul]
      exact ⟨va, vl, xs, e0, e1, e2, e3, e4, r⟩
theorem Nl.at_ {B : Nat} {w : World} {p : Option Addr} {n c : Nat} {ns : List Nd} (h : Nl B w (.slice p n c) ns) {i : Nat} (hi : i < ns.length) : ∃ g pa ca pl cl, p = some ⟨g, 0, none⟩ ∧ g < B ∧ g < w.heap.size ∧
    (w.cell? ⟨g, i * 5, none⟩ = some (.string ⟨ns[i].key.toArray⟩) ∧ w.cell? ⟨g, i * 5 + 1, none⟩ = some (.slice pa ns[i].args.length ca) ∧ w.cell? ⟨g, i * 5 + 2, none⟩ = some (.bool ns[i].block) ∧ w.cell? ⟨g, i * 5 + 3, none⟩ = some (.slice pl ns[i].list.length cl) ∧ w.cell? ⟨g, i * 5 + 4, none⟩ = some (.int .i64 ns[i].line)) ∧
    NdB B w ns[i] pa ca pl cl := by
  obtain ⟨xs, h1, hlow, h2⟩ := h
  obtain ⟨va, vl, ys, e0, e1, e2, e3, e4, ha, xa, hl, xl, hk⟩ := ls_low h2 hi
  obtain ⟨pa, ca, rfl, -⟩ := own_slice ha
  obtain ⟨pl, cl, rfl, -⟩ := own_slice hl
  have hc := @World.ownsRow.cells _ _ _ _ _ _ _ h1
  rcases h1.2 with ⟨_, h0⟩ | ⟨g, cap, cur, hv, _, hh, _⟩
  · rw [h0] at hi; omega
  · have hg : g < B := hlow g (by rw [hv]; rfl)
    injection hv with hp _ _
    subst hp
    have cc : ∀ {j : Nat} {x : Value}, xs[j]? = some x → w.cell? ⟨g, j, none⟩ = some x := by
      intro j x hx
      have := hc (g := g) rfl j x hx
      rwa [add0] at this
    exact ⟨g, pa, ca, pl, cl, rfl, hg, at_lt hh, ⟨cc e0, cc e1, cc e2, cc e3, cc e4⟩, ⟨own_txB ha rfl fun k e => by have h : ¬ B ≤ k := xa k e; omega, ys, hl, fun k e => by have h : ¬ B ≤ k := xl k e; omega, hk⟩⟩
end Go.Proofs.YtajfdachpdkbcaaGreatDoor.Conf
end


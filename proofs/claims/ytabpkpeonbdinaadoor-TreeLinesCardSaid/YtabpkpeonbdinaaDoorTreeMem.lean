/-
  Layer 13 (tree): statements in memory.
-/
import Derived.Test.YtabpkpeonbdinaaDoorTreePlain
import Derived.Test.YtabpkpeonbdinaaDoorRow1
import Derived.Maps.AppendAt
namespace Go.Proofs.YtabpkpeonbdinaaDoor.Tree
open Go.RowKit Go.Proofs.YtabpkpeonbdinaaDoor.Own Go.Proofs.YtabpkpeonbdinaaDoor.Rw

theorem own_out {w w' : World} {B e size n : Nat} {v : Value} {xs : List Value} {S : Nat → Prop} (h : w.ownsRow B e size v n xs) (hb : Out S w w') (hS : ∀ k, v.ownBlock = some k → ¬ S k) : w'.ownsRow B e size v n xs := by
  refine ⟨h.1, ?_⟩
  rcases h.2 with h0 | ⟨g, cap, cur, hv, hg, hh, r⟩
  · exact .inl h0
  · exact .inr ⟨g, cap, cur, hv, hg, hb.at_ hh (hS g (by rw [hv]; rfl)), r⟩
theorem out_grown {S : Nat → Prop} {a w w' : World} {row : Option Nat} (h : Out S a w) (hg : w.grownBy w' row) (hr : ∀ k, row = some k → k < a.heap.size → S k) : Out S a w' :=
  h.trans (S' := fun k => row = some k) ⟨hg.os, hg.tape, hg.output, hg.size, fun k hk hn => hg.block k hk fun e => hn e.symm⟩ fun i hi e => hr i e hi
theorem grown_out {w w' : World} {row : Option Nat} (hg : w.grownBy w' row) : Out (fun k => row = some k) w w' := out_grown (Out.refl _ _) hg fun _ h _ => h

section
variable {w : World} {b : Nat} {x0 x1 x2 x3 x4 : Value} {T : TypeId}
theorem row5 (h : w.heap[b]? = some (.cells #[x0, x1, x2, x3, x4] T (0, 0))) :
    (w.cell? ⟨b, 0, none⟩ = some x0 ∧ w.cell? ⟨b, 1, none⟩ = some x1 ∧ w.cell? ⟨b, 2, none⟩ = some x2 ∧ w.cell? ⟨b, 3, none⟩ = some x3 ∧ w.cell? ⟨b, 4, none⟩ = some x4) ∧
    w.frozen? ⟨b, 0, none⟩ = false ∧ w.frozen? ⟨b, 1, none⟩ = false ∧ w.frozen? ⟨b, 2, none⟩ = false ∧ w.frozen? ⟨b, 3, none⟩ = false ∧ w.frozen? ⟨b, 4, none⟩ = false :=
  ⟨⟨at_cell h 0, at_cell h 1, at_cell h 2, at_cell h 3, at_cell h 4⟩, at_frozen h 0, at_frozen h 1, at_frozen h 2, at_frozen h 3, at_frozen h 4⟩
theorem set5_row (h : w.heap[b]? = some (.cells #[x0, x1, x2, x3, x4] T (0, 0))) (y0 y1 y2 y3 y4 : Value) :
    (((((w.setCell ⟨b, 0, none⟩ y0).setCell ⟨b, 1, none⟩ y1).setCell ⟨b, 2, none⟩ y2).setCell ⟨b, 3, none⟩ y3).setCell ⟨b, 4, none⟩ y4).heap[b]? = some (.cells #[y0, y1, y2, y3, y4] T (0, 0)) :=
  at_set (at_set (at_set (at_set (at_set h 0 y0) 1 y1) 2 y2) 3 y3) 4 y4
theorem set5_self (w : World) (b : Nat) (y0 y1 y2 y3 y4 : Value) :
    Out (fun k => k = b) w (((((w.setCell ⟨b, 0, none⟩ y0).setCell ⟨b, 1, none⟩ y1).setCell ⟨b, 2, none⟩ y2).setCell ⟨b, 3, none⟩ y3).setCell ⟨b, 4, none⟩ y4) :=
  (((((Out.refl (fun k => k = b) w).setCell (p := ⟨b, 0, none⟩) (fun _ => rfl) _).setCell (p := ⟨b, 1, none⟩) (fun _ => rfl) _).setCell (p := ⟨b, 2, none⟩) (fun _ => rfl) _).setCell (p := ⟨b, 3, none⟩) (fun _ => rfl) _).setCell (p := ⟨b, 4, none⟩) (fun _ => rfl) _
end

/-- statements, as cells; no row of them lies in a block of X -/
inductive Ls (w : World) (X : Nat → Prop) : List Value → List Nd → Prop
  | nil : Ls w X [] []
  | cons {k : List UInt8} {a : List (List UInt8)} {b : Bool} {l : List Nd} {n : Int} {va vl : Value} {xs cs : List Value} {ns : List Nd}
      (ha : w.ownsRow 0 9 1 va a.length (strs a)) (xa : ∀ k, va.ownBlock = some k → ¬ X k)
      (hl : w.ownsRow 0 35 5 vl l.length xs) (xl : ∀ k, vl.ownBlock = some k → ¬ X k)
      (kids : Ls w X xs l) (rest : Ls w X cs ns) : Ls w X (str k :: va :: .bool b :: vl :: .int .i64 n :: cs) (.mk k a b l n :: ns)
theorem Ls.len {w : World} {X : Nat → Prop} {cs : List Value} {ns : List Nd} (h : Ls w X cs ns) : cs.length = ns.length * 5 := by
  induction h with
  | nil => rfl
  | cons _ _ _ _ _ _ _ ih => simp only [List.length_cons]; omega
theorem Ls.one {w : World} {X : Nat → Prop} {cs : List Value} {ns : List Nd} (h : Ls w X cs ns) : ∀ u ∈ cs, u.oneCell' = true := by
  induction h with
  | nil => intro u hu; cases hu
  | cons ha _ hl _ _ _ _ ih =>
    intro u hu
    rcases List.mem_cons.1 hu with rfl | hu
    · rfl
    rcases List.mem_cons.1 hu with rfl | hu
    · rcases ha.2 with ⟨rfl, _⟩ | ⟨g, cap, cur, rfl, _⟩ <;> rfl
    rcases List.mem_cons.1 hu with rfl | hu
    · rfl
    rcases List.mem_cons.1 hu with rfl | hu
    · rcases hl.2 with ⟨rfl, _⟩ | ⟨g, cap, cur, rfl, _⟩ <;> rfl
    rcases List.mem_cons.1 hu with rfl | hu
    · rfl
    · exact ih u hu
theorem own_lt {w : World} {B e size n : Nat} {v : Value} {xs : List Value} (h : w.ownsRow B e size v n xs) {k : Nat} (hk : v.ownBlock = some k) : B ≤ k ∧ k < w.heap.size := by
  rcases h.2 with ⟨rfl, _⟩ | ⟨g, cap, cur, rfl, hg, hh, _⟩
  · cases hk
  · obtain rfl : g = k := by simpa [Value.ownBlock] using hk
    exact ⟨hg, at_lt hh⟩
theorem Ls.avoid {w : World} {X X' : Nat → Prop} {cs : List Value} {ns : List Nd} (h : Ls w X cs ns) (hX : ∀ k, k < w.heap.size → X' k → X k) : Ls w X' cs ns := by
  induction h with
  | nil => exact .nil
  | cons ha xa hl xl _ _ ih1 ih2 => exact .cons ha (fun k e hk => xa k e (hX k (own_lt ha e).2 hk)) hl (fun k e hk => xl k e (hX k (own_lt hl e).2 hk)) ih1 ih2
theorem Ls.out {w w' : World} {X S : Nat → Prop} {cs : List Value} {ns : List Nd} (h : Ls w X cs ns) (hb : Out S w w') (hS : ∀ k, S k → X k) : Ls w' X cs ns := by
  induction h with
  | nil => exact .nil
  | cons ha xa hl xl _ _ ih1 ih2 => exact .cons (own_out ha hb fun k e hk => xa k e (hS k hk)) xa (own_out hl hb fun k e hk => xl k e (hS k hk)) xl ih1 ih2
theorem Ls.kept {w w' : World} {X : Nat → Prop} {cs : List Value} {ns : List Nd} (h : Ls w X cs ns) (hb : Below w.heap.size w w') : Ls w' X cs ns := by
  induction h with
  | nil => exact .nil
  | cons ha xa hl xl _ _ ih1 ih2 => exact .cons (own_below ha hb) xa (own_below hl hb) xl ih1 ih2
theorem Ls.app {w : World} {X : Nat → Prop} {cs ds : List Value} {ns ms : List Nd} (h : Ls w X cs ns) (h' : Ls w X ds ms) : Ls w X (cs ++ ds) (ns ++ ms) := by
  induction h with
  | nil => exact h'
  | cons ha xa hl xl hk _ _ ih2 => exact .cons ha xa hl xl hk ih2
/-- the i-th statement -/
theorem Ls.at_ {w : World} {X : Nat → Prop} {cs : List Value} {ns : List Nd} (h : Ls w X cs ns) : ∀ {i : Nat} (hi : i < ns.length),
    ∃ va vl xs, cs[i * 5]? = some (str ns[i].key) ∧ cs[i * 5 + 1]? = some va ∧ cs[i * 5 + 2]? = some (.bool ns[i].block) ∧ cs[i * 5 + 3]? = some vl ∧ cs[i * 5 + 4]? = some (.int .i64 ns[i].line)
      ∧ w.ownsRow 0 9 1 va ns[i].args.length (strs ns[i].args) ∧ w.ownsRow 0 35 5 vl ns[i].list.length xs ∧ Ls w X xs ns[i].list := by
  induction h with
  | nil => intro i hi; simp at hi
  | @cons k a b l n va vl xs cs ns ha xa hl xl hk hr _ ih =>
    intro i hi
    cases i with
    | zero => exact ⟨va, vl, xs, rfl, rfl, rfl, rfl, rfl, ha, hl, hk⟩
    | succ i =>
      obtain ⟨va, vl, xs, e0, e1, e2, e3, e4, r⟩ := ih (i := i) (by simpa using hi)
      rw [Nat.add_mul]
      exact ⟨va, vl, xs, e0, e1, e2, e3, e4, r⟩

/-- a slice that holds statements, all of it in blocks from B on -/
def Fo (B : Nat) (w : World) (v : Value) (ns : List Nd) : Prop := ∃ xs, w.ownsRow B 35 5 v ns.length xs ∧ Ls w (fun k => k < B ∨ v.ownBlock = some k) xs ns
theorem Fo.nil (B : Nat) (w : World) : Fo B w (.slice none 0 0) [] := ⟨[], World.ownsRow_nil _ _ _ _, .nil⟩
theorem Fo.below {B : Nat} {w w' : World} {v : Value} {ns : List Nd} (h : Fo B w v ns) (hb : Below w.heap.size w w') : Fo B w' v ns := by
  obtain ⟨xs, h1, h2⟩ := h
  exact ⟨xs, own_below h1 hb, h2.kept hb⟩
theorem Fo.out {B : Nat} {w w' : World} {v : Value} {ns : List Nd} {S : Nat → Prop} (h : Fo B w v ns) (hb : Out S w w') (hS : ∀ k, S k → k < B) : Fo B w' v ns := by
  obtain ⟨xs, h1, h2⟩ := h
  exact ⟨xs, own_out h1 hb fun k e hk => by have := (own_lt h1 e).1; have := hS k hk; omega, h2.out hb fun k hk => .inl (hS k hk)⟩
theorem Fo.base {B B' : Nat} {w : World} {v : Value} {ns : List Nd} (h : Fo B w v ns) (hB : B' ≤ B) : Fo B' w v ns := by
  obtain ⟨xs, h1, h2⟩ := h
  exact ⟨xs, own_base h1 hB, h2.avoid fun k _ hk => hk.imp (fun h => by omega) id⟩
theorem Fo.shape {B : Nat} {w : World} {v : Value} {ns : List Nd} (h : Fo B w v ns) : ∃ p c, v = .slice p ns.length c := by
  obtain ⟨xs, h1, _⟩ := h
  rcases h1.2 with ⟨rfl, h0⟩ | ⟨g, cap, cur, rfl, _⟩
  · exact ⟨none, 0, by rw [show ns.length = 0 from h0]⟩
  · exact ⟨_, _, rfl⟩
/-- a statement's cells, all it holds in blocks from B on -/
def No (B : Nat) (w : World) (cs : List Value) (n : Nd) : Prop := Ls w (fun k => k < B) cs [n]
theorem No.mk {B : Nat} {w : World} {k : List UInt8} {a : List (List UInt8)} {b : Bool} {l : List Nd} {n : Int} {va vl : Value}
    (ha : w.ownsRow B 9 1 va a.length (strs a)) (hl : Fo B w vl l) : No B w [str k, va, .bool b, vl, .int .i64 n] (.mk k a b l n) := by
  obtain ⟨xs, h1, h2⟩ := hl
  exact .cons (own_base ha (Nat.zero_le _)) (fun k e hk => by have := (own_lt ha e).1; omega) (own_base h1 (Nat.zero_le _)) (fun k e hk => by have := (own_lt h1 e).1; omega) (h2.avoid fun k _ hk => .inl hk) .nil
theorem No.shape {B : Nat} {w : World} {cs : List Value} {n : Nd} (h : No B w cs n) : ∃ va vl, cs = [str n.key, va, .bool n.block, vl, .int .i64 n.line] := by
  cases h with
  | cons ha xa hl xl hk hr => cases hr; exact ⟨_, _, rfl⟩
theorem No.below {B : Nat} {w w' : World} {cs : List Value} {n : Nd} (h : No B w cs n) (hb : Below w.heap.size w w') : No B w' cs n := Ls.kept h hb
/-- one statement more, that was made behind the slice -/
theorem Fo.snoc {B C : Nat} {w w' : World} {v v' : Value} {ns : List Nd} {n : Nd} {cs xs : List Value} (h2 : Ls w (fun k => k < B ∨ v.ownBlock = some k) xs ns) (hn : No C w cs n) (hC : B ≤ C) (hv : ∀ k, v.ownBlock = some k → k < C)
    (ho : w'.ownsRow B 35 5 v' (ns.length + 1) (xs ++ cs)) (hg : w.grownBy w' v.ownBlock) (hb : v'.ownBlock = v.ownBlock ∨ v'.ownBlock = some w.heap.size) : Fo B w' v' (ns ++ [n]) := by
  have ho' := ho
  refine ⟨xs ++ cs, by rw [List.length_append, List.length_singleton]; exact ho, ?_⟩
  have L : Ls w (fun k => k < B ∨ v.ownBlock = some k) (xs ++ cs) (ns ++ [n]) := h2.app (Ls.avoid hn fun k _ hk => by
    rcases hk with hk | hk
    · show k < C; omega
    · exact hv k hk)
  have L2 : Ls w (fun k => (k < B ∨ v.ownBlock = some k) ∨ v'.ownBlock = some k) (xs ++ cs) (ns ++ [n]) := L.avoid fun k hlt hk => by
    rcases hk with hk | hk
    · exact hk
    · rcases hb with hb | hb
      · exact .inr (hb ▸ hk)
      · rw [hb] at hk; obtain rfl := Option.some.inj hk; omega
  exact (L2.out (grown_out hg) fun k hk => .inl (.inr hk)).avoid fun k _ hk => hk.imp .inl id
end Go.Proofs.YtabpkpeonbdinaaDoor.Tree

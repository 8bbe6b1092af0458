/-
Layer 15 (conf): structs compared.
A region that draws its order: what each operation yields is told once, whatever the order.
A region that draws its order, and writes: what each operation yields is told once, whatever the order.
A region that draws its order and changes nothing: each operation's value told once.
Layer 15 (conf): the words of kinds and levels, wordAt, plain.
Layer 15 (conf): slices.Equal over api.Console.
Layer 15 (conf): slices.Equal over api.User.
Layer 15 (conf): slices.Equal over api.Access.
Layer 15 (conf): slices.Equal over string.
Layer 2 (digit): the document's own answers, walked: digits, decimals.
Layer 2 (digit): the program's Put, walked.
-/
import Derived.Test.YtajfdachpdkbcaaGreatDoorPack3
import Derived.Test.YtajfdachpdkbcaaGreatDoorProg
import Derived.Orders
import Derived.StillTailTactics
import Derived.WalkKit
import Derived.WalkSpells
import Derived.Lib.Hide
import Derived.ScopeJumps
import Derived.WalkMore
section
namespace Go.Proofs.YtajfdachpdkbcaaGreatDoor.Conf
open Go.RowKit Go.Proofs.YtajfdachpdkbcaaGreatDoor.Own Go.Proofs.YtajfdachpdkbcaaGreatDoor.Rw Go.Proofs.YtajfdachpdkbcaaGreatDoor.Tree

def eqCn (x y : Cn) : Bool := x.name == y.name && (x.kind == y.kind && (x.lines == y.lines && (x.bytes == y.bytes && (x.gens == y.gens && (x.size == y.size && (x.base == y.base && (x.cap == y.cap && (x.jit == y.jit && x.init == y.init))))))))
theorem eqCn_iff {x y : Cn} : eqCn x y = true ↔ x = y := by
  cases x; cases y
  simp [eqCn]
theorem con_neq (x y : Cn) (W : World) : (binOp .neq 42 (cnV x) (cnV y)).run Tryz.prog W = .ok (.bool (!eqCn x y)) W := by
  unfold cnV eqCn
  simp [go_sem]
  repeat' split
  all_goals simp [*]
def usV (u : Bs × Bs) : Value := .agg #[.string ⟨u.1.toArray⟩, .string ⟨u.2.toArray⟩]
def eqUs (x y : Bs × Bs) : Bool := x.1 == y.1 && x.2 == y.2
theorem eqUs_iff {x y : Bs × Bs} : eqUs x y = true ↔ x = y := by
  cases x; cases y
  simp [eqUs]
theorem usr_neq (x y : Bs × Bs) (W : World) : (binOp .neq 67 (usV x) (usV y)).run Tryz.prog W = .ok (.bool (!eqUs x y)) W := by
  unfold usV eqUs
  simp [go_sem]
  repeat' split
  all_goals simp [*]
def acV (a : Bs × Bs × Int) : Value := .agg #[.string ⟨a.1.toArray⟩, .string ⟨a.2.1.toArray⟩, .int .i64 a.2.2]
def eqAc (x y : Bs × Bs × Int) : Bool := x.1 == y.1 && (x.2.1 == y.2.1 && x.2.2 == y.2.2)
theorem eqAc_iff {x y : Bs × Bs × Int} : eqAc x y = true ↔ x = y := by
  obtain ⟨a, b, c⟩ := x
  obtain ⟨d, e, f⟩ := y
  simp [eqAc]
theorem acc_neq (x y : Bs × Bs × Int) (W : World) : (binOp .neq 46 (acV x) (acV y)).run Tryz.prog W = .ok (.bool (!eqAc x y)) W := by
  unfold acV eqAc
  simp [go_sem]
  repeat' split
  all_goals simp [*]
def stv (t : Bs) : List Value := [str t]
theorem stv_len (t : Bs) : (stv t).length = 1 := rfl
def stV (t : Bs) : Value := .string ⟨t.toArray⟩
def eqSt (x y : Bs) : Bool := x == y
theorem eqSt_iff {x y : Bs} : eqSt x y = true ↔ x = y := by simp [eqSt]
theorem st_neq (x y : Bs) (W : World) : (binOp .neq 9 (stV x) (stV y)).run Tryz.prog W = .ok (.bool (!eqSt x y)) W := by
  unfold stV eqSt
  simp [go_sem]
theorem tx_rd {w : World} {p : Option Addr} {c : Nat} {ts : List Bs} (h : Texts w p c ts) : Rd w 1 p c ts.length (ts.flatMap stv) := by
  have e : ts.flatMap stv = strs ts := by
    induction ts with
    | nil => rfl
    | cons t r ih =>
      rw [List.flatMap_cons]
      show str t :: ([] ++ r.flatMap stv) = _
      have : Texts w none maxLen r → True := fun _ => trivial
      clear this
      rw [List.nil_append]
      show str t :: r.flatMap stv = str t :: strs r
      congr 1
      clear ih h
      induction r with
      | nil => rfl
      | cons t r ih => rw [List.flatMap_cons]; show str t :: ([] ++ r.flatMap stv) = str t :: strs r; rw [List.nil_append, ih]
  have hc := h.cap
  refine ⟨hc.1, hc.2, by rw [e, strs_len, Nat.mul_one], ?_⟩
  rw [e]
  rcases h.row.cells with h0 | ⟨b, o, e, hl, k⟩
  · exact .inl (by have := congrArg List.length h0; rw [strs_len] at this; exact this)
  · exact .inr ⟨b, o, e, hl, k⟩
theorem grp_at {w : World} {p : Option Addr} {c n : Nat} {gs : List Value} {L : List (Bs × List Bs)} (h : Rd w 2 p c n gs) (hg : Gs w.heap.size w gs L) (hn : n = L.length) {i : Nat} (hi : i < L.length) :
    ∃ b o pp cc, p = some ⟨b, o, none⟩ ∧ b < w.heap.size ∧ (w.cell? ⟨b, o + i * 2, none⟩ = some (.string ⟨L[i].1.toArray⟩) ∧ w.cell? ⟨b, o + i * 2 + 1, none⟩ = some (.slice pp L[i].2.length cc)) ∧ TxB w.heap.size w pp cc L[i].2 := by
  obtain ⟨pp, cc, e0, e1, ht⟩ := hg.at_ hi
  rcases h.cells with h0 | ⟨b, o, e, hb, k⟩
  · omega
  · exact ⟨b, o, pp, cc, e, hb, ⟨k _ _ e0, by rw [Nat.add_assoc]; exact k _ _ e1⟩, ht⟩
end Go.Proofs.YtajfdachpdkbcaaGreatDoor.Conf
end

section
namespace Go.Proofs.YtajfdachpdkbcaaGreatDoor.Reg
open Go Go.RowKit

def deps (ops : Array Oper) (i : Nat) : List Nat := match ops[i]? with
  | some o => (o.after.toList.filter (Region.binds .any)).map (·.on)
  | none => []
/-- temporaries apart, no guard, each waits for earlier ones alone -/
def okOps (ops : Array Oper) (ds : List Nat) (n : Nat) : Bool :=
  ds.length == ops.size && ((List.range ops.size).all fun i => match ops[i]? with
    | some o => o.dst == some (ds.getD i 0) && (o.guard.isNone && (decide (ds.getD i 0 < n) && ((deps ops i).all (fun j => decide (j < i)) && (List.range i).all (fun j => ds.getD j 0 != ds.getD i 0))))
    | none => false)
section
variable {P : Program} {ops : Array Oper} {Q : Exit → Act → World → Prop} {ds : List Nat} {n : Nat}
structure OkAt (ops : Array Oper) (ds : List Nat) (n i : Nat) (o : Oper) : Prop where
  dst : o.dst = some (ds.getD i 0)
  guard : o.guard = none
  lt : ds.getD i 0 < n
  deps : ∀ j ∈ deps ops i, j < i
  apart : ∀ j, j < i → ds.getD j 0 ≠ ds.getD i 0
theorem okOps_at (h : okOps ops ds n = true) {i : Nat} {o : Oper} (ho : ops[i]? = some o) : OkAt ops ds n i o := by
  simp only [okOps, Bool.and_eq_true, List.all_eq_true, List.mem_range] at h
  have hi : i < ops.size := (Array.getElem?_eq_some_iff.1 ho).1
  have := h.2 i hi
  rw [ho] at this
  simp only [Bool.and_eq_true, beq_iff_eq, decide_eq_true_eq, bne_iff_ne, ne_eq, List.all_eq_true, List.mem_range, Option.isNone_iff_eq_none] at this
  exact ⟨this.1, this.2.1, this.2.2.1, this.2.2.2.1, this.2.2.2.2⟩
theorem ok_apart (h : okOps ops ds n = true) {i j : Nat} (hi : i < ops.size) (hj : j < ops.size) (hne : i ≠ j) : ds.getD i 0 ≠ ds.getD j 0 := by
  rcases Nat.lt_or_gt_of_ne hne with hl | hl
  · exact (okOps_at h (Array.getElem?_eq_some_iff.2 ⟨hj, rfl⟩)).apart i hl
  · exact ((okOps_at h (Array.getElem?_eq_some_iff.2 ⟨hi, rfl⟩)).apart j hl).symm
structure Held (ops : Array Oper) (ds : List Nat) (Sp : Nat → World → Value → Prop) (a0 : Act) (w0 : World) (listed : Array Bool) (a : Act) (w : World) : Prop where
  size : a.tmps.size = a0.tmps.size
  defers : a.defers = a0.defers
  other : ∀ t, (∀ i, i < ops.size → ds.getD i 0 ≠ t) → a.tmps[t]? = a0.tmps[t]?
  done : ∀ i, i < ops.size → listed.getD i false = true → ∃ v, a.tmps[ds.getD i 0]? = some v ∧ Sp i w v
  below : Below w0.heap.size w0 w
theorem getD_mem {listed : Array Bool} {i : Nat} (h : i < listed.size) (b : Bool) : listed.getD i b = listed[i] := by simp [h]
def left (listed : Array Bool) : Nat := listed.toList.countP fun b => !b
theorem left_set {listed : Array Bool} {i : Nat} (h : i < listed.size) (hf : listed.getD i true = false) : left (listed.setIfInBounds i true) + 1 = left listed := by
  unfold left
  rw [Array.toList_setIfInBounds]
  have hi : i < listed.toList.length := by simpa using h
  have hv : listed.toList[i] = false := by rw [getD_mem h] at hf; simpa using hf
  rw [List.set_eq_take_append_cons_drop, if_pos hi]
  have e : listed.toList = listed.toList.take i ++ listed.toList[i] :: listed.toList.drop (i + 1) := by
    rw [← List.drop_eq_getElem_cons hi, List.take_append_drop]
  conv => rhs; rw [e]
  simp only [List.countP_append, List.countP_cons, hv]
  simp
  omega
theorem left_zero {listed : Array Bool} (h : left listed = 0) {i : Nat} (hi : i < listed.size) : listed.getD i false = true := by
  unfold left at h
  rw [List.countP_eq_zero] at h
  rw [getD_mem hi]
  have := h listed[i] (by simp)
  simpa using this
theorem ready_all {n : Nat} (hok : okOps ops ds n = true) {listed : Array Bool} (hl : listed.size = ops.size) (hr : Region.ready .any ops listed = []) : ∀ i, i < ops.size → listed.getD i false = true := by
  intro i
  induction i using Nat.strongRecOn with
  | ind i ih =>
    intro hi
    cases hb : listed.getD i false with
    | true => rfl
    | false =>
      have ho : ops[i]? = some ops[i] := Array.getElem?_eq_some_iff.2 ⟨hi, rfl⟩
      have hm : i ∈ Region.ready .any ops listed := mem_ready.2 ⟨by rw [getD_mem (by omega)] at hb ⊢; exact hb, _, ho, fun e he hbd => by
        have hd : e.on ∈ deps ops i := by
          unfold deps
          rw [ho]
          exact List.mem_map.2 ⟨e, List.mem_filter.2 ⟨by simpa using he, hbd⟩, rfl⟩
        have hlt := (okOps_at hok ho).deps _ hd
        exact ih _ hlt (by omega)⟩
      rw [hr] at hm; cases hm
theorem all_ready {listed : Array Bool} (hl : listed.size = ops.size) (h : ∀ i, i < ops.size → listed.getD i false = true) : Region.ready .any ops listed = [] := by
  rw [List.eq_nil_iff_forall_not_mem]
  intro i hi
  obtain ⟨h0, o, ho, _⟩ := mem_ready.1 hi
  have hi : i < ops.size := (Array.getElem?_eq_some_iff.1 ho).1
  have := h i hi
  rw [getD_mem (by omega)] at this h0
  rw [this] at h0; cases h0

/-- what an operation may look at -/
structure Seen (ops : Array Oper) (ds : List Nat) (Sp : Nat → World → Value → Prop) (a0 : Act) (w0 : World) (i : Nat) (a : Act) (w : World) : Prop where
  dep : ∀ j ∈ deps ops i, ∃ v, a.tmps[ds.getD j 0]? = some v ∧ Sp j w v
  other : ∀ t, (∀ i, i < ops.size → ds.getD i 0 ≠ t) → a.tmps[t]? = a0.tmps[t]?
  below : Below w0.heap.size w0 w
variable {Sp : Nat → World → Value → Prop} {a0 : Act} {w0 : World}
theorem any_specs (hok : okOps ops ds a0.tmps.size = true) (hmono : ∀ i w w' v, Below w.heap.size w w' → Sp i w v → Sp i w' v)
    (step : ∀ i o a w, ops[i]? = some o → Seen ops ds Sp a0 w0 i a w → Oper.wp P o a w (fun a' w' => ∃ v, a' = a.put o.dst v ∧ Sp i w' v ∧ Below w.heap.size w w') Q)
    (fin : ∀ listed a w, (∀ i, i < ops.size → listed.getD i false = true) → Held ops ds Sp a0 w0 listed a w → Q .normal a w) :
    ∀ (fuel : Nat) (listed : Array Bool) (a : Act) (w : World), listed.size = ops.size → left listed ≤ fuel → Held ops ds Sp a0 w0 listed a w → wpAny P .any ops Q fuel listed a w
  | 0, listed, a, w, hl, hf, h => by
    have hall : ∀ i, i < ops.size → listed.getD i false = true := fun i hi => left_zero (by omega) (by omega)
    exact ⟨all_ready hl hall, fin listed a w hall h⟩
  | fuel + 1, listed, a, w, hl, hf, h => by
    refine ⟨fun hr => fin listed a w (ready_all hok hl hr) h, fun i hi => ?_⟩
    obtain ⟨hun, o, ho, hdep⟩ := mem_ready.1 hi
    have hi' : i < ops.size := (Array.getElem?_eq_some_iff.1 ho).1
    have hk := okOps_at hok ho
    unfold wpOp
    rw [ho]
    dsimp only
    rw [if_pos (by unfold Region.wanted; rw [hk.guard])]
    refine .inl (Oper.wp_mono ?_ (step i o a w ho ⟨fun j hj => ?_, h.other, h.below⟩))
    · rintro a' w' ⟨v, rfl, hv, hb⟩
      refine any_specs hok hmono step fin fuel _ _ _ (by simpa using hl) (by have := left_set (listed := listed) (i := i) (by omega) hun; omega) ⟨?_, ?_, ?_, ?_, h.below.trans (hb.mono h.below.size)⟩
      · rw [hk.dst]; simpa [Act.put] using h.size
      · rw [hk.dst]; simpa [Act.put] using h.defers
      · intro t ht
        rw [hk.dst]
        show (a.tmps.setIfInBounds _ v)[t]? = _
        rw [Array.getElem?_setIfInBounds_ne (ht i hi')]
        exact h.other t ht
      · intro j hj hlj
        rw [hk.dst]
        show ∃ u, (a.tmps.setIfInBounds _ v)[_]? = some u ∧ _
        by_cases hij : i = j
        · subst hij
          exact ⟨v, by rw [Array.getElem?_setIfInBounds_self_of_lt (by have := hk.lt; rw [h.size]; exact this)], hv⟩
        · rw [Array.getElem?_setIfInBounds_ne (ok_apart hok hi' hj hij)]
          rw [getD_set_ne false hij] at hlj
          obtain ⟨u, e1, e2⟩ := h.done j hj hlj
          exact ⟨u, e1, hmono j _ _ u hb e2⟩
    · unfold deps at hj
      rw [ho] at hj
      obtain ⟨e, he, rfl⟩ := List.mem_map.1 hj
      have he := List.mem_filter.1 he
      have hl2 := hdep e (by simpa using he.1) he.2
      have hlt : e.on < ops.size := by
        have := hk.deps e.on (by unfold deps; rw [ho]; exact List.mem_map.2 ⟨e, List.mem_filter.2 he, rfl⟩)
        omega
      exact h.done _ hlt hl2
/-- the region, each operation told once -/
theorem wp_specs {id : Nat} {a : Act} {w : World} (hm : P.follows .mixedOrders = true) (ds : List Nat) (Sp : Nat → World → Value → Prop) (hok : okOps ops ds a.tmps.size = true)
    (hmono : ∀ i w w' v, Below w.heap.size w w' → Sp i w v → Sp i w' v)
    (step : ∀ i o a' w', ops[i]? = some o → Seen ops ds Sp a w.drew i a' w' → Oper.wp P o a' w' (fun a2 w2 => ∃ v, a2 = a'.put o.dst v ∧ Sp i w2 v ∧ Below w'.heap.size w' w2) Q)
    (fin : ∀ a' w', a'.tmps.size = a.tmps.size → a'.defers = a.defers → (∀ t, (∀ i, i < ops.size → ds.getD i 0 ≠ t) → a'.tmps[t]? = a.tmps[t]?) → (∀ i, i < ops.size → ∃ v, a'.tmps[ds.getD i 0]? = some v ∧ Sp i w' v) → Below w.heap.size w.drew w' → Q .normal a' w') :
    (Code.region id ops true).wp P Q a w := by
  refine wp_region_any hm ?_
  refine any_specs (a0 := a) (w0 := w.drew) hok hmono step (fun listed a' w' hall h => fin a' w' h.size h.defers h.other (fun i hi => h.done i hi (hall i hi)) h.below) _ _ _ _ (by simp) ?_ ⟨rfl, rfl, fun _ _ => rfl, fun i hi hf => ?_, Below.refl _ _⟩
  · exact Nat.le_trans List.countP_le_length (by simp)
  · simp [hi] at hf
end
theorem eval_tmp {a : Act} {t : Nat} {v : Value} (h : a.tmps[t]? = some v) : a.eval (.tmp t) = v := by
  show a.tmps.getD t undef = v
  simp [h]
theorem mem_of {l : List Nat} {j : Nat} (h : l.contains j = true) : j ∈ l := by simpa using h
end Go.Proofs.YtajfdachpdkbcaaGreatDoor.Reg
end

section
namespace Go.Proofs.YtajfdachpdkbcaaGreatDoor.Reg
open Go Go.RowKit

section
variable {P : Program} {ops : Array Oper} {Q : Exit → Act → World → Prop} {ds : List Nat} {n : Nat}
/-- what an operation may look at -/
structure Sees (ops : Array Oper) (ds : List Nat) (Sp : Nat → World → Value → Prop) (J : Array Bool → World → Prop) (a0 : Act) (listed : Array Bool) (i : Nat) (a : Act) (w : World) : Prop where
  size : listed.size = ops.size
  un : listed.getD i false = false
  closed : ∀ k, k < ops.size → listed.getD k false = true → ∀ j ∈ deps ops k, listed.getD j false = true
  dep : ∀ j ∈ deps ops i, ∃ v, a.tmps[ds.getD j 0]? = some v ∧ Sp j w v
  other : ∀ t, (∀ k, k < ops.size → listed.getD k false = true → ds.getD k 0 ≠ t) → a.tmps[t]? = a0.tmps[t]?
  inv : J listed w
structure Holds (ops : Array Oper) (ds : List Nat) (Sp : Nat → World → Value → Prop) (J : Array Bool → World → Prop) (a0 : Act) (listed : Array Bool) (a : Act) (w : World) : Prop where
  size : a.tmps.size = a0.tmps.size
  defers : a.defers = a0.defers
  closed : ∀ k, k < ops.size → listed.getD k false = true → ∀ j ∈ deps ops k, listed.getD j false = true
  other : ∀ t, (∀ i, i < ops.size → listed.getD i false = true → ds.getD i 0 ≠ t) → a.tmps[t]? = a0.tmps[t]?
  done : ∀ i, i < ops.size → listed.getD i false = true → ∃ v, a.tmps[ds.getD i 0]? = some v ∧ Sp i w v
  inv : J listed w
/-- what it is to leave -/
def Leaves (Sp : Nat → World → Value → Prop) (J : Array Bool → World → Prop) (listed : Array Bool) (i : Nat) (d : Option Tmp) (a : Act) (w : World) (a2 : Act) (w2 : World) : Prop :=
  ∃ v, a2 = a.put d v ∧ Sp i w2 v ∧ (∀ j u, j ≠ i → listed.getD j false = true → Sp j w u → Sp j w2 u) ∧ J (listed.setIfInBounds i true) w2
variable {Sp : Nat → World → Value → Prop} {J : Array Bool → World → Prop} {a0 : Act}
theorem any_told (hok : okOps ops ds a0.tmps.size = true)
    (step : ∀ i o listed a w, ops[i]? = some o → Sees ops ds Sp J a0 listed i a w → Oper.wp P o a w (Leaves Sp J listed i o.dst a w) Q)
    (fin : ∀ listed a w, (∀ i, i < ops.size → listed.getD i false = true) → Holds ops ds Sp J a0 listed a w → Q .normal a w) :
    ∀ (fuel : Nat) (listed : Array Bool) (a : Act) (w : World), listed.size = ops.size → left listed ≤ fuel → Holds ops ds Sp J a0 listed a w → wpAny P .any ops Q fuel listed a w
  | 0, listed, a, w, hl, hf, h => by
    have hall : ∀ i, i < ops.size → listed.getD i false = true := fun i hi => left_zero (by omega) (by omega)
    exact ⟨all_ready hl hall, fin listed a w hall h⟩
  | fuel + 1, listed, a, w, hl, hf, h => by
    refine ⟨fun hr => fin listed a w (ready_all hok hl hr) h, fun i hi => ?_⟩
    obtain ⟨hun, o, ho, hdep⟩ := mem_ready.1 hi
    have hi' : i < ops.size := (Array.getElem?_eq_some_iff.1 ho).1
    have hk := okOps_at hok ho
    have hun2 : listed.getD i false = false := by rw [getD_mem (by omega)] at hun ⊢; exact hun
    have hdeps : ∀ j ∈ deps ops i, j < ops.size ∧ listed.getD j false = true := fun j hj => by
      have hlt := hk.deps j hj
      unfold deps at hj
      rw [ho] at hj
      obtain ⟨e, he, rfl⟩ := List.mem_map.1 hj
      have he := List.mem_filter.1 he
      exact ⟨by omega, hdep e (by simpa using he.1) he.2⟩
    unfold wpOp
    rw [ho]
    dsimp only
    rw [if_pos (by unfold Region.wanted; rw [hk.guard])]
    refine .inl (Oper.wp_mono ?_ (step i o listed a w ho ⟨hl, hun2, h.closed, fun j hj => h.done j (hdeps j hj).1 (hdeps j hj).2, h.other, h.inv⟩))
    rintro a' w' ⟨v, rfl, hv, hmono, hJ⟩
    refine any_told hok step fin fuel _ _ _ (by simpa using hl) (by have := left_set (listed := listed) (i := i) (by omega) hun; omega) ⟨?_, ?_, ?_, ?_, ?_, hJ⟩
    · rw [hk.dst]; simpa [Act.put] using h.size
    · rw [hk.dst]; simpa [Act.put] using h.defers
    · intro k hk2 hlk j hj
      by_cases hik : i = k
      · subst hik
        exact getD_set_true (hdeps j hj).2
      · rw [getD_set_ne false hik] at hlk
        exact getD_set_true (h.closed k hk2 hlk j hj)
    · intro t ht
      rw [hk.dst]
      show (a.tmps.setIfInBounds _ v)[t]? = _
      rw [Array.getElem?_setIfInBounds_ne (ht i hi' (by rw [getD_mem (by simpa using (by omega : i < listed.size))]; simp))]
      exact h.other t fun k hk2 hlk => ht k hk2 (getD_set_true hlk)
    · intro j hj hlj
      rw [hk.dst]
      show ∃ u, (a.tmps.setIfInBounds _ v)[_]? = some u ∧ _
      by_cases hij : i = j
      · subst hij
        exact ⟨v, by rw [Array.getElem?_setIfInBounds_self_of_lt (by have := hk.lt; rw [h.size]; exact this)], hv⟩
      · rw [Array.getElem?_setIfInBounds_ne (ok_apart hok hi' hj hij)]
        rw [getD_set_ne false hij] at hlj
        obtain ⟨u, e1, e2⟩ := h.done j hj hlj
        exact ⟨u, e1, hmono j u (Ne.symm hij) hlj e2⟩
/-- the region, each operation told once -/
theorem wp_told {id : Nat} {a : Act} {w : World} (hm : P.follows .mixedOrders = true) (ds : List Nat) (Sp : Nat → World → Value → Prop) (J : Array Bool → World → Prop) (hok : okOps ops ds a.tmps.size = true)
    (h0 : J (Array.replicate ops.size false) w.drew)
    (step : ∀ i o listed a' w', ops[i]? = some o → Sees ops ds Sp J a listed i a' w' → Oper.wp P o a' w' (Leaves Sp J listed i o.dst a' w') Q)
    (fin : ∀ listed a' w', a'.tmps.size = a.tmps.size → a'.defers = a.defers → (∀ t, (∀ i, i < ops.size → ds.getD i 0 ≠ t) → a'.tmps[t]? = a.tmps[t]?) → (∀ i, i < ops.size → ∃ v, a'.tmps[ds.getD i 0]? = some v ∧ Sp i w' v) → J listed w' → Q .normal a' w') :
    (Code.region id ops true).wp P Q a w := by
  refine wp_region_any hm ?_
  refine any_told (a0 := a) hok step (fun listed a' w' hall h => fin listed a' w' h.size h.defers (fun t ht => h.other t fun i hi _ => ht i hi) (fun i hi => h.done i hi (hall i hi)) h.inv) _ _ _ _ (by simp) ?_ ⟨rfl, rfl, fun k hk hf => ?_, fun _ _ => rfl, fun i hi hf => ?_, h0⟩
  · exact Nat.le_trans List.countP_le_length (by simp)
  · simp [hk] at hf
  · simp [hi] at hf

/-! ### the frame behind it, written out -/
theorem arr_getD {A : Array Value} {t : Nat} {v d : Value} (h : A[t]? = some v) : A.getD t d = v := by simp [h]
def puts (a : Act) : List (Nat × Value) → Act
  | [] => a
  | (d, v) :: r => puts (a.put (some d) v) r
theorem puts_size : ∀ (l : List (Nat × Value)) (a : Act), (puts a l).tmps.size = a.tmps.size
  | [], a => rfl
  | (d, v) :: r, a => by rw [puts, puts_size r]; simp [Act.put]
theorem puts_defers : ∀ (l : List (Nat × Value)) (a : Act), (puts a l).defers = a.defers
  | [], a => rfl
  | (d, v) :: r, a => by rw [puts, puts_defers r]; rfl
theorem puts_out : ∀ (l : List (Nat × Value)) (a : Act) (t : Nat), (∀ p ∈ l, p.1 ≠ t) → (puts a l).tmps[t]? = a.tmps[t]?
  | [], a, t, _ => rfl
  | (d, v) :: r, a, t, h => by
    rw [puts, puts_out r _ t fun p hp => h p (List.mem_cons_of_mem _ hp)]
    show (a.tmps.setIfInBounds d v)[t]? = _
    rw [Array.getElem?_setIfInBounds_ne (h (d, v) (List.mem_cons_self ..))]
theorem puts_in : ∀ (l : List (Nat × Value)) (a : Act), (l.map (·.1)).Nodup → (∀ p ∈ l, p.1 < a.tmps.size) → ∀ p ∈ l, (puts a l).tmps[p.1]? = some p.2
  | [], a, _, _, p, hp => by cases hp
  | (d, v) :: r, a, hn, hl, p, hp => by
    rw [List.map_cons, List.nodup_cons] at hn
    rw [puts]
    rcases List.mem_cons.1 hp with rfl | hp
    · rw [puts_out r _ d fun q hq e => hn.1 (List.mem_map.2 ⟨q, hq, e⟩)]
      show (a.tmps.setIfInBounds d v)[d]? = _
      rw [Array.getElem?_setIfInBounds_self_of_lt (hl (d, v) (List.mem_cons_self ..))]
    · exact puts_in r _ hn.2 (fun q hq => by have := hl q (List.mem_cons_of_mem _ hq); simpa [Act.put] using this) p hp
theorem frame_eq {a a' : Act} (hs : a'.tmps.size = a.tmps.size) (hd : a'.defers = a.defers) (l : List (Nat × Value)) (hn : (l.map (·.1)).Nodup) (hl : ∀ p ∈ l, p.1 < a.tmps.size) (hin : ∀ p ∈ l, a'.tmps[p.1]? = some p.2) (hout : ∀ t, (∀ p ∈ l, p.1 ≠ t) → a'.tmps[t]? = a.tmps[t]?) : a' = puts a l := by
  have h1 : a'.tmps = (puts a l).tmps := by
    apply Array.ext_getElem?
    intro t
    by_cases ht : ∀ p ∈ l, p.1 ≠ t
    · rw [hout t ht, puts_out l a t ht]
    · have : ∃ p, p ∈ l ∧ p.1 = t := Classical.byContradiction fun h => ht fun p hp e => h ⟨p, hp, e⟩
      obtain ⟨p, hp, rfl⟩ := this
      rw [hin p hp, puts_in l a hn hl p hp]
  have h2 : a'.defers = (puts a l).defers := by rw [hd, puts_defers]
  cases a'
  generalize puts a l = b at *
  cases b
  simp only at h1 h2
  rw [h1, h2]
/-- the region, each operation told once; the frame behind it -/
theorem wp_told_at {id : Nat} {a : Act} {w : World} (hm : P.follows .mixedOrders = true) (ds : List Nat) (Sp : Nat → World → Value → Prop) (J : Array Bool → World → Prop) (hok : okOps ops ds a.tmps.size = true)
    (h0 : J (Array.replicate ops.size false) w.drew)
    (step : ∀ i o listed a' w', ops[i]? = some o → Sees ops ds Sp J a listed i a' w' → Oper.wp P o a' w' (Leaves Sp J listed i o.dst a' w') Q)
    (fin : ∀ listed (vs : List Value) w', vs.length = ds.length → (∀ i v, vs[i]? = some v → Sp i w' v) → J listed w' → Q .normal (puts a (ds.zip vs)) w') :
    (Code.region id ops true).wp P Q a w := by
  refine wp_told hm ds Sp J hok h0 step fun listed a' w' hs hd hot hdn hJ => ?_
  have hlen : ds.length = ops.size := by
    simp only [okOps, Bool.and_eq_true, beq_iff_eq] at hok; exact hok.1
  have hget : ∀ i, i < ops.size → ∃ v, a'.tmps[ds.getD i 0]? = some v ∧ Sp i w' v := hdn
  let vs := (List.range ops.size).map fun i => a'.tmps.getD (ds.getD i 0) undef
  have hvs : ∀ i, i < ops.size → a'.tmps[ds.getD i 0]? = some (a'.tmps.getD (ds.getD i 0) undef) := fun i hi => by
    obtain ⟨v, e, _⟩ := hget i hi
    rw [arr_getD e]; exact e
  have hz : ∀ p ∈ ds.zip vs, ∃ i, i < ops.size ∧ p.1 = ds.getD i 0 ∧ p.2 = a'.tmps.getD (ds.getD i 0) undef := fun p hp => by
    obtain ⟨i, hi, e⟩ := List.mem_iff_getElem.1 hp
    have hi2 : i < ops.size := by
      have := hi
      rw [List.length_zip] at this
      omega
    refine ⟨i, hi2, ?_, ?_⟩
    · rw [← e, List.getElem_zip]
      simp [List.getD_eq_getElem?_getD, hlen, hi2]
    · rw [← e, List.getElem_zip]
      simp [vs]
  have hfr := frame_eq hs hd (ds.zip vs) (by
    rw [List.map_fst_zip (by simp [vs, hlen])]
    rw [List.nodup_iff_pairwise_ne, List.pairwise_iff_getElem]
    intro i j hi hj hij
    have := (okOps_at hok (i := j) (o := ops[j]'(by omega)) (Array.getElem?_eq_some_iff.2 ⟨by omega, rfl⟩)).apart i hij
    simpa [List.getD_eq_getElem?_getD, hi, hj] using this) (fun p hp => by
    obtain ⟨i, hi, e, _⟩ := hz p hp
    rw [e]
    exact (okOps_at hok (Array.getElem?_eq_some_iff.2 ⟨hi, rfl⟩)).lt) (fun p hp => by
    obtain ⟨i, hi, e1, e2⟩ := hz p hp
    rw [e1, e2]; exact hvs i hi) (fun t ht => hot t fun i hi e => by
    refine ht ((ds.zip vs)[i]'(by rw [List.length_zip]; simp [vs]; omega)) (List.getElem_mem _) ?_
    rw [List.getElem_zip, ← e]
    simp [List.getD_eq_getElem?_getD, hlen, hi])
  rw [hfr]
  refine fin listed vs w' (by simp [vs, hlen]) (fun i v hv => ?_) hJ
  obtain ⟨hi, e⟩ := List.getElem?_eq_some_iff.1 hv
  have hi2 : i < ops.size := by simpa [vs] using hi
  obtain ⟨u, e1, e2⟩ := hget i hi2
  have : v = u := by
    rw [← e]
    have h3 : vs[i] = a'.tmps.getD (ds.getD i 0) undef := by simp only [vs, List.getElem_map, List.getElem_range]
    rw [h3, arr_getD e1]
  rw [this]; exact e2
end
end Go.Proofs.YtajfdachpdkbcaaGreatDoor.Reg
end

section
namespace Go.Proofs.YtajfdachpdkbcaaGreatDoor.Reg
open Go Go.RowKit
section
variable {P : Program} {ops : Array Oper} {Q : Exit → Act → World → Prop}
theorem wp_vals {id : Nat} {a : Act} {w : World} (hm : P.follows .mixedOrders = true) (ds : List Nat) (vs : List Value) (hok : okOps ops ds a.tmps.size = true)
    (step : ∀ i o a', ops[i]? = some o → (∀ j ∈ deps ops i, a'.tmps[ds.getD j 0]? = some (vs.getD j undef)) → (∀ t, (∀ k, k < ops.size → ds.getD k 0 ≠ t) → a'.tmps[t]? = a.tmps[t]?) →
      Oper.wp P o a' w.drew (fun a2 w2 => a2 = a'.put o.dst (vs.getD i undef) ∧ w2 = w.drew) Q)
    (fin : ∀ us : List Value, us.length = ds.length → (∀ i v, us[i]? = some v → v = vs.getD i undef) → Q .normal (puts a (ds.zip us)) w.drew) : (Code.region id ops true).wp P Q a w := by
  refine wp_told_at hm ds (fun i _ v => v = vs.getD i undef) (fun _ w' => w' = w.drew) hok rfl ?_ ?_
  · intro i o listed a' w' ho hs
    obtain rfl := hs.inv
    refine Oper.wp_mono ?_ (step i o a' ho (fun j hj => by
      obtain ⟨v, e, rfl⟩ := hs.dep j hj
      exact e) fun t ht => hs.other t fun k hk _ => ht k hk)
    rintro a2 w2 ⟨rfl, rfl⟩
    exact ⟨_, rfl, rfl, fun j u _ _ h => h, rfl⟩
  · intro listed us w' hl hu hw
    subst hw
    exact fin us hl hu
end
end Go.Proofs.YtajfdachpdkbcaaGreatDoor.Reg
end

section
namespace Go.Proofs.YtajfdachpdkbcaaGreatDoor.Conf
open Go.RowKit Go.Proofs.YtajfdachpdkbcaaGreatDoor.Own Go.Proofs.YtajfdachpdkbcaaGreatDoor.Rw Go.Proofs.YtajfdachpdkbcaaGreatDoor.Tree

/-! ### words -/
def kindArr : Array Value := #[.string ⟨#[115, 101, 114, 105, 97, 108]⟩, .string ⟨#[112, 116, 121]⟩]
def lvlArr : Array Value := #[.string ⟨#[110, 111, 110, 101]⟩, .string ⟨#[108, 111, 111, 107]⟩, .string ⟨#[104, 97, 110, 100]⟩, .string ⟨#[99, 104, 105, 101, 102]⟩]
theorem kinds_calls (w : World) : Calls Tryz.prog 53 #[] w fun e w' => e = .returned (.slice (some ⟨w.heap.size, 0, none⟩) 2 2) ∧ w' = w.alloc (.cells kindArr 9) := by
  go_enter Tryz.func53, Tryz.ntmps53
  go_wp2_with fail
  go_ret
  exact ⟨rfl, rfl⟩
theorem levels_calls (w : World) : Calls Tryz.prog 26 #[] w fun e w' => e = .returned (.slice (some ⟨w.heap.size, 0, none⟩) 4 4) ∧ w' = w.alloc (.cells lvlArr 9) := by
  go_enter Tryz.func26, Tryz.ntmps26
  go_wp2_with fail
  go_ret
  exact ⟨rfl, rfl⟩

def wAt (ts : List Bs) (k : Int) : Bs := if 0 ≤ k then (ts[k.toNat]?).getD [] else []
theorem wAt_neg {ts : List Bs} {k : Int} (h : k < 0) : wAt ts k = [] := if_neg (by omega)
theorem wAt_far {ts : List Bs} {k : Nat} (h : ts.length ≤ k) : wAt ts k = [] := by
  unfold wAt
  rw [if_pos (by omega), Int.toNat_natCast, List.getElem?_eq_none h]; rfl
theorem wAt_in {ts : List Bs} {k : Nat} (h : k < ts.length) : wAt ts k = ts[k] := by
  unfold wAt
  rw [if_pos (by omega), Int.toNat_natCast, List.getElem?_eq_getElem h]; rfl
set_option maxRecDepth 100000 in
set_option maxHeartbeats 4000000 in
theorem wordAt_calls (ts : List Bs) (n : Nat) (hn : n = ts.length) (p : Option Addr) (c : Nat) (k : Int) (w : World) (h : Texts w p c ts) :
    Calls Tryz.prog 25 #[.slice p n c, .int .i64 k] w fun e w' => e = .returned (.string ⟨(wAt ts k).toArray⟩) ∧ w = w' := by
  by_cases h0 : k < 0
  · have H := Lib.hid (wAt_neg (ts := ts) h0)
    clear h hn
    go_enter Tryz.func25, Tryz.ntmps25
    go_wp2_with fail
    go_ret
    exact ⟨by rw [H.out]; rfl, rfl⟩
  · obtain ⟨j, rfl⟩ : ∃ j : Nat, k = j := ⟨k.toNat, by omega⟩
    by_cases h1 : j < n
    · have hj : j < ts.length := by omega
      have H := Lib.hid (wAt_in hj)
      have hcp := h.cap
      rcases h.cells with h2 | ⟨b, o, rfl, hl, hc⟩
      · subst h2; exact absurd hj (by simp)
      have c0 : w.cell? ⟨b, o + j, none⟩ = some (.string ⟨ts[j].toArray⟩) := hc j hj
      have q1 : (j : Int) < (n : Int) := by omega
      have q0 : ¬ (n : Int) ≤ (j : Int) := by omega
      have q2 : n ≤ c := by omega
      generalize ts[j] = t at *
      clear hc h hcp hn hj
      go_enter Tryz.func25, Tryz.ntmps25
      go_wp2_with fail
      go_ret
      exact ⟨by rw [H.out]; rfl, rfl⟩
    · have H := Lib.hid (wAt_far (ts := ts) (k := j) (by omega))
      have q1 : (n : Int) ≤ (j : Int) := by omega
      clear h hn
      go_enter Tryz.func25, Tryz.ntmps25
      go_wp2_with fail
      go_ret
      exact ⟨by rw [H.out]; rfl, rfl⟩
/-- a statement without a block, as a value -/
def plainV (key : Bs) (v : Value) : Value := .agg #[.string ⟨key.toArray⟩, v, .bool false, .slice none 0 0, .int .i64 0]
set_option maxRecDepth 100000 in
set_option maxHeartbeats 4000000 in
theorem plain_calls (key : Bs) (p : Option Addr) (n c : Nat) (w : World) :
    Calls Tryz.prog 22 #[.string ⟨key.toArray⟩, .slice p n c] w fun e w' => e = .returned (plainV key (.slice p n c)) ∧ Below w.heap.size w w' := by
  go_enter Tryz.func22, Tryz.ntmps22
  go_wp2_with fail
  have N := at_new w (.cells #[.string ⟨key.toArray⟩, .slice p n c, .bool false, .slice none 0 0, .int .i64 0] 57)
  have B := (Below.refl w.heap.size w).alloc (Nat.le_refl _) (.cells #[.string ⟨key.toArray⟩, .slice p n c, .bool false, .slice none 0 0, .int .i64 0] 57)
  generalize w.alloc (.cells #[.string ⟨key.toArray⟩, .slice p n c, .bool false, .slice none 0 0, .int .i64 0] 57) = w2 at N B ⊢
  obtain ⟨⟨c0, c1, c2, c3, c4⟩, -⟩ := row5 N
  refine bodyPost_ret (v := plainV key (.slice p n c)) ?_ rfl ⟨rfl, B⟩
  simp [results, Tryz.results22, go_sem, plainV, *]
end Go.Proofs.YtajfdachpdkbcaaGreatDoor.Conf
end

section
namespace Go.Proofs.YtajfdachpdkbcaaGreatDoor.Conf
open Go.RowKit Go.Proofs.YtajfdachpdkbcaaGreatDoor.Own Go.Proofs.YtajfdachpdkbcaaGreatDoor.Rw Go.Proofs.YtajfdachpdkbcaaGreatDoor.Tree

theorem rd_atC {w : World} {p : Option Addr} {c n : Nat} {L : List Cn} (h : Rd w 10 p c n (L.flatMap cnv)) (hn : n = L.length) {i : Nat} (hi : i < L.length) :
    ∃ b o, p = some ⟨b, o, none⟩ ∧ b < w.heap.size ∧ ∀ j v, j < 10 → (cnv L[i])[j]? = some v → w.cell? ⟨b, o + i * 10 + j, none⟩ = some v := by
  rcases h.cells with h0 | ⟨b, o, e, hb, k⟩
  · omega
  · exact ⟨b, o, e, hb, fun j v hj hv => by rw [Nat.add_assoc]; exact k _ _ ((fm_get cnv_len hi j hj).trans hv)⟩
section
variable {o : Oper} {a : Act} {w : World} {K : Act → World → Prop} {Q : Exit → Act → World → Prop}
theorem wp_ldC (t g off : Nat) (x : Cn) (ho : o.op = .load 42 (.tmp t)) (h1 : a.tmps[t]? = some (.pointer (some ⟨g, off, none⟩))) (hc' : ∀ j v, j < 10 → (cnv x)[j]? = some v → w.cell? ⟨g, off + j, none⟩ = some v) (h : K (a.put o.dst (cnV x)) w) : Oper.wp Tryz.prog o a w K Q := by
  obtain ⟨d, op, ty, ps, af, gd⟩ := o
  cases ho
  have hc : ∀ j v, (cnv x)[j]? = some v → w.cell? ⟨g, off + j, none⟩ = some v := fun j v hv => hc' j v (by have := (List.getElem?_eq_some_iff.1 hv).1; rwa [cnv_len] at this) hv
  have c0 := hc 0 _ rfl
  have c1 := hc 1 _ rfl
  have c2 := hc 2 _ rfl
  have c3 := hc 3 _ rfl
  have c4 := hc 4 _ rfl
  have c5 := hc 5 _ rfl
  have c6 := hc 6 _ rfl
  have c7 := hc 7 _ rfl
  have c8 := hc 8 _ rfl
  have c9 := hc 9 _ rfl
  unfold Oper.wp
  simp only [Nat.add_zero] at c0
  simp [go_sem, h1, c0, c1, c2, c3, c4, c5, c6, c7, c8, c9, Oper.upon]
  exact h
theorem wp_ixC (t u g off n c k : Nat) (ho : o.op = .indexAddr 23 (.tmp t) (.tmp u)) (h1 : a.tmps[t]? = some (.slice (some ⟨g, off, none⟩) n c)) (h2 : a.tmps[u]? = some (.int .i64 k)) (hk : k < n) (h : K (a.put o.dst (.pointer (some ⟨g, off + k * 10, none⟩))) w) : Oper.wp Tryz.prog o a w K Q := by
  obtain ⟨d, op, ty, ps, af, gd⟩ := o
  cases ho
  have q1 : (k : Int) < (n : Int) := by omega
  unfold Oper.wp
  simp [go_sem, h1, h2, q1, Oper.upon]
  first | exact h | (rw [Nat.mul_one] at h; exact h)
theorem wp_neqC (t u : Nat) (x y : Cn) (ho : o.op = .binOp .neq 42 (.tmp t) (.tmp u) 42) (h1 : a.tmps[t]? = some (cnV x)) (h2 : a.tmps[u]? = some (cnV y)) (h : K (a.put o.dst (.bool (!eqCn x y))) w) : Oper.wp Tryz.prog o a w K Q := by
  obtain ⟨d, op, ty, ps, af, gd⟩ := o
  cases ho
  have e1 := Reg.eval_tmp h1
  have e2 := Reg.eval_tmp h2
  unfold Oper.wp execOp
  dsimp only
  rw [e1, e2]
  have hg : (eqGuard .neq 42 (.tmp t) (.tmp u) (cnV x) (cnV y)).run Tryz.prog w = .ok () w := by
    unfold cnV
    simp [go_sem, eqGuard]
  have hn := con_neq x y w
  rw [Sem.run_bind, Sem.run_bind, hg]
  simp only [Result.andThen_ok]
  rw [hn]
  simp only [Result.andThen_ok, Sem.run_pure, Oper.upon]
  exact h
theorem wp_mvC (t : Nat) (v : Value) (ho : o.op = .move (.tmp t)) (h1 : a.tmps[t]? = some v) (h : K (a.put o.dst v) w) : Oper.wp Tryz.prog o a w K Q := by
  obtain ⟨d, op, ty, ps, af, gd⟩ := o
  cases ho
  unfold Oper.wp
  simp [go_sem, h1, Oper.upon]
  exact h
end
set_option maxRecDepth 100000 in
set_option maxHeartbeats 4000000 in
theorem equalC_calls (xs ys : List Cn) (p q : Option Addr) (n m c d : Nat) (hn : n = xs.length) (hm : m = ys.length) (w : World) (h1 : Rd w 10 p c n (xs.flatMap cnv)) (h2 : Rd w 10 q d m (ys.flatMap cnv)) :
    Calls Tryz.prog 29 #[.slice p n c, .slice q m d] w fun e w' => ∃ r, e = .returned (.bool r) ∧ (r = true ↔ xs = ys) ∧ Below w.heap.size w w' := by
  have H1 := Lib.hid h1
  have H2 := Lib.hid h2
  have hm1 := h1.max
  have hc1 := h1.cap
  have hm2 := h2.max
  have hc2 := h2.cap
  unfold maxLen at hm1 hm2
  clear h1 h2
  by_cases hnm : n = m
  · have b1 : ((n : Int) != (m : Int)) = false := by simp [hnm]
    have HNM := Lib.hid hnm
    have HN := Lib.hid hn
    have HM := Lib.hid hm
    clear hnm hn hm
    go_enter Tryz.func29, Tryz.ntmps29
    go_wp2_with fail
    go_loopw [13] (fun i wr => ∃ k : Nat, k ≤ n ∧ i = .int .i64 k ∧ Below w.heap.size w wr ∧ (xs.drop k = ys.drop k ↔ xs = ys)) (fun i _ => n - (Tree.intOf i).toNat)
    case atStart => exact ⟨0, by omega, rfl, Below.refl _ _, Iff.rfl⟩
    case round =>
      obtain ⟨k, hk, rfl, hb, hd⟩ := hrel
      rename World => wr
      have HB := Lib.hid hb
      clear hb
      rcases Nat.lt_or_eq_of_le hk with hlt | rfl
      · have hl1 : k < xs.length := by rw [← HN.out]; exact hlt
        have hl2 : k < ys.length := by rw [← HM.out, ← HNM.out]; exact hlt
        obtain ⟨g, o, rfl, hg, c1⟩ := rd_atC (H1.out.below HB.out) HN.out hl1
        obtain ⟨g', o', rfl, hg', c2⟩ := rd_atC (H2.out.below HB.out) HM.out hl2
        have q1 : (k : Int) < (n : Int) := by omega
        rw [List.drop_eq_getElem_cons hl1, List.drop_eq_getElem_cons hl2] at hd
        have HD := Lib.hid hd
        have C1 := Lib.hid c1
        have C2 := Lib.hid c2
        have HK := Lib.hid (show k < m by have := HNM.out; omega)
        generalize xs[k] = x at *
        generalize ys[k] = y at *
        clear hd hl1 hl2 c1 c2
        go_wp2_with fail
        refine Reg.wp_vals (by kernel_rfl) [16, 17, 18, 19, 20, 21, 22, 23, 24] [.slice (some ⟨g, o, none⟩) n c, .int .i64 k, .pointer (some ⟨g, o + k * 10, none⟩), cnV x, .slice (some ⟨g', o', none⟩) m d, .int .i64 k, .pointer (some ⟨g', o' + k * 10, none⟩), cnV y, .bool (!eqCn x y)] (by kernel_rfl) ?_ ?_
        · intro i op a' ho hdp hot
          have t0 : a'.tmps[0]? = some _ := (hot 0 (by decide)).trans rfl
          have t1 : a'.tmps[1]? = some _ := (hot 1 (by decide)).trans rfl
          have t5 : a'.tmps[5]? = some _ := (hot 5 (by decide)).trans rfl
          match i, ho, hdp with
          | 0, ho, hdp => obtain rfl := Option.some.inj ho; exact wp_mvC 0 _ rfl t0 ⟨rfl, rfl⟩
          | 1, ho, hdp => obtain rfl := Option.some.inj ho; exact wp_mvC 5 _ rfl t5 ⟨rfl, rfl⟩
          | 2, ho, hdp => obtain rfl := Option.some.inj ho; exact wp_ixC 16 17 _ _ _ _ _ rfl (hdp 0 (Reg.mem_of (by kernel_rfl))) (hdp 1 (Reg.mem_of (by kernel_rfl))) hlt ⟨rfl, rfl⟩
          | 3, ho, hdp => obtain rfl := Option.some.inj ho; exact wp_ldC 18 _ _ x rfl (hdp 2 (Reg.mem_of (by kernel_rfl))) C1.out ⟨rfl, rfl⟩
          | 4, ho, hdp => obtain rfl := Option.some.inj ho; exact wp_mvC 1 _ rfl t1 ⟨rfl, rfl⟩
          | 5, ho, hdp => obtain rfl := Option.some.inj ho; exact wp_mvC 5 _ rfl t5 ⟨rfl, rfl⟩
          | 6, ho, hdp => obtain rfl := Option.some.inj ho; exact wp_ixC 20 21 _ _ _ _ _ rfl (hdp 4 (Reg.mem_of (by kernel_rfl))) (hdp 5 (Reg.mem_of (by kernel_rfl))) HK.out ⟨rfl, rfl⟩
          | 7, ho, hdp => obtain rfl := Option.some.inj ho; exact wp_ldC 22 _ _ y rfl (hdp 6 (Reg.mem_of (by kernel_rfl))) C2.out ⟨rfl, rfl⟩
          | 8, ho, hdp => obtain rfl := Option.some.inj ho; exact wp_neqC 19 23 x y rfl (hdp 3 (Reg.mem_of (by kernel_rfl))) (hdp 7 (Reg.mem_of (by kernel_rfl))) ⟨rfl, rfl⟩
          | i + 9, ho, _ => exact absurd ho (by simp)
        · intro us hul hus
          match us, hul, hus with
          | [x0, x1, x2, x3, x4, x5, x6, x7, x8], _, hus =>
            have h8 : x8 = .bool (!eqCn x y) := hus 8 _ rfl
            clear hus
            simp only [List.zip, List.zipWith, Reg.puts, Act.put, List.setIfInBounds_toArray, List.set_cons_succ, List.set_cons_zero]
            rcases Bool.eq_false_or_eq_true (eqCn x y) with hxy | hxy
            · have HX := Lib.hid (eqCn_iff.1 hxy)
              have h9 : x8 = .bool false := h8.trans (by rw [hxy]; rfl)
              clear hxy h8
              subst h9
              go_wp2_with fail
              go_roundw
              case rel => exact ⟨k + 1, by omega, by go_num, below_drew HB.out, by rw [← HD.out, HX.out]; simp⟩
              case measure => simp [Tree.intOf]; omega
            · have HX := Lib.hid (show ¬ xs = ys from fun e => by
                have := HD.out.2 e
                rw [List.cons.injEq] at this
                rw [eqCn_iff.2 this.1] at hxy; cases hxy)
              have h9 : x8 = .bool true := h8.trans (by rw [hxy]; rfl)
              clear hxy h8
              subst h9
              go_wp2_with fail
              go_ret
              exact ⟨false, rfl, ⟨fun h => (by cases h), fun h => absurd h HX.out⟩, below_drew HB.out⟩
      · have HT := Lib.hid (show xs = ys from hd.1 (by rw [List.drop_eq_nil_of_le (by have := HN.out; omega), List.drop_eq_nil_of_le (by have := HM.out; have := HNM.out; omega)]))
        clear hd
        go_wp2_with fail
        go_ret
        exact ⟨true, rfl, ⟨fun _ => HT.out, fun _ => rfl⟩, HB.out⟩
  · have b1 : ((n : Int) != (m : Int)) = true := by simp; omega
    have HT := Lib.hid (show ¬ xs = ys from fun e => hnm (by rw [hn, hm, e]))
    clear hn hm
    go_enter Tryz.func29, Tryz.ntmps29
    go_wp2_with fail
    go_ret
    exact ⟨false, rfl, ⟨fun h => (by cases h), fun h => absurd h HT.out⟩, Below.refl _ _⟩
end Go.Proofs.YtajfdachpdkbcaaGreatDoor.Conf
end

section
namespace Go.Proofs.YtajfdachpdkbcaaGreatDoor.Conf
open Go.RowKit Go.Proofs.YtajfdachpdkbcaaGreatDoor.Own Go.Proofs.YtajfdachpdkbcaaGreatDoor.Rw Go.Proofs.YtajfdachpdkbcaaGreatDoor.Tree

theorem rd_atU {w : World} {p : Option Addr} {c n : Nat} {L : List (Bs × Bs)} (h : Rd w 2 p c n (L.flatMap urv)) (hn : n = L.length) {i : Nat} (hi : i < L.length) :
    ∃ b o, p = some ⟨b, o, none⟩ ∧ b < w.heap.size ∧ ∀ j v, j < 2 → (urv L[i])[j]? = some v → w.cell? ⟨b, o + i * 2 + j, none⟩ = some v := by
  rcases h.cells with h0 | ⟨b, o, e, hb, k⟩
  · omega
  · exact ⟨b, o, e, hb, fun j v hj hv => by rw [Nat.add_assoc]; exact k _ _ ((fm_get urv_len hi j hj).trans hv)⟩
section
variable {o : Oper} {a : Act} {w : World} {K : Act → World → Prop} {Q : Exit → Act → World → Prop}
theorem wp_ldU (t g off : Nat) (x : (Bs × Bs)) (ho : o.op = .load 67 (.tmp t)) (h1 : a.tmps[t]? = some (.pointer (some ⟨g, off, none⟩))) (hc' : ∀ j v, j < 2 → (urv x)[j]? = some v → w.cell? ⟨g, off + j, none⟩ = some v) (h : K (a.put o.dst (usV x)) w) : Oper.wp Tryz.prog o a w K Q := by
  obtain ⟨d, op, ty, ps, af, gd⟩ := o
  cases ho
  have hc : ∀ j v, (urv x)[j]? = some v → w.cell? ⟨g, off + j, none⟩ = some v := fun j v hv => hc' j v (by have := (List.getElem?_eq_some_iff.1 hv).1; rwa [urv_len] at this) hv
  have c0 := hc 0 _ rfl
  have c1 := hc 1 _ rfl
  unfold Oper.wp
  simp only [Nat.add_zero] at c0
  simp [go_sem, h1, c0, c1, Oper.upon]
  exact h
theorem wp_ixU (t u g off n c k : Nat) (ho : o.op = .indexAddr 25 (.tmp t) (.tmp u)) (h1 : a.tmps[t]? = some (.slice (some ⟨g, off, none⟩) n c)) (h2 : a.tmps[u]? = some (.int .i64 k)) (hk : k < n) (h : K (a.put o.dst (.pointer (some ⟨g, off + k * 2, none⟩))) w) : Oper.wp Tryz.prog o a w K Q := by
  obtain ⟨d, op, ty, ps, af, gd⟩ := o
  cases ho
  have q1 : (k : Int) < (n : Int) := by omega
  unfold Oper.wp
  simp [go_sem, h1, h2, q1, Oper.upon]
  first | exact h | (rw [Nat.mul_one] at h; exact h)
theorem wp_neqU (t u : Nat) (x y : (Bs × Bs)) (ho : o.op = .binOp .neq 67 (.tmp t) (.tmp u) 67) (h1 : a.tmps[t]? = some (usV x)) (h2 : a.tmps[u]? = some (usV y)) (h : K (a.put o.dst (.bool (!eqUs x y))) w) : Oper.wp Tryz.prog o a w K Q := by
  obtain ⟨d, op, ty, ps, af, gd⟩ := o
  cases ho
  have e1 := Reg.eval_tmp h1
  have e2 := Reg.eval_tmp h2
  unfold Oper.wp execOp
  dsimp only
  rw [e1, e2]
  have hg : (eqGuard .neq 67 (.tmp t) (.tmp u) (usV x) (usV y)).run Tryz.prog w = .ok () w := by
    unfold usV
    simp [go_sem, eqGuard]
  have hn := usr_neq x y w
  rw [Sem.run_bind, Sem.run_bind, hg]
  simp only [Result.andThen_ok]
  rw [hn]
  simp only [Result.andThen_ok, Sem.run_pure, Oper.upon]
  exact h
theorem wp_mvU (t : Nat) (v : Value) (ho : o.op = .move (.tmp t)) (h1 : a.tmps[t]? = some v) (h : K (a.put o.dst v) w) : Oper.wp Tryz.prog o a w K Q := by
  obtain ⟨d, op, ty, ps, af, gd⟩ := o
  cases ho
  unfold Oper.wp
  simp [go_sem, h1, Oper.upon]
  exact h
end
set_option maxRecDepth 100000 in
set_option maxHeartbeats 4000000 in
theorem equalU_calls (xs ys : List (Bs × Bs)) (p q : Option Addr) (n m c d : Nat) (hn : n = xs.length) (hm : m = ys.length) (w : World) (h1 : Rd w 2 p c n (xs.flatMap urv)) (h2 : Rd w 2 q d m (ys.flatMap urv)) :
    Calls Tryz.prog 32 #[.slice p n c, .slice q m d] w fun e w' => ∃ r, e = .returned (.bool r) ∧ (r = true ↔ xs = ys) ∧ Below w.heap.size w w' := by
  have H1 := Lib.hid h1
  have H2 := Lib.hid h2
  have hm1 := h1.max
  have hc1 := h1.cap
  have hm2 := h2.max
  have hc2 := h2.cap
  unfold maxLen at hm1 hm2
  clear h1 h2
  by_cases hnm : n = m
  · have b1 : ((n : Int) != (m : Int)) = false := by simp [hnm]
    have HNM := Lib.hid hnm
    have HN := Lib.hid hn
    have HM := Lib.hid hm
    clear hnm hn hm
    go_enter Tryz.func32, Tryz.ntmps32
    go_wp2_with fail
    go_loopw [13] (fun i wr => ∃ k : Nat, k ≤ n ∧ i = .int .i64 k ∧ Below w.heap.size w wr ∧ (xs.drop k = ys.drop k ↔ xs = ys)) (fun i _ => n - (Tree.intOf i).toNat)
    case atStart => exact ⟨0, by omega, rfl, Below.refl _ _, Iff.rfl⟩
    case round =>
      obtain ⟨k, hk, rfl, hb, hd⟩ := hrel
      rename World => wr
      have HB := Lib.hid hb
      clear hb
      rcases Nat.lt_or_eq_of_le hk with hlt | rfl
      · have hl1 : k < xs.length := by rw [← HN.out]; exact hlt
        have hl2 : k < ys.length := by rw [← HM.out, ← HNM.out]; exact hlt
        obtain ⟨g, o, rfl, hg, c1⟩ := rd_atU (H1.out.below HB.out) HN.out hl1
        obtain ⟨g', o', rfl, hg', c2⟩ := rd_atU (H2.out.below HB.out) HM.out hl2
        have q1 : (k : Int) < (n : Int) := by omega
        rw [List.drop_eq_getElem_cons hl1, List.drop_eq_getElem_cons hl2] at hd
        have HD := Lib.hid hd
        have C1 := Lib.hid c1
        have C2 := Lib.hid c2
        have HK := Lib.hid (show k < m by have := HNM.out; omega)
        generalize xs[k] = x at *
        generalize ys[k] = y at *
        clear hd hl1 hl2 c1 c2
        go_wp2_with fail
        refine Reg.wp_vals (by kernel_rfl) [16, 17, 18, 19, 20, 21, 22, 23, 24] [.slice (some ⟨g, o, none⟩) n c, .int .i64 k, .pointer (some ⟨g, o + k * 2, none⟩), usV x, .slice (some ⟨g', o', none⟩) m d, .int .i64 k, .pointer (some ⟨g', o' + k * 2, none⟩), usV y, .bool (!eqUs x y)] (by kernel_rfl) ?_ ?_
        · intro i op a' ho hdp hot
          have t0 : a'.tmps[0]? = some _ := (hot 0 (by decide)).trans rfl
          have t1 : a'.tmps[1]? = some _ := (hot 1 (by decide)).trans rfl
          have t5 : a'.tmps[5]? = some _ := (hot 5 (by decide)).trans rfl
          match i, ho, hdp with
          | 0, ho, hdp => obtain rfl := Option.some.inj ho; exact wp_mvU 0 _ rfl t0 ⟨rfl, rfl⟩
          | 1, ho, hdp => obtain rfl := Option.some.inj ho; exact wp_mvU 5 _ rfl t5 ⟨rfl, rfl⟩
          | 2, ho, hdp => obtain rfl := Option.some.inj ho; exact wp_ixU 16 17 _ _ _ _ _ rfl (hdp 0 (Reg.mem_of (by kernel_rfl))) (hdp 1 (Reg.mem_of (by kernel_rfl))) hlt ⟨rfl, rfl⟩
          | 3, ho, hdp => obtain rfl := Option.some.inj ho; exact wp_ldU 18 _ _ x rfl (hdp 2 (Reg.mem_of (by kernel_rfl))) C1.out ⟨rfl, rfl⟩
          | 4, ho, hdp => obtain rfl := Option.some.inj ho; exact wp_mvU 1 _ rfl t1 ⟨rfl, rfl⟩
          | 5, ho, hdp => obtain rfl := Option.some.inj ho; exact wp_mvU 5 _ rfl t5 ⟨rfl, rfl⟩
          | 6, ho, hdp => obtain rfl := Option.some.inj ho; exact wp_ixU 20 21 _ _ _ _ _ rfl (hdp 4 (Reg.mem_of (by kernel_rfl))) (hdp 5 (Reg.mem_of (by kernel_rfl))) HK.out ⟨rfl, rfl⟩
          | 7, ho, hdp => obtain rfl := Option.some.inj ho; exact wp_ldU 22 _ _ y rfl (hdp 6 (Reg.mem_of (by kernel_rfl))) C2.out ⟨rfl, rfl⟩
          | 8, ho, hdp => obtain rfl := Option.some.inj ho; exact wp_neqU 19 23 x y rfl (hdp 3 (Reg.mem_of (by kernel_rfl))) (hdp 7 (Reg.mem_of (by kernel_rfl))) ⟨rfl, rfl⟩
          | i + 9, ho, _ => exact absurd ho (by simp)
        · intro us hul hus
          match us, hul, hus with
          | [x0, x1, x2, x3, x4, x5, x6, x7, x8], _, hus =>
            have h8 : x8 = .bool (!eqUs x y) := hus 8 _ rfl
            clear hus
            simp only [List.zip, List.zipWith, Reg.puts, Act.put, List.setIfInBounds_toArray, List.set_cons_succ, List.set_cons_zero]
            rcases Bool.eq_false_or_eq_true (eqUs x y) with hxy | hxy
            · have HX := Lib.hid (eqUs_iff.1 hxy)
              have h9 : x8 = .bool false := h8.trans (by rw [hxy]; rfl)
              clear hxy h8
              subst h9
              go_wp2_with fail
              go_roundw
              case rel => exact ⟨k + 1, by omega, by go_num, below_drew HB.out, by rw [← HD.out, HX.out]; simp⟩
              case measure => simp [Tree.intOf]; omega
            · have HX := Lib.hid (show ¬ xs = ys from fun e => by
                have := HD.out.2 e
                rw [List.cons.injEq] at this
                rw [eqUs_iff.2 this.1] at hxy; cases hxy)
              have h9 : x8 = .bool true := h8.trans (by rw [hxy]; rfl)
              clear hxy h8
              subst h9
              go_wp2_with fail
              go_ret
              exact ⟨false, rfl, ⟨fun h => (by cases h), fun h => absurd h HX.out⟩, below_drew HB.out⟩
      · have HT := Lib.hid (show xs = ys from hd.1 (by rw [List.drop_eq_nil_of_le (by have := HN.out; omega), List.drop_eq_nil_of_le (by have := HM.out; have := HNM.out; omega)]))
        clear hd
        go_wp2_with fail
        go_ret
        exact ⟨true, rfl, ⟨fun _ => HT.out, fun _ => rfl⟩, HB.out⟩
  · have b1 : ((n : Int) != (m : Int)) = true := by simp; omega
    have HT := Lib.hid (show ¬ xs = ys from fun e => hnm (by rw [hn, hm, e]))
    clear hn hm
    go_enter Tryz.func32, Tryz.ntmps32
    go_wp2_with fail
    go_ret
    exact ⟨false, rfl, ⟨fun h => (by cases h), fun h => absurd h HT.out⟩, Below.refl _ _⟩
end Go.Proofs.YtajfdachpdkbcaaGreatDoor.Conf
end

section
namespace Go.Proofs.YtajfdachpdkbcaaGreatDoor.Conf
open Go.RowKit Go.Proofs.YtajfdachpdkbcaaGreatDoor.Own Go.Proofs.YtajfdachpdkbcaaGreatDoor.Rw Go.Proofs.YtajfdachpdkbcaaGreatDoor.Tree

theorem rd_atA {w : World} {p : Option Addr} {c n : Nat} {L : List (Bs × Bs × Int)} (h : Rd w 3 p c n (L.flatMap acv)) (hn : n = L.length) {i : Nat} (hi : i < L.length) :
    ∃ b o, p = some ⟨b, o, none⟩ ∧ b < w.heap.size ∧ ∀ j v, j < 3 → (acv L[i])[j]? = some v → w.cell? ⟨b, o + i * 3 + j, none⟩ = some v := by
  rcases h.cells with h0 | ⟨b, o, e, hb, k⟩
  · omega
  · exact ⟨b, o, e, hb, fun j v hj hv => by rw [Nat.add_assoc]; exact k _ _ ((fm_get acv_len hi j hj).trans hv)⟩
section
variable {o : Oper} {a : Act} {w : World} {K : Act → World → Prop} {Q : Exit → Act → World → Prop}
theorem wp_ldA (t g off : Nat) (x : (Bs × Bs × Int)) (ho : o.op = .load 46 (.tmp t)) (h1 : a.tmps[t]? = some (.pointer (some ⟨g, off, none⟩))) (hc' : ∀ j v, j < 3 → (acv x)[j]? = some v → w.cell? ⟨g, off + j, none⟩ = some v) (h : K (a.put o.dst (acV x)) w) : Oper.wp Tryz.prog o a w K Q := by
  obtain ⟨d, op, ty, ps, af, gd⟩ := o
  cases ho
  have hc : ∀ j v, (acv x)[j]? = some v → w.cell? ⟨g, off + j, none⟩ = some v := fun j v hv => hc' j v (by have := (List.getElem?_eq_some_iff.1 hv).1; rwa [acv_len] at this) hv
  have c0 := hc 0 _ rfl
  have c1 := hc 1 _ rfl
  have c2 := hc 2 _ rfl
  unfold Oper.wp
  simp only [Nat.add_zero] at c0
  simp [go_sem, h1, c0, c1, c2, Oper.upon]
  exact h
theorem wp_ixA (t u g off n c k : Nat) (ho : o.op = .indexAddr 26 (.tmp t) (.tmp u)) (h1 : a.tmps[t]? = some (.slice (some ⟨g, off, none⟩) n c)) (h2 : a.tmps[u]? = some (.int .i64 k)) (hk : k < n) (h : K (a.put o.dst (.pointer (some ⟨g, off + k * 3, none⟩))) w) : Oper.wp Tryz.prog o a w K Q := by
  obtain ⟨d, op, ty, ps, af, gd⟩ := o
  cases ho
  have q1 : (k : Int) < (n : Int) := by omega
  unfold Oper.wp
  simp [go_sem, h1, h2, q1, Oper.upon]
  first | exact h | (rw [Nat.mul_one] at h; exact h)
theorem wp_neqA (t u : Nat) (x y : (Bs × Bs × Int)) (ho : o.op = .binOp .neq 46 (.tmp t) (.tmp u) 46) (h1 : a.tmps[t]? = some (acV x)) (h2 : a.tmps[u]? = some (acV y)) (h : K (a.put o.dst (.bool (!eqAc x y))) w) : Oper.wp Tryz.prog o a w K Q := by
  obtain ⟨d, op, ty, ps, af, gd⟩ := o
  cases ho
  have e1 := Reg.eval_tmp h1
  have e2 := Reg.eval_tmp h2
  unfold Oper.wp execOp
  dsimp only
  rw [e1, e2]
  have hg : (eqGuard .neq 46 (.tmp t) (.tmp u) (acV x) (acV y)).run Tryz.prog w = .ok () w := by
    unfold acV
    simp [go_sem, eqGuard]
  have hn := acc_neq x y w
  rw [Sem.run_bind, Sem.run_bind, hg]
  simp only [Result.andThen_ok]
  rw [hn]
  simp only [Result.andThen_ok, Sem.run_pure, Oper.upon]
  exact h
theorem wp_mvA (t : Nat) (v : Value) (ho : o.op = .move (.tmp t)) (h1 : a.tmps[t]? = some v) (h : K (a.put o.dst v) w) : Oper.wp Tryz.prog o a w K Q := by
  obtain ⟨d, op, ty, ps, af, gd⟩ := o
  cases ho
  unfold Oper.wp
  simp [go_sem, h1, Oper.upon]
  exact h
end
set_option maxRecDepth 100000 in
set_option maxHeartbeats 4000000 in
theorem equalA_calls (xs ys : List (Bs × Bs × Int)) (p q : Option Addr) (n m c d : Nat) (hn : n = xs.length) (hm : m = ys.length) (w : World) (h1 : Rd w 3 p c n (xs.flatMap acv)) (h2 : Rd w 3 q d m (ys.flatMap acv)) :
    Calls Tryz.prog 33 #[.slice p n c, .slice q m d] w fun e w' => ∃ r, e = .returned (.bool r) ∧ (r = true ↔ xs = ys) ∧ Below w.heap.size w w' := by
  have H1 := Lib.hid h1
  have H2 := Lib.hid h2
  have hm1 := h1.max
  have hc1 := h1.cap
  have hm2 := h2.max
  have hc2 := h2.cap
  unfold maxLen at hm1 hm2
  clear h1 h2
  by_cases hnm : n = m
  · have b1 : ((n : Int) != (m : Int)) = false := by simp [hnm]
    have HNM := Lib.hid hnm
    have HN := Lib.hid hn
    have HM := Lib.hid hm
    clear hnm hn hm
    go_enter Tryz.func33, Tryz.ntmps33
    go_wp2_with fail
    go_loopw [13] (fun i wr => ∃ k : Nat, k ≤ n ∧ i = .int .i64 k ∧ Below w.heap.size w wr ∧ (xs.drop k = ys.drop k ↔ xs = ys)) (fun i _ => n - (Tree.intOf i).toNat)
    case atStart => exact ⟨0, by omega, rfl, Below.refl _ _, Iff.rfl⟩
    case round =>
      obtain ⟨k, hk, rfl, hb, hd⟩ := hrel
      rename World => wr
      have HB := Lib.hid hb
      clear hb
      rcases Nat.lt_or_eq_of_le hk with hlt | rfl
      · have hl1 : k < xs.length := by rw [← HN.out]; exact hlt
        have hl2 : k < ys.length := by rw [← HM.out, ← HNM.out]; exact hlt
        obtain ⟨g, o, rfl, hg, c1⟩ := rd_atA (H1.out.below HB.out) HN.out hl1
        obtain ⟨g', o', rfl, hg', c2⟩ := rd_atA (H2.out.below HB.out) HM.out hl2
        have q1 : (k : Int) < (n : Int) := by omega
        rw [List.drop_eq_getElem_cons hl1, List.drop_eq_getElem_cons hl2] at hd
        have HD := Lib.hid hd
        have C1 := Lib.hid c1
        have C2 := Lib.hid c2
        have HK := Lib.hid (show k < m by have := HNM.out; omega)
        generalize xs[k] = x at *
        generalize ys[k] = y at *
        clear hd hl1 hl2 c1 c2
        go_wp2_with fail
        refine Reg.wp_vals (by kernel_rfl) [16, 17, 18, 19, 20, 21, 22, 23, 24] [.slice (some ⟨g, o, none⟩) n c, .int .i64 k, .pointer (some ⟨g, o + k * 3, none⟩), acV x, .slice (some ⟨g', o', none⟩) m d, .int .i64 k, .pointer (some ⟨g', o' + k * 3, none⟩), acV y, .bool (!eqAc x y)] (by kernel_rfl) ?_ ?_
        · intro i op a' ho hdp hot
          have t0 : a'.tmps[0]? = some _ := (hot 0 (by decide)).trans rfl
          have t1 : a'.tmps[1]? = some _ := (hot 1 (by decide)).trans rfl
          have t5 : a'.tmps[5]? = some _ := (hot 5 (by decide)).trans rfl
          match i, ho, hdp with
          | 0, ho, hdp => obtain rfl := Option.some.inj ho; exact wp_mvA 0 _ rfl t0 ⟨rfl, rfl⟩
          | 1, ho, hdp => obtain rfl := Option.some.inj ho; exact wp_mvA 5 _ rfl t5 ⟨rfl, rfl⟩
          | 2, ho, hdp => obtain rfl := Option.some.inj ho; exact wp_ixA 16 17 _ _ _ _ _ rfl (hdp 0 (Reg.mem_of (by kernel_rfl))) (hdp 1 (Reg.mem_of (by kernel_rfl))) hlt ⟨rfl, rfl⟩
          | 3, ho, hdp => obtain rfl := Option.some.inj ho; exact wp_ldA 18 _ _ x rfl (hdp 2 (Reg.mem_of (by kernel_rfl))) C1.out ⟨rfl, rfl⟩
          | 4, ho, hdp => obtain rfl := Option.some.inj ho; exact wp_mvA 1 _ rfl t1 ⟨rfl, rfl⟩
          | 5, ho, hdp => obtain rfl := Option.some.inj ho; exact wp_mvA 5 _ rfl t5 ⟨rfl, rfl⟩
          | 6, ho, hdp => obtain rfl := Option.some.inj ho; exact wp_ixA 20 21 _ _ _ _ _ rfl (hdp 4 (Reg.mem_of (by kernel_rfl))) (hdp 5 (Reg.mem_of (by kernel_rfl))) HK.out ⟨rfl, rfl⟩
          | 7, ho, hdp => obtain rfl := Option.some.inj ho; exact wp_ldA 22 _ _ y rfl (hdp 6 (Reg.mem_of (by kernel_rfl))) C2.out ⟨rfl, rfl⟩
          | 8, ho, hdp => obtain rfl := Option.some.inj ho; exact wp_neqA 19 23 x y rfl (hdp 3 (Reg.mem_of (by kernel_rfl))) (hdp 7 (Reg.mem_of (by kernel_rfl))) ⟨rfl, rfl⟩
          | i + 9, ho, _ => exact absurd ho (by simp)
        · intro us hul hus
          match us, hul, hus with
          | [x0, x1, x2, x3, x4, x5, x6, x7, x8], _, hus =>
            have h8 : x8 = .bool (!eqAc x y) := hus 8 _ rfl
            clear hus
            simp only [List.zip, List.zipWith, Reg.puts, Act.put, List.setIfInBounds_toArray, List.set_cons_succ, List.set_cons_zero]
            rcases Bool.eq_false_or_eq_true (eqAc x y) with hxy | hxy
            · have HX := Lib.hid (eqAc_iff.1 hxy)
              have h9 : x8 = .bool false := h8.trans (by rw [hxy]; rfl)
              clear hxy h8
              subst h9
              go_wp2_with fail
              go_roundw
              case rel => exact ⟨k + 1, by omega, by go_num, below_drew HB.out, by rw [← HD.out, HX.out]; simp⟩
              case measure => simp [Tree.intOf]; omega
            · have HX := Lib.hid (show ¬ xs = ys from fun e => by
                have := HD.out.2 e
                rw [List.cons.injEq] at this
                rw [eqAc_iff.2 this.1] at hxy; cases hxy)
              have h9 : x8 = .bool true := h8.trans (by rw [hxy]; rfl)
              clear hxy h8
              subst h9
              go_wp2_with fail
              go_ret
              exact ⟨false, rfl, ⟨fun h => (by cases h), fun h => absurd h HX.out⟩, below_drew HB.out⟩
      · have HT := Lib.hid (show xs = ys from hd.1 (by rw [List.drop_eq_nil_of_le (by have := HN.out; omega), List.drop_eq_nil_of_le (by have := HM.out; have := HNM.out; omega)]))
        clear hd
        go_wp2_with fail
        go_ret
        exact ⟨true, rfl, ⟨fun _ => HT.out, fun _ => rfl⟩, HB.out⟩
  · have b1 : ((n : Int) != (m : Int)) = true := by simp; omega
    have HT := Lib.hid (show ¬ xs = ys from fun e => hnm (by rw [hn, hm, e]))
    clear hn hm
    go_enter Tryz.func33, Tryz.ntmps33
    go_wp2_with fail
    go_ret
    exact ⟨false, rfl, ⟨fun h => (by cases h), fun h => absurd h HT.out⟩, Below.refl _ _⟩
end Go.Proofs.YtajfdachpdkbcaaGreatDoor.Conf
end

section
namespace Go.Proofs.YtajfdachpdkbcaaGreatDoor.Conf
open Go.RowKit Go.Proofs.YtajfdachpdkbcaaGreatDoor.Own Go.Proofs.YtajfdachpdkbcaaGreatDoor.Rw Go.Proofs.YtajfdachpdkbcaaGreatDoor.Tree

theorem rd_atS {w : World} {p : Option Addr} {c n : Nat} {L : List Bs} (h : Rd w 1 p c n (L.flatMap stv)) (hn : n = L.length) {i : Nat} (hi : i < L.length) :
    ∃ b o, p = some ⟨b, o, none⟩ ∧ b < w.heap.size ∧ ∀ j v, j < 1 → (stv L[i])[j]? = some v → w.cell? ⟨b, o + i * 1 + j, none⟩ = some v := by
  rcases h.cells with h0 | ⟨b, o, e, hb, k⟩
  · omega
  · exact ⟨b, o, e, hb, fun j v hj hv => by rw [Nat.add_assoc]; exact k _ _ ((fm_get stv_len hi j hj).trans hv)⟩
section
variable {o : Oper} {a : Act} {w : World} {K : Act → World → Prop} {Q : Exit → Act → World → Prop}
theorem wp_ldS (t g off : Nat) (x : Bs) (ho : o.op = .load 9 (.tmp t)) (h1 : a.tmps[t]? = some (.pointer (some ⟨g, off, none⟩))) (hc' : ∀ j v, j < 1 → (stv x)[j]? = some v → w.cell? ⟨g, off + j, none⟩ = some v) (h : K (a.put o.dst (stV x)) w) : Oper.wp Tryz.prog o a w K Q := by
  obtain ⟨d, op, ty, ps, af, gd⟩ := o
  cases ho
  have hc : ∀ j v, (stv x)[j]? = some v → w.cell? ⟨g, off + j, none⟩ = some v := fun j v hv => hc' j v (by have := (List.getElem?_eq_some_iff.1 hv).1; rwa [stv_len] at this) hv
  have c0 := hc 0 _ rfl
  unfold Oper.wp
  simp only [Nat.add_zero] at c0
  simp [go_sem, h1, c0, Oper.upon]
  exact h
theorem wp_ixS (t u g off n c k : Nat) (ho : o.op = .indexAddr 55 (.tmp t) (.tmp u)) (h1 : a.tmps[t]? = some (.slice (some ⟨g, off, none⟩) n c)) (h2 : a.tmps[u]? = some (.int .i64 k)) (hk : k < n) (h : K (a.put o.dst (.pointer (some ⟨g, off + k * 1, none⟩))) w) : Oper.wp Tryz.prog o a w K Q := by
  obtain ⟨d, op, ty, ps, af, gd⟩ := o
  cases ho
  have q1 : (k : Int) < (n : Int) := by omega
  unfold Oper.wp
  simp [go_sem, h1, h2, q1, Oper.upon]
  first | exact h | (rw [Nat.mul_one] at h; exact h)
theorem wp_neqS (t u : Nat) (x y : Bs) (ho : o.op = .binOp .neq 9 (.tmp t) (.tmp u) 9) (h1 : a.tmps[t]? = some (stV x)) (h2 : a.tmps[u]? = some (stV y)) (h : K (a.put o.dst (.bool (!eqSt x y))) w) : Oper.wp Tryz.prog o a w K Q := by
  obtain ⟨d, op, ty, ps, af, gd⟩ := o
  cases ho
  have e1 := Reg.eval_tmp h1
  have e2 := Reg.eval_tmp h2
  unfold Oper.wp execOp
  dsimp only
  rw [e1, e2]
  have hg : (eqGuard .neq 9 (.tmp t) (.tmp u) (stV x) (stV y)).run Tryz.prog w = .ok () w := by
    unfold stV
    simp [go_sem, eqGuard]
  have hn := st_neq x y w
  rw [Sem.run_bind, Sem.run_bind, hg]
  simp only [Result.andThen_ok]
  rw [hn]
  simp only [Result.andThen_ok, Sem.run_pure, Oper.upon]
  exact h
theorem wp_mvS (t : Nat) (v : Value) (ho : o.op = .move (.tmp t)) (h1 : a.tmps[t]? = some v) (h : K (a.put o.dst v) w) : Oper.wp Tryz.prog o a w K Q := by
  obtain ⟨d, op, ty, ps, af, gd⟩ := o
  cases ho
  unfold Oper.wp
  simp [go_sem, h1, Oper.upon]
  exact h
end
set_option maxRecDepth 100000 in
set_option maxHeartbeats 4000000 in
theorem equalS_calls (xs ys : List Bs) (p q : Option Addr) (n m c d : Nat) (hn : n = xs.length) (hm : m = ys.length) (w : World) (h1 : Rd w 1 p c n (xs.flatMap stv)) (h2 : Rd w 1 q d m (ys.flatMap stv)) :
    Calls Tryz.prog 56 #[.slice p n c, .slice q m d] w fun e w' => ∃ r, e = .returned (.bool r) ∧ (r = true ↔ xs = ys) ∧ Below w.heap.size w w' := by
  have H1 := Lib.hid h1
  have H2 := Lib.hid h2
  have hm1 := h1.max
  have hc1 := h1.cap
  have hm2 := h2.max
  have hc2 := h2.cap
  unfold maxLen at hm1 hm2
  clear h1 h2
  by_cases hnm : n = m
  · have b1 : ((n : Int) != (m : Int)) = false := by simp [hnm]
    have HNM := Lib.hid hnm
    have HN := Lib.hid hn
    have HM := Lib.hid hm
    clear hnm hn hm
    go_enter Tryz.func56, Tryz.ntmps56
    go_wp2_with fail
    go_loopw [13] (fun i wr => ∃ k : Nat, k ≤ n ∧ i = .int .i64 k ∧ Below w.heap.size w wr ∧ (xs.drop k = ys.drop k ↔ xs = ys)) (fun i _ => n - (Tree.intOf i).toNat)
    case atStart => exact ⟨0, by omega, rfl, Below.refl _ _, Iff.rfl⟩
    case round =>
      obtain ⟨k, hk, rfl, hb, hd⟩ := hrel
      rename World => wr
      have HB := Lib.hid hb
      clear hb
      rcases Nat.lt_or_eq_of_le hk with hlt | rfl
      · have hl1 : k < xs.length := by rw [← HN.out]; exact hlt
        have hl2 : k < ys.length := by rw [← HM.out, ← HNM.out]; exact hlt
        obtain ⟨g, o, rfl, hg, c1⟩ := rd_atS (H1.out.below HB.out) HN.out hl1
        obtain ⟨g', o', rfl, hg', c2⟩ := rd_atS (H2.out.below HB.out) HM.out hl2
        have q1 : (k : Int) < (n : Int) := by omega
        rw [List.drop_eq_getElem_cons hl1, List.drop_eq_getElem_cons hl2] at hd
        have HD := Lib.hid hd
        have C1 := Lib.hid c1
        have C2 := Lib.hid c2
        have HK := Lib.hid (show k < m by have := HNM.out; omega)
        generalize xs[k] = x at *
        generalize ys[k] = y at *
        clear hd hl1 hl2 c1 c2
        go_wp2_with fail
        refine Reg.wp_vals (by kernel_rfl) [16, 17, 18, 19, 20, 21, 22, 23, 24] [.slice (some ⟨g, o, none⟩) n c, .int .i64 k, .pointer (some ⟨g, o + k * 1, none⟩), stV x, .slice (some ⟨g', o', none⟩) m d, .int .i64 k, .pointer (some ⟨g', o' + k * 1, none⟩), stV y, .bool (!eqSt x y)] (by kernel_rfl) ?_ ?_
        · intro i op a' ho hdp hot
          have t0 : a'.tmps[0]? = some _ := (hot 0 (by decide)).trans rfl
          have t1 : a'.tmps[1]? = some _ := (hot 1 (by decide)).trans rfl
          have t5 : a'.tmps[5]? = some _ := (hot 5 (by decide)).trans rfl
          match i, ho, hdp with
          | 0, ho, hdp => obtain rfl := Option.some.inj ho; exact wp_mvS 0 _ rfl t0 ⟨rfl, rfl⟩
          | 1, ho, hdp => obtain rfl := Option.some.inj ho; exact wp_mvS 5 _ rfl t5 ⟨rfl, rfl⟩
          | 2, ho, hdp => obtain rfl := Option.some.inj ho; exact wp_ixS 16 17 _ _ _ _ _ rfl (hdp 0 (Reg.mem_of (by kernel_rfl))) (hdp 1 (Reg.mem_of (by kernel_rfl))) hlt ⟨rfl, rfl⟩
          | 3, ho, hdp => obtain rfl := Option.some.inj ho; exact wp_ldS 18 _ _ x rfl (hdp 2 (Reg.mem_of (by kernel_rfl))) C1.out ⟨rfl, rfl⟩
          | 4, ho, hdp => obtain rfl := Option.some.inj ho; exact wp_mvS 1 _ rfl t1 ⟨rfl, rfl⟩
          | 5, ho, hdp => obtain rfl := Option.some.inj ho; exact wp_mvS 5 _ rfl t5 ⟨rfl, rfl⟩
          | 6, ho, hdp => obtain rfl := Option.some.inj ho; exact wp_ixS 20 21 _ _ _ _ _ rfl (hdp 4 (Reg.mem_of (by kernel_rfl))) (hdp 5 (Reg.mem_of (by kernel_rfl))) HK.out ⟨rfl, rfl⟩
          | 7, ho, hdp => obtain rfl := Option.some.inj ho; exact wp_ldS 22 _ _ y rfl (hdp 6 (Reg.mem_of (by kernel_rfl))) C2.out ⟨rfl, rfl⟩
          | 8, ho, hdp => obtain rfl := Option.some.inj ho; exact wp_neqS 19 23 x y rfl (hdp 3 (Reg.mem_of (by kernel_rfl))) (hdp 7 (Reg.mem_of (by kernel_rfl))) ⟨rfl, rfl⟩
          | i + 9, ho, _ => exact absurd ho (by simp)
        · intro us hul hus
          match us, hul, hus with
          | [x0, x1, x2, x3, x4, x5, x6, x7, x8], _, hus =>
            have h8 : x8 = .bool (!eqSt x y) := hus 8 _ rfl
            clear hus
            simp only [List.zip, List.zipWith, Reg.puts, Act.put, List.setIfInBounds_toArray, List.set_cons_succ, List.set_cons_zero]
            rcases Bool.eq_false_or_eq_true (eqSt x y) with hxy | hxy
            · have HX := Lib.hid (eqSt_iff.1 hxy)
              have h9 : x8 = .bool false := h8.trans (by rw [hxy]; rfl)
              clear hxy h8
              subst h9
              go_wp2_with fail
              go_roundw
              case rel => exact ⟨k + 1, by omega, by go_num, below_drew HB.out, by rw [← HD.out, HX.out]; simp⟩
              case measure => simp [Tree.intOf]; omega
            · have HX := Lib.hid (show ¬ xs = ys from fun e => by
                have := HD.out.2 e
                rw [List.cons.injEq] at this
                rw [eqSt_iff.2 this.1] at hxy; cases hxy)
              have h9 : x8 = .bool true := h8.trans (by rw [hxy]; rfl)
              clear hxy h8
              subst h9
              go_wp2_with fail
              go_ret
              exact ⟨false, rfl, ⟨fun h => (by cases h), fun h => absurd h HX.out⟩, below_drew HB.out⟩
      · have HT := Lib.hid (show xs = ys from hd.1 (by rw [List.drop_eq_nil_of_le (by have := HN.out; omega), List.drop_eq_nil_of_le (by have := HM.out; have := HNM.out; omega)]))
        clear hd
        go_wp2_with fail
        go_ret
        exact ⟨true, rfl, ⟨fun _ => HT.out, fun _ => rfl⟩, HB.out⟩
  · have b1 : ((n : Int) != (m : Int)) = true := by simp; omega
    have HT := Lib.hid (show ¬ xs = ys from fun e => hnm (by rw [hn, hm, e]))
    clear hn hm
    go_enter Tryz.func56, Tryz.ntmps56
    go_wp2_with fail
    go_ret
    exact ⟨false, rfl, ⟨fun h => (by cases h), fun h => absurd h HT.out⟩, Below.refl _ _⟩
end Go.Proofs.YtajfdachpdkbcaaGreatDoor.Conf
end

section
namespace Go.Proofs.YtajfdachpdkbcaaGreatDoor.Digit
open Go.RowKit

theorem ret_string {a b : ByteArray} (h : a = b) : Ending.returned (.string a) = .returned (.string b) := by rw [h]

theorem bytes_add (a b : List UInt8) : ((⟨a.toArray⟩ : ByteArray) ++ ⟨b.toArray⟩) = ⟨(a ++ b).toArray⟩ := by
  apply ByteArray.ext; simp

set_option maxHeartbeats 400000 in
theorem rdigit_calls (n : Int) (h0 : 0 ≤ n) (h1 : n < 16) (w : World) :
    Calls Tryz.prog 57 #[.int .i64 n] w fun e w' => e = .returned (.string ⟨#[hexd n.toNat]⟩) ∧ w = w' := by
  have h : n = 0 ∨ n = 1 ∨ n = 2 ∨ n = 3 ∨ n = 4 ∨ n = 5 ∨ n = 6 ∨ n = 7 ∨ n = 8 ∨ n = 9 ∨ n = 10 ∨ n = 11 ∨ n = 12 ∨ n = 13 ∨ n = 14 ∨ n = 15 := by omega
  rcases h with rfl | rfl | rfl | rfl | rfl | rfl | rfl | rfl | rfl | rfl | rfl | rfl | rfl | rfl | rfl | rfl
  all_goals
    go_enter Tryz.func57, Tryz.ntmps57
    go_wp2
    go_ret
    exact ⟨rfl, rfl⟩

theorem rput_any (k : Nat) : ∀ (n : Int) (w : World), n.natAbs < k → -9223372036854775808 ≤ n → n ≤ 9223372036854775807 →
    Calls Tryz.prog 35 #[.int .i64 n] w fun e w' => e = .returned (.string ⟨(dec n).toArray⟩) ∧ w = w' := by
  induction k with
  | zero => intro n w hk; omega
  | succ k ih =>
    intro n w hk h1 h2
    by_cases hp : 0 ≤ n
    · by_cases h10 : n < 10
      · go_enter Tryz.func35, Tryz.ntmps35
        go_wp2_with (go_at_call 57; refine (rdigit_calls _ (by omega) (by omega) _).mono ?_; rintro e w' ⟨rfl, rfl⟩)
        go_ret
        exact ⟨ret_string (by rw [dec_lt (by omega) (by omega)]), rfl⟩
      · have H := Lib.hid (dec_ge (n := n) (by omega))
        have L := dec_len (n := n / 10) (by omega) (by omega)
        go_enter Tryz.func35, Tryz.ntmps35
        go_wp2_with (first | (go_at_call 57; refine (rdigit_calls _ (by omega) (by omega) _).mono ?_; rintro e w' ⟨rfl, rfl⟩) | (go_at_call 35; refine (ih _ _ (by omega) (by omega) (by omega)).mono ?_; rintro e w' ⟨rfl, rfl⟩))
        go_ret
        exact ⟨ret_string (by rw [H.out]; exact bytes_add _ [_]), rfl⟩
    · by_cases h10 : -10 < n
      · go_enter Tryz.func35, Tryz.ntmps35
        go_wp2_with (go_at_call 57; refine (rdigit_calls _ (by omega) (by omega) _).mono ?_; rintro e w' ⟨rfl, rfl⟩)
        go_ret
        exact ⟨ret_string (by rw [dec_neg_lt (by omega) (by omega)]; rfl), rfl⟩
      · have H := Lib.hid (dec_le (n := n) (by omega))
        obtain ⟨t1, t2, t3, t4⟩ := tdiv_facts (n := n) (by omega)
        have L := dec_len (n := n.tdiv 10) (by omega) (by omega)
        by_cases hm : n.tmod 10 < 0
        · go_enter Tryz.func35, Tryz.ntmps35
          go_wp2_with (first | (go_at_call 57; refine (rdigit_calls _ (by omega) (by omega) _).mono ?_; rintro e w' ⟨rfl, rfl⟩) | (go_at_call 35; refine (ih _ _ (by omega) (by omega) (by omega)).mono ?_; rintro e w' ⟨rfl, rfl⟩))
          go_ret
          exact ⟨ret_string (by rw [H.out]; exact bytes_add _ [_]), rfl⟩
        · go_enter Tryz.func35, Tryz.ntmps35
          go_wp2_with (first | (go_at_call 57; refine (rdigit_calls _ (by omega) (by omega) _).mono ?_; rintro e w' ⟨rfl, rfl⟩) | (go_at_call 35; refine (ih _ _ (by omega) (by omega) (by omega)).mono ?_; rintro e w' ⟨rfl, rfl⟩))
          go_ret
          exact ⟨ret_string (by rw [H.out, show n.tmod 10 = 0 by omega]; exact bytes_add _ [_]), rfl⟩
theorem rput_calls (n : Int) (h1 : -9223372036854775808 ≤ n) (h2 : n ≤ 9223372036854775807) (w : World) :
    Calls Tryz.prog 35 #[.int .i64 n] w fun e w' => e = .returned (.string ⟨(dec n).toArray⟩) ∧ w = w' :=
  rput_any (n.natAbs + 1) n w (by omega) h1 h2

theorem ret_byte {a b c d : Int} (h : a = b) (g : c = d) : Ending.returned (.tuple #[.int .u8 a, .int .i64 c]) = .returned (.tuple #[.int .u8 b, .int .i64 d]) := by rw [h, g]
theorem ret_num {a b c d : Int} (h : a = b) (g : c = d) : Ending.returned (.tuple #[.int .i64 a, .int .i64 c]) = .returned (.tuple #[.int .i64 b, .int .i64 d]) := by rw [h, g]
theorem size_mk (l : List UInt8) : (⟨l.toArray⟩ : ByteArray).size = l.length := rfl
def lenOf : Value → Nat | .string b => b.size | _ => 0

theorem string_cons (c : UInt8) (l : List UInt8) : Value.string ((⟨#[c]⟩ : ByteArray) ++ ⟨l.toArray⟩) = .string ⟨(c :: l).toArray⟩ := congrArg _ (bytes_add [c] l)

end Go.Proofs.YtajfdachpdkbcaaGreatDoor.Digit
end

section
namespace Go.Proofs.YtajfdachpdkbcaaGreatDoor.Digit
open Go.RowKit

theorem ret_u64 {a b : Int} (h : a = b) : Ending.returned (.int .u64 a) = .returned (.int .u64 b) := by rw [h]

theorem neg_u64 {n : Int} (h1 : -9223372036854775808 ≤ n) (h : n < 0) : IntKind.u64.wrap (-IntKind.u64.wrap n) = (n.natAbs : Int) := by
  have e : ∀ x : Int, IntKind.u64.wrap x = x % 18446744073709551616 := fun x => by rfl
  rw [e, e]; omega

theorem size_calls (n : Int) (h1 : -9223372036854775808 ≤ n) (h2 : n ≤ 9223372036854775807) (w : World) :
    Calls Tryz.prog 52 #[.int .i64 n] w fun e w' => e = .returned (.int .u64 (n.natAbs : Int)) ∧ w = w' := by
  by_cases h : n < 0
  · go_enter Tryz.func52, Tryz.ntmps52
    go_wp2_with fail
    go_ret
    exact ⟨ret_u64 (neg_u64 h1 h), rfl⟩
  · go_enter Tryz.func52, Tryz.ntmps52
    go_wp2_with fail
    go_ret
    exact ⟨ret_u64 (by omega), rfl⟩

theorem set_cells {w : World} {b : Nat} {C : Array Value} {t : TypeId} (h : w.heap[b]? = some (.cells C t (0, 0))) (i : Nat) (v : Value) : (w.setCell ⟨b, i, none⟩ v).heap[b]? = some (.cells (C.setIfInBounds i v) t (0, 0)) := by
  have hlt := lt_of_block h
  have h' : w.heap[b] = .cells C t (0, 0) := by simpa [Array.getElem?_eq_getElem hlt] using h
  show (w.heap.modify b _)[b]? = _
  rw [Array.getElem?_eq_getElem (by simpa using hlt), Array.getElem_modify_self, h']
  rfl

/-- the array's cells from p on hold the bytes ds -/
def ArrAt (w : World) (t : TypeId) (B p : Nat) (ds : List UInt8) : Prop :=
  ∃ C, w.heap[B]? = some (.cells C t (0, 0)) ∧ C.size = 20 ∧ ds.length + p = 20 ∧ ∀ i (h : i < ds.length), C[p + i]? = some (.int .u8 (ds[i].toNat : Int))

theorem arr_start {w : World} {t : TypeId} {C : Array Value} (hC : C.size = 20) : ArrAt (w.alloc (.cells C t)) t w.heap.size 20 [] :=
  ⟨C, by show (w.heap.push _)[w.heap.size]? = _; simp, hC, rfl, fun i h => absurd h (by simp)⟩
theorem arr_push {w : World} {t : TypeId} {B p : Nat} {ds : List UInt8} (h : ArrAt w t B p ds) (hp : 1 ≤ p) {c : Int} (h0 : 0 ≤ c) (h1 : c < 256) : ArrAt (w.setCell ⟨B, p - 1, none⟩ (.int .u8 c)) t B (p - 1) (c.toNat.toUInt8 :: ds) := by
  obtain ⟨C, hC, hs, hl, hd⟩ := h
  refine ⟨_, set_cells hC _ _, by simp [hs], by simp; omega, fun i hi => ?_⟩
  cases i with
  | zero => simp [Array.getElem?_setIfInBounds, hs]; omega
  | succ i =>
    have := hd i (by simpa using hi)
    rw [Array.getElem?_setIfInBounds, if_neg (by omega), show p - 1 + (i + 1) = p + i by omega, this]; rfl
theorem arr_cell {w : World} {t : TypeId} {B p : Nat} {ds : List UInt8} (h : ArrAt w t B p ds) {i : Nat} (hi : i < 20) : ∃ x, w.cell? ⟨B, i, none⟩ = some x ∧ w.frozen? ⟨B, i, none⟩ = false := by
  obtain ⟨C, hC, hs, -, -⟩ := h
  refine ⟨C[i]'(by omega), ?_, by simp [World.frozen?, hC]⟩
  simp [World.cell?, hC]
theorem arr_text {P : Program} {w : World} {t : TypeId} {B p : Nat} {ds : List UInt8} (h : ArrAt w t B p ds) (src dst e : TypeId) (hs : P.underlying src = some (.slice e)) (he : P.underlying e = some (.int .u8)) (hd : P.underlying dst = some .string) (n cap : Nat) (hn : n = 20 - p) :
    (convert src dst (.slice (some ⟨B, p, none⟩) n cap)).run P w = .ok (.string ⟨ds.toArray⟩) w := by
  obtain ⟨C, hC, hsz, hl, hdd⟩ := h
  rw [show n = ds.length by omega]
  refine run_convert_bytes_back w src dst e _ cap ds hs he hd (fun j hj => ?_)
  rw [← hdd j hj]
  have : (⟨B, p, none⟩ : Addr).add j = ⟨B, p + j, none⟩ := by unfold Addr.add; split <;> simp_all
  rw [this]
  simp [World.cell?, hC]

/-- a[l:] of the array -/
theorem arr_slice (W : World) (B q : Nat) (l : Int) (hl : l = q) (hq : q < 20) :
    (Instr.sliceAt 110 (.pointer (some ⟨B, 0, none⟩)) (some (.int .i64 l)) none none).run Tryz.prog W = .ok (.slice (some ⟨B, q, none⟩) (20 - q) (20 - q)) W := by
  have hal : Tryz.prog.arrayLen 110 = 20 := by simp [Program.arrayLen, Tryz.underlying110]
  have hel : Tryz.prog.elem 110 = 5 := by simp [Program.elem, Tryz.underlying110]
  subst hl
  rw [run_sliceAt_array_l W 110 ⟨B, 0, none⟩ (by rw [hal, hel]; exact Tryz.underlying110) .i64 q (by omega) (by rw [hal]; omega), hal, hel, Tryz.sizeOf5]
  have h20 : ¬ 20 = q := by omega
  simp [Result.andThen, slicedAt, h20, Addr.add]
  exact fun h => h.symm

theorem decN_step {m r : Nat} {ds : List UInt8} (h : decN m = decN r ++ ds) (hr : ¬ r < 10) : decN m = decN (r / 10) ++ hexd (r % 10) :: ds := by
  rw [h, decN_ge hr]; simp
theorem decN_last {m r : Nat} {ds : List UInt8} (h : decN m = decN r ++ ds) (hr : r < 10) : decN m = hexd (r % 10) :: ds := by
  rw [h, decN_lt hr, Nat.mod_eq_of_lt hr]; rfl
theorem byte_hexd {r : Nat} : (48 + (r : Int) % 10).toNat.toUInt8 = hexd (r % 10) := by
  unfold hexd; rw [if_pos (by omega), show (48 + (r : Int) % 10).toNat = 48 + r % 10 by omega]

def PutAt (n : Int) (w : World) (a' : Act) (w' : World) : Prop :=
  ∃ (p r : Nat) (P R : Int) (ds : List UInt8) (u8 u9 u10 u11 u12 u13 u14 u15 u16 u17 u18 u19 : Value),
      a' = { tmps := #[.int .i64 n, undef, .string ⟨#[]⟩, .pointer (some ⟨w.heap.size, 0, none⟩), .int .i64 P, .int .u64 R, .int .i64 n, .int .u64 n.natAbs, u8, u9, u10, u11, u12, u13, u14, u15, u16, u17, u18, u19, undef, undef, undef, undef, undef, undef, undef, undef, undef], defers := [] } ∧
      P = p ∧ R = r ∧ 2 ≤ p ∧ p ≤ 20 ∧ r < 10 ^ (p - 1) ∧ decN n.natAbs = decN r ++ ds ∧ ArrAt w' 110 w.heap.size p ds ∧ Below w.heap.size w w'

theorem lt_10 {p r : Nat} (h : r < 10 ^ (p - 1)) (hp : 2 ≤ p) (hr : ¬ r < 10) : 3 ≤ p ∧ r / 10 < 10 ^ (p - 1 - 1) := by
  obtain ⟨k, rfl⟩ : ∃ k, p = k + 2 := ⟨p - 2, by omega⟩
  simp only [Nat.add_one_sub_one, show k + 2 - 1 = k + 1 from rfl] at h ⊢
  cases k with
  | zero => simp at h; omega
  | succ k => rw [Nat.pow_succ] at h; exact ⟨by omega, by omega⟩
theorem dec_neg {n : Int} (h : n < 0) : dec n = 45 :: decN n.natAbs := by rw [dec, if_pos h]
theorem dec_pos {n : Int} (h : ¬ n < 0) : dec n = decN n.natAbs := by rw [dec, if_neg h, show n.toNat = n.natAbs by omega]

set_option maxRecDepth 100000 in
set_option maxHeartbeats 1000000 in
theorem put_calls (n : Int) (h1 : -9223372036854775808 ≤ n) (h2 : n ≤ 9223372036854775807) (w : World) :
    Calls Tryz.prog 23 #[.int .i64 n] w fun e w' => e = .returned (.string ⟨(dec n).toArray⟩) ∧ Below w.heap.size w w' := by
  go_enter Tryz.func23, Tryz.ntmps23
  go_wp2
  refine wp_scope_jumps 0 (PutAt n w) (fun a' _ => (intOf (a'.tmps.getD 5 undef)).toNat) rfl ?_ ?_
  · go_wp2_with (go_at_call 52; refine (size_calls _ (by omega) (by omega) _).mono ?_; rintro e w' ⟨rfl, rfl⟩)
    go_step3
    have ha := arr_start (w := w) (t := 110) (C := Array.replicate 20 (.int .u8 0)) rfl
    have hb : Below w.heap.size w (w.alloc (.cells (Array.replicate 20 (.int .u8 0)) 110)) := (Below.refl _ _).alloc (Nat.le_refl _) _
    have hd : decN n.natAbs = decN n.natAbs ++ [] := by simp
    have hr : n.natAbs < 10 ^ 19 := by omega
    simp only [Array.replicate, List.replicate] at ha hb
    generalize w.alloc _ = w' at ha hb ⊢
    obtain ⟨x, hx, hf⟩ := arr_cell ha (i := 19) (by omega)
    have ha1 := arr_push ha (by omega) (c := 48 + (n.natAbs : Int) % 10) (by omega) (by omega)
    rw [byte_hexd, show 20 - 1 = 19 from rfl] at ha1
    have HD := Lib.hid hd; clear hd
    have HR := Lib.hid hr; clear hr
    have HA := Lib.hid ha; clear ha
    by_cases h10 : n.natAbs < 10
    · have HL := Lib.hid (decN_last HD.out h10)
      by_cases hn : n < 0
      · obtain ⟨x2, hx2, hf2⟩ := arr_cell HA.out (i := 18) (by omega)
        have ha2 := arr_push ha1 (by omega) (c := 45) (by omega) (by omega)
        have hcv := arr_text (P := Tryz.prog) ha2 91 9 5 Tryz.underlying91 Tryz.underlying5 Tryz.underlying9 2 2 rfl
        have hsl := fun W => arr_slice W w.heap.size 18 18 (by omega) (by omega)
        clear ha2 ha1
        go_wp2_with fail
        simp only [Exit.jump]
        go_ret
        exact ⟨ret_string (by rw [dec_neg hn, HL.out]), (hb.setCell (Nat.le_refl _) _).setCell (Nat.le_refl _) _⟩
      · have hcv := arr_text (P := Tryz.prog) ha1 91 9 5 Tryz.underlying91 Tryz.underlying5 Tryz.underlying9 1 1 rfl
        have hsl := fun W => arr_slice W w.heap.size 19 19 (by omega) (by omega)
        clear ha1
        go_wp2_with fail
        simp only [Exit.jump]
        go_ret
        exact ⟨ret_string (by rw [dec_pos (by omega), HL.out]), hb.setCell (Nat.le_refl _) _⟩
    · have HA1 := Lib.hid ha1; clear ha1
      have HS := Lib.hid (decN_step HD.out h10)
      have HT := Lib.hid (lt_10 (p := 20) HR.out (by omega) h10)
      go_wp2_with fail
      go_step3
      exact ⟨rfl, 19, n.natAbs / 10, _, _, _, _, _, _, _, _, _, _, _, _, _, _, _, rfl, rfl, by omega, by omega, by omega, HT.out.2, HS.out, HA1.out, hb.setCell (Nat.le_refl _) _⟩
  · rintro a' w' ⟨p, r, P, R, ds, u8, u9, u10, u11, u12, u13, u14, u15, u16, u17, u18, u19, rfl, rfl, rfl, hp2, hp20, hr, hd, ha, hb⟩
    obtain ⟨x, hx, hf⟩ := arr_cell ha (i := p - 1) (by omega)
    have ha1 := arr_push ha (by omega) (c := 48 + (r : Int) % 10) (by omega) (by omega)
    rw [byte_hexd] at ha1
    have HD := Lib.hid hd; clear hd
    have hr19 : r < 10000000000000000000 := Nat.lt_of_lt_of_le hr (Nat.pow_le_pow_right (n := 10) (by omega) (show p - 1 ≤ 19 by omega))
    have HR := Lib.hid hr; clear hr
    have HA := Lib.hid ha; clear ha
    by_cases h10 : r < 10
    · have HL := Lib.hid (decN_last HD.out h10)
      by_cases hn : n < 0
      · obtain ⟨x2, hx2, hf2⟩ := arr_cell HA.out (i := p - 1 - 1) (by omega)
        have ha2 := arr_push ha1 (by omega) (c := 45) (by omega) (by omega)
        have hcv := arr_text (P := Tryz.prog) ha2 91 9 5 Tryz.underlying91 Tryz.underlying5 Tryz.underlying9 (20 - (p - 1 - 1)) (20 - (p - 1 - 1)) rfl
        have hsl := fun W => arr_slice W w.heap.size (p - 1 - 1) ((p : Int) - 1 - 1) (by omega) (by omega)
        clear ha2 ha1
        go_wp2_with fail
        simp only [Exit.jump]
        go_ret
        exact ⟨ret_string (by rw [dec_neg hn, HL.out]), (hb.setCell (Nat.le_refl _) _).setCell (Nat.le_refl _) _⟩
      · have hcv := arr_text (P := Tryz.prog) ha1 91 9 5 Tryz.underlying91 Tryz.underlying5 Tryz.underlying9 (20 - (p - 1)) (20 - (p - 1)) rfl
        have hsl := fun W => arr_slice W w.heap.size (p - 1) ((p : Int) - 1) (by omega) (by omega)
        clear ha1
        go_wp2_with fail
        simp only [Exit.jump]
        go_ret
        exact ⟨ret_string (by rw [dec_pos (by omega), HL.out]), hb.setCell (Nat.le_refl _) _⟩
    · have HA1 := Lib.hid ha1; clear ha1
      have HS := Lib.hid (decN_step HD.out h10)
      have HT := Lib.hid (lt_10 HR.out hp2 h10)
      go_wp2_with fail
      go_step3
      refine ⟨rfl, ⟨p - 1, r / 10, _, _, _, _, _, _, _, _, _, _, _, _, _, _, _, rfl, by omega, by omega, by have := HT.out; omega, by omega, HT.out.2, HS.out, HA1.out, hb.setCell (Nat.le_refl _) _⟩, ?_⟩
      simp [intOf]; omega

end Go.Proofs.YtajfdachpdkbcaaGreatDoor.Digit
end


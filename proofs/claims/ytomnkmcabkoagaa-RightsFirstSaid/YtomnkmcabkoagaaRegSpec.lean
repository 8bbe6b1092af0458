/-
  A region that draws its order: what each operation yields is told once, whatever the order.
-/
import Derived.Orders
import Derived.Test.YtomnkmcabkoagaaOwn
namespace Go.Proofs.Ytomnkmcabkoagaa.Reg
open Go Go.RowKit

def deps (ops : Array Oper) (i : Nat) : List Nat := match ops[i]? with
  | some o => (o.after.toList.filter (Region.binds .any)).map (·.on)
  | none => []
/-- temporaries apart, no guard, each waits for earlier ones alone -/
def okOps (ops : Array Oper) (ds : List Nat) (n : Nat) : Bool :=
  ds.length == ops.size && ((List.range ops.size).all fun i => match ops[i]? with
    | some o => o.dst == some (ds.getD i 0) && (o.guard.isNone && (decide (ds.getD i 0 < n) && ((deps ops i).all (fun j => decide (j < i)) && (List.range i).all (fun j => ds.getD j 0 != ds.getD i 0))))
    | none => false)
section
variable {P : Program} {ops : Array Oper} {Q : Exit → Act → World → Prop} {ds : List Nat} {n : Nat}
structure OkAt (ops : Array Oper) (ds : List Nat) (n i : Nat) (o : Oper) : Prop where
  dst : o.dst = some (ds.getD i 0)
  guard : o.guard = none
  lt : ds.getD i 0 < n
  deps : ∀ j ∈ deps ops i, j < i
  apart : ∀ j, j < i → ds.getD j 0 ≠ ds.getD i 0
theorem okOps_at (h : okOps ops ds n = true) {i : Nat} {o : Oper} (ho : ops[i]? = some o) : OkAt ops ds n i o := by
  simp only [okOps, Bool.and_eq_true, List.all_eq_true, List.mem_range] at h
  have hi : i < ops.size := (Array.getElem?_eq_some_iff.1 ho).1
  have := h.2 i hi
  rw [ho] at this
  simp only [Bool.and_eq_true, beq_iff_eq, decide_eq_true_eq, bne_iff_ne, ne_eq, List.all_eq_true, List.mem_range, Option.isNone_iff_eq_none] at this
  exact ⟨this.1, this.2.1, this.2.2.1, this.2.2.2.1, this.2.2.2.2⟩
theorem ok_apart (h : okOps ops ds n = true) {i j : Nat} (hi : i < ops.size) (hj : j < ops.size) (hne : i ≠ j) : ds.getD i 0 ≠ ds.getD j 0 := by
  rcases Nat.lt_or_gt_of_ne hne with hl | hl
  · exact (okOps_at h (Array.getElem?_eq_some_iff.2 ⟨hj, rfl⟩)).apart i hl
  · exact ((okOps_at h (Array.getElem?_eq_some_iff.2 ⟨hi, rfl⟩)).apart j hl).symm
structure Held (ops : Array Oper) (ds : List Nat) (Sp : Nat → World → Value → Prop) (a0 : Act) (w0 : World) (listed : Array Bool) (a : Act) (w : World) : Prop where
  size : a.tmps.size = a0.tmps.size
  defers : a.defers = a0.defers
  other : ∀ t, (∀ i, i < ops.size → ds.getD i 0 ≠ t) → a.tmps[t]? = a0.tmps[t]?
  done : ∀ i, i < ops.size → listed.getD i false = true → ∃ v, a.tmps[ds.getD i 0]? = some v ∧ Sp i w v
  below : Below w0.heap.size w0 w
theorem getD_mem {listed : Array Bool} {i : Nat} (h : i < listed.size) (b : Bool) : listed.getD i b = listed[i] := by simp [h]
def left (listed : Array Bool) : Nat := listed.toList.countP fun b => !b
theorem left_set {listed : Array Bool} {i : Nat} (h : i < listed.size) (hf : listed.getD i true = false) : left (listed.setIfInBounds i true) + 1 = left listed := by
  unfold left
  rw [Array.toList_setIfInBounds]
  have hi : i < listed.toList.length := by simpa using h
  have hv : listed.toList[i] = false := by rw [getD_mem h] at hf; simpa using hf
  rw [List.set_eq_take_append_cons_drop, if_pos hi]
  have e : listed.toList = listed.toList.take i ++ listed.toList[i] :: listed.toList.drop (i + 1) := by
    rw [← List.drop_eq_getElem_cons hi, List.take_append_drop]
  conv => rhs; rw [e]
  simp only [List.countP_append, List.countP_cons, hv]
  simp
  omega
theorem left_zero {listed : Array Bool} (h : left listed = 0) {i : Nat} (hi : i < listed.size) : listed.getD i false = true := by
  unfold left at h
  rw [List.countP_eq_zero] at h
  rw [getD_mem hi]
  have := h listed[i] (by simp)
  simpa using this
theorem ready_all {n : Nat} (hok : okOps ops ds n = true) {listed : Array Bool} (hl : listed.size = ops.size) (hr : Region.ready .any ops listed = []) : ∀ i, i < ops.size → listed.getD i false = true := by
  intro i
  induction i using Nat.strongRecOn with
  | ind i ih =>
    intro hi
    cases hb : listed.getD i false with
    | true => rfl
    | false =>
      have ho : ops[i]? = some ops[i] := Array.getElem?_eq_some_iff.2 ⟨hi, rfl⟩
      have hm : i ∈ Region.ready .any ops listed := mem_ready.2 ⟨by rw [getD_mem (by omega)] at hb ⊢; exact hb, _, ho, fun e he hbd => by
        have hd : e.on ∈ deps ops i := by
          unfold deps
          rw [ho]
          exact List.mem_map.2 ⟨e, List.mem_filter.2 ⟨by simpa using he, hbd⟩, rfl⟩
        have hlt := (okOps_at hok ho).deps _ hd
        exact ih _ hlt (by omega)⟩
      rw [hr] at hm; cases hm
theorem all_ready {listed : Array Bool} (hl : listed.size = ops.size) (h : ∀ i, i < ops.size → listed.getD i false = true) : Region.ready .any ops listed = [] := by
  rw [List.eq_nil_iff_forall_not_mem]
  intro i hi
  obtain ⟨h0, o, ho, _⟩ := mem_ready.1 hi
  have hi : i < ops.size := (Array.getElem?_eq_some_iff.1 ho).1
  have := h i hi
  rw [getD_mem (by omega)] at this h0
  rw [this] at h0; cases h0

/-- what an operation may look at -/
structure Seen (ops : Array Oper) (ds : List Nat) (Sp : Nat → World → Value → Prop) (a0 : Act) (w0 : World) (i : Nat) (a : Act) (w : World) : Prop where
  dep : ∀ j ∈ deps ops i, ∃ v, a.tmps[ds.getD j 0]? = some v ∧ Sp j w v
  other : ∀ t, (∀ i, i < ops.size → ds.getD i 0 ≠ t) → a.tmps[t]? = a0.tmps[t]?
  below : Below w0.heap.size w0 w
variable {Sp : Nat → World → Value → Prop} {a0 : Act} {w0 : World}
theorem any_specs (hok : okOps ops ds a0.tmps.size = true) (hmono : ∀ i w w' v, Below w.heap.size w w' → Sp i w v → Sp i w' v)
    (step : ∀ i o a w, ops[i]? = some o → Seen ops ds Sp a0 w0 i a w → Oper.wp P o a w (fun a' w' => ∃ v, a' = a.put o.dst v ∧ Sp i w' v ∧ Below w.heap.size w w') Q)
    (fin : ∀ listed a w, (∀ i, i < ops.size → listed.getD i false = true) → Held ops ds Sp a0 w0 listed a w → Q .normal a w) :
    ∀ (fuel : Nat) (listed : Array Bool) (a : Act) (w : World), listed.size = ops.size → left listed ≤ fuel → Held ops ds Sp a0 w0 listed a w → wpAny P .any ops Q fuel listed a w
  | 0, listed, a, w, hl, hf, h => by
    have hall : ∀ i, i < ops.size → listed.getD i false = true := fun i hi => left_zero (by omega) (by omega)
    exact ⟨all_ready hl hall, fin listed a w hall h⟩
  | fuel + 1, listed, a, w, hl, hf, h => by
    refine ⟨fun hr => fin listed a w (ready_all hok hl hr) h, fun i hi => ?_⟩
    obtain ⟨hun, o, ho, hdep⟩ := mem_ready.1 hi
    have hi' : i < ops.size := (Array.getElem?_eq_some_iff.1 ho).1
    have hk := okOps_at hok ho
    unfold wpOp
    rw [ho]
    dsimp only
    rw [if_pos (by unfold Region.wanted; rw [hk.guard])]
    refine .inl (Oper.wp_mono ?_ (step i o a w ho ⟨fun j hj => ?_, h.other, h.below⟩))
    · rintro a' w' ⟨v, rfl, hv, hb⟩
      refine any_specs hok hmono step fin fuel _ _ _ (by simpa using hl) (by have := left_set (listed := listed) (i := i) (by omega) hun; omega) ⟨?_, ?_, ?_, ?_, h.below.trans (hb.mono h.below.size)⟩
      · rw [hk.dst]; simpa [Act.put] using h.size
      · rw [hk.dst]; simpa [Act.put] using h.defers
      · intro t ht
        rw [hk.dst]
        show (a.tmps.setIfInBounds _ v)[t]? = _
        rw [Array.getElem?_setIfInBounds_ne (ht i hi')]
        exact h.other t ht
      · intro j hj hlj
        rw [hk.dst]
        show ∃ u, (a.tmps.setIfInBounds _ v)[_]? = some u ∧ _
        by_cases hij : i = j
        · subst hij
          exact ⟨v, by rw [Array.getElem?_setIfInBounds_self_of_lt (by have := hk.lt; rw [h.size]; exact this)], hv⟩
        · rw [Array.getElem?_setIfInBounds_ne (ok_apart hok hi' hj hij)]
          rw [getD_set_ne false hij] at hlj
          obtain ⟨u, e1, e2⟩ := h.done j hj hlj
          exact ⟨u, e1, hmono j _ _ u hb e2⟩
    · unfold deps at hj
      rw [ho] at hj
      obtain ⟨e, he, rfl⟩ := List.mem_map.1 hj
      have he := List.mem_filter.1 he
      have hl2 := hdep e (by simpa using he.1) he.2
      have hlt : e.on < ops.size := by
        have := hk.deps e.on (by unfold deps; rw [ho]; exact List.mem_map.2 ⟨e, List.mem_filter.2 he, rfl⟩)
        omega
      exact h.done _ hlt hl2
/-- the region, each operation told once -/
theorem wp_specs {id : Nat} {a : Act} {w : World} (hm : P.follows .mixedOrders = true) (ds : List Nat) (Sp : Nat → World → Value → Prop) (hok : okOps ops ds a.tmps.size = true)
    (hmono : ∀ i w w' v, Below w.heap.size w w' → Sp i w v → Sp i w' v)
    (step : ∀ i o a' w', ops[i]? = some o → Seen ops ds Sp a w.drew i a' w' → Oper.wp P o a' w' (fun a2 w2 => ∃ v, a2 = a'.put o.dst v ∧ Sp i w2 v ∧ Below w'.heap.size w' w2) Q)
    (fin : ∀ a' w', a'.tmps.size = a.tmps.size → a'.defers = a.defers → (∀ t, (∀ i, i < ops.size → ds.getD i 0 ≠ t) → a'.tmps[t]? = a.tmps[t]?) → (∀ i, i < ops.size → ∃ v, a'.tmps[ds.getD i 0]? = some v ∧ Sp i w' v) → Below w.heap.size w.drew w' → Q .normal a' w') :
    (Code.region id ops true).wp P Q a w := by
  refine wp_region_any hm ?_
  refine any_specs (a0 := a) (w0 := w.drew) hok hmono step (fun listed a' w' hall h => fin a' w' h.size h.defers h.other (fun i hi => h.done i hi (hall i hi)) h.below) _ _ _ _ (by simp) ?_ ⟨rfl, rfl, fun _ _ => rfl, fun i hi hf => ?_, Below.refl _ _⟩
  · exact Nat.le_trans List.countP_le_length (by simp)
  · simp [hi] at hf
end
theorem eval_tmp {a : Act} {t : Nat} {v : Value} (h : a.tmps[t]? = some v) : a.eval (.tmp t) = v := by
  show a.tmps.getD t undef = v
  simp [h]
theorem mem_of {l : List Nat} {j : Nat} (h : l.contains j = true) : j ∈ l := by simpa using h
end Go.Proofs.Ytomnkmcabkoagaa.Reg

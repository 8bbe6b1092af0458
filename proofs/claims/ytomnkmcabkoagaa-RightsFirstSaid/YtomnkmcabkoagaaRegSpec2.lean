/-
  A region that draws its order, and writes: what each operation yields is told once, whatever the order.
-/
import Derived.Test.YtomnkmcabkoagaaRegSpec
namespace Go.Proofs.Ytomnkmcabkoagaa.Reg
open Go Go.RowKit

section
variable {P : Program} {ops : Array Oper} {Q : Exit → Act → World → Prop} {ds : List Nat} {n : Nat}
/-- what an operation may look at -/
structure Sees (ops : Array Oper) (ds : List Nat) (Sp : Nat → World → Value → Prop) (J : Array Bool → World → Prop) (a0 : Act) (listed : Array Bool) (i : Nat) (a : Act) (w : World) : Prop where
  size : listed.size = ops.size
  un : listed.getD i false = false
  closed : ∀ k, k < ops.size → listed.getD k false = true → ∀ j ∈ deps ops k, listed.getD j false = true
  dep : ∀ j ∈ deps ops i, ∃ v, a.tmps[ds.getD j 0]? = some v ∧ Sp j w v
  other : ∀ t, (∀ k, k < ops.size → listed.getD k false = true → ds.getD k 0 ≠ t) → a.tmps[t]? = a0.tmps[t]?
  inv : J listed w
structure Holds (ops : Array Oper) (ds : List Nat) (Sp : Nat → World → Value → Prop) (J : Array Bool → World → Prop) (a0 : Act) (listed : Array Bool) (a : Act) (w : World) : Prop where
  size : a.tmps.size = a0.tmps.size
  defers : a.defers = a0.defers
  closed : ∀ k, k < ops.size → listed.getD k false = true → ∀ j ∈ deps ops k, listed.getD j false = true
  other : ∀ t, (∀ i, i < ops.size → listed.getD i false = true → ds.getD i 0 ≠ t) → a.tmps[t]? = a0.tmps[t]?
  done : ∀ i, i < ops.size → listed.getD i false = true → ∃ v, a.tmps[ds.getD i 0]? = some v ∧ Sp i w v
  inv : J listed w
/-- what it is to leave -/
def Leaves (Sp : Nat → World → Value → Prop) (J : Array Bool → World → Prop) (listed : Array Bool) (i : Nat) (d : Option Tmp) (a : Act) (w : World) (a2 : Act) (w2 : World) : Prop :=
  ∃ v, a2 = a.put d v ∧ Sp i w2 v ∧ (∀ j u, j ≠ i → listed.getD j false = true → Sp j w u → Sp j w2 u) ∧ J (listed.setIfInBounds i true) w2
variable {Sp : Nat → World → Value → Prop} {J : Array Bool → World → Prop} {a0 : Act}
theorem any_told (hok : okOps ops ds a0.tmps.size = true)
    (step : ∀ i o listed a w, ops[i]? = some o → Sees ops ds Sp J a0 listed i a w → Oper.wp P o a w (Leaves Sp J listed i o.dst a w) Q)
    (fin : ∀ listed a w, (∀ i, i < ops.size → listed.getD i false = true) → Holds ops ds Sp J a0 listed a w → Q .normal a w) :
    ∀ (fuel : Nat) (listed : Array Bool) (a : Act) (w : World), listed.size = ops.size → left listed ≤ fuel → Holds ops ds Sp J a0 listed a w → wpAny P .any ops Q fuel listed a w
  | 0, listed, a, w, hl, hf, h => by
    have hall : ∀ i, i < ops.size → listed.getD i false = true := fun i hi => left_zero (by omega) (by omega)
    exact ⟨all_ready hl hall, fin listed a w hall h⟩
  | fuel + 1, listed, a, w, hl, hf, h => by
    refine ⟨fun hr => fin listed a w (ready_all hok hl hr) h, fun i hi => ?_⟩
    obtain ⟨hun, o, ho, hdep⟩ := mem_ready.1 hi
    have hi' : i < ops.size := (Array.getElem?_eq_some_iff.1 ho).1
    have hk := okOps_at hok ho
    have hun2 : listed.getD i false = false := by rw [getD_mem (by omega)] at hun ⊢; exact hun
    have hdeps : ∀ j ∈ deps ops i, j < ops.size ∧ listed.getD j false = true := fun j hj => by
      have hlt := hk.deps j hj
      unfold deps at hj
      rw [ho] at hj
      obtain ⟨e, he, rfl⟩ := List.mem_map.1 hj
      have he := List.mem_filter.1 he
      exact ⟨by omega, hdep e (by simpa using he.1) he.2⟩
    unfold wpOp
    rw [ho]
    dsimp only
    rw [if_pos (by unfold Region.wanted; rw [hk.guard])]
    refine .inl (Oper.wp_mono ?_ (step i o listed a w ho ⟨hl, hun2, h.closed, fun j hj => h.done j (hdeps j hj).1 (hdeps j hj).2, h.other, h.inv⟩))
    rintro a' w' ⟨v, rfl, hv, hmono, hJ⟩
    refine any_told hok step fin fuel _ _ _ (by simpa using hl) (by have := left_set (listed := listed) (i := i) (by omega) hun; omega) ⟨?_, ?_, ?_, ?_, ?_, hJ⟩
    · rw [hk.dst]; simpa [Act.put] using h.size
    · rw [hk.dst]; simpa [Act.put] using h.defers
    · intro k hk2 hlk j hj
      by_cases hik : i = k
      · subst hik
        exact getD_set_true (hdeps j hj).2
      · rw [getD_set_ne false hik] at hlk
        exact getD_set_true (h.closed k hk2 hlk j hj)
    · intro t ht
      rw [hk.dst]
      show (a.tmps.setIfInBounds _ v)[t]? = _
      rw [Array.getElem?_setIfInBounds_ne (ht i hi' (by rw [getD_mem (by simpa using (by omega : i < listed.size))]; simp))]
      exact h.other t fun k hk2 hlk => ht k hk2 (getD_set_true hlk)
    · intro j hj hlj
      rw [hk.dst]
      show ∃ u, (a.tmps.setIfInBounds _ v)[_]? = some u ∧ _
      by_cases hij : i = j
      · subst hij
        exact ⟨v, by rw [Array.getElem?_setIfInBounds_self_of_lt (by have := hk.lt; rw [h.size]; exact this)], hv⟩
      · rw [Array.getElem?_setIfInBounds_ne (ok_apart hok hi' hj hij)]
        rw [getD_set_ne false hij] at hlj
        obtain ⟨u, e1, e2⟩ := h.done j hj hlj
        exact ⟨u, e1, hmono j u (Ne.symm hij) hlj e2⟩
/-- the region, each operation told once -/
theorem wp_told {id : Nat} {a : Act} {w : World} (hm : P.follows .mixedOrders = true) (ds : List Nat) (Sp : Nat → World → Value → Prop) (J : Array Bool → World → Prop) (hok : okOps ops ds a.tmps.size = true)
    (h0 : J (Array.replicate ops.size false) w.drew)
    (step : ∀ i o listed a' w', ops[i]? = some o → Sees ops ds Sp J a listed i a' w' → Oper.wp P o a' w' (Leaves Sp J listed i o.dst a' w') Q)
    (fin : ∀ listed a' w', a'.tmps.size = a.tmps.size → a'.defers = a.defers → (∀ t, (∀ i, i < ops.size → ds.getD i 0 ≠ t) → a'.tmps[t]? = a.tmps[t]?) → (∀ i, i < ops.size → ∃ v, a'.tmps[ds.getD i 0]? = some v ∧ Sp i w' v) → J listed w' → Q .normal a' w') :
    (Code.region id ops true).wp P Q a w := by
  refine wp_region_any hm ?_
  refine any_told (a0 := a) hok step (fun listed a' w' hall h => fin listed a' w' h.size h.defers (fun t ht => h.other t fun i hi _ => ht i hi) (fun i hi => h.done i hi (hall i hi)) h.inv) _ _ _ _ (by simp) ?_ ⟨rfl, rfl, fun k hk hf => ?_, fun _ _ => rfl, fun i hi hf => ?_, h0⟩
  · exact Nat.le_trans List.countP_le_length (by simp)
  · simp [hk] at hf
  · simp [hi] at hf

/-! ### the frame behind it, written out -/
theorem arr_getD {A : Array Value} {t : Nat} {v d : Value} (h : A[t]? = some v) : A.getD t d = v := by simp [h]
def puts (a : Act) : List (Nat × Value) → Act
  | [] => a
  | (d, v) :: r => puts (a.put (some d) v) r
theorem puts_size : ∀ (l : List (Nat × Value)) (a : Act), (puts a l).tmps.size = a.tmps.size
  | [], a => rfl
  | (d, v) :: r, a => by rw [puts, puts_size r]; simp [Act.put]
theorem puts_defers : ∀ (l : List (Nat × Value)) (a : Act), (puts a l).defers = a.defers
  | [], a => rfl
  | (d, v) :: r, a => by rw [puts, puts_defers r]; rfl
theorem puts_out : ∀ (l : List (Nat × Value)) (a : Act) (t : Nat), (∀ p ∈ l, p.1 ≠ t) → (puts a l).tmps[t]? = a.tmps[t]?
  | [], a, t, _ => rfl
  | (d, v) :: r, a, t, h => by
    rw [puts, puts_out r _ t fun p hp => h p (List.mem_cons_of_mem _ hp)]
    show (a.tmps.setIfInBounds d v)[t]? = _
    rw [Array.getElem?_setIfInBounds_ne (h (d, v) (List.mem_cons_self ..))]
theorem puts_in : ∀ (l : List (Nat × Value)) (a : Act), (l.map (·.1)).Nodup → (∀ p ∈ l, p.1 < a.tmps.size) → ∀ p ∈ l, (puts a l).tmps[p.1]? = some p.2
  | [], a, _, _, p, hp => by cases hp
  | (d, v) :: r, a, hn, hl, p, hp => by
    rw [List.map_cons, List.nodup_cons] at hn
    rw [puts]
    rcases List.mem_cons.1 hp with rfl | hp
    · rw [puts_out r _ d fun q hq e => hn.1 (List.mem_map.2 ⟨q, hq, e⟩)]
      show (a.tmps.setIfInBounds d v)[d]? = _
      rw [Array.getElem?_setIfInBounds_self_of_lt (hl (d, v) (List.mem_cons_self ..))]
    · exact puts_in r _ hn.2 (fun q hq => by have := hl q (List.mem_cons_of_mem _ hq); simpa [Act.put] using this) p hp
theorem frame_eq {a a' : Act} (hs : a'.tmps.size = a.tmps.size) (hd : a'.defers = a.defers) (l : List (Nat × Value)) (hn : (l.map (·.1)).Nodup) (hl : ∀ p ∈ l, p.1 < a.tmps.size) (hin : ∀ p ∈ l, a'.tmps[p.1]? = some p.2) (hout : ∀ t, (∀ p ∈ l, p.1 ≠ t) → a'.tmps[t]? = a.tmps[t]?) : a' = puts a l := by
  have h1 : a'.tmps = (puts a l).tmps := by
    apply Array.ext_getElem?
    intro t
    by_cases ht : ∀ p ∈ l, p.1 ≠ t
    · rw [hout t ht, puts_out l a t ht]
    · have : ∃ p, p ∈ l ∧ p.1 = t := Classical.byContradiction fun h => ht fun p hp e => h ⟨p, hp, e⟩
      obtain ⟨p, hp, rfl⟩ := this
      rw [hin p hp, puts_in l a hn hl p hp]
  have h2 : a'.defers = (puts a l).defers := by rw [hd, puts_defers]
  cases a'
  generalize puts a l = b at *
  cases b
  simp only at h1 h2
  rw [h1, h2]
/-- the region, each operation told once; the frame behind it -/
theorem wp_told_at {id : Nat} {a : Act} {w : World} (hm : P.follows .mixedOrders = true) (ds : List Nat) (Sp : Nat → World → Value → Prop) (J : Array Bool → World → Prop) (hok : okOps ops ds a.tmps.size = true)
    (h0 : J (Array.replicate ops.size false) w.drew)
    (step : ∀ i o listed a' w', ops[i]? = some o → Sees ops ds Sp J a listed i a' w' → Oper.wp P o a' w' (Leaves Sp J listed i o.dst a' w') Q)
    (fin : ∀ listed (vs : List Value) w', vs.length = ds.length → (∀ i v, vs[i]? = some v → Sp i w' v) → J listed w' → Q .normal (puts a (ds.zip vs)) w') :
    (Code.region id ops true).wp P Q a w := by
  refine wp_told hm ds Sp J hok h0 step fun listed a' w' hs hd hot hdn hJ => ?_
  have hlen : ds.length = ops.size := by
    simp only [okOps, Bool.and_eq_true, beq_iff_eq] at hok; exact hok.1
  have hget : ∀ i, i < ops.size → ∃ v, a'.tmps[ds.getD i 0]? = some v ∧ Sp i w' v := hdn
  let vs := (List.range ops.size).map fun i => a'.tmps.getD (ds.getD i 0) undef
  have hvs : ∀ i, i < ops.size → a'.tmps[ds.getD i 0]? = some (a'.tmps.getD (ds.getD i 0) undef) := fun i hi => by
    obtain ⟨v, e, _⟩ := hget i hi
    rw [arr_getD e]; exact e
  have hz : ∀ p ∈ ds.zip vs, ∃ i, i < ops.size ∧ p.1 = ds.getD i 0 ∧ p.2 = a'.tmps.getD (ds.getD i 0) undef := fun p hp => by
    obtain ⟨i, hi, e⟩ := List.mem_iff_getElem.1 hp
    have hi2 : i < ops.size := by
      have := hi
      rw [List.length_zip] at this
      omega
    refine ⟨i, hi2, ?_, ?_⟩
    · rw [← e, List.getElem_zip]
      simp [List.getD_eq_getElem?_getD, hlen, hi2]
    · rw [← e, List.getElem_zip]
      simp [vs]
  have hfr := frame_eq hs hd (ds.zip vs) (by
    rw [List.map_fst_zip (by simp [vs, hlen])]
    rw [List.nodup_iff_pairwise_ne, List.pairwise_iff_getElem]
    intro i j hi hj hij
    have := (okOps_at hok (i := j) (o := ops[j]'(by omega)) (Array.getElem?_eq_some_iff.2 ⟨by omega, rfl⟩)).apart i hij
    simpa [List.getD_eq_getElem?_getD, hi, hj] using this) (fun p hp => by
    obtain ⟨i, hi, e, _⟩ := hz p hp
    rw [e]
    exact (okOps_at hok (Array.getElem?_eq_some_iff.2 ⟨hi, rfl⟩)).lt) (fun p hp => by
    obtain ⟨i, hi, e1, e2⟩ := hz p hp
    rw [e1, e2]; exact hvs i hi) (fun t ht => hot t fun i hi e => by
    refine ht ((ds.zip vs)[i]'(by rw [List.length_zip]; simp [vs]; omega)) (List.getElem_mem _) ?_
    rw [List.getElem_zip, ← e]
    simp [List.getD_eq_getElem?_getD, hlen, hi])
  rw [hfr]
  refine fin listed vs w' (by simp [vs, hlen]) (fun i v hv => ?_) hJ
  obtain ⟨hi, e⟩ := List.getElem?_eq_some_iff.1 hv
  have hi2 : i < ops.size := by simpa [vs] using hi
  obtain ⟨u, e1, e2⟩ := hget i hi2
  have : v = u := by
    rw [← e]
    have h3 : vs[i] = a'.tmps.getD (ds.getD i 0) undef := by simp only [vs, List.getElem_map, List.getElem_range]
    rw [h3, arr_getD e1]
  rw [this]; exact e2
end
end Go.Proofs.Ytomnkmcabkoagaa.Reg

/-
  A region that draws its order, with guards and stores: each operation told once; what holds of the frame and the world meanwhile.
-/
import Derived.Test.YtomnkmcabkoagaaRegSpec3
namespace Go.Proofs.Ytomnkmcabkoagaa.Reg
open Go Go.RowKit
section
variable {P : Program} {ops : Array Oper} {Q : Exit → Act → World → Prop} {ds : List (Option Nat)} {n : Nat}
/-- what an operation may look at -/
structure HSees (ops : Array Oper) (ds : List (Option Nat)) (Sp : Nat → World → Value → Prop) (J : Array Bool → Act → World → Prop) (a0 : Act) (listed : Array Bool) (i : Nat) (a : Act) (w : World) : Prop where
  size : listed.size = ops.size
  un : listed.getD i false = false
  closed : ∀ k, k < ops.size → listed.getD k false = true → ∀ j ∈ deps ops k, listed.getD j false = true
  dep : ∀ j ∈ deps ops i, ∃ v, (∀ d, dsAt ds j = some d → a.tmps[d]? = some v) ∧ Sp j w v
  other : ∀ t, (∀ k, k < ops.size → listed.getD k false = true → dsAt ds k ≠ some t) → a.tmps[t]? = a0.tmps[t]?
  inv : J listed a w
  lst : ∀ j ∈ deps ops i, listed.getD j false = true
  tsz : a.tmps.size = a0.tmps.size
structure HHolds (ops : Array Oper) (ds : List (Option Nat)) (Sp : Nat → World → Value → Prop) (J : Array Bool → Act → World → Prop) (a0 : Act) (listed : Array Bool) (a : Act) (w : World) : Prop where
  size : a.tmps.size = a0.tmps.size
  defers : a.defers = a0.defers
  closed : ∀ k, k < ops.size → listed.getD k false = true → ∀ j ∈ deps ops k, listed.getD j false = true
  other : ∀ t, (∀ i, i < ops.size → listed.getD i false = true → dsAt ds i ≠ some t) → a.tmps[t]? = a0.tmps[t]?
  done : ∀ i, i < ops.size → listed.getD i false = true → ∃ v, (∀ d, dsAt ds i = some d → a.tmps[d]? = some v) ∧ Sp i w v
  inv : J listed a w
/-- what it is to leave -/
def Leaves4 (Sp : Nat → World → Value → Prop) (J : Array Bool → Act → World → Prop) (listed : Array Bool) (i : Nat) (d : Option Tmp) (a : Act) (w : World) (a2 : Act) (w2 : World) : Prop :=
  ∃ v, a2 = a.put d v ∧ Sp i w2 v ∧ (∀ j u, j ≠ i → listed.getD j false = true → Sp j w u → Sp j w2 u) ∧ J (listed.setIfInBounds i true) (a.put d v) w2
variable {Sp : Nat → World → Value → Prop} {J : Array Bool → Act → World → Prop} {a0 : Act}
theorem any_guarded4 (hok : okG ops ds a0.tmps.size = true)
    (step : ∀ i o listed a w, ops[i]? = some o → HSees ops ds Sp J a0 listed i a w →
      (Region.wanted o (yielded ops a.tmps) = true → Oper.wp P o a w (Leaves4 Sp J listed i o.dst a w) Q) ∧ (Region.wanted o (yielded ops a.tmps) = false → Leaves4 Sp J listed i o.dst a w (a.put o.dst undef) w))
    (fin : ∀ listed a w, (∀ i, i < ops.size → listed.getD i false = true) → HHolds ops ds Sp J a0 listed a w → Q .normal a w) :
    ∀ (fuel : Nat) (listed : Array Bool) (a : Act) (w : World), listed.size = ops.size → left listed ≤ fuel → HHolds ops ds Sp J a0 listed a w → wpAny P .any ops Q fuel listed a w
  | 0, listed, a, w, hl, hf, h => by
    have hall : ∀ i, i < ops.size → listed.getD i false = true := fun i hi => left_zero (by omega) (by omega)
    exact ⟨all_ready hl hall, fin listed a w hall h⟩
  | fuel + 1, listed, a, w, hl, hf, h => by
    refine ⟨fun hr => fin listed a w (readyG_all hok hl hr) h, fun i hi => ?_⟩
    obtain ⟨hun, o, ho, hdep⟩ := mem_ready.1 hi
    have hi' : i < ops.size := (Array.getElem?_eq_some_iff.1 ho).1
    have hk := okG_at hok ho
    have hun2 : listed.getD i false = false := by rw [getD_mem (by omega)] at hun ⊢; exact hun
    have hdeps : ∀ j ∈ deps ops i, j < ops.size ∧ listed.getD j false = true := fun j hj => by
      have hlt := hk.deps j hj
      unfold deps at hj
      rw [ho] at hj
      obtain ⟨e, he, rfl⟩ := List.mem_map.1 hj
      have he := List.mem_filter.1 he
      exact ⟨by omega, hdep e (by simpa using he.1) he.2⟩
    have hstep := step i o listed a w ho ⟨hl, hun2, h.closed, fun j hj => h.done j (hdeps j hj).1 (hdeps j hj).2, h.other, h.inv, fun j hj => (hdeps j hj).2, h.size⟩
    have key : ∀ a' w', Leaves4 Sp J listed i o.dst a w a' w' → wpAny P .any ops Q fuel (listed.setIfInBounds i true) a' w' := by
      rintro a' w' ⟨v, rfl, hv, hmono, hJ⟩
      refine any_guarded4 hok step fin fuel _ _ _ (by simpa using hl) (by have := left_set (listed := listed) (i := i) (by omega) hun; omega) ⟨?_, ?_, ?_, ?_, ?_, hJ⟩
      · rw [put_size]; exact h.size
      · rw [put_defers]; exact h.defers
      · intro k hk2 hlk j hj
        by_cases hik : i = k
        · subst hik
          exact getD_set_true (hdeps j hj).2
        · rw [getD_set_ne false hik] at hlk
          exact getD_set_true (h.closed k hk2 hlk j hj)
      · intro t ht
        have hit : (listed.setIfInBounds i true).getD i false = true := by
          rw [getD_mem (by simpa using (by omega : i < listed.size))]; simp
        rw [put_ne a v (by rw [hk.dst]; exact ht i hi' hit)]
        exact h.other t fun k hk2 hlk => ht k hk2 (getD_set_true hlk)
      · intro j hj hlj
        by_cases hij : i = j
        · subst hij
          refine ⟨v, fun d hd => ?_, hv⟩
          rw [hk.dst, hd]
          exact put_at a v (by rw [h.size]; exact hk.lt d hd)
        · rw [getD_set_ne false hij] at hlj
          obtain ⟨u, e1, e2⟩ := h.done j hj hlj
          refine ⟨u, fun d hd => ?_, hmono j u (Ne.symm hij) hlj e2⟩
          rw [put_ne a v (by rw [hk.dst]; exact okG_apart hok hj hi' (Ne.symm hij) hd)]
          exact e1 d hd
    unfold wpOp
    rw [ho]
    dsimp only
    cases hw : Region.wanted o (yielded ops a.tmps) with
    | true =>
      rw [if_pos rfl]
      exact .inl (Oper.wp_mono key (hstep.1 hw))
    | false =>
      rw [if_neg (by simp)]
      exact key _ _ (hstep.2 hw)
/-- the region, each operation told once; the frame behind it: 'slots' are the temporaries that it writes, each with its operation -/
theorem wp_guarded4 {id : Nat} {a : Act} {w : World} (hm : P.follows .mixedOrders = true) (ds : List (Option Nat)) (Sp : Nat → World → Value → Prop) (J : Array Bool → Act → World → Prop) (slots : List (Nat × Nat)) (hok : okG ops ds a.tmps.size = true)
    (hsl : (slots.all fun p => decide (p.2 < ops.size) && dsAt ds p.2 == some p.1) = true) (hnd : (slots.map (·.1)).Nodup) (hall : ((List.range ops.size).all fun i => (dsAt ds i).all fun d => (slots.map (·.1)).contains d) = true)
    (h0 : J (Array.replicate ops.size false) a w.drew)
    (step : ∀ i o listed a' w', ops[i]? = some o → HSees ops ds Sp J a listed i a' w' →
      (Region.wanted o (yielded ops a'.tmps) = true → Oper.wp P o a' w' (Leaves4 Sp J listed i o.dst a' w') Q) ∧ (Region.wanted o (yielded ops a'.tmps) = false → Leaves4 Sp J listed i o.dst a' w' (a'.put o.dst undef) w'))
    (fin : ∀ listed (vs : List Value) w', vs.length = slots.length → (∀ (k : Nat) (p : Nat × Nat) (v : Value), slots[k]? = some p → vs[k]? = some v → Sp p.2 w' v ∧ (puts a ((slots.map (·.1)).zip vs)).tmps[p.1]? = some v) → (∀ i, i < ops.size → ∃ v, Sp i w' v) → (∀ i, i < ops.size → listed.getD i false = true) → J listed (puts a ((slots.map (·.1)).zip vs)) w' → Q .normal (puts a ((slots.map (·.1)).zip vs)) w') :
    (Code.region id ops true).wp P Q a w := by
  refine wp_region_any hm ?_
  refine any_guarded4 (a0 := a) hok step (fun listed a' w' hal h => ?_) _ _ _ _ (by simp) ?_ ⟨rfl, rfl, fun k hk hf => ?_, fun _ _ => rfl, fun i hi hf => ?_, h0⟩
  · simp only [List.all_eq_true, Bool.and_eq_true, decide_eq_true_eq, beq_iff_eq] at hsl
    have hv : ∀ p ∈ slots, ∃ v, a'.tmps[p.1]? = some v ∧ Sp p.2 w' v := fun p hp => by
      obtain ⟨h1, h2⟩ := hsl p hp
      obtain ⟨v, e, hs⟩ := h.done p.2 h1 (hal _ h1)
      exact ⟨v, e p.1 h2, hs⟩
    let vs := slots.map fun p => a'.tmps.getD p.1 undef
    have hfr := frame_eq h.size h.defers ((slots.map (·.1)).zip vs) (by
      rw [List.map_fst_zip (by simp [vs])]; exact hnd) (fun p hp => by
      have hp2 := (List.of_mem_zip (a := p.1) (b := p.2) hp).1
      obtain ⟨q, hq, e⟩ := List.mem_map.1 hp2
      obtain ⟨h1, h2⟩ := hsl q hq
      rw [← e]
      exact (okG_at hok (Array.getElem?_eq_some_iff.2 ⟨h1, rfl⟩)).lt _ h2) (fun p hp => by
      obtain ⟨k, hk, e⟩ := List.mem_iff_getElem.1 hp
      rw [List.getElem_zip] at e
      rw [← e]
      rw [List.length_zip] at hk
      have hk1 : k < slots.length := by simp at hk; omega
      obtain ⟨v, e1, _⟩ := hv slots[k] (List.getElem_mem hk1)
      simp only [vs, List.getElem_map]
      rw [arr_getD e1]; exact e1) (fun t ht => h.other t fun i hi _ e => by
      simp only [List.all_eq_true, List.mem_range] at hall
      have h3 := hall i hi
      rw [e] at h3
      have h3 : t ∈ slots.map (·.1) := by simpa using h3
      obtain ⟨k, hk, e2⟩ := List.mem_iff_getElem.1 h3
      have hkl : k < ((slots.map (·.1)).zip vs).length := by rw [List.length_zip]; simp [vs] at hk ⊢; omega
      exact ht _ (List.getElem_mem hkl) (by rw [List.getElem_zip]; exact e2))
    have hinv := h.inv
    rw [hfr] at hinv
    rw [hfr]
    refine fin listed vs w' (by simp [vs]) (fun k p v hp hvk => ?_) (fun i hi => (h.done i hi (hal i hi)).imp fun v hv => hv.2) hal hinv
    obtain ⟨hk1, rfl⟩ := List.getElem?_eq_some_iff.1 hp
    obtain ⟨hk2, rfl⟩ := List.getElem?_eq_some_iff.1 hvk
    obtain ⟨u, e1, e2⟩ := hv slots[k] (List.getElem_mem hk1)
    have h3 : vs[k] = a'.tmps.getD slots[k].1 undef := by simp only [vs, List.getElem_map]
    have hv2 : vs[k] = u := by rw [h3, arr_getD e1]
    rw [hv2]
    exact ⟨e2, by rw [← hfr]; exact e1⟩
  · exact Nat.le_trans List.countP_le_length (by simp)
  · simp [hk] at hf
  · simp [hi] at hf
end
end Go.Proofs.Ytomnkmcabkoagaa.Reg

/-
  A region that draws its order, in a round of a range over a function (XRegSpec4, XRegChain inside such a fence).
-/
import Derived.OrdersIn
import Derived.RangeFuncCalls
import Derived.TacticsIn
import Derived.Test.YtciighiecoalmaaRegChain
namespace Go.Proofs.Ytciighiecoalmaa.Reg
open Go Go.RowKit
def noDefer (ops : Array Oper) : Bool := ops.all fun o => match o.op with
  | .defer _ => false
  | _ => true
theorem noDefer_at {ops : Array Oper} {i : Nat} {o : Oper} (h : noDefer ops = true) (ho : ops[i]? = some o) : ∀ c, o.op ≠ .defer c := by
  intro c e
  unfold noDefer at h
  rw [Array.all_eq_true'] at h
  have := h o (Array.mem_of_getElem? ho)
  rw [e] at this
  cases this
section
variable {P : Program} {Q : Exit → Act → World → Prop}
theorem rowsIn_of {lo m : Nat} {row : String} {args : Array Value} {w : World} {R : Value → World → Prop} (h : Rows P row args w R) : RowsIn (Fence.wide.inRound lo) m P row args w R := fun c cs _ =>
  let ⟨v, w', r, s⟩ := h c cs
  ⟨v, w', r, stepsIn_wide.2 s⟩
theorem wpIn_of {lo m : Nat} {o : Oper} {a : Act} {w : World} {K : Act → World → Prop} (hd : ∀ c, o.op ≠ .defer c) (h : Oper.wp P o a w K Q) : Oper.wpIn (Fence.wide.inRound lo) m P o a w K Q := by
  refine ⟨fun _ _ => trivial, ?_⟩
  rw [Fence.inRound_round, Oper.semAt_some lo _ o hd]
  unfold Oper.wp at h
  generalize (execOp a.eval o).run P w = r at *
  cases r with
  | ok x w' =>
    cases x <;> simp only [Oper.upon, Oper.uponIn] at h ⊢ <;>
      first
        | exact h
        | exact ⟨fun e => by simp [Fence.wide, Fence.inRound] at e, CallsIn.inRound lo (callsIn_wide.2 (h.mono fun e w2 he => by cases e <;> exact he))⟩
        | exact ⟨fun e => by simp [Fence.wide, Fence.inRound] at e, rowsIn_of h⟩
  | halt x w' => cases x <;> simp only [Oper.upon, Oper.uponIn] at h ⊢ <;> exact h
variable {ops : Array Oper} {ds : List (Option Nat)} {n : Nat}
variable {Sp : Nat → World → Value → Prop} {J : Array Bool → Act → World → Prop} {a0 : Act}
theorem any_guarded4_in {lo m : Nat} (hnd0 : noDefer ops = true) (hok : okG ops ds a0.tmps.size = true)
    (step : ∀ i o listed a w, ops[i]? = some o → HSees ops ds Sp J a0 listed i a w →
      (Region.wanted o (yielded ops a.tmps) = true → Oper.wp P o a w (Leaves4 Sp J listed i o.dst a w) Q) ∧ (Region.wanted o (yielded ops a.tmps) = false → Leaves4 Sp J listed i o.dst a w (a.put o.dst undef) w))
    (fin : ∀ listed a w, (∀ i, i < ops.size → listed.getD i false = true) → HHolds ops ds Sp J a0 listed a w → Q .normal a w) :
    ∀ (fuel : Nat) (listed : Array Bool) (a : Act) (w : World), listed.size = ops.size → left listed ≤ fuel → HHolds ops ds Sp J a0 listed a w → wpAnyIn (Fence.wide.inRound lo) m P .any ops Q fuel listed a w
  | 0, listed, a, w, hl, hf, h => by
    have hall : ∀ i, i < ops.size → listed.getD i false = true := fun i hi => left_zero (by omega) (by omega)
    exact ⟨all_ready hl hall, fin listed a w hall h⟩
  | fuel + 1, listed, a, w, hl, hf, h => by
    refine ⟨fun hr => fin listed a w (readyG_all hok hl hr) h, fun i hi => ?_⟩
    obtain ⟨hun, o, ho, hdep⟩ := mem_ready.1 hi
    have hi' : i < ops.size := (Array.getElem?_eq_some_iff.1 ho).1
    have hk := okG_at hok ho
    have hun2 : listed.getD i false = false := by rw [getD_mem (by omega)] at hun ⊢; exact hun
    have hdeps : ∀ j ∈ deps ops i, j < ops.size ∧ listed.getD j false = true := fun j hj => by
      have hlt := hk.deps j hj
      unfold deps at hj
      rw [ho] at hj
      obtain ⟨e, he, rfl⟩ := List.mem_map.1 hj
      have he := List.mem_filter.1 he
      exact ⟨by omega, hdep e (by simpa using he.1) he.2⟩
    have hstep := step i o listed a w ho ⟨hl, hun2, h.closed, fun j hj => h.done j (hdeps j hj).1 (hdeps j hj).2, h.other, h.inv, fun j hj => (hdeps j hj).2, h.size⟩
    have key : ∀ a' w', Leaves4 Sp J listed i o.dst a w a' w' → wpAnyIn (Fence.wide.inRound lo) m P .any ops Q fuel (listed.setIfInBounds i true) a' w' := by
      rintro a' w' ⟨v, rfl, hv, hmono, hJ⟩
      refine any_guarded4_in hnd0 hok step fin fuel _ _ _ (by simpa using hl) (by have := left_set (listed := listed) (i := i) (by omega) hun; omega) ⟨?_, ?_, ?_, ?_, ?_, hJ⟩
      · rw [put_size]; exact h.size
      · rw [put_defers]; exact h.defers
      · intro k hk2 hlk j hj
        by_cases hik : i = k
        · subst hik
          exact getD_set_true (hdeps j hj).2
        · rw [getD_set_ne false hik] at hlk
          exact getD_set_true (h.closed k hk2 hlk j hj)
      · intro t ht
        have hit : (listed.setIfInBounds i true).getD i false = true := by
          rw [getD_mem (by simpa using (by omega : i < listed.size))]; simp
        rw [put_ne a v (by rw [hk.dst]; exact ht i hi' hit)]
        exact h.other t fun k hk2 hlk => ht k hk2 (getD_set_true hlk)
      · intro j hj hlj
        by_cases hij : i = j
        · subst hij
          refine ⟨v, fun d hd => ?_, hv⟩
          rw [hk.dst, hd]
          exact put_at a v (by rw [h.size]; exact hk.lt d hd)
        · rw [getD_set_ne false hij] at hlj
          obtain ⟨u, e1, e2⟩ := h.done j hj hlj
          refine ⟨u, fun d hd => ?_, hmono j u (Ne.symm hij) hlj e2⟩
          rw [put_ne a v (by rw [hk.dst]; exact okG_apart hok hj hi' (Ne.symm hij) hd)]
          exact e1 d hd
    unfold wpOpIn
    rw [ho]
    dsimp only
    cases hw : Region.wanted o (yielded ops a.tmps) with
    | true =>
      rw [if_pos rfl]
      exact wpIn_of (noDefer_at hnd0 ho) (Oper.wp_mono key (hstep.1 hw))
    | false =>
      rw [if_neg (by simp)]
      exact ⟨fun _ _ => trivial, key _ _ (hstep.2 hw)⟩
/-- the region, each operation told once; the frame behind it: 'slots' are the temporaries that it writes, each with its operation -/
theorem wp_guarded4_in {lo m : Nat} (hnd0 : noDefer ops = true) {id : Nat} {a : Act} {w : World} (hm : P.follows .mixedOrders = true) (ds : List (Option Nat)) (Sp : Nat → World → Value → Prop) (J : Array Bool → Act → World → Prop) (slots : List (Nat × Nat)) (hok : okG ops ds a.tmps.size = true)
    (hsl : (slots.all fun p => decide (p.2 < ops.size) && dsAt ds p.2 == some p.1) = true) (hnd : (slots.map (·.1)).Nodup) (hall : ((List.range ops.size).all fun i => (dsAt ds i).all fun d => (slots.map (·.1)).contains d) = true)
    (h0 : J (Array.replicate ops.size false) a w.drew)
    (step : ∀ i o listed a' w', ops[i]? = some o → HSees ops ds Sp J a listed i a' w' →
      (Region.wanted o (yielded ops a'.tmps) = true → Oper.wp P o a' w' (Leaves4 Sp J listed i o.dst a' w') Q) ∧ (Region.wanted o (yielded ops a'.tmps) = false → Leaves4 Sp J listed i o.dst a' w' (a'.put o.dst undef) w'))
    (fin : ∀ listed (vs : List Value) w', vs.length = slots.length → (∀ (k : Nat) (p : Nat × Nat) (v : Value), slots[k]? = some p → vs[k]? = some v → Sp p.2 w' v ∧ (puts a ((slots.map (·.1)).zip vs)).tmps[p.1]? = some v) → (∀ i, i < ops.size → ∃ v, Sp i w' v) → (∀ i, i < ops.size → listed.getD i false = true) → J listed (puts a ((slots.map (·.1)).zip vs)) w' → Q .normal (puts a ((slots.map (·.1)).zip vs)) w') :
    (Code.region id ops true).wpIn (Fence.wide.inRound lo) m P Q a w := by
  refine wpIn_region_any hm ?_
  refine any_guarded4_in (a0 := a) hnd0 hok step (fun listed a' w' hal h => ?_) _ _ _ _ (by simp) ?_ ⟨rfl, rfl, fun k hk hf => ?_, fun _ _ => rfl, fun i hi hf => ?_, h0⟩
  · simp only [List.all_eq_true, Bool.and_eq_true, decide_eq_true_eq, beq_iff_eq] at hsl
    have hv : ∀ p ∈ slots, ∃ v, a'.tmps[p.1]? = some v ∧ Sp p.2 w' v := fun p hp => by
      obtain ⟨h1, h2⟩ := hsl p hp
      obtain ⟨v, e, hs⟩ := h.done p.2 h1 (hal _ h1)
      exact ⟨v, e p.1 h2, hs⟩
    let vs := slots.map fun p => a'.tmps.getD p.1 undef
    have hfr := frame_eq h.size h.defers ((slots.map (·.1)).zip vs) (by
      rw [List.map_fst_zip (by simp [vs])]; exact hnd) (fun p hp => by
      have hp2 := (List.of_mem_zip (a := p.1) (b := p.2) hp).1
      obtain ⟨q, hq, e⟩ := List.mem_map.1 hp2
      obtain ⟨h1, h2⟩ := hsl q hq
      rw [← e]
      exact (okG_at hok (Array.getElem?_eq_some_iff.2 ⟨h1, rfl⟩)).lt _ h2) (fun p hp => by
      obtain ⟨k, hk, e⟩ := List.mem_iff_getElem.1 hp
      rw [List.getElem_zip] at e
      rw [← e]
      rw [List.length_zip] at hk
      have hk1 : k < slots.length := by simp at hk; omega
      obtain ⟨v, e1, _⟩ := hv slots[k] (List.getElem_mem hk1)
      simp only [vs, List.getElem_map]
      rw [arr_getD e1]; exact e1) (fun t ht => h.other t fun i hi _ e => by
      simp only [List.all_eq_true, List.mem_range] at hall
      have h3 := hall i hi
      rw [e] at h3
      have h3 : t ∈ slots.map (·.1) := by simpa using h3
      obtain ⟨k, hk, e2⟩ := List.mem_iff_getElem.1 h3
      have hkl : k < ((slots.map (·.1)).zip vs).length := by rw [List.length_zip]; simp [vs] at hk ⊢; omega
      exact ht _ (List.getElem_mem hkl) (by rw [List.getElem_zip]; exact e2))
    have hinv := h.inv
    rw [hfr] at hinv
    rw [hfr]
    refine fin listed vs w' (by simp [vs]) (fun k p v hp hvk => ?_) (fun i hi => (h.done i hi (hal i hi)).imp fun v hv => hv.2) hal hinv
    obtain ⟨hk1, rfl⟩ := List.getElem?_eq_some_iff.1 hp
    obtain ⟨hk2, rfl⟩ := List.getElem?_eq_some_iff.1 hvk
    obtain ⟨u, e1, e2⟩ := hv slots[k] (List.getElem_mem hk1)
    have h3 : vs[k] = a'.tmps.getD slots[k].1 undef := by simp only [vs, List.getElem_map]
    have hv2 : vs[k] = u := by rw [h3, arr_getD e1]
    rw [hv2]
    exact ⟨e2, by rw [← hfr]; exact e1⟩
  · exact Nat.le_trans List.countP_le_length (by simp)
  · simp [hk] at hf
  · simp [hi] at hf
theorem wp_chain_in {lo m : Nat} (hnd0 : noDefer ops = true) {id : Nat} {a : Act} {w : World} (hm : P.follows .mixedOrders = true) (ds : List (Option Nat)) (vs : List Value) (ib ia is : Nat) (S0 S1 S2 S3 : World) (slots : List (Nat × Nat)) (hok : okG ops ds a.tmps.size = true) (hng : noGuard ops = true)
    (hsl : (slots.all fun p => decide (p.2 < ops.size) && dsAt ds p.2 == some p.1) = true) (hnd : (slots.map (·.1)).Nodup) (hall : ((List.range ops.size).all fun i => (dsAt ds i).all fun d => (slots.map (·.1)).contains d) = true)
    (hix : (decide (ib < ia) && (decide (ia < is) && (decide (is < ops.size) && ((deps ops ia).contains ib && (deps ops is).contains ia)))) = true) (hS0 : w.drew = S0)
    (step : ∀ i o a' w', ops[i]? = some o → (∀ j ∈ deps ops i, ∀ d, dsAt ds j = some d → a'.tmps[d]? = some (vs.getD j undef)) → (∀ t, Fr ops ds i t → a'.tmps[t]? = a.tmps[t]?) → Now ops ib ia is S0 S1 S2 S3 i w' →
      Oper.wp P o a' w' (fun a2 w2 => a2 = a'.put o.dst (vs.getD i undef) ∧ w2 = nxt ib ia is S1 S2 S3 i w') Q)
    (fin : ∀ us : List Value, us.length = slots.length → (∀ (k : Nat) (p : Nat × Nat) (v : Value), slots[k]? = some p → us[k]? = some v → v = vs.getD p.2 undef) → Q .normal (puts a ((slots.map (·.1)).zip us)) S3) : (Code.region id ops true).wpIn (Fence.wide.inRound lo) m P Q a w := by
  simp only [Bool.and_eq_true, decide_eq_true_eq] at hix
  obtain ⟨h1, h2, h3, h4, h5⟩ := hix
  have hb : ib ∈ deps ops ia := by simpa using h4
  have ha : ia ∈ deps ops is := by simpa using h5
  refine wp_guarded4_in hnd0 hm ds (fun i _ v => v = vs.getD i undef) (fun listed _ w' => w' = wld ib ia is S0 S1 S2 S3 listed) slots hok hsl hnd hall ?_ ?_ ?_
  · rw [hS0]
    unfold wld
    simp [h3, show ia < ops.size by omega, show ib < ops.size by omega]
  · intro i o listed a' w' ho hs
    have hi : i < ops.size := (Array.getElem?_eq_some_iff.1 ho).1
    have hg : o.guard = none := by
      unfold noGuard at hng
      rw [Array.all_eq_true'] at hng
      have := hng o (Array.mem_of_getElem? ho)
      simpa using this
    have hca : listed.getD ia false = true → listed.getD ib false = true := fun h => hs.closed ia (by omega) h ib hb
    have hcs : listed.getD is false = true → listed.getD ia false = true := fun h => hs.closed is h3 h ia ha
    have hun := hs.un
    have hsz := hs.size
    have hw : Region.wanted o (yielded ops a'.tmps) = true := wanted_none hg
    refine ⟨fun _ => ?_, fun h => by rw [hw] at h; cases h⟩
    have hinv : w' = wld ib ia is S0 S1 S2 S3 listed := hs.inv
    have hdep : ∀ j ∈ deps ops i, ∀ d, dsAt ds j = some d → a'.tmps[d]? = some (vs.getD j undef) := fun j hj d hd => by
      obtain ⟨v, e, rfl⟩ := hs.dep j hj
      exact e d hd
    have hother : ∀ t, Fr ops ds i t → a'.tmps[t]? = a.tmps[t]? := fun t hf => hs.other t fun k hk hlk e => by
      have ht := hf.out
      unfold freeAt at ht
      simp only [List.all_eq_true, List.mem_range, Bool.or_eq_true, bne_iff_ne, ne_eq] at ht
      rcases ht k hk with h | h
      · exact h e
      · have := marks_listed hs.closed ops.size (Nat.le_refl _) k h hlk
        rw [hun] at this; cases this
    have F : ∀ {x : Bool}, (x = true → False) → x = false := fun {x} h => by cases x <;> simp_all
    have hnow : Now ops ib ia is S0 S1 S2 S3 i w' := by
      refine ⟨fun e => ?_, fun e => ?_, fun e => ?_, fun e => ?_, ?_⟩
      · subst e
        have e1 : listed.getD ia false = false := F fun h => by have := hca h; rw [hun] at this; cases this
        have e2 : listed.getD is false = false := F fun h => by have := hcs h; rw [e1] at this; cases this
        rw [hinv]; unfold wld; rw [e1, e2, hun]; rfl
      · subst e
        have e2 : listed.getD is false = false := F fun h => by have := hcs h; rw [hun] at this; cases this
        have e3 : listed.getD ib false = true := hs.lst ib hb
        rw [hinv]; unfold wld; rw [e2, hun, e3]; rfl
      · subst e
        have e3 : listed.getD ia false = true := hs.lst ia ha
        rw [hinv]; unfold wld; rw [hun, e3]; rfl
      · have e1 : listed.getD ia false = false := F fun h => by
          have := marks_listed hs.closed ops.size (Nat.le_refl _) ia e h
          rw [hun] at this; cases this
        have e2 : listed.getD is false = false := F fun h => by have := hcs h; rw [e1] at this; cases this
        rw [hinv]; unfold wld; rw [e1, e2]
        cases listed.getD ib false with
        | true => right; rfl
        | false => left; rfl
      · rw [hinv]; unfold wld
        split
        · exact .inr (.inr (.inr rfl))
        · split
          · exact .inr (.inr (.inl rfl))
          · split
            · exact .inr (.inl rfl)
            · exact .inl rfl
    refine Oper.wp_mono ?_ (step i o a' w' ho hdep hother hnow)
    rintro a2 w2 ⟨rfl, rfl⟩
    refine ⟨_, rfl, rfl, fun j u _ _ h => h, ?_⟩
    have G : ∀ k, (listed.setIfInBounds i true).getD k false = (if i = k then true else listed.getD k false) := fun k => by
      by_cases e : i = k
      · subst e; rw [if_pos rfl]; simp [hsz, hi]
      · rw [if_neg e]; exact getD_set_ne false e
    show nxt ib ia is S1 S2 S3 i w' = wld ib ia is S0 S1 S2 S3 (listed.setIfInBounds i true)
    unfold nxt wld
    rw [G, G, G]
    by_cases e1 : i = is
    · subst e1; simp
    by_cases e2 : i = ia
    · subst e2
      have e4 : listed.getD is false = false := F fun h => by have := hcs h; rw [hun] at this; cases this
      simp [e1, e4]
    by_cases e3 : i = ib
    · subst e3
      have e4 : listed.getD ia false = false := F fun h => by have := hca h; rw [hun] at this; cases this
      have e5 : listed.getD is false = false := F fun h => by have := hcs h; rw [e4] at this; cases this
      simp [e1, e2, e4, e5]
    · simp only [e1, e2, e3, if_false]
      rw [hinv]; rfl
  · intro listed us w' hl hu _ hal hJ
    have hJ : w' = wld ib ia is S0 S1 S2 S3 listed := hJ
    have e1 := hal is h3
    rw [hJ]
    have : wld ib ia is S0 S1 S2 S3 listed = S3 := by unfold wld; rw [e1]; rfl
    rw [this]
    exact fin us hl fun k p v hp hv => (hu k p v hp hv).1
end
end Go.Proofs.Ytciighiecoalmaa.Reg

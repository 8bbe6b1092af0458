/-
  A region that draws its order and makes one thing: 'x.f = append(x.f, T{..})': all values known, the world known by what has been done.
-/
import Derived.Test.YtomnkmcabkoagaaRegSpec4
import Derived.Test.YtomnkmcabkoagaaRegSat
namespace Go.Proofs.Ytomnkmcabkoagaa.Reg
open Go Go.RowKit
section
variable {P : Program} {ops : Array Oper} {Q : Exit → Act → World → Prop}
/-- the world, by what has been done: the element made, appended, the slice stored -/
def wld (ib ia is : Nat) (S0 S1 S2 S3 : World) (listed : Array Bool) : World :=
  if listed.getD is false = true then S3 else if listed.getD ia false = true then S2 else if listed.getD ib false = true then S1 else S0
def nxt (ib ia is : Nat) (S1 S2 S3 : World) (i : Nat) (w : World) : World := if i = is then S3 else if i = ia then S2 else if i = ib then S1 else w
/-- what holds of the world when operation i is run -/
structure Now (ops : Array Oper) (ib ia is : Nat) (S0 S1 S2 S3 : World) (i : Nat) (w : World) : Prop where
  made : i = ib → w = S0
  app : i = ia → w = S1
  stored : i = is → w = S2
  early : (marks ops i ops.size).getD ia false = true → w = S0 ∨ w = S1
  any : w = S0 ∨ w = S1 ∨ w = S2 ∨ w = S3
def noGuard (ops : Array Oper) : Bool := ops.all fun o => o.guard.isNone
theorem wp_chain {id : Nat} {a : Act} {w : World} (hm : P.follows .mixedOrders = true) (ds : List (Option Nat)) (vs : List Value) (ib ia is : Nat) (S0 S1 S2 S3 : World) (slots : List (Nat × Nat)) (hok : okG ops ds a.tmps.size = true) (hng : noGuard ops = true)
    (hsl : (slots.all fun p => decide (p.2 < ops.size) && dsAt ds p.2 == some p.1) = true) (hnd : (slots.map (·.1)).Nodup) (hall : ((List.range ops.size).all fun i => (dsAt ds i).all fun d => (slots.map (·.1)).contains d) = true)
    (hix : (decide (ib < ia) && (decide (ia < is) && (decide (is < ops.size) && ((deps ops ia).contains ib && (deps ops is).contains ia)))) = true) (hS0 : w.drew = S0)
    (step : ∀ i o a' w', ops[i]? = some o → (∀ j ∈ deps ops i, ∀ d, dsAt ds j = some d → a'.tmps[d]? = some (vs.getD j undef)) → (∀ t, Fr ops ds i t → a'.tmps[t]? = a.tmps[t]?) → Now ops ib ia is S0 S1 S2 S3 i w' →
      Oper.wp P o a' w' (fun a2 w2 => a2 = a'.put o.dst (vs.getD i undef) ∧ w2 = nxt ib ia is S1 S2 S3 i w') Q)
    (fin : ∀ us : List Value, us.length = slots.length → (∀ (k : Nat) (p : Nat × Nat) (v : Value), slots[k]? = some p → us[k]? = some v → v = vs.getD p.2 undef) → Q .normal (puts a ((slots.map (·.1)).zip us)) S3) : (Code.region id ops true).wp P Q a w := by
  simp only [Bool.and_eq_true, decide_eq_true_eq] at hix
  obtain ⟨h1, h2, h3, h4, h5⟩ := hix
  have hb : ib ∈ deps ops ia := by simpa using h4
  have ha : ia ∈ deps ops is := by simpa using h5
  refine wp_guarded4 hm ds (fun i _ v => v = vs.getD i undef) (fun listed _ w' => w' = wld ib ia is S0 S1 S2 S3 listed) slots hok hsl hnd hall ?_ ?_ ?_
  · rw [hS0]
    unfold wld
    simp [h3, show ia < ops.size by omega, show ib < ops.size by omega]
  · intro i o listed a' w' ho hs
    have hi : i < ops.size := (Array.getElem?_eq_some_iff.1 ho).1
    have hg : o.guard = none := by
      unfold noGuard at hng
      rw [Array.all_eq_true'] at hng
      have := hng o (Array.mem_of_getElem? ho)
      simpa using this
    have hca : listed.getD ia false = true → listed.getD ib false = true := fun h => hs.closed ia (by omega) h ib hb
    have hcs : listed.getD is false = true → listed.getD ia false = true := fun h => hs.closed is h3 h ia ha
    have hun := hs.un
    have hsz := hs.size
    have hw : Region.wanted o (yielded ops a'.tmps) = true := wanted_none hg
    refine ⟨fun _ => ?_, fun h => by rw [hw] at h; cases h⟩
    have hinv : w' = wld ib ia is S0 S1 S2 S3 listed := hs.inv
    have hdep : ∀ j ∈ deps ops i, ∀ d, dsAt ds j = some d → a'.tmps[d]? = some (vs.getD j undef) := fun j hj d hd => by
      obtain ⟨v, e, rfl⟩ := hs.dep j hj
      exact e d hd
    have hother : ∀ t, Fr ops ds i t → a'.tmps[t]? = a.tmps[t]? := fun t hf => hs.other t fun k hk hlk e => by
      have ht := hf.out
      unfold freeAt at ht
      simp only [List.all_eq_true, List.mem_range, Bool.or_eq_true, bne_iff_ne, ne_eq] at ht
      rcases ht k hk with h | h
      · exact h e
      · have := marks_listed hs.closed ops.size (Nat.le_refl _) k h hlk
        rw [hun] at this; cases this
    have F : ∀ {x : Bool}, (x = true → False) → x = false := fun {x} h => by cases x <;> simp_all
    have hnow : Now ops ib ia is S0 S1 S2 S3 i w' := by
      refine ⟨fun e => ?_, fun e => ?_, fun e => ?_, fun e => ?_, ?_⟩
      · subst e
        have e1 : listed.getD ia false = false := F fun h => by have := hca h; rw [hun] at this; cases this
        have e2 : listed.getD is false = false := F fun h => by have := hcs h; rw [e1] at this; cases this
        rw [hinv]; unfold wld; rw [e1, e2, hun]; rfl
      · subst e
        have e2 : listed.getD is false = false := F fun h => by have := hcs h; rw [hun] at this; cases this
        have e3 : listed.getD ib false = true := hs.lst ib hb
        rw [hinv]; unfold wld; rw [e2, hun, e3]; rfl
      · subst e
        have e3 : listed.getD ia false = true := hs.lst ia ha
        rw [hinv]; unfold wld; rw [hun, e3]; rfl
      · have e1 : listed.getD ia false = false := F fun h => by
          have := marks_listed hs.closed ops.size (Nat.le_refl _) ia e h
          rw [hun] at this; cases this
        have e2 : listed.getD is false = false := F fun h => by have := hcs h; rw [e1] at this; cases this
        rw [hinv]; unfold wld; rw [e1, e2]
        cases listed.getD ib false with
        | true => right; rfl
        | false => left; rfl
      · rw [hinv]; unfold wld
        split
        · exact .inr (.inr (.inr rfl))
        · split
          · exact .inr (.inr (.inl rfl))
          · split
            · exact .inr (.inl rfl)
            · exact .inl rfl
    refine Oper.wp_mono ?_ (step i o a' w' ho hdep hother hnow)
    rintro a2 w2 ⟨rfl, rfl⟩
    refine ⟨_, rfl, rfl, fun j u _ _ h => h, ?_⟩
    have G : ∀ k, (listed.setIfInBounds i true).getD k false = (if i = k then true else listed.getD k false) := fun k => by
      by_cases e : i = k
      · subst e; rw [if_pos rfl]; simp [hsz, hi]
      · rw [if_neg e]; exact getD_set_ne false e
    show nxt ib ia is S1 S2 S3 i w' = wld ib ia is S0 S1 S2 S3 (listed.setIfInBounds i true)
    unfold nxt wld
    rw [G, G, G]
    by_cases e1 : i = is
    · subst e1; simp
    by_cases e2 : i = ia
    · subst e2
      have e4 : listed.getD is false = false := F fun h => by have := hcs h; rw [hun] at this; cases this
      simp [e1, e4]
    by_cases e3 : i = ib
    · subst e3
      have e4 : listed.getD ia false = false := F fun h => by have := hca h; rw [hun] at this; cases this
      have e5 : listed.getD is false = false := F fun h => by have := hcs h; rw [e4] at this; cases this
      simp [e1, e2, e4, e5]
    · simp only [e1, e2, e3, if_false]
      rw [hinv]; rfl
  · intro listed us w' hl hu _ hal hJ
    have hJ : w' = wld ib ia is S0 S1 S2 S3 listed := hJ
    have e1 := hal is h3
    rw [hJ]
    have : wld ib ia is S0 S1 S2 S3 listed = S3 := by unfold wld; rw [e1]; rfl
    rw [this]
    exact fin us hl fun k p v hp hv => (hu k p v hp hv).1
end
end Go.Proofs.Ytomnkmcabkoagaa.Reg

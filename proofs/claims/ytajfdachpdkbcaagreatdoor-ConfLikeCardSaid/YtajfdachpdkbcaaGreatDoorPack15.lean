/-
A region that draws its order, with guards, whose values are all known: each told once.
Layer 9 (fault), for a seat without words: what the listed handle gives the walks: the type of errors.
-/
import Derived.Test.YtajfdachpdkbcaaGreatDoorPack14
import Derived.Test.YtajfdachpdkbcaaGreatDoorRows
import Derived.ProofKit
import Derived.LaidMore
import Derived.LaidHandle
import Derived.OpenShut
import Derived.FnData
section
namespace Go.Proofs.YtajfdachpdkbcaaGreatDoor.Reg
open Go Go.RowKit
/-- what is yielded: nothing, where a guard passes over -/
def ev (vs : List Value) (wd : List Bool) (i : Nat) : Value := match wd.getD i true with
  | true => vs.getD i undef
  | false => undef
/-- the guards, decided -/
def okW (ops : Array Oper) (ds : List (Option Nat)) (vs : List Value) (wd : List Bool) : Bool := (List.range ops.size).all fun i => match ops[i]? with
  | some o => match o.guard with
    | none => wd.getD i true
    | some (g, want) => (deps ops i).contains g && ((dsAt ds g).isSome && match ev vs wd g with
      | .bool b => wd.getD i true == (b == want)
      | _ => false)
  | none => false
section
variable {P : Program} {ops : Array Oper} {Q : Exit → Act → World → Prop}
theorem okW_at {ds : List (Option Nat)} {n : Nat} {vs : List Value} {wd : List Bool} (hok : okG ops ds n = true) (h : okW ops ds vs wd = true) {i : Nat} {o : Oper} (ho : ops[i]? = some o) {a : Act} (hdep : ∀ j ∈ deps ops i, ∀ d, dsAt ds j = some d → a.tmps[d]? = some (ev vs wd j)) : Region.wanted o (yielded ops a.tmps) = wd.getD i true := by
  simp only [okW, List.all_eq_true, List.mem_range] at h
  have hi : i < ops.size := (Array.getElem?_eq_some_iff.1 ho).1
  have h1 := h i hi
  rw [ho] at h1
  dsimp only at h1
  cases hg : o.guard with
  | none =>
    rw [hg] at h1
    rw [wanted_none hg]; exact h1.symm
  | some p =>
    obtain ⟨g, want⟩ := p
    rw [hg] at h1
    dsimp only at h1
    simp only [Bool.and_eq_true] at h1
    obtain ⟨h2, h3, h4⟩ := h1
    have hgm : g ∈ deps ops i := by simpa using h2
    obtain ⟨d, hd⟩ := Option.isSome_iff_exists.1 h3
    have hv := hdep g hgm d hd
    have hgl : g < ops.size := by have := (okG_at hok ho).deps g hgm; omega
    have hgo : (ops[g]?).bind (·.dst) = some d := by
      have e : ops[g]? = some ops[g] := Array.getElem?_eq_some_iff.2 ⟨hgl, rfl⟩
      rw [e]
      show ops[g].dst = some d
      rw [(okG_at hok e).dst, hd]
    cases hev : ev vs wd g with
    | bool b =>
      rw [hev] at h4 hv
      rw [wanted_of hg hgo hv]
      simpa using (beq_iff_eq.1 h4).symm
    | _ => rw [hev] at h4; simp at h4
theorem wp_valsG {id : Nat} {a : Act} {w : World} (hm : P.follows .mixedOrders = true) (ds : List (Option Nat)) (vs : List Value) (wd : List Bool) (slots : List (Nat × Nat)) (hok : okG ops ds a.tmps.size = true) (how : okW ops ds vs wd = true)
    (hsl : (slots.all fun p => decide (p.2 < ops.size) && dsAt ds p.2 == some p.1) = true) (hnd : (slots.map (·.1)).Nodup) (hall : ((List.range ops.size).all fun i => (dsAt ds i).all fun d => (slots.map (·.1)).contains d) = true)
    (step : ∀ i o a' w', ops[i]? = some o → wd.getD i true = true → (∀ j ∈ deps ops i, ∀ d, dsAt ds j = some d → a'.tmps[d]? = some (ev vs wd j)) → (∀ t, (∀ k, k < ops.size → dsAt ds k ≠ some t) → a'.tmps[t]? = a.tmps[t]?) → Below w.heap.size w w' →
      Oper.wp P o a' w' (fun a2 w2 => a2 = a'.put o.dst (vs.getD i undef) ∧ Below w'.heap.size w' w2) Q)
    (fin : ∀ (us : List Value) w', us.length = slots.length → (∀ (k : Nat) (p : Nat × Nat) (v : Value), slots[k]? = some p → us[k]? = some v → v = ev vs wd p.2) → Below w.heap.size w w' → Q .normal (puts a ((slots.map (·.1)).zip us)) w') : (Code.region id ops true).wp P Q a w := by
  refine wp_guarded hm ds (fun i _ v => v = ev vs wd i) (fun _ w' => Below w.heap.size w w') slots hok hsl hnd hall ⟨rfl, rfl, rfl, Nat.le_refl _, fun _ _ => rfl⟩ ?_ ?_
  · intro i o listed a' w' ho hs
    have hdep : ∀ j ∈ deps ops i, ∀ d, dsAt ds j = some d → a'.tmps[d]? = some (ev vs wd j) := fun j hj d hd => by
      obtain ⟨v, e, rfl⟩ := hs.dep j hj
      exact e d hd
    have hw := okW_at hok how ho hdep
    have hother : ∀ t, (∀ k, k < ops.size → dsAt ds k ≠ some t) → a'.tmps[t]? = a.tmps[t]? := fun t ht => hs.other t fun k hk _ => ht k hk
    refine ⟨fun hwt => ?_, fun hwf => ?_⟩
    · rw [hw] at hwt
      refine Oper.wp_mono ?_ (step i o a' w' ho hwt hdep hother hs.inv)
      rintro a2 w2 ⟨rfl, hb⟩
      exact ⟨_, rfl, by show _ = ev vs wd i; unfold ev; rw [hwt], fun j u _ _ h => h, hs.inv.trans (hb.mono hs.inv.size)⟩
    · rw [hw] at hwf
      exact ⟨undef, rfl, by show _ = ev vs wd i; unfold ev; rw [hwf], fun j u _ _ h => h, hs.inv⟩
  · intro listed us w' hl hu _ _ hJ
    exact fin us w' hl hu hJ
end
end Go.Proofs.YtajfdachpdkbcaaGreatDoor.Reg
end

section
namespace Go.Proofs.YtajfdachpdkbcaaGreatDoor.Flt
open Go.ChangeShapes Go.WideShapes Go.ChangeAt Go.RowKit

/-- the list of what the table holds -/
def laidL : List (String × DataW Unit) := Rows.confBackRow.laid
/-- the door's own heap meets the condition -/
theorem door_met (os : Os) (args : Array Value) : laidMetH Tryz.prog laidL ((World.doorLaid Tryz.prog 400 os).forCall (fun _ _ => 0) ⟨#[], args, []⟩).memory :=
  laidMetH_of_parts3 (fuel := 8) (laidMet_of_run' 8 (by kernel_rfl) (by kernel_rfl)) (by kernel_rfl) (by kernel_rfl)
theorem rt : (Tryz.prog.cutTypes.find? (·.1 == "internal/reflectlite.rtype")).map (·.2) = some 178 := by kernel_rfl
theorem oneRow : ((List.range 283).filter fun t => Tryz.prog.rowNamed t [101, 114, 114, 111, 114]) = [31] := by kernel_rfl
theorem sizeT : Tryz.prog.types.size = 283 := by kernel_rfl
theorem met_parts {W : World} (h : laidMetH Tryz.prog laidL W) : laidMet Tryz.prog [] W ∧ handlesMet Tryz.prog [Rows.confBackRow.laid[0]] W := h

theorem et_of {W : World} (h : laidMetH Tryz.prog laidL W) : W.cell? ⟨0, 0, none⟩ = some (.iface 178 (.agg #[.pointer (some ⟨2, 31, none⟩)])) := by
  obtain ⟨name, u, ty, e1, e2, e3, e4, e5⟩ := (met_parts h).2 _ (List.mem_singleton.2 rfl)
  have en : name = [101, 114, 114, 111, 114] := (Option.some.inj e1).symm
  subst en
  obtain rfl := Option.some.inj (rt.symm.trans e2)
  have hm : ty ∈ (List.range 283).filter fun t => Tryz.prog.rowNamed t [101, 114, 114, 111, 114] := List.mem_filter.2 ⟨List.mem_range.2 (by rw [← sizeT]; exact e3), e4⟩
  rw [oneRow] at hm
  obtain rfl := List.mem_singleton.1 hm
  have hh : typeHandle Tryz.prog 31 = .pointer (some ⟨2, 31, none⟩) := by kernel_rfl
  rw [hh] at e5
  have et : Tryz.prog.globalNamed (Rows.confBackRow.laid[0]).1 = some 0 := by kernel_rfl
  simpa using World.var?_cell et e5 0
theorem tab_of {W : World} (h : laidMetH Tryz.prog laidL W) : Tab W := ⟨et_of h⟩
end Go.Proofs.YtajfdachpdkbcaaGreatDoor.Flt
end


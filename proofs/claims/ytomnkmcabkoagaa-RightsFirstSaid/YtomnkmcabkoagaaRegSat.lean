/-
  A region that draws its order, with guards; of each operation's value something is known that lasts; what is made lies in new blocks.
-/
import Derived.Test.YtomnkmcabkoagaaRegSpec3
namespace Go.Proofs.Ytomnkmcabkoagaa.Reg
open Go Go.RowKit
/-- what is known of a value, and lasts -/
structure Kn where
  sat : World → Value → Prop
  mono : ∀ w w' v, Below w.heap.size w w' → sat w v → sat w' v
  b : Option Bool
  isb : ∀ w v b', b = some b' → sat w v → v = .bool b'
def Kn.val (v : Value) : Kn := ⟨fun _ u => u = v, fun _ _ _ _ h => h, none, fun _ _ _ h => nomatch h⟩
def Kn.bl (q : Bool) : Kn := ⟨fun _ u => u = .bool q, fun _ _ _ _ h => h, some q, fun _ _ _ h g => by cases h; exact g⟩
def Kn.any : Kn := ⟨fun _ _ => True, fun _ _ _ _ h => h, none, fun _ _ _ h => nomatch h⟩
def knSp (ks : List Kn) (wd : List Bool) (i : Nat) (w : World) (v : Value) : Prop := match wd.getD i true with
  | true => (ks.getD i Kn.any).sat w v
  | false => v = undef
theorem kn_mono {ks : List Kn} {wd : List Bool} {i : Nat} {w w' : World} {v : Value} (hb : Below w.heap.size w w') (h : knSp ks wd i w v) : knSp ks wd i w' v := by
  unfold knSp at *
  split at h
  · exact (ks.getD i Kn.any).mono _ _ _ hb h
  · exact h
/-- the guards, decided -/
def okK (ops : Array Oper) (ds : List (Option Nat)) (ks : List Kn) (wd : List Bool) : Bool := (List.range ops.size).all fun i => match ops[i]? with
  | some o => match o.guard with
    | none => wd.getD i true
    | some (g, want) => (deps ops i).contains g && ((dsAt ds g).isSome && (wd.getD g true && match (ks.getD g Kn.any).b with
      | some b => wd.getD i true == (b == want)
      | none => false))
  | none => false
/-- which of the first n operations wait, one behind the other, for operation i -/
def marks (ops : Array Oper) (i : Nat) : Nat → List Bool
  | 0 => []
  | n + 1 => marks ops i n ++ [n == i || (deps ops n).any fun j => (marks ops i n).getD j false]
theorem marks_len (ops : Array Oper) (i : Nat) : ∀ n, (marks ops i n).length = n
  | 0 => rfl
  | n + 1 => by rw [marks, List.length_append, marks_len ops i n]; rfl
theorem marks_listed {ops : Array Oper} {i : Nat} {listed : Array Bool} (hc : ∀ k, k < ops.size → listed.getD k false = true → ∀ j ∈ deps ops k, listed.getD j false = true) : ∀ n, n ≤ ops.size → ∀ k, (marks ops i n).getD k false = true → listed.getD k false = true → listed.getD i false = true
  | 0, _, k, h, _ => by simp [marks] at h
  | n + 1, hn, k, h, hl => by
    rw [marks] at h
    by_cases hk : k < n
    · rw [List.getD_eq_getElem?_getD, List.getElem?_append_left (by rw [marks_len]; exact hk), ← List.getD_eq_getElem?_getD] at h
      exact marks_listed hc n (by omega) k h hl
    · rw [List.getD_eq_getElem?_getD, List.getElem?_append_right (by rw [marks_len]; omega), marks_len, ← List.getD_eq_getElem?_getD] at h
      obtain ⟨d, hd⟩ : ∃ d, k - n = d := ⟨_, rfl⟩
      rw [hd] at h
      match d, hd, h with
      | 0, hd, h =>
        obtain rfl : k = n := by omega
        simp only [List.getD_cons_zero, Bool.or_eq_true, beq_iff_eq, List.any_eq_true] at h
        rcases h with rfl | ⟨j, hj, hm⟩
        · exact hl
        · exact marks_listed hc k (by omega) j hm (hc k (by omega) hl j hj)
      | d + 1, _, h => simp at h
def freeAt (ops : Array Oper) (ds : List (Option Nat)) (i t : Nat) : Bool := let m := marks ops i ops.size; (List.range ops.size).all fun k => dsAt ds k != some t || m.getD k false
structure Fr (ops : Array Oper) (ds : List (Option Nat)) (i t : Nat) : Prop where
  out : freeAt ops ds i t = true
section
variable {P : Program} {ops : Array Oper} {Q : Exit → Act → World → Prop}
theorem okK_at {ds : List (Option Nat)} {n : Nat} {ks : List Kn} {wd : List Bool} (hok : okG ops ds n = true) (h : okK ops ds ks wd = true) {i : Nat} {o : Oper} (ho : ops[i]? = some o) {a : Act} {w : World} (hdep : ∀ j ∈ deps ops i, ∃ v, (∀ d, dsAt ds j = some d → a.tmps[d]? = some v) ∧ knSp ks wd j w v) : Region.wanted o (yielded ops a.tmps) = wd.getD i true := by
  simp only [okK, List.all_eq_true, List.mem_range] at h
  have hi : i < ops.size := (Array.getElem?_eq_some_iff.1 ho).1
  have h1 := h i hi
  rw [ho] at h1
  dsimp only at h1
  cases hg : o.guard with
  | none =>
    rw [hg] at h1
    rw [wanted_none hg]; exact h1.symm
  | some p =>
    obtain ⟨g, want⟩ := p
    rw [hg] at h1
    dsimp only at h1
    simp only [Bool.and_eq_true] at h1
    obtain ⟨h2, h3, h4, h5⟩ := h1
    have hgm : g ∈ deps ops i := by simpa using h2
    obtain ⟨d, hd⟩ := Option.isSome_iff_exists.1 h3
    obtain ⟨v, hv, hs⟩ := hdep g hgm
    have hv := hv d hd
    unfold knSp at hs
    rw [h4] at hs
    dsimp only at hs
    have hgl : g < ops.size := by have := (okG_at hok ho).deps g hgm; omega
    have hgo : (ops[g]?).bind (·.dst) = some d := by
      have e : ops[g]? = some ops[g] := Array.getElem?_eq_some_iff.2 ⟨hgl, rfl⟩
      rw [e]
      show ops[g].dst = some d
      rw [(okG_at hok e).dst, hd]
    cases hev : (ks.getD g Kn.any).b with
    | some b =>
      rw [hev] at h5
      have := (ks.getD g Kn.any).isb _ _ _ hev hs
      subst this
      rw [wanted_of hg hgo hv]
      simpa using (beq_iff_eq.1 h5).symm
    | none => rw [hev] at h5; simp at h5
theorem wp_sat {id : Nat} {a : Act} {w : World} (hm : P.follows .mixedOrders = true) (ds : List (Option Nat)) (ks : List Kn) (wd : List Bool) (slots : List (Nat × Nat)) (hok : okG ops ds a.tmps.size = true) (how : okK ops ds ks wd = true)
    (hsl : (slots.all fun p => decide (p.2 < ops.size) && dsAt ds p.2 == some p.1) = true) (hnd : (slots.map (·.1)).Nodup) (hall : ((List.range ops.size).all fun i => (dsAt ds i).all fun d => (slots.map (·.1)).contains d) = true)
    (step : ∀ i o a' w', ops[i]? = some o → wd.getD i true = true → (∀ j ∈ deps ops i, ∀ d, dsAt ds j = some d → ∃ v, a'.tmps[d]? = some v ∧ knSp ks wd j w' v) → (∀ t, Fr ops ds i t → a'.tmps[t]? = a.tmps[t]?) → Below w.heap.size w w' →
      Oper.wp P o a' w' (fun a2 w2 => ∃ v, a2 = a'.put o.dst v ∧ (ks.getD i Kn.any).sat w2 v ∧ Below w'.heap.size w' w2) Q)
    (fin : ∀ (us : List Value) w', us.length = slots.length → (∀ (k : Nat) (p : Nat × Nat) (v : Value), slots[k]? = some p → us[k]? = some v → knSp ks wd p.2 w' v) → Below w.heap.size w w' → Q .normal (puts a ((slots.map (·.1)).zip us)) w') : (Code.region id ops true).wp P Q a w := by
  refine wp_guarded hm ds (fun i w' v => knSp ks wd i w' v) (fun _ w' => Below w.heap.size w w') slots hok hsl hnd hall ⟨rfl, rfl, rfl, Nat.le_refl _, fun _ _ => rfl⟩ ?_ ?_
  · intro i o listed a' w' ho hs
    have hw := okK_at hok how ho hs.dep
    have hdep : ∀ j ∈ deps ops i, ∀ d, dsAt ds j = some d → ∃ v, a'.tmps[d]? = some v ∧ knSp ks wd j w' v := fun j hj d hd => by
      obtain ⟨v, e, hk⟩ := hs.dep j hj
      exact ⟨v, e d hd, hk⟩
    have hother : ∀ t, Fr ops ds i t → a'.tmps[t]? = a.tmps[t]? := fun t hf => hs.other t fun k hk hlk e => by
      have ht := hf.out
      unfold freeAt at ht
      simp only [List.all_eq_true, List.mem_range, Bool.or_eq_true, bne_iff_ne, ne_eq] at ht
      rcases ht k hk with h | h
      · exact h e
      · have := marks_listed hs.closed ops.size (Nat.le_refl _) k h hlk
        rw [hs.un] at this; cases this
    refine ⟨fun hwt => ?_, fun hwf => ?_⟩
    · rw [hw] at hwt
      refine Oper.wp_mono ?_ (step i o a' w' ho hwt hdep hother hs.inv)
      rintro a2 w2 ⟨v, rfl, hk, hb⟩
      exact ⟨v, rfl, by show knSp ks wd i w2 v; unfold knSp; rw [hwt]; exact hk, fun j u _ _ h => kn_mono hb h, hs.inv.trans (hb.mono hs.inv.size)⟩
    · rw [hw] at hwf
      exact ⟨undef, rfl, by show knSp ks wd i w' undef; unfold knSp; rw [hwf], fun j u _ _ h => h, hs.inv⟩
  · intro listed us w' hl hu _ _ hJ
    exact fin us w' hl hu hJ
end
end Go.Proofs.Ytomnkmcabkoagaa.Reg

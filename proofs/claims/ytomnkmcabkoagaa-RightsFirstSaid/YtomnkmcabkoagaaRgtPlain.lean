/-
  Layer 16 (rights): plain Lean: levels, places, who is meant.
-/
import Derived.Test.YtomnkmcabkoagaaConfCf
import Derived.Test.YtomnkmcabkoagaaWordPlain
namespace Go.Proofs.Ytomnkmcabkoagaa.Rgt
open Go.Proofs.Ytomnkmcabkoagaa.Conf Go.Proofs.Ytomnkmcabkoagaa.Word

abbrev Ac := Bs × Bs × Int
def fit (p s : Bs) : Bool := isPat p && glob p s
def fitA (u c : Bs) (a : Ac) : Bool := fit a.1 c && fit a.2.1 u
/-- the level of the first access that fits -/
def lvlM (l : List Ac) (u c : Bs) : Int := match l.find? (fitA u c) with | some a => a.2.2 | none => 0

/-! ### places -/
section
variable {α : Type}
def plcK (l : List α) (f : α → Bool) (k : Nat) : List Nat := (List.range k).filter fun i => l[i]?.any f
def plc (l : List α) (f : α → Bool) : List Nat := plcK l f l.length
theorem plc_zero (l : List α) (f : α → Bool) : plcK l f 0 = [] := rfl
theorem plc_yes {l : List α} {f : α → Bool} {k : Nat} (hk : k < l.length) (h : f l[k] = true) : plcK l f (k + 1) = plcK l f k ++ [k] := by
  unfold plcK
  rw [List.range_succ, List.filter_append]
  simp [hk, h]
theorem plc_no {l : List α} {f : α → Bool} {k : Nat} (hk : k < l.length) (h : f l[k] = false) : plcK l f (k + 1) = plcK l f k := by
  unfold plcK
  rw [List.range_succ, List.filter_append]
  simp [hk, h]
theorem plc_len (l : List α) (f : α → Bool) (k : Nat) : (plcK l f k).length ≤ k := by
  have := List.length_filter_le (fun i => l[i]?.any f) (List.range k)
  simpa [plcK] using this
theorem plc_mem {l : List α} {f : α → Bool} {i : Nat} : i ∈ plc l f ↔ ∃ h : i < l.length, f l[i] = true := by
  unfold plc plcK
  rw [List.mem_filter, List.mem_range]
  constructor
  · rintro ⟨h, g⟩
    exact ⟨h, by simpa [h] using g⟩
  · rintro ⟨h, g⟩
    exact ⟨h, by simp [h, g]⟩
theorem plc_filter (l : List α) (f g : α → Bool) : (plc l f).filter (fun i => l[i]?.any g) = plc l fun x => f x && g x := by
  unfold plc plcK
  rw [List.filter_filter]
  congr 1
  funext i
  cases h : l[i]? with
  | none => rfl
  | some x => simp [Bool.and_comm]
end

/-- the level of the first of some places whose access fits a console -/
def lvlO (l : List Ac) (own : List Nat) (c : Bs) : Int := match own.find? (fun i => l[i]?.any fun a => fit a.1 c) with | some i => (l[i]?.map (·.2.2)).getD 0 | none => 0
theorem lvlO_eq (l : List Ac) (u c : Bs) : lvlO l (plc l fun a => fit a.2.1 u) c = lvlM l u c := by
  unfold lvlO lvlM plc plcK
  rw [List.find?_filter]
  have e : (fun (i : Nat) => decide ((l[i]?.any fun (a : Ac) => fit a.2.1 u) = true ∧ (l[i]?.any fun (a : Ac) => fit a.1 c) = true)) = fun i => l[i]?.any (fitA u c) := by
    funext i
    cases h : l[i]? with
    | none => rfl
    | some x => simp [fitA, Bool.and_comm]
  rw [e]
  cases h : l.find? (fitA u c) with
  | none =>
    rw [List.find?_eq_none] at h
    have : (List.range l.length).find? (fun i => l[i]?.any (fitA u c)) = none := by
      rw [List.find?_eq_none]
      intro i hi
      have hi := List.mem_range.1 hi
      simpa [hi] using h l[i] (List.getElem_mem hi)
    rw [this]
  | some a =>
    rw [List.find?_eq_some_iff_getElem] at h
    obtain ⟨ha, i, hi, rfl, hn⟩ := h
    have : (List.range l.length).find? (fun i => l[i]?.any (fitA u c)) = some i := by
      rw [List.find?_range_eq_some]
      refine ⟨by simpa [hi] using ha, List.mem_range.2 hi, fun j hj => ?_⟩
      have hj2 : j < l.length := by omega
      have := hn j hj
      simpa [hj2] using this
    rw [this]
    simp [hi]
theorem lvlO_at {l : List Ac} {own : List Nat} {c : Bs} {k i : Nat} (hk : k < own.length) (hi : own[k] = i) (hl : i < l.length) (h : fit l[i].1 c = true) (hn : (own.take k).find? (fun i => l[i]?.any fun a => fit a.1 c) = none) : lvlO l own c = l[i].2.2 := by
  have e : own.find? (fun i => l[i]?.any fun a => fit a.1 c) = some i := by
    conv => lhs; rw [← List.take_append_drop k own]
    rw [List.find?_append, hn, List.drop_eq_getElem_cons hk, hi]
    simp [hl, h]
  unfold lvlO
  rw [e]
  simp [hl]
theorem lvlO_none {l : List Ac} {own : List Nat} {c : Bs} {k : Nat} (hk : k = own.length) (hn : (own.take k).find? (fun i => l[i]?.any fun a => fit a.1 c) = none) : lvlO l own c = 0 := by
  subst hk
  rw [List.take_length] at hn
  unfold lvlO
  rw [hn]
theorem own_next {l : List Ac} {own : List Nat} {c : Bs} {k i : Nat} (hk : k < own.length) (hi : own[k] = i) (hl : i < l.length) (h : fit l[i].1 c = false) (hn : (own.take k).find? (fun i => l[i]?.any fun a => fit a.1 c) = none) : (own.take (k + 1)).find? (fun i => l[i]?.any fun a => fit a.1 c) = none := by
  rw [List.take_succ_eq_append_getElem hk, List.find?_append, hn, hi]
  simp [hl, h]
theorem lvlM_at {l : List Ac} {u c : Bs} {k : Nat} (hk : k < l.length) (h : fitA u c l[k] = true) (hn : (l.take k).find? (fitA u c) = none) : lvlM l u c = l[k].2.2 := by
  have e : l.find? (fitA u c) = some l[k] := by
    conv => lhs; rw [← List.take_append_drop k l]
    rw [List.find?_append, hn, List.drop_eq_getElem_cons hk, List.find?_cons_of_pos h]
    rfl
  unfold lvlM
  rw [e]
theorem lvlM_next {l : List Ac} {u c : Bs} {k : Nat} (hk : k < l.length) (h : fitA u c l[k] = false) (hn : (l.take k).find? (fitA u c) = none) : (l.take (k + 1)).find? (fitA u c) = none := by
  rw [List.take_succ_eq_append_getElem hk, List.find?_append, hn]
  simp [h]
theorem lvlM_none {l : List Ac} {u c : Bs} {k : Nat} (hk : k = l.length) (hn : (l.take k).find? (fitA u c) = none) : lvlM l u c = 0 := by
  subst hk
  rw [List.take_length] at hn
  unfold lvlM
  rw [hn]

/-! ### the calls, plain -/
def sees (l : List Ac) (u : Bs) (x : Cn) : Bool := decide (1 ≤ lvlM l u x.name)
def seesM (c : Cf) (u : Bs) : List Nat := plc c.cons (sees c.accs u)
def fitM (c : Cf) (p : Bs) : List Nat := plc c.cons fun x => fit p x.name
def fitsM (c : Cf) (ps : List Bs) : List Nat := plc c.cons fun x => ps.any fun p => fit p x.name
/-- the place of the first that has that name -/
def idx {α : Type} (l : List α) (f : α → Bool) : Int := match l.findIdx? f with | some i => i | none => -1
theorem idx_at {α : Type} {l : List α} {f : α → Bool} {k : Nat} (hk : k < l.length) (h : f l[k] = true) (hn : ∀ x ∈ l.take k, f x = false) : idx l f = k := by
  have e : l.findIdx? f = some k := by
    rw [List.findIdx?_eq_some_iff_getElem]
    refine ⟨hk, h, fun j hj => ?_⟩
    have := hn l[j] (by rw [List.mem_take_iff_getElem]; exact ⟨j, by omega, rfl⟩)
    simpa using this
  unfold idx; rw [e]
theorem idx_none {α : Type} {l : List α} {f : α → Bool} (hn : ∀ x ∈ l, f x = false) : idx l f = -1 := by
  unfold idx
  rw [List.findIdx?_eq_none_iff.2 hn]
theorem idx_cases {α : Type} (l : List α) (f : α → Bool) : (idx l f = -1 ∧ l.find? f = none) ∨ ∃ k, ∃ h : k < l.length, idx l f = k ∧ l.find? f = some l[k] := by
  unfold idx
  cases h : l.findIdx? f with
  | none =>
    left
    rw [List.findIdx?_eq_none_iff] at h
    exact ⟨rfl, by rw [List.find?_eq_none]; intro x hx; simp [h x hx]⟩
  | some i =>
    right
    rw [List.findIdx?_eq_some_iff_getElem] at h
    obtain ⟨hi, h1, h2⟩ := h
    refine ⟨i, hi, rfl, ?_⟩
    rw [List.find?_eq_some_iff_getElem]
    exact ⟨h1, i, hi, rfl, fun j hj => by simpa using h2 j hj⟩
theorem idx_take {α : Type} {l : List α} {f : α → Bool} {k : Nat} (hk : k < l.length) (h : f l[k] = false) (hn : ∀ x ∈ l.take k, f x = false) : ∀ x ∈ l.take (k + 1), f x = false := by
  intro x hx
  rw [List.take_succ_eq_append_getElem hk] at hx
  rcases List.mem_append.1 hx with hx | hx
  · exact hn x hx
  · rw [List.mem_singleton.1 hx]; exact h
def usrF (u : Bs) (x : Bs × Bs) : Bool := x.1 == u
def grpF (u : Bs) (x : Bs × List Bs) : Bool := x.1 == u
def entM (c : Cf) (u p : Bs) : Int := match c.usrs.find? (usrF u) with | some x => if x.2 = p then 0 else 10 | none => 7
def grpM (c : Cf) (n : Bs) : List Nat × Int := match c.grps.find? (grpF n) with | some g => (fitsM c g.2, 0) | none => ([], 7)
def begs (n : Bs) (x : Cn) : Bool := decide (n ≠ []) && (decide (n.length ≤ x.name.length) && (x.name.take n.length == n))
def begM (c : Cf) (u n : Bs) : List Nat := plc c.cons fun x => begs n x && sees c.accs u x
def nmF (n : Bs) (x : Cn) : Bool := x.name == n
def pickM (c : Cf) (u n : Bs) : Int × Int :=
  match c.cons.find? (nmF n) with
  | some x => if sees c.accs u x then (idx c.cons (nmF n), 0) else
    match begM c u n with
    | [i] => (i, 0)
    | [] => (-1, 10)
    | _ => (-1, 8)
  | none =>
    match begM c u n with
    | [i] => (i, 0)
    | [] => (-1, 7)
    | _ => (-1, 8)
end Go.Proofs.Ytomnkmcabkoagaa.Rgt

/-
  Layer 11 (store), plain: files by rising names; what is put, taken out, found; what a crash leaves.
-/
import Derived.Test.YtememmgnhnldaaaDoorProg
namespace Go.Proofs.YtememmgnhnldaaaDoor.Sto

abbrev Bs := List UInt8
theorem lt_or {a b : Bs} (h : ¬ a < b) (hne : a ≠ b) : b < a := by
  have h1 : b ≤ a := List.not_lt.1 h
  rcases Decidable.em (b < a) with h2 | h2
  · exact h2
  · exact absurd (List.le_antisymm (List.not_lt.1 h2) h1) hne

section
variable {α : Type} (nm : α → Bs)
def Rise (L : List α) : Prop := L.Pairwise fun x y => nm x < nm y
def wo (L : List α) (a : Bs) : List α := L.filter fun x => nm x != a
def low (L : List α) (a : Bs) : List α := L.takeWhile fun x => decide (nm x < a)
def high (L : List α) (a : Bs) : List α := L.dropWhile fun x => decide (nm x < a)
def pt (L : List α) (x : α) : List α := low nm (wo nm L (nm x)) (nm x) ++ x :: high nm (wo nm L (nm x)) (nm x)
def lk (L : List α) (a : Bs) : Option α := L.find? fun x => nm x == a

variable {nm}
theorem low_high (L : List α) (a : Bs) : low nm L a ++ high nm L a = L := List.takeWhile_append_dropWhile
theorem pt_perm (L : List α) (x : α) : (pt nm L x).Perm (x :: wo nm L (nm x)) := by
  have := low_high (nm := nm) (wo nm L (nm x)) (nm x)
  unfold pt
  refine List.perm_middle.trans ?_
  rw [this]
theorem mem_wo {L : List α} {a : Bs} {x : α} : x ∈ wo nm L a ↔ x ∈ L ∧ nm x ≠ a := by simp [wo]
theorem mem_pt {L : List α} {x y : α} : y ∈ pt nm L x ↔ y = x ∨ (y ∈ L ∧ nm y ≠ nm x) := by
  rw [(pt_perm L x).mem_iff, List.mem_cons, mem_wo]
theorem Rise.wo {L : List α} (h : Rise nm L) (a : Bs) : Rise nm (wo nm L a) := List.Pairwise.filter _ h
theorem low_lt {L : List α} {a : Bs} {x : α} (h : x ∈ low nm L a) : nm x < a := by
  have := List.all_takeWhile (l := L) (p := fun x => decide (nm x < a))
  rw [List.all_eq_true] at this
  simpa using this x h
theorem high_ge {L : List α} (hr : Rise nm L) {a : Bs} {x : α} (h : x ∈ high nm L a) : ¬ nm x < a := by
  induction L with
  | nil => simp [high] at h
  | cons y r ih =>
    obtain ⟨h1, h2⟩ := List.pairwise_cons.1 hr
    by_cases hy : nm y < a
    · rw [high, List.dropWhile_cons_of_pos (by simpa using hy)] at h
      exact ih h2 h
    · rw [high, List.dropWhile_cons_of_neg (by simpa using hy)] at h
      rcases List.mem_cons.1 h with rfl | hm
      · exact hy
      · exact fun hx => hy (List.lt_trans (h1 x hm) hx)
theorem Rise.pt {L : List α} (h : Rise nm L) (x : α) : Rise nm (pt nm L x) := by
  have hw := h.wo (nm x)
  have hs : Rise nm (low nm (Sto.wo nm L (nm x)) (nm x) ++ high nm (Sto.wo nm L (nm x)) (nm x)) := by rw [low_high]; exact hw
  obtain ⟨h1, h2, h3⟩ := List.pairwise_append.1 hs
  refine List.pairwise_append.2 ⟨h1, List.pairwise_cons.2 ⟨fun y hy => ?_, h2⟩, fun y hy z hz => ?_⟩
  · have hm : y ∈ Sto.wo nm L (nm x) := by rw [← low_high (nm := nm) (Sto.wo nm L (nm x)) (nm x)]; exact List.mem_append_right _ hy
    exact lt_or (high_ge hw hy) (mem_wo.1 hm).2
  · rcases List.mem_cons.1 hz with rfl | hz
    · exact low_lt hy
    · exact h3 y hy z hz
theorem Rise.one {L : List α} (h : Rise nm L) {x y : α} (hx : x ∈ L) (hy : y ∈ L) (e : nm x = nm y) : x = y := by
  induction L with
  | nil => simp at hx
  | cons z r ih =>
    obtain ⟨h1, h2⟩ := List.pairwise_cons.1 h
    rcases List.mem_cons.1 hx with ex | hx' <;> rcases List.mem_cons.1 hy with ey | hy'
    · rw [ex, ey]
    · have := h1 y hy'
      rw [← ex, e] at this
      exact absurd this (List.lt_irrefl _)
    · have := h1 x hx'
      rw [← ey, e] at this
      exact absurd this (List.lt_irrefl _)
    · exact ih h2 hx' hy'
theorem lk_some {L : List α} {a : Bs} {x : α} (h : lk nm L a = some x) : x ∈ L ∧ nm x = a :=
  ⟨List.mem_of_find?_eq_some h, by have := List.find?_some h; simpa using this⟩
theorem lk_none {L : List α} {a : Bs} : lk nm L a = none ↔ ∀ x ∈ L, nm x ≠ a := by simp [lk]
theorem Rise.lk {L : List α} (h : Rise nm L) {a : Bs} {x : α} : lk nm L a = some x ↔ x ∈ L ∧ nm x = a := by
  refine ⟨lk_some, fun ⟨hx, he⟩ => ?_⟩
  cases hl : Sto.lk nm L a with
  | none => exact absurd he (lk_none.1 hl x hx)
  | some y => rw [h.one (lk_some hl).1 hx ((lk_some hl).2.trans he.symm)]
theorem Rise.lk_cong {L M : List α} (h : Rise nm L) (k : Rise nm M) {a c : Bs} (he : ∀ x, (x ∈ L ∧ nm x = a) ↔ (x ∈ M ∧ nm x = c)) : Sto.lk nm L a = Sto.lk nm M c := by
  ext x
  exact h.lk.trans ((he x).trans k.lk.symm)
theorem Rise.lk_wo {L : List α} (h : Rise nm L) (a c : Bs) : Sto.lk nm (Sto.wo nm L a) c = if c = a then none else Sto.lk nm L c := by
  split
  · rename_i e; subst e
    exact lk_none.2 fun x hx => (mem_wo.1 hx).2
  · rename_i e
    refine (h.wo a).lk_cong h fun x => ?_
    rw [mem_wo]
    exact ⟨fun ⟨⟨h1, _⟩, h2⟩ => ⟨h1, h2⟩, fun ⟨h1, h2⟩ => ⟨⟨h1, by rw [h2]; exact e⟩, h2⟩⟩
theorem Rise.lk_pt {L : List α} (h : Rise nm L) (x : α) (c : Bs) : Sto.lk nm (Sto.pt nm L x) c = if c = nm x then some x else Sto.lk nm L c := by
  split
  · rename_i e; subst e
    exact (h.pt x).lk.2 ⟨mem_pt.2 (.inl rfl), rfl⟩
  · rename_i e
    refine (h.pt x).lk_cong h fun y => ?_
    rw [mem_pt]
    constructor
    · rintro ⟨rfl | ⟨h1, _⟩, h2⟩
      · exact absurd h2.symm e
      · exact ⟨h1, h2⟩
    · rintro ⟨h1, h2⟩
      exact ⟨.inr ⟨h1, by rw [h2]; exact e⟩, h2⟩
theorem wo_none {L : List α} {a : Bs} (h : lk nm L a = none) : wo nm L a = L := by
  unfold wo
  rw [List.filter_eq_self]
  intro x hx
  simpa using lk_none.1 h x hx
theorem Rise.wo_perm {L : List α} (h : Rise nm L) {a : Bs} {x : α} (hl : Sto.lk nm L a = some x) : L.Perm (x :: Sto.wo nm L a) := by
  induction L with
  | nil => simp [Sto.lk] at hl
  | cons y r ih =>
    obtain ⟨h1, h2⟩ := List.pairwise_cons.1 h
    by_cases hy : nm y = a
    · have hxy : y = x := h.one (List.mem_cons_self ..) (lk_some hl).1 (hy.trans (lk_some hl).2.symm)
      have hr : Sto.wo nm r a = r := wo_none (lk_none.2 fun z hz e => by
        have := h1 z hz
        rw [hy, e] at this
        exact List.lt_irrefl _ this)
      have : Sto.wo nm (y :: r) a = r := by rw [← hr]; simp [Sto.wo, hy]
      rw [this, hxy]
    · have e1 : Sto.wo nm (y :: r) a = y :: Sto.wo nm r a := by simp [Sto.wo, hy]
      have e2 : Sto.lk nm r a = some x := by
        have : Sto.lk nm (y :: r) a = Sto.lk nm r a := by simp [Sto.lk, hy]
        rw [← this]; exact hl
      rw [e1]
      exact ((ih h2 e2).cons y).trans (List.Perm.swap ..)
theorem Rise.len_wo {L : List α} (h : Rise nm L) (a : Bs) : (Sto.wo nm L a).length = if (Sto.lk nm L a).isSome then L.length - 1 else L.length := by
  cases hl : Sto.lk nm L a with
  | none => simp [wo_none hl]
  | some x => have := (h.wo_perm hl).length_eq; simp at this ⊢; omega
theorem Rise.len_pt {L : List α} (h : Rise nm L) (x : α) : (Sto.pt nm L x).length = if (Sto.lk nm L (nm x)).isSome then L.length else L.length + 1 := by
  have e := (pt_perm (nm := nm) L x).length_eq
  rw [List.length_cons] at e
  cases hl : Sto.lk nm L (nm x) with
  | none => rw [e, wo_none hl]; simp
  | some y => have := (h.wo_perm hl).length_eq; simp at this ⊢; omega
theorem wo_len (L : List α) (a : Bs) : (wo nm L a).length ≤ L.length := List.length_filter_le _ _
theorem pt_len (L : List α) (x : α) : (pt nm L x).length ≤ L.length + 1 := by
  rw [(pt_perm L x).length_eq]; have := wo_len (nm := nm) L (nm x); simp; omega

section
variable {β : Type} {nb : β → Bs} (g : α → β) (hg : ∀ x, nb (g x) = nm x)
include hg
theorem wo_map (L : List α) (a : Bs) : (wo nm L a).map g = wo nb (L.map g) a := by
  unfold wo
  rw [List.filter_map]
  congr 1
  apply List.filter_congr
  intro x _
  simp [hg]
theorem low_map (L : List α) (a : Bs) : (low nm L a).map g = low nb (L.map g) a := by
  unfold low
  rw [List.takeWhile_map]
  congr 2
  funext x
  simp [hg]
theorem high_map (L : List α) (a : Bs) : (high nm L a).map g = high nb (L.map g) a := by
  unfold high
  rw [List.dropWhile_map]
  congr 2
  funext x
  simp [hg]
theorem pt_map (L : List α) (x : α) : (pt nm L x).map g = pt nb (L.map g) (g x) := by
  unfold pt
  rw [List.map_append, List.map_cons, low_map g hg, high_map g hg, wo_map g hg, hg]
theorem lk_map (L : List α) (a : Bs) : (lk nm L a).map g = lk nb (L.map g) a := by
  unfold lk
  rw [List.find?_map]
  congr 2
  funext x
  simp [hg]
theorem rise_map {L : List α} : Rise nm L ↔ Rise nb (L.map g) := by
  unfold Rise
  rw [List.pairwise_map]
  simp [hg]
end
end
end Go.Proofs.YtememmgnhnldaaaDoor.Sto

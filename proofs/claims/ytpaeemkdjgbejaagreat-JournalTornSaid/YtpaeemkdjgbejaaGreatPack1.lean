/-
Layer 11 (store), plain: files by rising names; what is put, taken out, found; what a crash leaves.
Layer 11 (store), plain: what each call makes of the files, and which code it tells.
Layer 2 (digit): the plain mathematics: decimal texts, digits, signs.
Layer 21 (gens), plain: names of generations, those that are there, and what a turn makes of a store.
Layer 21 (gens), plain: the stores that the law makes; what a turn makes of one.
Layer 7 (sum): sums of bytes by a polynomial; plain Lean.
Layer 7 (sum): sums as bytes, the sum of two texts by powers; plain Lean.
Items: a kind, a tick, bytes.
-/
import Derived.Test.YtpaeemkdjgbejaaGreatProg
import Derived.Lib.Bytealg
import Derived.Lib.Hide
section
namespace Go.Proofs.YtpaeemkdjgbejaaGreat.Sto

abbrev Bs := List UInt8
theorem lt_or {a b : Bs} (h : ¬ a < b) (hne : a ≠ b) : b < a := by
  have h1 : b ≤ a := List.not_lt.1 h
  rcases Decidable.em (b < a) with h2 | h2
  · exact h2
  · exact absurd (List.le_antisymm (List.not_lt.1 h2) h1) hne

section
variable {α : Type} (nm : α → Bs)
def Rise (L : List α) : Prop := L.Pairwise fun x y => nm x < nm y
def wo (L : List α) (a : Bs) : List α := L.filter fun x => nm x != a
def low (L : List α) (a : Bs) : List α := L.takeWhile fun x => decide (nm x < a)
def high (L : List α) (a : Bs) : List α := L.dropWhile fun x => decide (nm x < a)
def pt (L : List α) (x : α) : List α := low nm (wo nm L (nm x)) (nm x) ++ x :: high nm (wo nm L (nm x)) (nm x)
def lk (L : List α) (a : Bs) : Option α := L.find? fun x => nm x == a

variable {nm}
theorem low_high (L : List α) (a : Bs) : low nm L a ++ high nm L a = L := List.takeWhile_append_dropWhile
theorem pt_perm (L : List α) (x : α) : (pt nm L x).Perm (x :: wo nm L (nm x)) := by
  have := low_high (nm := nm) (wo nm L (nm x)) (nm x)
  unfold pt
  refine List.perm_middle.trans ?_
  rw [this]
theorem mem_wo {L : List α} {a : Bs} {x : α} : x ∈ wo nm L a ↔ x ∈ L ∧ nm x ≠ a := by simp [wo]
theorem mem_pt {L : List α} {x y : α} : y ∈ pt nm L x ↔ y = x ∨ (y ∈ L ∧ nm y ≠ nm x) := by
  rw [(pt_perm L x).mem_iff, List.mem_cons, mem_wo]
theorem Rise.wo {L : List α} (h : Rise nm L) (a : Bs) : Rise nm (wo nm L a) := List.Pairwise.filter _ h
theorem low_lt {L : List α} {a : Bs} {x : α} (h : x ∈ low nm L a) : nm x < a := by
  have := List.all_takeWhile (l := L) (p := fun x => decide (nm x < a))
  rw [List.all_eq_true] at this
  simpa using this x h
theorem high_ge {L : List α} (hr : Rise nm L) {a : Bs} {x : α} (h : x ∈ high nm L a) : ¬ nm x < a := by
  induction L with
  | nil => simp [high] at h
  | cons y r ih =>
    obtain ⟨h1, h2⟩ := List.pairwise_cons.1 hr
    by_cases hy : nm y < a
    · rw [high, List.dropWhile_cons_of_pos (by simpa using hy)] at h
      exact ih h2 h
    · rw [high, List.dropWhile_cons_of_neg (by simpa using hy)] at h
      rcases List.mem_cons.1 h with rfl | hm
      · exact hy
      · exact fun hx => hy (List.lt_trans (h1 x hm) hx)
theorem Rise.pt {L : List α} (h : Rise nm L) (x : α) : Rise nm (pt nm L x) := by
  have hw := h.wo (nm x)
  have hs : Rise nm (low nm (Sto.wo nm L (nm x)) (nm x) ++ high nm (Sto.wo nm L (nm x)) (nm x)) := by rw [low_high]; exact hw
  obtain ⟨h1, h2, h3⟩ := List.pairwise_append.1 hs
  refine List.pairwise_append.2 ⟨h1, List.pairwise_cons.2 ⟨fun y hy => ?_, h2⟩, fun y hy z hz => ?_⟩
  · have hm : y ∈ Sto.wo nm L (nm x) := by rw [← low_high (nm := nm) (Sto.wo nm L (nm x)) (nm x)]; exact List.mem_append_right _ hy
    exact lt_or (high_ge hw hy) (mem_wo.1 hm).2
  · rcases List.mem_cons.1 hz with rfl | hz
    · exact low_lt hy
    · exact h3 y hy z hz
theorem Rise.one {L : List α} (h : Rise nm L) {x y : α} (hx : x ∈ L) (hy : y ∈ L) (e : nm x = nm y) : x = y := by
  induction L with
  | nil => simp at hx
  | cons z r ih =>
    obtain ⟨h1, h2⟩ := List.pairwise_cons.1 h
    rcases List.mem_cons.1 hx with ex | hx' <;> rcases List.mem_cons.1 hy with ey | hy'
    · rw [ex, ey]
    · have := h1 y hy'
      rw [← ex, e] at this
      exact absurd this (List.lt_irrefl _)
    · have := h1 x hx'
      rw [← ey, e] at this
      exact absurd this (List.lt_irrefl _)
    · exact ih h2 hx' hy'
theorem lk_some {L : List α} {a : Bs} {x : α} (h : lk nm L a = some x) : x ∈ L ∧ nm x = a :=
  ⟨List.mem_of_find?_eq_some h, by have := List.find?_some h; simpa using this⟩
theorem lk_none {L : List α} {a : Bs} : lk nm L a = none ↔ ∀ x ∈ L, nm x ≠ a := by simp [lk]
theorem Rise.lk {L : List α} (h : Rise nm L) {a : Bs} {x : α} : lk nm L a = some x ↔ x ∈ L ∧ nm x = a := by
  refine ⟨lk_some, fun ⟨hx, he⟩ => ?_⟩
  cases hl : Sto.lk nm L a with
  | none => exact absurd he (lk_none.1 hl x hx)
  | some y => rw [h.one (lk_some hl).1 hx ((lk_some hl).2.trans he.symm)]
theorem Rise.lk_cong {L M : List α} (h : Rise nm L) (k : Rise nm M) {a c : Bs} (he : ∀ x, (x ∈ L ∧ nm x = a) ↔ (x ∈ M ∧ nm x = c)) : Sto.lk nm L a = Sto.lk nm M c := by
  ext x
  exact h.lk.trans ((he x).trans k.lk.symm)
theorem Rise.lk_wo {L : List α} (h : Rise nm L) (a c : Bs) : Sto.lk nm (Sto.wo nm L a) c = if c = a then none else Sto.lk nm L c := by
  split
  · rename_i e; subst e
    exact lk_none.2 fun x hx => (mem_wo.1 hx).2
  · rename_i e
    refine (h.wo a).lk_cong h fun x => ?_
    rw [mem_wo]
    exact ⟨fun ⟨⟨h1, _⟩, h2⟩ => ⟨h1, h2⟩, fun ⟨h1, h2⟩ => ⟨⟨h1, by rw [h2]; exact e⟩, h2⟩⟩
theorem Rise.lk_pt {L : List α} (h : Rise nm L) (x : α) (c : Bs) : Sto.lk nm (Sto.pt nm L x) c = if c = nm x then some x else Sto.lk nm L c := by
  split
  · rename_i e; subst e
    exact (h.pt x).lk.2 ⟨mem_pt.2 (.inl rfl), rfl⟩
  · rename_i e
    refine (h.pt x).lk_cong h fun y => ?_
    rw [mem_pt]
    constructor
    · rintro ⟨rfl | ⟨h1, _⟩, h2⟩
      · exact absurd h2.symm e
      · exact ⟨h1, h2⟩
    · rintro ⟨h1, h2⟩
      exact ⟨.inr ⟨h1, by rw [h2]; exact e⟩, h2⟩
theorem wo_none {L : List α} {a : Bs} (h : lk nm L a = none) : wo nm L a = L := by
  unfold wo
  rw [List.filter_eq_self]
  intro x hx
  simpa using lk_none.1 h x hx
theorem Rise.wo_perm {L : List α} (h : Rise nm L) {a : Bs} {x : α} (hl : Sto.lk nm L a = some x) : L.Perm (x :: Sto.wo nm L a) := by
  induction L with
  | nil => simp [Sto.lk] at hl
  | cons y r ih =>
    obtain ⟨h1, h2⟩ := List.pairwise_cons.1 h
    by_cases hy : nm y = a
    · have hxy : y = x := h.one (List.mem_cons_self ..) (lk_some hl).1 (hy.trans (lk_some hl).2.symm)
      have hr : Sto.wo nm r a = r := wo_none (lk_none.2 fun z hz e => by
        have := h1 z hz
        rw [hy, e] at this
        exact List.lt_irrefl _ this)
      have : Sto.wo nm (y :: r) a = r := by rw [← hr]; simp [Sto.wo, hy]
      rw [this, hxy]
    · have e1 : Sto.wo nm (y :: r) a = y :: Sto.wo nm r a := by simp [Sto.wo, hy]
      have e2 : Sto.lk nm r a = some x := by
        have : Sto.lk nm (y :: r) a = Sto.lk nm r a := by simp [Sto.lk, hy]
        rw [← this]; exact hl
      rw [e1]
      exact ((ih h2 e2).cons y).trans (List.Perm.swap ..)
theorem Rise.len_wo {L : List α} (h : Rise nm L) (a : Bs) : (Sto.wo nm L a).length = if (Sto.lk nm L a).isSome then L.length - 1 else L.length := by
  cases hl : Sto.lk nm L a with
  | none => simp [wo_none hl]
  | some x => have := (h.wo_perm hl).length_eq; simp at this ⊢; omega
theorem Rise.len_pt {L : List α} (h : Rise nm L) (x : α) : (Sto.pt nm L x).length = if (Sto.lk nm L (nm x)).isSome then L.length else L.length + 1 := by
  have e := (pt_perm (nm := nm) L x).length_eq
  rw [List.length_cons] at e
  cases hl : Sto.lk nm L (nm x) with
  | none => rw [e, wo_none hl]; simp
  | some y => have := (h.wo_perm hl).length_eq; simp at this ⊢; omega
theorem wo_len (L : List α) (a : Bs) : (wo nm L a).length ≤ L.length := List.length_filter_le _ _
theorem pt_len (L : List α) (x : α) : (pt nm L x).length ≤ L.length + 1 := by
  rw [(pt_perm L x).length_eq]; have := wo_len (nm := nm) L (nm x); simp; omega

section
variable {β : Type} {nb : β → Bs} (g : α → β) (hg : ∀ x, nb (g x) = nm x)
include hg
theorem wo_map (L : List α) (a : Bs) : (wo nm L a).map g = wo nb (L.map g) a := by
  unfold wo
  rw [List.filter_map]
  congr 1
  apply List.filter_congr
  intro x _
  simp [hg]
theorem low_map (L : List α) (a : Bs) : (low nm L a).map g = low nb (L.map g) a := by
  unfold low
  rw [List.takeWhile_map]
  congr 2
  funext x
  simp [hg]
theorem high_map (L : List α) (a : Bs) : (high nm L a).map g = high nb (L.map g) a := by
  unfold high
  rw [List.dropWhile_map]
  congr 2
  funext x
  simp [hg]
theorem pt_map (L : List α) (x : α) : (pt nm L x).map g = pt nb (L.map g) (g x) := by
  unfold pt
  rw [List.map_append, List.map_cons, low_map g hg, high_map g hg, wo_map g hg, hg]
theorem lk_map (L : List α) (a : Bs) : (lk nm L a).map g = lk nb (L.map g) a := by
  unfold lk
  rw [List.find?_map]
  congr 2
  funext x
  simp [hg]
theorem rise_map {L : List α} : Rise nm L ↔ Rise nb (L.map g) := by
  unfold Rise
  rw [List.pairwise_map]
  simp [hg]
end
end
end Go.Proofs.YtpaeemkdjgbejaaGreat.Sto
end

section
namespace Go.Proofs.YtpaeemkdjgbejaaGreat.Sto

structure Fl where
  nm : Bs
  bs : Bs
  sure : Nat
structure St where
  L : List Fl
  most : Int
  bad : Int

def nmc (c : Nat) : Bool := decide (33 ≤ c) && decide (c ≤ 126) && (c != 47)
def sized (s : Bs) : Bool := decide (1 ≤ s.length ∧ s.length ≤ 64)
def allc (s : Bs) : Bool := s.all fun c => nmc c.toNat
def isNm (s : Bs) : Bool := sized s && allc s
theorem allc_snoc (l : Bs) (c : UInt8) : allc (l ++ [c]) = (allc l && nmc c.toNat) := by simp [allc]
theorem isNm_len {s : Bs} (h : isNm s = true) : 1 ≤ s.length ∧ s.length ≤ 64 := by
  rw [isNm, Bool.and_eq_true] at h
  exact of_decide_eq_true h.1

def tot (L : List Fl) : Nat := (L.map fun x => x.bs.length).sum
theorem tot_nil : tot [] = 0 := rfl
theorem tot_cons (x : Fl) (L : List Fl) : tot (x :: L) = x.bs.length + tot L := by simp [tot]
theorem tot_app (L M : List Fl) : tot (L ++ M) = tot L + tot M := by simp [tot]
theorem tot_perm {L M : List Fl} (h : L.Perm M) : tot L = tot M := (h.map _).sum_nat
theorem len_tot {L : List Fl} {x : Fl} (h : x ∈ L) : x.bs.length ≤ tot L := by
  induction L with
  | nil => simp at h
  | cons y r ih =>
    rw [tot_cons]
    rcases List.mem_cons.1 h with rfl | h
    · omega
    · have := ih h; omega

abbrev fwo (L : List Fl) (a : Bs) : List Fl := wo Fl.nm L a
abbrev fpt (L : List Fl) (x : Fl) : List Fl := pt Fl.nm L x
abbrev flk (L : List Fl) (a : Bs) : Option Fl := lk Fl.nm L a
def got (L : List Fl) (a : Bs) : Fl := (flk L a).getD ⟨a, [], 0⟩
theorem got_some {L : List Fl} {a : Bs} {x : Fl} (h : flk L a = some x) : got L a = x := by rw [got, h]; rfl
theorem got_none {L : List Fl} {a : Bs} (h : flk L a = none) : got L a = ⟨a, [], 0⟩ := by rw [got, h]; rfl
theorem got_nm (L : List Fl) (a : Bs) : (got L a).nm = a := by
  cases h : flk L a with
  | none => rw [got_none h]
  | some x => rw [got_some h]; exact (lk_some h).2
theorem tot_wo {L : List Fl} (h : Rise Fl.nm L) (a : Bs) : tot (fwo L a) + (got L a).bs.length = tot L := by
  cases hl : flk L a with
  | none => rw [fwo, wo_none hl, got_none hl]; rfl
  | some x => rw [tot_perm (h.wo_perm hl), tot_cons, got_some hl, Nat.add_comm]
theorem tot_pt {L : List Fl} (h : Rise Fl.nm L) (x : Fl) : tot (fpt L x) + (got L x.nm).bs.length = tot L + x.bs.length := by
  have e1 : tot (fpt L x) = x.bs.length + tot (fwo L x.nm) := by rw [tot_perm (pt_perm L x), tot_cons]
  have := tot_wo h x.nm
  omega

structure Ok (t : St) : Prop where
  rise : Rise Fl.nm t.L
  names : ∀ x ∈ t.L, isNm x.nm = true
  sures : ∀ x ∈ t.L, x.sure ≤ x.bs.length
  room : (tot t.L : Int) ≤ t.most
  most1 : 1 ≤ t.most
  most2 : t.most ≤ 16777216
  bad : -9223372036854775808 ≤ t.bad ∧ t.bad ≤ 9223372036854775807
theorem Ok.got {t : St} (h : Ok t) (a : Bs) : (got t.L a).sure ≤ (Sto.got t.L a).bs.length ∧ (Sto.got t.L a).bs.length ≤ tot t.L := by
  cases hl : flk t.L a with
  | none => rw [got_none hl]; simp
  | some x => rw [got_some hl]; exact ⟨h.sures x (lk_some hl).1, len_tot (lk_some hl).1⟩
theorem Ok.wo {t : St} (h : Ok t) (a : Bs) : Ok ⟨fwo t.L a, t.most, t.bad⟩ := by
  have e := tot_wo h.rise a
  have := h.room
  exact ⟨h.rise.wo a, fun x hx => h.names x (mem_wo.1 hx).1, fun x hx => h.sures x (mem_wo.1 hx).1, by show (tot (fwo t.L a) : Int) ≤ t.most; omega, h.most1, h.most2, h.bad⟩
theorem Ok.pt {t : St} (h : Ok t) (x : Fl) (hn : isNm x.nm = true) (hs : x.sure ≤ x.bs.length) (hr : (tot t.L : Int) + x.bs.length ≤ t.most + (Sto.got t.L x.nm).bs.length) : Ok ⟨fpt t.L x, t.most, t.bad⟩ := by
  have e := tot_pt h.rise x
  refine ⟨h.rise.pt x, fun y hy => ?_, fun y hy => ?_, by show (tot (fpt t.L x) : Int) ≤ t.most; omega, h.most1, h.most2, h.bad⟩
  · rcases mem_pt.1 hy with rfl | hy
    · exact hn
    · exact h.names y hy.1
  · rcases mem_pt.1 hy with rfl | hy
    · exact hs
    · exact h.sures y hy.1
theorem Ok.badly {t : St} (h : Ok t) (b : Int) (hb : -9223372036854775808 ≤ b ∧ b ≤ 9223372036854775807) : Ok ⟨t.L, t.most, b⟩ := ⟨h.rise, h.names, h.sures, h.room, h.most1, h.most2, hb⟩

/-! ### the calls -/
def begC (t : St) (a : Bs) : Int := if isNm a = true then (if 0 < t.bad then 12 else 0) else 1
def begT (t : St) (a : Bs) : St := if isNm a = true ∧ 0 < t.bad then ⟨t.L, t.most, t.bad - 1⟩ else t
def appC (t : St) (a s : Bs) : Int := if begC t a = 0 then (if (tot t.L : Int) + s.length > t.most then 6 else 0) else begC t a
def appT (t : St) (a s : Bs) : St := if begC t a = 0 then (if (tot t.L : Int) + s.length > t.most then t else ⟨fpt t.L ⟨a, (got t.L a).bs ++ s, (got t.L a).sure⟩, t.most, t.bad⟩) else begT t a
def synC (t : St) (a : Bs) : Int := if begC t a = 0 then (if (flk t.L a).isSome then 0 else 7) else begC t a
def synT (t : St) (a : Bs) : St := if begC t a = 0 then (if (flk t.L a).isSome then ⟨fpt t.L ⟨a, (got t.L a).bs, (got t.L a).bs.length⟩, t.most, t.bad⟩ else t) else begT t a
def renC (t : St) (a b : Bs) : Int := if begC t a = 0 then (if isNm b = true then (if (flk t.L a).isSome then 0 else 7) else 1) else begC t a
def renT (t : St) (a b : Bs) : St := if begC t a = 0 then (if isNm b = true ∧ (flk t.L a).isSome then ⟨fpt (fwo t.L a) ⟨b, (got t.L a).bs, (got t.L a).sure⟩, t.most, t.bad⟩ else t) else begT t a
def remC (t : St) (a : Bs) : Int := if begC t a = 0 then (if (flk t.L a).isSome then 0 else 7) else begC t a
def remT (t : St) (a : Bs) : St := if begC t a = 0 then (if (flk t.L a).isSome then ⟨fwo t.L a, t.most, t.bad⟩ else t) else begT t a
def cutN (x : Fl) (k : Int) : Nat := x.sure + (min (max k 0) ((x.bs.length : Int) - x.sure)).toNat
def cutF (x : Fl) (k : Int) : Fl := ⟨x.nm, x.bs.take (cutN x k), cutN x k⟩
theorem cutN_le {x : Fl} (h : x.sure ≤ x.bs.length) (k : Int) : x.sure ≤ cutN x k ∧ cutN x k ≤ x.bs.length := by unfold cutN; omega
def crsL (L : List Fl) (ks : List Int) : List Fl := L.mapIdx fun i x => cutF x (ks.getD i 0)
def crs (t : St) (ks : List Int) : St := ⟨crsL t.L ks, t.most, 0⟩

theorem begC_arg {t : St} {a : Bs} (h : isNm a = false) : begC t a = 1 ∧ begT t a = t := by simp [begC, begT, h]
theorem begC_io {t : St} {a : Bs} (h : isNm a = true) (k : 0 < t.bad) : begC t a = 12 ∧ begT t a = ⟨t.L, t.most, t.bad - 1⟩ := by simp [begC, begT, h, k]
theorem begC_ok {t : St} {a : Bs} (h : isNm a = true) (k : ¬ 0 < t.bad) : begC t a = 0 ∧ begT t a = t := by simp [begC, begT, h, k]
theorem Ok.beg {t : St} (h : Ok t) (a : Bs) : Ok (begT t a) := by
  have := h.bad
  unfold begT
  split
  · exact h.badly _ (by omega)
  · exact h
theorem Ok.app {t : St} (h : Ok t) (a s : Bs) : Ok (appT t a s) := by
  unfold appT
  split
  · rename_i h0
    have hn : isNm a = true := by
      cases hc : isNm a with
      | true => rfl
      | false => rw [(begC_arg hc).1] at h0; cases h0
    split
    · exact h
    · refine h.pt _ hn ?_ ?_
      · have := (h.got a).1; simp only [List.length_append]; omega
      · simp only [List.length_append]; omega
  · exact h.beg a
theorem beg_nm {t : St} {a : Bs} (h0 : begC t a = 0) : isNm a = true := by
  cases hc : isNm a with
  | true => rfl
  | false => rw [(begC_arg hc).1] at h0; cases h0
theorem Ok.syn {t : St} (h : Ok t) (a : Bs) : Ok (synT t a) := by
  unfold synT
  split
  · rename_i h0
    split
    · refine h.pt _ (beg_nm h0) (Nat.le_refl _) ?_
      have := h.room; simp only; omega
    · exact h
  · exact h.beg a
theorem Ok.ren {t : St} (h : Ok t) (a b : Bs) : Ok (renT t a b) := by
  unfold renT
  split
  · rename_i h0
    split
    · rename_i h1
      have h2 := h.wo a
      refine h2.pt _ h1.1 (h.got a).1 ?_
      have e := tot_wo h.rise a
      have := h.room; simp only; omega
    · exact h
  · exact h.beg a
theorem Ok.rem {t : St} (h : Ok t) (a : Bs) : Ok (remT t a) := by
  unfold remT
  split
  · split
    · exact h.wo a
    · exact h
  · exact h.beg a
theorem crs_len (L : List Fl) (ks : List Int) : (crsL L ks).length = L.length := by simp [crsL]
theorem crs_at (L : List Fl) (ks : List Int) (i : Nat) (h : i < L.length) : (crsL L ks)[i]'(by rw [crs_len]; exact h) = cutF L[i] (ks.getD i 0) := by simp [crsL]
theorem crs_mem {L : List Fl} {ks : List Int} {y : Fl} (h : y ∈ crsL L ks) : ∃ x ∈ L, ∃ k, y = cutF x k := by
  obtain ⟨i, hi, rfl⟩ := List.getElem_of_mem h
  have hi' : i < L.length := by rwa [crs_len] at hi
  exact ⟨L[i], List.getElem_mem hi', _, crs_at L ks i hi'⟩
theorem crs_names (L : List Fl) (ks : List Int) : (crsL L ks).map Fl.nm = L.map Fl.nm := by
  apply List.ext_getElem
  · simp [crsL]
  · intro i h1 h2; simp [crsL, cutF]
theorem crs_rise {L : List Fl} (h : Rise Fl.nm L) (ks : List Int) : Rise Fl.nm (crsL L ks) := by
  have e := (rise_map (nm := Fl.nm) (nb := id) Fl.nm (fun _ => rfl) (L := L)).1 h
  rw [← crs_names L ks] at e
  exact (rise_map (nm := Fl.nm) (nb := id) Fl.nm (fun _ => rfl)).2 e
theorem tot_cut {L : List Fl} (h : ∀ x ∈ L, x.sure ≤ x.bs.length) (ks : List Int) : tot (crsL L ks) ≤ tot L := by
  induction L generalizing ks with
  | nil => simp [crsL, tot]
  | cons x r ih =>
    have e : crsL (x :: r) ks = cutF x (ks.getD 0 0) :: crsL r ks.tail := by
      unfold crsL
      rw [List.mapIdx_cons]
      congr 1
      apply List.ext_getElem
      · simp
      · intro i h1 h2
        simp only [List.getElem_mapIdx]
        congr 1
        cases ks <;> simp
    rw [e, tot_cons, tot_cons]
    have h1 := ih (fun y hy => h y (List.mem_cons_of_mem _ hy)) ks.tail
    have h2 := (cutN_le (h x (List.mem_cons_self ..)) (ks.getD 0 0)).2
    have h3 : (cutF x (ks.getD 0 0)).bs.length ≤ x.bs.length := by simp only [cutF, List.length_take]; omega
    omega
theorem Ok.crs {t : St} (h : Ok t) (ks : List Int) : Ok (crs t ks) := by
  refine ⟨crs_rise h.rise ks, fun y hy => ?_, fun y hy => ?_, ?_, h.most1, h.most2, by show -9223372036854775808 ≤ (0 : Int) ∧ (0 : Int) ≤ _; omega⟩
  · obtain ⟨x, hx, k, rfl⟩ := crs_mem hy; exact h.names x hx
  · obtain ⟨x, hx, k, rfl⟩ := crs_mem hy
    have := (cutN_le (h.sures x hx) k).2
    simp only [cutF, List.length_take]; omega
  · have := tot_cut h.sures ks
    have := h.room
    show ((tot (crsL t.L ks) : Nat) : Int) ≤ t.most
    omega
end Go.Proofs.YtpaeemkdjgbejaaGreat.Sto
end

section
namespace Go.Proofs.YtpaeemkdjgbejaaGreat.Digit

def hexd (n : Nat) : UInt8 := if n < 10 then (48 + n).toUInt8 else (87 + n).toUInt8
def decN (n : Nat) : List UInt8 := if _h : n < 10 then [hexd n] else decN (n / 10) ++ [hexd (n % 10)]
termination_by n
decreasing_by omega
def dec (n : Int) : List UInt8 := if n < 0 then 45 :: decN n.natAbs else decN n.toNat
def hexS (c : Nat) : List UInt8 := [hexd (c / 16), hexd (c % 16)]

theorem decN_lt {n : Nat} (h : n < 10) : decN n = [hexd n] := by rw [decN, dif_pos h]
theorem decN_ge {n : Nat} (h : ¬ n < 10) : decN n = decN (n / 10) ++ [hexd (n % 10)] := by rw [decN, dif_neg h]

theorem hexd_toNat {n : Nat} (h : n < 10) : (hexd n).toNat = 48 + n := by
  unfold hexd; rw [if_pos h]; simp; omega

theorem decN_ne (n : Nat) : decN n ≠ [] := by
  by_cases h : n < 10
  · rw [decN_lt h]; simp
  · rw [decN_ge h]; simp

theorem decN_len (k n : Nat) (h : n < 10 ^ (k + 1)) : (decN n).length ≤ k + 1 := by
  induction k generalizing n with
  | zero => rw [decN_lt (by simpa using h)]; simp
  | succ k ih =>
    by_cases h1 : n < 10
    · rw [decN_lt h1]; simp
    · rw [decN_ge h1]
      have := ih (n / 10) (by rw [Nat.pow_succ] at h; omega)
      simp; omega

theorem decN_pos (n : Nat) : 0 < (decN n).length := List.length_pos_iff.2 (decN_ne n)

theorem dec_len {n : Int} (h1 : -9223372036854775808 ≤ n) (h2 : n ≤ 9223372036854775807) : (dec n).length ≤ 20 := by
  unfold dec
  split
  · have := decN_len 18 n.natAbs (by omega); simp; omega
  · have := decN_len 18 n.toNat (by omega); omega

/-- the number that digits tell, whatever they are -/
def scan (a : Int) : List UInt8 → Int
  | [] => a
  | c :: l => scan (10 * a + (c.toNat : Int) - 48) l

theorem scan_append (a : Int) (l m : List UInt8) : scan a (l ++ m) = scan (scan a l) m := by
  induction l generalizing a with
  | nil => rfl
  | cons c l ih => exact ih _

theorem scan_decN (n : Nat) : scan 0 (decN n) = n := by
  induction n using Nat.strongRecOn with
  | ind n ih =>
    by_cases h : n < 10
    · rw [decN_lt h]; simp only [scan]; have := hexd_toNat h; omega
    · rw [decN_ge h, scan_append, ih (n / 10) (by omega)]
      simp only [scan]; have := hexd_toNat (n := n % 10) (by omega); omega

theorem decN_digit (n : Nat) : ∀ c ∈ decN n, 48 ≤ c.toNat ∧ c.toNat ≤ 57 := by
  induction n using Nat.strongRecOn with
  | ind n ih =>
    by_cases h : n < 10
    · rw [decN_lt h]; intro c hc; simp at hc; subst hc; have := hexd_toNat h; omega
    · rw [decN_ge h]
      intro c hc
      rcases List.mem_append.1 hc with hc | hc
      · exact ih (n / 10) (by omega) c hc
      · simp at hc; subst hc; have := hexd_toNat (n := n % 10) (by omega); omega

theorem decN_inj {m n : Nat} (h : decN m = decN n) : m = n := by
  have := congrArg (scan 0) h; rw [scan_decN, scan_decN] at this; omega

theorem dec_inj {m n : Int} (h : dec m = dec n) : m = n := by
  unfold dec at h
  split at h <;> split at h
  · have := decN_inj (List.cons.inj h).2; omega
  · have := decN_digit n.toNat 45 (h ▸ List.mem_cons_self); simp at this
  · have := decN_digit m.toNat 45 (h ▸ List.mem_cons_self); simp at this
  · have := decN_inj h; omega

theorem dec_lt {n : Int} (h0 : 0 ≤ n) (h : n < 10) : dec n = [hexd n.toNat] := by
  unfold dec; rw [if_neg (by omega), decN_lt (by omega)]
theorem dec_neg_lt {n : Int} (h0 : n < 0) (h : -10 < n) : dec n = [45, hexd (-n).toNat] := by
  unfold dec; rw [if_pos h0, decN_lt (by omega), show n.natAbs = (-n).toNat by omega]
theorem dec_ge {n : Int} (h : 10 ≤ n) : dec n = dec (n / 10) ++ [hexd (n % 10).toNat] := by
  unfold dec; rw [if_neg (by omega), if_neg (by omega), decN_ge (by omega), show (n / 10).toNat = n.toNat / 10 by omega, show (n % 10).toNat = n.toNat % 10 by omega]
theorem dec_le {n : Int} (h : n ≤ -10) : dec n = dec (n.tdiv 10) ++ [hexd (-(n.tmod 10)).toNat] := by
  have e1 : n.tdiv 10 = -(((n.natAbs / 10 : Nat)) : Int) := by
    obtain ⟨m, rfl⟩ : ∃ m : Nat, n = -(m : Int) := ⟨n.natAbs, by omega⟩
    rw [Int.neg_tdiv, Int.natAbs_neg, Int.natAbs_natCast, Int.tdiv_eq_ediv_of_nonneg (by omega)]; rfl
  have e2 : -(n.tmod 10) = ((n.natAbs % 10 : Nat) : Int) := by
    obtain ⟨m, rfl⟩ : ∃ m : Nat, n = -(m : Int) := ⟨n.natAbs, by omega⟩
    rw [Int.neg_tmod, Int.natAbs_neg, Int.natAbs_natCast, Int.neg_neg, Int.tmod_eq_emod_of_nonneg (by omega)]; rfl
  rw [e1, e2]
  have h10 : ¬ n.natAbs < 10 := by omega
  unfold dec
  rw [if_pos (by omega), if_pos (by omega), decN_ge h10, Int.natAbs_neg, Int.natAbs_natCast, Int.toNat_natCast]
  rfl

theorem tdiv_facts {n : Int} (h : n < 0) : n < n.tdiv 10 ∧ n.tdiv 10 ≤ 0 ∧ n.tmod 10 ≤ 0 ∧ -10 < n.tmod 10 := by
  obtain ⟨m, rfl⟩ : ∃ m : Nat, n = -(m : Int) := ⟨n.natAbs, by omega⟩
  rw [Int.neg_tdiv, Int.neg_tmod, Int.tdiv_eq_ediv_of_nonneg (by omega), Int.tmod_eq_emod_of_nonneg (by omega)]
  omega

def padL (d : List UInt8) (width : Nat) : List UInt8 := List.replicate (width - d.length) 48 ++ d
def padI (n width : Int) : List UInt8 := if n < 0 ∨ width < 0 ∨ 20 < width then [] else padL (dec n) width.toNat
def PadAt (d l : List UInt8) (width : Nat) : Prop := ∃ k, l = List.replicate k 48 ++ d ∧ k ≤ width - d.length
theorem pad_start (d : List UInt8) (width : Nat) : PadAt d d width := ⟨0, by simp, by omega⟩
theorem pad_next {d l : List UInt8} {width : Nat} (h : PadAt d l width) (hl : l.length < width) : PadAt d (48 :: l) width := by
  obtain ⟨k, rfl, hk⟩ := h
  exact ⟨k + 1, by simp [List.replicate_succ], by simp at hl; omega⟩
theorem pad_done {d l : List UInt8} {width : Nat} (h : PadAt d l width) (hl : ¬ l.length < width) : l = padL d width := by
  obtain ⟨k, rfl, hk⟩ := h
  simp at hl
  rw [padL, show k = width - d.length by omega]
theorem padI_none {n width : Int} (h : n < 0 ∨ width < 0 ∨ 20 < width) : padI n width = [] := by rw [padI, if_pos h]
theorem padI_some {n width : Int} (h : ¬ (n < 0 ∨ width < 0 ∨ 20 < width)) : padI n width = padL (dec n) width.toNat := by rw [padI, if_neg h]

theorem hexd_inj {m n : Nat} (hm : m < 16) (hn : n < 16) (h : hexd m = hexd n) : m = n := by
  have key : ∀ a : Fin 16, ∀ b : Fin 16, hexd a.val = hexd b.val → a = b := by decide
  exact congrArg Fin.val (key ⟨m, hm⟩ ⟨n, hn⟩ h)
theorem hexS_inj {m n : Nat} (hm : m < 256) (hn : n < 256) (h : hexS m = hexS n) : m = n := by
  unfold hexS at h
  have h1 := hexd_inj (by omega) (by omega) (List.cons.inj h).1
  have h2 := hexd_inj (by omega) (by omega) (List.cons.inj (List.cons.inj h).2).1
  omega
open Classical in
/-- the byte of two digits, and why there is none -/
noncomputable def rhV (s : List UInt8) : Int := if h : ∃ c : Nat, c < 256 ∧ hexS c = s then (h.choose : Int) else 0
open Classical in
noncomputable def rhC (s : List UInt8) : Int := if ∃ c : Nat, c < 256 ∧ hexS c = s then 0 else 3
theorem rh_some {c : Nat} (hc : c < 256) : rhV (hexS c) = c ∧ rhC (hexS c) = 0 := by
  have h : ∃ d : Nat, d < 256 ∧ hexS d = hexS c := ⟨c, hc, rfl⟩
  constructor
  · rw [rhV, dif_pos h]; exact congrArg Int.ofNat (hexS_inj h.choose_spec.1 hc h.choose_spec.2)
  · rw [rhC, if_pos h]
theorem rh_none {s : List UInt8} (h : ¬ ∃ c : Nat, c < 256 ∧ hexS c = s) : rhV s = 0 ∧ rhC s = 3 := by
  constructor
  · rw [rhV, dif_neg h]
  · rw [rhC, if_neg h]

def IsTick (s : List UInt8) (n : Int) : Prop := 0 ≤ n ∧ n ≤ 1099511627776 ∧ dec n = s
open Classical in
/-- the tick of a text, and why there is none -/
noncomputable def rdV (s : List UInt8) : Int := if h : ∃ n, IsTick s n then h.choose else 0
open Classical in
noncomputable def rdC (s : List UInt8) : Int := if ∃ n, IsTick s n then 0 else 3
theorem rd_some {s : List UInt8} {n : Int} (h : IsTick s n) : rdV s = n ∧ rdC s = 0 := by
  have g : ∃ n, IsTick s n := ⟨n, h⟩
  constructor
  · rw [rdV, dif_pos g]; exact dec_inj (g.choose_spec.2.2.trans h.2.2.symm)
  · rw [rdC, if_pos g]
theorem rd_none {s : List UInt8} (h : ¬ ∃ n, IsTick s n) : rdV s = 0 ∧ rdC s = 3 := by
  constructor
  · rw [rdV, dif_neg h]
  · rw [rdC, if_neg h]

theorem scan_bd (l : List UInt8) (a : Int) (M : Nat) (h1 : -M ≤ a) (h2 : a ≤ M) : -((M + 30 : Nat) * 10 ^ l.length : Nat) ≤ scan a l ∧ scan a l ≤ ((M + 30 : Nat) * 10 ^ l.length : Nat) := by
  induction l generalizing a M with
  | nil => simp [scan]; omega
  | cons c l ih =>
    have hc := c.toNat_lt
    have := ih (10 * a + (c.toNat : Int) - 48) (10 * M + 256) (by omega) (by omega)
    have e : (10 * M + 256 + 30) * 10 ^ l.length ≤ (M + 30) * 10 ^ (l.length + 1) := by
      rw [Nat.pow_succ, ← Nat.mul_assoc, Nat.mul_right_comm]; exact Nat.mul_le_mul_right _ (by omega)
    simp only [scan, List.length_cons]
    omega
theorem scan_14 (l : List UInt8) (h : l.length ≤ 14) : -3000000000000000 ≤ scan 0 l ∧ scan 0 l ≤ 3000000000000000 := by
  have := scan_bd l 0 0 (by omega) (by omega)
  have e : 10 ^ l.length ≤ 10 ^ 14 := Nat.pow_le_pow_right (by omega) h
  omega
theorem tick_scan {s : List UInt8} {n : Int} (h : IsTick s n) : scan 0 s = n ∧ s.length ≤ 13 := by
  obtain ⟨h0, h1, rfl⟩ := h
  unfold dec
  rw [if_neg (by omega)]
  exact ⟨by rw [scan_decN]; omega, decN_len 12 _ (by omega)⟩
theorem take_snoc (s : ByteArray) (k : Nat) (h : k < s.size) : s.data.toList.take (k + 1) = s.data.toList.take k ++ [s[k]] := by
  rw [List.take_succ_eq_append_getElem (by simpa using h)]; rfl
theorem scan_snoc (s : ByteArray) (k : Nat) (h : k < s.size) : scan 0 (s.data.toList.take (k + 1)) = 10 * scan 0 (s.data.toList.take k) + (s[k].toNat : Int) - 48 := by
  rw [take_snoc s k h, scan_append]; rfl

/-- what stands for a byte -/
def sgn (n : Nat) : List UInt8 :=
  if n = 92 then [92, 92] else if n = 10 then [92, 110] else if n = 13 then [92, 114] else if n = 9 then [92, 116]
  else if n < 32 ∨ 126 < n then 92 :: 120 :: hexS n else [n.toUInt8]
def shw (l : List UInt8) : List UInt8 := l.flatMap fun c => sgn c.toNat

theorem sgn_other {n : Nat} (h1 : n ≠ 92) (h2 : n ≠ 10) (h3 : n ≠ 13) (h4 : n ≠ 9) : sgn n = if n < 32 ∨ 126 < n then 92 :: 120 :: hexS n else [n.toUInt8] := by
  unfold sgn; rw [if_neg h1, if_neg h2, if_neg h3, if_neg h4]
theorem sgn_len (n : Nat) : 1 ≤ (sgn n).length ∧ (sgn n).length ≤ 4 := by
  unfold sgn; repeat' split
  all_goals simp [hexS]

theorem shw_append (l m : List UInt8) : shw (l ++ m) = shw l ++ shw m := by simp [shw]
theorem shw_cons (c : UInt8) (l : List UInt8) : shw (c :: l) = sgn c.toNat ++ shw l := by simp [shw]
theorem shw_len (l : List UInt8) : (shw l).length ≤ 4 * l.length := by
  induction l with
  | nil => simp [shw]
  | cons c l ih => rw [shw_cons, List.length_append, List.length_cons]; have := sgn_len c.toNat; omega
theorem shw_snoc (s : ByteArray) (k : Nat) (h : k < s.size) : shw (s.data.toList.take (k + 1)) = shw (s.data.toList.take k) ++ sgn s[k].toNat := by
  rw [take_snoc s k h, shw_append]; simp [shw]

/-- with which byte's sign a text begins, if with any -/
noncomputable def mean : List UInt8 → Nat
  | [] => 0
  | a :: t => if a ≠ 92 then a.toNat else match t with
    | [] => 92
    | b :: u => if b = 110 then 10 else if b = 114 then 13 else if b = 116 then 9 else if b = 120 then (rhV (u.take 2)).toNat else 92

theorem rhV_bd (s : List UInt8) : 0 ≤ rhV s ∧ rhV s < 256 := by
  by_cases h : ∃ c : Nat, c < 256 ∧ hexS c = s
  · obtain ⟨c, hc, rfl⟩ := h; rw [(rh_some hc).1]; omega
  · rw [(rh_none h).1]; omega
theorem mean_bd (l : List UInt8) : mean l < 256 := by
  match l with
  | [] => simp [mean]
  | a :: t =>
    simp only [mean]
    split
    · exact a.toNat_lt
    · match t with
      | [] => simp
      | b :: u =>
        have := rhV_bd (u.take 2)
        simp only
        repeat' split
        all_goals omega
theorem mean_sgn (c : Nat) (hc : c < 256) (r : List UInt8) : mean (sgn c ++ r) = c := by
  unfold sgn
  split
  · subst c; simp [mean]
  split
  · subst c; simp [mean]
  split
  · subst c; simp [mean]
  split
  · subst c; simp [mean]
  split
  · have h := (rh_some hc).1
    have e : mean (92 :: 120 :: hexS c ++ r) = (rhV ((hexS c ++ r).take 2)).toNat := by simp [mean]
    have e2 : (hexS c ++ r).take 2 = hexS c := by simp [hexS]
    rw [e, e2, h]; simp
  · have h1 : (c.toUInt8) ≠ 92 := by
      intro h
      have := congrArg UInt8.toNat h
      simp at this; omega
    simp only [List.cons_append, List.nil_append, mean, ne_eq, h1, not_false_eq_true, if_true]
    simp; omega
theorem mean_pre {l : List UInt8} {c : Nat} (hc : c < 256) (h : sgn c <+: l) : mean l = c := by
  obtain ⟨r, rfl⟩ := h; exact mean_sgn c hc r

open Classical in
/-- the bytes of signs -/
noncomputable def uns (l : List UInt8) : Option (List UInt8) :=
  if _h : l = [] then some [] else if sgn (mean l) <+: l then (uns (l.drop (sgn (mean l)).length)).map ((mean l).toUInt8 :: ·) else none
termination_by l.length
decreasing_by
  have := (sgn_len (mean l)).1
  have := List.length_pos_iff.2 _h
  simp; omega
theorem uns_nil : uns [] = some [] := by rw [uns, dif_pos rfl]
theorem uns_none {l : List UInt8} (h0 : l ≠ []) (h : ¬ sgn (mean l) <+: l) : uns l = none := by rw [uns, dif_neg h0, if_neg h]
theorem uns_some {l : List UInt8} (h0 : l ≠ []) (h : sgn (mean l) <+: l) : uns l = (uns (l.drop (sgn (mean l)).length)).map ((mean l).toUInt8 :: ·) := by rw [uns, dif_neg h0, if_pos h]
theorem uns_shw (l : List UInt8) : uns (shw l) = some l := by
  induction l with
  | nil => exact uns_nil
  | cons c l ih =>
    have hc := c.toNat_lt
    have hm := mean_sgn c.toNat hc (shw l)
    rw [← shw_cons] at hm
    rw [uns_some, hm]
    · rw [shw_cons, List.drop_left, ih]; simp
    · rw [shw_cons]; have := (sgn_len c.toNat).1; intro h; simp at h; simp [h] at this
    · rw [hm, shw_cons]; exact List.prefix_append _ _
theorem shw_uns (l : List UInt8) : ∀ r, uns l = some r → shw r = l := by
  induction h : l.length using Nat.strongRecOn generalizing l with
  | ind n ih =>
    subst h
    intro r hr
    by_cases h0 : l = []
    · subst h0; rw [uns_nil] at hr; cases hr; rfl
    · by_cases h1 : sgn (mean l) <+: l
      · rw [uns_some h0 h1] at hr
        obtain ⟨q, hq, rfl⟩ := Option.map_eq_some_iff.1 hr
        have hs := (sgn_len (mean l)).1
        have := ih _ (by have := List.length_pos_iff.2 h0; simp; omega) _ rfl q hq
        rw [shw_cons, this]
        have hb := mean_bd l
        rw [show (mean l).toUInt8.toNat = mean l by simp; omega]
        exact List.prefix_iff_eq_append.1 h1
      · rw [uns_none h0 h1] at hr; cases hr
noncomputable def unV (l : List UInt8) : List UInt8 := (uns l).getD []
noncomputable def unC (l : List UInt8) : Int := if (uns l).isSome then 0 else 3

/-- of l the bytes acc are unshown, and m is left -/
def UnAt (l acc m : List UInt8) : Prop := uns l = (uns m).map (acc ++ ·) ∧ acc.length + m.length ≤ l.length
theorem un_start (l : List UInt8) : UnAt l [] l := ⟨by simp, by simp⟩
theorem un_done {l acc : List UInt8} (h : UnAt l acc []) : unV l = acc ∧ unC l = 0 := by
  have h1 := h.1
  rw [uns_nil] at h1
  simp [unV, unC, h1]
theorem un_next {l acc m : List UInt8} (h : UnAt l acc m) (h0 : m ≠ []) (hp : sgn (mean m) <+: m) : UnAt l (acc ++ [(mean m).toUInt8]) (m.drop (sgn (mean m)).length) := by
  refine ⟨?_, ?_⟩
  · rw [h.1, uns_some h0 hp]; simp [Function.comp_def]
  · have := h.2; have := (sgn_len (mean m)).1; have := List.length_pos_iff.2 h0; simp; omega
theorem un_stop {l acc m : List UInt8} (h : UnAt l acc m) (h0 : m ≠ []) (hp : ¬ sgn (mean m) <+: m) : unV l = [] ∧ unC l = 3 := by
  have h1 := h.1
  rw [uns_none h0 hp] at h1
  simp [unV, unC, h1]

theorem scan_up (l : List UInt8) (h : ∀ c ∈ l, 48 ≤ c.toNat ∧ c.toNat ≤ 57) (a : Int) (ha : 0 ≤ a) : a ≤ scan a l := by
  induction l generalizing a with
  | nil => exact Int.le_refl _
  | cons c l ih =>
    have hc := h c List.mem_cons_self
    have := ih (fun d hd => h d (List.mem_cons_of_mem _ hd)) (10 * a + (c.toNat : Int) - 48) (by omega)
    simp only [scan]; omega
theorem tick_digit {s : List UInt8} {n : Int} (h : IsTick s n) : ∀ c ∈ s, 48 ≤ c.toNat ∧ c.toNat ≤ 57 := by
  obtain ⟨h0, h1, rfl⟩ := h
  unfold dec
  rw [if_neg (by omega)]
  exact decN_digit _
theorem tick_part {s : List UInt8} {n : Int} (h : IsTick s n) (k : Nat) : 0 ≤ scan 0 (s.take k) ∧ scan 0 (s.take k) ≤ 1099511627776 := by
  have hd := tick_digit h
  refine ⟨scan_up _ (fun c hc => hd c (List.mem_of_mem_take hc)) 0 (by omega), ?_⟩
  have h1 := scan_up (s.drop k) (fun c hc => hd c (List.mem_of_mem_drop hc)) (scan 0 (s.take k)) (scan_up _ (fun c hc => hd c (List.mem_of_mem_take hc)) 0 (by omega))
  rw [← scan_append, List.take_append_drop, (tick_scan h).1] at h1
  have := h.2.1
  omega
theorem tick_pos {s : List UInt8} {n : Int} (h : IsTick s n) : 0 < s.length := by
  obtain ⟨h0, h1, rfl⟩ := h
  unfold dec
  rw [if_neg (by omega)]
  exact decN_pos _

def hexTab : List UInt8 := [48, 49, 50, 51, 52, 53, 54, 55, 56, 57, 97, 98, 99, 100, 101, 102]
theorem idx_all : ∀ n : Fin 256, (Lib.indexByte hexTab n.val.toUInt8 = -1 ∧ ∀ d : Fin 16, hexd d.val ≠ n.val.toUInt8) ∨ (0 ≤ Lib.indexByte hexTab n.val.toUInt8 ∧ Lib.indexByte hexTab n.val.toUInt8 < 16 ∧ hexd (Lib.indexByte hexTab n.val.toUInt8).toNat = n.val.toUInt8) := by decide +kernel
theorem idx_spec (c : UInt8) : (Lib.indexByte hexTab c = -1 ∧ ∀ d, d < 16 → hexd d ≠ c) ∨ (0 ≤ Lib.indexByte hexTab c ∧ Lib.indexByte hexTab c < 16 ∧ hexd (Lib.indexByte hexTab c).toNat = c) := by
  have h := idx_all ⟨c.toNat, c.toNat_lt⟩
  have e : c.toNat.toUInt8 = c := by simp
  simp only [e] at h
  rcases h with ⟨h1, h2⟩ | h
  · exact .inl ⟨h1, fun d hd => h2 ⟨d, hd⟩⟩
  · exact .inr h

theorem list_one (s : ByteArray) (h : 0 < s.size) : ∃ t, s.data.toList = s[0] :: t := by
  have hl : 0 < s.data.toList.length := h
  match hs : s.data.toList, hl with
  | a :: t, _ =>
    have e0 : s[0] = s.data.toList[0] := rfl
    exact ⟨t, by simp [e0, hs]⟩
theorem list_two (s : ByteArray) (h : 1 < s.size) : ∃ u, s.data.toList = s[0] :: s[1] :: u := by
  have hl : 1 < s.data.toList.length := h
  match hs : s.data.toList, hl with
  | a :: b :: u, _ =>
    have e0 : s[0] = s.data.toList[0] := rfl
    have e1 : s[1] = s.data.toList[1] := rfl
    exact ⟨u, by simp [e0, e1, hs]⟩
theorem ne_byte {a : UInt8} {n : Nat} (h : ¬ (a.toNat : Int) = n) (hn : n < 256) : a ≠ n.toUInt8 := by
  intro e; subst e; apply h; simp; omega
theorem eq_byte {a : UInt8} {n : Nat} (h : (a.toNat : Int) = n) : a = n.toUInt8 := by
  have : a.toNat = n := by omega
  subst this; simp
theorem mean_plain (s : ByteArray) (h : 0 < s.size) (h0 : ¬ (s[0].toNat : Int) = 92) : mean s.data.toList = s[0].toNat := by
  obtain ⟨t, ht⟩ := list_one s h
  have : s[0] ≠ 92 := ne_byte (n := 92) h0 (by omega)
  rw [ht]; simp only [mean]; rw [if_pos this]
theorem mean_lone (s : ByteArray) (h : s.size = 1) : mean s.data.toList = s[0].toNat := by
  obtain ⟨t, ht⟩ := list_one s (by omega)
  have hl : s.data.toList.length = 1 := h
  rw [ht] at hl
  obtain rfl : t = [] := by simpa using hl
  rw [ht]; simp only [mean]
  split
  · rfl
  · rename_i h; simp at h; rw [h]; rfl
theorem mean_sign (s : ByteArray) (h : 1 < s.size) (h0 : (s[0].toNat : Int) = 92) : mean s.data.toList = if (s[1].toNat : Int) = 110 then 10 else if (s[1].toNat : Int) = 114 then 13 else if (s[1].toNat : Int) = 116 then 9 else if (s[1].toNat : Int) = 120 then (rhV ((s.data.toList.drop 2).take 2)).toNat else 92 := by
  obtain ⟨u, hu⟩ := list_two s h
  have e0 : s[0] = 92 := eq_byte (n := 92) h0
  have key : ∀ (n : Nat) (hn : n < 256), (s[1] = n.toUInt8) = ((s[1].toNat : Int) = n) := fun n hn => propext ⟨fun e => by rw [e]; simp; omega, fun e => eq_byte e⟩
  have k1 := key 110 (by omega); have k2 := key 114 (by omega); have k3 := key 116 (by omega); have k4 := key 120 (by omega)
  rw [hu, e0]
  simp only [mean, ne_eq, not_true_eq_false, if_false]
  have d : List.drop 2 ((92 : UInt8) :: s[1] :: u) = u := rfl
  rw [d]
  simp only [show (110 : UInt8) = (110 : Nat).toUInt8 from rfl, show (114 : UInt8) = (114 : Nat).toUInt8 from rfl, show (116 : UInt8) = (116 : Nat).toUInt8 from rfl, show (120 : UInt8) = (120 : Nat).toUInt8 from rfl, k1, k2, k3, k4]
  rfl
theorem size_list (s : ByteArray) : s.data.toList.length = s.size := rfl

end Go.Proofs.YtpaeemkdjgbejaaGreat.Digit
end

section
namespace Go.Proofs.YtpaeemkdjgbejaaGreat.Gen
open Go.Proofs.YtpaeemkdjgbejaaGreat.Sto Go.Proofs.YtpaeemkdjgbejaaGreat.Digit

/-- the name of a generation -/
def nm (b : Bs) (i : Int) : Bs := if i ≤ 0 then b else b ++ 46 :: dec i
theorem nm_zero (b : Bs) {i : Int} (h : i ≤ 0) : nm b i = b := if_pos h
theorem nm_more (b : Bs) {i : Int} (h : ¬ i ≤ 0) : nm b i = b ++ 46 :: dec i := if_neg h
theorem nm_more2 (b : Bs) {i : Int} (h : ¬ i ≤ 0) : nm b i = b ++ [46] ++ dec i := by rw [nm_more b h]; simp
theorem nm_len (b : Bs) {i : Int} (h1 : -9223372036854775808 ≤ i) (h2 : i ≤ 9223372036854775807) : (nm b i).length ≤ b.length + 21 := by
  unfold nm
  split
  · omega
  · have := dec_len h1 h2
    simp; omega
theorem nm_inj (b : Bs) {i k : Int} : nm b i = nm b k ↔ max 0 i = max 0 k := by
  by_cases hi : i ≤ 0 <;> by_cases hk : k ≤ 0
  · rw [nm_zero b hi, nm_zero b hk]; exact ⟨fun _ => by omega, fun _ => rfl⟩
  · rw [nm_zero b hi, nm_more b hk]
    refine ⟨fun h => ?_, fun h => by omega⟩
    have := congrArg List.length h
    simp at this
  · rw [nm_more b hi, nm_zero b hk]
    refine ⟨fun h => ?_, fun h => by omega⟩
    have := congrArg List.length h
    simp at this
  · rw [nm_more b hi, nm_more b hk]
    refine ⟨fun h => ?_, fun h => ?_⟩
    · have h2 := List.append_cancel_left h
      have := dec_inj (List.cons.inj h2).2
      omega
    · rw [show i = k by omega]

/-- how many generations there may be -/
def held (n : Int) : Nat := (min (max n 1) 16).toNat
theorem held_bd (n : Int) : 1 ≤ held n ∧ held n ≤ 16 := by unfold held; omega
/-- the names of so many generations, the oldest first -/
def ser (b : Bs) : Nat → List Bs
  | 0 => []
  | k + 1 => nm b (k : Nat) :: ser b k
theorem ser_len (b : Bs) (k : Nat) : (ser b k).length = k := by
  induction k with
  | zero => rfl
  | succ k ih => rw [ser, List.length_cons, ih]
theorem ser_mem {b a : Bs} {k : Nat} : a ∈ ser b k ↔ ∃ i, i < k ∧ a = nm b (i : Nat) := by
  induction k with
  | zero => simp [ser]
  | succ k ih =>
    rw [ser, List.mem_cons, ih]
    constructor
    · rintro (h | ⟨i, h1, h2⟩)
      · exact ⟨k, by omega, h⟩
      · exact ⟨i, by omega, h2⟩
    · rintro ⟨i, h1, h2⟩
      by_cases h : i = k
      · subst h; exact .inl h2
      · exact .inr ⟨i, by omega, h2⟩
theorem ser_nodup (b : Bs) (k : Nat) : (ser b k).Nodup := by
  induction k with
  | zero => exact List.nodup_nil
  | succ k ih =>
    rw [ser, List.nodup_cons]
    refine ⟨fun h => ?_, ih⟩
    obtain ⟨i, h1, h2⟩ := ser_mem.1 h
    have := (nm_inj b).1 h2
    omega
theorem ser_last (b : Bs) (k : Nat) (h : 1 ≤ k) : (ser b k).getLast? = some b := by
  induction k with
  | zero => omega
  | succ k ih =>
    cases k with
    | zero => rw [ser, ser, nm_zero b (show ((0 : Nat) : Int) ≤ 0 by omega)]; rfl
    | succ k =>
      rw [ser, List.getLast?_cons, ih (by omega)]; rfl
theorem ser_size {b a : Bs} {k : Nat} (hk : k ≤ 16) (h : a ∈ ser b k) : a.length ≤ b.length + 21 := by
  obtain ⟨i, h1, rfl⟩ := ser_mem.1 h
  exact nm_len b (by omega) (by omega)

/-- those of some names that are files -/
def fnd (t : St) (ns : List Bs) : List Fl := ns.filterMap fun a => flk t.L a
def has (t : St) (a : Bs) : Option Bs := (flk t.L a).map Fl.bs
theorem has_is (t : St) (a : Bs) : (has t a).isSome = (flk t.L a).isSome := by unfold has; cases flk t.L a <;> rfl
theorem fnd_bs (t : St) (ns : List Bs) : (fnd t ns).map Fl.bs = ns.filterMap (has t) := by unfold fnd has; rw [List.map_filterMap]
theorem fnd_snoc (t : St) (ns : List Bs) (a : Bs) : fnd t (ns ++ [a]) = fnd t ns ++ (match flk t.L a with | some x => [x] | none => []) := by
  unfold fnd
  rw [List.filterMap_append]
  cases h : flk t.L a <;> simp [h]
theorem fnd_len (t : St) (ns : List Bs) : (fnd t ns).length ≤ ns.length := List.length_filterMap_le _ _
theorem fnd_same {t t' : St} (h : t'.L = t.L) (ns : List Bs) : fnd t' ns = fnd t ns := by unfold fnd; rw [h]

/-! ### a turn -/
def rnT : St → Bs → List Bs → St
  | t, _, [] => t
  | t, p, a :: r => if (flk t.L a).isSome = true then (if renC t a p = 0 then rnT (renT t a p) a r else renT t a p) else rnT t a r
def rnC : St → Bs → List Bs → Int
  | _, _, [] => 0
  | t, p, a :: r => if (flk t.L a).isSome = true then (if renC t a p = 0 then rnC (renT t a p) a r else renC t a p) else rnC t a r
def trT : St → List Bs → St
  | t, [] => t
  | t, a :: r => if (flk t.L a).isSome = true then (if remC t a = 0 then rnT (remT t a) a r else remT t a) else rnT t a r
def trC : St → List Bs → Int
  | _, [] => 0
  | t, a :: r => if (flk t.L a).isSome = true then (if remC t a = 0 then rnC (remT t a) a r else remC t a) else rnC t a r
theorem rn_skip {t : St} {p a : Bs} {r : List Bs} (h : (flk t.L a).isSome = false) : rnT t p (a :: r) = rnT t a r ∧ rnC t p (a :: r) = rnC t a r := by
  constructor
  · rw [rnT, h]; rfl
  · rw [rnC, h]; rfl
theorem rn_go {t : St} {p a : Bs} {r : List Bs} (h : (flk t.L a).isSome = true) (hc : renC t a p = 0) : rnT t p (a :: r) = rnT (renT t a p) a r ∧ rnC t p (a :: r) = rnC (renT t a p) a r := by
  constructor
  · rw [rnT, if_pos h, if_pos hc]
  · rw [rnC, if_pos h, if_pos hc]
theorem rn_end {t : St} {p a : Bs} {r : List Bs} (h : (flk t.L a).isSome = true) (hc : ¬ renC t a p = 0) : rnT t p (a :: r) = renT t a p ∧ rnC t p (a :: r) = renC t a p := by
  constructor
  · rw [rnT, if_pos h, if_neg hc]
  · rw [rnC, if_pos h, if_neg hc]
theorem tr_skip {t : St} {a : Bs} {r : List Bs} (h : (flk t.L a).isSome = false) : trT t (a :: r) = rnT t a r ∧ trC t (a :: r) = rnC t a r := by
  constructor
  · rw [trT, h]; rfl
  · rw [trC, h]; rfl
theorem tr_go {t : St} {a : Bs} {r : List Bs} (h : (flk t.L a).isSome = true) (hc : remC t a = 0) : trT t (a :: r) = rnT (remT t a) a r ∧ trC t (a :: r) = rnC (remT t a) a r := by
  constructor
  · rw [trT, if_pos h, if_pos hc]
  · rw [trC, if_pos h, if_pos hc]
theorem tr_end {t : St} {a : Bs} {r : List Bs} (h : (flk t.L a).isSome = true) (hc : ¬ remC t a = 0) : trT t (a :: r) = remT t a ∧ trC t (a :: r) = remC t a := by
  constructor
  · rw [trT, if_pos h, if_neg hc]
  · rw [trC, if_pos h, if_neg hc]

/-! ### nothing fails -/
theorem fm_none {f : Bs → Option Bs} {a : Bs} {r : List Bs} (h : f a = none) : (a :: r).filterMap f = r.filterMap f := by simp [h]
theorem fm_some {f : Bs → Option Bs} {a x : Bs} {r : List Bs} (h : f a = some x) : (a :: r).filterMap f = x :: r.filterMap f := by simp [h]
theorem fm_cong {f g : Bs → Option Bs} {r : List Bs} (h : ∀ a ∈ r, f a = g a) : r.filterMap f = r.filterMap g := by
  induction r with
  | nil => rfl
  | cons a r ih =>
    have e := h a (by simp)
    have i := ih fun x hx => h x (List.mem_cons_of_mem _ hx)
    cases hg : g a with
    | none => rw [fm_none hg, fm_none (e.trans hg), i]
    | some x => rw [fm_some hg, fm_some (e.trans hg), i]
theorem has_pt {t : St} (h : Ok t) (x : Fl) (c : Bs) (m b : Int) : has ⟨fpt t.L x, m, b⟩ c = if c = x.nm then some x.bs else has t c := by
  unfold has
  show (flk (fpt t.L x) c).map Fl.bs = _
  rw [fpt, flk, h.rise.lk_pt]
  split <;> rfl
theorem has_wo {t : St} (h : Ok t) (a c : Bs) (m b : Int) : has ⟨fwo t.L a, m, b⟩ c = if c = a then none else has t c := by
  unfold has
  show (flk (fwo t.L a) c).map Fl.bs = _
  rw [fwo, flk, h.rise.lk_wo]
  split <;> rfl
structure Going (t t' : St) : Prop where
  ok : Ok t'
  bad : t'.bad = t.bad
/-- a removal that is told nothing -/
theorem rem_goes {t : St} (h : Ok t) (hb : ¬ 0 < t.bad) {a : Bs} (hn : isNm a = true) (hs : (flk t.L a).isSome = true) :
    remC t a = 0 ∧ Ok (remT t a) ∧ (remT t a).bad = t.bad ∧ ∀ c, has (remT t a) c = if c = a then none else has t c := by
  have h0 := (begC_ok (t := t) hn hb).1
  have e : remT t a = ⟨fwo t.L a, t.most, t.bad⟩ := by unfold remT; rw [if_pos h0, if_pos hs]
  refine ⟨by unfold remC; rw [if_pos h0, if_pos hs], h.rem a, by rw [e], fun c => ?_⟩
  rw [e, has_wo h]
/-- a renaming that is told nothing -/
theorem ren_goes {t : St} (h : Ok t) (hb : ¬ 0 < t.bad) {a p : Bs} (hn : isNm a = true) (hp : isNm p = true) (hs : (flk t.L a).isSome = true) :
    renC t a p = 0 ∧ Ok (renT t a p) ∧ (renT t a p).bad = t.bad ∧ ∀ c, has (renT t a p) c = if c = p then has t a else if c = a then none else has t c := by
  have h0 := (begC_ok (t := t) hn hb).1
  have e : renT t a p = ⟨fpt (fwo t.L a) ⟨p, (got t.L a).bs, (got t.L a).sure⟩, t.most, t.bad⟩ := by unfold renT; rw [if_pos h0, if_pos ⟨hp, hs⟩]
  refine ⟨by unfold renC; rw [if_pos h0, if_pos hp, if_pos hs], h.ren a p, by rw [e], fun c => ?_⟩
  rw [e, has_pt (t := ⟨fwo t.L a, t.most, t.bad⟩) (h.wo a), has_wo h]
  show (if c = p then some (got t.L a).bs else _) = _
  cases hl : flk t.L a with
  | none => rw [hl] at hs; cases hs
  | some x => rw [got_some hl]; unfold has; rw [hl]; rfl
theorem rn_goes (r : List Bs) : ∀ (t : St) (p : Bs), Ok t → ¬ 0 < t.bad → (p :: r).Nodup → (∀ a ∈ p :: r, isNm a = true) → has t p = none →
    rnC t p r = 0 ∧ Ok (rnT t p r) ∧ (rnT t p r).bad = t.bad ∧ (p :: r).filterMap (has (rnT t p r)) = r.filterMap (has t) ∧ (∀ z, (p :: r).getLast? = some z → has (rnT t p r) z = none) ∧ ∀ c, c ∉ p :: r → has (rnT t p r) c = has t c := by
  induction r with
  | nil =>
    intro t p hok hb hnd hnm hp
    refine ⟨rfl, hok, rfl, ?_, fun z hz => ?_, fun _ _ => rfl⟩
    · show [p].filterMap (has t) = []
      simp [hp]
    · cases hz; exact hp
  | cons a r ih =>
    intro t p hok hb hnd hnm hp
    obtain ⟨n1, n2⟩ := List.nodup_cons.1 hnd
    have hna := hnm a (by simp)
    have hnp := hnm p (by simp)
    have hnr : ∀ x ∈ a :: r, isNm x = true := fun x hx => hnm x (List.mem_cons_of_mem _ hx)
    have hpa : p ≠ a := fun e => n1 (by rw [e]; simp)
    have hpr : p ∉ r := fun e => n1 (List.mem_cons_of_mem _ e)
    have har : a ∉ r := (List.nodup_cons.1 n2).1
    cases hs : (flk t.L a).isSome with
    | false =>
      obtain ⟨e1, e2⟩ := rn_skip (p := p) (r := r) hs
      have hq : has t a = none := by have := has_is t a; rw [hs] at this; simpa using this
      obtain ⟨i1, i2, i3, i4, i5, i6⟩ := ih t a hok hb n2 hnr hq
      rw [e1, e2]
      refine ⟨i1, i2, i3, ?_, fun z hz => ?_, fun c hc => i6 c fun h => hc (List.mem_cons_of_mem _ h)⟩
      · rw [fm_none ((i6 p n1).trans hp), fm_none hq]; exact i4
      · rw [List.getLast?_cons_cons] at hz; exact i5 z hz
    | true =>
      obtain ⟨g1, g2, g3, g4⟩ := ren_goes hok hb hna hnp hs
      obtain ⟨e1, e2⟩ := rn_go (r := r) hs g1
      have hq : has (renT t a p) a = none := by rw [g4, if_neg (fun e => hpa e.symm), if_pos rfl]
      obtain ⟨i1, i2, i3, i4, i5, i6⟩ := ih (renT t a p) a g2 (by rw [g3]; exact hb) n2 hnr hq
      obtain ⟨x, hx⟩ : ∃ x, has t a = some x := by
        have := has_is t a; rw [hs] at this; exact Option.isSome_iff_exists.1 this
      rw [e1, e2]
      refine ⟨i1, i2, i3.trans g3, ?_, fun z hz => ?_, fun c hc => ?_⟩
      · have er : r.filterMap (has (renT t a p)) = r.filterMap (has t) := by
          apply fm_cong
          intro c hc
          rw [g4, if_neg (fun e => hpr (by rw [← e]; exact hc)), if_neg (fun e => har (by rw [← e]; exact hc))]
        rw [fm_some (((i6 p n1).trans ((g4 p).trans (if_pos rfl))).trans hx), fm_some hx, i4, er]
      · rw [List.getLast?_cons_cons] at hz; exact i5 z hz
      · have hcp : c ≠ p := fun e => hc (by rw [e]; simp)
        have hca : c ≠ a := fun e => hc (by rw [e]; simp)
        rw [i6 c (fun h => hc (List.mem_cons_of_mem _ h)), g4, if_neg hcp, if_neg hca]
/-- a turn of which no call fails -/
theorem tr_goes (a : Bs) (r : List Bs) (t : St) (hok : Ok t) (hb : ¬ 0 < t.bad) (hnd : (a :: r).Nodup) (hnm : ∀ x ∈ a :: r, isNm x = true) :
    trC t (a :: r) = 0 ∧ Ok (trT t (a :: r)) ∧ (a :: r).filterMap (has (trT t (a :: r))) = r.filterMap (has t) ∧ (∀ z, (a :: r).getLast? = some z → has (trT t (a :: r)) z = none) ∧ ∀ c, c ∉ a :: r → has (trT t (a :: r)) c = has t c := by
  have har : a ∉ r := (List.nodup_cons.1 hnd).1
  cases hs : (flk t.L a).isSome with
  | false =>
    obtain ⟨e1, e2⟩ := tr_skip (r := r) hs
    have hq : has t a = none := by have := has_is t a; rw [hs] at this; simpa using this
    obtain ⟨i1, i2, _, i4, i5, i6⟩ := rn_goes r t a hok hb hnd hnm hq
    rw [e1, e2]
    exact ⟨i1, i2, i4, i5, i6⟩
  | true =>
    obtain ⟨g1, g2, g3, g4⟩ := rem_goes hok hb (hnm a (by simp)) hs
    obtain ⟨e1, e2⟩ := tr_go (r := r) hs g1
    obtain ⟨i1, i2, _, i4, i5, i6⟩ := rn_goes r (remT t a) a g2 (by rw [g3]; exact hb) hnd hnm (by rw [g4, if_pos rfl])
    rw [e1, e2]
    refine ⟨i1, i2, ?_, i5, fun c hc => ?_⟩
    · rw [i4]
      apply fm_cong
      intro c hc
      rw [g4, if_neg (fun e => har (by rw [← e]; exact hc))]
    · rw [i6 c hc, g4, if_neg (fun e => hc (by rw [e]; simp))]

/-! ### the first call fails -/
theorem ren_io {t : St} (h1 : t.bad = 1) {a p : Bs} (hn : isNm a = true) : renC t a p = 12 ∧ (renT t a p).L = t.L := by
  obtain ⟨e1, e2⟩ := begC_io (t := t) hn (by omega)
  have h0 : ¬ begC t a = 0 := by rw [e1]; decide
  refine ⟨by unfold renC; rw [if_neg h0, e1], by unfold renT; rw [if_neg h0, e2]⟩
theorem rem_io_ {t : St} (h1 : t.bad = 1) {a : Bs} (hn : isNm a = true) : remC t a = 12 ∧ (remT t a).L = t.L := by
  obtain ⟨e1, e2⟩ := begC_io (t := t) hn (by omega)
  have h0 : ¬ begC t a = 0 := by rw [e1]; decide
  refine ⟨by unfold remC; rw [if_neg h0, e1], by unfold remT; rw [if_neg h0, e2]⟩
theorem rn_fails (r : List Bs) : ∀ (t : St) (p : Bs), t.bad = 1 → (∀ a ∈ r, isNm a = true) →
    (rnT t p r).L = t.L ∧ ((rnC t p r = 12 ∧ fnd t r ≠ []) ∨ (rnC t p r = 0 ∧ fnd t r = [])) := by
  induction r with
  | nil => intro t p _ _; exact ⟨rfl, .inr ⟨rfl, rfl⟩⟩
  | cons a r ih =>
    intro t p h1 hnm
    have hna := hnm a (by simp)
    cases hs : (flk t.L a).isSome with
    | false =>
      obtain ⟨e1, e2⟩ := rn_skip (p := p) (r := r) hs
      have hq : flk t.L a = none := by simpa using hs
      have e3 : fnd t (a :: r) = fnd t r := by unfold fnd; rw [List.filterMap_cons, hq]
      rw [e1, e2, e3]
      exact ih t a h1 fun x hx => hnm x (List.mem_cons_of_mem _ hx)
    | true =>
      obtain ⟨g1, g2⟩ := ren_io (p := p) h1 hna
      obtain ⟨e1, e2⟩ := rn_end (r := r) hs (show ¬ renC t a p = 0 by rw [g1]; decide)
      rw [e1, e2]
      obtain ⟨x, hx⟩ := Option.isSome_iff_exists.1 hs
      exact ⟨g2, .inl ⟨g1, by unfold fnd; rw [List.filterMap_cons, hx]; simp⟩⟩
theorem tr_fails (ns : List Bs) (t : St) (h1 : t.bad = 1) (hnm : ∀ a ∈ ns, isNm a = true) :
    (trT t ns).L = t.L ∧ ((trC t ns = 12 ∧ fnd t ns ≠ []) ∨ (trC t ns = 0 ∧ fnd t ns = [])) := by
  cases ns with
  | nil => exact ⟨rfl, .inr ⟨rfl, rfl⟩⟩
  | cons a r =>
    have hna := hnm a (by simp)
    cases hs : (flk t.L a).isSome with
    | false =>
      obtain ⟨e1, e2⟩ := tr_skip (r := r) hs
      have hq : flk t.L a = none := by simpa using hs
      have e3 : fnd t (a :: r) = fnd t r := by unfold fnd; rw [List.filterMap_cons, hq]
      rw [e1, e2, e3]
      exact rn_fails r t a h1 fun x hx => hnm x (List.mem_cons_of_mem _ hx)
    | true =>
      obtain ⟨g1, g2⟩ := rem_io_ (a := a) h1 hna
      obtain ⟨e1, e2⟩ := tr_end (r := r) hs (show ¬ remC t a = 0 by rw [g1]; decide)
      rw [e1, e2]
      obtain ⟨x, hx⟩ := Option.isSome_iff_exists.1 hs
      exact ⟨g2, .inl ⟨g1, by unfold fnd; rw [List.filterMap_cons, hx]; simp⟩⟩
end Go.Proofs.YtpaeemkdjgbejaaGreat.Gen
end

section
namespace Go.Proofs.YtpaeemkdjgbejaaGreat.Gen
open Go.Proofs.YtpaeemkdjgbejaaGreat.Sto Go.Proofs.YtpaeemkdjgbejaaGreat.Digit

def lg : Bs := [108, 111, 103]
def oth : Bs := [111, 116, 104, 101, 114]
theorem nmc_digit {c : UInt8} (h : 48 ≤ c.toNat ∧ c.toNat ≤ 57) : nmc c.toNat = true := by
  unfold nmc
  rw [decide_eq_true (by omega), decide_eq_true (by omega)]
  simp; omega
theorem lg_nm {i : Nat} (h : i < 18) : isNm (nm lg (i : Nat)) = true := by
  by_cases h0 : ((i : Nat) : Int) ≤ 0
  · rw [nm_zero _ h0]; rfl
  · rw [nm_more _ h0]
    have hd : dec (i : Nat) = decN i := by rw [dec, if_neg (by omega)]; rfl
    have hl := decN_len 1 i (by omega)
    have e1 : (lg ++ 46 :: dec (i : Nat)).length ≤ 64 ∧ 1 ≤ (lg ++ 46 :: dec (i : Nat)).length := by
      rw [hd]; simp [lg]; omega
    rw [isNm, Bool.and_eq_true]
    refine ⟨decide_eq_true ⟨e1.2, e1.1⟩, ?_⟩
    rw [allc, List.all_eq_true]
    intro c hc
    rw [hd, List.mem_append, List.mem_cons] at hc
    rcases hc with hc | rfl | hc
    · simp only [lg, List.mem_cons, List.not_mem_nil, or_false] at hc
      rcases hc with rfl | rfl | rfl <;> rfl
    · rfl
    · exact nmc_digit (decN_digit i c hc)
theorem lg_head (i : Int) : (nm lg i).head? = some 108 := by
  unfold nm
  split <;> rfl
theorem lg_oth (i : Int) : nm lg i ≠ oth := fun h => by
  have := lg_head i
  rw [h] at this
  cases this
theorem lg_size {i : Nat} (h : i < 18) : (nm lg (i : Nat)).length ≤ 64 := (isNm_len (lg_nm h)).2
theorem ser_nm {k : Nat} (hk : k ≤ 16) : ∀ a ∈ ser lg k, isNm a = true := by
  intro a ha
  obtain ⟨i, h1, rfl⟩ := ser_mem.1 ha
  exact lg_nm (by omega)
theorem ser_oth (k : Nat) : oth ∉ ser lg k := fun h => by
  obtain ⟨i, _, h2⟩ := ser_mem.1 h
  exact lg_oth _ h2.symm

/-- a store as the law makes it -/
structure Gd (t : St) (k : Nat) : Prop where
  bad : t.bad = 0
  most : t.most = 10000
  len : t.L.length ≤ k
  hoth : has t oth = some [111]
theorem beg_same {t : St} (h : t.bad = 0) (a : Bs) : begT t a = t := by
  unfold begT
  rw [if_neg (by omega)]
theorem app_same {t : St} (h : t.bad = 0) (a s : Bs) : (appT t a s).bad = 0 ∧ (appT t a s).most = t.most ∧ (appT t a s).L.length ≤ t.L.length + 1 := by
  unfold appT
  split
  · split
    · exact ⟨h, rfl, by omega⟩
    · exact ⟨h, rfl, pt_len _ _⟩
  · rw [beg_same h]; exact ⟨h, rfl, by omega⟩
theorem syn_same {t : St} (h : t.bad = 0) (a : Bs) : (synT t a).bad = 0 ∧ (synT t a).most = t.most ∧ (synT t a).L.length ≤ t.L.length + 1 := by
  unfold synT
  split
  · split
    · exact ⟨h, rfl, pt_len _ _⟩
    · exact ⟨h, rfl, by omega⟩
  · rw [beg_same h]; exact ⟨h, rfl, by omega⟩
theorem syn_len {t : St} (hok : Ok t) (h : t.bad = 0) (a : Bs) : (synT t a).L.length ≤ t.L.length := by
  unfold synT
  split
  · split
    · rename_i hs
      show (fpt t.L _).length ≤ _
      rw [fpt, hok.rise.len_pt]
      show (if (flk t.L a).isSome = true then _ else _) ≤ _
      rw [if_pos hs]; exact Nat.le_refl _
    · exact Nat.le_refl _
  · rw [beg_same h]; exact Nat.le_refl _
theorem app_has {t : St} (hok : Ok t) (h : t.bad = 0) {a s c : Bs} (hne : c ≠ a) : has (appT t a s) c = has t c := by
  unfold appT
  split
  · split
    · rfl
    · rw [has_pt hok, if_neg hne]
  · rw [beg_same h]
theorem syn_has {t : St} (hok : Ok t) (h : t.bad = 0) {a c : Bs} (hne : c ≠ a) : has (synT t a) c = has t c := by
  unfold synT
  split
  · split
    · rw [has_pt hok, if_neg hne]
    · rfl
  · rw [beg_same h]
theorem Gd.app {t : St} {k : Nat} (h : Gd t k) (hok : Ok t) {a s : Bs} (hne : oth ≠ a) : Gd (appT t a s) (k + 1) := by
  obtain ⟨e1, e2, e3⟩ := app_same h.bad a s
  have := h.len
  exact ⟨e1, e2.trans h.most, by omega, (app_has hok h.bad hne).trans h.hoth⟩
theorem Gd.syn {t : St} {k : Nat} (h : Gd t k) (hok : Ok t) {a : Bs} (hne : oth ≠ a) : Gd (synT t a) k := by
  obtain ⟨e1, e2, _⟩ := syn_same h.bad a
  have := syn_len hok h.bad a
  have := h.len
  exact ⟨e1, e2.trans h.most, by omega, (syn_has hok h.bad hne).trans h.hoth⟩
theorem Gd.more {t : St} {k m : Nat} (h : Gd t k) (hm : k ≤ m) : Gd t m := ⟨h.bad, h.most, by have := h.len; omega, h.hoth⟩
theorem gd_new : Gd (appT ⟨[], 10000, 0⟩ oth [111]) 1 := ⟨rfl, rfl, by decide, rfl⟩

theorem has_read {t : St} {a l : Bs} (h : has t a = some l) : (got t.L a).bs = l ∧ (flk t.L a).isSome = true := by
  unfold has at h
  cases hl : flk t.L a with
  | none => rw [hl] at h; cases h
  | some x => rw [hl] at h; rw [got_some hl]; exact ⟨by simpa using h, rfl⟩
/-- what the law asks of a turn -/
structure Keeps (t T : St) (K : Nat) (C : Int) (fl : Bool) : Prop where
  hoth : has T oth = some [111]
  way : (fl = true ∧ C = 12 ∧ fnd T (ser lg K) = fnd t (ser lg K) ∧ 0 < (fnd t (ser lg K)).length) ∨
    (C = 0 ∧ (flk T.L lg).isSome = false ∧ (((flk t.L (nm lg ((K : Int) - 1))).isSome = true ∧ ∃ x, (fnd t (ser lg K)).map Fl.bs = x :: (fnd T (ser lg K)).map Fl.bs) ∨
      ((flk t.L (nm lg ((K : Int) - 1))).isSome = false ∧ (fnd t (ser lg K)).map Fl.bs = (fnd T (ser lg K)).map Fl.bs)))
theorem lg_in {K : Nat} (h : 1 ≤ K) : lg ∈ ser lg K := ser_mem.2 ⟨0, h, (nm_zero lg (by omega)).symm⟩
theorem keeps_fail {t : St} {k : Nat} (hg : Gd t k) (K : Nat) (h1 : 1 ≤ K) (hK : K ≤ 16) : Keeps t (trT ⟨t.L, t.most, 1⟩ (ser lg K)) K (trC ⟨t.L, t.most, 1⟩ (ser lg K)) true := by
  obtain ⟨e1, e2⟩ := tr_fails (ser lg K) ⟨t.L, t.most, 1⟩ rfl (ser_nm hK)
  have e3 : ∀ ns, fnd (trT ⟨t.L, t.most, 1⟩ (ser lg K)) ns = fnd t ns := fun ns => fnd_same e1 ns
  refine ⟨?_, ?_⟩
  · rw [← hg.hoth]; unfold has; rw [e1]
  · rcases e2 with ⟨c, hne⟩ | ⟨c, hnil⟩
    · left
      exact ⟨rfl, c, e3 _, List.length_pos_iff.2 hne⟩
    · right
      have hno : ∀ a ∈ ser lg K, flk t.L a = none := fun a ha => by
        unfold fnd at hnil
        exact List.filterMap_eq_nil_iff.1 hnil a ha
      have hlast : nm lg ((K : Int) - 1) ∈ ser lg K := ser_mem.2 ⟨K - 1, by omega, by rw [show ((K - 1 : Nat) : Int) = (K : Int) - 1 by omega]⟩
      refine ⟨c, ?_, .inr ⟨?_, ?_⟩⟩
      · rw [e1]; show (flk t.L lg).isSome = false; rw [hno _ (lg_in h1)]; rfl
      · rw [hno _ hlast]; rfl
      · rw [e3]
theorem keeps_ok {t : St} {k : Nat} (hok : Ok t) (hg : Gd t k) (K : Nat) (h1 : 1 ≤ K) (hK : K ≤ 16) : Keeps t (trT t (ser lg K)) K (trC t (ser lg K)) false := by
  obtain ⟨m, rfl⟩ : ∃ m, K = m + 1 := ⟨K - 1, by omega⟩
  have hnm := ser_nm hK
  have hnd := ser_nodup lg (m + 1)
  have hoth := ser_oth (m + 1)
  have hlast := ser_last lg (m + 1) h1
  have e0 : ser lg (m + 1) = nm lg (m : Nat) :: ser lg m := rfl
  have e1 : ((m + 1 : Nat) : Int) - 1 = (m : Nat) := by omega
  rw [e0] at hnm hnd hoth hlast
  obtain ⟨g1, g2, g3, g4, g5⟩ := tr_goes (nm lg (m : Nat)) (ser lg m) t hok (by rw [hg.bad]; decide) hnd hnm
  rw [← e0] at g1 g3 g4 g5
  refine ⟨(g5 _ (by rw [e0]; exact hoth)).trans hg.hoth, .inr ⟨g1, ?_, ?_⟩⟩
  · have := g4 _ (by rw [e0]; exact hlast)
    rw [← has_is, this]; rfl
  · rw [fnd_bs, fnd_bs, g3, e1, e0]
    cases hs : (flk t.L (nm lg (m : Nat))).isSome with
    | true =>
      obtain ⟨x, hx⟩ : ∃ x, has t (nm lg (m : Nat)) = some x := by
        have := has_is t (nm lg (m : Nat)); rw [hs] at this; exact Option.isSome_iff_exists.1 this
      exact .inl ⟨rfl, x, fm_some hx⟩
    | false =>
      have hq : has t (nm lg (m : Nat)) = none := by have := has_is t (nm lg (m : Nat)); rw [hs] at this; simpa using this
      exact .inr ⟨rfl, fm_none hq⟩
end Go.Proofs.YtpaeemkdjgbejaaGreat.Gen
end

section
namespace Go.Proofs.YtpaeemkdjgbejaaGreat.Sum

/-- one byte more -/
def st (h : Int) (b : UInt8) : Int := (257 * h + (b.toNat : Int) + 1) % 2147483647
def sumFrom (h : Int) (l : List UInt8) : Int := l.foldl st h
def sumOf (l : List UInt8) : Int := sumFrom 0 l
/-- so many bytes behind that count as nothing -/
def shift (a : Int) : Nat → Int
  | 0 => a
  | n + 1 => shift (257 * a % 2147483647) n
def isSum (n : Int) : Bool := decide (0 ≤ n) && decide (n < 2147483647)

theorem isSum_iff {n : Int} : isSum n = true ↔ 0 ≤ n ∧ n < 2147483647 := by simp [isSum]
theorem isSum_not {n : Int} : isSum n = false ↔ n < 0 ∨ 2147483647 ≤ n := by
  rw [← Bool.not_eq_true, isSum_iff]; omega
theorem st_range (h : Int) (b : UInt8) : 0 ≤ st h b ∧ st h b < 2147483647 := by unfold st; omega
theorem sumFrom_nil (h : Int) : sumFrom h [] = h := rfl
theorem sumFrom_cons (h : Int) (b : UInt8) (l : List UInt8) : sumFrom h (b :: l) = sumFrom (st h b) l := rfl
theorem sumFrom_app (h : Int) (l m : List UInt8) : sumFrom h (l ++ m) = sumFrom (sumFrom h l) m := by simp [sumFrom, List.foldl_append]
theorem sumFrom_snoc (h : Int) (l : List UInt8) (b : UInt8) : sumFrom h (l ++ [b]) = st (sumFrom h l) b := by rw [sumFrom_app]; rfl
theorem sumFrom_range (l : List UInt8) : ∀ h : Int, 0 ≤ h → h < 2147483647 → 0 ≤ sumFrom h l ∧ sumFrom h l < 2147483647 := by
  induction l with
  | nil => intro h a b; exact ⟨a, b⟩
  | cons b l ih => intro h _ _; exact ih _ (st_range h b).1 (st_range h b).2
theorem sumOf_range (l : List UInt8) : 0 ≤ sumOf l ∧ sumOf l < 2147483647 := sumFrom_range l 0 (by omega) (by omega)
theorem sumOf_take (l : List UInt8) {k : Nat} (h : k < l.length) : sumOf (l.take (k + 1)) = st (sumOf (l.take k)) l[k] := by
  rw [List.take_add_one, List.getElem?_eq_getElem h]
  exact sumFrom_snoc _ _ _

/-! the sum of two texts -/
theorem sumFrom_step (a b x : Int) (c : UInt8) (h : (a - b) % 2147483647 = x % 2147483647) : (st a c - st b c) % 2147483647 = (257 * x) % 2147483647 := by
  unfold st; omega
theorem sumFrom_shift (l : List UInt8) : ∀ a b : Int, 0 ≤ a → a < 2147483647 → 0 ≤ b → b < 2147483647 → (sumFrom a l - sumFrom b l) % 2147483647 = shift ((a - b) % 2147483647) l.length := by
  induction l with
  | nil => intro a b _ _ _ _; rfl
  | cons c l ih =>
    intro a b _ _ _ _
    rw [sumFrom_cons, sumFrom_cons, ih _ _ (st_range a c).1 (st_range a c).2 (st_range b c).1 (st_range b c).2, List.length_cons]
    show _ = shift (257 * ((a - b) % 2147483647) % 2147483647) l.length
    congr 1
    have := sumFrom_step a b ((a - b) % 2147483647) c (by omega)
    rw [this]
theorem shift_range (n : Nat) : ∀ a : Int, 0 ≤ a → a < 2147483647 → 0 ≤ shift a n ∧ shift a n < 2147483647 := by
  induction n with
  | zero => intro a h1 h2; exact ⟨h1, h2⟩
  | succ n ih => intro a _ _; exact ih _ (by omega) (by omega)
theorem sumOf_app (s t : List UInt8) : sumOf (s ++ t) = (shift (sumOf s) t.length + sumOf t) % 2147483647 := by
  have r1 := sumOf_range s
  have r2 := sumOf_range t
  have r3 := sumOf_range (s ++ t)
  have r4 := shift_range t.length (sumOf s) r1.1 r1.2
  have h := sumFrom_shift t (sumOf s) 0 r1.1 r1.2 (by omega) (by omega)
  have e : sumFrom (sumOf s) t = sumOf (s ++ t) := (sumFrom_app 0 s t).symm
  rw [e, show (sumOf s - 0) % 2147483647 = sumOf s by omega] at h
  have e2 : sumFrom 0 t = sumOf t := rfl
  rw [e2] at h
  omega

/-! a byte that was turned is found -/
theorem unmul {x : Int} (h : (257 * x) % 2147483647 = 0) : x % 2147483647 = 0 := by omega
theorem unmul256 {x : Int} (h : (256 * x) % 2147483647 = 0) : x % 2147483647 = 0 := by omega
theorem sumFrom_inj (l : List UInt8) : ∀ a b : Int, 0 ≤ a → a < 2147483647 → 0 ≤ b → b < 2147483647 → sumFrom a l = sumFrom b l → a = b := by
  induction l with
  | nil => intro a b _ _ _ _ h; exact h
  | cons c l ih =>
    intro a b a0 a1 b0 b1 h
    have e := ih _ _ (st_range a c).1 (st_range a c).2 (st_range b c).1 (st_range b c).2 h
    have h2 : (257 * (a - b)) % 2147483647 = 0 := by
      have := sumFrom_step a b (a - b) c rfl
      rw [← this]
      simp only [sumFrom_cons] at h
      rw [e]; omega
    have := unmul h2
    omega
theorem st_inj {h : Int} {b c : UInt8} (e : st h b = st h c) : b = c := by
  have h1 := b.toNat_lt
  have h2 := c.toNat_lt
  unfold st at e
  apply UInt8.toNat_inj.1
  omega
theorem turned {l : List UInt8} {i : Nat} (hi : i < l.length) (b : UInt8) : sumOf (l.set i b) = sumOf l ↔ b = l[i] := by
  constructor
  · intro h
    have e1 : l.set i b = l.take i ++ (b :: l.drop (i + 1)) := by rw [List.set_eq_take_append_cons_drop, if_pos hi]
    have e2 : l = l.take i ++ (l[i] :: l.drop (i + 1)) := by rw [List.getElem_cons_drop, List.take_append_drop]
    have r := sumOf_range (l.take i)
    rw [e1] at h
    conv at h => rhs; rw [e2]
    unfold sumOf at h r
    rw [sumFrom_app, sumFrom_app, sumFrom_cons, sumFrom_cons] at h
    exact st_inj (sumFrom_inj _ _ _ (st_range _ _).1 (st_range _ _).2 (st_range _ _).1 (st_range _ _).2 h)
  · rintro rfl; simp
theorem st_swap {h : Int} {b c : UInt8} (e : st (st h b) c = st (st h c) b) : b = c := by
  have h1 := b.toNat_lt
  have h2 := c.toNat_lt
  unfold st at e
  apply UInt8.toNat_inj.1
  have h3 : (256 * ((b.toNat : Int) - c.toNat)) % 2147483647 = 0 := by omega
  have := unmul256 h3
  omega
theorem swapped {l : List UInt8} {i : Nat} (hi : i + 1 < l.length) : sumOf ((l.set i l[i + 1]).set (i + 1) l[i]) = sumOf l ↔ l[i] = l[i + 1] := by
  constructor
  · intro h
    have e2 : l = l.take i ++ (l[i] :: l[i + 1] :: l.drop (i + 2)) := by
      rw [List.getElem_cons_drop, List.getElem_cons_drop, List.take_append_drop]
    have e1 : (l.set i l[i + 1]).set (i + 1) l[i] = l.take i ++ (l[i + 1] :: l[i] :: l.drop (i + 2)) := by
      have hl : (l.take i).length = i := by simp; omega
      conv => lhs; rw [show l.set i l[i + 1] = l.take i ++ (l[i + 1] :: l[i + 1] :: l.drop (i + 2)) by
        rw [List.set_eq_take_append_cons_drop, if_pos (by omega), List.getElem_cons_drop]]
      rw [List.set_append_right _ _ (by omega), hl, show i + 1 - i = 1 by omega]
      rfl
    rw [e1] at h
    conv at h => rhs; rw [e2]
    unfold sumOf at h
    rw [sumFrom_app, sumFrom_app, sumFrom_cons, sumFrom_cons, sumFrom_cons, sumFrom_cons] at h
    exact (st_swap (sumFrom_inj _ _ _ (st_range _ _).1 (st_range _ _).2 (st_range _ _).1 (st_range _ _).2 h)).symm
  · intro e
    have a : l.set i l[i + 1] = l := by
      conv => lhs; rw [← e]
      simp
    rw [a, e]; simp
end Go.Proofs.YtpaeemkdjgbejaaGreat.Sum
end

section
namespace Go.Proofs.YtpaeemkdjgbejaaGreat.Sum

/-! powers -/
theorem pow_mod (a : Int) (k : Nat) : ((a % 2147483647) ^ k) % 2147483647 = (a ^ k) % 2147483647 := by
  induction k with
  | zero => rw [Int.pow_zero, Int.pow_zero]
  | succ k ih => rw [Int.pow_succ, Int.pow_succ, Int.mul_emod, ih, Int.emod_emod, ← Int.mul_emod]
theorem mul_mod_l (a b : Int) : ((a % 2147483647) * b) % 2147483647 = (a * b) % 2147483647 := by
  rw [Int.mul_emod, Int.emod_emod, ← Int.mul_emod]
theorem mul_mod_r (a b : Int) : (a * (b % 2147483647)) % 2147483647 = (a * b) % 2147483647 := by
  rw [Int.mul_emod, Int.emod_emod, ← Int.mul_emod]
theorem shift_pow (n : Nat) : ∀ a : Int, 0 ≤ a → a < 2147483647 → shift a n = (a * 257 ^ n) % 2147483647 := by
  induction n with
  | zero => intro a h1 h2; show a = (a * 1) % 2147483647; omega
  | succ n ih =>
    intro a h1 h2
    show shift (257 * a % 2147483647) n = _
    rw [ih _ (by omega) (by omega), mul_mod_l, Int.pow_succ, show 257 * a * 257 ^ n = a * (257 ^ n * 257) by rw [Int.mul_comm 257 a, Int.mul_assoc, Int.mul_comm 257]]
def pw (n : Int) : Int := 257 ^ n.toNat % 2147483647
theorem pw_range (n : Int) : 0 ≤ pw n ∧ pw n < 2147483647 := by unfold pw; omega
theorem shift_pw {a : Int} (h1 : 0 ≤ a) (h2 : a < 2147483647) (b n : Int) : (a * pw n + b) % 2147483647 = (shift a n.toNat + b) % 2147483647 := by
  have e : (a * pw n) % 2147483647 = shift a n.toNat := by rw [shift_pow _ _ h1 h2]; unfold pw; exact mul_mod_r _ _
  rw [← e]; omega
/-- what is left to be multiplied -/
def Left (N m p q : Int) : Prop := (p * q ^ m.toNat) % 2147483647 = pw N
theorem left_start (N : Int) : Left N N 1 257 := by unfold Left pw; rw [Int.one_mul]
theorem left_even {N m p q : Int} (h : Left N m p q) (h0 : 0 < m) (he : m % 2 = 0) : Left N (m / 2) p (q * q % 2147483647) := by
  obtain ⟨k, rfl⟩ : ∃ k : Nat, m = 2 * k := ⟨(m / 2).toNat, by omega⟩
  unfold Left at h ⊢
  rw [← h, show (2 * (k : Int) / 2).toNat = k by omega, show (2 * (k : Int)).toNat = 2 * k by omega, ← mul_mod_r p, pow_mod, mul_mod_r, Int.pow_mul, show q ^ 2 = q * q by rw [Int.pow_succ, Int.pow_succ, Int.pow_zero, Int.one_mul]]
theorem left_odd {N m p q : Int} (h : Left N m p q) (h0 : 0 < m) (he : m % 2 = 1) : Left N (m / 2) (p * q % 2147483647) (q * q % 2147483647) := by
  obtain ⟨k, rfl⟩ : ∃ k : Nat, m = 2 * k + 1 := ⟨(m / 2).toNat, by omega⟩
  unfold Left at h ⊢
  rw [← h, show ((2 * (k : Int) + 1) / 2).toNat = k by omega, show (2 * (k : Int) + 1).toNat = 2 * k + 1 by omega, mul_mod_l, ← mul_mod_r (p * q), pow_mod, mul_mod_r, Int.pow_succ, Int.pow_mul, show q ^ 2 = q * q by rw [Int.pow_succ, Int.pow_succ, Int.pow_zero, Int.one_mul], Int.mul_assoc p q, Int.mul_comm q]
theorem left_end {N p q : Int} (h : Left N 0 p q) (h1 : 0 ≤ p) (h2 : p < 2147483647) : p = pw N := by
  unfold Left at h
  rw [show (0 : Int).toNat = 0 from rfl, Int.pow_zero, Int.mul_one] at h
  omega
theorem prod_range {a b : Int} (a0 : 0 ≤ a) (a1 : a < 2147483647) (b0 : 0 ≤ b) (b1 : b < 2147483647) : 0 ≤ a * b ∧ a * b ≤ 4611686009837453316 :=
  ⟨Int.mul_nonneg a0 b0, Int.le_trans (Int.mul_le_mul (c := 2147483646) (d := 2147483646) (by omega) (by omega) b0 (by omega)) (by omega)⟩

/-! two texts -/
def jok (a b n : Int) : Bool := isSum a && isSum b && decide (0 ≤ n)
def jV (a b n : Int) : Int := if jok a b n = true then (shift a n.toNat + b) % 2147483647 else 0
def jC (a b n : Int) : Int := if jok a b n = true then 0 else 1
theorem jok_iff {a b n : Int} : jok a b n = true ↔ 0 ≤ a ∧ a < 2147483647 ∧ 0 ≤ b ∧ b < 2147483647 ∧ 0 ≤ n := by
  simp [jok, isSum_iff, and_assoc]
theorem j_some {a b n : Int} (h : 0 ≤ a ∧ a < 2147483647 ∧ 0 ≤ b ∧ b < 2147483647 ∧ 0 ≤ n) : jV a b n = (shift a n.toNat + b) % 2147483647 ∧ jC a b n = 0 :=
  ⟨if_pos (jok_iff.2 h), if_pos (jok_iff.2 h)⟩
theorem j_none {a b n : Int} (h : ¬ (0 ≤ a ∧ a < 2147483647 ∧ 0 ≤ b ∧ b < 2147483647 ∧ 0 ≤ n)) : jV a b n = 0 ∧ jC a b n = 1 :=
  ⟨if_neg fun k => h (jok_iff.1 k), if_neg fun k => h (jok_iff.1 k)⟩
theorem j_app (s t : List UInt8) : jV (sumOf s) (sumOf t) t.length = sumOf (s ++ t) ∧ jC (sumOf s) (sumOf t) t.length = 0 := by
  have r1 := sumOf_range s
  have r2 := sumOf_range t
  have h := j_some (a := sumOf s) (b := sumOf t) (n := t.length) ⟨r1.1, r1.2, r2.1, r2.2, by omega⟩
  rw [sumOf_app]
  exact ⟨h.1.trans (by rw [show ((t.length : Int)).toNat = t.length by omega]), h.2⟩

/-! sums as bytes -/
def byteI (n : Int) : UInt8 := n.toNat.toUInt8
theorem byteI_back {n : Int} (h0 : 0 ≤ n) (h1 : n < 256) : ((byteI n).toNat : Int) = n := by
  unfold byteI
  have : n.toNat.toUInt8.toNat = n.toNat % 256 := by simp
  omega
def four (n : Int) : List UInt8 := [byteI (n / 16777216 % 256), byteI (n / 65536 % 256), byteI (n / 256 % 256), byteI (n % 256)]
def putL (n : Int) : List UInt8 := if isSum n = true then four n else []
theorem put_some {n : Int} (h0 : 0 ≤ n) (h1 : n < 2147483647) : putL n = four n := if_pos (isSum_iff.2 ⟨h0, h1⟩)
theorem put_none {n : Int} (h : n < 0 ∨ 2147483647 ≤ n) : putL n = [] := if_neg (by rw [isSum_not.2 h]; decide)
def be (l : List UInt8) : Int := l.foldl (fun n b => n * 256 + (b.toNat : Int)) 0
def rdok (l : List UInt8) : Bool := decide (l.length = 4) && decide (be l < 2147483647)
def rdV (l : List UInt8) : Int := if rdok l = true then be l else 0
def rdC (l : List UInt8) : Int := if l.length = 4 then (if be l < 2147483647 then 0 else 2) else 5
theorem rd_some {l : List UInt8} (h : l.length = 4) (h2 : be l < 2147483647) : rdV l = be l ∧ rdC l = 0 :=
  ⟨if_pos (by simp [rdok, h, h2]), by rw [rdC, if_pos h, if_pos h2]⟩
theorem rd_over {l : List UInt8} (h : l.length = 4) (h2 : ¬ be l < 2147483647) : rdV l = 0 ∧ rdC l = 2 :=
  ⟨if_neg (by simp [rdok]; omega), by rw [rdC, if_pos h, if_neg h2]⟩
theorem rd_size {l : List UInt8} (h : ¬ l.length = 4) : rdV l = 0 ∧ rdC l = 5 :=
  ⟨if_neg (by simp [rdok, h]), by rw [rdC, if_neg h]⟩
theorem be_four (a b c d : UInt8) : be [a, b, c, d] = (((a.toNat : Int) * 256 + b.toNat) * 256 + c.toNat) * 256 + d.toNat := by simp [be]
theorem be_put {n : Int} (h0 : 0 ≤ n) (h1 : n < 2147483647) : be (four n) = n := by
  unfold four
  rw [be_four, byteI_back (by omega) (by omega), byteI_back (by omega) (by omega), byteI_back (by omega) (by omega), byteI_back (by omega) (by omega)]
  omega
theorem rd_put {n : Int} (h0 : 0 ≤ n) (h1 : n < 2147483647) : rdV (putL n) = n ∧ rdC (putL n) = 0 := by
  rw [put_some h0 h1]
  have h := rd_some (l := four n) rfl (by rw [be_put h0 h1]; exact h1)
  rw [be_put h0 h1] at h
  exact h

/-! a text with its sum behind -/
def fits (l : List UInt8) : Bool := decide (4 ≤ l.length) && (putL (sumOf (l.take (l.length - 4))) == l.drop (l.length - 4))
theorem fits_short {l : List UInt8} (h : l.length < 4) : fits l = false := by simp [fits]; omega
theorem fits_long {l : List UInt8} (h : 4 ≤ l.length) : fits l = (putL (sumOf (l.take (l.length - 4))) == l.drop (l.length - 4)) := by simp [fits, h]
theorem four_len (n : Int) : (four n).length = 4 := rfl
theorem put_sum (l : List UInt8) : putL (sumOf l) = four (sumOf l) := put_some (sumOf_range l).1 (sumOf_range l).2
theorem fits_put (l : List UInt8) : fits (l ++ putL (sumOf l)) = true := by
  rw [put_sum, fits_long (by simp [four_len])]
  have e : (l ++ four (sumOf l)).length - 4 = l.length := by simp [four_len]
  rw [e, List.take_left, List.drop_left, put_sum]
  simp
end Go.Proofs.YtpaeemkdjgbejaaGreat.Sum
end

section
namespace Go.Proofs.YtpaeemkdjgbejaaGreat.Rec
structure Itm where
  k : Int
  a : Int
  b : ByteArray
end Go.Proofs.YtpaeemkdjgbejaaGreat.Rec
end


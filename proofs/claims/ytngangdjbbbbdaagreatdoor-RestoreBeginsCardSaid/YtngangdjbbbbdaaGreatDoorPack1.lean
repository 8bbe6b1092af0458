/-
Layer 11 (store), plain: files by rising names; what is put, taken out, found; what a crash leaves.
Layer 11 (store), plain: what each call makes of the files, and which code it tells.
Layer 2 (digit): the plain mathematics: decimal texts, digits, signs.
Layer 21 (gens), plain: names of generations, those that are there, and what a turn makes of a store.
Blocks that a call may write, and all others as they were: 'Out S w w''; a block known whole; copy into a block known whole.
Maps whose elements are whatever values: 'KMap P k kv w b f n': block b of w is a map of n entries; the entry at the key kv a holds the value v just where f a = some v.
Rows of the call's own: kept by Below, appended to from whatever source.
-/
import Derived.Test.YtngangdjbbbbdaaGreatDoorProg
import Derived.Lib.Bytealg
import Derived.Below
import Derived.Laws.CopyOwn
import Derived.Lib.Hide
import Derived.Deep.Draws
import Derived.Maps.OwnSet
import Derived.Maps.OwnOps
import Derived.IntWalk
import Derived.OwnWalk
import Derived.Laws.AppendOwnNone
import Derived.Laws.AppendOwn
section
namespace Go.Proofs.YtngangdjbbbbdaaGreatDoor.Sto

abbrev Bs := List UInt8
theorem lt_or {a b : Bs} (h : ¬ a < b) (hne : a ≠ b) : b < a := by
  have h1 : b ≤ a := List.not_lt.1 h
  rcases Decidable.em (b < a) with h2 | h2
  · exact h2
  · exact absurd (List.le_antisymm (List.not_lt.1 h2) h1) hne

section
variable {α : Type} (nm : α → Bs)
def Rise (L : List α) : Prop := L.Pairwise fun x y => nm x < nm y
def wo (L : List α) (a : Bs) : List α := L.filter fun x => nm x != a
def low (L : List α) (a : Bs) : List α := L.takeWhile fun x => decide (nm x < a)
def high (L : List α) (a : Bs) : List α := L.dropWhile fun x => decide (nm x < a)
def pt (L : List α) (x : α) : List α := low nm (wo nm L (nm x)) (nm x) ++ x :: high nm (wo nm L (nm x)) (nm x)
def lk (L : List α) (a : Bs) : Option α := L.find? fun x => nm x == a

variable {nm}
theorem low_high (L : List α) (a : Bs) : low nm L a ++ high nm L a = L := List.takeWhile_append_dropWhile
theorem pt_perm (L : List α) (x : α) : (pt nm L x).Perm (x :: wo nm L (nm x)) := by
  have := low_high (nm := nm) (wo nm L (nm x)) (nm x)
  unfold pt
  refine List.perm_middle.trans ?_
  rw [this]
theorem mem_wo {L : List α} {a : Bs} {x : α} : x ∈ wo nm L a ↔ x ∈ L ∧ nm x ≠ a := by simp [wo]
theorem mem_pt {L : List α} {x y : α} : y ∈ pt nm L x ↔ y = x ∨ (y ∈ L ∧ nm y ≠ nm x) := by
  rw [(pt_perm L x).mem_iff, List.mem_cons, mem_wo]
theorem Rise.wo {L : List α} (h : Rise nm L) (a : Bs) : Rise nm (wo nm L a) := List.Pairwise.filter _ h
theorem low_lt {L : List α} {a : Bs} {x : α} (h : x ∈ low nm L a) : nm x < a := by
  have := List.all_takeWhile (l := L) (p := fun x => decide (nm x < a))
  rw [List.all_eq_true] at this
  simpa using this x h
theorem high_ge {L : List α} (hr : Rise nm L) {a : Bs} {x : α} (h : x ∈ high nm L a) : ¬ nm x < a := by
  induction L with
  | nil => simp [high] at h
  | cons y r ih =>
    obtain ⟨h1, h2⟩ := List.pairwise_cons.1 hr
    by_cases hy : nm y < a
    · rw [high, List.dropWhile_cons_of_pos (by simpa using hy)] at h
      exact ih h2 h
    · rw [high, List.dropWhile_cons_of_neg (by simpa using hy)] at h
      rcases List.mem_cons.1 h with rfl | hm
      · exact hy
      · exact fun hx => hy (List.lt_trans (h1 x hm) hx)
theorem Rise.pt {L : List α} (h : Rise nm L) (x : α) : Rise nm (pt nm L x) := by
  have hw := h.wo (nm x)
  have hs : Rise nm (low nm (Sto.wo nm L (nm x)) (nm x) ++ high nm (Sto.wo nm L (nm x)) (nm x)) := by rw [low_high]; exact hw
  obtain ⟨h1, h2, h3⟩ := List.pairwise_append.1 hs
  refine List.pairwise_append.2 ⟨h1, List.pairwise_cons.2 ⟨fun y hy => ?_, h2⟩, fun y hy z hz => ?_⟩
  · have hm : y ∈ Sto.wo nm L (nm x) := by rw [← low_high (nm := nm) (Sto.wo nm L (nm x)) (nm x)]; exact List.mem_append_right _ hy
    exact lt_or (high_ge hw hy) (mem_wo.1 hm).2
  · rcases List.mem_cons.1 hz with rfl | hz
    · exact low_lt hy
    · exact h3 y hy z hz
theorem Rise.one {L : List α} (h : Rise nm L) {x y : α} (hx : x ∈ L) (hy : y ∈ L) (e : nm x = nm y) : x = y := by
  induction L with
  | nil => simp at hx
  | cons z r ih =>
    obtain ⟨h1, h2⟩ := List.pairwise_cons.1 h
    rcases List.mem_cons.1 hx with ex | hx' <;> rcases List.mem_cons.1 hy with ey | hy'
    · rw [ex, ey]
    · have := h1 y hy'
      rw [← ex, e] at this
      exact absurd this (List.lt_irrefl _)
    · have := h1 x hx'
      rw [← ey, e] at this
      exact absurd this (List.lt_irrefl _)
    · exact ih h2 hx' hy'
theorem lk_some {L : List α} {a : Bs} {x : α} (h : lk nm L a = some x) : x ∈ L ∧ nm x = a :=
  ⟨List.mem_of_find?_eq_some h, by have := List.find?_some h; simpa using this⟩
theorem lk_none {L : List α} {a : Bs} : lk nm L a = none ↔ ∀ x ∈ L, nm x ≠ a := by simp [lk]
theorem Rise.lk {L : List α} (h : Rise nm L) {a : Bs} {x : α} : lk nm L a = some x ↔ x ∈ L ∧ nm x = a := by
  refine ⟨lk_some, fun ⟨hx, he⟩ => ?_⟩
  cases hl : Sto.lk nm L a with
  | none => exact absurd he (lk_none.1 hl x hx)
  | some y => rw [h.one (lk_some hl).1 hx ((lk_some hl).2.trans he.symm)]
theorem Rise.lk_cong {L M : List α} (h : Rise nm L) (k : Rise nm M) {a c : Bs} (he : ∀ x, (x ∈ L ∧ nm x = a) ↔ (x ∈ M ∧ nm x = c)) : Sto.lk nm L a = Sto.lk nm M c := by
  ext x
  exact h.lk.trans ((he x).trans k.lk.symm)
theorem Rise.lk_wo {L : List α} (h : Rise nm L) (a c : Bs) : Sto.lk nm (Sto.wo nm L a) c = if c = a then none else Sto.lk nm L c := by
  split
  · rename_i e; subst e
    exact lk_none.2 fun x hx => (mem_wo.1 hx).2
  · rename_i e
    refine (h.wo a).lk_cong h fun x => ?_
    rw [mem_wo]
    exact ⟨fun ⟨⟨h1, _⟩, h2⟩ => ⟨h1, h2⟩, fun ⟨h1, h2⟩ => ⟨⟨h1, by rw [h2]; exact e⟩, h2⟩⟩
theorem Rise.lk_pt {L : List α} (h : Rise nm L) (x : α) (c : Bs) : Sto.lk nm (Sto.pt nm L x) c = if c = nm x then some x else Sto.lk nm L c := by
  split
  · rename_i e; subst e
    exact (h.pt x).lk.2 ⟨mem_pt.2 (.inl rfl), rfl⟩
  · rename_i e
    refine (h.pt x).lk_cong h fun y => ?_
    rw [mem_pt]
    constructor
    · rintro ⟨rfl | ⟨h1, _⟩, h2⟩
      · exact absurd h2.symm e
      · exact ⟨h1, h2⟩
    · rintro ⟨h1, h2⟩
      exact ⟨.inr ⟨h1, by rw [h2]; exact e⟩, h2⟩
theorem wo_none {L : List α} {a : Bs} (h : lk nm L a = none) : wo nm L a = L := by
  unfold wo
  rw [List.filter_eq_self]
  intro x hx
  simpa using lk_none.1 h x hx
theorem Rise.wo_perm {L : List α} (h : Rise nm L) {a : Bs} {x : α} (hl : Sto.lk nm L a = some x) : L.Perm (x :: Sto.wo nm L a) := by
  induction L with
  | nil => simp [Sto.lk] at hl
  | cons y r ih =>
    obtain ⟨h1, h2⟩ := List.pairwise_cons.1 h
    by_cases hy : nm y = a
    · have hxy : y = x := h.one (List.mem_cons_self ..) (lk_some hl).1 (hy.trans (lk_some hl).2.symm)
      have hr : Sto.wo nm r a = r := wo_none (lk_none.2 fun z hz e => by
        have := h1 z hz
        rw [hy, e] at this
        exact List.lt_irrefl _ this)
      have : Sto.wo nm (y :: r) a = r := by rw [← hr]; simp [Sto.wo, hy]
      rw [this, hxy]
    · have e1 : Sto.wo nm (y :: r) a = y :: Sto.wo nm r a := by simp [Sto.wo, hy]
      have e2 : Sto.lk nm r a = some x := by
        have : Sto.lk nm (y :: r) a = Sto.lk nm r a := by simp [Sto.lk, hy]
        rw [← this]; exact hl
      rw [e1]
      exact ((ih h2 e2).cons y).trans (List.Perm.swap ..)
theorem Rise.len_wo {L : List α} (h : Rise nm L) (a : Bs) : (Sto.wo nm L a).length = if (Sto.lk nm L a).isSome then L.length - 1 else L.length := by
  cases hl : Sto.lk nm L a with
  | none => simp [wo_none hl]
  | some x => have := (h.wo_perm hl).length_eq; simp at this ⊢; omega
theorem Rise.len_pt {L : List α} (h : Rise nm L) (x : α) : (Sto.pt nm L x).length = if (Sto.lk nm L (nm x)).isSome then L.length else L.length + 1 := by
  have e := (pt_perm (nm := nm) L x).length_eq
  rw [List.length_cons] at e
  cases hl : Sto.lk nm L (nm x) with
  | none => rw [e, wo_none hl]; simp
  | some y => have := (h.wo_perm hl).length_eq; simp at this ⊢; omega
theorem wo_len (L : List α) (a : Bs) : (wo nm L a).length ≤ L.length := List.length_filter_le _ _
theorem pt_len (L : List α) (x : α) : (pt nm L x).length ≤ L.length + 1 := by
  rw [(pt_perm L x).length_eq]; have := wo_len (nm := nm) L (nm x); simp; omega

section
variable {β : Type} {nb : β → Bs} (g : α → β) (hg : ∀ x, nb (g x) = nm x)
include hg
theorem wo_map (L : List α) (a : Bs) : (wo nm L a).map g = wo nb (L.map g) a := by
  unfold wo
  rw [List.filter_map]
  congr 1
  apply List.filter_congr
  intro x _
  simp [hg]
theorem low_map (L : List α) (a : Bs) : (low nm L a).map g = low nb (L.map g) a := by
  unfold low
  rw [List.takeWhile_map]
  congr 2
  funext x
  simp [hg]
theorem high_map (L : List α) (a : Bs) : (high nm L a).map g = high nb (L.map g) a := by
  unfold high
  rw [List.dropWhile_map]
  congr 2
  funext x
  simp [hg]
theorem pt_map (L : List α) (x : α) : (pt nm L x).map g = pt nb (L.map g) (g x) := by
  unfold pt
  rw [List.map_append, List.map_cons, low_map g hg, high_map g hg, wo_map g hg, hg]
theorem lk_map (L : List α) (a : Bs) : (lk nm L a).map g = lk nb (L.map g) a := by
  unfold lk
  rw [List.find?_map]
  congr 2
  funext x
  simp [hg]
theorem rise_map {L : List α} : Rise nm L ↔ Rise nb (L.map g) := by
  unfold Rise
  rw [List.pairwise_map]
  simp [hg]
end
end
end Go.Proofs.YtngangdjbbbbdaaGreatDoor.Sto
end

section
namespace Go.Proofs.YtngangdjbbbbdaaGreatDoor.Sto

structure Fl where
  nm : Bs
  bs : Bs
  sure : Nat
structure St where
  L : List Fl
  most : Int
  bad : Int

def nmc (c : Nat) : Bool := decide (33 ≤ c) && decide (c ≤ 126) && (c != 47)
def sized (s : Bs) : Bool := decide (1 ≤ s.length ∧ s.length ≤ 64)
def allc (s : Bs) : Bool := s.all fun c => nmc c.toNat
def isNm (s : Bs) : Bool := sized s && allc s
theorem allc_snoc (l : Bs) (c : UInt8) : allc (l ++ [c]) = (allc l && nmc c.toNat) := by simp [allc]
theorem isNm_len {s : Bs} (h : isNm s = true) : 1 ≤ s.length ∧ s.length ≤ 64 := by
  rw [isNm, Bool.and_eq_true] at h
  exact of_decide_eq_true h.1

def tot (L : List Fl) : Nat := (L.map fun x => x.bs.length).sum
theorem tot_nil : tot [] = 0 := rfl
theorem tot_cons (x : Fl) (L : List Fl) : tot (x :: L) = x.bs.length + tot L := by simp [tot]
theorem tot_app (L M : List Fl) : tot (L ++ M) = tot L + tot M := by simp [tot]
theorem tot_perm {L M : List Fl} (h : L.Perm M) : tot L = tot M := (h.map _).sum_nat
theorem len_tot {L : List Fl} {x : Fl} (h : x ∈ L) : x.bs.length ≤ tot L := by
  induction L with
  | nil => simp at h
  | cons y r ih =>
    rw [tot_cons]
    rcases List.mem_cons.1 h with rfl | h
    · omega
    · have := ih h; omega

abbrev fwo (L : List Fl) (a : Bs) : List Fl := wo Fl.nm L a
abbrev fpt (L : List Fl) (x : Fl) : List Fl := pt Fl.nm L x
abbrev flk (L : List Fl) (a : Bs) : Option Fl := lk Fl.nm L a
def got (L : List Fl) (a : Bs) : Fl := (flk L a).getD ⟨a, [], 0⟩
theorem got_some {L : List Fl} {a : Bs} {x : Fl} (h : flk L a = some x) : got L a = x := by rw [got, h]; rfl
theorem got_none {L : List Fl} {a : Bs} (h : flk L a = none) : got L a = ⟨a, [], 0⟩ := by rw [got, h]; rfl
theorem got_nm (L : List Fl) (a : Bs) : (got L a).nm = a := by
  cases h : flk L a with
  | none => rw [got_none h]
  | some x => rw [got_some h]; exact (lk_some h).2
theorem tot_wo {L : List Fl} (h : Rise Fl.nm L) (a : Bs) : tot (fwo L a) + (got L a).bs.length = tot L := by
  cases hl : flk L a with
  | none => rw [fwo, wo_none hl, got_none hl]; rfl
  | some x => rw [tot_perm (h.wo_perm hl), tot_cons, got_some hl, Nat.add_comm]
theorem tot_pt {L : List Fl} (h : Rise Fl.nm L) (x : Fl) : tot (fpt L x) + (got L x.nm).bs.length = tot L + x.bs.length := by
  have e1 : tot (fpt L x) = x.bs.length + tot (fwo L x.nm) := by rw [tot_perm (pt_perm L x), tot_cons]
  have := tot_wo h x.nm
  omega

structure Ok (t : St) : Prop where
  rise : Rise Fl.nm t.L
  names : ∀ x ∈ t.L, isNm x.nm = true
  sures : ∀ x ∈ t.L, x.sure ≤ x.bs.length
  room : (tot t.L : Int) ≤ t.most
  most1 : 1 ≤ t.most
  most2 : t.most ≤ 16777216
  bad : -9223372036854775808 ≤ t.bad ∧ t.bad ≤ 9223372036854775807
theorem Ok.got {t : St} (h : Ok t) (a : Bs) : (got t.L a).sure ≤ (Sto.got t.L a).bs.length ∧ (Sto.got t.L a).bs.length ≤ tot t.L := by
  cases hl : flk t.L a with
  | none => rw [got_none hl]; simp
  | some x => rw [got_some hl]; exact ⟨h.sures x (lk_some hl).1, len_tot (lk_some hl).1⟩
theorem Ok.wo {t : St} (h : Ok t) (a : Bs) : Ok ⟨fwo t.L a, t.most, t.bad⟩ := by
  have e := tot_wo h.rise a
  have := h.room
  exact ⟨h.rise.wo a, fun x hx => h.names x (mem_wo.1 hx).1, fun x hx => h.sures x (mem_wo.1 hx).1, by show (tot (fwo t.L a) : Int) ≤ t.most; omega, h.most1, h.most2, h.bad⟩
theorem Ok.pt {t : St} (h : Ok t) (x : Fl) (hn : isNm x.nm = true) (hs : x.sure ≤ x.bs.length) (hr : (tot t.L : Int) + x.bs.length ≤ t.most + (Sto.got t.L x.nm).bs.length) : Ok ⟨fpt t.L x, t.most, t.bad⟩ := by
  have e := tot_pt h.rise x
  refine ⟨h.rise.pt x, fun y hy => ?_, fun y hy => ?_, by show (tot (fpt t.L x) : Int) ≤ t.most; omega, h.most1, h.most2, h.bad⟩
  · rcases mem_pt.1 hy with rfl | hy
    · exact hn
    · exact h.names y hy.1
  · rcases mem_pt.1 hy with rfl | hy
    · exact hs
    · exact h.sures y hy.1
theorem Ok.badly {t : St} (h : Ok t) (b : Int) (hb : -9223372036854775808 ≤ b ∧ b ≤ 9223372036854775807) : Ok ⟨t.L, t.most, b⟩ := ⟨h.rise, h.names, h.sures, h.room, h.most1, h.most2, hb⟩

/-! ### the calls -/
def begC (t : St) (a : Bs) : Int := if isNm a = true then (if 0 < t.bad then 12 else 0) else 1
def begT (t : St) (a : Bs) : St := if isNm a = true ∧ 0 < t.bad then ⟨t.L, t.most, t.bad - 1⟩ else t
def appC (t : St) (a s : Bs) : Int := if begC t a = 0 then (if (tot t.L : Int) + s.length > t.most then 6 else 0) else begC t a
def appT (t : St) (a s : Bs) : St := if begC t a = 0 then (if (tot t.L : Int) + s.length > t.most then t else ⟨fpt t.L ⟨a, (got t.L a).bs ++ s, (got t.L a).sure⟩, t.most, t.bad⟩) else begT t a
def synC (t : St) (a : Bs) : Int := if begC t a = 0 then (if (flk t.L a).isSome then 0 else 7) else begC t a
def synT (t : St) (a : Bs) : St := if begC t a = 0 then (if (flk t.L a).isSome then ⟨fpt t.L ⟨a, (got t.L a).bs, (got t.L a).bs.length⟩, t.most, t.bad⟩ else t) else begT t a
def renC (t : St) (a b : Bs) : Int := if begC t a = 0 then (if isNm b = true then (if (flk t.L a).isSome then 0 else 7) else 1) else begC t a
def renT (t : St) (a b : Bs) : St := if begC t a = 0 then (if isNm b = true ∧ (flk t.L a).isSome then ⟨fpt (fwo t.L a) ⟨b, (got t.L a).bs, (got t.L a).sure⟩, t.most, t.bad⟩ else t) else begT t a
def remC (t : St) (a : Bs) : Int := if begC t a = 0 then (if (flk t.L a).isSome then 0 else 7) else begC t a
def remT (t : St) (a : Bs) : St := if begC t a = 0 then (if (flk t.L a).isSome then ⟨fwo t.L a, t.most, t.bad⟩ else t) else begT t a
def cutN (x : Fl) (k : Int) : Nat := x.sure + (min (max k 0) ((x.bs.length : Int) - x.sure)).toNat
def cutF (x : Fl) (k : Int) : Fl := ⟨x.nm, x.bs.take (cutN x k), cutN x k⟩
theorem cutN_le {x : Fl} (h : x.sure ≤ x.bs.length) (k : Int) : x.sure ≤ cutN x k ∧ cutN x k ≤ x.bs.length := by unfold cutN; omega
def crsL (L : List Fl) (ks : List Int) : List Fl := L.mapIdx fun i x => cutF x (ks.getD i 0)
def crs (t : St) (ks : List Int) : St := ⟨crsL t.L ks, t.most, 0⟩

theorem begC_arg {t : St} {a : Bs} (h : isNm a = false) : begC t a = 1 ∧ begT t a = t := by simp [begC, begT, h]
theorem begC_io {t : St} {a : Bs} (h : isNm a = true) (k : 0 < t.bad) : begC t a = 12 ∧ begT t a = ⟨t.L, t.most, t.bad - 1⟩ := by simp [begC, begT, h, k]
theorem begC_ok {t : St} {a : Bs} (h : isNm a = true) (k : ¬ 0 < t.bad) : begC t a = 0 ∧ begT t a = t := by simp [begC, begT, h, k]
theorem Ok.beg {t : St} (h : Ok t) (a : Bs) : Ok (begT t a) := by
  have := h.bad
  unfold begT
  split
  · exact h.badly _ (by omega)
  · exact h
theorem Ok.app {t : St} (h : Ok t) (a s : Bs) : Ok (appT t a s) := by
  unfold appT
  split
  · rename_i h0
    have hn : isNm a = true := by
      cases hc : isNm a with
      | true => rfl
      | false => rw [(begC_arg hc).1] at h0; cases h0
    split
    · exact h
    · refine h.pt _ hn ?_ ?_
      · have := (h.got a).1; simp only [List.length_append]; omega
      · simp only [List.length_append]; omega
  · exact h.beg a
theorem beg_nm {t : St} {a : Bs} (h0 : begC t a = 0) : isNm a = true := by
  cases hc : isNm a with
  | true => rfl
  | false => rw [(begC_arg hc).1] at h0; cases h0
theorem Ok.syn {t : St} (h : Ok t) (a : Bs) : Ok (synT t a) := by
  unfold synT
  split
  · rename_i h0
    split
    · refine h.pt _ (beg_nm h0) (Nat.le_refl _) ?_
      have := h.room; simp only; omega
    · exact h
  · exact h.beg a
theorem Ok.ren {t : St} (h : Ok t) (a b : Bs) : Ok (renT t a b) := by
  unfold renT
  split
  · rename_i h0
    split
    · rename_i h1
      have h2 := h.wo a
      refine h2.pt _ h1.1 (h.got a).1 ?_
      have e := tot_wo h.rise a
      have := h.room; simp only; omega
    · exact h
  · exact h.beg a
theorem Ok.rem {t : St} (h : Ok t) (a : Bs) : Ok (remT t a) := by
  unfold remT
  split
  · split
    · exact h.wo a
    · exact h
  · exact h.beg a
theorem crs_len (L : List Fl) (ks : List Int) : (crsL L ks).length = L.length := by simp [crsL]
theorem crs_at (L : List Fl) (ks : List Int) (i : Nat) (h : i < L.length) : (crsL L ks)[i]'(by rw [crs_len]; exact h) = cutF L[i] (ks.getD i 0) := by simp [crsL]
theorem crs_mem {L : List Fl} {ks : List Int} {y : Fl} (h : y ∈ crsL L ks) : ∃ x ∈ L, ∃ k, y = cutF x k := by
  obtain ⟨i, hi, rfl⟩ := List.getElem_of_mem h
  have hi' : i < L.length := by rwa [crs_len] at hi
  exact ⟨L[i], List.getElem_mem hi', _, crs_at L ks i hi'⟩
theorem crs_names (L : List Fl) (ks : List Int) : (crsL L ks).map Fl.nm = L.map Fl.nm := by
  apply List.ext_getElem
  · simp [crsL]
  · intro i h1 h2; simp [crsL, cutF]
theorem crs_rise {L : List Fl} (h : Rise Fl.nm L) (ks : List Int) : Rise Fl.nm (crsL L ks) := by
  have e := (rise_map (nm := Fl.nm) (nb := id) Fl.nm (fun _ => rfl) (L := L)).1 h
  rw [← crs_names L ks] at e
  exact (rise_map (nm := Fl.nm) (nb := id) Fl.nm (fun _ => rfl)).2 e
theorem tot_cut {L : List Fl} (h : ∀ x ∈ L, x.sure ≤ x.bs.length) (ks : List Int) : tot (crsL L ks) ≤ tot L := by
  induction L generalizing ks with
  | nil => simp [crsL, tot]
  | cons x r ih =>
    have e : crsL (x :: r) ks = cutF x (ks.getD 0 0) :: crsL r ks.tail := by
      unfold crsL
      rw [List.mapIdx_cons]
      congr 1
      apply List.ext_getElem
      · simp
      · intro i h1 h2
        simp only [List.getElem_mapIdx]
        congr 1
        cases ks <;> simp
    rw [e, tot_cons, tot_cons]
    have h1 := ih (fun y hy => h y (List.mem_cons_of_mem _ hy)) ks.tail
    have h2 := (cutN_le (h x (List.mem_cons_self ..)) (ks.getD 0 0)).2
    have h3 : (cutF x (ks.getD 0 0)).bs.length ≤ x.bs.length := by simp only [cutF, List.length_take]; omega
    omega
theorem Ok.crs {t : St} (h : Ok t) (ks : List Int) : Ok (crs t ks) := by
  refine ⟨crs_rise h.rise ks, fun y hy => ?_, fun y hy => ?_, ?_, h.most1, h.most2, by show -9223372036854775808 ≤ (0 : Int) ∧ (0 : Int) ≤ _; omega⟩
  · obtain ⟨x, hx, k, rfl⟩ := crs_mem hy; exact h.names x hx
  · obtain ⟨x, hx, k, rfl⟩ := crs_mem hy
    have := (cutN_le (h.sures x hx) k).2
    simp only [cutF, List.length_take]; omega
  · have := tot_cut h.sures ks
    have := h.room
    show ((tot (crsL t.L ks) : Nat) : Int) ≤ t.most
    omega
end Go.Proofs.YtngangdjbbbbdaaGreatDoor.Sto
end

section
namespace Go.Proofs.YtngangdjbbbbdaaGreatDoor.Digit

def hexd (n : Nat) : UInt8 := if n < 10 then (48 + n).toUInt8 else (87 + n).toUInt8
def decN (n : Nat) : List UInt8 := if _h : n < 10 then [hexd n] else decN (n / 10) ++ [hexd (n % 10)]
termination_by n
decreasing_by omega
def dec (n : Int) : List UInt8 := if n < 0 then 45 :: decN n.natAbs else decN n.toNat
def hexS (c : Nat) : List UInt8 := [hexd (c / 16), hexd (c % 16)]

theorem decN_lt {n : Nat} (h : n < 10) : decN n = [hexd n] := by rw [decN, dif_pos h]
theorem decN_ge {n : Nat} (h : ¬ n < 10) : decN n = decN (n / 10) ++ [hexd (n % 10)] := by rw [decN, dif_neg h]

theorem hexd_toNat {n : Nat} (h : n < 10) : (hexd n).toNat = 48 + n := by
  unfold hexd; rw [if_pos h]; simp; omega

theorem decN_ne (n : Nat) : decN n ≠ [] := by
  by_cases h : n < 10
  · rw [decN_lt h]; simp
  · rw [decN_ge h]; simp

theorem decN_len (k n : Nat) (h : n < 10 ^ (k + 1)) : (decN n).length ≤ k + 1 := by
  induction k generalizing n with
  | zero => rw [decN_lt (by simpa using h)]; simp
  | succ k ih =>
    by_cases h1 : n < 10
    · rw [decN_lt h1]; simp
    · rw [decN_ge h1]
      have := ih (n / 10) (by rw [Nat.pow_succ] at h; omega)
      simp; omega

theorem decN_pos (n : Nat) : 0 < (decN n).length := List.length_pos_iff.2 (decN_ne n)

theorem dec_len {n : Int} (h1 : -9223372036854775808 ≤ n) (h2 : n ≤ 9223372036854775807) : (dec n).length ≤ 20 := by
  unfold dec
  split
  · have := decN_len 18 n.natAbs (by omega); simp; omega
  · have := decN_len 18 n.toNat (by omega); omega

/-- the number that digits tell, whatever they are -/
def scan (a : Int) : List UInt8 → Int
  | [] => a
  | c :: l => scan (10 * a + (c.toNat : Int) - 48) l

theorem scan_append (a : Int) (l m : List UInt8) : scan a (l ++ m) = scan (scan a l) m := by
  induction l generalizing a with
  | nil => rfl
  | cons c l ih => exact ih _

theorem scan_decN (n : Nat) : scan 0 (decN n) = n := by
  induction n using Nat.strongRecOn with
  | ind n ih =>
    by_cases h : n < 10
    · rw [decN_lt h]; simp only [scan]; have := hexd_toNat h; omega
    · rw [decN_ge h, scan_append, ih (n / 10) (by omega)]
      simp only [scan]; have := hexd_toNat (n := n % 10) (by omega); omega

theorem decN_digit (n : Nat) : ∀ c ∈ decN n, 48 ≤ c.toNat ∧ c.toNat ≤ 57 := by
  induction n using Nat.strongRecOn with
  | ind n ih =>
    by_cases h : n < 10
    · rw [decN_lt h]; intro c hc; simp at hc; subst hc; have := hexd_toNat h; omega
    · rw [decN_ge h]
      intro c hc
      rcases List.mem_append.1 hc with hc | hc
      · exact ih (n / 10) (by omega) c hc
      · simp at hc; subst hc; have := hexd_toNat (n := n % 10) (by omega); omega

theorem decN_inj {m n : Nat} (h : decN m = decN n) : m = n := by
  have := congrArg (scan 0) h; rw [scan_decN, scan_decN] at this; omega

theorem dec_inj {m n : Int} (h : dec m = dec n) : m = n := by
  unfold dec at h
  split at h <;> split at h
  · have := decN_inj (List.cons.inj h).2; omega
  · have := decN_digit n.toNat 45 (h ▸ List.mem_cons_self); simp at this
  · have := decN_digit m.toNat 45 (h ▸ List.mem_cons_self); simp at this
  · have := decN_inj h; omega

theorem dec_lt {n : Int} (h0 : 0 ≤ n) (h : n < 10) : dec n = [hexd n.toNat] := by
  unfold dec; rw [if_neg (by omega), decN_lt (by omega)]
theorem dec_neg_lt {n : Int} (h0 : n < 0) (h : -10 < n) : dec n = [45, hexd (-n).toNat] := by
  unfold dec; rw [if_pos h0, decN_lt (by omega), show n.natAbs = (-n).toNat by omega]
theorem dec_ge {n : Int} (h : 10 ≤ n) : dec n = dec (n / 10) ++ [hexd (n % 10).toNat] := by
  unfold dec; rw [if_neg (by omega), if_neg (by omega), decN_ge (by omega), show (n / 10).toNat = n.toNat / 10 by omega, show (n % 10).toNat = n.toNat % 10 by omega]
theorem dec_le {n : Int} (h : n ≤ -10) : dec n = dec (n.tdiv 10) ++ [hexd (-(n.tmod 10)).toNat] := by
  have e1 : n.tdiv 10 = -(((n.natAbs / 10 : Nat)) : Int) := by
    obtain ⟨m, rfl⟩ : ∃ m : Nat, n = -(m : Int) := ⟨n.natAbs, by omega⟩
    rw [Int.neg_tdiv, Int.natAbs_neg, Int.natAbs_natCast, Int.tdiv_eq_ediv_of_nonneg (by omega)]; rfl
  have e2 : -(n.tmod 10) = ((n.natAbs % 10 : Nat) : Int) := by
    obtain ⟨m, rfl⟩ : ∃ m : Nat, n = -(m : Int) := ⟨n.natAbs, by omega⟩
    rw [Int.neg_tmod, Int.natAbs_neg, Int.natAbs_natCast, Int.neg_neg, Int.tmod_eq_emod_of_nonneg (by omega)]; rfl
  rw [e1, e2]
  have h10 : ¬ n.natAbs < 10 := by omega
  unfold dec
  rw [if_pos (by omega), if_pos (by omega), decN_ge h10, Int.natAbs_neg, Int.natAbs_natCast, Int.toNat_natCast]
  rfl

theorem tdiv_facts {n : Int} (h : n < 0) : n < n.tdiv 10 ∧ n.tdiv 10 ≤ 0 ∧ n.tmod 10 ≤ 0 ∧ -10 < n.tmod 10 := by
  obtain ⟨m, rfl⟩ : ∃ m : Nat, n = -(m : Int) := ⟨n.natAbs, by omega⟩
  rw [Int.neg_tdiv, Int.neg_tmod, Int.tdiv_eq_ediv_of_nonneg (by omega), Int.tmod_eq_emod_of_nonneg (by omega)]
  omega

def padL (d : List UInt8) (width : Nat) : List UInt8 := List.replicate (width - d.length) 48 ++ d
def padI (n width : Int) : List UInt8 := if n < 0 ∨ width < 0 ∨ 20 < width then [] else padL (dec n) width.toNat
def PadAt (d l : List UInt8) (width : Nat) : Prop := ∃ k, l = List.replicate k 48 ++ d ∧ k ≤ width - d.length
theorem pad_start (d : List UInt8) (width : Nat) : PadAt d d width := ⟨0, by simp, by omega⟩
theorem pad_next {d l : List UInt8} {width : Nat} (h : PadAt d l width) (hl : l.length < width) : PadAt d (48 :: l) width := by
  obtain ⟨k, rfl, hk⟩ := h
  exact ⟨k + 1, by simp [List.replicate_succ], by simp at hl; omega⟩
theorem pad_done {d l : List UInt8} {width : Nat} (h : PadAt d l width) (hl : ¬ l.length < width) : l = padL d width := by
  obtain ⟨k, rfl, hk⟩ := h
  simp at hl
  rw [padL, show k = width - d.length by omega]
theorem padI_none {n width : Int} (h : n < 0 ∨ width < 0 ∨ 20 < width) : padI n width = [] := by rw [padI, if_pos h]
theorem padI_some {n width : Int} (h : ¬ (n < 0 ∨ width < 0 ∨ 20 < width)) : padI n width = padL (dec n) width.toNat := by rw [padI, if_neg h]

theorem hexd_inj {m n : Nat} (hm : m < 16) (hn : n < 16) (h : hexd m = hexd n) : m = n := by
  have key : ∀ a : Fin 16, ∀ b : Fin 16, hexd a.val = hexd b.val → a = b := by decide
  exact congrArg Fin.val (key ⟨m, hm⟩ ⟨n, hn⟩ h)
theorem hexS_inj {m n : Nat} (hm : m < 256) (hn : n < 256) (h : hexS m = hexS n) : m = n := by
  unfold hexS at h
  have h1 := hexd_inj (by omega) (by omega) (List.cons.inj h).1
  have h2 := hexd_inj (by omega) (by omega) (List.cons.inj (List.cons.inj h).2).1
  omega
open Classical in
/-- the byte of two digits, and why there is none -/
noncomputable def rhV (s : List UInt8) : Int := if h : ∃ c : Nat, c < 256 ∧ hexS c = s then (h.choose : Int) else 0
open Classical in
noncomputable def rhC (s : List UInt8) : Int := if ∃ c : Nat, c < 256 ∧ hexS c = s then 0 else 3
theorem rh_some {c : Nat} (hc : c < 256) : rhV (hexS c) = c ∧ rhC (hexS c) = 0 := by
  have h : ∃ d : Nat, d < 256 ∧ hexS d = hexS c := ⟨c, hc, rfl⟩
  constructor
  · rw [rhV, dif_pos h]; exact congrArg Int.ofNat (hexS_inj h.choose_spec.1 hc h.choose_spec.2)
  · rw [rhC, if_pos h]
theorem rh_none {s : List UInt8} (h : ¬ ∃ c : Nat, c < 256 ∧ hexS c = s) : rhV s = 0 ∧ rhC s = 3 := by
  constructor
  · rw [rhV, dif_neg h]
  · rw [rhC, if_neg h]

def IsTick (s : List UInt8) (n : Int) : Prop := 0 ≤ n ∧ n ≤ 1099511627776 ∧ dec n = s
open Classical in
/-- the tick of a text, and why there is none -/
noncomputable def rdV (s : List UInt8) : Int := if h : ∃ n, IsTick s n then h.choose else 0
open Classical in
noncomputable def rdC (s : List UInt8) : Int := if ∃ n, IsTick s n then 0 else 3
theorem rd_some {s : List UInt8} {n : Int} (h : IsTick s n) : rdV s = n ∧ rdC s = 0 := by
  have g : ∃ n, IsTick s n := ⟨n, h⟩
  constructor
  · rw [rdV, dif_pos g]; exact dec_inj (g.choose_spec.2.2.trans h.2.2.symm)
  · rw [rdC, if_pos g]
theorem rd_none {s : List UInt8} (h : ¬ ∃ n, IsTick s n) : rdV s = 0 ∧ rdC s = 3 := by
  constructor
  · rw [rdV, dif_neg h]
  · rw [rdC, if_neg h]

theorem scan_bd (l : List UInt8) (a : Int) (M : Nat) (h1 : -M ≤ a) (h2 : a ≤ M) : -((M + 30 : Nat) * 10 ^ l.length : Nat) ≤ scan a l ∧ scan a l ≤ ((M + 30 : Nat) * 10 ^ l.length : Nat) := by
  induction l generalizing a M with
  | nil => simp [scan]; omega
  | cons c l ih =>
    have hc := c.toNat_lt
    have := ih (10 * a + (c.toNat : Int) - 48) (10 * M + 256) (by omega) (by omega)
    have e : (10 * M + 256 + 30) * 10 ^ l.length ≤ (M + 30) * 10 ^ (l.length + 1) := by
      rw [Nat.pow_succ, ← Nat.mul_assoc, Nat.mul_right_comm]; exact Nat.mul_le_mul_right _ (by omega)
    simp only [scan, List.length_cons]
    omega
theorem scan_14 (l : List UInt8) (h : l.length ≤ 14) : -3000000000000000 ≤ scan 0 l ∧ scan 0 l ≤ 3000000000000000 := by
  have := scan_bd l 0 0 (by omega) (by omega)
  have e : 10 ^ l.length ≤ 10 ^ 14 := Nat.pow_le_pow_right (by omega) h
  omega
theorem tick_scan {s : List UInt8} {n : Int} (h : IsTick s n) : scan 0 s = n ∧ s.length ≤ 13 := by
  obtain ⟨h0, h1, rfl⟩ := h
  unfold dec
  rw [if_neg (by omega)]
  exact ⟨by rw [scan_decN]; omega, decN_len 12 _ (by omega)⟩
theorem take_snoc (s : ByteArray) (k : Nat) (h : k < s.size) : s.data.toList.take (k + 1) = s.data.toList.take k ++ [s[k]] := by
  rw [List.take_succ_eq_append_getElem (by simpa using h)]; rfl
theorem scan_snoc (s : ByteArray) (k : Nat) (h : k < s.size) : scan 0 (s.data.toList.take (k + 1)) = 10 * scan 0 (s.data.toList.take k) + (s[k].toNat : Int) - 48 := by
  rw [take_snoc s k h, scan_append]; rfl

/-- what stands for a byte -/
def sgn (n : Nat) : List UInt8 :=
  if n = 92 then [92, 92] else if n = 10 then [92, 110] else if n = 13 then [92, 114] else if n = 9 then [92, 116]
  else if n < 32 ∨ 126 < n then 92 :: 120 :: hexS n else [n.toUInt8]
def shw (l : List UInt8) : List UInt8 := l.flatMap fun c => sgn c.toNat

theorem sgn_other {n : Nat} (h1 : n ≠ 92) (h2 : n ≠ 10) (h3 : n ≠ 13) (h4 : n ≠ 9) : sgn n = if n < 32 ∨ 126 < n then 92 :: 120 :: hexS n else [n.toUInt8] := by
  unfold sgn; rw [if_neg h1, if_neg h2, if_neg h3, if_neg h4]
theorem sgn_len (n : Nat) : 1 ≤ (sgn n).length ∧ (sgn n).length ≤ 4 := by
  unfold sgn; repeat' split
  all_goals simp [hexS]

theorem shw_append (l m : List UInt8) : shw (l ++ m) = shw l ++ shw m := by simp [shw]
theorem shw_cons (c : UInt8) (l : List UInt8) : shw (c :: l) = sgn c.toNat ++ shw l := by simp [shw]
theorem shw_len (l : List UInt8) : (shw l).length ≤ 4 * l.length := by
  induction l with
  | nil => simp [shw]
  | cons c l ih => rw [shw_cons, List.length_append, List.length_cons]; have := sgn_len c.toNat; omega
theorem shw_snoc (s : ByteArray) (k : Nat) (h : k < s.size) : shw (s.data.toList.take (k + 1)) = shw (s.data.toList.take k) ++ sgn s[k].toNat := by
  rw [take_snoc s k h, shw_append]; simp [shw]

/-- with which byte's sign a text begins, if with any -/
noncomputable def mean : List UInt8 → Nat
  | [] => 0
  | a :: t => if a ≠ 92 then a.toNat else match t with
    | [] => 92
    | b :: u => if b = 110 then 10 else if b = 114 then 13 else if b = 116 then 9 else if b = 120 then (rhV (u.take 2)).toNat else 92

theorem rhV_bd (s : List UInt8) : 0 ≤ rhV s ∧ rhV s < 256 := by
  by_cases h : ∃ c : Nat, c < 256 ∧ hexS c = s
  · obtain ⟨c, hc, rfl⟩ := h; rw [(rh_some hc).1]; omega
  · rw [(rh_none h).1]; omega
theorem mean_bd (l : List UInt8) : mean l < 256 := by
  match l with
  | [] => simp [mean]
  | a :: t =>
    simp only [mean]
    split
    · exact a.toNat_lt
    · match t with
      | [] => simp
      | b :: u =>
        have := rhV_bd (u.take 2)
        simp only
        repeat' split
        all_goals omega
theorem mean_sgn (c : Nat) (hc : c < 256) (r : List UInt8) : mean (sgn c ++ r) = c := by
  unfold sgn
  split
  · subst c; simp [mean]
  split
  · subst c; simp [mean]
  split
  · subst c; simp [mean]
  split
  · subst c; simp [mean]
  split
  · have h := (rh_some hc).1
    have e : mean (92 :: 120 :: hexS c ++ r) = (rhV ((hexS c ++ r).take 2)).toNat := by simp [mean]
    have e2 : (hexS c ++ r).take 2 = hexS c := by simp [hexS]
    rw [e, e2, h]; simp
  · have h1 : (c.toUInt8) ≠ 92 := by
      intro h
      have := congrArg UInt8.toNat h
      simp at this; omega
    simp only [List.cons_append, List.nil_append, mean, ne_eq, h1, not_false_eq_true, if_true]
    simp; omega
theorem mean_pre {l : List UInt8} {c : Nat} (hc : c < 256) (h : sgn c <+: l) : mean l = c := by
  obtain ⟨r, rfl⟩ := h; exact mean_sgn c hc r

open Classical in
/-- the bytes of signs -/
noncomputable def uns (l : List UInt8) : Option (List UInt8) :=
  if _h : l = [] then some [] else if sgn (mean l) <+: l then (uns (l.drop (sgn (mean l)).length)).map ((mean l).toUInt8 :: ·) else none
termination_by l.length
decreasing_by
  have := (sgn_len (mean l)).1
  have := List.length_pos_iff.2 _h
  simp; omega
theorem uns_nil : uns [] = some [] := by rw [uns, dif_pos rfl]
theorem uns_none {l : List UInt8} (h0 : l ≠ []) (h : ¬ sgn (mean l) <+: l) : uns l = none := by rw [uns, dif_neg h0, if_neg h]
theorem uns_some {l : List UInt8} (h0 : l ≠ []) (h : sgn (mean l) <+: l) : uns l = (uns (l.drop (sgn (mean l)).length)).map ((mean l).toUInt8 :: ·) := by rw [uns, dif_neg h0, if_pos h]
theorem uns_shw (l : List UInt8) : uns (shw l) = some l := by
  induction l with
  | nil => exact uns_nil
  | cons c l ih =>
    have hc := c.toNat_lt
    have hm := mean_sgn c.toNat hc (shw l)
    rw [← shw_cons] at hm
    rw [uns_some, hm]
    · rw [shw_cons, List.drop_left, ih]; simp
    · rw [shw_cons]; have := (sgn_len c.toNat).1; intro h; simp at h; simp [h] at this
    · rw [hm, shw_cons]; exact List.prefix_append _ _
theorem shw_uns (l : List UInt8) : ∀ r, uns l = some r → shw r = l := by
  induction h : l.length using Nat.strongRecOn generalizing l with
  | ind n ih =>
    subst h
    intro r hr
    by_cases h0 : l = []
    · subst h0; rw [uns_nil] at hr; cases hr; rfl
    · by_cases h1 : sgn (mean l) <+: l
      · rw [uns_some h0 h1] at hr
        obtain ⟨q, hq, rfl⟩ := Option.map_eq_some_iff.1 hr
        have hs := (sgn_len (mean l)).1
        have := ih _ (by have := List.length_pos_iff.2 h0; simp; omega) _ rfl q hq
        rw [shw_cons, this]
        have hb := mean_bd l
        rw [show (mean l).toUInt8.toNat = mean l by simp; omega]
        exact List.prefix_iff_eq_append.1 h1
      · rw [uns_none h0 h1] at hr; cases hr
noncomputable def unV (l : List UInt8) : List UInt8 := (uns l).getD []
noncomputable def unC (l : List UInt8) : Int := if (uns l).isSome then 0 else 3

/-- of l the bytes acc are unshown, and m is left -/
def UnAt (l acc m : List UInt8) : Prop := uns l = (uns m).map (acc ++ ·) ∧ acc.length + m.length ≤ l.length
theorem un_start (l : List UInt8) : UnAt l [] l := ⟨by simp, by simp⟩
theorem un_done {l acc : List UInt8} (h : UnAt l acc []) : unV l = acc ∧ unC l = 0 := by
  have h1 := h.1
  rw [uns_nil] at h1
  simp [unV, unC, h1]
theorem un_next {l acc m : List UInt8} (h : UnAt l acc m) (h0 : m ≠ []) (hp : sgn (mean m) <+: m) : UnAt l (acc ++ [(mean m).toUInt8]) (m.drop (sgn (mean m)).length) := by
  refine ⟨?_, ?_⟩
  · rw [h.1, uns_some h0 hp]; simp [Function.comp_def]
  · have := h.2; have := (sgn_len (mean m)).1; have := List.length_pos_iff.2 h0; simp; omega
theorem un_stop {l acc m : List UInt8} (h : UnAt l acc m) (h0 : m ≠ []) (hp : ¬ sgn (mean m) <+: m) : unV l = [] ∧ unC l = 3 := by
  have h1 := h.1
  rw [uns_none h0 hp] at h1
  simp [unV, unC, h1]

theorem scan_up (l : List UInt8) (h : ∀ c ∈ l, 48 ≤ c.toNat ∧ c.toNat ≤ 57) (a : Int) (ha : 0 ≤ a) : a ≤ scan a l := by
  induction l generalizing a with
  | nil => exact Int.le_refl _
  | cons c l ih =>
    have hc := h c List.mem_cons_self
    have := ih (fun d hd => h d (List.mem_cons_of_mem _ hd)) (10 * a + (c.toNat : Int) - 48) (by omega)
    simp only [scan]; omega
theorem tick_digit {s : List UInt8} {n : Int} (h : IsTick s n) : ∀ c ∈ s, 48 ≤ c.toNat ∧ c.toNat ≤ 57 := by
  obtain ⟨h0, h1, rfl⟩ := h
  unfold dec
  rw [if_neg (by omega)]
  exact decN_digit _
theorem tick_part {s : List UInt8} {n : Int} (h : IsTick s n) (k : Nat) : 0 ≤ scan 0 (s.take k) ∧ scan 0 (s.take k) ≤ 1099511627776 := by
  have hd := tick_digit h
  refine ⟨scan_up _ (fun c hc => hd c (List.mem_of_mem_take hc)) 0 (by omega), ?_⟩
  have h1 := scan_up (s.drop k) (fun c hc => hd c (List.mem_of_mem_drop hc)) (scan 0 (s.take k)) (scan_up _ (fun c hc => hd c (List.mem_of_mem_take hc)) 0 (by omega))
  rw [← scan_append, List.take_append_drop, (tick_scan h).1] at h1
  have := h.2.1
  omega
theorem tick_pos {s : List UInt8} {n : Int} (h : IsTick s n) : 0 < s.length := by
  obtain ⟨h0, h1, rfl⟩ := h
  unfold dec
  rw [if_neg (by omega)]
  exact decN_pos _

def hexTab : List UInt8 := [48, 49, 50, 51, 52, 53, 54, 55, 56, 57, 97, 98, 99, 100, 101, 102]
theorem idx_all : ∀ n : Fin 256, (Lib.indexByte hexTab n.val.toUInt8 = -1 ∧ ∀ d : Fin 16, hexd d.val ≠ n.val.toUInt8) ∨ (0 ≤ Lib.indexByte hexTab n.val.toUInt8 ∧ Lib.indexByte hexTab n.val.toUInt8 < 16 ∧ hexd (Lib.indexByte hexTab n.val.toUInt8).toNat = n.val.toUInt8) := by decide +kernel
theorem idx_spec (c : UInt8) : (Lib.indexByte hexTab c = -1 ∧ ∀ d, d < 16 → hexd d ≠ c) ∨ (0 ≤ Lib.indexByte hexTab c ∧ Lib.indexByte hexTab c < 16 ∧ hexd (Lib.indexByte hexTab c).toNat = c) := by
  have h := idx_all ⟨c.toNat, c.toNat_lt⟩
  have e : c.toNat.toUInt8 = c := by simp
  simp only [e] at h
  rcases h with ⟨h1, h2⟩ | h
  · exact .inl ⟨h1, fun d hd => h2 ⟨d, hd⟩⟩
  · exact .inr h

theorem list_one (s : ByteArray) (h : 0 < s.size) : ∃ t, s.data.toList = s[0] :: t := by
  have hl : 0 < s.data.toList.length := h
  match hs : s.data.toList, hl with
  | a :: t, _ =>
    have e0 : s[0] = s.data.toList[0] := rfl
    exact ⟨t, by simp [e0, hs]⟩
theorem list_two (s : ByteArray) (h : 1 < s.size) : ∃ u, s.data.toList = s[0] :: s[1] :: u := by
  have hl : 1 < s.data.toList.length := h
  match hs : s.data.toList, hl with
  | a :: b :: u, _ =>
    have e0 : s[0] = s.data.toList[0] := rfl
    have e1 : s[1] = s.data.toList[1] := rfl
    exact ⟨u, by simp [e0, e1, hs]⟩
theorem ne_byte {a : UInt8} {n : Nat} (h : ¬ (a.toNat : Int) = n) (hn : n < 256) : a ≠ n.toUInt8 := by
  intro e; subst e; apply h; simp; omega
theorem eq_byte {a : UInt8} {n : Nat} (h : (a.toNat : Int) = n) : a = n.toUInt8 := by
  have : a.toNat = n := by omega
  subst this; simp
theorem mean_plain (s : ByteArray) (h : 0 < s.size) (h0 : ¬ (s[0].toNat : Int) = 92) : mean s.data.toList = s[0].toNat := by
  obtain ⟨t, ht⟩ := list_one s h
  have : s[0] ≠ 92 := ne_byte (n := 92) h0 (by omega)
  rw [ht]; simp only [mean]; rw [if_pos this]
theorem mean_lone (s : ByteArray) (h : s.size = 1) : mean s.data.toList = s[0].toNat := by
  obtain ⟨t, ht⟩ := list_one s (by omega)
  have hl : s.data.toList.length = 1 := h
  rw [ht] at hl
  obtain rfl : t = [] := by simpa using hl
  rw [ht]; simp only [mean]
  split
  · rfl
  · rename_i h; simp at h; rw [h]; rfl
theorem mean_sign (s : ByteArray) (h : 1 < s.size) (h0 : (s[0].toNat : Int) = 92) : mean s.data.toList = if (s[1].toNat : Int) = 110 then 10 else if (s[1].toNat : Int) = 114 then 13 else if (s[1].toNat : Int) = 116 then 9 else if (s[1].toNat : Int) = 120 then (rhV ((s.data.toList.drop 2).take 2)).toNat else 92 := by
  obtain ⟨u, hu⟩ := list_two s h
  have e0 : s[0] = 92 := eq_byte (n := 92) h0
  have key : ∀ (n : Nat) (hn : n < 256), (s[1] = n.toUInt8) = ((s[1].toNat : Int) = n) := fun n hn => propext ⟨fun e => by rw [e]; simp; omega, fun e => eq_byte e⟩
  have k1 := key 110 (by omega); have k2 := key 114 (by omega); have k3 := key 116 (by omega); have k4 := key 120 (by omega)
  rw [hu, e0]
  simp only [mean, ne_eq, not_true_eq_false, if_false]
  have d : List.drop 2 ((92 : UInt8) :: s[1] :: u) = u := rfl
  rw [d]
  simp only [show (110 : UInt8) = (110 : Nat).toUInt8 from rfl, show (114 : UInt8) = (114 : Nat).toUInt8 from rfl, show (116 : UInt8) = (116 : Nat).toUInt8 from rfl, show (120 : UInt8) = (120 : Nat).toUInt8 from rfl, k1, k2, k3, k4]
  rfl
theorem size_list (s : ByteArray) : s.data.toList.length = s.size := rfl

end Go.Proofs.YtngangdjbbbbdaaGreatDoor.Digit
end

section
namespace Go.Proofs.YtngangdjbbbbdaaGreatDoor.Gen
open Go.Proofs.YtngangdjbbbbdaaGreatDoor.Sto Go.Proofs.YtngangdjbbbbdaaGreatDoor.Digit

/-- the name of a generation -/
def nm (b : Bs) (i : Int) : Bs := if i ≤ 0 then b else b ++ 46 :: dec i
theorem nm_zero (b : Bs) {i : Int} (h : i ≤ 0) : nm b i = b := if_pos h
theorem nm_more (b : Bs) {i : Int} (h : ¬ i ≤ 0) : nm b i = b ++ 46 :: dec i := if_neg h
theorem nm_more2 (b : Bs) {i : Int} (h : ¬ i ≤ 0) : nm b i = b ++ [46] ++ dec i := by rw [nm_more b h]; simp
theorem nm_len (b : Bs) {i : Int} (h1 : -9223372036854775808 ≤ i) (h2 : i ≤ 9223372036854775807) : (nm b i).length ≤ b.length + 21 := by
  unfold nm
  split
  · omega
  · have := dec_len h1 h2
    simp; omega
theorem nm_inj (b : Bs) {i k : Int} : nm b i = nm b k ↔ max 0 i = max 0 k := by
  by_cases hi : i ≤ 0 <;> by_cases hk : k ≤ 0
  · rw [nm_zero b hi, nm_zero b hk]; exact ⟨fun _ => by omega, fun _ => rfl⟩
  · rw [nm_zero b hi, nm_more b hk]
    refine ⟨fun h => ?_, fun h => by omega⟩
    have := congrArg List.length h
    simp at this
  · rw [nm_more b hi, nm_zero b hk]
    refine ⟨fun h => ?_, fun h => by omega⟩
    have := congrArg List.length h
    simp at this
  · rw [nm_more b hi, nm_more b hk]
    refine ⟨fun h => ?_, fun h => ?_⟩
    · have h2 := List.append_cancel_left h
      have := dec_inj (List.cons.inj h2).2
      omega
    · rw [show i = k by omega]

/-- how many generations there may be -/
def held (n : Int) : Nat := (min (max n 1) 16).toNat
theorem held_bd (n : Int) : 1 ≤ held n ∧ held n ≤ 16 := by unfold held; omega
/-- the names of so many generations, the oldest first -/
def ser (b : Bs) : Nat → List Bs
  | 0 => []
  | k + 1 => nm b (k : Nat) :: ser b k
theorem ser_len (b : Bs) (k : Nat) : (ser b k).length = k := by
  induction k with
  | zero => rfl
  | succ k ih => rw [ser, List.length_cons, ih]
theorem ser_mem {b a : Bs} {k : Nat} : a ∈ ser b k ↔ ∃ i, i < k ∧ a = nm b (i : Nat) := by
  induction k with
  | zero => simp [ser]
  | succ k ih =>
    rw [ser, List.mem_cons, ih]
    constructor
    · rintro (h | ⟨i, h1, h2⟩)
      · exact ⟨k, by omega, h⟩
      · exact ⟨i, by omega, h2⟩
    · rintro ⟨i, h1, h2⟩
      by_cases h : i = k
      · subst h; exact .inl h2
      · exact .inr ⟨i, by omega, h2⟩
theorem ser_nodup (b : Bs) (k : Nat) : (ser b k).Nodup := by
  induction k with
  | zero => exact List.nodup_nil
  | succ k ih =>
    rw [ser, List.nodup_cons]
    refine ⟨fun h => ?_, ih⟩
    obtain ⟨i, h1, h2⟩ := ser_mem.1 h
    have := (nm_inj b).1 h2
    omega
theorem ser_last (b : Bs) (k : Nat) (h : 1 ≤ k) : (ser b k).getLast? = some b := by
  induction k with
  | zero => omega
  | succ k ih =>
    cases k with
    | zero => rw [ser, ser, nm_zero b (show ((0 : Nat) : Int) ≤ 0 by omega)]; rfl
    | succ k =>
      rw [ser, List.getLast?_cons, ih (by omega)]; rfl
theorem ser_size {b a : Bs} {k : Nat} (hk : k ≤ 16) (h : a ∈ ser b k) : a.length ≤ b.length + 21 := by
  obtain ⟨i, h1, rfl⟩ := ser_mem.1 h
  exact nm_len b (by omega) (by omega)

/-- those of some names that are files -/
def fnd (t : St) (ns : List Bs) : List Fl := ns.filterMap fun a => flk t.L a
def has (t : St) (a : Bs) : Option Bs := (flk t.L a).map Fl.bs
theorem has_is (t : St) (a : Bs) : (has t a).isSome = (flk t.L a).isSome := by unfold has; cases flk t.L a <;> rfl
theorem fnd_bs (t : St) (ns : List Bs) : (fnd t ns).map Fl.bs = ns.filterMap (has t) := by unfold fnd has; rw [List.map_filterMap]
theorem fnd_snoc (t : St) (ns : List Bs) (a : Bs) : fnd t (ns ++ [a]) = fnd t ns ++ (match flk t.L a with | some x => [x] | none => []) := by
  unfold fnd
  rw [List.filterMap_append]
  cases h : flk t.L a <;> simp [h]
theorem fnd_len (t : St) (ns : List Bs) : (fnd t ns).length ≤ ns.length := List.length_filterMap_le _ _
theorem fnd_same {t t' : St} (h : t'.L = t.L) (ns : List Bs) : fnd t' ns = fnd t ns := by unfold fnd; rw [h]

/-! ### a turn -/
def rnT : St → Bs → List Bs → St
  | t, _, [] => t
  | t, p, a :: r => if (flk t.L a).isSome = true then (if renC t a p = 0 then rnT (renT t a p) a r else renT t a p) else rnT t a r
def rnC : St → Bs → List Bs → Int
  | _, _, [] => 0
  | t, p, a :: r => if (flk t.L a).isSome = true then (if renC t a p = 0 then rnC (renT t a p) a r else renC t a p) else rnC t a r
def trT : St → List Bs → St
  | t, [] => t
  | t, a :: r => if (flk t.L a).isSome = true then (if remC t a = 0 then rnT (remT t a) a r else remT t a) else rnT t a r
def trC : St → List Bs → Int
  | _, [] => 0
  | t, a :: r => if (flk t.L a).isSome = true then (if remC t a = 0 then rnC (remT t a) a r else remC t a) else rnC t a r
theorem rn_skip {t : St} {p a : Bs} {r : List Bs} (h : (flk t.L a).isSome = false) : rnT t p (a :: r) = rnT t a r ∧ rnC t p (a :: r) = rnC t a r := by
  constructor
  · rw [rnT, h]; rfl
  · rw [rnC, h]; rfl
theorem rn_go {t : St} {p a : Bs} {r : List Bs} (h : (flk t.L a).isSome = true) (hc : renC t a p = 0) : rnT t p (a :: r) = rnT (renT t a p) a r ∧ rnC t p (a :: r) = rnC (renT t a p) a r := by
  constructor
  · rw [rnT, if_pos h, if_pos hc]
  · rw [rnC, if_pos h, if_pos hc]
theorem rn_end {t : St} {p a : Bs} {r : List Bs} (h : (flk t.L a).isSome = true) (hc : ¬ renC t a p = 0) : rnT t p (a :: r) = renT t a p ∧ rnC t p (a :: r) = renC t a p := by
  constructor
  · rw [rnT, if_pos h, if_neg hc]
  · rw [rnC, if_pos h, if_neg hc]
theorem tr_skip {t : St} {a : Bs} {r : List Bs} (h : (flk t.L a).isSome = false) : trT t (a :: r) = rnT t a r ∧ trC t (a :: r) = rnC t a r := by
  constructor
  · rw [trT, h]; rfl
  · rw [trC, h]; rfl
theorem tr_go {t : St} {a : Bs} {r : List Bs} (h : (flk t.L a).isSome = true) (hc : remC t a = 0) : trT t (a :: r) = rnT (remT t a) a r ∧ trC t (a :: r) = rnC (remT t a) a r := by
  constructor
  · rw [trT, if_pos h, if_pos hc]
  · rw [trC, if_pos h, if_pos hc]
theorem tr_end {t : St} {a : Bs} {r : List Bs} (h : (flk t.L a).isSome = true) (hc : ¬ remC t a = 0) : trT t (a :: r) = remT t a ∧ trC t (a :: r) = remC t a := by
  constructor
  · rw [trT, if_pos h, if_neg hc]
  · rw [trC, if_pos h, if_neg hc]

/-! ### nothing fails -/
theorem fm_none {f : Bs → Option Bs} {a : Bs} {r : List Bs} (h : f a = none) : (a :: r).filterMap f = r.filterMap f := by simp [h]
theorem fm_some {f : Bs → Option Bs} {a x : Bs} {r : List Bs} (h : f a = some x) : (a :: r).filterMap f = x :: r.filterMap f := by simp [h]
theorem fm_cong {f g : Bs → Option Bs} {r : List Bs} (h : ∀ a ∈ r, f a = g a) : r.filterMap f = r.filterMap g := by
  induction r with
  | nil => rfl
  | cons a r ih =>
    have e := h a (by simp)
    have i := ih fun x hx => h x (List.mem_cons_of_mem _ hx)
    cases hg : g a with
    | none => rw [fm_none hg, fm_none (e.trans hg), i]
    | some x => rw [fm_some hg, fm_some (e.trans hg), i]
theorem has_pt {t : St} (h : Ok t) (x : Fl) (c : Bs) (m b : Int) : has ⟨fpt t.L x, m, b⟩ c = if c = x.nm then some x.bs else has t c := by
  unfold has
  show (flk (fpt t.L x) c).map Fl.bs = _
  rw [fpt, flk, h.rise.lk_pt]
  split <;> rfl
theorem has_wo {t : St} (h : Ok t) (a c : Bs) (m b : Int) : has ⟨fwo t.L a, m, b⟩ c = if c = a then none else has t c := by
  unfold has
  show (flk (fwo t.L a) c).map Fl.bs = _
  rw [fwo, flk, h.rise.lk_wo]
  split <;> rfl
structure Going (t t' : St) : Prop where
  ok : Ok t'
  bad : t'.bad = t.bad
/-- a removal that is told nothing -/
theorem rem_goes {t : St} (h : Ok t) (hb : ¬ 0 < t.bad) {a : Bs} (hn : isNm a = true) (hs : (flk t.L a).isSome = true) :
    remC t a = 0 ∧ Ok (remT t a) ∧ (remT t a).bad = t.bad ∧ ∀ c, has (remT t a) c = if c = a then none else has t c := by
  have h0 := (begC_ok (t := t) hn hb).1
  have e : remT t a = ⟨fwo t.L a, t.most, t.bad⟩ := by unfold remT; rw [if_pos h0, if_pos hs]
  refine ⟨by unfold remC; rw [if_pos h0, if_pos hs], h.rem a, by rw [e], fun c => ?_⟩
  rw [e, has_wo h]
/-- a renaming that is told nothing -/
theorem ren_goes {t : St} (h : Ok t) (hb : ¬ 0 < t.bad) {a p : Bs} (hn : isNm a = true) (hp : isNm p = true) (hs : (flk t.L a).isSome = true) :
    renC t a p = 0 ∧ Ok (renT t a p) ∧ (renT t a p).bad = t.bad ∧ ∀ c, has (renT t a p) c = if c = p then has t a else if c = a then none else has t c := by
  have h0 := (begC_ok (t := t) hn hb).1
  have e : renT t a p = ⟨fpt (fwo t.L a) ⟨p, (got t.L a).bs, (got t.L a).sure⟩, t.most, t.bad⟩ := by unfold renT; rw [if_pos h0, if_pos ⟨hp, hs⟩]
  refine ⟨by unfold renC; rw [if_pos h0, if_pos hp, if_pos hs], h.ren a p, by rw [e], fun c => ?_⟩
  rw [e, has_pt (t := ⟨fwo t.L a, t.most, t.bad⟩) (h.wo a), has_wo h]
  show (if c = p then some (got t.L a).bs else _) = _
  cases hl : flk t.L a with
  | none => rw [hl] at hs; cases hs
  | some x => rw [got_some hl]; unfold has; rw [hl]; rfl
theorem rn_goes (r : List Bs) : ∀ (t : St) (p : Bs), Ok t → ¬ 0 < t.bad → (p :: r).Nodup → (∀ a ∈ p :: r, isNm a = true) → has t p = none →
    rnC t p r = 0 ∧ Ok (rnT t p r) ∧ (rnT t p r).bad = t.bad ∧ (p :: r).filterMap (has (rnT t p r)) = r.filterMap (has t) ∧ (∀ z, (p :: r).getLast? = some z → has (rnT t p r) z = none) ∧ ∀ c, c ∉ p :: r → has (rnT t p r) c = has t c := by
  induction r with
  | nil =>
    intro t p hok hb hnd hnm hp
    refine ⟨rfl, hok, rfl, ?_, fun z hz => ?_, fun _ _ => rfl⟩
    · show [p].filterMap (has t) = []
      simp [hp]
    · cases hz; exact hp
  | cons a r ih =>
    intro t p hok hb hnd hnm hp
    obtain ⟨n1, n2⟩ := List.nodup_cons.1 hnd
    have hna := hnm a (by simp)
    have hnp := hnm p (by simp)
    have hnr : ∀ x ∈ a :: r, isNm x = true := fun x hx => hnm x (List.mem_cons_of_mem _ hx)
    have hpa : p ≠ a := fun e => n1 (by rw [e]; simp)
    have hpr : p ∉ r := fun e => n1 (List.mem_cons_of_mem _ e)
    have har : a ∉ r := (List.nodup_cons.1 n2).1
    cases hs : (flk t.L a).isSome with
    | false =>
      obtain ⟨e1, e2⟩ := rn_skip (p := p) (r := r) hs
      have hq : has t a = none := by have := has_is t a; rw [hs] at this; simpa using this
      obtain ⟨i1, i2, i3, i4, i5, i6⟩ := ih t a hok hb n2 hnr hq
      rw [e1, e2]
      refine ⟨i1, i2, i3, ?_, fun z hz => ?_, fun c hc => i6 c fun h => hc (List.mem_cons_of_mem _ h)⟩
      · rw [fm_none ((i6 p n1).trans hp), fm_none hq]; exact i4
      · rw [List.getLast?_cons_cons] at hz; exact i5 z hz
    | true =>
      obtain ⟨g1, g2, g3, g4⟩ := ren_goes hok hb hna hnp hs
      obtain ⟨e1, e2⟩ := rn_go (r := r) hs g1
      have hq : has (renT t a p) a = none := by rw [g4, if_neg (fun e => hpa e.symm), if_pos rfl]
      obtain ⟨i1, i2, i3, i4, i5, i6⟩ := ih (renT t a p) a g2 (by rw [g3]; exact hb) n2 hnr hq
      obtain ⟨x, hx⟩ : ∃ x, has t a = some x := by
        have := has_is t a; rw [hs] at this; exact Option.isSome_iff_exists.1 this
      rw [e1, e2]
      refine ⟨i1, i2, i3.trans g3, ?_, fun z hz => ?_, fun c hc => ?_⟩
      · have er : r.filterMap (has (renT t a p)) = r.filterMap (has t) := by
          apply fm_cong
          intro c hc
          rw [g4, if_neg (fun e => hpr (by rw [← e]; exact hc)), if_neg (fun e => har (by rw [← e]; exact hc))]
        rw [fm_some (((i6 p n1).trans ((g4 p).trans (if_pos rfl))).trans hx), fm_some hx, i4, er]
      · rw [List.getLast?_cons_cons] at hz; exact i5 z hz
      · have hcp : c ≠ p := fun e => hc (by rw [e]; simp)
        have hca : c ≠ a := fun e => hc (by rw [e]; simp)
        rw [i6 c (fun h => hc (List.mem_cons_of_mem _ h)), g4, if_neg hcp, if_neg hca]
/-- a turn of which no call fails -/
theorem tr_goes (a : Bs) (r : List Bs) (t : St) (hok : Ok t) (hb : ¬ 0 < t.bad) (hnd : (a :: r).Nodup) (hnm : ∀ x ∈ a :: r, isNm x = true) :
    trC t (a :: r) = 0 ∧ Ok (trT t (a :: r)) ∧ (a :: r).filterMap (has (trT t (a :: r))) = r.filterMap (has t) ∧ (∀ z, (a :: r).getLast? = some z → has (trT t (a :: r)) z = none) ∧ ∀ c, c ∉ a :: r → has (trT t (a :: r)) c = has t c := by
  have har : a ∉ r := (List.nodup_cons.1 hnd).1
  cases hs : (flk t.L a).isSome with
  | false =>
    obtain ⟨e1, e2⟩ := tr_skip (r := r) hs
    have hq : has t a = none := by have := has_is t a; rw [hs] at this; simpa using this
    obtain ⟨i1, i2, _, i4, i5, i6⟩ := rn_goes r t a hok hb hnd hnm hq
    rw [e1, e2]
    exact ⟨i1, i2, i4, i5, i6⟩
  | true =>
    obtain ⟨g1, g2, g3, g4⟩ := rem_goes hok hb (hnm a (by simp)) hs
    obtain ⟨e1, e2⟩ := tr_go (r := r) hs g1
    obtain ⟨i1, i2, _, i4, i5, i6⟩ := rn_goes r (remT t a) a g2 (by rw [g3]; exact hb) hnd hnm (by rw [g4, if_pos rfl])
    rw [e1, e2]
    refine ⟨i1, i2, ?_, i5, fun c hc => ?_⟩
    · rw [i4]
      apply fm_cong
      intro c hc
      rw [g4, if_neg (fun e => har (by rw [← e]; exact hc))]
    · rw [i6 c hc, g4, if_neg (fun e => hc (by rw [e]; simp))]

/-! ### the first call fails -/
theorem ren_io {t : St} (h1 : t.bad = 1) {a p : Bs} (hn : isNm a = true) : renC t a p = 12 ∧ (renT t a p).L = t.L := by
  obtain ⟨e1, e2⟩ := begC_io (t := t) hn (by omega)
  have h0 : ¬ begC t a = 0 := by rw [e1]; decide
  refine ⟨by unfold renC; rw [if_neg h0, e1], by unfold renT; rw [if_neg h0, e2]⟩
theorem rem_io_ {t : St} (h1 : t.bad = 1) {a : Bs} (hn : isNm a = true) : remC t a = 12 ∧ (remT t a).L = t.L := by
  obtain ⟨e1, e2⟩ := begC_io (t := t) hn (by omega)
  have h0 : ¬ begC t a = 0 := by rw [e1]; decide
  refine ⟨by unfold remC; rw [if_neg h0, e1], by unfold remT; rw [if_neg h0, e2]⟩
theorem rn_fails (r : List Bs) : ∀ (t : St) (p : Bs), t.bad = 1 → (∀ a ∈ r, isNm a = true) →
    (rnT t p r).L = t.L ∧ ((rnC t p r = 12 ∧ fnd t r ≠ []) ∨ (rnC t p r = 0 ∧ fnd t r = [])) := by
  induction r with
  | nil => intro t p _ _; exact ⟨rfl, .inr ⟨rfl, rfl⟩⟩
  | cons a r ih =>
    intro t p h1 hnm
    have hna := hnm a (by simp)
    cases hs : (flk t.L a).isSome with
    | false =>
      obtain ⟨e1, e2⟩ := rn_skip (p := p) (r := r) hs
      have hq : flk t.L a = none := by simpa using hs
      have e3 : fnd t (a :: r) = fnd t r := by unfold fnd; rw [List.filterMap_cons, hq]
      rw [e1, e2, e3]
      exact ih t a h1 fun x hx => hnm x (List.mem_cons_of_mem _ hx)
    | true =>
      obtain ⟨g1, g2⟩ := ren_io (p := p) h1 hna
      obtain ⟨e1, e2⟩ := rn_end (r := r) hs (show ¬ renC t a p = 0 by rw [g1]; decide)
      rw [e1, e2]
      obtain ⟨x, hx⟩ := Option.isSome_iff_exists.1 hs
      exact ⟨g2, .inl ⟨g1, by unfold fnd; rw [List.filterMap_cons, hx]; simp⟩⟩
theorem tr_fails (ns : List Bs) (t : St) (h1 : t.bad = 1) (hnm : ∀ a ∈ ns, isNm a = true) :
    (trT t ns).L = t.L ∧ ((trC t ns = 12 ∧ fnd t ns ≠ []) ∨ (trC t ns = 0 ∧ fnd t ns = [])) := by
  cases ns with
  | nil => exact ⟨rfl, .inr ⟨rfl, rfl⟩⟩
  | cons a r =>
    have hna := hnm a (by simp)
    cases hs : (flk t.L a).isSome with
    | false =>
      obtain ⟨e1, e2⟩ := tr_skip (r := r) hs
      have hq : flk t.L a = none := by simpa using hs
      have e3 : fnd t (a :: r) = fnd t r := by unfold fnd; rw [List.filterMap_cons, hq]
      rw [e1, e2, e3]
      exact rn_fails r t a h1 fun x hx => hnm x (List.mem_cons_of_mem _ hx)
    | true =>
      obtain ⟨g1, g2⟩ := rem_io_ (a := a) h1 hna
      obtain ⟨e1, e2⟩ := tr_end (r := r) hs (show ¬ remC t a = 0 by rw [g1]; decide)
      rw [e1, e2]
      obtain ⟨x, hx⟩ := Option.isSome_iff_exists.1 hs
      exact ⟨g2, .inl ⟨g1, by unfold fnd; rw [List.filterMap_cons, hx]; simp⟩⟩
end Go.Proofs.YtngangdjbbbbdaaGreatDoor.Gen
end

section
namespace Go.Proofs.YtngangdjbbbbdaaGreatDoor.Own
open Go.RowKit

/-- all blocks that were there, but those of S, are as they were -/
structure Out (S : Nat → Prop) (w w' : World) : Prop where
  os : w'.os = w.os
  tape : w'.tape = w.tape
  output : w'.output = w.output
  size : w.heap.size ≤ w'.heap.size
  block : ∀ k, k < w.heap.size → ¬ S k → w'.heap[k]? = w.heap[k]?

theorem Out.refl (S : Nat → Prop) (w : World) : Out S w w := ⟨rfl, rfl, rfl, Nat.le_refl _, fun _ _ _ => rfl⟩
theorem Out.trans {S S' : Nat → Prop} {a b c : World} (h : Out S a b) (k : Out S' b c) (hs : ∀ i, i < a.heap.size → S' i → S i) : Out S a c :=
  ⟨k.os.trans h.os, k.tape.trans h.tape, k.output.trans h.output, Nat.le_trans h.size k.size, fun i hi hn =>
    (k.block i (Nat.lt_of_lt_of_le hi h.size) fun h' => hn (hs i hi h')).trans (h.block i hi hn)⟩
theorem Out.mono {S S' : Nat → Prop} {a b : World} (h : Out S a b) (hs : ∀ i, i < a.heap.size → S i → S' i) : Out S' a b := (Out.refl S' a).trans h hs
theorem Out.drew {S : Nat → Prop} {a w : World} (h : Out S a w) : Out S a w.drew := ⟨h.os, h.tape, h.output, h.size, h.block⟩
theorem Out.drewN {S : Nat → Prop} {a w : World} (h : Out S a w) (n : Nat) : Out S a (w.drewN n) := ⟨h.os, h.tape, h.output, h.size, h.block⟩
theorem Out.ofDrew {S : Nat → Prop} {a w : World} (h : Out S a.drew w) : Out S a w := ⟨h.os, h.tape, h.output, h.size, h.block⟩
theorem Out.ofDrewN {S : Nat → Prop} {a w : World} {n : Nat} (h : Out S (a.drewN n) w) : Out S a w := ⟨h.os, h.tape, h.output, h.size, h.block⟩
theorem Out.alloc {S : Nat → Prop} {a w : World} (h : Out S a w) (o : Obj) : Out S a (w.alloc o) :=
  h.trans (S' := fun _ => False) ⟨rfl, rfl, rfl, by simp, fun k hk _ => Below.heap_alloc _ _ _ hk⟩ (fun _ _ h => h.elim)
theorem Out.setCell {S : Nat → Prop} {a w : World} (h : Out S a w) {p : Addr} (hp : p.block < a.heap.size → S p.block) (u : Value) : Out S a (w.setCell p u) :=
  h.trans (S' := fun k => k = p.block) ⟨rfl, rfl, rfl, by simp [World.setCell], fun k _ hk => Below.heap_setCell _ _ _ _ hk⟩ (fun i hi e => by subst e; exact hp hi)
theorem Out.setRow {S : Nat → Prop} {a w : World} (h : Out S a w) {g : Nat} (hp : g < a.heap.size → S g) (cs : Array Value) : Out S a (w.setRow g cs) :=
  h.trans (S' := fun k => k = g) ⟨rfl, rfl, rfl, by simp [World.setRow], fun k _ hk => setRow_other w g k cs hk⟩ (fun i hi e => by subst e; exact hp hi)
theorem Out.ofBelow {S : Nat → Prop} {B : Nat} {a b : World} (h : Below B a b) (hs : ∀ i, i < a.heap.size → ¬ S i → i < B) : Out S a b :=
  ⟨h.os, h.tape, h.output, h.size, fun k hk hn => h.block k (hs k hk hn)⟩
theorem Out.ofNew {S : Nat → Prop} {a b : World} (h : Below a.heap.size a b) : Out S a b := Out.ofBelow h fun _ h _ => h
theorem Out.below {S : Nat → Prop} {B : Nat} {a b : World} (h : Out S a b) (hB : B ≤ a.heap.size) (hs : ∀ i, S i → B ≤ i) : Below B a b :=
  ⟨h.os, h.tape, h.output, h.size, fun k hk => h.block k (by omega) fun h' => by have := hs k h'; omega⟩
theorem Out.cell {S : Nat → Prop} {a b : World} (h : Out S a b) {p : Addr} (hp : p.block < a.heap.size) (hn : ¬ S p.block) : b.cell? p = a.cell? p := World.cell?_of_block (h.block _ hp hn)
theorem Out.frozen {S : Nat → Prop} {a b : World} (h : Out S a b) {p : Addr} (hp : p.block < a.heap.size) (hn : ¬ S p.block) : b.frozen? p = a.frozen? p := World.frozen?_of_block (h.block _ hp hn)
theorem Out.at_ {S : Nat → Prop} {a b : World} (h : Out S a b) {k : Nat} {o : Obj} (hk : a.heap[k]? = some o) (hn : ¬ S k) : b.heap[k]? = some o :=
  (h.block k (Array.getElem?_eq_some_iff.1 hk).1 hn).trans hk

section
variable {w : World} {b : Nat} {c : Array Value} {t : TypeId} {fr : Nat × Nat}
theorem at_lt {o : Obj} (h : w.heap[b]? = some o) : b < w.heap.size := (Array.getElem?_eq_some_iff.1 h).1
theorem at_cell (h : w.heap[b]? = some (.cells c t fr)) (o : Nat) : w.cell? ⟨b, o, none⟩ = c[o]? := by simp [World.cell?, h]
theorem at_frozen (h : w.heap[b]? = some (.cells c t (0, 0))) (o : Nat) : w.frozen? ⟨b, o, none⟩ = false := by simp [World.frozen?, h]
theorem at_set (h : w.heap[b]? = some (.cells c t fr)) (i : Nat) (v : Value) : (w.setCell ⟨b, i, none⟩ v).heap[b]? = some (.cells (c.setIfInBounds i v) t fr) := by
  have hlt := at_lt h
  have h' : w.heap[b] = .cells c t fr := by simpa [Array.getElem?_eq_getElem hlt] using h
  show (w.heap.modify b _)[b]? = _
  rw [Array.getElem?_eq_getElem (by simpa using hlt), Array.getElem_modify_self, h']
  rfl
theorem at_set_other (w : World) {k : Nat} (hk : k ≠ b) (i : Nat) (v : Value) : (w.setCell ⟨b, i, none⟩ v).heap[k]? = w.heap[k]? := Below.heap_setCell _ _ _ _ hk
theorem at_new (w : World) (o : Obj) : (w.alloc o).heap[w.heap.size]? = some o := heap_alloc_new w o
theorem at_newk (w : World) (o : Obj) {k : Nat} (h : k = w.heap.size) : (w.alloc o).heap[k]? = some o := by subst h; exact heap_alloc_new w o
theorem at_old (w : World) (o : Obj) {k : Nat} {x : Obj} (h : w.heap[k]? = some x) : (w.alloc o).heap[k]? = some x := (Below.heap_alloc w o k (at_lt h)).trans h
end

/-- bytes as cells -/
def bv (l : List UInt8) : List Value := l.map fun c => .int .u8 c.toNat
theorem bv_len (l : List UInt8) : (bv l).length = l.length := by simp [bv]
theorem bv_get (l : List UInt8) (i : Nat) : (bv l)[i]? = l[i]?.map fun c => Value.int .u8 (c.toNat : Int) := by simp [bv]
theorem bv_one (l : List UInt8) : ∀ v ∈ bv l, v.oneCell' = true := by
  intro v hv; simp only [bv, List.mem_map] at hv; obtain ⟨c, -, rfl⟩ := hv; rfl
theorem bv_app (l m : List UInt8) : bv (l ++ m) = bv l ++ bv m := by simp [bv]
theorem bv_take (l : List UInt8) (n : Nat) : (bv l).take n = bv (l.take n) := by simp [bv]
theorem bv_drop (l : List UInt8) (n : Nat) : (bv l).drop n = bv (l.drop n) := by simp [bv]
theorem bv_splice (l m : List UInt8) (n : Nat) : splice (bv l) n (bv m) = bv (splice l n m) := by simp [splice, bv]

section
variable {P : Program}
theorem run_copy_string (w : World) (dT sT ty elem : TypeId) (g o dLen dCap : Nat) (s : ByteArray) (cur : Array Value) (t : TypeId) (k : Nat)
    (hu : P.underlying dT = some (.slice elem)) (hs : (P.info? elem).map (·.size) = some 1)
    (hg : w.heap[g]? = some (.cells cur t (0, 0))) (hk : k = Nat.min s.size dLen) (hfit : o + k ≤ cur.size) :
    (Builtin.copy_ #[dT, sT] ty #[.slice (some ⟨g, o, none⟩) dLen dCap, .string s]).run P w =
      .ok (goInt k) (w.setRow g (cur.toList.take o ++ bv (s.data.toList.take k) ++ cur.toList.drop (o + k)).toArray) := by
  have hl : (bv (s.data.toList.take k)).length = k := by
    rw [bv_len, List.length_take]; show min k s.data.size = k; have : s.data.size = s.size := rfl
    rw [hk]; have := Nat.min_le_left s.size dLen; change Nat.min s.size dLen ≤ _ at this; omega
  have hst := run_storeCells_at P g o t (bv (s.data.toList.take k)) 0 cur w hg (by rw [hl]; simpa using hfit) (bv_one _)
  rw [hl] at hst
  cases hq : P.info? elem with
  | none => simp [hq] at hs
  | some i =>
    simp [Builtin.copy_, run_underlying hu, Builtin.lenOf, Builtin.firstCells, sizeOf, typeInfo, hq]
    rw [← hk, show List.take k (List.map (fun b : UInt8 => Value.int .u8 (b.toNat : Int)) s.data.toList) = bv (s.data.toList.take k) by simp [bv], hst]
    simp

theorem run_copy_string_none (w : World) (dT sT ty elem : TypeId) (d : Option Addr) (dLen dCap : Nat) (s : ByteArray)
    (hu : P.underlying dT = some (.slice elem)) (hs : (P.info? elem).map (·.size) = some 1) (hn : Nat.min s.size dLen = 0) :
    (Builtin.copy_ #[dT, sT] ty #[.slice d dLen dCap, .string s]).run P w = .ok (goInt 0) w := by
  cases hq : P.info? elem with
  | none => simp [hq] at hs
  | some i =>
    have hn' : min s.size dLen = 0 := hn
    cases d <;> simp [Builtin.copy_, run_underlying hu, Builtin.lenOf, Builtin.firstCells, sizeOf, typeInfo, hq, hn', storeCells]

variable {ops : Array Oper} {o : Oper} {a : Act} {w : World} {K : Act → World → Prop} {Q : Exit → Act → World → Prop} {E : Prop}

/-- copy(dst, src) of two slices of bytes, as a step of a region that draws its order -/
theorem step_copy_out (hgd : o.guard = none) (d s : Operand) (dT sT : TypeId)
    (ho : o.op = .call { callee := .builtin .copy, args := #[d, s], argTypes := #[dT, sT] }) (elem : TypeId) (hu : P.underlying dT = some (.slice elem)) (hsz : (P.info? elem).map (·.size) = some 1)
    (dp sp : Option Addr) (dLen dCap sLen sCap : Nat) (hd : a.eval d = .slice dp dLen dCap) (hs : a.eval s = .slice sp sLen sCap)
    (g off : Nat) (cur : List Value) (t : TypeId) (hg : w.heap[g]? = some (.cells cur.toArray t (0, 0))) (cs : List Value) (n : Nat) (hn : cs.length = n) (hm : n = min sLen dLen)
    (hpos : 0 < n → dp = some ⟨g, off, none⟩ ∧ ∃ ad, sp = some ad ∧ ∀ j v, cs[j]? = some v → w.cell? (ad.add j) = some v)
    (hfit : off + n ≤ cur.length) (h1 : ∀ v ∈ cs, v.oneCell' = true)
    (h : ∀ w', Hid (w'.heap[g]? = some (.cells (splice cur off cs).toArray t (0, 0))) → Out (fun k => k = g) w w' → K (a.put o.dst (.int .i64 n)) w') :
    if Region.wanted o (yielded ops a.tmps) = true then Oper.wp P o a w K Q else E := by
  have hw : Region.wanted o (yielded ops a.tmps) = true := by simp [Region.wanted, hgd]
  rw [if_pos hw]
  subst hn
  by_cases h0 : cs.length = 0
  · obtain rfl : cs = [] := List.eq_nil_of_length_eq_zero h0
    have hrun := run_copy_none (P := P) w dT sT o.type elem dp sp dLen dCap sLen sCap hu hsz (show Nat.min sLen dLen = 0 by simpa using hm.symm)
    unfold Oper.wp
    simp [execOp, ho, resolve, invoke, builtin, hd, hs, hrun, Result.andThen]
    exact h w (show _ = _ by simpa [splice] using hg) (Out.refl _ _)
  · obtain ⟨rfl, ad, rfl, hsrc⟩ := hpos (by omega)
    have hrun := run_copy_row (P := P) w dT sT o.type elem g off dLen dCap ad sLen sCap cur.toArray t cs hu hsz hg (show cs.length = Nat.min sLen dLen from hm) hsrc (by simpa using hfit) h1
    unfold Oper.wp
    simp [execOp, ho, resolve, invoke, builtin, hd, hs, hrun, Result.andThen]
    exact h _ (show _ = _ by simpa [splice] using setRow_heap w g _ _ t _ hg) ((Out.refl (fun k => k = g) _).setRow (fun _ => rfl) _)

/-- copy(dst, src), src a text -/
theorem step_copy_text (hgd : o.guard = none) (d s : Operand) (dT sT : TypeId)
    (ho : o.op = .call { callee := .builtin .copy, args := #[d, s], argTypes := #[dT, sT] }) (elem : TypeId) (hu : P.underlying dT = some (.slice elem)) (hsz : (P.info? elem).map (·.size) = some 1)
    (dp : Option Addr) (dLen dCap : Nat) (bs : ByteArray) (hd : a.eval d = .slice dp dLen dCap) (hs : a.eval s = .string bs)
    (g off : Nat) (cur : List Value) (t : TypeId) (hg : w.heap[g]? = some (.cells cur.toArray t (0, 0))) (n : Nat) (hm : n = min bs.size dLen)
    (hpos : 0 < n → dp = some ⟨g, off, none⟩) (hfit : off + n ≤ cur.length)
    (h : ∀ w', Hid (w'.heap[g]? = some (.cells (splice cur off (bv (bs.data.toList.take n))).toArray t (0, 0))) → Out (fun k => k = g) w w' → K (a.put o.dst (.int .i64 n)) w') :
    if Region.wanted o (yielded ops a.tmps) = true then Oper.wp P o a w K Q else E := by
  have hw : Region.wanted o (yielded ops a.tmps) = true := by simp [Region.wanted, hgd]
  rw [if_pos hw]
  have hl : (bv (bs.data.toList.take n)).length = n := by
    rw [bv_len, List.length_take]; show min n bs.data.size = n; have : bs.data.size = bs.size := rfl
    omega
  by_cases h0 : n = 0
  · subst h0
    have hrun := run_copy_string_none (P := P) w dT sT o.type elem dp dLen dCap bs hu hsz hm.symm
    unfold Oper.wp
    simp [execOp, ho, resolve, invoke, builtin, hd, hs, hrun, Result.andThen]
    exact h w (show _ = _ by simpa [splice, bv] using hg) (Out.refl _ _)
  · obtain rfl := hpos (by omega)
    have hrun := run_copy_string (P := P) w dT sT o.type elem g off dLen dCap bs cur.toArray t n hu hsz hg hm (by simpa using hfit)
    unfold Oper.wp
    simp [execOp, ho, resolve, invoke, builtin, hd, hs, hrun, Result.andThen]
    refine h _ (show _ = _ from ?_) ((Out.refl (fun k => k = g) _).setRow (fun _ => rfl) _)
    have := setRow_heap w g cur.toArray (cur.take off ++ bv (bs.data.toList.take n) ++ cur.drop (off + n)).toArray t _ hg
    rw [splice, hl]
    simpa using this
end
end Go.Proofs.YtngangdjbbbbdaaGreatDoor.Own
end

section
namespace Go.Proofs.YtngangdjbbbbdaaGreatDoor.KM
open Go.Maps (Keyed)
open Go.MapKept Go.ChangeMaps Go.Proofs.YtngangdjbbbbdaaGreatDoor.Own

section
variable {α : Type} {P : Program} {k t e : TypeId} {kv : α → Value} {w : World} {b n : Nat} {f : α → Option Value}

structure KMap (P : Program) (k : TypeId) (kv : α → Value) (w : World) (b : Nat) (f : α → Option Value) (n : Nat) : Prop where
  is : ∃ es clock, w.heap[b]? = some (.map es clock) ∧ es.size = n ∧ Stamped es clock ∧ (∀ x ∈ es.toList, ∃ l, keyOf P k x.key = some l) ∧
    (∀ x ∈ es.toList, ∃ a, x.key = kv a ∧ f a = some x.val) ∧ ∀ a v, f a = some v → ∃ x ∈ es.toList, x.key = kv a ∧ x.val = v

theorem KMap.made (w : World) : KMap P k kv (w.alloc (.map #[] 0)) w.heap.size (fun _ => none) 0 :=
  ⟨#[], 0, at_new w _, rfl, stamped_empty 0, by simp, by simp, fun a v h => nomatch h⟩
theorem KMap.kept {w' : World} (h : KMap P k kv w b f n) (hb : w'.heap[b]? = w.heap[b]?) : KMap P k kv w' b f n := by
  obtain ⟨es, clock, h1, r⟩ := h.is
  exact ⟨es, clock, hb.trans h1, r⟩
theorem KMap.lt (h : KMap P k kv w b f n) : b < w.heap.size := by
  obtain ⟨es, clock, h1, r⟩ := h.is
  exact at_lt h1
theorem KMap.cong {f' : α → Option Value} {n' : Nat} (h : KMap P k kv w b f n) (hf : ∀ a, f a = f' a) (hn : n = n') : KMap P k kv w b f' n' := by
  have : f = f' := funext hf
  subst this hn; exact h

theorem apart {es : Array MapEntry} {clock : Nat} (h : Stamped es clock) {i j : Nat} {x y : MapEntry} (hi : es.toList[i]? = some x) (hj : es.toList[j]? = some y) (hk : x.key = y.key) : i = j := by
  have hn := h.2.2
  have li := (List.getElem?_eq_some_iff.1 hi).1
  have lj := (List.getElem?_eq_some_iff.1 hj).1
  have e1 : (es.toList.map (·.key))[i]? = some x.key := by simp only [List.getElem?_map, hi, Option.map_some]
  have e2 : (es.toList.map (·.key))[j]? = some x.key := by simp only [List.getElem?_map, hj, Option.map_some, hk]
  exact (List.getElem?_inj (by simpa using li) hn).1 (e1.trans e2.symm)

/-- what is at the key -/
theorem KMap.found (h : KMap P k kv w b f n) (K : Keyed P k) {a : α} {l : Lit} (hkey : keyOf P k (kv a) = some l) (hinj : ∀ c, kv c = kv a → c = a) :
    ∃ es clock, w.heap[b]? = some (.map es clock) ∧ ((f a = none ∧ (Instr.findKey k (kv a) es.toList).run P w = .ok none w ∧ ∀ x ∈ es.toList, x.key ≠ kv a) ∨
      ∃ j x, f a = some x.val ∧ (Instr.findKey k (kv a) es.toList).run P w = .ok (some (j, x.val)) w ∧ es.toList[j]? = some x ∧ x.key = kv a) := by
  obtain ⟨es, clock, hb, hn, hst, hks, h1, h2⟩ := h.is
  refine ⟨es, clock, hb, ?_⟩
  rcases K.find w hkey es.toList hks with ⟨r1, r2⟩ | ⟨j, x, r1, r2, r3⟩
  · refine .inl ⟨?_, r1, r2⟩
    cases hf : f a with
    | none => rfl
    | some v =>
      obtain ⟨x, hx, hk, _⟩ := h2 a v hf
      exact absurd hk (r2 x hx)
  · refine .inr ⟨j, x, ?_, r1, r2, r3⟩
    obtain ⟨c, hc, hv⟩ := h1 x (List.mem_of_getElem? r2)
    rw [hinj c (hc.symm.trans r3)] at hv
    exact hv

theorem KMap.look (c : Bool) (h : KMap P k kv w b f n) (K : Keyed P k) (ht : P.underlying t = some (.map k e)) {z : Value} (hz : (zeroValue e).run P w = .ok z w)
    {a : α} {l : Lit} (hkey : keyOf P k (kv a) = some l) (hinj : ∀ c, kv c = kv a → c = a) :
    (Instr.lookup t (.map (some b)) (kv a) c).run P w = .ok (if c then .tuple #[(f a).getD z, .bool (f a).isSome] else (f a).getD z) w := by
  obtain ⟨es, clock, hb, ⟨h0, h1, _⟩ | ⟨j, x, h0, h1, _⟩⟩ := h.found K hkey hinj
  · simp [Instr.lookup, run_underlying ht, MapKept.run_getObj_map hb, K.check w _ hkey, h1, hz, h0, Result.andThen]
  · simp [Instr.lookup, run_underlying ht, MapKept.run_getObj_map hb, K.check w _ hkey, h1, h0, Result.andThen]

theorem KMap.len (h : KMap P k kv w b f n) (ht : P.underlying t = some (.map k e)) (ty : TypeId) : (Builtin.len_ #[t] ty #[.map (some b)]).run P w = .ok (.int .i64 n) w := by
  obtain ⟨es, clock, hb, hn, _⟩ := h.is
  simp [Builtin.len_, run_underlying ht, MapKept.run_getObj_map hb, goInt, hn, Result.andThen]

/-- only block b has turned -/
theorem out_block (w : World) (b : Nat) (o : Obj) : Out (fun i => i = b) w (setBlock w b o) :=
  ⟨rfl, rfl, rfl, by simp [setBlock], fun i _ hi => by simp [setBlock, Ne.symm hi]⟩

section
variable [DecidableEq α]
def put (f : α → Option Value) (a : α) (v : Value) : α → Option Value := fun c => if c = a then some v else f c
def del (f : α → Option Value) (a : α) : α → Option Value := fun c => if c = a then none else f c

theorem KMap.store (h : KMap P k kv w b f n) (K : Keyed P k) (ht : P.underlying t = some (.map k e)) {a : α} {l : Lit} (hkey : keyOf P k (kv a) = some l) (hinj : ∀ c, kv c = kv a → c = a) (v : Value) :
    ∃ w', (Instr.mapUpdate t (.map (some b)) (kv a) v).run P w = .ok () w' ∧ KMap P k kv w' b (put f a v) (if (f a).isSome then n else n + 1) ∧ Out (fun i => i = b) w w' := by
  have hfd := h.found K hkey hinj
  obtain ⟨es, clock, hb, hn, hst, hks, h1, h2⟩ := h.is
  obtain ⟨es', clock', hb', hcase⟩ := hfd
  cases hb.symm.trans hb'
  rcases hcase with ⟨h0, r1, r2⟩ | ⟨j, x0, h0, r1, r2, r3⟩
  · refine ⟨setBlock w b (.map (es.push ⟨kv a, v, clock⟩) (clock + 1)), ?_, ⟨_, _, heap_setBlock_same hb _, ?_, stamped_push hst r2, ?_, ?_, ?_⟩, out_block w b _⟩
    · simp [Instr.mapUpdate, run_underlying ht, MapKept.run_getObj_map hb, K.check w false hkey, r1, MapKept.run_setObj_map _ hb, Result.andThen, setBlock]
    · simp [h0, hn]
    · intro x hx
      simp only [Array.toList_push, List.mem_append, List.mem_singleton] at hx
      rcases hx with hx | rfl
      · exact hks x hx
      · exact ⟨l, hkey⟩
    · intro x hx
      simp only [Array.toList_push, List.mem_append, List.mem_singleton] at hx
      rcases hx with hx | rfl
      · obtain ⟨c, hc, hv⟩ := h1 x hx
        have hne : c ≠ a := fun e => r2 x hx (by rw [hc, e])
        exact ⟨c, hc, by simp [put, hne, hv]⟩
      · exact ⟨a, rfl, by simp [put]⟩
    · intro c u hu
      simp only [Array.toList_push, List.mem_append, List.mem_singleton]
      by_cases hc : c = a
      · subst hc
        simp [put] at hu
        exact ⟨_, .inr rfl, rfl, hu⟩
      · simp [put, hc] at hu
        obtain ⟨x, hx, r⟩ := h2 c u hu
        exact ⟨x, .inl hx, r⟩
  · have hj : es[j]? = some x0 := by simpa using r2
    have hjl : j < es.toList.length := (List.getElem?_eq_some_iff.1 r2).1
    have hkeyf : ∀ e', es[j]? = some e' → ({ e' with key := kv a, val := v } : MapEntry).key = e'.key := fun e' he' => by rw [hj] at he'; cases he'; exact r3.symm
    have hlist : (es.modify j (fun e' => { e' with key := kv a, val := v })).toList = es.toList.set j { x0 with key := kv a, val := v } := by rw [Array.toList_modify, modify_eq_set _ _ _ _ r2]
    have who : ∀ x ∈ es.toList.set j { x0 with key := kv a, val := v }, x = { x0 with key := kv a, val := v } ∨ (x ∈ es.toList ∧ x.key ≠ kv a) := by
      intro x hx
      obtain ⟨i, hi, ex⟩ := List.getElem_of_mem hx
      rw [List.getElem_set] at ex
      split at ex
      · exact Or.inl ex.symm
      · rename_i hne
        have hi' : i < es.toList.length := by simpa using hi
        refine Or.inr ⟨ex ▸ List.getElem_mem hi', fun hk => hne ?_⟩
        exact (apart hst (i := i) (j := j) (by rw [List.getElem?_eq_getElem hi', ex]) r2 (hk.trans r3.symm)).symm
    refine ⟨setBlock w b (.map (es.modify j (fun e' => { e' with key := kv a, val := v })) clock), ?_, ⟨_, _, heap_setBlock_same hb _, ?_, stamped_modify hst _ _ (fun _ _ => rfl) (fun e' _ he' => hkeyf e' he'), ?_, ?_, ?_⟩, out_block w b _⟩
    · simp [Instr.mapUpdate, run_underlying ht, MapKept.run_getObj_map hb, K.check w false hkey, r1, hj, r3, K.stays w hkey, MapKept.run_setObj_map _ hb, Result.andThen, setBlock]
    · simp [h0, hn]
    · intro x hx
      rw [hlist] at hx
      rcases who x hx with rfl | ⟨hx', _⟩
      · exact ⟨l, hkey⟩
      · exact hks x hx'
    · intro x hx
      rw [hlist] at hx
      rcases who x hx with rfl | ⟨hx', hne⟩
      · exact ⟨a, rfl, by simp [put]⟩
      · obtain ⟨c, hc, hv⟩ := h1 x hx'
        have hca : c ≠ a := fun e => hne (by rw [hc, e])
        exact ⟨c, hc, by simp [put, hca, hv]⟩
    · intro c u hu
      rw [hlist]
      by_cases hc : c = a
      · subst hc
        simp [put] at hu
        exact ⟨{ x0 with key := kv c, val := v }, List.mem_iff_getElem.2 ⟨j, by simpa using hjl, by simp⟩, rfl, hu⟩
      · simp [put, hc] at hu
        obtain ⟨x, hx, hk, hv⟩ := h2 c u hu
        obtain ⟨i, hi, ex⟩ := List.getElem_of_mem hx
        have hij : j ≠ i := fun e => by
          subst e
          rw [List.getElem?_eq_getElem hi] at r2
          cases r2
          rw [ex, hk] at r3
          exact hc (hinj c r3)
        exact ⟨x, List.mem_iff_getElem.2 ⟨i, by simpa using hi, by rw [List.getElem_set_ne hij]; exact ex⟩, hk, hv⟩

theorem KMap.drop (h : KMap P k kv w b f n) (K : Keyed P k) (ht : P.underlying t = some (.map k e)) {a : α} {l : Lit} (hkey : keyOf P k (kv a) = some l) (hinj : ∀ c, kv c = kv a → c = a) (ty : TypeId) :
    ∃ w', (Builtin.delete_ #[t, k] ty #[.map (some b), kv a]).run P w = .ok (.tuple #[]) w' ∧ KMap P k kv w' b (del f a) (if (f a).isSome then n - 1 else n) ∧ Out (fun i => i = b) w w' := by
  have hfd := h.found K hkey hinj
  obtain ⟨es, clock, hb, hn, hst, hks, h1, h2⟩ := h.is
  obtain ⟨es', clock', hb', hcase⟩ := hfd
  cases hb.symm.trans hb'
  rcases hcase with ⟨h0, r1, r2⟩ | ⟨j, x0, h0, r1, r2, r3⟩
  · refine ⟨setBlock w b (.map es clock), ?_, ⟨_, _, heap_setBlock_same hb _, ?_, hst, hks, ?_, ?_⟩, out_block w b _⟩
    · simp [Builtin.delete_, run_underlying ht, MapKept.run_getObj_map hb, K.check w _ hkey, r1, MapKept.run_setObj_map _ hb, Result.andThen, setBlock]
    · simp [h0, hn]
    · intro x hx
      obtain ⟨c, hc, hv⟩ := h1 x hx
      have hne : c ≠ a := fun e => r2 x hx (by rw [hc, e])
      exact ⟨c, hc, by simp [del, hne, hv]⟩
    · intro c u hu
      by_cases hc : c = a
      · simp [del, hc] at hu
      · simp [del, hc] at hu
        exact h2 c u hu
  · have hjl : j < es.toList.length := (List.getElem?_eq_some_iff.1 r2).1
    have hjs : j < es.size := by simpa using hjl
    have hsub : (es.eraseIdxIfInBounds j).toList = es.toList.eraseIdx j := by
      unfold Array.eraseIdxIfInBounds
      rw [dif_pos hjs]
      simp
    refine ⟨setBlock w b (.map (es.eraseIdxIfInBounds j) clock), ?_, ⟨_, _, heap_setBlock_same hb _, ?_, stamped_erase hst j, ?_, ?_, ?_⟩, out_block w b _⟩
    · simp [Builtin.delete_, run_underlying ht, MapKept.run_getObj_map hb, K.check w _ hkey, r1, MapKept.run_setObj_map _ hb, Result.andThen, setBlock]
    · have hsz := congrArg List.length hsub
      rw [List.length_eraseIdx_of_lt hjl, Array.length_toList, Array.length_toList] at hsz
      simp only [h0, Option.isSome_some, if_true]
      omega
    · intro x hx
      rw [hsub] at hx
      exact hks x ((List.eraseIdx_sublist _ _).subset hx)
    · intro x hx
      rw [hsub] at hx
      obtain ⟨i, hne, hi⟩ := List.mem_eraseIdx_iff_getElem?.1 hx
      obtain ⟨c, hc, hv⟩ := h1 x (List.mem_of_getElem? hi)
      have hca : c ≠ a := fun e => hne (apart hst hi r2 (by rw [hc, e, r3]))
      exact ⟨c, hc, by simp [del, hca, hv]⟩
    · intro c u hu
      by_cases hc : c = a
      · simp [del, hc] at hu
      · simp [del, hc] at hu
        obtain ⟨x, hx, hk, hv⟩ := h2 c u hu
        obtain ⟨i, hi, ex⟩ := List.getElem_of_mem hx
        refine ⟨x, ?_, hk, hv⟩
        rw [hsub]
        refine List.mem_eraseIdx_iff_getElem?.2 ⟨i, fun e => ?_, by rw [List.getElem?_eq_getElem hi, ex]⟩
        subst e
        rw [List.getElem?_eq_getElem hi] at r2
        cases r2
        rw [ex, hk] at r3
        exact hc (hinj c r3)

/-! ### at the operation, for the walk -/
section
variable {ops : Array Oper} {rest : List Oper} {o : Oper} {act : Act} {Q : Exit → Act → World → Prop}

/-- 'm[a] = v' -/
theorem wp_store (hg : o.guard = none) (m x v : Operand) (t : TypeId) (hop : o.op = Op.mapUpdate t m x v) (k e : TypeId) (K : Keyed P k) (ht : P.underlying t = some (.map k e)) (b n : Nat) (f : α → Option Value)
    (hm : act.eval m = .map (some b)) (h : KMap P k kv w b f n) (a : α) (hx : act.eval x = kv a) (val : Value) (hv : act.eval v = val) {l : Lit} (hkey : keyOf P k (kv a) = some l) (hinj : ∀ c, kv c = kv a → c = a)
    (hK : ∀ w', KMap P k kv w' b (put f a val) (if (f a).isSome then n else n + 1) → Out (fun i => i = b) w w' → wpList P ops Q rest (act.put o.dst undef) w') : wpList P ops Q (o :: rest) act w := by
  refine wpList_plain hg fun K' hK' => ?_
  obtain ⟨w', hrun, r1, r2⟩ := h.store K ht hkey hinj val
  unfold Oper.wp
  simp [execOp, hop, hm, hx, hv, hrun, Result.andThen]
  exact hK' _ _ (hK w' r1 r2)

/-- 'delete(m, a)' -/
theorem wp_drop (hg : o.guard = none) (m x : Operand) (t k : TypeId) (hop : o.op = Op.call { callee := Callee.builtin Builtin.delete, args := #[m, x], argTypes := #[t, k] }) (e : TypeId) (K : Keyed P k) (ht : P.underlying t = some (.map k e)) (b n : Nat) (f : α → Option Value)
    (hm : act.eval m = .map (some b)) (h : KMap P k kv w b f n) (a : α) (hx : act.eval x = kv a) {l : Lit} (hkey : keyOf P k (kv a) = some l) (hinj : ∀ c, kv c = kv a → c = a)
    (hK : ∀ w', KMap P k kv w' b (del f a) (if (f a).isSome then n - 1 else n) → Out (fun i => i = b) w w' → wpList P ops Q rest (act.put o.dst (.tuple #[])) w') : wpList P ops Q (o :: rest) act w := by
  refine wpList_plain hg fun K' hK' => ?_
  obtain ⟨w', hrun, r1, r2⟩ := h.drop K ht hkey hinj o.type
  unfold Oper.wp
  simp [execOp, hop, resolve, invoke, builtin, hm, hx, hrun, Result.andThen]
  exact hK' _ _ (hK w' r1 r2)

omit [DecidableEq α] in
/-- 'len(m)' -/
theorem wp_len (hg : o.guard = none) (m : Operand) (t : TypeId) (hop : o.op = Op.call { callee := Callee.builtin Builtin.len, args := #[m], argTypes := #[t] }) (k e : TypeId) (ht : P.underlying t = some (.map k e)) (b n : Nat) (f : α → Option Value)
    (hm : act.eval m = .map (some b)) (h : KMap P k kv w b f n) (hK : wpList P ops Q rest (act.put o.dst (.int .i64 n)) w) : wpList P ops Q (o :: rest) act w := by
  refine wpList_plain hg fun K' hK' => ?_
  unfold Oper.wp
  simp [execOp, hop, resolve, invoke, builtin, hm, h.len ht o.type, Result.andThen]
  exact hK' _ _ hK

omit [DecidableEq α] in
/-- 'v, ok := m[a]', 'm[a]' -/
theorem wp_look (hg : o.guard = none) (m x : Operand) (t : TypeId) (c : Bool) (hop : o.op = Op.lookup t m x c) (k e : TypeId) (K : Keyed P k) (ht : P.underlying t = some (.map k e)) (z : Value) (hz : ∀ w, (zeroValue e).run P w = .ok z w) (b n : Nat) (f : α → Option Value)
    (hm : act.eval m = .map (some b)) (h : KMap P k kv w b f n) (a : α) (hx : act.eval x = kv a) {l : Lit} (hkey : keyOf P k (kv a) = some l) (hinj : ∀ c, kv c = kv a → c = a)
    (hK : wpList P ops Q rest (act.put o.dst (if c then .tuple #[(f a).getD z, .bool (f a).isSome] else (f a).getD z)) w) : wpList P ops Q (o :: rest) act w := by
  refine wpList_plain hg fun K' hK' => ?_
  unfold Oper.wp
  simp [execOp, hop, hm, hx, h.look c K ht (hz w) hkey hinj, Result.andThen]
  exact hK' _ _ hK
end

/-- numbers as keys -/
def ik (a : Int) : Value := .int .i64 a
theorem ik_inj (a : Int) : ∀ c, ik c = ik a → c = a := by intro c h; cases h; rfl
theorem ik_key {k : TypeId} (hk : P.underlying k = some (.int .i64)) {a : Int} (h : -9223372036854775808 ≤ a ∧ a ≤ 9223372036854775807) : keyOf P k (ik a) = some (.int .i64 a) :=
  Maps.keyOf_int_mk hk (by simp [Lit.wf, IntKind.min, IntKind.max, IntKind.signed, IntKind.bits]; omega)
end
end
end Go.Proofs.YtngangdjbbbbdaaGreatDoor.KM
end

section
namespace Go.Proofs.YtngangdjbbbbdaaGreatDoor.Own
open Go.RowKit

theorem own_below {w w' : World} {B e size n : Nat} {v : Value} {xs : List Value} (h : w.ownsRow B e size v n xs) (hb : Below w.heap.size w w') : w'.ownsRow B e size v n xs := by
  refine ⟨h.1, ?_⟩
  rcases h.2 with h0 | ⟨g, cap, cur, hv, hg, hh, r⟩
  · exact .inl h0
  · exact .inr ⟨g, cap, cur, hv, hg, (hb.block g (at_lt hh)).trans hh, r⟩
theorem own_set {w : World} {B e size n : Nat} {v : Value} {xs : List Value} (h : w.ownsRow B e size v n xs) {k : Nat} (hk : k < B) (i : Nat) (x : Value) : (w.setCell ⟨k, i, none⟩ x).ownsRow B e size v n xs := by
  obtain ⟨h1, h2⟩ := h
  refine ⟨h1, ?_⟩
  rcases h2 with h2 | ⟨g, cap, cur, hv, hg, hh, r⟩
  · exact .inl h2
  · exact .inr ⟨g, cap, cur, hv, hg, by rw [at_set_other _ (by omega)]; exact hh, r⟩
theorem add0 (g n : Nat) : (⟨g, 0, none⟩ : Addr).add n = ⟨g, n, none⟩ := by cases n <;> simp [Addr.add]
/-- append onto an array of the call's own, whatever is appended -/
theorem append_any {P : Program} {w : World} {ops : Array Oper} {rest : List Oper} {o : Oper} {a : Act} {Q : Exit → Act → World → Prop} (hgd : o.guard = none) (s x : Operand) (t : TypeId)
    (ho : o.op = .call { callee := .builtin .append, args := #[s, x], argTypes := #[t, t] })
    (base : Nat) (e : TypeId) (i : TypeInfo) (z : Value) (size bytes : Nat) (ht : P.underlying t = some (.slice e)) (hi : P.info? e = some i) (hz : i.zero = some z)
    (hsize : i.size = size) (hby : i.bytes = bytes) (hzs : z.cells.size = size) (hsz : 0 < size)
    (v : Value) (n : Nat) (xs : List Value) (hs : a.eval s = v) (hown : w.ownsRow base e size v n xs)
    (ao : Option Addr) (m c : Nat) (news : List Value) (hx : a.eval x = .slice ao m c) (hnone : ao = none → m = 0 ∧ c = 0) (hl : news.length = m * size)
    (hnews : ∀ ad, ao = some ad → ∀ j u, news[j]? = some u → w.cell? (ad.add j) = some u) (h1 : ∀ u ∈ news, u.oneCell' = true)
    (h63 : n + m ≤ maxLen) (hbytes : (n + m) * bytes ≤ 140737488355328) (hbase : base ≤ w.heap.size)
    (h : ∀ v' w', w'.ownsRow base e size v' (n + m) (xs ++ news) → w.grownBy w' v.ownBlock → wpList P ops Q rest (a.put o.dst v') w') : wpList P ops Q (o :: rest) a w := by
  cases ao with
  | some ad => exact wpList_append_own w hgd s x t ho base e i z size bytes ht hi hz hsize hby hzs hsz v n xs hs hown ad m c news hx hl (hnews ad rfl) h1 h63 hbytes hbase fun v' w' a b _ => h v' w' a b
  | none =>
    obtain ⟨rfl, rfl⟩ := hnone rfl
    obtain rfl : news = [] := List.eq_nil_of_length_eq_zero (by simpa using hl)
    exact wpList_append_own_none hgd s x t ho base e i size ht hi v n xs hs hown hx (h v w (by simpa using hown) (World.grownBy.refl _ _))
theorem three_new (w : World) (x y z : Value) (T : TypeId) (g : Nat) (hg : g = w.heap.size) : ∀ ad, some (⟨g, 0, none⟩ : Addr) = some ad → ∀ j u, [x, y, z][j]? = some u → (w.alloc (.cells #[x, y, z] T (0, 0))).cell? (ad.add j) = some u := by
  subst hg
  rintro ad ⟨⟩ j u hu
  rw [add0, at_cell (at_new w _)]
  simpa using hu
end Go.Proofs.YtngangdjbbbbdaaGreatDoor.Own
end


/-
  Layer 21 (gens), plain: names of generations, those that are there, and what a turn makes of a store.
-/
import Derived.Test.YtememmgnhnldaaaDoorStoModel
import Derived.Test.YtememmgnhnldaaaDoorDigitPlain
namespace Go.Proofs.YtememmgnhnldaaaDoor.Gen
open Go.Proofs.YtememmgnhnldaaaDoor.Sto Go.Proofs.YtememmgnhnldaaaDoor.Digit

/-- the name of a generation -/
def nm (b : Bs) (i : Int) : Bs := if i ≤ 0 then b else b ++ 46 :: dec i
theorem nm_zero (b : Bs) {i : Int} (h : i ≤ 0) : nm b i = b := if_pos h
theorem nm_more (b : Bs) {i : Int} (h : ¬ i ≤ 0) : nm b i = b ++ 46 :: dec i := if_neg h
theorem nm_more2 (b : Bs) {i : Int} (h : ¬ i ≤ 0) : nm b i = b ++ [46] ++ dec i := by rw [nm_more b h]; simp
theorem nm_len (b : Bs) {i : Int} (h1 : -9223372036854775808 ≤ i) (h2 : i ≤ 9223372036854775807) : (nm b i).length ≤ b.length + 21 := by
  unfold nm
  split
  · omega
  · have := dec_len h1 h2
    simp; omega
theorem nm_inj (b : Bs) {i k : Int} : nm b i = nm b k ↔ max 0 i = max 0 k := by
  by_cases hi : i ≤ 0 <;> by_cases hk : k ≤ 0
  · rw [nm_zero b hi, nm_zero b hk]; exact ⟨fun _ => by omega, fun _ => rfl⟩
  · rw [nm_zero b hi, nm_more b hk]
    refine ⟨fun h => ?_, fun h => by omega⟩
    have := congrArg List.length h
    simp at this
  · rw [nm_more b hi, nm_zero b hk]
    refine ⟨fun h => ?_, fun h => by omega⟩
    have := congrArg List.length h
    simp at this
  · rw [nm_more b hi, nm_more b hk]
    refine ⟨fun h => ?_, fun h => ?_⟩
    · have h2 := List.append_cancel_left h
      have := dec_inj (List.cons.inj h2).2
      omega
    · rw [show i = k by omega]

/-- how many generations there may be -/
def held (n : Int) : Nat := (min (max n 1) 16).toNat
theorem held_bd (n : Int) : 1 ≤ held n ∧ held n ≤ 16 := by unfold held; omega
/-- the names of so many generations, the oldest first -/
def ser (b : Bs) : Nat → List Bs
  | 0 => []
  | k + 1 => nm b (k : Nat) :: ser b k
theorem ser_len (b : Bs) (k : Nat) : (ser b k).length = k := by
  induction k with
  | zero => rfl
  | succ k ih => rw [ser, List.length_cons, ih]
theorem ser_mem {b a : Bs} {k : Nat} : a ∈ ser b k ↔ ∃ i, i < k ∧ a = nm b (i : Nat) := by
  induction k with
  | zero => simp [ser]
  | succ k ih =>
    rw [ser, List.mem_cons, ih]
    constructor
    · rintro (h | ⟨i, h1, h2⟩)
      · exact ⟨k, by omega, h⟩
      · exact ⟨i, by omega, h2⟩
    · rintro ⟨i, h1, h2⟩
      by_cases h : i = k
      · subst h; exact .inl h2
      · exact .inr ⟨i, by omega, h2⟩
theorem ser_nodup (b : Bs) (k : Nat) : (ser b k).Nodup := by
  induction k with
  | zero => exact List.nodup_nil
  | succ k ih =>
    rw [ser, List.nodup_cons]
    refine ⟨fun h => ?_, ih⟩
    obtain ⟨i, h1, h2⟩ := ser_mem.1 h
    have := (nm_inj b).1 h2
    omega
theorem ser_last (b : Bs) (k : Nat) (h : 1 ≤ k) : (ser b k).getLast? = some b := by
  induction k with
  | zero => omega
  | succ k ih =>
    cases k with
    | zero => rw [ser, ser, nm_zero b (show ((0 : Nat) : Int) ≤ 0 by omega)]; rfl
    | succ k =>
      rw [ser, List.getLast?_cons, ih (by omega)]; rfl
theorem ser_size {b a : Bs} {k : Nat} (hk : k ≤ 16) (h : a ∈ ser b k) : a.length ≤ b.length + 21 := by
  obtain ⟨i, h1, rfl⟩ := ser_mem.1 h
  exact nm_len b (by omega) (by omega)

/-- those of some names that are files -/
def fnd (t : St) (ns : List Bs) : List Fl := ns.filterMap fun a => flk t.L a
def has (t : St) (a : Bs) : Option Bs := (flk t.L a).map Fl.bs
theorem has_is (t : St) (a : Bs) : (has t a).isSome = (flk t.L a).isSome := by unfold has; cases flk t.L a <;> rfl
theorem fnd_bs (t : St) (ns : List Bs) : (fnd t ns).map Fl.bs = ns.filterMap (has t) := by unfold fnd has; rw [List.map_filterMap]
theorem fnd_snoc (t : St) (ns : List Bs) (a : Bs) : fnd t (ns ++ [a]) = fnd t ns ++ (match flk t.L a with | some x => [x] | none => []) := by
  unfold fnd
  rw [List.filterMap_append]
  cases h : flk t.L a <;> simp [h]
theorem fnd_len (t : St) (ns : List Bs) : (fnd t ns).length ≤ ns.length := List.length_filterMap_le _ _
theorem fnd_same {t t' : St} (h : t'.L = t.L) (ns : List Bs) : fnd t' ns = fnd t ns := by unfold fnd; rw [h]

/-! ### a turn -/
def rnT : St → Bs → List Bs → St
  | t, _, [] => t
  | t, p, a :: r => if (flk t.L a).isSome = true then (if renC t a p = 0 then rnT (renT t a p) a r else renT t a p) else rnT t a r
def rnC : St → Bs → List Bs → Int
  | _, _, [] => 0
  | t, p, a :: r => if (flk t.L a).isSome = true then (if renC t a p = 0 then rnC (renT t a p) a r else renC t a p) else rnC t a r
def trT : St → List Bs → St
  | t, [] => t
  | t, a :: r => if (flk t.L a).isSome = true then (if remC t a = 0 then rnT (remT t a) a r else remT t a) else rnT t a r
def trC : St → List Bs → Int
  | _, [] => 0
  | t, a :: r => if (flk t.L a).isSome = true then (if remC t a = 0 then rnC (remT t a) a r else remC t a) else rnC t a r
theorem rn_skip {t : St} {p a : Bs} {r : List Bs} (h : (flk t.L a).isSome = false) : rnT t p (a :: r) = rnT t a r ∧ rnC t p (a :: r) = rnC t a r := by
  constructor
  · rw [rnT, h]; rfl
  · rw [rnC, h]; rfl
theorem rn_go {t : St} {p a : Bs} {r : List Bs} (h : (flk t.L a).isSome = true) (hc : renC t a p = 0) : rnT t p (a :: r) = rnT (renT t a p) a r ∧ rnC t p (a :: r) = rnC (renT t a p) a r := by
  constructor
  · rw [rnT, if_pos h, if_pos hc]
  · rw [rnC, if_pos h, if_pos hc]
theorem rn_end {t : St} {p a : Bs} {r : List Bs} (h : (flk t.L a).isSome = true) (hc : ¬ renC t a p = 0) : rnT t p (a :: r) = renT t a p ∧ rnC t p (a :: r) = renC t a p := by
  constructor
  · rw [rnT, if_pos h, if_neg hc]
  · rw [rnC, if_pos h, if_neg hc]
theorem tr_skip {t : St} {a : Bs} {r : List Bs} (h : (flk t.L a).isSome = false) : trT t (a :: r) = rnT t a r ∧ trC t (a :: r) = rnC t a r := by
  constructor
  · rw [trT, h]; rfl
  · rw [trC, h]; rfl
theorem tr_go {t : St} {a : Bs} {r : List Bs} (h : (flk t.L a).isSome = true) (hc : remC t a = 0) : trT t (a :: r) = rnT (remT t a) a r ∧ trC t (a :: r) = rnC (remT t a) a r := by
  constructor
  · rw [trT, if_pos h, if_pos hc]
  · rw [trC, if_pos h, if_pos hc]
theorem tr_end {t : St} {a : Bs} {r : List Bs} (h : (flk t.L a).isSome = true) (hc : ¬ remC t a = 0) : trT t (a :: r) = remT t a ∧ trC t (a :: r) = remC t a := by
  constructor
  · rw [trT, if_pos h, if_neg hc]
  · rw [trC, if_pos h, if_neg hc]

/-! ### nothing fails -/
theorem fm_none {f : Bs → Option Bs} {a : Bs} {r : List Bs} (h : f a = none) : (a :: r).filterMap f = r.filterMap f := by simp [h]
theorem fm_some {f : Bs → Option Bs} {a x : Bs} {r : List Bs} (h : f a = some x) : (a :: r).filterMap f = x :: r.filterMap f := by simp [h]
theorem fm_cong {f g : Bs → Option Bs} {r : List Bs} (h : ∀ a ∈ r, f a = g a) : r.filterMap f = r.filterMap g := by
  induction r with
  | nil => rfl
  | cons a r ih =>
    have e := h a (by simp)
    have i := ih fun x hx => h x (List.mem_cons_of_mem _ hx)
    cases hg : g a with
    | none => rw [fm_none hg, fm_none (e.trans hg), i]
    | some x => rw [fm_some hg, fm_some (e.trans hg), i]
theorem has_pt {t : St} (h : Ok t) (x : Fl) (c : Bs) (m b : Int) : has ⟨fpt t.L x, m, b⟩ c = if c = x.nm then some x.bs else has t c := by
  unfold has
  show (flk (fpt t.L x) c).map Fl.bs = _
  rw [fpt, flk, h.rise.lk_pt]
  split <;> rfl
theorem has_wo {t : St} (h : Ok t) (a c : Bs) (m b : Int) : has ⟨fwo t.L a, m, b⟩ c = if c = a then none else has t c := by
  unfold has
  show (flk (fwo t.L a) c).map Fl.bs = _
  rw [fwo, flk, h.rise.lk_wo]
  split <;> rfl
structure Going (t t' : St) : Prop where
  ok : Ok t'
  bad : t'.bad = t.bad
/-- a removal that is told nothing -/
theorem rem_goes {t : St} (h : Ok t) (hb : ¬ 0 < t.bad) {a : Bs} (hn : isNm a = true) (hs : (flk t.L a).isSome = true) :
    remC t a = 0 ∧ Ok (remT t a) ∧ (remT t a).bad = t.bad ∧ ∀ c, has (remT t a) c = if c = a then none else has t c := by
  have h0 := (begC_ok (t := t) hn hb).1
  have e : remT t a = ⟨fwo t.L a, t.most, t.bad⟩ := by unfold remT; rw [if_pos h0, if_pos hs]
  refine ⟨by unfold remC; rw [if_pos h0, if_pos hs], h.rem a, by rw [e], fun c => ?_⟩
  rw [e, has_wo h]
/-- a renaming that is told nothing -/
theorem ren_goes {t : St} (h : Ok t) (hb : ¬ 0 < t.bad) {a p : Bs} (hn : isNm a = true) (hp : isNm p = true) (hs : (flk t.L a).isSome = true) :
    renC t a p = 0 ∧ Ok (renT t a p) ∧ (renT t a p).bad = t.bad ∧ ∀ c, has (renT t a p) c = if c = p then has t a else if c = a then none else has t c := by
  have h0 := (begC_ok (t := t) hn hb).1
  have e : renT t a p = ⟨fpt (fwo t.L a) ⟨p, (got t.L a).bs, (got t.L a).sure⟩, t.most, t.bad⟩ := by unfold renT; rw [if_pos h0, if_pos ⟨hp, hs⟩]
  refine ⟨by unfold renC; rw [if_pos h0, if_pos hp, if_pos hs], h.ren a p, by rw [e], fun c => ?_⟩
  rw [e, has_pt (t := ⟨fwo t.L a, t.most, t.bad⟩) (h.wo a), has_wo h]
  show (if c = p then some (got t.L a).bs else _) = _
  cases hl : flk t.L a with
  | none => rw [hl] at hs; cases hs
  | some x => rw [got_some hl]; unfold has; rw [hl]; rfl
theorem rn_goes (r : List Bs) : ∀ (t : St) (p : Bs), Ok t → ¬ 0 < t.bad → (p :: r).Nodup → (∀ a ∈ p :: r, isNm a = true) → has t p = none →
    rnC t p r = 0 ∧ Ok (rnT t p r) ∧ (rnT t p r).bad = t.bad ∧ (p :: r).filterMap (has (rnT t p r)) = r.filterMap (has t) ∧ (∀ z, (p :: r).getLast? = some z → has (rnT t p r) z = none) ∧ ∀ c, c ∉ p :: r → has (rnT t p r) c = has t c := by
  induction r with
  | nil =>
    intro t p hok hb hnd hnm hp
    refine ⟨rfl, hok, rfl, ?_, fun z hz => ?_, fun _ _ => rfl⟩
    · show [p].filterMap (has t) = []
      simp [hp]
    · cases hz; exact hp
  | cons a r ih =>
    intro t p hok hb hnd hnm hp
    obtain ⟨n1, n2⟩ := List.nodup_cons.1 hnd
    have hna := hnm a (by simp)
    have hnp := hnm p (by simp)
    have hnr : ∀ x ∈ a :: r, isNm x = true := fun x hx => hnm x (List.mem_cons_of_mem _ hx)
    have hpa : p ≠ a := fun e => n1 (by rw [e]; simp)
    have hpr : p ∉ r := fun e => n1 (List.mem_cons_of_mem _ e)
    have har : a ∉ r := (List.nodup_cons.1 n2).1
    cases hs : (flk t.L a).isSome with
    | false =>
      obtain ⟨e1, e2⟩ := rn_skip (p := p) (r := r) hs
      have hq : has t a = none := by have := has_is t a; rw [hs] at this; simpa using this
      obtain ⟨i1, i2, i3, i4, i5, i6⟩ := ih t a hok hb n2 hnr hq
      rw [e1, e2]
      refine ⟨i1, i2, i3, ?_, fun z hz => ?_, fun c hc => i6 c fun h => hc (List.mem_cons_of_mem _ h)⟩
      · rw [fm_none ((i6 p n1).trans hp), fm_none hq]; exact i4
      · rw [List.getLast?_cons_cons] at hz; exact i5 z hz
    | true =>
      obtain ⟨g1, g2, g3, g4⟩ := ren_goes hok hb hna hnp hs
      obtain ⟨e1, e2⟩ := rn_go (r := r) hs g1
      have hq : has (renT t a p) a = none := by rw [g4, if_neg (fun e => hpa e.symm), if_pos rfl]
      obtain ⟨i1, i2, i3, i4, i5, i6⟩ := ih (renT t a p) a g2 (by rw [g3]; exact hb) n2 hnr hq
      obtain ⟨x, hx⟩ : ∃ x, has t a = some x := by
        have := has_is t a; rw [hs] at this; exact Option.isSome_iff_exists.1 this
      rw [e1, e2]
      refine ⟨i1, i2, i3.trans g3, ?_, fun z hz => ?_, fun c hc => ?_⟩
      · have er : r.filterMap (has (renT t a p)) = r.filterMap (has t) := by
          apply fm_cong
          intro c hc
          rw [g4, if_neg (fun e => hpr (by rw [← e]; exact hc)), if_neg (fun e => har (by rw [← e]; exact hc))]
        rw [fm_some (((i6 p n1).trans ((g4 p).trans (if_pos rfl))).trans hx), fm_some hx, i4, er]
      · rw [List.getLast?_cons_cons] at hz; exact i5 z hz
      · have hcp : c ≠ p := fun e => hc (by rw [e]; simp)
        have hca : c ≠ a := fun e => hc (by rw [e]; simp)
        rw [i6 c (fun h => hc (List.mem_cons_of_mem _ h)), g4, if_neg hcp, if_neg hca]
/-- a turn of which no call fails -/
theorem tr_goes (a : Bs) (r : List Bs) (t : St) (hok : Ok t) (hb : ¬ 0 < t.bad) (hnd : (a :: r).Nodup) (hnm : ∀ x ∈ a :: r, isNm x = true) :
    trC t (a :: r) = 0 ∧ Ok (trT t (a :: r)) ∧ (a :: r).filterMap (has (trT t (a :: r))) = r.filterMap (has t) ∧ (∀ z, (a :: r).getLast? = some z → has (trT t (a :: r)) z = none) ∧ ∀ c, c ∉ a :: r → has (trT t (a :: r)) c = has t c := by
  have har : a ∉ r := (List.nodup_cons.1 hnd).1
  cases hs : (flk t.L a).isSome with
  | false =>
    obtain ⟨e1, e2⟩ := tr_skip (r := r) hs
    have hq : has t a = none := by have := has_is t a; rw [hs] at this; simpa using this
    obtain ⟨i1, i2, _, i4, i5, i6⟩ := rn_goes r t a hok hb hnd hnm hq
    rw [e1, e2]
    exact ⟨i1, i2, i4, i5, i6⟩
  | true =>
    obtain ⟨g1, g2, g3, g4⟩ := rem_goes hok hb (hnm a (by simp)) hs
    obtain ⟨e1, e2⟩ := tr_go (r := r) hs g1
    obtain ⟨i1, i2, _, i4, i5, i6⟩ := rn_goes r (remT t a) a g2 (by rw [g3]; exact hb) hnd hnm (by rw [g4, if_pos rfl])
    rw [e1, e2]
    refine ⟨i1, i2, ?_, i5, fun c hc => ?_⟩
    · rw [i4]
      apply fm_cong
      intro c hc
      rw [g4, if_neg (fun e => har (by rw [← e]; exact hc))]
    · rw [i6 c hc, g4, if_neg (fun e => hc (by rw [e]; simp))]

/-! ### the first call fails -/
theorem ren_io {t : St} (h1 : t.bad = 1) {a p : Bs} (hn : isNm a = true) : renC t a p = 12 ∧ (renT t a p).L = t.L := by
  obtain ⟨e1, e2⟩ := begC_io (t := t) hn (by omega)
  have h0 : ¬ begC t a = 0 := by rw [e1]; decide
  refine ⟨by unfold renC; rw [if_neg h0, e1], by unfold renT; rw [if_neg h0, e2]⟩
theorem rem_io_ {t : St} (h1 : t.bad = 1) {a : Bs} (hn : isNm a = true) : remC t a = 12 ∧ (remT t a).L = t.L := by
  obtain ⟨e1, e2⟩ := begC_io (t := t) hn (by omega)
  have h0 : ¬ begC t a = 0 := by rw [e1]; decide
  refine ⟨by unfold remC; rw [if_neg h0, e1], by unfold remT; rw [if_neg h0, e2]⟩
theorem rn_fails (r : List Bs) : ∀ (t : St) (p : Bs), t.bad = 1 → (∀ a ∈ r, isNm a = true) →
    (rnT t p r).L = t.L ∧ ((rnC t p r = 12 ∧ fnd t r ≠ []) ∨ (rnC t p r = 0 ∧ fnd t r = [])) := by
  induction r with
  | nil => intro t p _ _; exact ⟨rfl, .inr ⟨rfl, rfl⟩⟩
  | cons a r ih =>
    intro t p h1 hnm
    have hna := hnm a (by simp)
    cases hs : (flk t.L a).isSome with
    | false =>
      obtain ⟨e1, e2⟩ := rn_skip (p := p) (r := r) hs
      have hq : flk t.L a = none := by simpa using hs
      have e3 : fnd t (a :: r) = fnd t r := by unfold fnd; rw [List.filterMap_cons, hq]
      rw [e1, e2, e3]
      exact ih t a h1 fun x hx => hnm x (List.mem_cons_of_mem _ hx)
    | true =>
      obtain ⟨g1, g2⟩ := ren_io (p := p) h1 hna
      obtain ⟨e1, e2⟩ := rn_end (r := r) hs (show ¬ renC t a p = 0 by rw [g1]; decide)
      rw [e1, e2]
      obtain ⟨x, hx⟩ := Option.isSome_iff_exists.1 hs
      exact ⟨g2, .inl ⟨g1, by unfold fnd; rw [List.filterMap_cons, hx]; simp⟩⟩
theorem tr_fails (ns : List Bs) (t : St) (h1 : t.bad = 1) (hnm : ∀ a ∈ ns, isNm a = true) :
    (trT t ns).L = t.L ∧ ((trC t ns = 12 ∧ fnd t ns ≠ []) ∨ (trC t ns = 0 ∧ fnd t ns = [])) := by
  cases ns with
  | nil => exact ⟨rfl, .inr ⟨rfl, rfl⟩⟩
  | cons a r =>
    have hna := hnm a (by simp)
    cases hs : (flk t.L a).isSome with
    | false =>
      obtain ⟨e1, e2⟩ := tr_skip (r := r) hs
      have hq : flk t.L a = none := by simpa using hs
      have e3 : fnd t (a :: r) = fnd t r := by unfold fnd; rw [List.filterMap_cons, hq]
      rw [e1, e2, e3]
      exact rn_fails r t a h1 fun x hx => hnm x (List.mem_cons_of_mem _ hx)
    | true =>
      obtain ⟨g1, g2⟩ := rem_io_ (a := a) h1 hna
      obtain ⟨e1, e2⟩ := tr_end (r := r) hs (show ¬ remC t a = 0 by rw [g1]; decide)
      rw [e1, e2]
      obtain ⟨x, hx⟩ := Option.isSome_iff_exists.1 hs
      exact ⟨g2, .inl ⟨g1, by unfold fnd; rw [List.filterMap_cons, hx]; simp⟩⟩
end Go.Proofs.YtememmgnhnldaaaDoor.Gen

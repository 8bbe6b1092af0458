/-
Layer 22 (journal), plain: what a journal's calls make of the store; what is held of the generations is a piece of what was taken.
Layer 11 (store): Size.
Layer 11 (store): Size in one form.
Layer 9 (fault): Unwrap.
Layer 9 (fault): closed facts on what errors.As and errors.Is both ask.
Layer 9 (fault): closed facts on what errors.Is asks of the method sets, at the types of package fault.
Layer 9 (fault): errors.Is at a Kind, walked.
Layer 22 (journal): a journal in memory; Rests, Lost, New; the newest generation's name.
Layer 22 (journal): put, walked.
Layer 22 (journal): Add, Sync, Reopen, walked.
Layer 22 (journal): Sync, Reopen, walked.
Layer 22 (journal): the document's Load.
-/
import Derived.Test.YtngangdjbbbbdaaGreatDoorPack7
import Derived.Test.YtngangdjbbbbdaaGreatDoorProg
import Derived.Lib.Hide
import Derived.WalkKit
import Derived.LaidEql
import Derived.Stop.Asserts
import Derived.RowKitTokens
import Derived.Deep.RegionHeld3
section
namespace Go.Proofs.YtngangdjbbbbdaaGreatDoor.Jrn
open Go.Proofs.YtngangdjbbbbdaaGreatDoor.Sto Go.Proofs.YtngangdjbbbbdaaGreatDoor.Gen
open Go.Proofs.YtngangdjbbbbdaaGreatDoor.Rec (Itm chk bytesOf flat)

/-! ### an item's bytes are put -/
def fullB (t : St) (b : Bs) (size : Int) (s : Bs) : Bool := decide (0 < (got t.L b).bs.length) && decide (size < ((got t.L b).bs.length : Int) + s.length)
def putT (t : St) (b : Bs) (K : Nat) (size : Int) (s : Bs) : St :=
  if fullB t b size s = true then
    (if synC t b = 0 then (if trC (synT t b) (ser b K) = 0 then appT (trT (synT t b) (ser b K)) b s else trT (synT t b) (ser b K)) else synT t b)
  else appT t b s
def putC (t : St) (b : Bs) (K : Nat) (size : Int) (s : Bs) : Int :=
  if fullB t b size s = true then
    (if synC t b = 0 then (if trC (synT t b) (ser b K) = 0 then appC (trT (synT t b) (ser b K)) b s else trC (synT t b) (ser b K)) else synC t b)
  else appC t b s
section
variable {t : St} {b s : Bs} {K : Nat} {size : Int}
theorem put_room (h : fullB t b size s = false) : putT t b K size s = appT t b s ∧ putC t b K size s = appC t b s := by
  unfold putT putC; rw [h]; exact ⟨rfl, rfl⟩
theorem put_syn (h : fullB t b size s = true) (h1 : ¬ synC t b = 0) : putT t b K size s = synT t b ∧ putC t b K size s = synC t b := by
  unfold putT putC; rw [if_pos h, if_pos h, if_neg h1, if_neg h1]; exact ⟨rfl, rfl⟩
theorem put_turn (h : fullB t b size s = true) (h1 : synC t b = 0) (h2 : ¬ trC (synT t b) (ser b K) = 0) : putT t b K size s = trT (synT t b) (ser b K) ∧ putC t b K size s = trC (synT t b) (ser b K) := by
  unfold putT putC; rw [if_pos h, if_pos h, if_pos h1, if_pos h1, if_neg h2, if_neg h2]; exact ⟨rfl, rfl⟩
theorem put_new (h : fullB t b size s = true) (h1 : synC t b = 0) (h2 : trC (synT t b) (ser b K) = 0) : putT t b K size s = appT (trT (synT t b) (ser b K)) b s ∧ putC t b K size s = appC (trT (synT t b) (ser b K)) b s := by
  unfold putT putC; rw [if_pos h, if_pos h, if_pos h1, if_pos h1, if_pos h2, if_pos h2]; exact ⟨rfl, rfl⟩
end

/-! ### files as what is held, and how much of it is sure -/
def cel (t : St) (a : Bs) : Option (Bs × Nat) := (flk t.L a).map fun x => (x.bs, x.sure)
theorem cel_same {t t' : St} (h : t'.L = t.L) (a : Bs) : cel t' a = cel t a := by unfold cel; rw [h]
theorem cel_got {t : St} {a : Bs} : cel t a = none ∧ got t.L a = ⟨a, [], 0⟩ ∧ (flk t.L a).isSome = false ∨ cel t a = some ((got t.L a).bs, (got t.L a).sure) ∧ (flk t.L a).isSome = true := by
  unfold cel
  cases h : flk t.L a with
  | none => exact .inl ⟨rfl, got_none h, rfl⟩
  | some x => rw [got_some h]; exact .inr ⟨rfl, rfl⟩
theorem cel_has (t : St) (a : Bs) : has t a = (cel t a).map Prod.fst := by
  unfold has cel; cases flk t.L a <;> rfl
theorem cel_none {t : St} {a : Bs} : cel t a = none ↔ flk t.L a = none := by unfold cel; simp
theorem cel_is (t : St) (a : Bs) : (cel t a).isSome = (flk t.L a).isSome := by unfold cel; simp
theorem cel_pt {t : St} (h : Ok t) (x : Fl) (c : Bs) (m b : Int) : cel ⟨fpt t.L x, m, b⟩ c = if c = x.nm then some (x.bs, x.sure) else cel t c := by
  unfold cel
  show (flk (fpt t.L x) c).map _ = _
  rw [fpt, flk, h.rise.lk_pt]
  split <;> rfl
theorem cel_wo {t : St} (h : Ok t) (a c : Bs) (m b : Int) : cel ⟨fwo t.L a, m, b⟩ c = if c = a then none else cel t c := by
  unfold cel
  show (flk (fwo t.L a) c).map _ = _
  rw [fwo, flk, h.rise.lk_wo]
  split <;> rfl
theorem app_cel {t : St} (h : Ok t) {a s : Bs} (hc : appC t a s = 0) (c : Bs) : cel (appT t a s) c = if c = a then some ((got t.L a).bs ++ s, (got t.L a).sure) else cel t c := by
  unfold appC at hc
  unfold appT
  split at hc
  · rename_i h0
    rw [if_pos h0]
    split at hc
    · cases hc
    · rename_i h1
      rw [if_neg h1, cel_pt h]
  · rename_i h0
    exact absurd hc h0
theorem app_no {t : St} {a s : Bs} (hc : ¬ appC t a s = 0) : (appT t a s).L = t.L := by
  unfold appC at hc
  unfold appT
  split at hc
  · rename_i h0
    rw [if_pos h0]
    split at hc
    · rename_i h1; rw [if_pos h1]
    · exact absurd rfl hc
  · rename_i h0
    rw [if_neg h0]; unfold begT; split <;> rfl
theorem syn_cel {t : St} (h : Ok t) {a : Bs} (hc : synC t a = 0) (c : Bs) : cel (synT t a) c = if c = a then some ((got t.L a).bs, (got t.L a).bs.length) else cel t c := by
  unfold synC at hc
  unfold synT
  split at hc
  · rename_i h0
    rw [if_pos h0]
    split at hc
    · rename_i h1
      rw [if_pos h1, cel_pt h]
    · cases hc
  · rename_i h0
    exact absurd hc h0
theorem syn_bad {t : St} {a : Bs} (hc : synC t a = 0) : ¬ 0 < (synT t a).bad ∧ (flk t.L a).isSome = true := by
  unfold synC at hc
  unfold synT
  split at hc
  · rename_i h0
    rw [if_pos h0]
    split at hc
    · rename_i h1
      rw [if_pos h1]
      refine ⟨fun hb => ?_, h1⟩
      have := (begC_io (beg_nm h0) (show 0 < t.bad from hb)).1
      rw [this] at h0; cases h0
    · cases hc
  · rename_i h0
    exact absurd hc h0
theorem syn_no {t : St} {a : Bs} (hc : ¬ synC t a = 0) : (synT t a).L = t.L := by
  unfold synC at hc
  unfold synT
  split at hc
  · rename_i h0
    rw [if_pos h0]
    split at hc
    · exact absurd rfl hc
    · rename_i h1; rw [if_neg h1]
  · rename_i h0
    rw [if_neg h0]; unfold begT; split <;> rfl
theorem syn_gone {t : St} {a : Bs} (hc : synC t a = 7) : flk t.L a = none := by
  unfold synC at hc
  split at hc
  · split at hc
    · cases hc
    · rename_i h1; simpa using h1
  · rename_i h0
    unfold begC at hc
    split at hc
    · split at hc <;> cases hc
    · cases hc
theorem ren_cel {t : St} (h : Ok t) (hb : ¬ 0 < t.bad) {a p : Bs} (hn : isNm a = true) (hp : isNm p = true) (hs : (flk t.L a).isSome = true) (c : Bs) :
    cel (renT t a p) c = if c = p then cel t a else if c = a then none else cel t c := by
  have h0 := (begC_ok (t := t) hn hb).1
  have e : renT t a p = ⟨fpt (fwo t.L a) ⟨p, (got t.L a).bs, (got t.L a).sure⟩, t.most, t.bad⟩ := by unfold renT; rw [if_pos h0, if_pos ⟨hp, hs⟩]
  rw [e, cel_pt (t := ⟨fwo t.L a, t.most, t.bad⟩) (h.wo a), cel_wo h]
  rcases cel_got (t := t) (a := a) with ⟨_, _, h3⟩ | ⟨h3, _⟩
  · rw [hs] at h3; cases h3
  · rw [h3]
theorem rem_cel {t : St} (h : Ok t) (hb : ¬ 0 < t.bad) {a : Bs} (hn : isNm a = true) (hs : (flk t.L a).isSome = true) (c : Bs) : cel (remT t a) c = if c = a then none else cel t c := by
  have h0 := (begC_ok (t := t) hn hb).1
  have e : remT t a = ⟨fwo t.L a, t.most, t.bad⟩ := by unfold remT; rw [if_pos h0, if_pos hs]
  rw [e, cel_wo h]
theorem nm_ne (b : Bs) {i k : Nat} (h : i ≠ k) : nm b (i : Nat) ≠ nm b (k : Nat) := fun e => by
  have := (nm_inj b).1 e
  omega
theorem not_ser {b c : Bs} {k : Nat} : c ∉ ser b (k + 1) ↔ c ≠ nm b (k : Nat) ∧ c ∉ ser b k := by
  rw [ser, List.mem_cons]; simp [not_or]
theorem nm_out (b : Bs) {i k : Nat} (h : k ≤ i) : nm b (i : Nat) ∉ ser b k := fun hm => by
  obtain ⟨l, h1, h2⟩ := ser_mem.1 hm
  exact nm_ne b (show i ≠ l by omega) h2
/-- the renamings of a turn -/
theorem rn_cel (b : Bs) (k : Nat) : ∀ t : St, Ok t → ¬ 0 < t.bad → (∀ i, i ≤ k → isNm (nm b (i : Nat)) = true) → cel t (nm b (k : Nat)) = none →
    (∀ i, i < k → cel (rnT t (nm b (k : Nat)) (ser b k)) (nm b ((i + 1 : Nat) : Int)) = cel t (nm b (i : Nat))) ∧ cel (rnT t (nm b (k : Nat)) (ser b k)) (nm b 0) = none ∧
      ∀ c, c ∉ ser b (k + 1) → cel (rnT t (nm b (k : Nat)) (ser b k)) c = cel t c := by
  induction k with
  | zero =>
    intro t _ _ _ h0
    exact ⟨fun i hi => by omega, h0, fun _ _ => rfl⟩
  | succ k ih =>
    intro t hok hb hnm hp
    have hnk := hnm k (by omega)
    have hnp := hnm (k + 1) (by omega)
    have hnr : ∀ i, i ≤ k → isNm (nm b (i : Nat)) = true := fun i hi => hnm i (by omega)
    have es : ser b (k + 1) = nm b (k : Nat) :: ser b k := rfl
    cases hs : (flk t.L (nm b (k : Nat))).isSome with
    | false =>
      have hq : cel t (nm b (k : Nat)) = none := by have := cel_is t (nm b (k : Nat)); rw [hs] at this; simpa using this
      have e1 : rnT t (nm b ((k + 1 : Nat) : Int)) (ser b (k + 1)) = rnT t (nm b (k : Nat)) (ser b k) := by rw [es, (rn_skip hs).1]
      obtain ⟨i1, i2, i3⟩ := ih t hok hb hnr hq
      rw [e1]
      refine ⟨fun i hi => ?_, i2, fun c hc => i3 c (not_ser.1 hc).2⟩
      by_cases hik : i = k
      · subst hik
        rw [i3 _ (nm_out b (by omega)), hp, hq]
      · exact i1 i (by omega)
    | true =>
      have g := ren_goes hok hb hnk hnp hs
      have gc := ren_cel hok hb hnk hnp hs
      have e1 : rnT t (nm b ((k + 1 : Nat) : Int)) (ser b (k + 1)) = rnT (renT t (nm b (k : Nat)) (nm b ((k + 1 : Nat) : Int))) (nm b (k : Nat)) (ser b k) := by rw [es, (rn_go hs g.1).1]
      have hkk : nm b (k : Nat) ≠ nm b ((k + 1 : Nat) : Int) := nm_ne b (by omega)
      obtain ⟨i1, i2, i3⟩ := ih (renT t (nm b (k : Nat)) (nm b ((k + 1 : Nat) : Int))) g.2.1 (by rw [g.2.2.1]; exact hb) hnr (by rw [gc, if_neg hkk, if_pos rfl])
      rw [e1]
      refine ⟨fun i hi => ?_, i2, fun c hc => ?_⟩
      · by_cases hik : i = k
        · subst hik
          rw [i3 _ (nm_out b (by omega)), gc, if_pos rfl]
        · rw [i1 i (by omega), gc, if_neg (nm_ne b (by omega)), if_neg (nm_ne b (by omega))]
      · obtain ⟨h1, h2⟩ := not_ser.1 hc
        rw [i3 c h2, gc, if_neg h1, if_neg (not_ser.1 h2).1]
/-- a whole turn -/
theorem tr_cel (b : Bs) (k : Nat) (t : St) (hok : Ok t) (hb : ¬ 0 < t.bad) (hnm : ∀ i, i ≤ k → isNm (nm b (i : Nat)) = true) :
    trC t (ser b (k + 1)) = 0 ∧ Ok (trT t (ser b (k + 1))) ∧ (∀ i, i < k → cel (trT t (ser b (k + 1))) (nm b ((i + 1 : Nat) : Int)) = cel t (nm b (i : Nat))) ∧ cel (trT t (ser b (k + 1))) (nm b 0) = none ∧
      ∀ c, c ∉ ser b (k + 1) → cel (trT t (ser b (k + 1))) c = cel t c := by
  have es : ser b (k + 1) = nm b (k : Nat) :: ser b k := rfl
  have hall : ∀ x ∈ nm b (k : Nat) :: ser b k, isNm x = true := fun x hx => by
    rw [← es] at hx
    obtain ⟨i, h1, rfl⟩ := ser_mem.1 hx
    exact hnm i (by omega)
  have hg := tr_goes (nm b (k : Nat)) (ser b k) t hok hb (by rw [← es]; exact ser_nodup b (k + 1)) hall
  rw [← es] at hg
  refine ⟨hg.1, hg.2.1, ?_⟩
  cases hs : (flk t.L (nm b (k : Nat))).isSome with
  | false =>
    have hq : cel t (nm b (k : Nat)) = none := by have := cel_is t (nm b (k : Nat)); rw [hs] at this; simpa using this
    have e1 : trT t (ser b (k + 1)) = rnT t (nm b (k : Nat)) (ser b k) := by rw [es, (tr_skip hs).1]
    rw [e1]
    exact rn_cel b k t hok hb hnm hq
  | true =>
    have g := rem_goes hok hb (hnm k (by omega)) hs
    have gc := rem_cel hok hb (hnm k (by omega)) hs
    have e1 : trT t (ser b (k + 1)) = rnT (remT t (nm b (k : Nat))) (nm b (k : Nat)) (ser b k) := by rw [es, (tr_go hs g.1).1]
    rw [e1]
    obtain ⟨i1, i2, i3⟩ := rn_cel b k (remT t (nm b (k : Nat))) g.2.1 (by rw [g.2.2.1]; exact hb) hnm (by rw [gc, if_pos rfl])
    refine ⟨fun i hi => ?_, i2, fun c hc => ?_⟩
    · rw [i1 i hi, gc, if_neg (nm_ne b (by omega))]
    · rw [i3 c hc, gc, if_neg (not_ser.1 hc).1]

/-! ### a crash -/
theorem crs_cel {t : St} (h : Ok t) (ks : List Int) (a : Bs) : (cel t a = none ∧ cel (crs t ks) a = none) ∨
    ∃ l s j, cel t a = some (l, s) ∧ s ≤ j ∧ j ≤ l.length ∧ cel (crs t ks) a = some (l.take j, j) := by
  have hr : Rise Fl.nm (crs t ks).L := crs_rise h.rise ks
  cases hl : flk t.L a with
  | none =>
    refine .inl ⟨cel_none.2 hl, cel_none.2 (lk_none.2 fun x hx e => ?_)⟩
    have hm : a ∈ (crsL t.L ks).map Fl.nm := List.mem_map.2 ⟨x, hx, e⟩
    rw [crs_names] at hm
    obtain ⟨y, hy, hy2⟩ := List.mem_map.1 hm
    exact (lk_none (nm := Fl.nm)).1 hl y hy hy2
  | some x =>
    obtain ⟨hx, hxa⟩ := lk_some hl
    obtain ⟨i, hi, rfl⟩ := List.getElem_of_mem hx
    obtain ⟨c1, c2⟩ := cutN_le (h.sures _ hx) (ks.getD i 0)
    refine .inr ⟨_, _, cutN t.L[i] (ks.getD i 0), by unfold cel; rw [hl]; rfl, c1, c2, ?_⟩
    have hlk : flk (crs t ks).L a = some (cutF t.L[i] (ks.getD i 0)) := by
      refine hr.lk.2 ⟨?_, hxa⟩
      show cutF t.L[i] (ks.getD i 0) ∈ crsL t.L ks
      rw [← crs_at t.L ks i hi]
      exact List.getElem_mem _
    unfold cel
    rw [hlk]; rfl

/-! ### generations of items -/
abbrev Gs := Nat → Option (List Itm)
def cat (G : Gs) : Nat → List Itm
  | 0 => []
  | k + 1 => (G k).getD [] ++ cat G k
def old (G : Gs) : Gs
  | 0 => none
  | i + 1 => G i
theorem cat_old (G : Gs) (k : Nat) : cat (old G) (k + 1) = cat G k := by
  induction k with
  | zero => rfl
  | succ k ih =>
    show (G k).getD [] ++ cat (old G) (k + 1) = _
    rw [ih]; rfl
def more (G : Gs) (l : List Itm) : Gs := fun i => if i = 0 then some l else G i
theorem cat_more (G : Gs) (l : List Itm) (k : Nat) : ∃ p, cat (more G l) (k + 1) = p ++ l ∧ cat G (k + 1) = p ++ (G 0).getD [] := by
  induction k with
  | zero => exact ⟨[], by simp [cat, more], by simp [cat]⟩
  | succ k ih =>
    obtain ⟨p, h1, h2⟩ := ih
    refine ⟨(G (k + 1)).getD [] ++ p, ?_, ?_⟩
    · show (more G l (k + 1)).getD [] ++ cat (more G l) (k + 1) = _
      rw [h1, more, if_neg (by omega), List.append_assoc]
    · show (G (k + 1)).getD [] ++ cat G (k + 1) = _
      rw [h2, List.append_assoc]
theorem cat_mem {G : Gs} {K i : Nat} {l : List Itm} (h : i < K) (hl : G i = some l) : ∀ x ∈ l, x ∈ cat G K := by
  induction K with
  | zero => omega
  | succ K ih =>
    intro x hx
    show x ∈ (G K).getD [] ++ cat G K
    by_cases hi : i = K
    · subst hi; rw [hl]; exact List.mem_append_left _ hx
    · exact List.mem_append_right _ (ih (by omega) x hx)

/-! ### what is scanned of items put -/
theorem fitn_ge (l : List Itm) (j : Nat) : ∀ m, m ≤ l.length → (flat (l.take m)).length ≤ j → m ≤ Rec.fitn l j := by
  intro m
  induction m with
  | zero => intro _ _; omega
  | succ m ih =>
    intro hm hj
    rw [Rec.flat_len, Rec.tot_take (by omega)] at hj
    have := ih (by omega) (by rw [Rec.flat_len]; omega)
    have := (Rec.fitn_next l j m (by omega) this).1 (by omega)
    omega
theorem scan_part {l : List Itm} (h : ∀ x ∈ l, chk x = 0) {m j : Nat} (hm : m ≤ l.length) (hj : (flat (l.take m)).length ≤ j) : ∃ f, m ≤ f ∧ f ≤ l.length ∧ (Rec.scan ((flat l).take j)).1 = l.take f :=
  ⟨Rec.fitn l j, fitn_ge l j m hm hj, Rec.fitn_le l j, by rw [Rec.scan_torn h]⟩
theorem scan_all {l : List Itm} (h : ∀ x ∈ l, chk x = 0) : (Rec.scan (flat l)).1 = l := by
  obtain ⟨f, h1, h2, h3⟩ := scan_part h (Nat.le_refl l.length) (j := (flat l).length) (by rw [List.take_length]; exact Nat.le_refl _)
  rw [List.take_length] at h3
  rw [h3, show f = l.length by omega, List.take_length]

/-- what the store holds: generations of items, of the newest so many are sure -/
structure Held (t : St) (K : Nat) (G : Gs) (m : Nat) : Prop where
  older : ∀ i, i < K → i ≠ 0 → ∃ s, cel t (nm lg (i : Nat)) = ((G i).map fun _ => (s, s.length)) ∧ ∀ l, G i = some l → (Rec.scan s).1 = l
  new : cel t lg = (G 0).map fun l => (flat l, (flat (l.take m)).length)
  mle : m ≤ ((G 0).getD []).length
  other : ∀ a, a ∉ ser lg K → flk t.L a = none
theorem Held.same {t t' : St} {K m : Nat} {G : Gs} (h : Held t K G m) (e : t'.L = t.L) : Held t' K G m :=
  ⟨fun i h1 h2 => by obtain ⟨s, e1, e2⟩ := h.older i h1 h2; exact ⟨s, (cel_same e _).trans e1, e2⟩, (cel_same e _).trans h.new, h.mle, fun a ha => by rw [e]; exact h.other a ha⟩
theorem nm_lg0 : nm lg ((0 : Nat) : Int) = lg := nm_zero lg (by omega)
theorem nm_lg {i : Nat} (h : i ≠ 0) : nm lg (i : Nat) ≠ lg := fun e => nm_ne lg h (e.trans nm_lg0.symm)
/-- more of the newest -/
theorem Held.app {t : St} {K m : Nat} {G : Gs} (h : Held t K G m) (hok : Ok t) (hK : 1 ≤ K) {x : Itm} (hc : appC t lg (bytesOf x) = 0) : Held (appT t lg (bytesOf x)) K (more G ((G 0).getD [] ++ [x])) m := by
  have e := app_cel hok hc
  have hm := h.mle
  have hf : flat ((G 0).getD [] ++ [x]) = flat ((G 0).getD []) ++ bytesOf x := by rw [Rec.flat_app, Rec.flat_cons]; simp [flat]
  have hg : (got t.L lg).bs = flat ((G 0).getD []) ∧ (got t.L lg).sure = (flat (((G 0).getD []).take m)).length := by
    have hn := h.new
    rcases cel_got (t := t) (a := lg) with ⟨h1, h2, _⟩ | ⟨h1, _⟩
    · rw [h1] at hn
      cases hg0 : G 0 with
      | none => rw [h2]; simp [flat]
      | some l => rw [hg0] at hn; cases hn
    · rw [h1] at hn
      cases hg0 : G 0 with
      | none => rw [hg0] at hn; cases hn
      | some l =>
        rw [hg0] at hn
        simp only [Option.map_some, Option.some.injEq, Prod.mk.injEq] at hn
        exact hn
  refine ⟨fun i h1 h2 => ?_, ?_, ?_, fun a ha => ?_⟩
  · obtain ⟨s, e1, e2⟩ := h.older i h1 h2
    exact ⟨s, by rw [e, if_neg (nm_lg h2), e1, more, if_neg h2], fun l hl => e2 l (by rwa [more, if_neg h2] at hl)⟩
  · rw [e, if_pos rfl, more, if_pos rfl, Option.map_some, hg.1, hg.2, hf, List.take_append_of_le_length hm]
  · rw [more, if_pos rfl, Option.getD_some, List.length_append]; omega
  · have hne : a ≠ lg := fun e => ha (by rw [e]; exact lg_in hK)
    exact cel_none.1 (by rw [e, if_neg hne]; exact cel_none.2 (h.other a ha))
/-- all of the newest is sure -/
theorem Held.syn {t : St} {K m : Nat} {G : Gs} (h : Held t K G m) (hok : Ok t) (hK : 1 ≤ K) (hc : synC t lg = 0) : Held (synT t lg) K G ((G 0).getD []).length ∧ (G 0).isSome = true := by
  have e := syn_cel hok hc
  have hs := (syn_bad hc).2
  have hn := h.new
  rcases cel_got (t := t) (a := lg) with ⟨_, _, h3⟩ | ⟨h1, _⟩
  · rw [hs] at h3; cases h3
  · rw [h1] at hn
    cases hg0 : G 0 with
    | none => rw [hg0] at hn; cases hn
    | some l =>
      rw [hg0] at hn
      simp only [Option.map_some, Option.some.injEq, Prod.mk.injEq] at hn
      refine ⟨⟨fun i h1 h2 => ?_, ?_, by rw [hg0]; exact Nat.le_refl _, fun a ha => ?_⟩, rfl⟩
      · obtain ⟨s, e1, e2⟩ := h.older i h1 h2
        exact ⟨s, by rw [e, if_neg (nm_lg h2), e1], e2⟩
      · rw [e, if_pos rfl, hg0, Option.map_some, hn.1, Option.getD_some, List.take_length]
      · have hne : a ≠ lg := fun e => ha (by rw [e]; exact lg_in hK)
        exact cel_none.1 (by rw [e, if_neg hne]; exact cel_none.2 (h.other a ha))
/-- a turn -/
theorem Held.turn {t : St} {k : Nat} {G : Gs} (h : Held t (k + 1) G ((G 0).getD []).length) (hsc : ∀ l, G 0 = some l → (Rec.scan (flat l)).1 = l) (hok : Ok t) (hb : ¬ 0 < t.bad) (hk : k < 16) :
    trC t (ser lg (k + 1)) = 0 ∧ Ok (trT t (ser lg (k + 1))) ∧ Held (trT t (ser lg (k + 1))) (k + 1) (old G) 0 := by
  obtain ⟨h1, h2, h3, h4, h5⟩ := tr_cel lg k t hok hb fun i hi => lg_nm (by omega)
  refine ⟨h1, h2, fun i hi h0 => ?_, ?_, Nat.zero_le _, fun a ha => ?_⟩
  · obtain ⟨j, rfl⟩ : ∃ j, i = j + 1 := ⟨i - 1, by omega⟩
    rw [h3 j (by omega)]
    show ∃ s, _ = (G j).map _ ∧ ∀ l, G j = some l → _
    by_cases hj : j = 0
    · subst hj
      rw [nm_lg0, h.new]
      refine ⟨flat ((G 0).getD []), ?_, fun l hl => by rw [hl]; exact hsc l hl⟩
      cases hg0 : G 0 with
      | none => rfl
      | some l => simp [List.take_length]
    · exact h.older j (by omega) hj
  · rw [show nm lg 0 = lg from nm_lg0] at h4
    rw [h4]; rfl
  · exact cel_none.1 (by rw [h5 a ha]; exact cel_none.2 (h.other a ha))

/-- what is held is a piece of what was taken, and its end; so much of it is sure -/
structure Hist (t : St) (K : Nat) (A : List Itm) (u : Nat) : Prop where
  chks : ∀ x ∈ A, chk x = 0
  is : ∃ G m pre, Held t K G m ∧ A = pre ++ cat G K ∧ u + ((G 0).getD []).length ≤ A.length + m ∧
    (pre = [] ∨ ∀ i, 1 ≤ i → i < K → (G i).isSome = true) ∧ ∀ i, 1 ≤ i → i + 1 < K → (G (i + 1)).isSome = true → (G i).isSome = true
section
variable {t t' : St} {K u : Nat} {A : List Itm}
theorem Hist.same (h : Hist t K A u) (e : t'.L = t.L) : Hist t' K A u := by
  obtain ⟨h1, G, m, pre, h2, h3⟩ := h
  exact ⟨h1, G, m, pre, h2.same e, h3⟩
theorem Hist.app (h : Hist t K A u) (hok : Ok t) (hK : 1 ≤ K) {x : Itm} (hx : chk x = 0) (hc : appC t lg (bytesOf x) = 0) : Hist (appT t lg (bytesOf x)) K (A ++ [x]) u := by
  obtain ⟨h1, G, m, pre, h2, h3, h4, h5, h6⟩ := h
  refine ⟨fun y hy => ?_, more G ((G 0).getD [] ++ [x]), m, pre, h2.app hok hK hc, ?_, ?_, ?_, fun i hi hi2 => ?_⟩
  · rcases List.mem_append.1 hy with hy | hy
    · exact h1 y hy
    · rw [List.mem_singleton.1 hy]; exact hx
  · obtain ⟨k, rfl⟩ : ∃ k, K = k + 1 := ⟨K - 1, by omega⟩
    obtain ⟨p, e1, e2⟩ := cat_more G ((G 0).getD [] ++ [x]) k
    rw [e1, h3, e2]; simp
  · have : (more G ((G 0).getD [] ++ [x]) 0).getD [] = (G 0).getD [] ++ [x] := by rw [more, if_pos rfl]; rfl
    rw [this, List.length_append, List.length_append, List.length_singleton]; omega
  · refine h5.imp id fun h i hi hi2 => ?_
    rw [more, if_neg (by omega)]; exact h i hi hi2
  · rw [more, if_neg (by omega), more, if_neg (by omega)]; exact h6 i hi hi2
theorem Hist.syn (h : Hist t K A u) (hok : Ok t) (hK : 1 ≤ K) (hc : synC t lg = 0) : Hist (synT t lg) K A A.length := by
  obtain ⟨h1, G, m, pre, h2, h3, h4, h5, h6⟩ := h
  exact ⟨h1, G, _, pre, (h2.syn hok hK hc).1, h3, Nat.le_refl _, h5, h6⟩
theorem Hist.gone (h : Hist t K A u) (hc : synC t lg = 7) : Hist (synT t lg) K A A.length := by
  have h0 := syn_gone hc
  have e := syn_no (t := t) (a := lg) (by rw [hc]; decide)
  obtain ⟨h1, G, m, pre, h2, h3, h4, h5, h6⟩ := h.same e
  have hg : G 0 = none := by
    have hn := h2.new
    rw [cel_none.2 (by rw [e]; exact h0)] at hn
    cases hg0 : G 0 with
    | none => rfl
    | some l => rw [hg0] at hn; cases hn
  exact ⟨h1, G, m, pre, h2, h3, by rw [hg]; simp, h5, h6⟩
theorem Hist.more (h : Hist t K A u) {v : Nat} (hv : v ≤ u) : Hist t K A v := by
  obtain ⟨h1, G, m, pre, h2, h3, h4, h5⟩ := h
  exact ⟨h1, G, m, pre, h2, h3, by omega, h5⟩
/-- behind a synced newest generation, a turn -/
theorem Hist.turn (h : Hist t K A u) (hok : Ok t) (hK : 1 ≤ K) (hK2 : K ≤ 16) (hc : synC t lg = 0) :
    trC (synT t lg) (ser lg K) = 0 ∧ Ok (trT (synT t lg) (ser lg K)) ∧ Hist (trT (synT t lg) (ser lg K)) K A A.length := by
  obtain ⟨h1, G, m, pre, h2, h3, h4, h5, h6⟩ := h
  obtain ⟨k, rfl⟩ : ∃ k, K = k + 1 := ⟨K - 1, by omega⟩
  obtain ⟨s1, s2⟩ := h2.syn hok hK hc
  obtain ⟨t1, t2, t3⟩ := s1.turn (fun l hl => scan_all fun x hx => h1 x (by rw [h3]; exact List.mem_append_right _ (cat_mem (by omega) hl x hx))) (hok.syn lg) (syn_bad hc).1 (by omega)
  refine ⟨t1, t2, h1, old G, 0, pre ++ (G k).getD [], t3, ?_, Nat.le_refl _, ?_, fun i hi hi2 => ?_⟩
  · rw [cat_old, h3, List.append_assoc]; rfl
  · have hall : ∀ j, j ≤ k → ((∀ i, 1 ≤ i → i < k + 1 → i ≤ j → (G i).isSome = true)) → ∀ i, 1 ≤ i → i < k + 1 → i ≤ j + 1 → (old G i).isSome = true := by
      intro j hj hG i hi hi2 hi3
      obtain ⟨l, rfl⟩ : ∃ l, i = l + 1 := ⟨i - 1, by omega⟩
      show (G l).isSome = true
      by_cases hl : l = 0
      · rw [hl]; exact s2
      · exact hG l (by omega) (by omega) (by omega)
    rcases h5 with rfl | h5
    · cases hgk : G k with
      | none => left; simp
      | some l =>
        right
        have hd : ∀ d, d < k → (G (k - d)).isSome = true := by
          intro d
          induction d with
          | zero => intro _; rw [Nat.sub_zero, hgk]; rfl
          | succ d ih =>
            intro hd
            have := ih (by omega)
            exact h6 (k - (d + 1)) (by omega) (by omega) (by rwa [show k - (d + 1) + 1 = k - d by omega])
        intro i hi hi2
        exact hall k (Nat.le_refl _) (fun i hi hi2 _ => by
          have := hd (k - i) (by omega)
          rwa [show k - (k - i) = i by omega] at this) i hi hi2 (by omega)
    · right
      exact fun i hi hi2 => hall k (Nat.le_refl _) (fun i hi hi2 _ => h5 i hi hi2) i hi hi2 (by omega)
  · intro ho
    obtain ⟨l, rfl⟩ : ∃ l, i = l + 1 := ⟨i - 1, by omega⟩
    show (G l).isSome = true
    change (G (l + 1)).isSome = true at ho
    by_cases hl : l = 0
    · rw [hl]; exact s2
    · exact h6 l (by omega) (by omega) ho
/-- an item is put, or not -/
theorem Hist.put (h : Hist t K A u) (hu : u ≤ A.length) (hok : Ok t) (hK : 1 ≤ K) (hK2 : K ≤ 16) {x : Itm} (hx : chk x = 0) (size : Int) :
    (putC t lg K size (bytesOf x) = 0 → Hist (putT t lg K size (bytesOf x)) K (A ++ [x]) u) ∧ (¬ putC t lg K size (bytesOf x) = 0 → Hist (putT t lg K size (bytesOf x)) K A u) := by
  have last : ∀ t', Ok t' → Hist t' K A u → (appC t' lg (bytesOf x) = 0 → Hist (appT t' lg (bytesOf x)) K (A ++ [x]) u) ∧ (¬ appC t' lg (bytesOf x) = 0 → Hist (appT t' lg (bytesOf x)) K A u) := fun t' ho hh =>
    ⟨fun hc => hh.app ho hK hx hc, fun hc => hh.same (app_no hc)⟩
  cases hf : fullB t lg size (bytesOf x) with
  | false => rw [(put_room hf).1, (put_room hf).2]; exact last t hok h
  | true =>
    by_cases hc : synC t lg = 0
    · obtain ⟨t1, t2, t3⟩ := h.turn hok hK hK2 hc
      rw [(put_new hf hc t1).1, (put_new hf hc t1).2]
      exact last _ t2 (t3.more hu)
    · rw [(put_syn hf hc).1, (put_syn hf hc).2]
      exact ⟨fun h0 => absurd h0 hc, fun _ => h.same (syn_no hc)⟩
end

/-! ### what is read -/
def load (L : List Bs) : List Itm := L.flatMap fun s => (Rec.scan s).1
theorem load_gens {t : St} {G : Gs} (K : Nat) (h : ∀ i, i < K → ∃ s, has t (nm lg (i : Nat)) = s ∧ ((s = none ∧ G i = none) ∨ ∃ l s', s = some s' ∧ G i = some l ∧ (Rec.scan s').1 = l)) : load ((fnd t (ser lg K)).map Fl.bs) = cat G K := by
  rw [fnd_bs]
  induction K with
  | zero => rfl
  | succ K ih =>
    have ih' := ih fun i hi => h i (by omega)
    obtain ⟨s, h1, h2⟩ := h K (by omega)
    rw [ser]
    rcases h2 with ⟨rfl, h2⟩ | ⟨l, s', rfl, h2, h3⟩
    · rw [fm_none h1, ih', cat, h2]; rfl
    · rw [fm_some h1, load, List.flatMap_cons]
      show (Rec.scan s').1 ++ load _ = _
      rw [ih', h3, cat, h2]; rfl
section
variable {t : St} {K u : Nat} {A : List Itm}
/-- .. as it stands: the end of what was taken -/
theorem Hist.all (h : Hist t K A u) (_hK : 1 ≤ K) : ∃ pre, A = pre ++ load ((fnd t (ser lg K)).map Fl.bs) ∧ (pre = [] ∨ K ≤ (fnd t (ser lg K)).length + 1) := by
  obtain ⟨h1, G, m, pre, h2, h3, h4, h5, h6⟩ := h
  have hin : ∀ i l, i < K → G i = some l → ∀ x ∈ l, chk x = 0 := fun i l hi hl x hx => h1 x (by rw [h3]; exact List.mem_append_right _ (cat_mem hi hl x hx))
  have hh : ∀ i, i < K → ∃ s, has t (nm lg (i : Nat)) = ((G i).map fun _ => s) ∧ ∀ l, G i = some l → (Rec.scan s).1 = l := fun i hi => by
    rw [cel_has]
    by_cases h0 : i = 0
    · subst h0; rw [nm_lg0, h2.new]
      refine ⟨flat ((G 0).getD []), ?_, fun l hl => by rw [hl]; exact scan_all (hin 0 l hi hl)⟩
      cases G 0 <;> rfl
    · obtain ⟨s, e1, e2⟩ := h2.older i hi h0
      rw [e1]
      refine ⟨s, ?_, e2⟩
      cases G i <;> rfl
  have hl := load_gens (t := t) (G := G) K fun i hi => ⟨_, rfl, by
    obtain ⟨s, e1, e2⟩ := hh i hi
    cases hg : G i with
    | none => exact .inl ⟨by rw [e1, hg]; rfl, rfl⟩
    | some l => exact .inr ⟨l, s, by rw [e1, hg]; rfl, rfl, e2 l hg⟩⟩
  refine ⟨pre, by rw [hl]; exact h3, h5.imp id fun h5 => ?_⟩
  have hcnt : ∀ k, k ≤ K → k ≤ (fnd t (ser lg k)).length + 1 := by
    intro k
    induction k with
    | zero => intro _; omega
    | succ k ih =>
      intro hk
      have i1 := ih (by omega)
      by_cases h0 : k = 0
      · subst h0; omega
      · have e : fnd t (ser lg (k + 1)) = (match flk t.L (nm lg (k : Nat)) with | some x => [x] | none => []) ++ fnd t (ser lg k) := by
          unfold fnd
          rw [ser, List.filterMap_cons]
          cases flk t.L (nm lg (k : Nat)) <;> rfl
        have hs : (flk t.L (nm lg (k : Nat))).isSome = true := by
          obtain ⟨s, e1, _⟩ := hh k (by omega)
          rw [← has_is, e1]
          simpa using h5 k (by omega) (by omega)
        obtain ⟨x, hx⟩ := Option.isSome_iff_exists.1 hs
        rw [e, hx, List.length_append, List.length_singleton]
        omega
  exact hcnt K (Nat.le_refl _)
/-- .. behind a crash: a piece, which ends not ahead of what was sure -/
theorem Hist.crash (h : Hist t K A u) (hok : Ok t) (hK : 1 ≤ K) (ks : List Int) : ∃ pre post, A = pre ++ load ((fnd (crs t ks) (ser lg K)).map Fl.bs) ++ post ∧ u + post.length ≤ A.length := by
  obtain ⟨h1, G, m, pre, h2, h3, h4, h5, h6⟩ := h
  have hin : ∀ i l, i < K → G i = some l → ∀ x ∈ l, chk x = 0 := fun i l hi hl x hx => h1 x (by rw [h3]; exact List.mem_append_right _ (cat_mem hi hl x hx))
  have hm := h2.mle
  obtain ⟨f, hf1, hf2, hf3⟩ : ∃ f, m ≤ f ∧ f ≤ ((G 0).getD []).length ∧ ((has (crs t ks) lg = none ∧ G 0 = none) ∨ ∃ l s', has (crs t ks) lg = some s' ∧ G 0 = some l ∧ (Rec.scan s').1 = l.take f) := by
    rw [cel_has]
    cases hg : G 0 with
    | none =>
      have hn := h2.new
      rw [hg] at hn hm
      rcases crs_cel hok ks lg with ⟨_, c2⟩ | ⟨l, s, j, c1, _⟩
      · exact ⟨m, Nat.le_refl _, hm, .inl ⟨by rw [c2]; rfl, rfl⟩⟩
      · rw [c1] at hn; cases hn
    | some l =>
      have hn := h2.new
      rw [hg] at hn hm
      rcases crs_cel hok ks lg with ⟨c1, _⟩ | ⟨l', s, j, c1, c2, c3, c4⟩
      · rw [c1] at hn; cases hn
      · rw [c1] at hn
        simp only [Option.map_some, Option.some.injEq, Prod.mk.injEq] at hn
        obtain ⟨rfl, rfl⟩ := hn
        obtain ⟨f, f1, f2, f3⟩ := scan_part (hin 0 l (by omega) hg) hm c2
        exact ⟨f, f1, f2, .inr ⟨l, _, by rw [c4]; rfl, rfl, f3⟩⟩
  let G' : Gs := fun i => if i = 0 then (G 0).map (List.take f) else G i
  have hl := load_gens (t := crs t ks) (G := G') K fun i hi => ⟨_, rfl, by
    by_cases h0 : i = 0
    · subst h0
      rw [nm_lg0]
      rcases hf3 with ⟨e1, e2⟩ | ⟨l, s', e1, e2, e3⟩
      · exact .inl ⟨e1, by show (if (0 : Nat) = 0 then _ else _) = _; rw [if_pos rfl, e2]; rfl⟩
      · exact .inr ⟨l.take f, s', e1, by show (if (0 : Nat) = 0 then _ else _) = _; rw [if_pos rfl, e2]; rfl, e3⟩
    · obtain ⟨s0, hn, hsc⟩ := h2.older i hi h0
      have eG : G' i = G i := if_neg h0
      rw [cel_has, eG]
      rcases crs_cel hok ks (nm lg (i : Nat)) with ⟨c1, c2⟩ | ⟨l', s, j, c1, c2, c3, c4⟩
      · rw [c1] at hn
        refine .inl ⟨by rw [c2]; rfl, ?_⟩
        cases hg : G i with
        | none => rfl
        | some l => rw [hg] at hn; cases hn
      · rw [c1] at hn
        cases hg : G i with
        | none => rw [hg] at hn; cases hn
        | some l =>
          rw [hg] at hn
          simp only [Option.map_some, Option.some.injEq, Prod.mk.injEq] at hn
          obtain ⟨rfl, rfl⟩ := hn
          refine .inr ⟨l, l'.take j, by rw [c4]; rfl, rfl, ?_⟩
          rw [show j = l'.length by omega, List.take_length]
          exact hsc l hg⟩
  obtain ⟨k, rfl⟩ : ∃ k, K = k + 1 := ⟨K - 1, by omega⟩
  have hc : ∀ k, ∃ p, cat G' (k + 1) = p ++ ((G 0).getD []).take f ∧ cat G (k + 1) = p ++ (G 0).getD [] := by
    intro k
    induction k with
    | zero => refine ⟨[], ?_, by simp [cat]⟩; show ((if (0 : Nat) = 0 then (G 0).map (List.take f) else G 0).getD []) ++ [] = _; rw [if_pos rfl]; cases G 0 <;> simp
    | succ k ih =>
      obtain ⟨p, e1, e2⟩ := ih
      refine ⟨(G (k + 1)).getD [] ++ p, ?_, ?_⟩
      · show (G' (k + 1)).getD [] ++ cat G' (k + 1) = _
        rw [e1, show G' (k + 1) = G (k + 1) from if_neg (by omega), List.append_assoc]
      · show (G (k + 1)).getD [] ++ cat G (k + 1) = _
        rw [e2, List.append_assoc]
  obtain ⟨p, e1, e2⟩ := hc k
  refine ⟨pre, ((G 0).getD []).drop f, ?_, ?_⟩
  · rw [hl, e1, h3, e2, List.append_assoc, List.append_assoc, List.take_append_drop]
  · rw [List.length_drop]; omega
theorem hist_new (K : Nat) (most bad : Int) : Hist ⟨[], most, bad⟩ K [] 0 := by
  refine ⟨fun x hx => by simp at hx, fun _ => none, 0, [], ⟨fun i _ _ => ⟨[], rfl, fun _ h => by cases h⟩, rfl, Nat.zero_le _, fun _ _ => rfl⟩, ?_, Nat.le_refl _, .inl rfl, fun i _ _ h => by cases h⟩
  induction K with
  | zero => rfl
  | succ K ih => show _ = [] ++ cat _ K; simpa using ih
end
/-- there are no more files than names -/
theorem nodup_sub {l m : List Bs} (h : l.Nodup) (hs : ∀ x ∈ l, x ∈ m) : l.length ≤ m.length := by
  induction l generalizing m with
  | nil => exact Nat.zero_le _
  | cons a l ih =>
    obtain ⟨n1, n2⟩ := List.nodup_cons.1 h
    obtain ⟨m1, m2, rfl⟩ := List.append_of_mem (hs a (by simp))
    have := ih (m := m1 ++ m2) n2 fun x hx => by
      have := hs x (List.mem_cons_of_mem _ hx)
      rw [List.mem_append, List.mem_cons] at this
      rw [List.mem_append]
      rcases this with h | rfl | h
      · exact .inl h
      · exact absurd hx n1
      · exact .inr h
    simp only [List.length_append, List.length_cons] at this ⊢
    omega
theorem Hist.files {t : St} {K u : Nat} {A : List Itm} (h : Hist t K A u) (hok : Ok t) : t.L.length ≤ K := by
  obtain ⟨_, G, m, pre, h2, _⟩ := h
  have hn : (t.L.map Fl.nm).Nodup := by
    have := hok.rise
    unfold Rise at this
    rw [List.Nodup, List.pairwise_map]
    exact this.imp fun hlt e => by rw [e] at hlt; exact List.lt_irrefl _ hlt
  have := nodup_sub (m := ser lg K) hn fun a ha => by
    by_cases hm : a ∈ ser lg K
    · exact hm
    · obtain ⟨x, hx, e⟩ := List.mem_map.1 ha
      exact absurd e ((lk_none (nm := Fl.nm)).1 (h2.other a hm) x hx)
  rw [List.length_map, ser_len] at this
  exact this
end Go.Proofs.YtngangdjbbbbdaaGreatDoor.Jrn
end

section
namespace Go.Proofs.YtngangdjbbbbdaaGreatDoor.Sto
open Go.RowKit Go.Proofs.YtngangdjbbbbdaaGreatDoor.Own Go.Proofs.YtngangdjbbbbdaaGreatDoor.KM Go.Proofs.YtngangdjbbbbdaaGreatDoor.Flt
open Go.Proofs.YtngangdjbbbbdaaGreatDoor.Rw (str)

section
variable {w : World} {bs : Nat → Prop} {b m : Nat} {V : List En} {most total bad : Int}

theorem size_calls (h : Base w bs b m V most total bad) (s : ByteArray) (hs : s.size ≤ maxLen) :
    Calls Tryz.prog 76 #[.pointer (some ⟨b, 0, none⟩), .string s] w fun e w' =>
      e = .returned (.tuple #[.int .i64 (got (V.map En.fl) s.data.toList).bs.length, .int .i64 (got (V.map En.fl) s.data.toList).sure]) ∧ Below w.heap.size w w' := by
  have h0 := (at_cell h.box 0 : _ = some _)
  have hl := h.look_ s hs
  obtain ⟨r1, _⟩ := h.got_ s.data.toList
  rw [← gotE_fl]
  obtain ⟨x, hx⟩ : ∃ x, gotE V s.data.toList = x := ⟨_, rfl⟩
  rw [hx] at r1 hl ⊢
  clear hx
  obtain ⟨p, c, hsl, -⟩ := r1.shape
  rw [En.val, hsl] at hl
  clear h r1 hsl
  go_enter Tryz.func76, Tryz.ntmps76
  go_wp2_with (go_at_call 21; refine (made_some _ _ _ h0).mono ?_; rintro e w' ⟨rfl, rfl⟩)
  go_quiet (fail)
  go_wp2_with fail
  go_ret2
  exact ⟨rfl, Rw.below_drew ((Below.refl _ _).alloc (Nat.le_refl _) _)⟩
end
end Go.Proofs.YtngangdjbbbbdaaGreatDoor.Sto
end

section
namespace Go.Proofs.YtngangdjbbbbdaaGreatDoor.Sto
open Go.RowKit Go.Proofs.YtngangdjbbbbdaaGreatDoor.Own Go.Proofs.YtngangdjbbbbdaaGreatDoor.KM Go.Proofs.YtngangdjbbbbdaaGreatDoor.Flt
open Go.Proofs.YtngangdjbbbbdaaGreatDoor.Rw (str strs Row1)

section
variable {w : World} {bs : Nat → Prop} {b : Nat} {t : St}

theorem sto_size (h : Sto w bs b t) (s : ByteArray) (hs : s.size ≤ maxLen) :
    Calls Tryz.prog 76 #[pb b, .string s] w fun e w' => e = .returned (.tuple #[.int .i64 (got t.L s.data.toList).bs.length, .int .i64 (got t.L s.data.toList).sure]) ∧ Below w.heap.size w w' := by
  obtain ⟨m, V, eV, hB⟩ := h.is
  rw [← eV]; exact size_calls hB s hs
end
end Go.Proofs.YtngangdjbbbbdaaGreatDoor.Sto
end

section
namespace Go.Proofs.YtngangdjbbbbdaaGreatDoor.Flt
open Go.RowKit Go.Proofs.YtngangdjbbbbdaaGreatDoor.Own

theorem unwrap_calls (b : Nat) (a x u : Value) (w : World) (h : w.heap[b]? = some (.cells #[a, x, u] 176 (0, 0))) :
    Calls Tryz.prog 173 #[.pointer (some ⟨b, 0, none⟩)] w fun e w' => e = .returned u ∧ w' = w := by
  have hc : w.cell? ⟨b, 2, none⟩ = some u := by rw [at_cell h]; rfl
  clear h
  go_enter Tryz.func173, Tryz.ntmps173
  go_wp2_with fail
  go_ret
  exact ⟨rfl, rfl⟩

theorem err_nil {w : World} {N : Nat} {v : Value} {l : List Lay} {c : Int} (h : Err w N v l c) : ∃ t u, v = .iface t u := by
  cases l with
  | nil => exact ⟨_, _, h⟩
  | cons x r => exact ⟨_, _, h.1⟩

end Go.Proofs.YtngangdjbbbbdaaGreatDoor.Flt
end

section
namespace Go.Proofs.YtngangdjbbbbdaaGreatDoor.Flt
open Go.RowKit Go.Extern.Stop Go.Stop Go.Extern

theorem methodComparable (x : Value) (w : World) : (Go.method 332 146 x "Comparable").run Tryz.prog w = .ok (163, x) w := by kernel_rfl
theorem methodUnwrap (v : Value) (w : World) : (Go.method 332 174 v "Unwrap").run Tryz.prog w = .ok (173, v) w := by kernel_rfl
theorem typeOf_K (v : Value) (w : World) : (ReflectliteType.typeOf #[.iface 82 v]).run Tryz.prog w = .ok (.iface 146 (.agg #[.pointer (some ⟨1, 82, none⟩)])) w := by kernel_rfl
/-- (rtype).Comparable's entry -/
def compE : Array Value → Sem Value := ReflectliteType.method fun t => do Rtype.noPackHeld "Comparable" t; pure (.bool (← typeInfo t).comparable)
theorem comparable_K (w : World) : (compE #[.agg #[.pointer (some ⟨1, 82, none⟩)]]).run Tryz.prog w = .ok (.bool true) w := by kernel_rfl
theorem noUnwraps_K (v : Value) (xT : TypeId) (w : World) : (Instr.typeAssert (.iface 82 v) xT 155 true).run Tryz.prog w = .ok (.tuple #[.nilIface, .bool false]) w := run_typeAssert_lacksB Tryz.underlying155 (by kernel_rfl) (by kernel_rfl) v xT w
theorem noUnwrap_K (v : Value) (xT : TypeId) (w : World) : (Instr.typeAssert (.iface 82 v) xT 153 true).run Tryz.prog w = .ok (.tuple #[.nilIface, .bool false]) w := run_typeAssert_lacksB Tryz.underlying153 (by kernel_rfl) (by kernel_rfl) v xT w
theorem noUnwraps_F (v : Value) (xT : TypeId) (w : World) : (Instr.typeAssert (.iface 174 v) xT 155 true).run Tryz.prog w = .ok (.tuple #[.nilIface, .bool false]) w := run_typeAssert_lacksB Tryz.underlying155 (by kernel_rfl) (by kernel_rfl) v xT w
theorem hasUnwrap_F (v : Value) (xT : TypeId) (w : World) : (Instr.typeAssert (.iface 174 v) xT 153 true).run Tryz.prog w = .ok (.tuple #[.iface 174 v, .bool true]) w := run_typeAssert_hasB Tryz.underlying153 (by kernel_rfl) v xT w
theorem eql_KK (c a : Int) (w : World) : (binOp .eql 34 (.iface 82 (.int .i64 c)) (.iface 82 (.int .i64 a))).run Tryz.prog w = .ok (.bool (c == a)) w := by kernel_rfl
theorem eql_FK (v u : Value) (w : World) : (binOp .eql 34 (.iface 174 v) (.iface 82 u)).run Tryz.prog w = .ok (.bool false) w := run_eql_iface_types _ _ _ _ Tryz.underlying34 (by decide) w
theorem eql_nil (t : TypeId) (v : Value) (w : World) : (binOp .eql 34 .nilIface (.iface t v)).run Tryz.prog w = .ok (.bool false) w := run_eql_iface_nil_left (P := Tryz.prog) w t v Tryz.underlying34
end Go.Proofs.YtngangdjbbbbdaaGreatDoor.Flt
end

section
namespace Go.Proofs.YtngangdjbbbbdaaGreatDoor.Flt
open Go.RowKit Go.Extern.Stop Go.Stop Go.Extern

theorem noIs_K (v : Value) (xT : TypeId) (w : World) : (Instr.typeAssert (.iface 82 v) xT 160 true).run Tryz.prog w = .ok (.tuple #[.nilIface, .bool false]) w := run_typeAssert_lacksB Tryz.underlying160 (by kernel_rfl) (by kernel_rfl) v xT w
theorem noIs_F (v : Value) (xT : TypeId) (w : World) : (Instr.typeAssert (.iface 174 v) xT 160 true).run Tryz.prog w = .ok (.tuple #[.nilIface, .bool false]) w := run_typeAssert_lacksB Tryz.underlying160 (by kernel_rfl) (by kernel_rfl) v xT w
end Go.Proofs.YtngangdjbbbbdaaGreatDoor.Flt
end

section
namespace Go.Proofs.YtngangdjbbbbdaaGreatDoor.Flt
open Go.RowKit Go.Extern.Stop Go.Stop Go.Extern Go.Proofs.YtngangdjbbbbdaaGreatDoor.Own

set_option maxRecDepth 100000 in
set_option maxHeartbeats 4000000 in
/-- errors.is at a Kind -/
theorem is_kind (v : Value) (l : List Lay) (c a : Int) (N : Nat) (w : World) (h : Err w N v l c) :
    Calls Tryz.prog 78 #[v, .iface 82 (.int .i64 a), .bool true] w
      fun e w' => e = .returned (.bool (c == a)) ∧ w = w' := by
  have nF := noIs_F
  have nK := noIs_K
  have uK := noUnwrap_K
  have vK := noUnwraps_K
  have mU := methodUnwrap
  have hU := hasUnwrap_F
  have eF := eql_FK
  have eK := eql_KK
  obtain ⟨b, hb⟩ : ∃ b, (c == a) = b := ⟨_, rfl⟩
  rw [hb]
  have eK' : ∀ w, (binOp .eql 34 (.iface 82 (.int .i64 c)) (.iface 82 (.int .i64 a))).run Tryz.prog w = .ok (.bool b) w := fun w => by rw [← hb]; exact eK c a w
  clear eK hb
  have HE := Lib.hid h
  clear h
  go_enter Tryz.func78, Tryz.ntmps78
  go_wp2_with fail
  go_loop [0] (fun u => ∃ (M : Nat) (r : List Lay), Err w M u r c) (fun u => deep u)
  case atStart => exact ⟨N, l, HE.out⟩
  case round =>
    obtain ⟨M, r, he⟩ := hrel
    cases r with
    | nil =>
      obtain rfl : _ = Value.iface 82 (.int .i64 c) := he
      cases b
      · go_wp2_with fail
        go_ret
        exact ⟨rfl, rfl⟩
      · go_wp2_with fail
        go_ret
        exact ⟨rfl, rfl⟩
    | cons x r =>
      obtain ⟨rfl, hx, u, hb, he'⟩ := he
      obtain ⟨ut, uv, rfl⟩ := err_nil he'
      have HE' := Lib.hid he'
      have HB := Lib.hid hb
      clear he' hb
      go_wp2_with (go_at_call 173; refine (unwrap_calls _ _ _ _ _ HB.out).mono ?_; rintro e w' ⟨rfl, rfl⟩)
      go_round
      case rel => exact ⟨x.blk, r, HE'.out⟩
      case measure =>
        have := HE'.out
        cases r with
        | nil => rw [show Value.iface ut uv = _ from this]; simp [deep]
        | cons y s => rw [show Value.iface ut uv = _ from this.1]; have := this.2.1; simp [deep]; omega

set_option maxRecDepth 100000 in
set_option maxHeartbeats 4000000 in
/-- errors.Is at a Kind -/
theorem is_calls (v : Value) (l : List Lay) (c a : Int) (N : Nat) (w : World) (h : Err w N v l c) :
    Calls Tryz.prog 53 #[v, .iface 82 (.int .i64 a)] w
      fun e w' => e = .returned (.bool (c == a)) ∧ w = w' := by
  have h37 := @run_callFunc_extern Tryz.prog 77 _ ReflectliteType.typeOf Tryz.func77 (by kernel_rfl) (by kernel_rfl) (by kernel_rfl) (by kernel_rfl)
  have h72 := @run_callFunc_extern Tryz.prog 163 _ compE Tryz.func163 (by kernel_rfl) (by kernel_rfl) (by kernel_rfl) (by kernel_rfl)
  have tK := typeOf_K
  have cK := comparable_K
  have mC := methodComparable
  obtain ⟨ut, uv, rfl⟩ := err_nil h
  have HE := Lib.hid h
  clear h
  go_enter Tryz.func53, Tryz.ntmps53
  go_wp2_with (go_at_call 78; refine (is_kind _ l c a N _ HE.out).mono ?_; rintro e w' ⟨rfl, rfl⟩)
  go_ret
  exact ⟨rfl, rfl⟩
set_option maxHeartbeats 1000000 in
theorem isNil_calls (a : Int) (w : World) :
    Calls Tryz.prog 53 #[.nilIface, .iface 82 (.int .i64 a)] w fun e w' => e = .returned (.bool false) ∧ w = w' := by
  have hn := eql_nil
  go_enter Tryz.func53, Tryz.ntmps53
  go_wp2_with fail
  go_ret
  exact ⟨rfl, rfl⟩
end Go.Proofs.YtngangdjbbbbdaaGreatDoor.Flt
end

section
namespace Go.Proofs.YtngangdjbbbbdaaGreatDoor.Jrn
open Go.RowKit Go.Proofs.YtngangdjbbbbdaaGreatDoor.Own Go.Proofs.YtngangdjbbbbdaaGreatDoor.Sto Go.Proofs.YtngangdjbbbbdaaGreatDoor.Gen
open Go.Proofs.YtngangdjbbbbdaaGreatDoor.Rec (Itm chk bytesOf flat)

/-- a journal: its box -/
def jcs (b : Nat) (base : Bs) (n size : Int) (r : Bool) (l : Int) : Array Value := #[.pointer (some ⟨b, 0, none⟩), .string ⟨base.toArray⟩, .int .i64 n, .int .i64 size, .bool r, .int .i64 l]
structure Jb (w : World) (j b : Nat) (base : Bs) (n size : Int) (r : Bool) (l : Int) : Prop where
  box : w.heap[j]? = some (.cells (jcs b base n size r l) 94 (0, 0))
theorem Jb.below {w w' : World} {j b : Nat} {base : Bs} {n size : Int} {r : Bool} {l : Int} (h : Jb w j b base n size r l) (hb : Below w.heap.size w w') : Jb w' j b base n size r l := ⟨(hb.block _ (at_lt h.box)).trans h.box⟩
theorem Jb.out {w w' : World} {j b : Nat} {base : Bs} {n size : Int} {r : Bool} {l : Int} {S : Nat → Prop} (h : Jb w j b base n size r l) (ho : Out S w w') (hj : ¬ S j) : Jb w' j b base n size r l := ⟨(ho.block _ (at_lt h.box) hj).trans h.box⟩
theorem Jb.cells {w : World} {j b : Nat} {base : Bs} {n size : Int} {r : Bool} {l : Int} (h : Jb w j b base n size r l) :
    w.cell? ⟨j, 0, none⟩ = some (.pointer (some ⟨b, 0, none⟩)) ∧ w.cell? ⟨j, 1, none⟩ = some (.string ⟨base.toArray⟩) ∧ w.cell? ⟨j, 2, none⟩ = some (.int .i64 n) ∧ w.cell? ⟨j, 3, none⟩ = some (.int .i64 size) ∧ w.cell? ⟨j, 4, none⟩ = some (.bool r) ∧ w.cell? ⟨j, 5, none⟩ = some (.int .i64 l) :=
  ⟨at_cell h.box 0, at_cell h.box 1, at_cell h.box 2, at_cell h.box 3, at_cell h.box 4, at_cell h.box 5⟩

theorem jne (b : Nat) (base : Bs) (n size : Int) (r : Bool) (l : Int) (W : World) :
    (binOp .neq 94 (.agg #[.pointer (some ⟨b, 0, none⟩), .string ⟨base.toArray⟩, .int .i64 n, .int .i64 size, .bool r, .int .i64 l]) (.agg #[.pointer none, .string ⟨#[]⟩, .int .i64 0, .int .i64 0, .bool false, .int .i64 0])).run Tryz.prog W = .ok (.bool true) W := by kernel_rfl

set_option maxRecDepth 100000 in
theorem made_calls {w : World} {j b : Nat} {base : Bs} {n size : Int} {r : Bool} {l : Int} (h : Jb w j b base n size r l) :
    Calls Tryz.prog 49 #[pb j] w fun e w' => e = .returned (.bool true) ∧ w = w' := by
  obtain ⟨c0, c1, c2, c3, c4, c5⟩ := h.cells
  have hne := jne b base n size r l
  clear h
  go_enter Tryz.func49, Tryz.ntmps49
  go_wp2_with fail
  go_ret
  exact ⟨rfl, rfl⟩
theorem name0_calls (b : Bs) (w : World) : Calls Tryz.prog 69 #[.string ⟨b.toArray⟩, .int .i64 0] w fun e w' => e = .returned (.string ⟨b.toArray⟩) ∧ w = w' := by
  go_enter Tryz.func69, Tryz.ntmps69
  go_wp2_with fail
  go_ret
  exact ⟨rfl, rfl⟩
set_option maxRecDepth 100000 in
theorem newest_calls {w : World} {j : Nat} {base : Bs} (c1 : w.cell? ⟨j, 1, none⟩ = some (.string ⟨base.toArray⟩)) :
    Calls Tryz.prog 52 #[pb j] w fun e w' => e = .returned (.string ⟨base.toArray⟩) ∧ w = w' := by
  go_enter Tryz.func52, Tryz.ntmps52
  go_wp2_with (go_at_call 69; refine (name0_calls base _).mono ?_; rintro e w' ⟨rfl, rfl⟩)
  go_ret
  exact ⟨rfl, rfl⟩

/-! ### New -/
theorem new_nil (base : ByteArray) (n size : Int) (w : World) : Calls Tryz.prog 24 #[.pointer none, .string base, .int .i64 n, .int .i64 size] w fun e w' => e = .returned (.tuple #[.pointer none, .int .i64 14]) ∧ w = w' := by
  go_enter Tryz.func24, Tryz.ntmps24
  go_wp2_with fail
  go_ret2
  exact ⟨rfl, rfl⟩
theorem new_low (b : Nat) (base : ByteArray) (size : Int) (w : World) : Calls Tryz.prog 24 #[pb b, .string base, .int .i64 0, .int .i64 size] w fun e w' => e = .returned (.tuple #[.pointer none, .int .i64 2]) ∧ w = w' := by
  go_enter Tryz.func24, Tryz.ntmps24
  go_wp2_with fail
  go_ret2
  exact ⟨rfl, rfl⟩
theorem new_some (b : Nat) (base : Bs) (n size : Int) (hn : 1 ≤ n ∧ n ≤ 16) (hs : 64 ≤ size ∧ size ≤ 1048576) (w : World) : Calls Tryz.prog 24 #[pb b, .string ⟨base.toArray⟩, .int .i64 n, .int .i64 size] w fun e w' =>
    e = .returned (.tuple #[pb w.heap.size, .int .i64 0]) ∧ Jb w' w.heap.size b base n size false 0 ∧ Below w.heap.size w w' := by
  have h1 : ¬ n < 1 := by omega
  have h2 : ¬ n > 16 := by omega
  have h3 : ¬ size < 64 := by omega
  have h4 : ¬ size > 1048576 := by omega
  obtain ⟨n1, n2⟩ := hn
  obtain ⟨s1, s2⟩ := hs
  go_enter Tryz.func24, Tryz.ntmps24
  go_wp2_with fail
  go_ret2
  exact ⟨rfl, ⟨at_new _ _⟩, (Below.refl _ _).alloc (Nat.le_refl _) _⟩
end Go.Proofs.YtngangdjbbbbdaaGreatDoor.Jrn
end

section
namespace Go.Proofs.YtngangdjbbbbdaaGreatDoor.Jrn
open Go.RowKit Go.Proofs.YtngangdjbbbbdaaGreatDoor.Own Go.Proofs.YtngangdjbbbbdaaGreatDoor.Sto Go.Proofs.YtngangdjbbbbdaaGreatDoor.Gen Go.Proofs.YtngangdjbbbbdaaGreatDoor.Flt
open Go.Proofs.YtngangdjbbbbdaaGreatDoor.Rec (Itm chk bytesOf flat)

def jpT (t : St) (b : Bs) (K : Nat) (size : Int) (x : Itm) : St := if chk x = 0 then putT t b K size (bytesOf x) else t
def jpC (t : St) (b : Bs) (K : Nat) (size : Int) (x : Itm) : Int := if chk x = 0 then putC t b K size (bytesOf x) else chk x
/-- a store while something is put into it -/
structure Pt (w : World) (bs : Nat → Prop) (W : World) (bs1 : Nat → Prop) (b : Nat) (t : St) : Prop where
  sto : Sto W bs1 b t
  out : Out bs w W
  new : ∀ i, bs1 i → bs i ∨ w.heap.size ≤ i
section
variable {w W W' : World} {bs bs1 : Nat → Prop} {b : Nat} {t t' : St} {e : Ending} {C : Int}
theorem Pt.start (h : Sto w bs b t) : Pt w bs w bs b t := ⟨h, Out.refl _ _, fun _ h => .inl h⟩
theorem Pt.same (h : Pt w bs W bs1 b t) (hb : Below W.heap.size W W') : Pt w bs W' bs1 b t :=
  ⟨h.sto.below hb, h.out.trans (Out.ofNew (S := fun _ => False) hb) (fun _ _ h => h.elim), h.new⟩
theorem Pt.ends (h : Pt w bs W bs1 b t) (hd : DoesE W bs1 e W' b t' C) : DoesE w bs e W' b t' C := by
  obtain ⟨v, k, bs2, he, hE, hk, hs, ho, hn⟩ := hd
  have hsz := h.out.size
  refine ⟨v, k, bs2, he, hE, fun hc => ⟨Nat.le_trans hsz (hk hc).1, (hk hc).2⟩, hs, h.out.trans ho fun i hi hb => ?_, fun i hi => ?_⟩
  · rcases h.new i hb with h1 | h1
    · exact h1
    · omega
  · rcases hn i hi with h1 | h1
    · exact h.new i h1
    · exact .inr (by omega)
theorem Pt.go (h : Pt w bs W bs1 b t) {bs2 : Nat → Prop} (hs : Sto W' bs2 b t') (ho : Out bs1 W W') (hn : ∀ i, bs2 i → bs1 i ∨ W.heap.size ≤ i) : Pt w bs W' bs2 b t' := by
  have hsz := h.out.size
  refine ⟨hs, h.out.trans ho fun i hi hb => ?_, fun i hi => ?_⟩
  · rcases h.new i hb with h1 | h1
    · exact h1
    · omega
  · rcases hn i hi with h1 | h1
    · exact h.new i h1
    · exact .inr (by omega)
theorem Pt.ok (h : Pt w bs W bs1 b t) (hd : DoesE W bs1 e W' b t' 0) : e = .returned .nilIface ∧ ∃ bs2, Pt w bs W' bs2 b t' := by
  obtain ⟨v, k, bs2, he, hE, -, hs, ho, hn⟩ := hd
  rcases hE with ⟨_, rfl⟩ | ⟨hc, _⟩
  · exact ⟨he, bs2, h.go hs ho hn⟩
  · exact absurd rfl hc
end
theorem Jb.pt {w W : World} {j b b2 : Nat} {base : Bs} {n size : Int} {r : Bool} {l : Int} {bs bs1 : Nat → Prop} {t : St} (h : Jb w j b base n size r l) (hj : ¬ bs j) (hp : Pt w bs W bs1 b2 t) : Jb W j b base n size r l := h.out hp.out hj
theorem recput (k a : Int) (s : ByteArray) (W : World) : Calls Tryz.prog 75 #[.agg #[.int .i64 k, .int .i64 a, .string s]] W fun e w' => e = .returned (.tuple #[.string ⟨(Rec.putV ⟨k, a, s⟩).toArray⟩, .int .i64 (chk ⟨k, a, s⟩)]) ∧ Below W.heap.size W w' :=
  (Rec.put_calls k a s W).mono fun _ _ h => h
theorem bdN (W : World) (q : Nat) : Below W.heap.size W (W.drewN q) := ⟨rfl, rfl, rfl, Nat.le_refl _, fun _ _ => rfl⟩
theorem bd1 (W : World) : Below W.heap.size W W.drew := ⟨rfl, rfl, rfl, Nat.le_refl _, fun _ _ => rfl⟩
theorem held2 {w w' : World} {j b : Nat} {base : Bs} {n size : Int} {r : Bool} {l : Int} (h : Jb w j b base n size r l) (hb : Below w.heap.size w w') : Below w.heap.size w w' ∧ w'.cell? ⟨j, 0, none⟩ = some (.pointer (some ⟨b, 0, none⟩)) ∧ w'.cell? ⟨j, 1, none⟩ = some (.string ⟨base.toArray⟩) :=
  ⟨hb, (h.below hb).cells.1, (h.below hb).cells.2.1⟩
theorem size_b (l : Bs) : (⟨l.toArray⟩ : ByteArray).size = l.length := rfl

theorem two {w w' : World} {j b : Nat} {base : Bs} {n size : Int} {r : Bool} {l : Int} (h : Jb w j b base n size r l) (hb : Below w.heap.size w w') : w'.cell? ⟨j, 0, none⟩ = some (.pointer (some ⟨b, 0, none⟩)) ∧ w'.cell? ⟨j, 1, none⟩ = some (.string ⟨base.toArray⟩) :=
  ⟨(h.below hb).cells.1, (h.below hb).cells.2.1⟩
theorem two0 {w : World} {j b : Nat} {base : Bs} {n size : Int} {r : Bool} {l : Int} (h : Jb w j b base n size r l) : w.cell? ⟨j, 0, none⟩ = some (.pointer (some ⟨b, 0, none⟩)) ∧ w.cell? ⟨j, 1, none⟩ = some (.string ⟨base.toArray⟩) := ⟨h.cells.1, h.cells.2.1⟩
theorem three {w w' : World} {j b : Nat} {base : Bs} {n size : Int} {r : Bool} {l : Int} (h : Jb w j b base n size r l) (hb : Below w.heap.size w w') : w'.cell? ⟨j, 0, none⟩ = some (.pointer (some ⟨b, 0, none⟩)) ∧ w'.cell? ⟨j, 1, none⟩ = some (.string ⟨base.toArray⟩) ∧ w'.cell? ⟨j, 2, none⟩ = some (.int .i64 n) :=
  ⟨(h.below hb).cells.1, (h.below hb).cells.2.1, (h.below hb).cells.2.2.1⟩
theorem three0 {w : World} {j b : Nat} {base : Bs} {n size : Int} {r : Bool} {l : Int} (h : Jb w j b base n size r l) : w.cell? ⟨j, 0, none⟩ = some (.pointer (some ⟨b, 0, none⟩)) ∧ w.cell? ⟨j, 1, none⟩ = some (.string ⟨base.toArray⟩) ∧ w.cell? ⟨j, 2, none⟩ = some (.int .i64 n) := ⟨h.cells.1, h.cells.2.1, h.cells.2.2.1⟩
/-- no error -/
theorem pt_of {w w' : World} {bs : Nat → Prop} {b : Nat} {t' : St} {e : Ending} (hd : DoesE w bs e w' b t' 0) : e = .returned .nilIface ∧ ∃ bs2, Pt w bs w' bs2 b t' := by
  obtain ⟨v, k, bs2, he, hE, -, hs, ho, hn⟩ := hd
  rcases hE with ⟨_, rfl⟩ | ⟨hc, _⟩
  · exact ⟨he, bs2, hs, ho, hn⟩
  · exact absurd rfl hc
/-- an error -/
theorem er_of {w w' : World} {bs : Nat → Prop} {b : Nat} {t' : St} {e : Ending} {C : Int} (hc : ¬ C = 0) (hd : DoesE w bs e w' b t' C) : ∃ k bs', e = .returned (.iface 174 (.pointer (some ⟨k, 0, none⟩))) ∧
    EAt w' (.iface 174 (.pointer (some ⟨k, 0, none⟩))) C k ∧ (C ≠ 0 → w.heap.size ≤ k ∧ ¬ bs' k) ∧ Sto w' bs' b t' ∧ Out bs w w' ∧ ∀ i, bs' i → bs i ∨ w.heap.size ≤ i := by
  obtain ⟨v, k, bs2, he, hE, hr⟩ := hd
  rcases hE with ⟨h0, _⟩ | ⟨h0, rfl, hh⟩
  · exact absurd h0 hc
  · exact ⟨k, bs2, he, .inr ⟨h0, rfl, hh⟩, hr⟩

set_option maxRecDepth 100000 in
set_option maxHeartbeats 8000000 in
theorem jput_calls {w : World} {bs : Nat → Prop} {b j : Nat} {t : St} {base : Bs} {n size : Int} {r : Bool} {l : Int} (h : Sto w bs b t) (hj : Jb w j b base n size r l) (hf : ¬ bs j) (hbase : base.length ≤ 1000000) (hs1 : 64 ≤ size) (hs2 : size ≤ 1048576) (k a : Int) (s : ByteArray) :
    Calls Tryz.prog 51 #[pb j, .agg #[.int .i64 k, .int .i64 a, .string s]] w fun e w' => DoesE w bs e w' b (jpT t base (held n) size ⟨k, a, s⟩) (jpC t base (held n) size ⟨k, a, s⟩) := by
  have P1 := Lib.hid ((Pt.start h).same ((Below.refl w.heap.size w).alloc (Nat.le_refl _) (.cells #[.int .i64 k, .int .i64 a, .string s] 43 (0, 0))))
  have HP := Lib.hid fun W => (recput k a s W)
  have HJ := Lib.hid hj
  have HF := Lib.hid hf
  have HBS := Lib.hid hbase
  by_cases hc : chk ⟨k, a, s⟩ = 0
  · have eT : jpT t base (held n) size ⟨k, a, s⟩ = putT t base (held n) size (bytesOf ⟨k, a, s⟩) := if_pos hc
    have eC : jpC t base (held n) size ⟨k, a, s⟩ = putC t base (held n) size (bytesOf ⟨k, a, s⟩) := if_pos hc
    rw [hc, Rec.putV_ok hc] at HP
    rw [eT, eC]
    have hlen := Rec.bytes_len ⟨k, a, s⟩
    have h4 := (Rec.chk_ok.1 hc).2.2.2.2
    obtain ⟨y, hy⟩ : ∃ y, bytesOf ⟨k, a, s⟩ = y := ⟨_, rfl⟩
    rw [hy] at HP hlen ⊢
    obtain ⟨T, hT⟩ : ∃ T, putT t base (held n) size y = T := ⟨_, rfl⟩
    obtain ⟨C, hC⟩ : ∃ C, putC t base (held n) size y = C := ⟨_, rfl⟩
    rw [hT, hC]
    have HT := Lib.hid hT
    have HC := Lib.hid hC
    clear hT hC
    have hyl : y.length ≤ 4110 := by rw [hlen]; simp only at h4 ⊢; omega
    clear hc eT eC hlen h4 hy
    have hg := (h.ok.got base).2
    have ht := (tot_top h.ok).2
    have hL0 : (got t.L base).bs.length ≤ 16777216 := by omega
    clear hg ht h hj hf hbase
    go_enter Tryz.func51, Tryz.ntmps51
    go_wp2_with fail
    refine (HP.out _).mono ?_
    rintro e w2 ⟨rfl, hb⟩
    have P2 := Lib.hid (P1.out.same hb)
    clear hb P1 HP
    have J2 := Lib.hid (HJ.out.pt HF.out P2.out)
    obtain ⟨c0, c1, c2, c3, c4, c5⟩ := J2.out.cells
    have HN2 := Lib.hid (newest_calls c1)
    have HS2 := Lib.hid (sto_size P2.out.sto ⟨base.toArray⟩ (by rw [size_b]; have := HBS.out; unfold maxLen; omega))
    rw [show (⟨base.toArray⟩ : ByteArray).data.toList = base from rfl] at HS2
    have HS3 := Lib.hid fun W (hb : Below w2.heap.size w2 W) => (sto_size (P2.out.sto.below hb) ⟨base.toArray⟩ (by rw [size_b]; have := HBS.out; unfold maxLen; omega)).mono fun e w' h => (⟨h.1, hb.trans (h.2.mono hb.size)⟩ : _ ∧ Below w2.heap.size w2 w')
    clear HS2
    go_wp2_with fail
    go_region_held3 (fun w' => Below w2.heap.size w2 w' ∧ w'.cell? ⟨j, 0, none⟩ = some (.pointer (some ⟨b, 0, none⟩)) ∧ w'.cell? ⟨j, 1, none⟩ = some (.string ⟨base.toArray⟩))
      (first
        | exact held2 J2.out (bd1 _)
        | exact held2 J2.out (bdN _ _)
        | exact held2 J2.out hb5
        | exact held2 J2.out (hb5.trans (bdN _ _)))
      (first
        | (go_at_call 52; go_split_ands; refine (newest_calls (by assumption)).mono ?_; rintro e w5 ⟨rfl, rfl⟩; have hb5 := (show Below w2.heap.size w2 _ by assumption))
        | (go_at_call 76; go_split_ands; refine (HS3.out _ (by assumption)).mono ?_; rintro e w5 ⟨rfl, hb5⟩))
    have P3 := Lib.hid (P2.out.same hb5)
    have J3 := Lib.hid (J2.out.below hb5)
    clear hb5 P2 J2 c0 c1 c2 c3 c4 c5 HN2 HS3
    obtain ⟨c0, c1, c2, c3, c4, c5⟩ := J3.out.cells
    obtain ⟨L, hL⟩ : ∃ L, (got t.L base).bs.length = L := ⟨_, rfl⟩
    have HL := Lib.hid hL
    have hFB := fun q (hq : (decide (0 < L) && decide (size < (L : Int) + y.length)) = q) => (show fullB t base size y = q by unfold fullB; rw [hL]; exact hq)
    rw [hL] at hL0
    rw [hL]
    clear hL
    rcases Nat.eq_zero_or_pos L with h0 | h0
    · subst h0
      have HFB := Lib.hid (hFB false (by simp))
      clear hFB
      have HN3 := Lib.hid (newest_calls c1)
      have HA3 := Lib.hid fun W (hb : Below w5.heap.size w5 W) => (sto_app (P3.out.sto.below hb) ⟨base.toArray⟩ ⟨y.toArray⟩ (by rw [size_b]; omega)).mono fun e w' h => (P3.out.same hb).ends h
      rw [show (⟨base.toArray⟩ : ByteArray).data.toList = base from rfl, show (⟨y.toArray⟩ : ByteArray).data.toList = y from rfl] at HA3
      obtain ⟨e1, e2⟩ := put_room (K := held n) HFB.out
      rw [← e1, ← e2, HT.out, HC.out] at HA3
      clear e1 e2 HT HC
      go_wp2_with fail
      go_region_with (first
        | (go_at_call 52; refine (newest_calls (by first | exact c1 | assumption)).mono ?_; rintro e w' ⟨rfl, rfl⟩)
        | (go_at_call 16; refine (HA3.out _ (by first | exact Below.refl _ _ | exact bd1 _ | exact bdN _ _)).mono ?_; rintro e w6 hd; obtain ⟨v6, k6, bs6, rfl, hd2⟩ := hd; replace hd2 := Lib.hid hd2))
      all_goals
        go_wp2_with fail
        go_ret
        exact ⟨v6, k6, bs6, rfl, hd2.out⟩
    · have g0 : (0 : Int) < (L : Int) := by omega
      by_cases hsz : size < (L : Int) + y.length
      · have HFB := Lib.hid (hFB true (by rw [decide_eq_true h0, decide_eq_true hsz]; rfl))
        clear hFB h0
        have HSY := Lib.hid fun W (hb : Below w5.heap.size w5 W) => (sto_syn (P3.out.sto.below hb) ⟨base.toArray⟩).mono fun e w' h => (P3.out.same hb).ends h
        rw [show (⟨base.toArray⟩ : ByteArray).data.toList = base from rfl] at HSY
        by_cases hc : synC t base = 0
        · have HT3 := Lib.hid (fun h2 : ¬ trC (synT t base) (ser base (held n)) = 0 => put_turn (K := held n) HFB.out hc h2)
          have HT4 := Lib.hid (fun h2 : trC (synT t base) (ser base (held n)) = 0 => put_new (K := held n) HFB.out hc h2)
          rw [HT.out, HC.out] at HT3 HT4
          rw [hc] at HSY
          clear hc HFB HT HC
          go_wp2_with fail
          go_region_held3 (fun w' => w'.cell? ⟨j, 0, none⟩ = some (.pointer (some ⟨b, 0, none⟩)) ∧ w'.cell? ⟨j, 1, none⟩ = some (.string ⟨base.toArray⟩))
            (first
              | exact two J3.out (bd1 _)
              | exact two J3.out (bdN _ _)
              | exact two0 (HJ.out.out hp6.out HF.out))
            (first
              | (go_at_call 52; go_split_ands; refine (newest_calls (by assumption)).mono ?_; rintro e w' ⟨rfl, rfl⟩)
              | (go_at_call 19; go_split_ands; refine (HSY.out _ (by first | exact bd1 _ | exact bdN _ _ | exact Below.refl _ _)).mono ?_; rintro e w6 hd; obtain ⟨rfl, bs6, hp6⟩ := pt_of hd))
          have P6 := Lib.hid hp6
          have J6 := Lib.hid (HJ.out.out hp6.out HF.out)
          clear hp6 hd P3 J3 c0 c1 c2 c3 c4 c5 HSY
          obtain ⟨c0, c1, c2, c3, c4, c5⟩ := J6.out.cells
          generalize synT t base = t6 at *
          have HTU := Lib.hid fun W (hb : Below w6.heap.size w6 W) => (turn_calls (P6.out.sto.below hb) base HBS.out n).mono fun e w' h => (P6.out.same hb).ends h
          by_cases hc : trC t6 (ser base (held n)) = 0
          · obtain ⟨e1, e2⟩ := HT4.out hc
            have HT := Lib.hid e1
            have HC := Lib.hid e2
            rw [hc] at HTU
            clear e1 e2 HT3 HT4 hc
            go_wp2_with fail
            go_region_held3 (fun w' => w'.cell? ⟨j, 0, none⟩ = some (.pointer (some ⟨b, 0, none⟩)) ∧ w'.cell? ⟨j, 1, none⟩ = some (.string ⟨base.toArray⟩) ∧ w'.cell? ⟨j, 2, none⟩ = some (.int .i64 n))
              (first
                | exact three J6.out (bd1 _)
                | exact three J6.out (bdN _ _)
                | exact three0 (HJ.out.out hp7.out HF.out))
              (first
                | (go_at_call 23; go_split_ands; refine (HTU.out _ (by first | exact bd1 _ | exact bdN _ _ | exact Below.refl _ _)).mono ?_; rintro e w7 hd; obtain ⟨rfl, bs7, hp7⟩ := pt_of hd))
            have P7 := Lib.hid hp7
            have J7 := Lib.hid (HJ.out.out hp7.out HF.out)
            clear hp7 hd P6 J6 c0 c1 c2 c3 c4 c5 HTU
            obtain ⟨c0, c1, c2, c3, c4, c5⟩ := J7.out.cells
            generalize trT t6 (ser base (held n)) = t7 at *
            have HA7 := Lib.hid fun W (hb : Below w7.heap.size w7 W) => (sto_app (P7.out.sto.below hb) ⟨base.toArray⟩ ⟨y.toArray⟩ (by rw [size_b]; omega)).mono fun e w' h => (P7.out.same hb).ends h
            rw [show (⟨base.toArray⟩ : ByteArray).data.toList = base from rfl, show (⟨y.toArray⟩ : ByteArray).data.toList = y from rfl, ← HT.out, ← HC.out] at HA7
            clear HT HC
            go_wp2_with fail
            go_region_held3 (fun w' => w'.cell? ⟨j, 0, none⟩ = some (.pointer (some ⟨b, 0, none⟩)) ∧ w'.cell? ⟨j, 1, none⟩ = some (.string ⟨base.toArray⟩))
              (first
                | exact two J7.out (bd1 _)
                | exact two J7.out (bdN _ _)
                | exact two0 (HJ.out.out hd8.2.2.2.1 HF.out))
              (first
                | (go_at_call 52; go_split_ands; refine (newest_calls (by assumption)).mono ?_; rintro e w' ⟨rfl, rfl⟩)
                | (go_at_call 16; go_split_ands; refine (HA7.out _ (by first | exact bd1 _ | exact bdN _ _ | exact Below.refl _ _)).mono ?_; rintro e w8 hd; obtain ⟨v8, k8, bs8, rfl, hd8⟩ := hd))
            have HD8 := Lib.hid hd8
            clear hd8
            go_wp2_with fail
            go_ret
            exact ⟨v8, k8, bs8, rfl, HD8.out⟩
          · obtain ⟨e1, e2⟩ := HT3.out hc
            have HT := Lib.hid e1
            have HC := Lib.hid e2
            have HC0 := Lib.hid hc
            rw [← HT.out, ← HC.out] at HTU
            rw [← HC.out] at HC0
            clear e1 e2 HT3 HT4 hc HT HC
            go_wp2_with fail
            go_region_held3 (fun w' => w'.cell? ⟨j, 0, none⟩ = some (.pointer (some ⟨b, 0, none⟩)) ∧ w'.cell? ⟨j, 1, none⟩ = some (.string ⟨base.toArray⟩) ∧ w'.cell? ⟨j, 2, none⟩ = some (.int .i64 n))
              (first
                | exact three J6.out (bd1 _)
                | exact three J6.out (bdN _ _)
                | exact three0 (HJ.out.out hp7.2.2.2.1 HF.out))
              (first
                | (go_at_call 23; go_split_ands; refine (HTU.out _ (by first | exact bd1 _ | exact bdN _ _ | exact Below.refl _ _)).mono ?_; rintro e w7 hd; obtain ⟨k7, bs7, rfl, hp7⟩ := er_of HC0.out hd))
            have HD8 := Lib.hid hp7
            clear hp7
            go_wp2_with fail
            go_ret
            exact ⟨_, k7, bs7, rfl, HD8.out⟩
        · obtain ⟨e1, e2⟩ := put_syn (K := held n) HFB.out hc
          have HC0 := Lib.hid hc
          rw [← e1, ← e2, HT.out, HC.out] at HSY
          rw [← e2, HC.out] at HC0
          clear e1 e2 HT HC HFB hc
          go_wp2_with fail
          go_region_held3 (fun w' => w'.cell? ⟨j, 0, none⟩ = some (.pointer (some ⟨b, 0, none⟩)) ∧ w'.cell? ⟨j, 1, none⟩ = some (.string ⟨base.toArray⟩))
            (first
              | exact two J3.out (bd1 _)
              | exact two J3.out (bdN _ _)
              | exact two0 (HJ.out.out hp6.2.2.2.1 HF.out))
            (first
              | (go_at_call 52; go_split_ands; refine (newest_calls (by assumption)).mono ?_; rintro e w' ⟨rfl, rfl⟩)
              | (go_at_call 19; go_split_ands; refine (HSY.out _ (by first | exact bd1 _ | exact bdN _ _ | exact Below.refl _ _)).mono ?_; rintro e w6 hd; obtain ⟨k6, bs6, rfl, hp6⟩ := er_of HC0.out hd))
          have HD8 := Lib.hid hp6
          clear hp6
          go_wp2_with fail
          go_ret
          exact ⟨_, k6, bs6, rfl, HD8.out⟩
      · have HFB := Lib.hid (hFB false (by rw [decide_eq_false hsz]; simp))
        clear hFB h0
        have HN3 := Lib.hid (newest_calls c1)
        have HA3 := Lib.hid fun W (hb : Below w5.heap.size w5 W) => (sto_app (P3.out.sto.below hb) ⟨base.toArray⟩ ⟨y.toArray⟩ (by rw [size_b]; omega)).mono fun e w' h => (P3.out.same hb).ends h
        rw [show (⟨base.toArray⟩ : ByteArray).data.toList = base from rfl, show (⟨y.toArray⟩ : ByteArray).data.toList = y from rfl] at HA3
        obtain ⟨e1, e2⟩ := put_room (K := held n) HFB.out
        rw [← e1, ← e2, HT.out, HC.out] at HA3
        clear e1 e2 HT HC
        go_wp2_with fail
        go_region_with (first
          | (go_at_call 52; refine (newest_calls (by first | exact c1 | assumption)).mono ?_; rintro e w' ⟨rfl, rfl⟩)
          | (go_at_call 16; refine (HA3.out _ (by first | exact Below.refl _ _ | exact bd1 _ | exact bdN _ _)).mono ?_; rintro e w6 hd; obtain ⟨v6, k6, bs6, rfl, hd2⟩ := hd; replace hd2 := Lib.hid hd2))
        all_goals
          go_wp2_with fail
          go_ret
          exact ⟨v6, k6, bs6, rfl, hd2.out⟩
  · have eT : jpT t base (held n) size ⟨k, a, s⟩ = t := if_neg hc
    have eC : jpC t base (held n) size ⟨k, a, s⟩ = chk ⟨k, a, s⟩ := if_neg hc
    rw [eT, eC]
    obtain ⟨c, hcc⟩ : ∃ c, chk ⟨k, a, s⟩ = c := ⟨_, rfl⟩
    rw [hcc] at HP hc ⊢
    have hb0 : (c != 0) = true := by simpa using hc
    have HC0 := Lib.hid hc
    clear eT eC hcc hc h hj hf hbase
    go_enter Tryz.func51, Tryz.ntmps51
    go_wp2_with fail
    refine (HP.out _).mono ?_
    rintro e w2 ⟨rfl, hb⟩
    have P2 := Lib.hid (P1.out.same hb)
    clear hb P1 HP
    go_wp2_with fail
    refine (Flt.new_some c 0 ⟨#[]⟩ HC0.out _).mono ?_
    rintro e w3 ⟨rfl, rfl⟩
    go_wp2_with fail
    go_ret
    exact P2.out.ends (doesE_err HC0.out P2.out.sto (Out.refl _ _) rfl rfl)
end Go.Proofs.YtngangdjbbbbdaaGreatDoor.Jrn
end

section
namespace Go.Proofs.YtngangdjbbbbdaaGreatDoor.Jrn
open Go.RowKit Go.Proofs.YtngangdjbbbbdaaGreatDoor.Own Go.Proofs.YtngangdjbbbbdaaGreatDoor.Sto Go.Proofs.YtngangdjbbbbdaaGreatDoor.Gen Go.Proofs.YtngangdjbbbbdaaGreatDoor.Flt
open Go.Proofs.YtngangdjbbbbdaaGreatDoor.Rec (Itm chk bytesOf flat)

/-- a journal and its store in memory -/
structure Jat (w : World) (bs : Nat → Prop) (j b : Nat) (t : St) (base : Bs) (n size : Int) (r : Bool) (l : Int) : Prop where
  sto : Sto w bs b t
  jb : Jb w j b base n size r l
  far : ¬ bs j
/-- what a call of a journal's leaves -/
def JPost (w : World) (bs : Nat → Prop) (j b : Nat) (base : Bs) (n size : Int) (t' : St) (r' : Bool) (l' : Int) (q : Bool) (e : Ending) (w' : World) : Prop :=
  e = .returned (.bool q) ∧ ∃ bs', Jat w' bs' j b t' base n size r' l' ∧ Out (fun k => bs k ∨ k = j) w w' ∧ ∀ i, bs' i → bs i ∨ w.heap.size ≤ i
section
variable {w W W' : World} {bs bs1 : Nat → Prop} {j b : Nat} {t t1 : St} {base : Bs} {n size : Int} {r q : Bool} {l : Int}
theorem Jat.below (h : Jat w bs j b t base n size r l) (hb : Below w.heap.size w W) : Jat W bs j b t base n size r l := ⟨h.sto.below hb, h.jb.below hb, h.far⟩
theorem Jat.same (h : Jat w bs j b t base n size r l) (hb : Below w.heap.size w W) : JPost w bs j b base n size t r l q (.returned (.bool q)) W :=
  ⟨rfl, bs, h.below hb, Out.ofNew hb, fun _ h => .inl h⟩
theorem Jat.pt (h : Jat w bs j b t base n size r l) (hp : Pt w bs W bs1 b t1) : Jat W bs1 j b t1 base n size r l :=
  ⟨hp.sto, h.jb.out hp.out h.far, fun hi => by
    rcases hp.new j hi with h1 | h1
    · exact h.far h1
    · have := at_lt h.jb.box; omega⟩
def setR (W : World) (j : Nat) (r : Bool) : World := W.setCell ⟨j, 4, none⟩ (.bool r)
def setL (W : World) (j : Nat) (l : Int) : World := W.setCell ⟨j, 5, none⟩ (.int .i64 l)
theorem Jat.setR (h : Jat w bs j b t base n size r l) (r' : Bool) : Jat (setR w j r') bs j b t base n size r' l ∧ Out (fun k => k = j) w (setR w j r') := by
  have o := (Out.refl (fun k => k = j) w).setCell (p := ⟨j, 4, none⟩) (fun _ => rfl) (.bool r')
  exact ⟨⟨h.sto.out o fun k hk e => h.far (by rw [← e]; exact hk), ⟨by have := at_set h.jb.box 4 (.bool r'); simpa [jcs, Jrn.setR, Jrn.setL] using this⟩, h.far⟩, o⟩
theorem Jat.setL (h : Jat w bs j b t base n size r l) (l' : Int) : Jat (setL w j l') bs j b t base n size r l' ∧ Out (fun k => k = j) w (setL w j l') := by
  have o := (Out.refl (fun k => k = j) w).setCell (p := ⟨j, 5, none⟩) (fun _ => rfl) (.int .i64 l')
  exact ⟨⟨h.sto.out o fun k hk e => h.far (by rw [← e]; exact hk), ⟨by have := at_set h.jb.box 5 (.int .i64 l'); simpa [jcs, Jrn.setR, Jrn.setL] using this⟩, h.far⟩, o⟩
/-- behind what is put: the box is written -/
theorem Pt.ends1 (hp : Pt w bs W bs1 b t1) {base : Bs} (h : Jat W' bs1 j b t1 base n size r l) (ho : Out (fun k => k = j) W W') : JPost w bs j b base n size t1 r l q (.returned (.bool q)) W' :=
  ⟨rfl, bs1, h, (hp.out.mono (fun _ _ h => .inl h)).trans ho (fun _ _ h => .inr h), hp.new⟩
end

set_option maxRecDepth 100000 in
set_option maxHeartbeats 4000000 in
/-- it rests: one more is lost -/
theorem add_rest {w : World} {bs : Nat → Prop} {j b : Nat} {t : St} {base : Bs} {n size l : Int} (h : Jat w bs j b t base n size true l) (l0 : 0 ≤ l) (l1 : l ≤ 1000000) (k a : Int) (s : ByteArray) (hx : chk ⟨k, a, s⟩ = 0) :
    Calls Tryz.prog 25 #[pb j, .agg #[.int .i64 k, .int .i64 a, .string s]] w (JPost w bs j b base n size t true (l + 1) false) := by
  have P1 := Lib.hid ((Pt.start h.sto).same ((Below.refl w.heap.size w).alloc (Nat.le_refl _) (.cells #[.int .i64 k, .int .i64 a, .string s] 43 (0, 0))))
  have H := Lib.hid h
  have HC := Lib.hid fun W => (hx ▸ Rec.check_calls k a s W : Calls Tryz.prog 50 #[.agg #[.int .i64 k, .int .i64 a, .string s]] W fun e w' => e = .returned (.int .i64 0) ∧ Below W.heap.size W w')
  have HM := Lib.hid (made_calls (H.out.pt P1.out).jb)
  clear h hx
  go_enter Tryz.func25, Tryz.ntmps25
  go_wp2_with fail
  refine HM.out.mono ?_
  rintro e w' ⟨rfl, rfl⟩
  go_wp2_with fail
  refine (HC.out _).mono ?_
  rintro e w2 ⟨rfl, hb⟩
  have P2 := Lib.hid (P1.out.same hb)
  clear hb P1
  have J2 := Lib.hid (H.out.pt P2.out)
  obtain ⟨c0, c1, c2, c3, c4, c5⟩ := J2.out.jb.cells
  have f5 := at_frozen J2.out.jb.box 5
  have lt := at_lt J2.out.jb.box
  go_wp2_with fail
  go_ret
  exact P2.out.ends1 (J2.out.setL _).1 (J2.out.setL _).2

set_option maxRecDepth 100000 in
set_option maxHeartbeats 4000000 in
/-- an item is taken -/
theorem add_ok {w : World} {bs : Nat → Prop} {j b : Nat} {t : St} {base : Bs} {n size l : Int} (h : Jat w bs j b t base n size false l) (hb : base.length ≤ 1000000) (s1 : 64 ≤ size) (s2 : size ≤ 1048576) (_l0 : 0 ≤ l) (_l1 : l ≤ 1000000) (k a : Int) (s : ByteArray) (hx : chk ⟨k, a, s⟩ = 0) (hy : putC t base (held n) size (bytesOf ⟨k, a, s⟩) = 0) :
    Calls Tryz.prog 25 #[pb j, .agg #[.int .i64 k, .int .i64 a, .string s]] w (JPost w bs j b base n size (putT t base (held n) size (bytesOf ⟨k, a, s⟩)) false l true ) := by
  have P1 := Lib.hid ((Pt.start h.sto).same ((Below.refl w.heap.size w).alloc (Nat.le_refl _) (.cells #[.int .i64 k, .int .i64 a, .string s] 43 (0, 0))))
  have H := Lib.hid h
  have HC := Lib.hid fun W => (hx ▸ Rec.check_calls k a s W : Calls Tryz.prog 50 #[.agg #[.int .i64 k, .int .i64 a, .string s]] W fun e w' => e = .returned (.int .i64 0) ∧ Below W.heap.size W w')
  have HM := Lib.hid (made_calls (H.out.pt P1.out).jb)
  have HX := Lib.hid hx
  have HY := Lib.hid hy
  clear h hx hy
  go_enter Tryz.func25, Tryz.ntmps25
  go_wp2_with fail
  refine HM.out.mono ?_
  rintro e w' ⟨rfl, rfl⟩
  go_wp2_with fail
  refine (HC.out _).mono ?_
  rintro e w2 ⟨rfl, hb2⟩
  have P2 := Lib.hid (P1.out.same hb2)
  have HI := (hb2.block w.heap.size (by simp)).trans (at_new w (.cells #[.int .i64 k, .int .i64 a, .string s] 43 (0, 0)))
  clear hb2 P1
  obtain ⟨i0, i1, i2⟩ := Rec.box3 HI
  clear HI
  have J2 := Lib.hid (H.out.pt P2.out)
  have HP := Lib.hid (jput_calls P2.out.sto J2.out.jb J2.out.far hb s1 s2 k a s)
  rw [show jpT t base (held n) size ⟨k, a, s⟩ = putT t base (held n) size (bytesOf ⟨k, a, s⟩) from if_pos HX.out, show jpC t base (held n) size ⟨k, a, s⟩ = putC t base (held n) size (bytesOf ⟨k, a, s⟩) from if_pos HX.out] at HP
  obtain ⟨c0, c1, c2, c3, c4, c5⟩ := J2.out.jb.cells
  go_wp2_with fail
  refine HP.out.mono ?_
  intro e w3 hd
  rw [HY.out] at hd
  obtain ⟨rfl, bs3, hp3⟩ := pt_of hd
  have P3 := Lib.hid (P2.out.go hp3.sto hp3.out hp3.new)
  clear hp3
  have J3 := Lib.hid (H.out.pt P3.out)
  have j3 := J3.out.jb.box
  have f4 := at_frozen j3 4
  have f5 := at_frozen j3 5
  have lt := at_lt j3
  have d4 : w3.cell? ⟨j, 4, none⟩ = some (.bool false) := at_cell j3 4
  have d5 : w3.cell? ⟨j, 5, none⟩ = some (.int .i64 l) := at_cell j3 5
  clear j3 c0 c1 c2 c3 c4 c5 i0 i1 i2 hd
  go_wp2_with fail
  go_ret
  exact P3.out.ends1 (J3.out.setR _).1 (J3.out.setR _).2

set_option maxRecDepth 100000 in
set_option maxHeartbeats 4000000 in
/-- an item that is lost -/
theorem add_no {w : World} {bs : Nat → Prop} {j b : Nat} {t : St} {base : Bs} {n size l : Int} (h : Jat w bs j b t base n size false l) (hb : base.length ≤ 1000000) (s1 : 64 ≤ size) (s2 : size ≤ 1048576) (l0 : 0 ≤ l) (l1 : l ≤ 1000000) (k a : Int) (s : ByteArray) (hx : chk ⟨k, a, s⟩ = 0) (hy : ¬ putC t base (held n) size (bytesOf ⟨k, a, s⟩) = 0) :
    Calls Tryz.prog 25 #[pb j, .agg #[.int .i64 k, .int .i64 a, .string s]] w (JPost w bs j b base n size (putT t base (held n) size (bytesOf ⟨k, a, s⟩)) true (l + 1) false ) := by
  have P1 := Lib.hid ((Pt.start h.sto).same ((Below.refl w.heap.size w).alloc (Nat.le_refl _) (.cells #[.int .i64 k, .int .i64 a, .string s] 43 (0, 0))))
  have H := Lib.hid h
  have HC := Lib.hid fun W => (hx ▸ Rec.check_calls k a s W : Calls Tryz.prog 50 #[.agg #[.int .i64 k, .int .i64 a, .string s]] W fun e w' => e = .returned (.int .i64 0) ∧ Below W.heap.size W w')
  have HM := Lib.hid (made_calls (H.out.pt P1.out).jb)
  have HX := Lib.hid hx
  have HY := Lib.hid hy
  clear h hx hy
  go_enter Tryz.func25, Tryz.ntmps25
  go_wp2_with fail
  refine HM.out.mono ?_
  rintro e w' ⟨rfl, rfl⟩
  go_wp2_with fail
  refine (HC.out _).mono ?_
  rintro e w2 ⟨rfl, hb2⟩
  have P2 := Lib.hid (P1.out.same hb2)
  have HI := (hb2.block w.heap.size (by simp)).trans (at_new w (.cells #[.int .i64 k, .int .i64 a, .string s] 43 (0, 0)))
  clear hb2 P1
  obtain ⟨i0, i1, i2⟩ := Rec.box3 HI
  clear HI
  have J2 := Lib.hid (H.out.pt P2.out)
  have HP := Lib.hid (jput_calls P2.out.sto J2.out.jb J2.out.far hb s1 s2 k a s)
  rw [show jpT t base (held n) size ⟨k, a, s⟩ = putT t base (held n) size (bytesOf ⟨k, a, s⟩) from if_pos HX.out, show jpC t base (held n) size ⟨k, a, s⟩ = putC t base (held n) size (bytesOf ⟨k, a, s⟩) from if_pos HX.out] at HP
  obtain ⟨c0, c1, c2, c3, c4, c5⟩ := J2.out.jb.cells
  go_wp2_with fail
  refine HP.out.mono ?_
  intro e w3 hd
  obtain ⟨k3, bs3, rfl, hd3⟩ := er_of HY.out hd
  have P3 := Lib.hid (P2.out.go hd3.2.2.1 hd3.2.2.2.1 hd3.2.2.2.2)
  clear hd3
  have J3 := Lib.hid (H.out.pt P3.out)
  have j3 := J3.out.jb.box
  have f4 := at_frozen j3 4
  have f5 := at_frozen j3 5
  have lt := at_lt j3
  have d4 : w3.cell? ⟨j, 4, none⟩ = some (.bool false) := at_cell j3 4
  have d5 : w3.cell? ⟨j, 5, none⟩ = some (.int .i64 l) := at_cell j3 5
  clear j3 c0 c1 c2 c3 c4 c5 i0 i1 i2 hd
  go_wp2_with fail
  go_ret
  exact P3.out.ends1 ((J3.out.setR _).1.setL _).1 ((J3.out.setR _).2.trans ((J3.out.setR _).1.setL _).2 (fun _ _ h => h))
end Go.Proofs.YtngangdjbbbbdaaGreatDoor.Jrn
end

section
namespace Go.Proofs.YtngangdjbbbbdaaGreatDoor.Jrn
open Go.RowKit Go.Proofs.YtngangdjbbbbdaaGreatDoor.Own Go.Proofs.YtngangdjbbbbdaaGreatDoor.Sto Go.Proofs.YtngangdjbbbbdaaGreatDoor.Gen Go.Proofs.YtngangdjbbbbdaaGreatDoor.Flt
open Go.Proofs.YtngangdjbbbbdaaGreatDoor.Rec (Itm chk bytesOf flat)

theorem er_err {w : World} {C : Int} {k : Nat} (hc : ¬ C = 0) (h : EAt w (.iface 174 (.pointer (some ⟨k, 0, none⟩))) C k) : Err w (k + 1) (.iface 174 (.pointer (some ⟨k, 0, none⟩))) [⟨k, 0, []⟩] C := by
  rcases h with ⟨h0, _⟩ | ⟨_, _, hh⟩
  · exact absurd h0 hc
  · exact ⟨rfl, Nat.lt_succ_self _, _, hh, rfl⟩
/-! ### Sync -/
set_option maxRecDepth 100000 in
theorem sync_rest {w : World} {bs : Nat → Prop} {j b : Nat} {t : St} {base : Bs} {n size l : Int} (h : Jat w bs j b t base n size true l) :
    Calls Tryz.prog 26 #[pb j] w (JPost w bs j b base n size t true l false) := by
  have H := Lib.hid h
  have HM := Lib.hid (made_calls h.jb)
  obtain ⟨c0, c1, c2, c3, c4, c5⟩ := h.jb.cells
  clear h
  go_enter Tryz.func26, Tryz.ntmps26
  go_wp2_with (go_at_call 49; refine HM.out.mono ?_; rintro e w' ⟨rfl, rfl⟩)
  go_ret
  exact H.out.same (Below.refl _ _)

set_option maxRecDepth 100000 in
set_option maxHeartbeats 4000000 in
/-- all is sure -/
theorem sync_ok {w : World} {bs : Nat → Prop} {j b : Nat} {t : St} {base : Bs} {n size l : Int} (h : Jat w bs j b t base n size false l) (hy : synC t base = 0) :
    Calls Tryz.prog 26 #[pb j] w (JPost w bs j b base n size (synT t base) false l true) := by
  have H := Lib.hid h
  have HM := Lib.hid (made_calls h.jb)
  have HY := Lib.hid hy
  have HS := Lib.hid fun W (hb : Below w.heap.size w W) => (sto_syn (h.sto.below hb) ⟨base.toArray⟩).mono fun e w' hd => ((Pt.start h.sto).same hb).ends hd
  rw [show (⟨base.toArray⟩ : ByteArray).data.toList = base from rfl] at HS
  obtain ⟨c0, c1, c2, c3, c4, c5⟩ := h.jb.cells
  clear h hy
  go_enter Tryz.func26, Tryz.ntmps26
  go_wp2_with (go_at_call 49; refine HM.out.mono ?_; rintro e w' ⟨rfl, rfl⟩)
  go_region_held3 (fun w' => w'.cell? ⟨j, 0, none⟩ = some (.pointer (some ⟨b, 0, none⟩)) ∧ w'.cell? ⟨j, 1, none⟩ = some (.string ⟨base.toArray⟩))
    (first
      | exact two H.out.jb (bd1 _)
      | exact two H.out.jb (bdN _ _)
      | exact two0 (H.out.pt P3.out).jb)
    (first
      | (go_at_call 52; go_split_ands; refine (newest_calls (by assumption)).mono ?_; rintro e w' ⟨rfl, rfl⟩)
      | (go_at_call 19; go_split_ands; refine (HS.out _ (by first | exact bd1 _ | exact bdN _ _ | exact Below.refl _ _)).mono ?_; rintro e w3 hd; rw [HY.out] at hd; obtain ⟨rfl, bs3, hp3⟩ := pt_of hd; have P3 := Lib.hid hp3; clear hp3))
  have J3 := Lib.hid (H.out.pt P3.out)
  have j3 := J3.out.jb.box
  have f4 := at_frozen j3 4
  have lt := at_lt j3
  have d4 : w3.cell? ⟨j, 4, none⟩ = some (.bool false) := at_cell j3 4
  clear j3 c0 c1 c2 c3 c4 c5 hd
  go_wp2_with fail
  go_ret
  exact P3.out.ends1 (J3.out.setR _).1 (J3.out.setR _).2

set_option maxRecDepth 100000 in
set_option maxHeartbeats 4000000 in
/-- there is no such file -/
theorem sync_none {w : World} {bs : Nat → Prop} {j b : Nat} {t : St} {base : Bs} {n size l : Int} (h : Jat w bs j b t base n size false l) (hy : synC t base = 7) :
    Calls Tryz.prog 26 #[pb j] w (JPost w bs j b base n size (synT t base) false l true) := by
  have H := Lib.hid h
  have HM := Lib.hid (made_calls h.jb)
  have HY := Lib.hid hy
  have HS := Lib.hid fun W (hb : Below w.heap.size w W) => (sto_syn (h.sto.below hb) ⟨base.toArray⟩).mono fun e w' hd => ((Pt.start h.sto).same hb).ends hd
  rw [show (⟨base.toArray⟩ : ByteArray).data.toList = base from rfl] at HS
  obtain ⟨c0, c1, c2, c3, c4, c5⟩ := h.jb.cells
  clear h hy
  go_enter Tryz.func26, Tryz.ntmps26
  go_wp2_with (go_at_call 49; refine HM.out.mono ?_; rintro e w' ⟨rfl, rfl⟩)
  go_region_held3 (fun w' => w'.cell? ⟨j, 0, none⟩ = some (.pointer (some ⟨b, 0, none⟩)) ∧ w'.cell? ⟨j, 1, none⟩ = some (.string ⟨base.toArray⟩))
    (first
      | exact two H.out.jb (bd1 _)
      | exact two H.out.jb (bdN _ _)
      | exact two0 (H.out.pt P3.out).jb)
    (first
      | (go_at_call 52; go_split_ands; refine (newest_calls (by assumption)).mono ?_; rintro e w' ⟨rfl, rfl⟩)
      | (go_at_call 19; go_split_ands; refine (HS.out _ (by first | exact bd1 _ | exact bdN _ _ | exact Below.refl _ _)).mono ?_; rintro e w3 hd; have HC0 := Lib.hid (show ¬ synC t base = 0 by rw [HY.out]; decide); obtain ⟨k3, bs3, rfl, hd3⟩ := er_of HC0.out hd; have P3 := Lib.hid (show Pt w bs w3 bs3 b (synT t base) from ⟨hd3.2.2.1, hd3.2.2.2.1, hd3.2.2.2.2⟩); have HE := Lib.hid (er_err HC0.out hd3.1); clear hd3))
  have J3 := Lib.hid (H.out.pt P3.out)
  have j3 := J3.out.jb.box
  have f4 := at_frozen j3 4
  have lt := at_lt j3
  have d4 : w3.cell? ⟨j, 4, none⟩ = some (.bool false) := at_cell j3 4
  clear j3 c0 c1 c2 c3 c4 c5 hd
  rw [HY.out] at HE
  go_wp2_with fail
  refine (is_calls _ _ 7 7 _ _ HE.out).mono ?_
  rintro e w4 ⟨rfl, rfl⟩
  go_wp2_with fail
  go_ret
  exact P3.out.ends1 (J3.out.setR _).1 (J3.out.setR _).2

set_option maxRecDepth 100000 in
set_option maxHeartbeats 4000000 in
/-- it does not go -/
theorem sync_no {w : World} {bs : Nat → Prop} {j b : Nat} {t : St} {base : Bs} {n size l : Int} (h : Jat w bs j b t base n size false l) (hy : ¬ synC t base = 0 ∧ ¬ synC t base = 7) :
    Calls Tryz.prog 26 #[pb j] w (JPost w bs j b base n size (synT t base) true l false) := by
  have H := Lib.hid h
  have HM := Lib.hid (made_calls h.jb)
  have HY := Lib.hid hy
  have HS := Lib.hid fun W (hb : Below w.heap.size w W) => (sto_syn (h.sto.below hb) ⟨base.toArray⟩).mono fun e w' hd => ((Pt.start h.sto).same hb).ends hd
  rw [show (⟨base.toArray⟩ : ByteArray).data.toList = base from rfl] at HS
  obtain ⟨c0, c1, c2, c3, c4, c5⟩ := h.jb.cells
  clear h hy
  go_enter Tryz.func26, Tryz.ntmps26
  go_wp2_with (go_at_call 49; refine HM.out.mono ?_; rintro e w' ⟨rfl, rfl⟩)
  go_region_held3 (fun w' => w'.cell? ⟨j, 0, none⟩ = some (.pointer (some ⟨b, 0, none⟩)) ∧ w'.cell? ⟨j, 1, none⟩ = some (.string ⟨base.toArray⟩))
    (first
      | exact two H.out.jb (bd1 _)
      | exact two H.out.jb (bdN _ _)
      | exact two0 (H.out.pt P3.out).jb)
    (first
      | (go_at_call 52; go_split_ands; refine (newest_calls (by assumption)).mono ?_; rintro e w' ⟨rfl, rfl⟩)
      | (go_at_call 19; go_split_ands; refine (HS.out _ (by first | exact bd1 _ | exact bdN _ _ | exact Below.refl _ _)).mono ?_; rintro e w3 hd; have HC0 := Lib.hid HY.out.1; obtain ⟨k3, bs3, rfl, hd3⟩ := er_of HC0.out hd; have P3 := Lib.hid (show Pt w bs w3 bs3 b (synT t base) from ⟨hd3.2.2.1, hd3.2.2.2.1, hd3.2.2.2.2⟩); have HE := Lib.hid (er_err HC0.out hd3.1); clear hd3))
  have J3 := Lib.hid (H.out.pt P3.out)
  have j3 := J3.out.jb.box
  have f4 := at_frozen j3 4
  have lt := at_lt j3
  have d4 : w3.cell? ⟨j, 4, none⟩ = some (.bool false) := at_cell j3 4
  clear j3 c0 c1 c2 c3 c4 c5 hd
  obtain ⟨C, hC⟩ : ∃ C, synC t base = C := ⟨_, rfl⟩
  rw [hC] at HE
  have hq : (C == 7) = false := by have := HY.out.2; rw [hC] at this; simpa using this
  clear hC
  go_wp2_with fail
  refine (is_calls _ _ C 7 _ _ HE.out).mono ?_
  rw [hq]
  rintro e w4 ⟨rfl, rfl⟩
  go_wp2_with fail
  go_ret
  exact P3.out.ends1 (J3.out.setR _).1 (J3.out.setR _).2

/-! ### Reopen -/
end Go.Proofs.YtngangdjbbbbdaaGreatDoor.Jrn
end

section
namespace Go.Proofs.YtngangdjbbbbdaaGreatDoor.Jrn
open Go.RowKit Go.Proofs.YtngangdjbbbbdaaGreatDoor.Own Go.Proofs.YtngangdjbbbbdaaGreatDoor.Sto Go.Proofs.YtngangdjbbbbdaaGreatDoor.Gen Go.Proofs.YtngangdjbbbbdaaGreatDoor.Flt
open Go.Proofs.YtngangdjbbbbdaaGreatDoor.Rec (Itm chk bytesOf flat cv cv_len cv_app)
open Go.Proofs.YtngangdjbbbbdaaGreatDoor.Rw (str strs Row1 Texts)
open Go.Proofs.YtngangdjbbbbdaaGreatDoor.Tree (own_slice own_lt)

/-! ### Load -/
theorem load_snoc (L : List Bs) (s : Bs) : load (L ++ [s]) = load L ++ (Rec.scan s).1 := by simp [load]
def LdPost (L : List Bs) (w : World) (e : Ending) (w' : World) : Prop :=
  ∃ v, e = .returned v ∧ w'.ownsRow w.heap.size 43 3 v (load L).length (cv (load L)) ∧ Below w.heap.size w w'
structure LdAt (w wr : World) (v : Value) (D : List Itm) : Prop where
  own : wr.ownsRow w.heap.size 43 3 v D.length (cv D)
  below : Below w.heap.size w wr
theorem LdAt.step {w wr w5 w1 : World} {v v' : Value} {D N : List Itm} {m : Nat} (hm : m = N.length) (h : LdAt w wr v D) (hb : Below wr.heap.size wr w5)
    (ho : w1.ownsRow w.heap.size 43 3 v' (D.length + m) (cv D ++ cv N)) (hg : w5.grownBy w1 v.ownBlock) : LdAt w w1 v' (D ++ N) := by
  subst hm
  have hs := h.below.size
  have hs5 := hb.size
  refine ⟨?_, (h.below.trans (hb.mono hs)).grown hg (by omega) (fun k hk => (World.ownsRow.lt h.own k hk).1)⟩
  rw [List.length_append, cv_app]; exact ho
/-- the new items, wherever they lie -/
theorem news_of {w : World} {B n : Nat} {v : Value} {N : List Itm} (h : w.ownsRow B 43 3 v n (cv N)) : ∃ ao c, v = .slice ao n c ∧ (ao = none → n = 0 ∧ c = 0) ∧ ∀ ad, ao = some ad → ∀ j u, (cv N)[j]? = some u → w.cell? (ad.add j) = some u := by
  have hc := @World.ownsRow.cells _ _ _ _ _ _ _ h
  rcases h.2 with ⟨rfl, h0⟩ | ⟨g, cap, cur, rfl, _, hh, h3, h4, _⟩
  · exact ⟨none, 0, by rw [show n = 0 from h0], fun _ => ⟨h0, rfl⟩, fun _ e => by cases e⟩
  · exact ⟨_, _, rfl, (fun e => nomatch e), fun ad e j u hj => by cases e; exact hc (g := g) rfl _ _ hj⟩

end Go.Proofs.YtngangdjbbbbdaaGreatDoor.Jrn
end


/-
  Layer 21 (gens), plain: the stores that the law makes; what a turn makes of one.
-/
import Derived.Test.YtememmgnhnldaaaDoorGenPlain
namespace Go.Proofs.YtememmgnhnldaaaDoor.Gen
open Go.Proofs.YtememmgnhnldaaaDoor.Sto Go.Proofs.YtememmgnhnldaaaDoor.Digit

def lg : Bs := [108, 111, 103]
def oth : Bs := [111, 116, 104, 101, 114]
theorem nmc_digit {c : UInt8} (h : 48 ≤ c.toNat ∧ c.toNat ≤ 57) : nmc c.toNat = true := by
  unfold nmc
  rw [decide_eq_true (by omega), decide_eq_true (by omega)]
  simp; omega
theorem lg_nm {i : Nat} (h : i < 18) : isNm (nm lg (i : Nat)) = true := by
  by_cases h0 : ((i : Nat) : Int) ≤ 0
  · rw [nm_zero _ h0]; rfl
  · rw [nm_more _ h0]
    have hd : dec (i : Nat) = decN i := by rw [dec, if_neg (by omega)]; rfl
    have hl := decN_len 1 i (by omega)
    have e1 : (lg ++ 46 :: dec (i : Nat)).length ≤ 64 ∧ 1 ≤ (lg ++ 46 :: dec (i : Nat)).length := by
      rw [hd]; simp [lg]; omega
    rw [isNm, Bool.and_eq_true]
    refine ⟨decide_eq_true ⟨e1.2, e1.1⟩, ?_⟩
    rw [allc, List.all_eq_true]
    intro c hc
    rw [hd, List.mem_append, List.mem_cons] at hc
    rcases hc with hc | rfl | hc
    · simp only [lg, List.mem_cons, List.not_mem_nil, or_false] at hc
      rcases hc with rfl | rfl | rfl <;> rfl
    · rfl
    · exact nmc_digit (decN_digit i c hc)
theorem lg_head (i : Int) : (nm lg i).head? = some 108 := by
  unfold nm
  split <;> rfl
theorem lg_oth (i : Int) : nm lg i ≠ oth := fun h => by
  have := lg_head i
  rw [h] at this
  cases this
theorem lg_size {i : Nat} (h : i < 18) : (nm lg (i : Nat)).length ≤ 64 := (isNm_len (lg_nm h)).2
theorem ser_nm {k : Nat} (hk : k ≤ 16) : ∀ a ∈ ser lg k, isNm a = true := by
  intro a ha
  obtain ⟨i, h1, rfl⟩ := ser_mem.1 ha
  exact lg_nm (by omega)
theorem ser_oth (k : Nat) : oth ∉ ser lg k := fun h => by
  obtain ⟨i, _, h2⟩ := ser_mem.1 h
  exact lg_oth _ h2.symm

/-- a store as the law makes it -/
structure Gd (t : St) (k : Nat) : Prop where
  bad : t.bad = 0
  most : t.most = 10000
  len : t.L.length ≤ k
  hoth : has t oth = some [111]
theorem beg_same {t : St} (h : t.bad = 0) (a : Bs) : begT t a = t := by
  unfold begT
  rw [if_neg (by omega)]
theorem app_same {t : St} (h : t.bad = 0) (a s : Bs) : (appT t a s).bad = 0 ∧ (appT t a s).most = t.most ∧ (appT t a s).L.length ≤ t.L.length + 1 := by
  unfold appT
  split
  · split
    · exact ⟨h, rfl, by omega⟩
    · exact ⟨h, rfl, pt_len _ _⟩
  · rw [beg_same h]; exact ⟨h, rfl, by omega⟩
theorem syn_same {t : St} (h : t.bad = 0) (a : Bs) : (synT t a).bad = 0 ∧ (synT t a).most = t.most ∧ (synT t a).L.length ≤ t.L.length + 1 := by
  unfold synT
  split
  · split
    · exact ⟨h, rfl, pt_len _ _⟩
    · exact ⟨h, rfl, by omega⟩
  · rw [beg_same h]; exact ⟨h, rfl, by omega⟩
theorem syn_len {t : St} (hok : Ok t) (h : t.bad = 0) (a : Bs) : (synT t a).L.length ≤ t.L.length := by
  unfold synT
  split
  · split
    · rename_i hs
      show (fpt t.L _).length ≤ _
      rw [fpt, hok.rise.len_pt]
      show (if (flk t.L a).isSome = true then _ else _) ≤ _
      rw [if_pos hs]; exact Nat.le_refl _
    · exact Nat.le_refl _
  · rw [beg_same h]; exact Nat.le_refl _
theorem app_has {t : St} (hok : Ok t) (h : t.bad = 0) {a s c : Bs} (hne : c ≠ a) : has (appT t a s) c = has t c := by
  unfold appT
  split
  · split
    · rfl
    · rw [has_pt hok, if_neg hne]
  · rw [beg_same h]
theorem syn_has {t : St} (hok : Ok t) (h : t.bad = 0) {a c : Bs} (hne : c ≠ a) : has (synT t a) c = has t c := by
  unfold synT
  split
  · split
    · rw [has_pt hok, if_neg hne]
    · rfl
  · rw [beg_same h]
theorem Gd.app {t : St} {k : Nat} (h : Gd t k) (hok : Ok t) {a s : Bs} (hne : oth ≠ a) : Gd (appT t a s) (k + 1) := by
  obtain ⟨e1, e2, e3⟩ := app_same h.bad a s
  have := h.len
  exact ⟨e1, e2.trans h.most, by omega, (app_has hok h.bad hne).trans h.hoth⟩
theorem Gd.syn {t : St} {k : Nat} (h : Gd t k) (hok : Ok t) {a : Bs} (hne : oth ≠ a) : Gd (synT t a) k := by
  obtain ⟨e1, e2, _⟩ := syn_same h.bad a
  have := syn_len hok h.bad a
  have := h.len
  exact ⟨e1, e2.trans h.most, by omega, (syn_has hok h.bad hne).trans h.hoth⟩
theorem Gd.more {t : St} {k m : Nat} (h : Gd t k) (hm : k ≤ m) : Gd t m := ⟨h.bad, h.most, by have := h.len; omega, h.hoth⟩
theorem gd_new : Gd (appT ⟨[], 10000, 0⟩ oth [111]) 1 := ⟨rfl, rfl, by decide, rfl⟩

theorem has_read {t : St} {a l : Bs} (h : has t a = some l) : (got t.L a).bs = l ∧ (flk t.L a).isSome = true := by
  unfold has at h
  cases hl : flk t.L a with
  | none => rw [hl] at h; cases h
  | some x => rw [hl] at h; rw [got_some hl]; exact ⟨by simpa using h, rfl⟩
/-- what the law asks of a turn -/
structure Keeps (t T : St) (K : Nat) (C : Int) (fl : Bool) : Prop where
  hoth : has T oth = some [111]
  way : (fl = true ∧ C = 12 ∧ fnd T (ser lg K) = fnd t (ser lg K) ∧ 0 < (fnd t (ser lg K)).length) ∨
    (C = 0 ∧ (flk T.L lg).isSome = false ∧ (((flk t.L (nm lg ((K : Int) - 1))).isSome = true ∧ ∃ x, (fnd t (ser lg K)).map Fl.bs = x :: (fnd T (ser lg K)).map Fl.bs) ∨
      ((flk t.L (nm lg ((K : Int) - 1))).isSome = false ∧ (fnd t (ser lg K)).map Fl.bs = (fnd T (ser lg K)).map Fl.bs)))
theorem lg_in {K : Nat} (h : 1 ≤ K) : lg ∈ ser lg K := ser_mem.2 ⟨0, h, (nm_zero lg (by omega)).symm⟩
theorem keeps_fail {t : St} {k : Nat} (hg : Gd t k) (K : Nat) (h1 : 1 ≤ K) (hK : K ≤ 16) : Keeps t (trT ⟨t.L, t.most, 1⟩ (ser lg K)) K (trC ⟨t.L, t.most, 1⟩ (ser lg K)) true := by
  obtain ⟨e1, e2⟩ := tr_fails (ser lg K) ⟨t.L, t.most, 1⟩ rfl (ser_nm hK)
  have e3 : ∀ ns, fnd (trT ⟨t.L, t.most, 1⟩ (ser lg K)) ns = fnd t ns := fun ns => fnd_same e1 ns
  refine ⟨?_, ?_⟩
  · rw [← hg.hoth]; unfold has; rw [e1]
  · rcases e2 with ⟨c, hne⟩ | ⟨c, hnil⟩
    · left
      exact ⟨rfl, c, e3 _, List.length_pos_iff.2 hne⟩
    · right
      have hno : ∀ a ∈ ser lg K, flk t.L a = none := fun a ha => by
        unfold fnd at hnil
        exact List.filterMap_eq_nil_iff.1 hnil a ha
      have hlast : nm lg ((K : Int) - 1) ∈ ser lg K := ser_mem.2 ⟨K - 1, by omega, by rw [show ((K - 1 : Nat) : Int) = (K : Int) - 1 by omega]⟩
      refine ⟨c, ?_, .inr ⟨?_, ?_⟩⟩
      · rw [e1]; show (flk t.L lg).isSome = false; rw [hno _ (lg_in h1)]; rfl
      · rw [hno _ hlast]; rfl
      · rw [e3]
theorem keeps_ok {t : St} {k : Nat} (hok : Ok t) (hg : Gd t k) (K : Nat) (h1 : 1 ≤ K) (hK : K ≤ 16) : Keeps t (trT t (ser lg K)) K (trC t (ser lg K)) false := by
  obtain ⟨m, rfl⟩ : ∃ m, K = m + 1 := ⟨K - 1, by omega⟩
  have hnm := ser_nm hK
  have hnd := ser_nodup lg (m + 1)
  have hoth := ser_oth (m + 1)
  have hlast := ser_last lg (m + 1) h1
  have e0 : ser lg (m + 1) = nm lg (m : Nat) :: ser lg m := rfl
  have e1 : ((m + 1 : Nat) : Int) - 1 = (m : Nat) := by omega
  rw [e0] at hnm hnd hoth hlast
  obtain ⟨g1, g2, g3, g4, g5⟩ := tr_goes (nm lg (m : Nat)) (ser lg m) t hok (by rw [hg.bad]; decide) hnd hnm
  rw [← e0] at g1 g3 g4 g5
  refine ⟨(g5 _ (by rw [e0]; exact hoth)).trans hg.hoth, .inr ⟨g1, ?_, ?_⟩⟩
  · have := g4 _ (by rw [e0]; exact hlast)
    rw [← has_is, this]; rfl
  · rw [fnd_bs, fnd_bs, g3, e1, e0]
    cases hs : (flk t.L (nm lg (m : Nat))).isSome with
    | true =>
      obtain ⟨x, hx⟩ : ∃ x, has t (nm lg (m : Nat)) = some x := by
        have := has_is t (nm lg (m : Nat)); rw [hs] at this; exact Option.isSome_iff_exists.1 this
      exact .inl ⟨rfl, x, fm_some hx⟩
    | false =>
      have hq : has t (nm lg (m : Nat)) = none := by have := has_is t (nm lg (m : Nat)); rw [hs] at this; simpa using this
      exact .inr ⟨rfl, fm_none hq⟩
end Go.Proofs.YtememmgnhnldaaaDoor.Gen

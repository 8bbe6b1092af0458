/-
  Layer 11 (store), plain: what each call makes of the files, and which code it tells.
-/
import Derived.Test.YtememmgnhnldaaaDoorStoPlain
namespace Go.Proofs.YtememmgnhnldaaaDoor.Sto

structure Fl where
  nm : Bs
  bs : Bs
  sure : Nat
structure St where
  L : List Fl
  most : Int
  bad : Int

def nmc (c : Nat) : Bool := decide (33 ≤ c) && decide (c ≤ 126) && (c != 47)
def sized (s : Bs) : Bool := decide (1 ≤ s.length ∧ s.length ≤ 64)
def allc (s : Bs) : Bool := s.all fun c => nmc c.toNat
def isNm (s : Bs) : Bool := sized s && allc s
theorem allc_snoc (l : Bs) (c : UInt8) : allc (l ++ [c]) = (allc l && nmc c.toNat) := by simp [allc]
theorem isNm_len {s : Bs} (h : isNm s = true) : 1 ≤ s.length ∧ s.length ≤ 64 := by
  rw [isNm, Bool.and_eq_true] at h
  exact of_decide_eq_true h.1

def tot (L : List Fl) : Nat := (L.map fun x => x.bs.length).sum
theorem tot_nil : tot [] = 0 := rfl
theorem tot_cons (x : Fl) (L : List Fl) : tot (x :: L) = x.bs.length + tot L := by simp [tot]
theorem tot_app (L M : List Fl) : tot (L ++ M) = tot L + tot M := by simp [tot]
theorem tot_perm {L M : List Fl} (h : L.Perm M) : tot L = tot M := (h.map _).sum_nat
theorem len_tot {L : List Fl} {x : Fl} (h : x ∈ L) : x.bs.length ≤ tot L := by
  induction L with
  | nil => simp at h
  | cons y r ih =>
    rw [tot_cons]
    rcases List.mem_cons.1 h with rfl | h
    · omega
    · have := ih h; omega

abbrev fwo (L : List Fl) (a : Bs) : List Fl := wo Fl.nm L a
abbrev fpt (L : List Fl) (x : Fl) : List Fl := pt Fl.nm L x
abbrev flk (L : List Fl) (a : Bs) : Option Fl := lk Fl.nm L a
def got (L : List Fl) (a : Bs) : Fl := (flk L a).getD ⟨a, [], 0⟩
theorem got_some {L : List Fl} {a : Bs} {x : Fl} (h : flk L a = some x) : got L a = x := by rw [got, h]; rfl
theorem got_none {L : List Fl} {a : Bs} (h : flk L a = none) : got L a = ⟨a, [], 0⟩ := by rw [got, h]; rfl
theorem got_nm (L : List Fl) (a : Bs) : (got L a).nm = a := by
  cases h : flk L a with
  | none => rw [got_none h]
  | some x => rw [got_some h]; exact (lk_some h).2
theorem tot_wo {L : List Fl} (h : Rise Fl.nm L) (a : Bs) : tot (fwo L a) + (got L a).bs.length = tot L := by
  cases hl : flk L a with
  | none => rw [fwo, wo_none hl, got_none hl]; rfl
  | some x => rw [tot_perm (h.wo_perm hl), tot_cons, got_some hl, Nat.add_comm]
theorem tot_pt {L : List Fl} (h : Rise Fl.nm L) (x : Fl) : tot (fpt L x) + (got L x.nm).bs.length = tot L + x.bs.length := by
  have e1 : tot (fpt L x) = x.bs.length + tot (fwo L x.nm) := by rw [tot_perm (pt_perm L x), tot_cons]
  have := tot_wo h x.nm
  omega

structure Ok (t : St) : Prop where
  rise : Rise Fl.nm t.L
  names : ∀ x ∈ t.L, isNm x.nm = true
  sures : ∀ x ∈ t.L, x.sure ≤ x.bs.length
  room : (tot t.L : Int) ≤ t.most
  most1 : 1 ≤ t.most
  most2 : t.most ≤ 16777216
  bad : -9223372036854775808 ≤ t.bad ∧ t.bad ≤ 9223372036854775807
theorem Ok.got {t : St} (h : Ok t) (a : Bs) : (got t.L a).sure ≤ (Sto.got t.L a).bs.length ∧ (Sto.got t.L a).bs.length ≤ tot t.L := by
  cases hl : flk t.L a with
  | none => rw [got_none hl]; simp
  | some x => rw [got_some hl]; exact ⟨h.sures x (lk_some hl).1, len_tot (lk_some hl).1⟩
theorem Ok.wo {t : St} (h : Ok t) (a : Bs) : Ok ⟨fwo t.L a, t.most, t.bad⟩ := by
  have e := tot_wo h.rise a
  have := h.room
  exact ⟨h.rise.wo a, fun x hx => h.names x (mem_wo.1 hx).1, fun x hx => h.sures x (mem_wo.1 hx).1, by show (tot (fwo t.L a) : Int) ≤ t.most; omega, h.most1, h.most2, h.bad⟩
theorem Ok.pt {t : St} (h : Ok t) (x : Fl) (hn : isNm x.nm = true) (hs : x.sure ≤ x.bs.length) (hr : (tot t.L : Int) + x.bs.length ≤ t.most + (Sto.got t.L x.nm).bs.length) : Ok ⟨fpt t.L x, t.most, t.bad⟩ := by
  have e := tot_pt h.rise x
  refine ⟨h.rise.pt x, fun y hy => ?_, fun y hy => ?_, by show (tot (fpt t.L x) : Int) ≤ t.most; omega, h.most1, h.most2, h.bad⟩
  · rcases mem_pt.1 hy with rfl | hy
    · exact hn
    · exact h.names y hy.1
  · rcases mem_pt.1 hy with rfl | hy
    · exact hs
    · exact h.sures y hy.1
theorem Ok.badly {t : St} (h : Ok t) (b : Int) (hb : -9223372036854775808 ≤ b ∧ b ≤ 9223372036854775807) : Ok ⟨t.L, t.most, b⟩ := ⟨h.rise, h.names, h.sures, h.room, h.most1, h.most2, hb⟩

/-! ### the calls -/
def begC (t : St) (a : Bs) : Int := if isNm a = true then (if 0 < t.bad then 12 else 0) else 1
def begT (t : St) (a : Bs) : St := if isNm a = true ∧ 0 < t.bad then ⟨t.L, t.most, t.bad - 1⟩ else t
def appC (t : St) (a s : Bs) : Int := if begC t a = 0 then (if (tot t.L : Int) + s.length > t.most then 6 else 0) else begC t a
def appT (t : St) (a s : Bs) : St := if begC t a = 0 then (if (tot t.L : Int) + s.length > t.most then t else ⟨fpt t.L ⟨a, (got t.L a).bs ++ s, (got t.L a).sure⟩, t.most, t.bad⟩) else begT t a
def synC (t : St) (a : Bs) : Int := if begC t a = 0 then (if (flk t.L a).isSome then 0 else 7) else begC t a
def synT (t : St) (a : Bs) : St := if begC t a = 0 then (if (flk t.L a).isSome then ⟨fpt t.L ⟨a, (got t.L a).bs, (got t.L a).bs.length⟩, t.most, t.bad⟩ else t) else begT t a
def renC (t : St) (a b : Bs) : Int := if begC t a = 0 then (if isNm b = true then (if (flk t.L a).isSome then 0 else 7) else 1) else begC t a
def renT (t : St) (a b : Bs) : St := if begC t a = 0 then (if isNm b = true ∧ (flk t.L a).isSome then ⟨fpt (fwo t.L a) ⟨b, (got t.L a).bs, (got t.L a).sure⟩, t.most, t.bad⟩ else t) else begT t a
def remC (t : St) (a : Bs) : Int := if begC t a = 0 then (if (flk t.L a).isSome then 0 else 7) else begC t a
def remT (t : St) (a : Bs) : St := if begC t a = 0 then (if (flk t.L a).isSome then ⟨fwo t.L a, t.most, t.bad⟩ else t) else begT t a
def cutN (x : Fl) (k : Int) : Nat := x.sure + (min (max k 0) ((x.bs.length : Int) - x.sure)).toNat
def cutF (x : Fl) (k : Int) : Fl := ⟨x.nm, x.bs.take (cutN x k), cutN x k⟩
theorem cutN_le {x : Fl} (h : x.sure ≤ x.bs.length) (k : Int) : x.sure ≤ cutN x k ∧ cutN x k ≤ x.bs.length := by unfold cutN; omega
def crsL (L : List Fl) (ks : List Int) : List Fl := L.mapIdx fun i x => cutF x (ks.getD i 0)
def crs (t : St) (ks : List Int) : St := ⟨crsL t.L ks, t.most, 0⟩

theorem begC_arg {t : St} {a : Bs} (h : isNm a = false) : begC t a = 1 ∧ begT t a = t := by simp [begC, begT, h]
theorem begC_io {t : St} {a : Bs} (h : isNm a = true) (k : 0 < t.bad) : begC t a = 12 ∧ begT t a = ⟨t.L, t.most, t.bad - 1⟩ := by simp [begC, begT, h, k]
theorem begC_ok {t : St} {a : Bs} (h : isNm a = true) (k : ¬ 0 < t.bad) : begC t a = 0 ∧ begT t a = t := by simp [begC, begT, h, k]
theorem Ok.beg {t : St} (h : Ok t) (a : Bs) : Ok (begT t a) := by
  have := h.bad
  unfold begT
  split
  · exact h.badly _ (by omega)
  · exact h
theorem Ok.app {t : St} (h : Ok t) (a s : Bs) : Ok (appT t a s) := by
  unfold appT
  split
  · rename_i h0
    have hn : isNm a = true := by
      cases hc : isNm a with
      | true => rfl
      | false => rw [(begC_arg hc).1] at h0; cases h0
    split
    · exact h
    · refine h.pt _ hn ?_ ?_
      · have := (h.got a).1; simp only [List.length_append]; omega
      · simp only [List.length_append]; omega
  · exact h.beg a
theorem beg_nm {t : St} {a : Bs} (h0 : begC t a = 0) : isNm a = true := by
  cases hc : isNm a with
  | true => rfl
  | false => rw [(begC_arg hc).1] at h0; cases h0
theorem Ok.syn {t : St} (h : Ok t) (a : Bs) : Ok (synT t a) := by
  unfold synT
  split
  · rename_i h0
    split
    · refine h.pt _ (beg_nm h0) (Nat.le_refl _) ?_
      have := h.room; simp only; omega
    · exact h
  · exact h.beg a
theorem Ok.ren {t : St} (h : Ok t) (a b : Bs) : Ok (renT t a b) := by
  unfold renT
  split
  · rename_i h0
    split
    · rename_i h1
      have h2 := h.wo a
      refine h2.pt _ h1.1 (h.got a).1 ?_
      have e := tot_wo h.rise a
      have := h.room; simp only; omega
    · exact h
  · exact h.beg a
theorem Ok.rem {t : St} (h : Ok t) (a : Bs) : Ok (remT t a) := by
  unfold remT
  split
  · split
    · exact h.wo a
    · exact h
  · exact h.beg a
theorem crs_len (L : List Fl) (ks : List Int) : (crsL L ks).length = L.length := by simp [crsL]
theorem crs_at (L : List Fl) (ks : List Int) (i : Nat) (h : i < L.length) : (crsL L ks)[i]'(by rw [crs_len]; exact h) = cutF L[i] (ks.getD i 0) := by simp [crsL]
theorem crs_mem {L : List Fl} {ks : List Int} {y : Fl} (h : y ∈ crsL L ks) : ∃ x ∈ L, ∃ k, y = cutF x k := by
  obtain ⟨i, hi, rfl⟩ := List.getElem_of_mem h
  have hi' : i < L.length := by rwa [crs_len] at hi
  exact ⟨L[i], List.getElem_mem hi', _, crs_at L ks i hi'⟩
theorem crs_names (L : List Fl) (ks : List Int) : (crsL L ks).map Fl.nm = L.map Fl.nm := by
  apply List.ext_getElem
  · simp [crsL]
  · intro i h1 h2; simp [crsL, cutF]
theorem crs_rise {L : List Fl} (h : Rise Fl.nm L) (ks : List Int) : Rise Fl.nm (crsL L ks) := by
  have e := (rise_map (nm := Fl.nm) (nb := id) Fl.nm (fun _ => rfl) (L := L)).1 h
  rw [← crs_names L ks] at e
  exact (rise_map (nm := Fl.nm) (nb := id) Fl.nm (fun _ => rfl)).2 e
theorem tot_cut {L : List Fl} (h : ∀ x ∈ L, x.sure ≤ x.bs.length) (ks : List Int) : tot (crsL L ks) ≤ tot L := by
  induction L generalizing ks with
  | nil => simp [crsL, tot]
  | cons x r ih =>
    have e : crsL (x :: r) ks = cutF x (ks.getD 0 0) :: crsL r ks.tail := by
      unfold crsL
      rw [List.mapIdx_cons]
      congr 1
      apply List.ext_getElem
      · simp
      · intro i h1 h2
        simp only [List.getElem_mapIdx]
        congr 1
        cases ks <;> simp
    rw [e, tot_cons, tot_cons]
    have h1 := ih (fun y hy => h y (List.mem_cons_of_mem _ hy)) ks.tail
    have h2 := (cutN_le (h x (List.mem_cons_self ..)) (ks.getD 0 0)).2
    have h3 : (cutF x (ks.getD 0 0)).bs.length ≤ x.bs.length := by simp only [cutF, List.length_take]; omega
    omega
theorem Ok.crs {t : St} (h : Ok t) (ks : List Int) : Ok (crs t ks) := by
  refine ⟨crs_rise h.rise ks, fun y hy => ?_, fun y hy => ?_, ?_, h.most1, h.most2, by show -9223372036854775808 ≤ (0 : Int) ∧ (0 : Int) ≤ _; omega⟩
  · obtain ⟨x, hx, k, rfl⟩ := crs_mem hy; exact h.names x hx
  · obtain ⟨x, hx, k, rfl⟩ := crs_mem hy
    have := (cutN_le (h.sures x hx) k).2
    simp only [cutF, List.length_take]; omega
  · have := tot_cut h.sures ks
    have := h.room
    show ((tot (crsL t.L ks) : Nat) : Int) ≤ t.most
    omega
end Go.Proofs.YtememmgnhnldaaaDoor.Sto

/-
  Layer 11 (store): the calls that write, and Read, in one form.
-/
import Derived.Test.YtememmgnhnldaaaDoorStoSyn
import Derived.Test.YtememmgnhnldaaaDoorStoErr
namespace Go.Proofs.YtememmgnhnldaaaDoor.Sto
open Go.RowKit Go.Proofs.YtememmgnhnldaaaDoor.Own Go.Proofs.YtememmgnhnldaaaDoor.KM Go.Proofs.YtememmgnhnldaaaDoor.Flt
open Go.Proofs.YtememmgnhnldaaaDoor.Rw (str strs Row1)

abbrev pb (b : Nat) : Value := .pointer (some ⟨b, 0, none⟩)

section
variable {w : World} {bs : Nat → Prop} {b : Nat} {t : St}

/-- an error is told, and nothing but new blocks -/
theorem doesE_err {w1 w' : World} {t' : St} {c : Int} {e : Ending} (hc : c ≠ 0) (hs : Sto w1 bs b t') (ho : Out bs w w1) (he : e = .returned (errv w1)) (hw : w' = w1.alloc (fblk c)) : DoesE w bs e w' b t' c := by
  subst hw he
  refine ⟨_, w1.heap.size, bs, rfl, .inr ⟨hc, rfl, at_new _ _⟩, fun _ => ⟨ho.size, fun h => by have := hs.all _ h; omega⟩, hs.below ((Below.refl _ _).alloc (Nat.le_refl _) _), ho.alloc _, fun _ h => .inl h⟩
/-- no error, and a store in parts -/
theorem doesE_ok {w' : World} {m : Nat} {V : List En} {t' : St} {e : Ending} {most total bad : Int} (he : e = .returned .nilIface) (h : Leaves w bs w' b m V most total bad) (hV : V.map En.fl = t'.L) (hm : t'.most = most) (ht : (tot t'.L : Int) = total) (hb : t'.bad = bad) (hok : Ok t') :
    DoesE w bs e w' b t' 0 := by
  obtain ⟨bs', hB, ho, h1, h2⟩ := h
  exact ⟨_, 0, bs', he, .inl ⟨rfl, rfl⟩, fun h => absurd rfl h, ⟨hok, h2, m, V, hV, by rw [hm, ht, hb]; exact hB⟩, ho, h1⟩
theorem Sto.badly (h : Sto w bs b t) (n : Int) (hn : -9223372036854775808 ≤ n ∧ n ≤ 9223372036854775807) : Sto (w.setCell ⟨b, 3, none⟩ (.int .i64 n)) bs b ⟨t.L, t.most, n⟩ ∧ Out bs w (w.setCell ⟨b, 3, none⟩ (.int .i64 n)) := by
  obtain ⟨m, V, e, hB⟩ := h.is
  have o := (Out.refl bs w).setCell (p := ⟨b, 3, none⟩) (fun _ => hB.bb) (.int .i64 n)
  exact ⟨⟨h.ok.badly n hn, fun k hk => Nat.lt_of_lt_of_le (h.all k hk) o.size, m, V, e, hB.bad_ n⟩, o⟩
/-- the two ways that end ahead of the call -/
theorem beg_ways (h : Sto w bs b t) (a : ByteArray) {F : FuncId} {args : Array Value} {T : St} {C : Int}
    (harg : isNm a.data.toList = false → T = t → C = 1 → Calls Tryd.prog F args w fun e w' => e = .returned (errv w) ∧ w' = w.alloc (fblk 1))
    (hio : isNm a.data.toList = true → 0 < t.bad → Calls Tryd.prog F args w fun e w' => e = .returned (errv w) ∧ w' = (w.setCell ⟨b, 3, none⟩ (.int .i64 (t.bad - 1))).alloc (fblk 12))
    (hok : isNm a.data.toList = true → ¬ 0 < t.bad → begC t a.data.toList = 0 → Calls Tryd.prog F args w fun e w' => DoesE w bs e w' b T C)
    (hT : begC t a.data.toList ≠ 0 → T = begT t a.data.toList ∧ C = begC t a.data.toList) : Calls Tryd.prog F args w fun e w' => DoesE w bs e w' b T C := by
  cases hn : isNm a.data.toList with
  | false =>
    obtain ⟨e1, e2⟩ := begC_arg (t := t) hn
    obtain ⟨rfl, rfl⟩ := hT (by rw [e1]; decide)
    rw [e1, e2] at *
    exact (harg hn rfl rfl).mono fun e w' ⟨he, hw⟩ => doesE_err (by decide) h (Out.refl _ _) he hw
  | true =>
    by_cases hb : 0 < t.bad
    · obtain ⟨e1, e2⟩ := begC_io hn hb
      obtain ⟨rfl, rfl⟩ := hT (by rw [e1]; decide)
      rw [e1, e2]
      have hbd := h.ok.bad
      obtain ⟨s1, s2⟩ := h.badly (t.bad - 1) (by omega)
      exact (hio hn hb).mono fun e w' ⟨he, hw⟩ => doesE_err (by decide) s1 s2 (by
        rw [he]
        have : (w.setCell ⟨b, 3, none⟩ (.int .i64 (t.bad - 1))).heap.size = w.heap.size := by simp
        unfold errv; rw [this]) hw
    · exact hok hn hb (begC_ok hn hb).1
theorem tot_top (h : Ok t) : 0 ≤ (tot t.L : Int) ∧ (tot t.L : Int) ≤ 16777216 := by have := h.room; have := h.most2; omega

theorem sto_app (h : Sto w bs b t) (a s : ByteArray) (hs : s.size ≤ 4611686018427387904) :
    Calls Tryd.prog 15 #[pb b, .string a, .string s] w fun e w' => DoesE w bs e w' b (appT t a.data.toList s.data.toList) (appC t a.data.toList s.data.toList) := by
  obtain ⟨m, V, eV, hB⟩ := h.is
  have hsz : s.data.toList.length = s.size := rfl
  refine beg_ways h a (fun hn _ _ => app_arg a s hB.box hn) (fun hn hb => app_io a s hB.box hn hb h.ok.bad.2) (fun hn hb h0 => ?_) (fun h0 => ⟨if_neg h0, if_neg h0⟩)
  obtain ⟨t0, t1⟩ := tot_top h.ok
  unfold appT appC
  rw [if_pos h0, if_pos h0, hsz]
  by_cases hf : (tot t.L : Int) + s.size > t.most
  · rw [if_pos hf, if_pos hf]
    refine (app_full hB a s hn hb t0 t1 hs (by omega)).mono fun e w' ⟨q, he, hw⟩ => ?_
    have o : Out bs w (w.drewN q) := ⟨rfl, rfl, rfl, Nat.le_refl _, fun _ _ _ => rfl⟩
    exact doesE_err (w1 := w.drewN q) (by decide) (h.below ⟨rfl, rfl, rfl, Nat.le_refl _, fun _ _ => rfl⟩) o he hw
  · rw [if_neg hf, if_neg hf]
    have hg := (h.ok.got a.data.toList).2
    refine (app_ok hB h.all a s hn hb t0 h.ok.most2 (by omega) (by rw [eV]; omega)).mono fun e w' ⟨he, sl, hL⟩ => ?_
    rw [eV] at hL
    have hok := h.ok.app a.data.toList s.data.toList
    unfold appT at hok
    rw [if_pos h0, hsz, if_neg hf] at hok
    refine doesE_ok he hL ?_ rfl ?_ rfl hok
    · rw [pt_map En.fl (fun _ => rfl), eV]
    · have e1 := tot_pt h.ok.rise ⟨a.data.toList, (got t.L a.data.toList).bs ++ s.data.toList, (got t.L a.data.toList).sure⟩
      simp only [List.length_append, hsz] at e1
      show ((tot (fpt t.L _) : Nat) : Int) = _
      omega
theorem sto_syn (h : Sto w bs b t) (a : ByteArray) :
    Calls Tryd.prog 17 #[pb b, .string a] w fun e w' => DoesE w bs e w' b (synT t a.data.toList) (synC t a.data.toList) := by
  obtain ⟨m, V, eV, hB⟩ := h.is
  refine beg_ways h a (fun hn _ _ => syn_arg a hB.box hn) (fun hn hb => syn_io a hB.box hn hb h.ok.bad.2) (fun hn hb h0 => ?_) (fun h0 => ⟨if_neg h0, if_neg h0⟩)
  have hok := h.ok.syn a.data.toList
  unfold synT synC at *
  rw [if_pos h0] at hok
  rw [if_pos h0, if_pos h0]
  cases hl : flk t.L a.data.toList with
  | none =>
    refine (syn_gone hB a hn hb (by rw [eV]; exact hl)).mono fun e w' ⟨o, he, hw⟩ => ?_
    exact doesE_err (by decide) (h.below ((Below.refl _ _).alloc (Nat.le_refl _) o)) ((Out.refl _ _).alloc _) he hw
  | some x =>
    rw [hl] at hok
    refine (syn_ok hB h.all a hn hb (by rw [eV, hl]; rfl)).mono fun e w' ⟨he, sl, hL⟩ => ?_
    rw [eV] at hL
    refine doesE_ok he hL ?_ rfl ?_ rfl hok
    · rw [pt_map En.fl (fun _ => rfl), eV]; rfl
    · have e1 := tot_pt h.ok.rise ⟨a.data.toList, (got t.L a.data.toList).bs, (got t.L a.data.toList).bs.length⟩
      simp only at e1
      show ((tot (fpt t.L _) : Nat) : Int) = _
      omega
theorem sto_rem (h : Sto w bs b t) (a : ByteArray) :
    Calls Tryd.prog 25 #[pb b, .string a] w fun e w' => DoesE w bs e w' b (remT t a.data.toList) (remC t a.data.toList) := by
  obtain ⟨m, V, eV, hB⟩ := h.is
  refine beg_ways h a (fun hn _ _ => rem_arg a hB.box hn) (fun hn hb => rem_io a hB.box hn hb h.ok.bad.2) (fun hn hb h0 => ?_) (fun h0 => ⟨if_neg h0, if_neg h0⟩)
  have hok := h.ok.rem a.data.toList
  obtain ⟨t0, t1⟩ := tot_top h.ok
  unfold remT remC at *
  rw [if_pos h0] at hok
  rw [if_pos h0, if_pos h0]
  cases hl : flk t.L a.data.toList with
  | none =>
    refine (rem_gone hB a hn hb (by rw [eV]; exact hl)).mono fun e w' ⟨o, he, hw⟩ => ?_
    exact doesE_err (by decide) (h.below ((Below.refl _ _).alloc (Nat.le_refl _) o)) ((Out.refl _ _).alloc _) he hw
  | some x =>
    rw [hl] at hok
    have hg := (h.ok.got a.data.toList).2
    refine (rem_ok hB h.all a hn hb (by rw [eV, hl]; rfl) (by rw [eV]; omega) t1).mono fun e w' ⟨he, hL⟩ => ?_
    rw [eV] at hL
    refine doesE_ok he hL ?_ rfl ?_ rfl hok
    · rw [wo_map En.fl (fun _ => rfl), eV]; rfl
    · have e1 := tot_wo h.ok.rise a.data.toList
      show ((tot (fwo t.L _) : Nat) : Int) = _
      omega
theorem sto_ren (h : Sto w bs b t) (a d : ByteArray) :
    Calls Tryd.prog 26 #[pb b, .string a, .string d] w fun e w' => DoesE w bs e w' b (renT t a.data.toList d.data.toList) (renC t a.data.toList d.data.toList) := by
  obtain ⟨m, V, eV, hB⟩ := h.is
  refine beg_ways h a (fun hn _ _ => ren_arg a d hB.box hn) (fun hn hb => ren_io a d hB.box hn hb h.ok.bad.2) (fun hn hb h0 => ?_) (fun h0 => ⟨if_neg h0, if_neg h0⟩)
  have hok := h.ok.ren a.data.toList d.data.toList
  obtain ⟨t0, t1⟩ := tot_top h.ok
  unfold renT renC at *
  rw [if_pos h0] at hok
  rw [if_pos h0, if_pos h0]
  cases hd : isNm d.data.toList with
  | false =>
    refine (ren_to hB a d hn hd hb).mono fun e w' ⟨he, hw⟩ => ?_
    simp only [Bool.false_eq_true, false_and, if_false]
    exact doesE_err (by decide) h (Out.refl _ _) he hw
  | true =>
    rw [hd] at hok
    cases hl : flk t.L a.data.toList with
    | none =>
      refine (ren_gone hB a d hn hd hb (by rw [eV]; exact hl)).mono fun e w' ⟨o, he, hw⟩ => ?_
      simp only [Option.isSome_none, Bool.false_eq_true, and_false, if_false, if_true]
      exact doesE_err (by decide) (h.below ((Below.refl _ _).alloc (Nat.le_refl _) o)) ((Out.refl _ _).alloc _) he hw
    | some x =>
      rw [hl] at hok
      simp only [Option.isSome_some, and_self, if_true] at hok ⊢
      have hg := (h.ok.got a.data.toList).2
      have e0 := tot_wo h.ok.rise a.data.toList
      have hg2 := ((h.ok.wo a.data.toList).got d.data.toList).2
      simp only at hg2
      refine (ren_ok hB h.all a d hn hd hb (by rw [eV, hl]; rfl) (by rw [eV]; omega) t1).mono fun e w' ⟨he, sl, hL⟩ => ?_
      rw [eV] at hL
      refine doesE_ok he hL ?_ rfl ?_ rfl hok
      · rw [pt_map En.fl (fun _ => rfl), wo_map En.fl (fun _ => rfl), eV]
      · have e1 : tot (fpt (fwo t.L a.data.toList) ⟨d.data.toList, (got t.L a.data.toList).bs, (got t.L a.data.toList).sure⟩) + (got (fwo t.L a.data.toList) d.data.toList).bs.length = tot (fwo t.L a.data.toList) + (got t.L a.data.toList).bs.length :=
          tot_pt (h.ok.rise.wo a.data.toList) ⟨d.data.toList, (got t.L a.data.toList).bs, (got t.L a.data.toList).sure⟩
        show ((tot (fpt (fwo t.L _) _) : Nat) : Int) = _
        omega
theorem sto_fail (h : Sto w bs b t) (n : Int) (hn : -9223372036854775808 ≤ n ∧ n ≤ 9223372036854775807) :
    Calls Tryd.prog 9 #[pb b, .int .i64 n] w fun e w' => e = .returned (.tuple #[]) ∧ Sto w' bs b ⟨t.L, t.most, n⟩ ∧ Out bs w w' := by
  obtain ⟨m, V, eV, hB⟩ := h.is
  refine (fail_calls hB n).mono fun e w' ⟨he, hw⟩ => ?_
  subst hw
  exact ⟨he, h.badly n hn⟩
theorem sto_read (h : Sto w bs b t) (s : ByteArray) (hs : s.size ≤ maxLen) :
    Calls Tryd.prog 7 #[pb b, .string s] w fun e w' => e = .returned (.tuple #[.string ⟨(got t.L s.data.toList).bs.toArray⟩, .bool (flk t.L s.data.toList).isSome]) ∧ Below w.heap.size w w' := by
  obtain ⟨m, V, eV, hB⟩ := h.is
  rw [← eV]; exact read_calls hB s hs
end
end Go.Proofs.YtememmgnhnldaaaDoor.Sto

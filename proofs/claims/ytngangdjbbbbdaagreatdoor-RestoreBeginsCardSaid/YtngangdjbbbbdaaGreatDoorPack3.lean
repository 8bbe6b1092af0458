/-
Layer 11 (store): the calls that write, where they tell what is told ahead of each. Written by gen_stoerr.py.
Layer 11 (store): the calls that write, and Read, in one form.
Layer 11 (store): a store of one's own, and the errors that were told.
Rows of the call's own: kept outside what is written; their blocks, their shape.
Layer 2 (digit): the document's own answers, walked: digits, decimals.
Layer 2 (digit): the program's Put, walked.
Layer 21 (gens): names of generations, both; the names of so many; whether there is a file; each is told.
Layer 21 (gens): each of those that there are is told; Names, All.
Layer 21 (gens): All.
Layer 21 (gens): All, with the type of what the texts lie in.
Layer 7 (sum): sums of bytes by a polynomial; plain Lean.
Layer 7 (sum): sums as bytes, the sum of two texts by powers; plain Lean.
Items: a kind, a tick, bytes.
-/
import Derived.Test.YtngangdjbbbbdaaGreatDoorPack2
import Derived.Maps.AppendAt
import Derived.WalkKit
import Derived.WalkSpells
import Derived.Test.YtngangdjbbbbdaaGreatDoorProg
import Derived.Lib.Hide
import Derived.ScopeJumps
import Derived.WalkMore
import Derived.Shelf.Abstract
section
namespace Go.Proofs.YtngangdjbbbbdaaGreatDoor.Sto
open Go.RowKit Go.Proofs.YtngangdjbbbbdaaGreatDoor.Own Go.Proofs.YtngangdjbbbbdaaGreatDoor.KM Go.Proofs.YtngangdjbbbbdaaGreatDoor.Flt
set_option maxRecDepth 100000 in
theorem app_none (a s : ByteArray) (w : World) : Calls Tryz.prog 16 #[.pointer none, .string a, .string s] w fun e w' => e = .returned (errv w) ∧ w' = w.alloc (fblk 14) := by
  go_enter Tryz.func16, Tryz.ntmps16
  go_wp2_with (go_at_call 40; refine (begin_none _ _).mono ?_; unfold errv; rintro e w' ⟨rfl, rfl⟩)
  go_ret
  exact ⟨rfl, rfl⟩
set_option maxRecDepth 100000 in
theorem app_arg (a s : ByteArray) {w : World} {b m : Nat} {most total bad : Int} (h : w.heap[b]? = some (.cells #[.map (some m), .int .i64 most, .int .i64 total, .int .i64 bad] 64 (0, 0))) (hn : isNm a.data.toList = false) : Calls Tryz.prog 16 #[.pointer (some ⟨b, 0, none⟩), .string a, .string s] w fun e w' => e = .returned (errv w) ∧ w' = w.alloc (fblk 1) := by
  have hB := Lib.hid (begin_arg a h hn)
  clear h
  go_enter Tryz.func16, Tryz.ntmps16
  go_wp2_with (go_at_call 40; refine (hB.out).mono ?_; unfold errv; rintro e w' ⟨rfl, rfl⟩)
  go_ret
  exact ⟨rfl, rfl⟩
set_option maxRecDepth 100000 in
theorem app_io (a s : ByteArray) {w : World} {b m : Nat} {most total bad : Int} (h : w.heap[b]? = some (.cells #[.map (some m), .int .i64 most, .int .i64 total, .int .i64 bad] 64 (0, 0))) (hn : isNm a.data.toList = true) (hb : 0 < bad) (hb2 : bad ≤ 9223372036854775807) : Calls Tryz.prog 16 #[.pointer (some ⟨b, 0, none⟩), .string a, .string s] w fun e w' => e = .returned (errv w) ∧ w' = (w.setCell ⟨b, 3, none⟩ (.int .i64 (bad - 1))).alloc (fblk 12) := by
  have hB := Lib.hid (begin_io a h hn hb hb2)
  clear h
  go_enter Tryz.func16, Tryz.ntmps16
  go_wp2_with (go_at_call 40; refine (hB.out).mono ?_; unfold errv; rintro e w' ⟨rfl, rfl⟩)
  go_ret
  exact ⟨rfl, rfl⟩
set_option maxRecDepth 100000 in
theorem syn_none (a : ByteArray) (w : World) : Calls Tryz.prog 19 #[.pointer none, .string a] w fun e w' => e = .returned (errv w) ∧ w' = w.alloc (fblk 14) := by
  go_enter Tryz.func19, Tryz.ntmps19
  go_wp2_with (go_at_call 40; refine (begin_none _ _).mono ?_; unfold errv; rintro e w' ⟨rfl, rfl⟩)
  go_ret
  exact ⟨rfl, rfl⟩
set_option maxRecDepth 100000 in
theorem syn_arg (a : ByteArray) {w : World} {b m : Nat} {most total bad : Int} (h : w.heap[b]? = some (.cells #[.map (some m), .int .i64 most, .int .i64 total, .int .i64 bad] 64 (0, 0))) (hn : isNm a.data.toList = false) : Calls Tryz.prog 19 #[.pointer (some ⟨b, 0, none⟩), .string a] w fun e w' => e = .returned (errv w) ∧ w' = w.alloc (fblk 1) := by
  have hB := Lib.hid (begin_arg a h hn)
  clear h
  go_enter Tryz.func19, Tryz.ntmps19
  go_wp2_with (go_at_call 40; refine (hB.out).mono ?_; unfold errv; rintro e w' ⟨rfl, rfl⟩)
  go_ret
  exact ⟨rfl, rfl⟩
set_option maxRecDepth 100000 in
theorem syn_io (a : ByteArray) {w : World} {b m : Nat} {most total bad : Int} (h : w.heap[b]? = some (.cells #[.map (some m), .int .i64 most, .int .i64 total, .int .i64 bad] 64 (0, 0))) (hn : isNm a.data.toList = true) (hb : 0 < bad) (hb2 : bad ≤ 9223372036854775807) : Calls Tryz.prog 19 #[.pointer (some ⟨b, 0, none⟩), .string a] w fun e w' => e = .returned (errv w) ∧ w' = (w.setCell ⟨b, 3, none⟩ (.int .i64 (bad - 1))).alloc (fblk 12) := by
  have hB := Lib.hid (begin_io a h hn hb hb2)
  clear h
  go_enter Tryz.func19, Tryz.ntmps19
  go_wp2_with (go_at_call 40; refine (hB.out).mono ?_; unfold errv; rintro e w' ⟨rfl, rfl⟩)
  go_ret
  exact ⟨rfl, rfl⟩
set_option maxRecDepth 100000 in
theorem ren_none (a s : ByteArray) (w : World) : Calls Tryz.prog 48 #[.pointer none, .string a, .string s] w fun e w' => e = .returned (errv w) ∧ w' = w.alloc (fblk 14) := by
  go_enter Tryz.func48, Tryz.ntmps48
  go_wp2_with (go_at_call 40; refine (begin_none _ _).mono ?_; unfold errv; rintro e w' ⟨rfl, rfl⟩)
  go_ret
  exact ⟨rfl, rfl⟩
set_option maxRecDepth 100000 in
theorem ren_arg (a s : ByteArray) {w : World} {b m : Nat} {most total bad : Int} (h : w.heap[b]? = some (.cells #[.map (some m), .int .i64 most, .int .i64 total, .int .i64 bad] 64 (0, 0))) (hn : isNm a.data.toList = false) : Calls Tryz.prog 48 #[.pointer (some ⟨b, 0, none⟩), .string a, .string s] w fun e w' => e = .returned (errv w) ∧ w' = w.alloc (fblk 1) := by
  have hB := Lib.hid (begin_arg a h hn)
  clear h
  go_enter Tryz.func48, Tryz.ntmps48
  go_wp2_with (go_at_call 40; refine (hB.out).mono ?_; unfold errv; rintro e w' ⟨rfl, rfl⟩)
  go_ret
  exact ⟨rfl, rfl⟩
set_option maxRecDepth 100000 in
theorem ren_io (a s : ByteArray) {w : World} {b m : Nat} {most total bad : Int} (h : w.heap[b]? = some (.cells #[.map (some m), .int .i64 most, .int .i64 total, .int .i64 bad] 64 (0, 0))) (hn : isNm a.data.toList = true) (hb : 0 < bad) (hb2 : bad ≤ 9223372036854775807) : Calls Tryz.prog 48 #[.pointer (some ⟨b, 0, none⟩), .string a, .string s] w fun e w' => e = .returned (errv w) ∧ w' = (w.setCell ⟨b, 3, none⟩ (.int .i64 (bad - 1))).alloc (fblk 12) := by
  have hB := Lib.hid (begin_io a h hn hb hb2)
  clear h
  go_enter Tryz.func48, Tryz.ntmps48
  go_wp2_with (go_at_call 40; refine (hB.out).mono ?_; unfold errv; rintro e w' ⟨rfl, rfl⟩)
  go_ret
  exact ⟨rfl, rfl⟩
set_option maxRecDepth 100000 in
theorem rem_none (a : ByteArray) (w : World) : Calls Tryz.prog 47 #[.pointer none, .string a] w fun e w' => e = .returned (errv w) ∧ w' = w.alloc (fblk 14) := by
  go_enter Tryz.func47, Tryz.ntmps47
  go_wp2_with (go_at_call 40; refine (begin_none _ _).mono ?_; unfold errv; rintro e w' ⟨rfl, rfl⟩)
  go_ret
  exact ⟨rfl, rfl⟩
set_option maxRecDepth 100000 in
theorem rem_arg (a : ByteArray) {w : World} {b m : Nat} {most total bad : Int} (h : w.heap[b]? = some (.cells #[.map (some m), .int .i64 most, .int .i64 total, .int .i64 bad] 64 (0, 0))) (hn : isNm a.data.toList = false) : Calls Tryz.prog 47 #[.pointer (some ⟨b, 0, none⟩), .string a] w fun e w' => e = .returned (errv w) ∧ w' = w.alloc (fblk 1) := by
  have hB := Lib.hid (begin_arg a h hn)
  clear h
  go_enter Tryz.func47, Tryz.ntmps47
  go_wp2_with (go_at_call 40; refine (hB.out).mono ?_; unfold errv; rintro e w' ⟨rfl, rfl⟩)
  go_ret
  exact ⟨rfl, rfl⟩
set_option maxRecDepth 100000 in
theorem rem_io (a : ByteArray) {w : World} {b m : Nat} {most total bad : Int} (h : w.heap[b]? = some (.cells #[.map (some m), .int .i64 most, .int .i64 total, .int .i64 bad] 64 (0, 0))) (hn : isNm a.data.toList = true) (hb : 0 < bad) (hb2 : bad ≤ 9223372036854775807) : Calls Tryz.prog 47 #[.pointer (some ⟨b, 0, none⟩), .string a] w fun e w' => e = .returned (errv w) ∧ w' = (w.setCell ⟨b, 3, none⟩ (.int .i64 (bad - 1))).alloc (fblk 12) := by
  have hB := Lib.hid (begin_io a h hn hb hb2)
  clear h
  go_enter Tryz.func47, Tryz.ntmps47
  go_wp2_with (go_at_call 40; refine (hB.out).mono ?_; unfold errv; rintro e w' ⟨rfl, rfl⟩)
  go_ret
  exact ⟨rfl, rfl⟩
end Go.Proofs.YtngangdjbbbbdaaGreatDoor.Sto
end

section
namespace Go.Proofs.YtngangdjbbbbdaaGreatDoor.Sto
open Go.RowKit Go.Proofs.YtngangdjbbbbdaaGreatDoor.Own Go.Proofs.YtngangdjbbbbdaaGreatDoor.KM Go.Proofs.YtngangdjbbbbdaaGreatDoor.Flt
open Go.Proofs.YtngangdjbbbbdaaGreatDoor.Rw (str strs Row1)

abbrev pb (b : Nat) : Value := .pointer (some ⟨b, 0, none⟩)

section
variable {w : World} {bs : Nat → Prop} {b : Nat} {t : St}

/-- an error is told, and nothing but new blocks -/
theorem doesE_err {w1 w' : World} {t' : St} {c : Int} {e : Ending} (hc : c ≠ 0) (hs : Sto w1 bs b t') (ho : Out bs w w1) (he : e = .returned (errv w1)) (hw : w' = w1.alloc (fblk c)) : DoesE w bs e w' b t' c := by
  subst hw he
  refine ⟨_, w1.heap.size, bs, rfl, .inr ⟨hc, rfl, at_new _ _⟩, fun _ => ⟨ho.size, fun h => by have := hs.all _ h; omega⟩, hs.below ((Below.refl _ _).alloc (Nat.le_refl _) _), ho.alloc _, fun _ h => .inl h⟩
/-- no error, and a store in parts -/
theorem doesE_ok {w' : World} {m : Nat} {V : List En} {t' : St} {e : Ending} {most total bad : Int} (he : e = .returned .nilIface) (h : Leaves w bs w' b m V most total bad) (hV : V.map En.fl = t'.L) (hm : t'.most = most) (ht : (tot t'.L : Int) = total) (hb : t'.bad = bad) (hok : Ok t') :
    DoesE w bs e w' b t' 0 := by
  obtain ⟨bs', hB, ho, h1, h2⟩ := h
  exact ⟨_, 0, bs', he, .inl ⟨rfl, rfl⟩, fun h => absurd rfl h, ⟨hok, h2, m, V, hV, by rw [hm, ht, hb]; exact hB⟩, ho, h1⟩
theorem Sto.badly (h : Sto w bs b t) (n : Int) (hn : -9223372036854775808 ≤ n ∧ n ≤ 9223372036854775807) : Sto (w.setCell ⟨b, 3, none⟩ (.int .i64 n)) bs b ⟨t.L, t.most, n⟩ ∧ Out bs w (w.setCell ⟨b, 3, none⟩ (.int .i64 n)) := by
  obtain ⟨m, V, e, hB⟩ := h.is
  have o := (Out.refl bs w).setCell (p := ⟨b, 3, none⟩) (fun _ => hB.bb) (.int .i64 n)
  exact ⟨⟨h.ok.badly n hn, fun k hk => Nat.lt_of_lt_of_le (h.all k hk) o.size, m, V, e, hB.bad_ n⟩, o⟩
/-- the two ways that end ahead of the call -/
theorem beg_ways (h : Sto w bs b t) (a : ByteArray) {F : FuncId} {args : Array Value} {T : St} {C : Int}
    (harg : isNm a.data.toList = false → T = t → C = 1 → Calls Tryz.prog F args w fun e w' => e = .returned (errv w) ∧ w' = w.alloc (fblk 1))
    (hio : isNm a.data.toList = true → 0 < t.bad → Calls Tryz.prog F args w fun e w' => e = .returned (errv w) ∧ w' = (w.setCell ⟨b, 3, none⟩ (.int .i64 (t.bad - 1))).alloc (fblk 12))
    (hok : isNm a.data.toList = true → ¬ 0 < t.bad → begC t a.data.toList = 0 → Calls Tryz.prog F args w fun e w' => DoesE w bs e w' b T C)
    (hT : begC t a.data.toList ≠ 0 → T = begT t a.data.toList ∧ C = begC t a.data.toList) : Calls Tryz.prog F args w fun e w' => DoesE w bs e w' b T C := by
  cases hn : isNm a.data.toList with
  | false =>
    obtain ⟨e1, e2⟩ := begC_arg (t := t) hn
    obtain ⟨rfl, rfl⟩ := hT (by rw [e1]; decide)
    rw [e1, e2] at *
    exact (harg hn rfl rfl).mono fun e w' ⟨he, hw⟩ => doesE_err (by decide) h (Out.refl _ _) he hw
  | true =>
    by_cases hb : 0 < t.bad
    · obtain ⟨e1, e2⟩ := begC_io hn hb
      obtain ⟨rfl, rfl⟩ := hT (by rw [e1]; decide)
      rw [e1, e2]
      have hbd := h.ok.bad
      obtain ⟨s1, s2⟩ := h.badly (t.bad - 1) (by omega)
      exact (hio hn hb).mono fun e w' ⟨he, hw⟩ => doesE_err (by decide) s1 s2 (by
        rw [he]
        have : (w.setCell ⟨b, 3, none⟩ (.int .i64 (t.bad - 1))).heap.size = w.heap.size := by simp
        unfold errv; rw [this]) hw
    · exact hok hn hb (begC_ok hn hb).1
theorem tot_top (h : Ok t) : 0 ≤ (tot t.L : Int) ∧ (tot t.L : Int) ≤ 16777216 := by have := h.room; have := h.most2; omega

theorem sto_app (h : Sto w bs b t) (a s : ByteArray) (hs : s.size ≤ 4611686018427387904) :
    Calls Tryz.prog 16 #[pb b, .string a, .string s] w fun e w' => DoesE w bs e w' b (appT t a.data.toList s.data.toList) (appC t a.data.toList s.data.toList) := by
  obtain ⟨m, V, eV, hB⟩ := h.is
  have hsz : s.data.toList.length = s.size := rfl
  refine beg_ways h a (fun hn _ _ => app_arg a s hB.box hn) (fun hn hb => app_io a s hB.box hn hb h.ok.bad.2) (fun hn hb h0 => ?_) (fun h0 => ⟨if_neg h0, if_neg h0⟩)
  obtain ⟨t0, t1⟩ := tot_top h.ok
  unfold appT appC
  rw [if_pos h0, if_pos h0, hsz]
  by_cases hf : (tot t.L : Int) + s.size > t.most
  · rw [if_pos hf, if_pos hf]
    refine (app_full hB a s hn hb t0 t1 hs (by omega)).mono fun e w' ⟨q, he, hw⟩ => ?_
    have o : Out bs w (w.drewN q) := ⟨rfl, rfl, rfl, Nat.le_refl _, fun _ _ _ => rfl⟩
    exact doesE_err (w1 := w.drewN q) (by decide) (h.below ⟨rfl, rfl, rfl, Nat.le_refl _, fun _ _ => rfl⟩) o he hw
  · rw [if_neg hf, if_neg hf]
    have hg := (h.ok.got a.data.toList).2
    refine (app_ok hB h.all a s hn hb t0 h.ok.most2 (by omega) (by rw [eV]; omega)).mono fun e w' ⟨he, sl, hL⟩ => ?_
    rw [eV] at hL
    have hok := h.ok.app a.data.toList s.data.toList
    unfold appT at hok
    rw [if_pos h0, hsz, if_neg hf] at hok
    refine doesE_ok he hL ?_ rfl ?_ rfl hok
    · rw [pt_map En.fl (fun _ => rfl), eV]
    · have e1 := tot_pt h.ok.rise ⟨a.data.toList, (got t.L a.data.toList).bs ++ s.data.toList, (got t.L a.data.toList).sure⟩
      simp only [List.length_append, hsz] at e1
      show ((tot (fpt t.L _) : Nat) : Int) = _
      omega
theorem sto_syn (h : Sto w bs b t) (a : ByteArray) :
    Calls Tryz.prog 19 #[pb b, .string a] w fun e w' => DoesE w bs e w' b (synT t a.data.toList) (synC t a.data.toList) := by
  obtain ⟨m, V, eV, hB⟩ := h.is
  refine beg_ways h a (fun hn _ _ => syn_arg a hB.box hn) (fun hn hb => syn_io a hB.box hn hb h.ok.bad.2) (fun hn hb h0 => ?_) (fun h0 => ⟨if_neg h0, if_neg h0⟩)
  have hok := h.ok.syn a.data.toList
  unfold synT synC at *
  rw [if_pos h0] at hok
  rw [if_pos h0, if_pos h0]
  cases hl : flk t.L a.data.toList with
  | none =>
    refine (syn_gone hB a hn hb (by rw [eV]; exact hl)).mono fun e w' ⟨o, he, hw⟩ => ?_
    exact doesE_err (by decide) (h.below ((Below.refl _ _).alloc (Nat.le_refl _) o)) ((Out.refl _ _).alloc _) he hw
  | some x =>
    rw [hl] at hok
    refine (syn_ok hB h.all a hn hb (by rw [eV, hl]; rfl)).mono fun e w' ⟨he, sl, hL⟩ => ?_
    rw [eV] at hL
    refine doesE_ok he hL ?_ rfl ?_ rfl hok
    · rw [pt_map En.fl (fun _ => rfl), eV]; rfl
    · have e1 := tot_pt h.ok.rise ⟨a.data.toList, (got t.L a.data.toList).bs, (got t.L a.data.toList).bs.length⟩
      simp only at e1
      show ((tot (fpt t.L _) : Nat) : Int) = _
      omega
theorem sto_rem (h : Sto w bs b t) (a : ByteArray) :
    Calls Tryz.prog 47 #[pb b, .string a] w fun e w' => DoesE w bs e w' b (remT t a.data.toList) (remC t a.data.toList) := by
  obtain ⟨m, V, eV, hB⟩ := h.is
  refine beg_ways h a (fun hn _ _ => rem_arg a hB.box hn) (fun hn hb => rem_io a hB.box hn hb h.ok.bad.2) (fun hn hb h0 => ?_) (fun h0 => ⟨if_neg h0, if_neg h0⟩)
  have hok := h.ok.rem a.data.toList
  obtain ⟨t0, t1⟩ := tot_top h.ok
  unfold remT remC at *
  rw [if_pos h0] at hok
  rw [if_pos h0, if_pos h0]
  cases hl : flk t.L a.data.toList with
  | none =>
    refine (rem_gone hB a hn hb (by rw [eV]; exact hl)).mono fun e w' ⟨o, he, hw⟩ => ?_
    exact doesE_err (by decide) (h.below ((Below.refl _ _).alloc (Nat.le_refl _) o)) ((Out.refl _ _).alloc _) he hw
  | some x =>
    rw [hl] at hok
    have hg := (h.ok.got a.data.toList).2
    refine (rem_ok hB h.all a hn hb (by rw [eV, hl]; rfl) (by rw [eV]; omega) t1).mono fun e w' ⟨he, hL⟩ => ?_
    rw [eV] at hL
    refine doesE_ok he hL ?_ rfl ?_ rfl hok
    · rw [wo_map En.fl (fun _ => rfl), eV]; rfl
    · have e1 := tot_wo h.ok.rise a.data.toList
      show ((tot (fwo t.L _) : Nat) : Int) = _
      omega
theorem sto_ren (h : Sto w bs b t) (a d : ByteArray) :
    Calls Tryz.prog 48 #[pb b, .string a, .string d] w fun e w' => DoesE w bs e w' b (renT t a.data.toList d.data.toList) (renC t a.data.toList d.data.toList) := by
  obtain ⟨m, V, eV, hB⟩ := h.is
  refine beg_ways h a (fun hn _ _ => ren_arg a d hB.box hn) (fun hn hb => ren_io a d hB.box hn hb h.ok.bad.2) (fun hn hb h0 => ?_) (fun h0 => ⟨if_neg h0, if_neg h0⟩)
  have hok := h.ok.ren a.data.toList d.data.toList
  obtain ⟨t0, t1⟩ := tot_top h.ok
  unfold renT renC at *
  rw [if_pos h0] at hok
  rw [if_pos h0, if_pos h0]
  cases hd : isNm d.data.toList with
  | false =>
    refine (ren_to hB a d hn hd hb).mono fun e w' ⟨he, hw⟩ => ?_
    simp only [Bool.false_eq_true, false_and, if_false]
    exact doesE_err (by decide) h (Out.refl _ _) he hw
  | true =>
    rw [hd] at hok
    cases hl : flk t.L a.data.toList with
    | none =>
      refine (ren_gone hB a d hn hd hb (by rw [eV]; exact hl)).mono fun e w' ⟨o, he, hw⟩ => ?_
      simp only [Option.isSome_none, Bool.false_eq_true, and_false, if_false, if_true]
      exact doesE_err (by decide) (h.below ((Below.refl _ _).alloc (Nat.le_refl _) o)) ((Out.refl _ _).alloc _) he hw
    | some x =>
      rw [hl] at hok
      simp only [Option.isSome_some, and_self, if_true] at hok ⊢
      have hg := (h.ok.got a.data.toList).2
      have e0 := tot_wo h.ok.rise a.data.toList
      have hg2 := ((h.ok.wo a.data.toList).got d.data.toList).2
      simp only at hg2
      refine (ren_ok hB h.all a d hn hd hb (by rw [eV, hl]; rfl) (by rw [eV]; omega) t1).mono fun e w' ⟨he, sl, hL⟩ => ?_
      rw [eV] at hL
      refine doesE_ok he hL ?_ rfl ?_ rfl hok
      · rw [pt_map En.fl (fun _ => rfl), wo_map En.fl (fun _ => rfl), eV]
      · have e1 : tot (fpt (fwo t.L a.data.toList) ⟨d.data.toList, (got t.L a.data.toList).bs, (got t.L a.data.toList).sure⟩) + (got (fwo t.L a.data.toList) d.data.toList).bs.length = tot (fwo t.L a.data.toList) + (got t.L a.data.toList).bs.length :=
          tot_pt (h.ok.rise.wo a.data.toList) ⟨d.data.toList, (got t.L a.data.toList).bs, (got t.L a.data.toList).sure⟩
        show ((tot (fpt (fwo t.L _) _) : Nat) : Int) = _
        omega
theorem sto_fail (h : Sto w bs b t) (n : Int) (hn : -9223372036854775808 ≤ n ∧ n ≤ 9223372036854775807) :
    Calls Tryz.prog 6 #[pb b, .int .i64 n] w fun e w' => e = .returned (.tuple #[]) ∧ Sto w' bs b ⟨t.L, t.most, n⟩ ∧ Out bs w w' := by
  obtain ⟨m, V, eV, hB⟩ := h.is
  refine (fail_calls hB n).mono fun e w' ⟨he, hw⟩ => ?_
  subst hw
  exact ⟨he, h.badly n hn⟩
theorem sto_read (h : Sto w bs b t) (s : ByteArray) (hs : s.size ≤ maxLen) :
    Calls Tryz.prog 5 #[pb b, .string s] w fun e w' => e = .returned (.tuple #[.string ⟨(got t.L s.data.toList).bs.toArray⟩, .bool (flk t.L s.data.toList).isSome]) ∧ Below w.heap.size w w' := by
  obtain ⟨m, V, eV, hB⟩ := h.is
  rw [← eV]; exact read_calls hB s hs
end
end Go.Proofs.YtngangdjbbbbdaaGreatDoor.Sto
end

section
namespace Go.Proofs.YtngangdjbbbbdaaGreatDoor.Sto
open Go.RowKit Go.Proofs.YtngangdjbbbbdaaGreatDoor.Own Go.Proofs.YtngangdjbbbbdaaGreatDoor.KM Go.Proofs.YtngangdjbbbbdaaGreatDoor.Flt
open Go.Proofs.YtngangdjbbbbdaaGreatDoor.Rw (str strs Row1)

/-- an error that is kept -/
structure Told where
  v : Value
  c : Int
  k : Nat
structure Wk (w0 w : World) (bs : Nat → Prop) (b : Nat) (t : St) (es : List Told) : Prop where
  below : Below w0.heap.size w0 w
  sto : Sto w bs b t
  mine : ∀ k, bs k → w0.heap.size ≤ k
  errs : ∀ x ∈ es, EAt w x.v x.c x.k ∧ ¬ bs x.k ∧ x.c ≠ 0
section
variable {w0 w w' : World} {bs : Nat → Prop} {b : Nat} {t t' : St} {es : List Told}
theorem Wk.same (h : Wk w0 w bs b t es) (hb : Below w.heap.size w w') : Wk w0 w' bs b t es :=
  ⟨h.below.trans (hb.mono h.below.size), h.sto.below hb, h.mine, fun x hx => ⟨(h.errs x hx).1.below hb, (h.errs x hx).2⟩⟩
theorem Wk.go (h : Wk w0 w bs b t es) {bs' : Nat → Prop} (hs : Sto w' bs' b t') (ho : Out bs w w') (hn : ∀ k, bs' k → bs k ∨ w.heap.size ≤ k) : Wk w0 w' bs' b t' es := by
  have hsz := h.below.size
  refine ⟨h.below.trans (ho.below hsz fun i hi => h.mine i hi), hs, fun k hk => ?_, fun x hx => ?_⟩
  · rcases hn k hk with h1 | h1
    · exact h.mine k h1
    · omega
  · obtain ⟨h1, h2, hc0⟩ := h.errs x hx
    refine ⟨h1.kept fun hl => ho.block _ hl h2, fun hk => ?_, hc0⟩
    rcases hn _ hk with h3 | h3
    · exact h2 h3
    · rcases h1 with ⟨hc, _⟩ | ⟨_, _, hh⟩
      · exact hc0 hc
      · have := at_lt hh; omega
theorem Wk.does (h : Wk w0 w bs b t es) (hd : Does w bs w' b t') : ∃ bs', Wk w0 w' bs' b t' es := by
  obtain ⟨bs', hs, ho, hn⟩ := hd
  exact ⟨bs', h.go hs ho hn⟩
theorem Wk.ok {e : Ending} (h : Wk w0 w bs b t es) (hd : DoesE w bs e w' b t' 0) : e = .returned .nilIface ∧ ∃ bs', Wk w0 w' bs' b t' es := by
  obtain ⟨v, k, bs', he, hE, -, hs, ho, hn⟩ := hd
  rcases hE with ⟨_, rfl⟩ | ⟨hc, _⟩
  · exact ⟨he, bs', h.go hs ho hn⟩
  · exact absurd rfl hc
theorem Wk.err {e : Ending} {c : Int} (h : Wk w0 w bs b t es) (hc : c ≠ 0) (hd : DoesE w bs e w' b t' c) : ∃ k bs', e = .returned (.iface 174 (.pointer (some ⟨k, 0, none⟩))) ∧ Wk w0 w' bs' b t' (⟨.iface 174 (.pointer (some ⟨k, 0, none⟩)), c, k⟩ :: es) := by
  obtain ⟨v, k, bs', he, hE, hk, hs, ho, hn⟩ := hd
  rcases hE with ⟨h0, _⟩ | ⟨_, rfl, hh⟩
  · exact absurd h0 hc
  · refine ⟨k, bs', he, ?_⟩
    have hg := h.go hs ho hn
    refine ⟨hg.below, hg.sto, hg.mine, fun x hx => ?_⟩
    rcases List.mem_cons.1 hx with rfl | hx
    · exact ⟨.inr ⟨hc, rfl, hh⟩, (hk hc).2, hc⟩
    · exact hg.errs x hx
theorem EAt.errN {v : Value} {c : Int} {k : Nat} (h : EAt w v c k) : ∃ l N, N ≤ w.heap.size ∧ ErrN w N v l c := by
  rcases h with ⟨rfl, rfl⟩ | ⟨hc, rfl, hh⟩
  · exact ⟨[], 0, Nat.zero_le _, .inl ⟨rfl, rfl, rfl⟩⟩
  · exact ⟨[⟨k, 0, []⟩], k + 1, at_lt hh, .inr ⟨rfl, Nat.lt_succ_self _, _, hh, rfl⟩⟩
end
end Go.Proofs.YtngangdjbbbbdaaGreatDoor.Sto
end

section
namespace Go.Proofs.YtngangdjbbbbdaaGreatDoor.Tree
open Go.RowKit Go.Proofs.YtngangdjbbbbdaaGreatDoor.Own Go.Proofs.YtngangdjbbbbdaaGreatDoor.Rw

def intOf : Value → Int
  | .int _ n => n
  | _ => 0
theorem own_out {w w' : World} {B e size n : Nat} {v : Value} {xs : List Value} {S : Nat → Prop} (h : w.ownsRow B e size v n xs) (hb : Out S w w') (hS : ∀ k, v.ownBlock = some k → ¬ S k) : w'.ownsRow B e size v n xs := by
  refine ⟨h.1, ?_⟩
  rcases h.2 with h0 | ⟨g, cap, cur, hv, hg, hh, r⟩
  · exact .inl h0
  · exact .inr ⟨g, cap, cur, hv, hg, hb.at_ hh (hS g (by rw [hv]; rfl)), r⟩
theorem out_grown {S : Nat → Prop} {a w w' : World} {row : Option Nat} (h : Out S a w) (hg : w.grownBy w' row) (hr : ∀ k, row = some k → k < a.heap.size → S k) : Out S a w' :=
  h.trans (S' := fun k => row = some k) ⟨hg.os, hg.tape, hg.output, hg.size, fun k hk hn => hg.block k hk fun e => hn e.symm⟩ fun i hi e => hr i e hi
theorem grown_out {w w' : World} {row : Option Nat} (hg : w.grownBy w' row) : Out (fun k => row = some k) w w' := out_grown (Out.refl _ _) hg fun _ h _ => h

theorem own_lt {w : World} {B e size n : Nat} {v : Value} {xs : List Value} (h : w.ownsRow B e size v n xs) {k : Nat} (hk : v.ownBlock = some k) : B ≤ k ∧ k < w.heap.size := by
  rcases h.2 with ⟨rfl, _⟩ | ⟨g, cap, cur, rfl, hg, hh, _⟩
  · cases hk
  · obtain rfl : g = k := by simpa [Value.ownBlock] using hk
    exact ⟨hg, at_lt hh⟩
theorem own_slice {w : World} {B e n size : Nat} {v : Value} {xs : List Value} (h : w.ownsRow B e size v n xs) : ∃ p c, v = .slice p n c ∧ n ≤ c ∧ c ≤ maxLen := by
  rcases h.2 with ⟨rfl, h0⟩ | ⟨g, cap, cur, rfl, _, _, h3, h4, _⟩
  · exact ⟨none, 0, by rw [show n = 0 from h0], by rw [show n = 0 from h0]; exact Nat.le_refl _, by unfold maxLen; omega⟩
  · exact ⟨_, _, rfl, h3, h4⟩
section
variable {w : World} {b : Nat} {x0 x1 x2 x3 x4 : Value} {T : TypeId}
theorem row5 (h : w.heap[b]? = some (.cells #[x0, x1, x2, x3, x4] T (0, 0))) :
    (w.cell? ⟨b, 0, none⟩ = some x0 ∧ w.cell? ⟨b, 1, none⟩ = some x1 ∧ w.cell? ⟨b, 2, none⟩ = some x2 ∧ w.cell? ⟨b, 3, none⟩ = some x3 ∧ w.cell? ⟨b, 4, none⟩ = some x4) ∧
    w.frozen? ⟨b, 0, none⟩ = false ∧ w.frozen? ⟨b, 1, none⟩ = false ∧ w.frozen? ⟨b, 2, none⟩ = false ∧ w.frozen? ⟨b, 3, none⟩ = false ∧ w.frozen? ⟨b, 4, none⟩ = false :=
  ⟨⟨at_cell h 0, at_cell h 1, at_cell h 2, at_cell h 3, at_cell h 4⟩, at_frozen h 0, at_frozen h 1, at_frozen h 2, at_frozen h 3, at_frozen h 4⟩
end
end Go.Proofs.YtngangdjbbbbdaaGreatDoor.Tree
end

section
namespace Go.Proofs.YtngangdjbbbbdaaGreatDoor.Digit
open Go.RowKit

theorem ret_string {a b : ByteArray} (h : a = b) : Ending.returned (.string a) = .returned (.string b) := by rw [h]

theorem bytes_add (a b : List UInt8) : ((⟨a.toArray⟩ : ByteArray) ++ ⟨b.toArray⟩) = ⟨(a ++ b).toArray⟩ := by
  apply ByteArray.ext; simp

set_option maxHeartbeats 400000 in
theorem rdigit_calls (n : Int) (h0 : 0 ≤ n) (h1 : n < 16) (w : World) :
    Calls Tryz.prog 72 #[.int .i64 n] w fun e w' => e = .returned (.string ⟨#[hexd n.toNat]⟩) ∧ w = w' := by
  have h : n = 0 ∨ n = 1 ∨ n = 2 ∨ n = 3 ∨ n = 4 ∨ n = 5 ∨ n = 6 ∨ n = 7 ∨ n = 8 ∨ n = 9 ∨ n = 10 ∨ n = 11 ∨ n = 12 ∨ n = 13 ∨ n = 14 ∨ n = 15 := by omega
  rcases h with rfl | rfl | rfl | rfl | rfl | rfl | rfl | rfl | rfl | rfl | rfl | rfl | rfl | rfl | rfl | rfl
  all_goals
    go_enter Tryz.func72, Tryz.ntmps72
    go_wp2
    go_ret
    exact ⟨rfl, rfl⟩

theorem rput_any (k : Nat) : ∀ (n : Int) (w : World), n.natAbs < k → -9223372036854775808 ≤ n → n ≤ 9223372036854775807 →
    Calls Tryz.prog 44 #[.int .i64 n] w fun e w' => e = .returned (.string ⟨(dec n).toArray⟩) ∧ w = w' := by
  induction k with
  | zero => intro n w hk; omega
  | succ k ih =>
    intro n w hk h1 h2
    by_cases hp : 0 ≤ n
    · by_cases h10 : n < 10
      · go_enter Tryz.func44, Tryz.ntmps44
        go_wp2_with (go_at_call 72; refine (rdigit_calls _ (by omega) (by omega) _).mono ?_; rintro e w' ⟨rfl, rfl⟩)
        go_ret
        exact ⟨ret_string (by rw [dec_lt (by omega) (by omega)]), rfl⟩
      · have H := Lib.hid (dec_ge (n := n) (by omega))
        have L := dec_len (n := n / 10) (by omega) (by omega)
        go_enter Tryz.func44, Tryz.ntmps44
        go_wp2_with (first | (go_at_call 72; refine (rdigit_calls _ (by omega) (by omega) _).mono ?_; rintro e w' ⟨rfl, rfl⟩) | (go_at_call 44; refine (ih _ _ (by omega) (by omega) (by omega)).mono ?_; rintro e w' ⟨rfl, rfl⟩))
        go_ret
        exact ⟨ret_string (by rw [H.out]; exact bytes_add _ [_]), rfl⟩
    · by_cases h10 : -10 < n
      · go_enter Tryz.func44, Tryz.ntmps44
        go_wp2_with (go_at_call 72; refine (rdigit_calls _ (by omega) (by omega) _).mono ?_; rintro e w' ⟨rfl, rfl⟩)
        go_ret
        exact ⟨ret_string (by rw [dec_neg_lt (by omega) (by omega)]; rfl), rfl⟩
      · have H := Lib.hid (dec_le (n := n) (by omega))
        obtain ⟨t1, t2, t3, t4⟩ := tdiv_facts (n := n) (by omega)
        have L := dec_len (n := n.tdiv 10) (by omega) (by omega)
        by_cases hm : n.tmod 10 < 0
        · go_enter Tryz.func44, Tryz.ntmps44
          go_wp2_with (first | (go_at_call 72; refine (rdigit_calls _ (by omega) (by omega) _).mono ?_; rintro e w' ⟨rfl, rfl⟩) | (go_at_call 44; refine (ih _ _ (by omega) (by omega) (by omega)).mono ?_; rintro e w' ⟨rfl, rfl⟩))
          go_ret
          exact ⟨ret_string (by rw [H.out]; exact bytes_add _ [_]), rfl⟩
        · go_enter Tryz.func44, Tryz.ntmps44
          go_wp2_with (first | (go_at_call 72; refine (rdigit_calls _ (by omega) (by omega) _).mono ?_; rintro e w' ⟨rfl, rfl⟩) | (go_at_call 44; refine (ih _ _ (by omega) (by omega) (by omega)).mono ?_; rintro e w' ⟨rfl, rfl⟩))
          go_ret
          exact ⟨ret_string (by rw [H.out, show n.tmod 10 = 0 by omega]; exact bytes_add _ [_]), rfl⟩
theorem rput_calls (n : Int) (h1 : -9223372036854775808 ≤ n) (h2 : n ≤ 9223372036854775807) (w : World) :
    Calls Tryz.prog 44 #[.int .i64 n] w fun e w' => e = .returned (.string ⟨(dec n).toArray⟩) ∧ w = w' :=
  rput_any (n.natAbs + 1) n w (by omega) h1 h2

theorem ret_byte {a b c d : Int} (h : a = b) (g : c = d) : Ending.returned (.tuple #[.int .u8 a, .int .i64 c]) = .returned (.tuple #[.int .u8 b, .int .i64 d]) := by rw [h, g]
theorem ret_num {a b c d : Int} (h : a = b) (g : c = d) : Ending.returned (.tuple #[.int .i64 a, .int .i64 c]) = .returned (.tuple #[.int .i64 b, .int .i64 d]) := by rw [h, g]
theorem size_mk (l : List UInt8) : (⟨l.toArray⟩ : ByteArray).size = l.length := rfl
def lenOf : Value → Nat | .string b => b.size | _ => 0

theorem string_cons (c : UInt8) (l : List UInt8) : Value.string ((⟨#[c]⟩ : ByteArray) ++ ⟨l.toArray⟩) = .string ⟨(c :: l).toArray⟩ := congrArg _ (bytes_add [c] l)

end Go.Proofs.YtngangdjbbbbdaaGreatDoor.Digit
end

section
namespace Go.Proofs.YtngangdjbbbbdaaGreatDoor.Digit
open Go.RowKit

theorem ret_u64 {a b : Int} (h : a = b) : Ending.returned (.int .u64 a) = .returned (.int .u64 b) := by rw [h]

theorem neg_u64 {n : Int} (h1 : -9223372036854775808 ≤ n) (h : n < 0) : IntKind.u64.wrap (-IntKind.u64.wrap n) = (n.natAbs : Int) := by
  have e : ∀ x : Int, IntKind.u64.wrap x = x % 18446744073709551616 := fun x => by rfl
  rw [e, e]; omega

theorem size_calls (n : Int) (h1 : -9223372036854775808 ≤ n) (h2 : n ≤ 9223372036854775807) (w : World) :
    Calls Tryz.prog 102 #[.int .i64 n] w fun e w' => e = .returned (.int .u64 (n.natAbs : Int)) ∧ w = w' := by
  by_cases h : n < 0
  · go_enter Tryz.func102, Tryz.ntmps102
    go_wp2_with fail
    go_ret
    exact ⟨ret_u64 (neg_u64 h1 h), rfl⟩
  · go_enter Tryz.func102, Tryz.ntmps102
    go_wp2_with fail
    go_ret
    exact ⟨ret_u64 (by omega), rfl⟩

theorem set_cells {w : World} {b : Nat} {C : Array Value} {t : TypeId} (h : w.heap[b]? = some (.cells C t (0, 0))) (i : Nat) (v : Value) : (w.setCell ⟨b, i, none⟩ v).heap[b]? = some (.cells (C.setIfInBounds i v) t (0, 0)) := by
  have hlt := lt_of_block h
  have h' : w.heap[b] = .cells C t (0, 0) := by simpa [Array.getElem?_eq_getElem hlt] using h
  show (w.heap.modify b _)[b]? = _
  rw [Array.getElem?_eq_getElem (by simpa using hlt), Array.getElem_modify_self, h']
  rfl

/-- the array's cells from p on hold the bytes ds -/
def ArrAt (w : World) (t : TypeId) (B p : Nat) (ds : List UInt8) : Prop :=
  ∃ C, w.heap[B]? = some (.cells C t (0, 0)) ∧ C.size = 20 ∧ ds.length + p = 20 ∧ ∀ i (h : i < ds.length), C[p + i]? = some (.int .u8 (ds[i].toNat : Int))

theorem arr_start {w : World} {t : TypeId} {C : Array Value} (hC : C.size = 20) : ArrAt (w.alloc (.cells C t)) t w.heap.size 20 [] :=
  ⟨C, by show (w.heap.push _)[w.heap.size]? = _; simp, hC, rfl, fun i h => absurd h (by simp)⟩
theorem arr_push {w : World} {t : TypeId} {B p : Nat} {ds : List UInt8} (h : ArrAt w t B p ds) (hp : 1 ≤ p) {c : Int} (h0 : 0 ≤ c) (h1 : c < 256) : ArrAt (w.setCell ⟨B, p - 1, none⟩ (.int .u8 c)) t B (p - 1) (c.toNat.toUInt8 :: ds) := by
  obtain ⟨C, hC, hs, hl, hd⟩ := h
  refine ⟨_, set_cells hC _ _, by simp [hs], by simp; omega, fun i hi => ?_⟩
  cases i with
  | zero => simp [Array.getElem?_setIfInBounds, hs]; omega
  | succ i =>
    have := hd i (by simpa using hi)
    rw [Array.getElem?_setIfInBounds, if_neg (by omega), show p - 1 + (i + 1) = p + i by omega, this]; rfl
theorem arr_cell {w : World} {t : TypeId} {B p : Nat} {ds : List UInt8} (h : ArrAt w t B p ds) {i : Nat} (hi : i < 20) : ∃ x, w.cell? ⟨B, i, none⟩ = some x ∧ w.frozen? ⟨B, i, none⟩ = false := by
  obtain ⟨C, hC, hs, -, -⟩ := h
  refine ⟨C[i]'(by omega), ?_, by simp [World.frozen?, hC]⟩
  simp [World.cell?, hC]
theorem arr_text {P : Program} {w : World} {t : TypeId} {B p : Nat} {ds : List UInt8} (h : ArrAt w t B p ds) (src dst e : TypeId) (hs : P.underlying src = some (.slice e)) (he : P.underlying e = some (.int .u8)) (hd : P.underlying dst = some .string) (n cap : Nat) (hn : n = 20 - p) :
    (convert src dst (.slice (some ⟨B, p, none⟩) n cap)).run P w = .ok (.string ⟨ds.toArray⟩) w := by
  obtain ⟨C, hC, hsz, hl, hdd⟩ := h
  rw [show n = ds.length by omega]
  refine run_convert_bytes_back w src dst e _ cap ds hs he hd (fun j hj => ?_)
  rw [← hdd j hj]
  have : (⟨B, p, none⟩ : Addr).add j = ⟨B, p + j, none⟩ := by unfold Addr.add; split <;> simp_all
  rw [this]
  simp [World.cell?, hC]

/-- a[l:] of the array -/
theorem arr_slice (W : World) (B q : Nat) (l : Int) (hl : l = q) (hq : q < 20) :
    (Instr.sliceAt 171 (.pointer (some ⟨B, 0, none⟩)) (some (.int .i64 l)) none none).run Tryz.prog W = .ok (.slice (some ⟨B, q, none⟩) (20 - q) (20 - q)) W := by
  have hal : Tryz.prog.arrayLen 171 = 20 := by simp [Program.arrayLen, Tryz.underlying171]
  have hel : Tryz.prog.elem 171 = 5 := by simp [Program.elem, Tryz.underlying171]
  subst hl
  rw [run_sliceAt_array_l W 171 ⟨B, 0, none⟩ (by rw [hal, hel]; exact Tryz.underlying171) .i64 q (by omega) (by rw [hal]; omega), hal, hel, Tryz.sizeOf5]
  have h20 : ¬ 20 = q := by omega
  simp [Result.andThen, slicedAt, h20, Addr.add]
  exact fun h => h.symm

theorem decN_step {m r : Nat} {ds : List UInt8} (h : decN m = decN r ++ ds) (hr : ¬ r < 10) : decN m = decN (r / 10) ++ hexd (r % 10) :: ds := by
  rw [h, decN_ge hr]; simp
theorem decN_last {m r : Nat} {ds : List UInt8} (h : decN m = decN r ++ ds) (hr : r < 10) : decN m = hexd (r % 10) :: ds := by
  rw [h, decN_lt hr, Nat.mod_eq_of_lt hr]; rfl
theorem byte_hexd {r : Nat} : (48 + (r : Int) % 10).toNat.toUInt8 = hexd (r % 10) := by
  unfold hexd; rw [if_pos (by omega), show (48 + (r : Int) % 10).toNat = 48 + r % 10 by omega]

def PutAt (n : Int) (w : World) (a' : Act) (w' : World) : Prop :=
  ∃ (p r : Nat) (P R : Int) (ds : List UInt8) (u8 u9 u10 u11 u12 u13 u14 u15 u16 u17 u18 u19 : Value),
      a' = { tmps := #[.int .i64 n, undef, .string ⟨#[]⟩, .pointer (some ⟨w.heap.size, 0, none⟩), .int .i64 P, .int .u64 R, .int .i64 n, .int .u64 n.natAbs, u8, u9, u10, u11, u12, u13, u14, u15, u16, u17, u18, u19, undef, undef, undef, undef, undef, undef, undef, undef, undef], defers := [] } ∧
      P = p ∧ R = r ∧ 2 ≤ p ∧ p ≤ 20 ∧ r < 10 ^ (p - 1) ∧ decN n.natAbs = decN r ++ ds ∧ ArrAt w' 171 w.heap.size p ds ∧ Below w.heap.size w w'

theorem lt_10 {p r : Nat} (h : r < 10 ^ (p - 1)) (hp : 2 ≤ p) (hr : ¬ r < 10) : 3 ≤ p ∧ r / 10 < 10 ^ (p - 1 - 1) := by
  obtain ⟨k, rfl⟩ : ∃ k, p = k + 2 := ⟨p - 2, by omega⟩
  simp only [Nat.add_one_sub_one, show k + 2 - 1 = k + 1 from rfl] at h ⊢
  cases k with
  | zero => simp at h; omega
  | succ k => rw [Nat.pow_succ] at h; exact ⟨by omega, by omega⟩
theorem dec_neg {n : Int} (h : n < 0) : dec n = 45 :: decN n.natAbs := by rw [dec, if_pos h]
theorem dec_pos {n : Int} (h : ¬ n < 0) : dec n = decN n.natAbs := by rw [dec, if_neg h, show n.toNat = n.natAbs by omega]

set_option maxRecDepth 100000 in
set_option maxHeartbeats 1000000 in
theorem put_calls (n : Int) (h1 : -9223372036854775808 ≤ n) (h2 : n ≤ 9223372036854775807) (w : World) :
    Calls Tryz.prog 90 #[.int .i64 n] w fun e w' => e = .returned (.string ⟨(dec n).toArray⟩) ∧ Below w.heap.size w w' := by
  go_enter Tryz.func90, Tryz.ntmps90
  go_wp2
  refine wp_scope_jumps 0 (PutAt n w) (fun a' _ => (intOf (a'.tmps.getD 5 undef)).toNat) rfl ?_ ?_
  · go_wp2_with (go_at_call 102; refine (size_calls _ (by omega) (by omega) _).mono ?_; rintro e w' ⟨rfl, rfl⟩)
    go_step3
    have ha := arr_start (w := w) (t := 171) (C := Array.replicate 20 (.int .u8 0)) rfl
    have hb : Below w.heap.size w (w.alloc (.cells (Array.replicate 20 (.int .u8 0)) 171)) := (Below.refl _ _).alloc (Nat.le_refl _) _
    have hd : decN n.natAbs = decN n.natAbs ++ [] := by simp
    have hr : n.natAbs < 10 ^ 19 := by omega
    simp only [Array.replicate, List.replicate] at ha hb
    generalize w.alloc _ = w' at ha hb ⊢
    obtain ⟨x, hx, hf⟩ := arr_cell ha (i := 19) (by omega)
    have ha1 := arr_push ha (by omega) (c := 48 + (n.natAbs : Int) % 10) (by omega) (by omega)
    rw [byte_hexd, show 20 - 1 = 19 from rfl] at ha1
    have HD := Lib.hid hd; clear hd
    have HR := Lib.hid hr; clear hr
    have HA := Lib.hid ha; clear ha
    by_cases h10 : n.natAbs < 10
    · have HL := Lib.hid (decN_last HD.out h10)
      by_cases hn : n < 0
      · obtain ⟨x2, hx2, hf2⟩ := arr_cell HA.out (i := 18) (by omega)
        have ha2 := arr_push ha1 (by omega) (c := 45) (by omega) (by omega)
        have hcv := arr_text (P := Tryz.prog) ha2 58 9 5 Tryz.underlying58 Tryz.underlying5 Tryz.underlying9 2 2 rfl
        have hsl := fun W => arr_slice W w.heap.size 18 18 (by omega) (by omega)
        clear ha2 ha1
        go_wp2_with fail
        simp only [Exit.jump]
        go_ret
        exact ⟨ret_string (by rw [dec_neg hn, HL.out]), (hb.setCell (Nat.le_refl _) _).setCell (Nat.le_refl _) _⟩
      · have hcv := arr_text (P := Tryz.prog) ha1 58 9 5 Tryz.underlying58 Tryz.underlying5 Tryz.underlying9 1 1 rfl
        have hsl := fun W => arr_slice W w.heap.size 19 19 (by omega) (by omega)
        clear ha1
        go_wp2_with fail
        simp only [Exit.jump]
        go_ret
        exact ⟨ret_string (by rw [dec_pos (by omega), HL.out]), hb.setCell (Nat.le_refl _) _⟩
    · have HA1 := Lib.hid ha1; clear ha1
      have HS := Lib.hid (decN_step HD.out h10)
      have HT := Lib.hid (lt_10 (p := 20) HR.out (by omega) h10)
      go_wp2_with fail
      go_step3
      exact ⟨rfl, 19, n.natAbs / 10, _, _, _, _, _, _, _, _, _, _, _, _, _, _, _, rfl, rfl, by omega, by omega, by omega, HT.out.2, HS.out, HA1.out, hb.setCell (Nat.le_refl _) _⟩
  · rintro a' w' ⟨p, r, P, R, ds, u8, u9, u10, u11, u12, u13, u14, u15, u16, u17, u18, u19, rfl, rfl, rfl, hp2, hp20, hr, hd, ha, hb⟩
    obtain ⟨x, hx, hf⟩ := arr_cell ha (i := p - 1) (by omega)
    have ha1 := arr_push ha (by omega) (c := 48 + (r : Int) % 10) (by omega) (by omega)
    rw [byte_hexd] at ha1
    have HD := Lib.hid hd; clear hd
    have hr19 : r < 10000000000000000000 := Nat.lt_of_lt_of_le hr (Nat.pow_le_pow_right (n := 10) (by omega) (show p - 1 ≤ 19 by omega))
    have HR := Lib.hid hr; clear hr
    have HA := Lib.hid ha; clear ha
    by_cases h10 : r < 10
    · have HL := Lib.hid (decN_last HD.out h10)
      by_cases hn : n < 0
      · obtain ⟨x2, hx2, hf2⟩ := arr_cell HA.out (i := p - 1 - 1) (by omega)
        have ha2 := arr_push ha1 (by omega) (c := 45) (by omega) (by omega)
        have hcv := arr_text (P := Tryz.prog) ha2 58 9 5 Tryz.underlying58 Tryz.underlying5 Tryz.underlying9 (20 - (p - 1 - 1)) (20 - (p - 1 - 1)) rfl
        have hsl := fun W => arr_slice W w.heap.size (p - 1 - 1) ((p : Int) - 1 - 1) (by omega) (by omega)
        clear ha2 ha1
        go_wp2_with fail
        simp only [Exit.jump]
        go_ret
        exact ⟨ret_string (by rw [dec_neg hn, HL.out]), (hb.setCell (Nat.le_refl _) _).setCell (Nat.le_refl _) _⟩
      · have hcv := arr_text (P := Tryz.prog) ha1 58 9 5 Tryz.underlying58 Tryz.underlying5 Tryz.underlying9 (20 - (p - 1)) (20 - (p - 1)) rfl
        have hsl := fun W => arr_slice W w.heap.size (p - 1) ((p : Int) - 1) (by omega) (by omega)
        clear ha1
        go_wp2_with fail
        simp only [Exit.jump]
        go_ret
        exact ⟨ret_string (by rw [dec_pos (by omega), HL.out]), hb.setCell (Nat.le_refl _) _⟩
    · have HA1 := Lib.hid ha1; clear ha1
      have HS := Lib.hid (decN_step HD.out h10)
      have HT := Lib.hid (lt_10 HR.out hp2 h10)
      go_wp2_with fail
      go_step3
      refine ⟨rfl, ⟨p - 1, r / 10, _, _, _, _, _, _, _, _, _, _, _, _, _, _, _, rfl, by omega, by omega, by have := HT.out; omega, by omega, HT.out.2, HS.out, HA1.out, hb.setCell (Nat.le_refl _) _⟩, ?_⟩
      simp [intOf]; omega

end Go.Proofs.YtngangdjbbbbdaaGreatDoor.Digit
end

section
namespace Go.Proofs.YtngangdjbbbbdaaGreatDoor.Gen
open Go.RowKit Go.Proofs.YtngangdjbbbbdaaGreatDoor.Own Go.Proofs.YtngangdjbbbbdaaGreatDoor.Sto
open Go.Proofs.YtngangdjbbbbdaaGreatDoor.Rw (str strs Row1 Texts own_shape texts_own strs_app one_new)
open Go.Proofs.YtngangdjbbbbdaaGreatDoor.Tree (own_slice own_out out_grown own_lt)

theorem info_str : (Tryz.prog.info? 9).map (fun i => (i.zero, i.size, i.bytes)) = some (some (.string ⟨#[]⟩), 1, 16) := by kernel_rfl
theorem size_of (l : Bs) : (⟨l.toArray⟩ : ByteArray).size = l.length := rfl
theorem str_cat (a b c : Bs) : (⟨a.toArray⟩ : ByteArray) ++ ⟨b.toArray⟩ ++ ⟨c.toArray⟩ = ⟨(a ++ b ++ c).toArray⟩ := by rw [Digit.bytes_add, Digit.bytes_add]

/-! ### Name -/
set_option maxHeartbeats 1000000 in
theorem name_calls (b : Bs) (i : Int) (hb : b.length ≤ 1000000) (h1 : -9223372036854775808 ≤ i) (h2 : i ≤ 9223372036854775807) (w : World) :
    Calls Tryz.prog 69 #[.string ⟨b.toArray⟩, .int .i64 i] w fun e w' => e = .returned (.string ⟨(nm b i).toArray⟩) ∧ Below w.heap.size w w' := by
  by_cases hi : i ≤ 0
  · have H := Lib.hid (nm_zero b hi)
    go_enter Tryz.func69, Tryz.ntmps69
    go_wp2_with fail
    go_ret
    exact ⟨by rw [H.out]; rfl, Below.refl _ _⟩
  · have H := Lib.hid (nm_more2 b hi)
    have L := Digit.dec_len h1 h2
    have s1 := size_of b
    have s2 := size_of (Digit.dec i)
    have hi2 : 0 < i := by omega
    go_enter Tryz.func69, Tryz.ntmps69
    go_wp2_with (go_at_call 90; refine (Digit.put_calls i h1 h2 _).mono ?_; rintro e w' ⟨rfl, hb⟩; replace hb := Lib.hid hb)
    go_ret
    exact ⟨by rw [H.out]; exact congrArg (fun x => Ending.returned (.string x)) (str_cat b [46] (Digit.dec i)), hb.out⟩
/-! ### series -/
structure SrAt (w wr : World) (v : Value) (D : List Bs) : Prop where
  own : wr.ownsRow w.heap.size 9 1 v D.length (strs D)
  below : Below w.heap.size w wr
theorem SrAt.step {w wr w5 w1 : World} {v v' : Value} {D : List Bs} {a : Bs} (h : SrAt w wr v D) (o : Obj) (hb : Below wr.heap.size wr w5)
    (ho : w1.ownsRow w.heap.size 9 1 v' (D.length + 1) (strs D ++ [.string ⟨a.toArray⟩])) (hg : (w5.alloc o).grownBy w1 v.ownBlock) : SrAt w w1 v' (D ++ [a]) := by
  have hs := h.below.size
  have hs5 := hb.size
  refine ⟨?_, ((h.below.trans (hb.mono hs)).alloc (by omega) o).grown hg (by simp; omega) (fun k hk => (World.ownsRow.lt h.own k hk).1)⟩
  rw [List.length_append, strs_app]; exact ho
/-- names of the call's own, one at least -/
def SerPost (L : List Bs) (w : World) (e : Ending) (w' : World) : Prop :=
  ∃ g c n, e = .returned (.slice (some ⟨g, 0, none⟩) n c) ∧ n = L.length ∧ w.heap.size ≤ g ∧ g < w'.heap.size ∧ Texts w' (some ⟨g, 0, none⟩) c L ∧ Below w.heap.size w w'
theorem SrAt.end_ {w wr : World} {v : Value} {D L : List Bs} (h : SrAt w wr v D) (he : D = L) (hl : 0 < L.length) : SerPost L w (.returned v) wr := by
  subst he
  obtain ⟨g, c, hv, h1, h2, _, _⟩ := own_shape h.own hl
  obtain ⟨p, c', hv2, hT⟩ := texts_own h.own rfl
  rw [hv] at hv2
  cases hv2
  exact ⟨g, c, _, by rw [hv], rfl, h1, h2, hT, h.below⟩

set_option maxRecDepth 100000 in
set_option maxHeartbeats 2000000 in
theorem series_calls (b : Bs) (n : Int) (hb : b.length ≤ 1000000) (w : World) :
    Calls Tryz.prog 38 #[.string ⟨b.toArray⟩, .int .i64 n] w (SerPost (ser b (held n)) w) := by
  obtain ⟨i0, hi, hz0, hz1, hz2⟩ := info_parts info_str
  have HK := Lib.hid (held_bd n)
  have HC : n < 1 ∧ held n = 1 ∨ (¬ n < 1 ∧ 1 ≤ n ∧ n ≤ 16 ∧ ¬ 16 < n ∧ n = (held n : Nat)) ∨ (¬ n < 1 ∧ 16 < n ∧ ¬ n ≤ 16 ∧ held n = 16) := by unfold held; omega
  obtain ⟨K, hK⟩ : ∃ K, held n = K := ⟨_, rfl⟩
  rw [hK] at HK HC ⊢
  clear hK
  have HN : ∀ m : Nat, (m : Int) ≤ 16 → ∀ W, Calls Tryz.prog 69 #[.string ⟨b.toArray⟩, .int .i64 m] W fun e w' => e = .returned (.string ⟨(nm b m).toArray⟩) ∧ Below W.heap.size W w' := fun m hm W => name_calls b m hb (by omega) (by omega) W
  replace HN := Lib.hid HN
  rcases HC with ⟨h1, rfl⟩ | ⟨h1, h2, h3, h4, rfl⟩ | ⟨h1, h2, h3, rfl⟩
  · have q1 : n ≤ 1 := by omega
    go_enter Tryz.func38, Tryz.ntmps38
    go_wp2_with fail
    go_loopw [5, 6] (fun v i wr => ∃ (D : List Bs) (j : Nat), j ≤ 16 ∧ i = .int .i64 ((j : Int) - 1) ∧ SrAt w wr v D ∧ Hid (D ++ ser b j = ser b 1)) (fun _ i _ => (intOf i + 1).toNat)
    case atStart => exact ⟨[], 1, HK.out.2, rfl, ⟨World.ownsRow_nil _ _ _ _, Below.refl _ _⟩, Lib.hid rfl⟩
    case round =>
      obtain ⟨D, j, hj, rfl, C, HE⟩ := hrel
      rename World => wr
      have HC := Lib.hid C
      have hsz := C.below.size
      obtain ⟨tp, tc, rfl, -⟩ := own_slice C.own
      clear C
      by_cases hj0 : j = 0
      · subst hj0
        have HF := Lib.hid (show D = ser b 1 from by have := HE.out; rwa [ser, List.append_nil] at this)
        rw [show ((0 : Nat) : Int) - 1 = -1 from rfl]
        go_wp2_with fail
        go_ret
        exact HC.out.end_ HF.out (by rw [ser_len]; exact HK.out.1)
      · obtain ⟨m, rfl⟩ : ∃ m, j = m + 1 := ⟨j - 1, by omega⟩
        have HF := Lib.hid (show (D ++ [nm b (m : Nat)]) ++ ser b m = ser b 1 from by have := HE.out; rw [ser] at this; rw [← this]; simp)
        have hlen : D.length ≤ 16 := by
          have := congrArg List.length HE.out
          rw [List.length_append, ser_len, ser_len] at this
          have := HK.out.2
          omega
        have e1 : ((m + 1 : Nat) : Int) - 1 = m := by omega
        rw [e1]
        have q2 : 0 ≤ (m : Int) := by omega
        have HM := Lib.hid (HN.out m (by omega))
        obtain ⟨a, ha⟩ : ∃ a, nm b (m : Nat) = a := ⟨_, rfl⟩
        rw [ha] at HF HM
        clear e1 ha
        go_wp2_with fail
        refine (HM.out _).mono ?_
        rintro e w5 ⟨rfl, hb5⟩
        have HO := Lib.hid (own_below HC.out.own hb5)
        have hs5 := hb5.size
        have HB5 := Lib.hid hb5
        clear hb5
        go_wp2_with (at_builtin; refine Own.append_any rfl _ _ 44 rfl w.heap.size 9 i0 _ 1 16 Tryz.underlying44 hi hz0 hz1 hz2 rfl (by decide) _ _ _ rfl (World.ownsRow.alloc HO.out _) _ 1 1 [.string ⟨a.toArray⟩] rfl (fun h => nomatch h) rfl (one_new _ _ _ _ (by simp)) (by simp [Value.oneCell']) (by unfold maxLen; omega) (by omega) (by simp; omega) ?_; intro v' w1 hown1 hgrow1)
        have C1 := Lib.hid (HC.out.step _ HB5.out hown1 hgrow1)
        clear hown1 hgrow1
        go_wp2_with fail
        go_roundw
        case rel => exact ⟨_, m, by omega, rfl, C1.out, HF⟩
        case measure => simp [intOf]
  · go_enter Tryz.func38, Tryz.ntmps38
    go_wp2_with fail
    go_loopw [5, 6] (fun v i wr => ∃ (D : List Bs) (j : Nat), j ≤ 16 ∧ i = .int .i64 ((j : Int) - 1) ∧ SrAt w wr v D ∧ Hid (D ++ ser b j = ser b K)) (fun _ i _ => (intOf i + 1).toNat)
    case atStart => exact ⟨[], K, HK.out.2, rfl, ⟨World.ownsRow_nil _ _ _ _, Below.refl _ _⟩, Lib.hid rfl⟩
    case round =>
      obtain ⟨D, j, hj, rfl, C, HE⟩ := hrel
      rename World => wr
      have HC := Lib.hid C
      have hsz := C.below.size
      obtain ⟨tp, tc, rfl, -⟩ := own_slice C.own
      clear C
      by_cases hj0 : j = 0
      · subst hj0
        have HF := Lib.hid (show D = ser b K from by have := HE.out; rwa [ser, List.append_nil] at this)
        rw [show ((0 : Nat) : Int) - 1 = -1 from rfl]
        go_wp2_with fail
        go_ret
        exact HC.out.end_ HF.out (by rw [ser_len]; exact HK.out.1)
      · obtain ⟨m, rfl⟩ : ∃ m, j = m + 1 := ⟨j - 1, by omega⟩
        have HF := Lib.hid (show (D ++ [nm b (m : Nat)]) ++ ser b m = ser b K from by have := HE.out; rw [ser] at this; rw [← this]; simp)
        have hlen : D.length ≤ 16 := by
          have := congrArg List.length HE.out
          rw [List.length_append, ser_len, ser_len] at this
          have := HK.out.2
          omega
        have e1 : ((m + 1 : Nat) : Int) - 1 = m := by omega
        rw [e1]
        have q2 : 0 ≤ (m : Int) := by omega
        have HM := Lib.hid (HN.out m (by omega))
        obtain ⟨a, ha⟩ : ∃ a, nm b (m : Nat) = a := ⟨_, rfl⟩
        rw [ha] at HF HM
        clear e1 ha
        go_wp2_with fail
        refine (HM.out _).mono ?_
        rintro e w5 ⟨rfl, hb5⟩
        have HO := Lib.hid (own_below HC.out.own hb5)
        have hs5 := hb5.size
        have HB5 := Lib.hid hb5
        clear hb5
        go_wp2_with (at_builtin; refine Own.append_any rfl _ _ 44 rfl w.heap.size 9 i0 _ 1 16 Tryz.underlying44 hi hz0 hz1 hz2 rfl (by decide) _ _ _ rfl (World.ownsRow.alloc HO.out _) _ 1 1 [.string ⟨a.toArray⟩] rfl (fun h => nomatch h) rfl (one_new _ _ _ _ (by simp)) (by simp [Value.oneCell']) (by unfold maxLen; omega) (by omega) (by simp; omega) ?_; intro v' w1 hown1 hgrow1)
        have C1 := Lib.hid (HC.out.step _ HB5.out hown1 hgrow1)
        clear hown1 hgrow1
        go_wp2_with fail
        go_roundw
        case rel => exact ⟨_, m, by omega, rfl, C1.out, HF⟩
        case measure => simp [intOf]
  · go_enter Tryz.func38, Tryz.ntmps38
    go_wp2_with fail
    go_loopw [5, 6] (fun v i wr => ∃ (D : List Bs) (j : Nat), j ≤ 16 ∧ i = .int .i64 ((j : Int) - 1) ∧ SrAt w wr v D ∧ Hid (D ++ ser b j = ser b 16)) (fun _ i _ => (intOf i + 1).toNat)
    case atStart => exact ⟨[], 16, HK.out.2, rfl, ⟨World.ownsRow_nil _ _ _ _, Below.refl _ _⟩, Lib.hid rfl⟩
    case round =>
      obtain ⟨D, j, hj, rfl, C, HE⟩ := hrel
      rename World => wr
      have HC := Lib.hid C
      have hsz := C.below.size
      obtain ⟨tp, tc, rfl, -⟩ := own_slice C.own
      clear C
      by_cases hj0 : j = 0
      · subst hj0
        have HF := Lib.hid (show D = ser b 16 from by have := HE.out; rwa [ser, List.append_nil] at this)
        rw [show ((0 : Nat) : Int) - 1 = -1 from rfl]
        go_wp2_with fail
        go_ret
        exact HC.out.end_ HF.out (by rw [ser_len]; exact HK.out.1)
      · obtain ⟨m, rfl⟩ : ∃ m, j = m + 1 := ⟨j - 1, by omega⟩
        have HF := Lib.hid (show (D ++ [nm b (m : Nat)]) ++ ser b m = ser b 16 from by have := HE.out; rw [ser] at this; rw [← this]; simp)
        have hlen : D.length ≤ 16 := by
          have := congrArg List.length HE.out
          rw [List.length_append, ser_len, ser_len] at this
          have := HK.out.2
          omega
        have e1 : ((m + 1 : Nat) : Int) - 1 = m := by omega
        rw [e1]
        have q2 : 0 ≤ (m : Int) := by omega
        have HM := Lib.hid (HN.out m (by omega))
        obtain ⟨a, ha⟩ : ∃ a, nm b (m : Nat) = a := ⟨_, rfl⟩
        rw [ha] at HF HM
        clear e1 ha
        go_wp2_with fail
        refine (HM.out _).mono ?_
        rintro e w5 ⟨rfl, hb5⟩
        have HO := Lib.hid (own_below HC.out.own hb5)
        have hs5 := hb5.size
        have HB5 := Lib.hid hb5
        clear hb5
        go_wp2_with (at_builtin; refine Own.append_any rfl _ _ 44 rfl w.heap.size 9 i0 _ 1 16 Tryz.underlying44 hi hz0 hz1 hz2 rfl (by decide) _ _ _ rfl (World.ownsRow.alloc HO.out _) _ 1 1 [.string ⟨a.toArray⟩] rfl (fun h => nomatch h) rfl (one_new _ _ _ _ (by simp)) (by simp [Value.oneCell']) (by unfold maxLen; omega) (by omega) (by simp; omega) ?_; intro v' w1 hown1 hgrow1)
        have C1 := Lib.hid (HC.out.step _ HB5.out hown1 hgrow1)
        clear hown1 hgrow1
        go_wp2_with fail
        go_roundw
        case rel => exact ⟨_, m, by omega, rfl, C1.out, HF⟩
        case measure => simp [intOf]

/-! ### there -/
set_option maxHeartbeats 1000000 in
theorem there_calls {w : World} {bs : Nat → Prop} {b : Nat} {t : St} (h : Sto w bs b t) (a : Bs) (ha : a.length ≤ 2000000) :
    Calls Tryz.prog 46 #[pb b, .string ⟨a.toArray⟩] w fun e w' => e = .returned (.bool (flk t.L a).isSome) ∧ Below w.heap.size w w' := by
  have H := Lib.hid (sto_read h ⟨a.toArray⟩ (by rw [size_of]; unfold maxLen; omega))
  rw [show (⟨a.toArray⟩ : ByteArray).data.toList = a from rfl] at H
  generalize (flk t.L a).isSome = B at *
  generalize (got t.L a).bs = x at *
  go_enter Tryz.func46, Tryz.ntmps46
  go_wp2_with (go_at_call 5; refine H.out.mono ?_; rintro e w' ⟨rfl, hb⟩; replace hb := Lib.hid hb)
  go_ret
  exact ⟨rfl, hb.out⟩
end Go.Proofs.YtngangdjbbbbdaaGreatDoor.Gen
end

section
namespace Go.Proofs.YtngangdjbbbbdaaGreatDoor.Gen
open Go.RowKit Go.Proofs.YtngangdjbbbbdaaGreatDoor.Own Go.Proofs.YtngangdjbbbbdaaGreatDoor.Sto
open Go.Proofs.YtngangdjbbbbdaaGreatDoor.Rw (str strs Row1 Texts own_shape texts_own strs_app one_new)
open Go.Proofs.YtngangdjbbbbdaaGreatDoor.Tree (own_slice own_out out_grown own_lt)

theorem row_out {S : Nat → Prop} {w w' : World} {p : Option Addr} {c : Nat} {ts : List Bs} (h : Texts w p c ts) (ho : Out S w w') (hp : ∀ b o, p = some ⟨b, o, none⟩ → ¬ S b) : Texts w' p c ts :=
  ⟨h.row.cap, h.row.max, h.row.cells.imp id fun ⟨b, o, e, hl, k⟩ => ⟨b, o, e, Nat.lt_of_lt_of_le hl ho.size, fun i x hx => (ho.cell (p := ⟨b, o + i, none⟩) hl (hp b o e)).trans (k i x hx)⟩⟩
/-- the box of those that were found, behind l, in a world that W1 became -/
structure FdAt (W1 : World) (B : Nat) (g : Fl → Bs) (l : List Fl) (W : World) : Prop where
  lt : B < W1.heap.size
  box : ∃ v, W.heap[B]? = some (.cells #[v] 44 (0, 0)) ∧ W.ownsRow W1.heap.size 9 1 v l.length (strs (l.map g))
  out : Out (fun k => k = B) W1 W
theorem FdAt.below {W1 W W' : World} {B : Nat} {g : Fl → Bs} {l : List Fl} (h : FdAt W1 B g l W) (hb : Below W.heap.size W W') : FdAt W1 B g l W' := by
  obtain ⟨v, h1, h2⟩ := h.box
  exact ⟨h.lt, ⟨v, (hb.block _ (at_lt h1)).trans h1, own_below h2 hb⟩, h.out.trans (Out.ofNew (S := fun k => k = B) hb) (fun _ _ h => h)⟩
theorem FdAt.kept {W1 W w1 : World} {B : Nat} {g : Fl → Bs} {l : List Fl} {v : Value} (h : FdAt W1 B g l W) (o : Obj) (hv : W.heap[B]? = some (.cells #[v] 44 (0, 0)))
    (hg : (W.alloc o).grownBy w1 v.ownBlock) : w1.heap[B]? = some (.cells #[v] 44 (0, 0)) ∧ Out (fun k => k = B) W1 w1 := by
  obtain ⟨u, h1, h2⟩ := h.box
  obtain rfl : u = v := by rw [h1] at hv; injection hv with hv; injection hv with hv; simpa using hv
  have hlt := h.lt
  have hs := h.out.size
  have hB : ∀ k, u.ownBlock = some k → W1.heap.size ≤ k := fun k hk => (own_lt h2 hk).1
  refine ⟨(hg.block B (by simp; omega) fun e => ?_).trans ((Below.heap_alloc _ _ _ (by omega)).trans h1), out_grown (h.out.alloc o) hg fun k hk hlt => by have := hB k hk; omega⟩
  have := hB B e.symm
  omega
theorem FdAt.step {W1 W w1 : World} {B : Nat} {g : Fl → Bs} {l : List Fl} {x : Fl} {v v' : Value} (h : FdAt W1 B g l W) (o : Obj) (hv : W.heap[B]? = some (.cells #[v] 44 (0, 0)))
    (ho : w1.ownsRow W1.heap.size 9 1 v' (l.length + 1) (strs (l.map g) ++ [.string ⟨(g x).toArray⟩])) (hg : (W.alloc o).grownBy w1 v.ownBlock) : FdAt W1 B g (l ++ [x]) (w1.setCell ⟨B, 0, none⟩ v') := by
  obtain ⟨hb1, ho1⟩ := h.kept o hv hg
  refine ⟨h.lt, ⟨v', by have := at_set hb1 0 v'; simpa using this, ?_⟩, ho1.setCell (p := ⟨B, 0, none⟩) (fun _ => rfl) _⟩
  refine own_set ?_ h.lt 0 v'
  rw [List.length_append, List.map_append, strs_app]; exact ho

set_option maxRecDepth 100000 in
set_option maxHeartbeats 2000000 in
theorem addBytes_calls {W1 W : World} {B : Nat} {l : List Fl} (x : Fl) (h : FdAt W1 B Fl.bs l W) (hl : l.length ≤ 1000) :
    Calls Tryz.prog 37 #[.string ⟨x.nm.toArray⟩, .string ⟨x.bs.toArray⟩, .pointer (some ⟨B, 0, none⟩)] W fun e W' => e = .returned (.tuple #[]) ∧ FdAt W1 B Fl.bs (l ++ [x]) W' := by
  obtain ⟨i0, hi, hz0, hz1, hz2⟩ := info_parts info_str
  obtain ⟨v, h1, h2⟩ := h.box
  have hs := h.out.size
  have hlt := h.lt
  have HS := Lib.hid fun (o : Obj) (w1 : World) (v' : Value) ho hg => h.step (x := x) (w1 := w1) (v' := v') o h1 ho hg
  have HK := Lib.hid fun (o : Obj) (w1 : World) hg => (h.kept (w1 := w1) o h1 hg).1
  obtain ⟨tp, tc, rfl, -⟩ := own_slice h2
  have c0 : W.cell? ⟨B, 0, none⟩ = some (.slice tp l.length tc) := at_cell h1 0
  have f0 := at_frozen h1 0
  have HO := Lib.hid h2
  generalize x.bs = a at *
  clear h h1 h2
  go_enter Tryz.func37, Tryz.ntmps37
  go_wp2_with (at_builtin; refine Own.append_any rfl _ _ 44 rfl W1.heap.size 9 i0 _ 1 16 Tryz.underlying44 hi hz0 hz1 hz2 rfl (by decide) _ _ _ rfl (World.ownsRow.alloc HO.out _) _ 1 1 [.string ⟨a.toArray⟩] rfl (fun h => nomatch h) rfl (one_new _ _ _ _ (by simp)) (by simp [Value.oneCell']) (by unfold maxLen; omega) (by omega) (by simp; omega) ?_; intro v' w1 hown1 hgrow1; have C1 := Lib.hid (HS.out _ w1 v' hown1 hgrow1); have k0 := HK.out _ w1 hgrow1; clear hgrow1; obtain ⟨tq, tr, rfl, -⟩ := own_slice hown1; clear hown1; have d0 : w1.cell? ⟨B, 0, none⟩ = some (.slice tp l.length tc) := at_cell k0 0; have d1 := at_frozen k0 0; have d2 := at_lt k0; clear k0)
  go_end0
  exact ⟨rfl, C1.out⟩

set_option maxRecDepth 100000 in
set_option maxHeartbeats 4000000 in
/-- each of those that there are -/
theorem each_calls (J : List Fl → World → Prop) (F : Nat) (hE : Enters Tryz.prog F) (cp : Addr) {bs : Nat → Prop} {b : Nat} {t : St} (ns : List Bs) (n : Nat) (hn : n = ns.length) (p : Option Addr) (c : Nat) (w : World) (hm : n ≤ 1000)
    (hs : ∀ a ∈ ns, a.length ≤ 2000000) (h0 : J [] w) (hb : ∀ l W W', J l W → Below W.heap.size W W' → J l W') (hJ : ∀ l W, J l W → Sto W bs b t ∧ Texts W p c ns)
    (hF : ∀ l W x, l.length ≤ 1000 → J l W → Calls Tryz.prog F #[.string ⟨x.nm.toArray⟩, .string ⟨x.bs.toArray⟩, .pointer (some cp)] W fun e W' => e = .returned (.tuple #[]) ∧ J (l ++ [x]) W') :
    Calls Tryz.prog 36 #[pb b, .func (.func F) #[] #[.pointer (some cp)], .slice p n c] w fun e w' => e = .returned (.tuple #[]) ∧ J (fnd t ns) w' := by
  have HN := Lib.hid hn
  have HS := Lib.hid hs
  have HB := Lib.hid hb
  have HJ := Lib.hid hJ
  have HF := Lib.hid hF
  have H0 := Lib.hid h0
  have hE2 : ∀ args w, (callFunc F args).run Tryz.prog w = .ok (.enter F args) w := hE
  have hc1 : n ≤ c := by rw [hn]; exact (hJ [] w h0).2.cap.1
  have hc2 : c ≤ 9223372036854775807 := by have := (hJ [] w h0).2.cap.2; unfold maxLen at this; omega
  clear hE hn hs hb hJ hF h0
  go_enter Tryz.func36, Tryz.ntmps36
  go_wp2_with fail
  go_loopw [12] (fun i wr => ∃ k : Nat, k ≤ n ∧ i = .int .i64 k ∧ J (fnd t (ns.take k)) wr) (fun i _ => n - (intOf i).toNat)
  case atStart => exact ⟨0, by omega, rfl, H0.out⟩
  case round =>
    obtain ⟨k, hk, rfl, C⟩ := hrel
    rename World => wr
    have HC := Lib.hid C
    clear C
    rcases Nat.lt_or_eq_of_le hk with hlt | ek
    · have hl1 : k < ns.length := by rw [← HN.out]; exact hlt
      obtain ⟨hsto, htx⟩ := HJ.out _ _ HC.out
      rcases htx.cells with e0 | ⟨g, o, rfl, hg, hcell⟩
      · rw [e0] at hl1; simp at hl1
      have c0 := hcell k hl1
      rw [str] at c0
      have q1 : (k : Int) < (n : Int) := by omega
      have hsz := HS.out _ (List.getElem_mem hl1)
      have HNX : Hid (ns.take (k + 1) = ns.take k ++ [ns[k]]) := Lib.hid (List.take_succ_eq_append_getElem hl1)
      have hlen : (fnd t (ns.take k)).length ≤ 1000 := by have := fnd_len t (ns.take k); rw [List.length_take] at this; omega
      generalize ns[k] = a at *
      have HR := Lib.hid (sto_read hsto ⟨a.toArray⟩ (by rw [size_of]; unfold maxLen; omega))
      rw [show (⟨a.toArray⟩ : ByteArray).data.toList = a from rfl] at HR
      have HQ := Lib.hid (fnd_snoc t (ns.take k) a)
      rw [← HNX.out] at HQ
      clear hsto htx hcell hsz hl1 HNX
      cases hl : flk t.L a with
      | none =>
        have HQ2 : Hid (fnd t (ns.take (k + 1)) = fnd t (ns.take k)) := Lib.hid (by rw [HQ.out, hl]; simp)
        rw [hl] at HR
        have HR2 := Lib.hid (HR.out)
        rw [Option.isSome_none] at HR2
        generalize (got t.L a).bs = x at *
        clear HR HQ hl
        go_wp2_with fail
        refine HR2.out.mono ?_
        rintro e w5 ⟨rfl, hb5⟩
        have C5 := Lib.hid (HB.out _ _ _ HC.out hb5)
        clear hb5
        go_wp2_with fail
        go_roundw
        case rel => exact ⟨k + 1, by omega, by go_num, by rw [HQ2.out]; exact C5.out⟩
        case measure => simp [intOf]; omega
      | some x =>
        have hx := (lk_some hl).2
        have HQ2 : Hid (fnd t (ns.take (k + 1)) = fnd t (ns.take k) ++ [x]) := Lib.hid (by rw [HQ.out, hl])
        rw [hl, got_some hl] at HR
        have HR2 := Lib.hid (HR.out)
        rw [Option.isSome_some] at HR2
        have HX := Lib.hid fun W hJ => HF.out (fnd t (ns.take k)) W x hlen hJ
        have hx2 : x.nm = a := hx
        rw [hx2] at HX
        generalize fnd t (ns.take k) = l at *
        generalize x.bs = y at *
        clear HR HQ hl hx hx2
        go_wp2_with fail
        refine HR2.out.mono ?_
        rintro e w5 ⟨rfl, hb5⟩
        have C5 := Lib.hid (HB.out _ _ _ HC.out hb5)
        clear hb5
        go_wp2_with fail
        refine (HX.out _ C5.out).mono ?_
        rintro e w6 ⟨rfl, C6⟩
        replace C6 := Lib.hid C6
        go_wp2_with fail
        go_roundw
        case rel => exact ⟨k + 1, by omega, by go_num, by rw [HQ2.out]; exact C6.out⟩
        case measure => simp [intOf]; omega
    · obtain rfl := ek.symm
      have HE : Hid (ns.take n = ns) := Lib.hid (List.take_of_length_le (by rw [HN.out]; exact Nat.le_refl _))
      go_wp2_with fail
      go_end0
      exact ⟨rfl, by rw [← HE.out]; exact HC.out⟩
end Go.Proofs.YtngangdjbbbbdaaGreatDoor.Gen
end

section
namespace Go.Proofs.YtngangdjbbbbdaaGreatDoor.Gen
open Go.RowKit Go.Proofs.YtngangdjbbbbdaaGreatDoor.Own Go.Proofs.YtngangdjbbbbdaaGreatDoor.Sto
open Go.Proofs.YtngangdjbbbbdaaGreatDoor.Rw (str strs Row1 Texts own_shape texts_own strs_app one_new own_base)
open Go.Proofs.YtngangdjbbbbdaaGreatDoor.Tree (own_slice own_out out_grown own_lt)

/-- texts of the call's own -/
def ListPost (L : List Bs) (w : World) (e : Ending) (w' : World) : Prop :=
  ∃ p c n, e = .returned (.slice p n c) ∧ n = L.length ∧ Texts w' p c L ∧ Below w.heap.size w w' ∧ (p = none → c = 0) ∧ ∀ a, p = some a → ∃ g, a = ⟨g, 0, none⟩ ∧ w.heap.size ≤ g ∧ g < w'.heap.size
/-- the box, what the names lie in, the store -/
structure Start (w : World) (bs : Nat → Prop) (b : Nat) (t : St) (w2 : World) (g c : Nat) (L : List Bs) : Prop where
  sto : Sto w bs b t
  box : w2.heap[w.heap.size]? = some (.cells #[.slice none 0 0] 44 (0, 0))
  tx : Texts w2 (some ⟨g, 0, none⟩) c L
  far : w.heap.size < g
  below : Below w.heap.size w w2
theorem Start.fd {w w2 : World} {bs : Nat → Prop} {b : Nat} {t : St} {g c : Nat} {L : List Bs} (h : Start w bs b t w2 g c L) (f : Fl → Bs) : FdAt w2 w.heap.size f [] w2 :=
  ⟨at_lt h.box, ⟨_, h.box, World.ownsRow_nil _ _ _ _⟩, Out.refl _ _⟩
theorem Start.keeps {w w2 : World} {bs : Nat → Prop} {b : Nat} {t : St} {g c : Nat} {L : List Bs} (h : Start w bs b t w2 g c L) {f : Fl → Bs} {l : List Fl} {W : World} (hd : FdAt w2 w.heap.size f l W) :
    Sto W bs b t ∧ Texts W (some ⟨g, 0, none⟩) c L := by
  refine ⟨(h.sto.below h.below).out hd.out fun k hk e => ?_, row_out h.tx hd.out fun b o e => ?_⟩
  · have := h.sto.all k hk; omega
  · cases e; have := h.far; omega
theorem Start.ends {w w2 : World} {bs : Nat → Prop} {b : Nat} {t : St} {g c : Nat} {L : List Bs} (h : Start w bs b t w2 g c L) {f : Fl → Bs} {l : List Fl} {W : World} (hd : FdAt w2 w.heap.size f l W) :
    ∃ p n c', W.cell? ⟨w.heap.size, 0, none⟩ = some (.slice p n c') ∧ ListPost (l.map f) w (.returned (.slice p n c')) W := by
  obtain ⟨v, h1, h2⟩ := hd.box
  have hs := h.below.size
  have hb : Below w.heap.size w W := h.below.trans (hd.out.below hs fun i e => by omega)
  obtain ⟨p, c', rfl, hT⟩ := texts_own (ts := l.map f) h2 (by simp)
  refine ⟨p, l.length, c', at_cell h1 0, p, c', _, rfl, by simp, hT, hb, fun e => ?_, fun a e => ?_⟩
  · rcases h2.2 with ⟨e1, h0⟩ | ⟨g, cap, cur, hv, _⟩
    · injection e1
    · injection hv with e3; rw [e] at e3; cases e3
  · rcases h2.2 with ⟨e1, h0⟩ | ⟨g, cap, cur, hv, hg, hh, _⟩
    · injection e1 with e3; rw [e] at e3; cases e3
    · injection hv with e3
      rw [e] at e3
      cases e3
      exact ⟨g, rfl, by omega, at_lt hh⟩

set_option maxRecDepth 100000 in
set_option maxHeartbeats 4000000 in
theorem all_calls {w : World} {bs : Nat → Prop} {b : Nat} {t : St} (h : Sto w bs b t) (a : Bs) (ha : a.length ≤ 1000000) (n : Int) :
    Calls Tryz.prog 12 #[pb b, .string ⟨a.toArray⟩, .int .i64 n] w (ListPost ((fnd t (ser a (held n))).map Fl.bs) w) := by
  have H := Lib.hid h
  have HS := Lib.hid (series_calls a n ha)
  have HL := Lib.hid (ser_len a (held n))
  have HZ := Lib.hid fun x (hx : x ∈ ser a (held n)) => ser_size (held_bd n).2 hx
  have HK := Lib.hid (held_bd n)
  have hE := enters_of Tryz.func37 (by kernel_rfl) rfl
  replace hE := Lib.hid hE
  generalize held n = K at *
  clear h
  go_enter Tryz.func12, Tryz.ntmps12
  go_wp2_with fail
  refine (HS.out _).mono ?_
  rintro e w2 ⟨g, c, k, rfl, hk, hg, -, hT, hb⟩
  have S0 := Lib.hid (show Start w bs b t w2 g c (ser a K) from ⟨H.out, (hb.block _ (by simp)).trans (at_new w _), hT, by simp at hg; omega, ((Below.refl _ w).alloc (Nat.le_refl _) (.cells #[.slice none 0 0] 44 (0, 0))).trans (hb.mono (by simp))⟩)
  have HKK := Lib.hid hk
  have hk2 : k ≤ 1000 := by have := HL.out; have := HK.out; omega
  have HE := Lib.hid (each_calls (fun l W => FdAt w2 w.heap.size Fl.bs l W) 37 hE.out ⟨w.heap.size, 0, none⟩ (bs := bs) (b := b) (t := t) (ser a K) k HKK.out (some ⟨g, 0, none⟩) c w2 hk2 (fun x hx => by have := HZ.out x hx; omega) (S0.out.fd Fl.bs)
    (fun l W W' hJ hb => hJ.below hb) (fun l W hJ => S0.out.keeps hJ) (fun l W x hl hJ => addBytes_calls x hJ hl))
  clear hT hb hg hk
  go_wp2_with fail
  refine HE.out.mono ?_
  rintro e w3 ⟨rfl, hd⟩
  obtain ⟨p, m, c', c0, HP⟩ := S0.out.ends hd
  replace HP := Lib.hid HP
  clear hd
  go_wp2_with fail
  go_ret
  exact HP.out
end Go.Proofs.YtngangdjbbbbdaaGreatDoor.Gen
end

section
namespace Go.Proofs.YtngangdjbbbbdaaGreatDoor.Gen
open Go.RowKit Go.Shelf Go.Proofs.YtngangdjbbbbdaaGreatDoor.Own Go.Proofs.YtngangdjbbbbdaaGreatDoor.Sto
open Go.Proofs.YtngangdjbbbbdaaGreatDoor.Rw (str strs Row1 Texts texts_own)

/-- the block that texts lie in -/
def StrAt (w : World) (p : Option Addr) (L : List Bs) : Prop := L = [] ∨ ∃ g cs, p = some ⟨g, 0, none⟩ ∧ w.heap[g]? = some (.cells cs 9 (0, 0)) ∧ ∀ i (hi : i < L.length), cs[i]? = some (str L[i])
theorem strs_get {L : List Bs} {i : Nat} (hi : i < L.length) : (strs L)[i]? = some (str L[i]) := by unfold strs; rw [List.getElem?_map, List.getElem?_eq_getElem hi]; rfl
theorem Start.ends2 {w w2 : World} {bs : Nat → Prop} {b : Nat} {t : St} {g c : Nat} {L : List Bs} (h : Start w bs b t w2 g c L) {f : Fl → Bs} {l : List Fl} {W : World} (hd : FdAt w2 w.heap.size f l W) :
    ∃ p n c', W.cell? ⟨w.heap.size, 0, none⟩ = some (.slice p n c') ∧ ListPost (l.map f) w (.returned (.slice p n c')) W ∧ StrAt W p (l.map f) := by
  obtain ⟨p, n, c', h0, h1⟩ := h.ends hd
  refine ⟨p, n, c', h0, h1, ?_⟩
  obtain ⟨v, e1, e2⟩ := hd.box
  rw [at_cell e1 0] at h0
  simp only [List.getElem?_toArray, List.getElem?_cons_zero, Option.some.injEq] at h0
  subst h0
  have hc := @World.ownsRow.cells _ _ _ _ _ _ _ e2
  rcases e2.2 with ⟨e3, h0⟩ | ⟨g2, cap, cur, hv, hg, hh, _⟩
  · left
    simpa using h0
  · right
    injection hv with e3 e4 e5
    subst e3
    refine ⟨g2, cur, rfl, hh, fun i hi => ?_⟩
    have := hc (g := g2) rfl _ _ (strs_get hi)
    rw [add0, at_cell hh] at this
    exact this
def ListPostT (L : List Bs) (w : World) (e : Ending) (w' : World) : Prop := ListPost L w e w' ∧ ∃ p n c, e = .returned (.slice p n c) ∧ StrAt w' p L
theorem ListPostT.open {L : List Bs} {w w' : World} {e : Ending} (h : ListPostT L w e w') : ∃ p c n, e = .returned (.slice p n c) ∧ n = L.length ∧ n ≤ c ∧ c ≤ maxLen ∧ StrAt w' p L ∧ Below w.heap.size w w' := by
  obtain ⟨⟨p, c, n, rfl, hn, hT, hb, -, -⟩, p2, n2, c2, e2, hs⟩ := h
  simp only [Ending.returned.injEq, Value.slice.injEq] at e2
  obtain ⟨rfl, rfl, rfl⟩ := e2
  have := hT.cap
  exact ⟨p, c, n, rfl, hn, by omega, this.2, hs, hb⟩
set_option maxRecDepth 100000 in
set_option maxHeartbeats 4000000 in
theorem all_typed {w : World} {bs : Nat → Prop} {b : Nat} {t : St} (h : Sto w bs b t) (a : Bs) (ha : a.length ≤ 1000000) (n : Int) :
    Calls Tryz.prog 12 #[pb b, .string ⟨a.toArray⟩, .int .i64 n] w (ListPostT ((fnd t (ser a (held n))).map Fl.bs) w) := by
  have H := Lib.hid h
  have HS := Lib.hid (series_calls a n ha)
  have HL := Lib.hid (ser_len a (held n))
  have HZ := Lib.hid fun x (hx : x ∈ ser a (held n)) => ser_size (held_bd n).2 hx
  have HK := Lib.hid (held_bd n)
  have hE := enters_of Tryz.func37 (by kernel_rfl) rfl
  replace hE := Lib.hid hE
  generalize held n = K at *
  clear h
  go_enter Tryz.func12, Tryz.ntmps12
  go_wp2_with fail
  refine (HS.out _).mono ?_
  rintro e w2 ⟨g, c, k, rfl, hk, hg, -, hT, hb⟩
  have S0 := Lib.hid (show Start w bs b t w2 g c (ser a K) from ⟨H.out, (hb.block _ (by simp)).trans (at_new w _), hT, by simp at hg; omega, ((Below.refl _ w).alloc (Nat.le_refl _) (.cells #[.slice none 0 0] 44 (0, 0))).trans (hb.mono (by simp))⟩)
  have HKK := Lib.hid hk
  have hk2 : k ≤ 1000 := by have := HL.out; have := HK.out; omega
  have HE := Lib.hid (each_calls (fun l W => FdAt w2 w.heap.size Fl.bs l W) 37 hE.out ⟨w.heap.size, 0, none⟩ (bs := bs) (b := b) (t := t) (ser a K) k HKK.out (some ⟨g, 0, none⟩) c w2 hk2 (fun x hx => by have := HZ.out x hx; omega) (S0.out.fd Fl.bs)
    (fun l W W' hJ hb => hJ.below hb) (fun l W hJ => S0.out.keeps hJ) (fun l W x hl hJ => addBytes_calls x hJ hl))
  clear hT hb hg hk
  go_wp2_with fail
  refine HE.out.mono ?_
  rintro e w3 ⟨rfl, hd⟩
  obtain ⟨p, m, c', c0, HP⟩ := S0.out.ends2 hd
  replace HP := Lib.hid HP
  clear hd
  go_wp2_with fail
  go_ret
  exact ⟨HP.out.1, p, m, c', rfl, HP.out.2⟩
end Go.Proofs.YtngangdjbbbbdaaGreatDoor.Gen
end

section
namespace Go.Proofs.YtngangdjbbbbdaaGreatDoor.Sum

/-- one byte more -/
def st (h : Int) (b : UInt8) : Int := (257 * h + (b.toNat : Int) + 1) % 2147483647
def sumFrom (h : Int) (l : List UInt8) : Int := l.foldl st h
def sumOf (l : List UInt8) : Int := sumFrom 0 l
/-- so many bytes behind that count as nothing -/
def shift (a : Int) : Nat → Int
  | 0 => a
  | n + 1 => shift (257 * a % 2147483647) n
def isSum (n : Int) : Bool := decide (0 ≤ n) && decide (n < 2147483647)

theorem isSum_iff {n : Int} : isSum n = true ↔ 0 ≤ n ∧ n < 2147483647 := by simp [isSum]
theorem isSum_not {n : Int} : isSum n = false ↔ n < 0 ∨ 2147483647 ≤ n := by
  rw [← Bool.not_eq_true, isSum_iff]; omega
theorem st_range (h : Int) (b : UInt8) : 0 ≤ st h b ∧ st h b < 2147483647 := by unfold st; omega
theorem sumFrom_nil (h : Int) : sumFrom h [] = h := rfl
theorem sumFrom_cons (h : Int) (b : UInt8) (l : List UInt8) : sumFrom h (b :: l) = sumFrom (st h b) l := rfl
theorem sumFrom_app (h : Int) (l m : List UInt8) : sumFrom h (l ++ m) = sumFrom (sumFrom h l) m := by simp [sumFrom, List.foldl_append]
theorem sumFrom_snoc (h : Int) (l : List UInt8) (b : UInt8) : sumFrom h (l ++ [b]) = st (sumFrom h l) b := by rw [sumFrom_app]; rfl
theorem sumFrom_range (l : List UInt8) : ∀ h : Int, 0 ≤ h → h < 2147483647 → 0 ≤ sumFrom h l ∧ sumFrom h l < 2147483647 := by
  induction l with
  | nil => intro h a b; exact ⟨a, b⟩
  | cons b l ih => intro h _ _; exact ih _ (st_range h b).1 (st_range h b).2
theorem sumOf_range (l : List UInt8) : 0 ≤ sumOf l ∧ sumOf l < 2147483647 := sumFrom_range l 0 (by omega) (by omega)
theorem sumOf_take (l : List UInt8) {k : Nat} (h : k < l.length) : sumOf (l.take (k + 1)) = st (sumOf (l.take k)) l[k] := by
  rw [List.take_add_one, List.getElem?_eq_getElem h]
  exact sumFrom_snoc _ _ _

/-! the sum of two texts -/
theorem sumFrom_step (a b x : Int) (c : UInt8) (h : (a - b) % 2147483647 = x % 2147483647) : (st a c - st b c) % 2147483647 = (257 * x) % 2147483647 := by
  unfold st; omega
theorem sumFrom_shift (l : List UInt8) : ∀ a b : Int, 0 ≤ a → a < 2147483647 → 0 ≤ b → b < 2147483647 → (sumFrom a l - sumFrom b l) % 2147483647 = shift ((a - b) % 2147483647) l.length := by
  induction l with
  | nil => intro a b _ _ _ _; rfl
  | cons c l ih =>
    intro a b _ _ _ _
    rw [sumFrom_cons, sumFrom_cons, ih _ _ (st_range a c).1 (st_range a c).2 (st_range b c).1 (st_range b c).2, List.length_cons]
    show _ = shift (257 * ((a - b) % 2147483647) % 2147483647) l.length
    congr 1
    have := sumFrom_step a b ((a - b) % 2147483647) c (by omega)
    rw [this]
theorem shift_range (n : Nat) : ∀ a : Int, 0 ≤ a → a < 2147483647 → 0 ≤ shift a n ∧ shift a n < 2147483647 := by
  induction n with
  | zero => intro a h1 h2; exact ⟨h1, h2⟩
  | succ n ih => intro a _ _; exact ih _ (by omega) (by omega)
theorem sumOf_app (s t : List UInt8) : sumOf (s ++ t) = (shift (sumOf s) t.length + sumOf t) % 2147483647 := by
  have r1 := sumOf_range s
  have r2 := sumOf_range t
  have r3 := sumOf_range (s ++ t)
  have r4 := shift_range t.length (sumOf s) r1.1 r1.2
  have h := sumFrom_shift t (sumOf s) 0 r1.1 r1.2 (by omega) (by omega)
  have e : sumFrom (sumOf s) t = sumOf (s ++ t) := (sumFrom_app 0 s t).symm
  rw [e, show (sumOf s - 0) % 2147483647 = sumOf s by omega] at h
  have e2 : sumFrom 0 t = sumOf t := rfl
  rw [e2] at h
  omega

/-! a byte that was turned is found -/
theorem unmul {x : Int} (h : (257 * x) % 2147483647 = 0) : x % 2147483647 = 0 := by omega
theorem unmul256 {x : Int} (h : (256 * x) % 2147483647 = 0) : x % 2147483647 = 0 := by omega
theorem sumFrom_inj (l : List UInt8) : ∀ a b : Int, 0 ≤ a → a < 2147483647 → 0 ≤ b → b < 2147483647 → sumFrom a l = sumFrom b l → a = b := by
  induction l with
  | nil => intro a b _ _ _ _ h; exact h
  | cons c l ih =>
    intro a b a0 a1 b0 b1 h
    have e := ih _ _ (st_range a c).1 (st_range a c).2 (st_range b c).1 (st_range b c).2 h
    have h2 : (257 * (a - b)) % 2147483647 = 0 := by
      have := sumFrom_step a b (a - b) c rfl
      rw [← this]
      simp only [sumFrom_cons] at h
      rw [e]; omega
    have := unmul h2
    omega
theorem st_inj {h : Int} {b c : UInt8} (e : st h b = st h c) : b = c := by
  have h1 := b.toNat_lt
  have h2 := c.toNat_lt
  unfold st at e
  apply UInt8.toNat_inj.1
  omega
theorem turned {l : List UInt8} {i : Nat} (hi : i < l.length) (b : UInt8) : sumOf (l.set i b) = sumOf l ↔ b = l[i] := by
  constructor
  · intro h
    have e1 : l.set i b = l.take i ++ (b :: l.drop (i + 1)) := by rw [List.set_eq_take_append_cons_drop, if_pos hi]
    have e2 : l = l.take i ++ (l[i] :: l.drop (i + 1)) := by rw [List.getElem_cons_drop, List.take_append_drop]
    have r := sumOf_range (l.take i)
    rw [e1] at h
    conv at h => rhs; rw [e2]
    unfold sumOf at h r
    rw [sumFrom_app, sumFrom_app, sumFrom_cons, sumFrom_cons] at h
    exact st_inj (sumFrom_inj _ _ _ (st_range _ _).1 (st_range _ _).2 (st_range _ _).1 (st_range _ _).2 h)
  · rintro rfl; simp
theorem st_swap {h : Int} {b c : UInt8} (e : st (st h b) c = st (st h c) b) : b = c := by
  have h1 := b.toNat_lt
  have h2 := c.toNat_lt
  unfold st at e
  apply UInt8.toNat_inj.1
  have h3 : (256 * ((b.toNat : Int) - c.toNat)) % 2147483647 = 0 := by omega
  have := unmul256 h3
  omega
theorem swapped {l : List UInt8} {i : Nat} (hi : i + 1 < l.length) : sumOf ((l.set i l[i + 1]).set (i + 1) l[i]) = sumOf l ↔ l[i] = l[i + 1] := by
  constructor
  · intro h
    have e2 : l = l.take i ++ (l[i] :: l[i + 1] :: l.drop (i + 2)) := by
      rw [List.getElem_cons_drop, List.getElem_cons_drop, List.take_append_drop]
    have e1 : (l.set i l[i + 1]).set (i + 1) l[i] = l.take i ++ (l[i + 1] :: l[i] :: l.drop (i + 2)) := by
      have hl : (l.take i).length = i := by simp; omega
      conv => lhs; rw [show l.set i l[i + 1] = l.take i ++ (l[i + 1] :: l[i + 1] :: l.drop (i + 2)) by
        rw [List.set_eq_take_append_cons_drop, if_pos (by omega), List.getElem_cons_drop]]
      rw [List.set_append_right _ _ (by omega), hl, show i + 1 - i = 1 by omega]
      rfl
    rw [e1] at h
    conv at h => rhs; rw [e2]
    unfold sumOf at h
    rw [sumFrom_app, sumFrom_app, sumFrom_cons, sumFrom_cons, sumFrom_cons, sumFrom_cons] at h
    exact (st_swap (sumFrom_inj _ _ _ (st_range _ _).1 (st_range _ _).2 (st_range _ _).1 (st_range _ _).2 h)).symm
  · intro e
    have a : l.set i l[i + 1] = l := by
      conv => lhs; rw [← e]
      simp
    rw [a, e]; simp
end Go.Proofs.YtngangdjbbbbdaaGreatDoor.Sum
end

section
namespace Go.Proofs.YtngangdjbbbbdaaGreatDoor.Sum

/-! powers -/
theorem pow_mod (a : Int) (k : Nat) : ((a % 2147483647) ^ k) % 2147483647 = (a ^ k) % 2147483647 := by
  induction k with
  | zero => rw [Int.pow_zero, Int.pow_zero]
  | succ k ih => rw [Int.pow_succ, Int.pow_succ, Int.mul_emod, ih, Int.emod_emod, ← Int.mul_emod]
theorem mul_mod_l (a b : Int) : ((a % 2147483647) * b) % 2147483647 = (a * b) % 2147483647 := by
  rw [Int.mul_emod, Int.emod_emod, ← Int.mul_emod]
theorem mul_mod_r (a b : Int) : (a * (b % 2147483647)) % 2147483647 = (a * b) % 2147483647 := by
  rw [Int.mul_emod, Int.emod_emod, ← Int.mul_emod]
theorem shift_pow (n : Nat) : ∀ a : Int, 0 ≤ a → a < 2147483647 → shift a n = (a * 257 ^ n) % 2147483647 := by
  induction n with
  | zero => intro a h1 h2; show a = (a * 1) % 2147483647; omega
  | succ n ih =>
    intro a h1 h2
    show shift (257 * a % 2147483647) n = _
    rw [ih _ (by omega) (by omega), mul_mod_l, Int.pow_succ, show 257 * a * 257 ^ n = a * (257 ^ n * 257) by rw [Int.mul_comm 257 a, Int.mul_assoc, Int.mul_comm 257]]
def pw (n : Int) : Int := 257 ^ n.toNat % 2147483647
theorem pw_range (n : Int) : 0 ≤ pw n ∧ pw n < 2147483647 := by unfold pw; omega
theorem shift_pw {a : Int} (h1 : 0 ≤ a) (h2 : a < 2147483647) (b n : Int) : (a * pw n + b) % 2147483647 = (shift a n.toNat + b) % 2147483647 := by
  have e : (a * pw n) % 2147483647 = shift a n.toNat := by rw [shift_pow _ _ h1 h2]; unfold pw; exact mul_mod_r _ _
  rw [← e]; omega
/-- what is left to be multiplied -/
def Left (N m p q : Int) : Prop := (p * q ^ m.toNat) % 2147483647 = pw N
theorem left_start (N : Int) : Left N N 1 257 := by unfold Left pw; rw [Int.one_mul]
theorem left_even {N m p q : Int} (h : Left N m p q) (h0 : 0 < m) (he : m % 2 = 0) : Left N (m / 2) p (q * q % 2147483647) := by
  obtain ⟨k, rfl⟩ : ∃ k : Nat, m = 2 * k := ⟨(m / 2).toNat, by omega⟩
  unfold Left at h ⊢
  rw [← h, show (2 * (k : Int) / 2).toNat = k by omega, show (2 * (k : Int)).toNat = 2 * k by omega, ← mul_mod_r p, pow_mod, mul_mod_r, Int.pow_mul, show q ^ 2 = q * q by rw [Int.pow_succ, Int.pow_succ, Int.pow_zero, Int.one_mul]]
theorem left_odd {N m p q : Int} (h : Left N m p q) (h0 : 0 < m) (he : m % 2 = 1) : Left N (m / 2) (p * q % 2147483647) (q * q % 2147483647) := by
  obtain ⟨k, rfl⟩ : ∃ k : Nat, m = 2 * k + 1 := ⟨(m / 2).toNat, by omega⟩
  unfold Left at h ⊢
  rw [← h, show ((2 * (k : Int) + 1) / 2).toNat = k by omega, show (2 * (k : Int) + 1).toNat = 2 * k + 1 by omega, mul_mod_l, ← mul_mod_r (p * q), pow_mod, mul_mod_r, Int.pow_succ, Int.pow_mul, show q ^ 2 = q * q by rw [Int.pow_succ, Int.pow_succ, Int.pow_zero, Int.one_mul], Int.mul_assoc p q, Int.mul_comm q]
theorem left_end {N p q : Int} (h : Left N 0 p q) (h1 : 0 ≤ p) (h2 : p < 2147483647) : p = pw N := by
  unfold Left at h
  rw [show (0 : Int).toNat = 0 from rfl, Int.pow_zero, Int.mul_one] at h
  omega
theorem prod_range {a b : Int} (a0 : 0 ≤ a) (a1 : a < 2147483647) (b0 : 0 ≤ b) (b1 : b < 2147483647) : 0 ≤ a * b ∧ a * b ≤ 4611686009837453316 :=
  ⟨Int.mul_nonneg a0 b0, Int.le_trans (Int.mul_le_mul (c := 2147483646) (d := 2147483646) (by omega) (by omega) b0 (by omega)) (by omega)⟩

/-! two texts -/
def jok (a b n : Int) : Bool := isSum a && isSum b && decide (0 ≤ n)
def jV (a b n : Int) : Int := if jok a b n = true then (shift a n.toNat + b) % 2147483647 else 0
def jC (a b n : Int) : Int := if jok a b n = true then 0 else 1
theorem jok_iff {a b n : Int} : jok a b n = true ↔ 0 ≤ a ∧ a < 2147483647 ∧ 0 ≤ b ∧ b < 2147483647 ∧ 0 ≤ n := by
  simp [jok, isSum_iff, and_assoc]
theorem j_some {a b n : Int} (h : 0 ≤ a ∧ a < 2147483647 ∧ 0 ≤ b ∧ b < 2147483647 ∧ 0 ≤ n) : jV a b n = (shift a n.toNat + b) % 2147483647 ∧ jC a b n = 0 :=
  ⟨if_pos (jok_iff.2 h), if_pos (jok_iff.2 h)⟩
theorem j_none {a b n : Int} (h : ¬ (0 ≤ a ∧ a < 2147483647 ∧ 0 ≤ b ∧ b < 2147483647 ∧ 0 ≤ n)) : jV a b n = 0 ∧ jC a b n = 1 :=
  ⟨if_neg fun k => h (jok_iff.1 k), if_neg fun k => h (jok_iff.1 k)⟩
theorem j_app (s t : List UInt8) : jV (sumOf s) (sumOf t) t.length = sumOf (s ++ t) ∧ jC (sumOf s) (sumOf t) t.length = 0 := by
  have r1 := sumOf_range s
  have r2 := sumOf_range t
  have h := j_some (a := sumOf s) (b := sumOf t) (n := t.length) ⟨r1.1, r1.2, r2.1, r2.2, by omega⟩
  rw [sumOf_app]
  exact ⟨h.1.trans (by rw [show ((t.length : Int)).toNat = t.length by omega]), h.2⟩

/-! sums as bytes -/
def byteI (n : Int) : UInt8 := n.toNat.toUInt8
theorem byteI_back {n : Int} (h0 : 0 ≤ n) (h1 : n < 256) : ((byteI n).toNat : Int) = n := by
  unfold byteI
  have : n.toNat.toUInt8.toNat = n.toNat % 256 := by simp
  omega
def four (n : Int) : List UInt8 := [byteI (n / 16777216 % 256), byteI (n / 65536 % 256), byteI (n / 256 % 256), byteI (n % 256)]
def putL (n : Int) : List UInt8 := if isSum n = true then four n else []
theorem put_some {n : Int} (h0 : 0 ≤ n) (h1 : n < 2147483647) : putL n = four n := if_pos (isSum_iff.2 ⟨h0, h1⟩)
theorem put_none {n : Int} (h : n < 0 ∨ 2147483647 ≤ n) : putL n = [] := if_neg (by rw [isSum_not.2 h]; decide)
def be (l : List UInt8) : Int := l.foldl (fun n b => n * 256 + (b.toNat : Int)) 0
def rdok (l : List UInt8) : Bool := decide (l.length = 4) && decide (be l < 2147483647)
def rdV (l : List UInt8) : Int := if rdok l = true then be l else 0
def rdC (l : List UInt8) : Int := if l.length = 4 then (if be l < 2147483647 then 0 else 2) else 5
theorem rd_some {l : List UInt8} (h : l.length = 4) (h2 : be l < 2147483647) : rdV l = be l ∧ rdC l = 0 :=
  ⟨if_pos (by simp [rdok, h, h2]), by rw [rdC, if_pos h, if_pos h2]⟩
theorem rd_over {l : List UInt8} (h : l.length = 4) (h2 : ¬ be l < 2147483647) : rdV l = 0 ∧ rdC l = 2 :=
  ⟨if_neg (by simp [rdok]; omega), by rw [rdC, if_pos h, if_neg h2]⟩
theorem rd_size {l : List UInt8} (h : ¬ l.length = 4) : rdV l = 0 ∧ rdC l = 5 :=
  ⟨if_neg (by simp [rdok, h]), by rw [rdC, if_neg h]⟩
theorem be_four (a b c d : UInt8) : be [a, b, c, d] = (((a.toNat : Int) * 256 + b.toNat) * 256 + c.toNat) * 256 + d.toNat := by simp [be]
theorem be_put {n : Int} (h0 : 0 ≤ n) (h1 : n < 2147483647) : be (four n) = n := by
  unfold four
  rw [be_four, byteI_back (by omega) (by omega), byteI_back (by omega) (by omega), byteI_back (by omega) (by omega), byteI_back (by omega) (by omega)]
  omega
theorem rd_put {n : Int} (h0 : 0 ≤ n) (h1 : n < 2147483647) : rdV (putL n) = n ∧ rdC (putL n) = 0 := by
  rw [put_some h0 h1]
  have h := rd_some (l := four n) rfl (by rw [be_put h0 h1]; exact h1)
  rw [be_put h0 h1] at h
  exact h

/-! a text with its sum behind -/
def fits (l : List UInt8) : Bool := decide (4 ≤ l.length) && (putL (sumOf (l.take (l.length - 4))) == l.drop (l.length - 4))
theorem fits_short {l : List UInt8} (h : l.length < 4) : fits l = false := by simp [fits]; omega
theorem fits_long {l : List UInt8} (h : 4 ≤ l.length) : fits l = (putL (sumOf (l.take (l.length - 4))) == l.drop (l.length - 4)) := by simp [fits, h]
theorem four_len (n : Int) : (four n).length = 4 := rfl
theorem put_sum (l : List UInt8) : putL (sumOf l) = four (sumOf l) := put_some (sumOf_range l).1 (sumOf_range l).2
theorem fits_put (l : List UInt8) : fits (l ++ putL (sumOf l)) = true := by
  rw [put_sum, fits_long (by simp [four_len])]
  have e : (l ++ four (sumOf l)).length - 4 = l.length := by simp [four_len]
  rw [e, List.take_left, List.drop_left, put_sum]
  simp
end Go.Proofs.YtngangdjbbbbdaaGreatDoor.Sum
end

section
namespace Go.Proofs.YtngangdjbbbbdaaGreatDoor.Rec
structure Itm where
  k : Int
  a : Int
  b : ByteArray
end Go.Proofs.YtngangdjbbbbdaaGreatDoor.Rec
end


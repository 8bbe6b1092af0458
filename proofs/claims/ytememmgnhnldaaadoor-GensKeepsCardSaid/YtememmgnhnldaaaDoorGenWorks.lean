/-
  Layer 21 (gens): what a law keeps beside a store; the law's example, walked. Written by gen_genworks.py.
-/
import Derived.Test.YtememmgnhnldaaaDoorGenList
import Derived.Test.YtememmgnhnldaaaDoorGenTurn
import Derived.Test.YtememmgnhnldaaaDoorRowSame
namespace Go.Proofs.YtememmgnhnldaaaDoor.Gen
open Go.RowKit Go.Proofs.YtememmgnhnldaaaDoor.Own Go.Proofs.YtememmgnhnldaaaDoor.Sto Go.Proofs.YtememmgnhnldaaaDoor.Flt
open Go.Proofs.YtememmgnhnldaaaDoor.Rw (str strs Row1 Texts own_shape texts_own strs_app one_new own_new)

/-- texts that are kept -/
structure Kept where
  p : Option Addr
  c : Nat
  L : List Bs
structure Ex (w0 w : World) (bs : Nat → Prop) (b : Nat) (t : St) (es : List Sto.Told) (ks : List Kept) : Prop where
  wk : Wk w0 w bs b t es
  txs : ∀ x ∈ ks, Texts w x.p x.c x.L ∧ (x.p = none → x.c = 0) ∧ ∀ a, x.p = some a → ∃ g, a = ⟨g, 0, none⟩ ∧ ¬ bs g ∧ g < w.heap.size
section
variable {w0 w w' : World} {bs : Nat → Prop} {b : Nat} {t t' : St} {es : List Sto.Told} {ks : List Kept} {e : Ending} {c : Int}
theorem Ex.same (h : Ex w0 w bs b t es ks) (hb : Below w.heap.size w w') : Ex w0 w' bs b t es ks :=
  ⟨h.wk.same hb, fun x hx => ⟨(h.txs x hx).1.below hb, (h.txs x hx).2.1, fun a e => by obtain ⟨g, h1, h2, h3⟩ := (h.txs x hx).2.2 a e; exact ⟨g, h1, h2, Nat.lt_of_lt_of_le h3 hb.size⟩⟩⟩
theorem Ex.below (h : Ex w0 w bs b t es ks) : Below w0.heap.size w0 w := h.wk.below
theorem Ex.sto (h : Ex w0 w bs b t es ks) : Sto w bs b t := h.wk.sto
theorem Ex.txt (h : Ex w0 w bs b t es ks) {x : Kept} (hx : x ∈ ks) {bs' : Nat → Prop} (ho : Out bs w w') (hn : ∀ k, bs' k → bs k ∨ w.heap.size ≤ k) :
    Texts w' x.p x.c x.L ∧ (x.p = none → x.c = 0) ∧ ∀ a, x.p = some a → ∃ g, a = ⟨g, 0, none⟩ ∧ ¬ bs' g ∧ g < w'.heap.size := by
  obtain ⟨h1, h2, h3⟩ := h.txs x hx
  refine ⟨⟨h1.row.cap, h1.row.max, h1.row.cells.imp id fun ⟨b, o, e, hl, k⟩ => ⟨b, o, e, Nat.lt_of_lt_of_le hl ho.size, fun i y hy => (ho.cell (p := ⟨b, o + i, none⟩) hl (by
      obtain ⟨g, e2, h4, _⟩ := h3 _ e
      cases e2
      exact h4)).trans (k i y hy)⟩⟩, h2, fun a e => ?_⟩
  obtain ⟨g, e2, h4, h5⟩ := h3 a e
  refine ⟨g, e2, fun hg => ?_, Nat.lt_of_lt_of_le h5 ho.size⟩
  rcases hn g hg with h6 | h6
  · exact h4 h6
  · omega
theorem Ex.go (h : Ex w0 w bs b t es ks) {bs' : Nat → Prop} (hs : Sto w' bs' b t') (ho : Out bs w w') (hn : ∀ k, bs' k → bs k ∨ w.heap.size ≤ k) : Ex w0 w' bs' b t' es ks :=
  ⟨h.wk.go hs ho hn, fun _ hx => h.txt hx ho hn⟩
theorem Ex.ok (h : Ex w0 w bs b t es ks) (hd : DoesE w bs e w' b t' 0) : e = .returned .nilIface ∧ ∃ bs', Ex w0 w' bs' b t' es ks := by
  obtain ⟨v, k, bs', he, hE, -, hs, ho, hn⟩ := hd
  rcases hE with ⟨_, rfl⟩ | ⟨hc, _⟩
  · exact ⟨he, bs', h.go hs ho hn⟩
  · exact absurd rfl hc
theorem Ex.err (h : Ex w0 w bs b t es ks) (hc : c ≠ 0) (hd : DoesE w bs e w' b t' c) : ∃ k bs', e = .returned (.iface 110 (.pointer (some ⟨k, 0, none⟩))) ∧ Ex w0 w' bs' b t' (⟨.iface 110 (.pointer (some ⟨k, 0, none⟩)), c, k⟩ :: es) ks := by
  obtain ⟨v, k, bs', he, hE, hk, hs, ho, hn⟩ := hd
  rcases hE with ⟨h0, _⟩ | ⟨_, rfl, hh⟩
  · exact absurd h0 hc
  · refine ⟨k, bs', he, ?_⟩
    have hg := h.go hs ho hn
    refine ⟨⟨hg.wk.below, hg.wk.sto, hg.wk.mine, fun x hx => ?_⟩, hg.txs⟩
    rcases List.mem_cons.1 hx with rfl | hx
    · exact ⟨.inr ⟨hc, rfl, hh⟩, (hk hc).2, hc⟩
    · exact hg.wk.errs x hx
/-- an error of some code, or none -/
theorem Ex.any (h : Ex w0 w bs b t es ks) (hd : DoesE w bs e w' b t' c) : ∃ v bs', e = .returned v ∧ (v = .nilIface ∨ ∃ k, v = .iface 110 (.pointer (some ⟨k, 0, none⟩))) ∧ Ex w0 w' bs' b t' es ks := by
  obtain ⟨v, k, bs', he, hE, hk, hs, ho, hn⟩ := hd
  refine ⟨v, bs', he, ?_, h.go hs ho hn⟩
  rcases hE with ⟨_, h0⟩ | ⟨_, h0, _⟩
  · exact .inl h0
  · exact .inr ⟨k, h0⟩
theorem Ex.list (h : Ex w0 w bs b t es ks) {L : List Bs} (hp : ListPost L w e w') : ∃ p c n, e = .returned (.slice p n c) ∧ n = L.length ∧ Ex w0 w' bs b t es (⟨p, c, L⟩ :: ks) := by
  obtain ⟨p, c, n, he, hn, hT, hb, h0, hf⟩ := hp
  have hs := h.same hb
  refine ⟨p, c, n, he, hn, hs.wk, fun x hx => ?_⟩
  rcases List.mem_cons.1 hx with rfl | hx
  · refine ⟨hT, h0, fun a e => ?_⟩
    obtain ⟨g, h1, h2, h3⟩ := hf a e
    exact ⟨g, h1, fun hg => by have := h.wk.sto.all g hg; omega, h3⟩
  · exact hs.txs x hx
end
theorem texts_new (w : World) (ts : List Bs) (g : Nat) (hg : g = w.heap.size) (hl : ts.length ≤ maxLen) : Texts (w.alloc (.cells (strs ts).toArray 9 (0, 0))) (some ⟨g, 0, none⟩) ts.length ts := by
  have := own_new w (strs ts) 9 g hg (by rw [Rw.strs_len]; exact hl)
  rw [Rw.strs_len] at this
  obtain ⟨p, c, e, hT⟩ := texts_own this rfl
  cases e
  exact hT

theorem nm_a0 : nm [97] 0 = [97] := rfl
theorem nm_a1 : nm [97] 1 = [97, 46, 49] := by rw [nm_more _ (by decide), Digit.dec_lt (by omega) (by omega)]; rfl
theorem nm_a2 : nm [97] 2 = [97, 46, 50] := by rw [nm_more _ (by decide), Digit.dec_lt (by omega) (by omega)]; rfl
theorem nm_a12 : nm [97] 12 = [97, 46, 49, 50] := by rw [nm_more _ (by decide), Digit.dec_ge (by omega), Digit.dec_lt (by decide) (by decide)]; rfl
theorem ser_a3 : ser [97] (held 3) = [[97, 46, 50], [97, 46, 49], [97]] := by
  show [nm [97] 2, nm [97] 1, nm [97] 0] = _
  rw [nm_a0, nm_a1, nm_a2]
theorem eq_a1 : appT ⟨[], 100, 0⟩ [97] [51] = ⟨[⟨[97], [51], 0⟩], 100, 0⟩ ∧ appC ⟨[], 100, 0⟩ [97] [51] = 0 := by constructor <;> rfl
theorem eq_a2 : appT ⟨[⟨[97], [51], 0⟩], 100, 0⟩ [97, 46, 49] [50] = ⟨[⟨[97], [51], 0⟩, ⟨[97, 46, 49], [50], 0⟩], 100, 0⟩ ∧ appC ⟨[⟨[97], [51], 0⟩], 100, 0⟩ [97, 46, 49] [50] = 0 := by constructor <;> rfl
theorem eq_a3 : appT ⟨[⟨[97], [51], 0⟩, ⟨[97, 46, 49], [50], 0⟩], 100, 0⟩ [97, 46, 50] [49] = ⟨[⟨[97], [51], 0⟩, ⟨[97, 46, 49], [50], 0⟩, ⟨[97, 46, 50], [49], 0⟩], 100, 0⟩ ∧ appC ⟨[⟨[97], [51], 0⟩, ⟨[97, 46, 49], [50], 0⟩], 100, 0⟩ [97, 46, 50] [49] = 0 := by constructor <;> rfl
theorem eq_t1 : trT ⟨[⟨[97], [51], 0⟩, ⟨[97, 46, 49], [50], 0⟩, ⟨[97, 46, 50], [49], 0⟩], 100, 0⟩ [[97, 46, 50], [97, 46, 49], [97]] = ⟨[⟨[97, 46, 49], [51], 0⟩, ⟨[97, 46, 50], [50], 0⟩], 100, 0⟩ ∧ trC ⟨[⟨[97], [51], 0⟩, ⟨[97, 46, 49], [50], 0⟩, ⟨[97, 46, 50], [49], 0⟩], 100, 0⟩ [[97, 46, 50], [97, 46, 49], [97]] = 0 := by constructor <;> rfl
theorem eq_t2 : trT ⟨[⟨[97, 46, 49], [51], 0⟩, ⟨[97, 46, 50], [50], 0⟩], 100, 1⟩ [[97, 46, 50], [97, 46, 49], [97]] = ⟨[⟨[97, 46, 49], [51], 0⟩, ⟨[97, 46, 50], [50], 0⟩], 100, 0⟩ ∧ trC ⟨[⟨[97, 46, 49], [51], 0⟩, ⟨[97, 46, 50], [50], 0⟩], 100, 1⟩ [[97, 46, 50], [97, 46, 49], [97]] = 12 := by constructor <;> rfl
theorem eq_l1 : (fnd ⟨[⟨[97], [51], 0⟩, ⟨[97, 46, 49], [50], 0⟩, ⟨[97, 46, 50], [49], 0⟩], 100, 0⟩ [[97, 46, 50], [97, 46, 49], [97]]).map Fl.bs = [[49], [50], [51]] := by rfl
theorem eq_l2 : (fnd ⟨[⟨[97, 46, 49], [51], 0⟩, ⟨[97, 46, 50], [50], 0⟩], 100, 0⟩ [[97, 46, 50], [97, 46, 49], [97]]).map Fl.bs = [[50], [51]] := by rfl
theorem eq_l3 : (fnd ⟨[⟨[97, 46, 49], [51], 0⟩, ⟨[97, 46, 50], [50], 0⟩], 100, 0⟩ [[97, 46, 50], [97, 46, 49], [97]]).map Fl.nm = [[97, 46, 50], [97, 46, 49]] := by rfl

theorem e_app {w0 w : World} {bs : Nat → Prop} {b : Nat} {t : St} {es : List Sto.Told} {ks : List Kept} (h : Ex w0 w bs b t es ks) (a s : ByteArray) (hs : s.size ≤ 1000) {t' : St} {c : Int} (he : appT t a.data.toList s.data.toList = t' ∧ appC t a.data.toList s.data.toList = c) :
    Calls Tryd.prog 15 #[pb b, .string a, .string s] w fun e w' => DoesE w bs e w' b t' c := by
  have := sto_app h.sto a s (by omega)
  rwa [he.1, he.2] at this
theorem e_turn {w0 w : World} {bs : Nat → Prop} {b : Nat} {t : St} {es : List Sto.Told} {ks : List Kept} (h : Ex w0 w bs b t es ks) {t' : St} {c : Int} (he : trT t [[97, 46, 50], [97, 46, 49], [97]] = t' ∧ trC t [[97, 46, 50], [97, 46, 49], [97]] = c) :
    Calls Tryd.prog 10 #[pb b, .string ⟨#[97]⟩, .int .i64 3] w fun e w' => DoesE w bs e w' b t' c := by
  have := turn_calls h.sto [97] (by decide) 3
  rw [ser_a3] at this
  rwa [he.1, he.2] at this
theorem e_all {w0 w : World} {bs : Nat → Prop} {b : Nat} {t : St} {es : List Sto.Told} {ks : List Kept} (h : Ex w0 w bs b t es ks) {L : List Bs} (he : (fnd t [[97, 46, 50], [97, 46, 49], [97]]).map Fl.bs = L) :
    Calls Tryd.prog 6 #[pb b, .string ⟨#[97]⟩, .int .i64 3] w (ListPost L w) := by
  have := all_calls h.sto [97] (by decide) 3
  rw [ser_a3] at this
  rwa [he] at this
theorem e_names {w0 w : World} {bs : Nat → Prop} {b : Nat} {t : St} {es : List Sto.Told} {ks : List Kept} (h : Ex w0 w bs b t es ks) {L : List Bs} (he : (fnd t [[97, 46, 50], [97, 46, 49], [97]]).map Fl.nm = L) :
    Calls Tryd.prog 27 #[pb b, .string ⟨#[97]⟩, .int .i64 3] w (ListPost L w) := by
  have := names_calls h.sto [97] (by decide) 3
  rw [ser_a3] at this
  rwa [he] at this
theorem e_same {w0 w : World} {bs : Nat → Prop} {b : Nat} {t : St} {es : List Sto.Told} {ks : List Kept} (h : Ex w0 w bs b t es ks) (x : Kept) (hx : x ∈ ks) (n : Nat) (hn : x.L.length = n) (g : Nat) (hg : g = w.heap.size) (o : Obj) (ho : o = .cells (strs x.L).toArray 9 (0, 0)) (hm : n ≤ 1000) :
    Calls Tryd.prog 11 #[.slice x.p n x.c, .slice (some ⟨g, 0, none⟩) n n] (w.alloc o) fun e w' => e = .returned (.bool true) ∧ Below (w.alloc o).heap.size (w.alloc o) w' := by
  subst hn ho
  exact Word.same_at x.L _ rfl _ _ _ _ _ ((h.txs x hx).1.below ((Below.refl _ _).alloc (Nat.le_refl _) _)) (texts_new w x.L g hg (by unfold maxLen; omega)) (by omega)
theorem e_name {w0 w : World} {bs : Nat → Prop} {b : Nat} {t : St} {es : List Sto.Told} {ks : List Kept} (_h : Ex w0 w bs b t es ks) (i : Int) (L : Bs) (he : nm [97] i = L) (h0 : 0 ≤ i) (h1 : i ≤ 100) :
    Calls Tryd.prog 8 #[.string ⟨#[97]⟩, .int .i64 i] w fun e w' => e = .returned (.string ⟨L.toArray⟩) ∧ Below w.heap.size w w' := by
  have := name_calls [97] i (by decide) (by omega) (by omega) w
  rwa [he] at this

set_option maxRecDepth 100000 in
set_option maxHeartbeats 16000000 in
theorem works_walk (w : World) (hT : Tab w) : Calls Tryd.prog 12 #[] w fun e w' => e = .returned (.bool true) ∧ Below w.heap.size w w' := by
  have HT := Lib.hid (fun W (hb : Below w.heap.size w W) => hT.below hb)
  clear hT
  go_enter Tryd.func12, Tryd.ntmps12
  go_wp2_with fail
  refine (new_in 100 (by omega) (by omega) _).mono ?_
  rintro e V1 ⟨b, rfl, bs1, s1, hb1, hn1⟩
  have W1 := Lib.hid (show Ex w V1 bs1 b ⟨[], 100, 0⟩ [] [] from ⟨⟨hb1, s1, hn1, fun x hx => by cases hx⟩, fun x hx => by cases hx⟩)
  clear s1 hb1 hn1
  go_wp2_with fail
  refine (e_app W1.out ⟨#[97]⟩ ⟨#[51]⟩ (by decide) eq_a1).mono ?_
  intro e V2 hd
  obtain ⟨rfl, bs2, hw⟩ := W1.out.ok hd
  have W2 := Lib.hid hw
  clear hd hw W1
  go_wp2_with fail
  refine (e_app W2.out ⟨#[97, 46, 49]⟩ ⟨#[50]⟩ (by decide) eq_a2).mono ?_
  intro e V3 hd
  obtain ⟨rfl, bs3, hw⟩ := W2.out.ok hd
  have W3 := Lib.hid hw
  clear hd hw W2
  go_wp2_with fail
  refine (e_app W3.out ⟨#[97, 46, 50]⟩ ⟨#[49]⟩ (by decide) eq_a3).mono ?_
  intro e V4 hd
  obtain ⟨rfl, bs4, hw⟩ := W3.out.ok hd
  have W4 := Lib.hid hw
  clear hd hw W3
  go_wp2_with fail
  refine (e_all W4.out eq_l1).mono ?_
  intro e V5 hd
  obtain ⟨pl, cl, nl, rfl, hn, hw⟩ := W4.out.list hd
  obtain rfl : nl = 3 := hn
  have W5 := Lib.hid hw
  clear hd hw W4
  go_wp2_with fail
  refine (e_turn W5.out eq_t1).mono ?_
  intro e V6 hd
  obtain ⟨rfl, bs6, hw⟩ := W5.out.ok hd
  have W6 := Lib.hid hw
  clear hd hw W5
  go_wp2_with fail
  refine (e_all W6.out eq_l2).mono ?_
  intro e V7 hd
  obtain ⟨pm, cm, nm, rfl, hn, hw⟩ := W6.out.list hd
  obtain rfl : nm = 2 := hn
  have W7 := Lib.hid hw
  clear hd hw W6
  go_wp2_with fail
  refine (e_names W7.out eq_l3).mono ?_
  intro e V8 hd
  obtain ⟨pn, cn, nn, rfl, hn, hw⟩ := W7.out.list hd
  obtain rfl : nn = 2 := hn
  have W8 := Lib.hid hw
  clear hd hw W7
  go_wp2_with fail
  refine (sto_fail W8.out.sto 1 (by omega)).mono ?_
  rintro e V9 ⟨rfl, hs, ho⟩
  have W9 := Lib.hid (W8.out.go hs ho (fun k hk => .inl hk))
  clear hs ho W8
  go_wp2_with fail
  refine (e_turn W9.out eq_t2).mono ?_
  intro e V10 hd
  obtain ⟨kf, bs10, rfl, hw⟩ := W9.out.err (by decide) hd
  have W10 := Lib.hid hw
  clear hd hw W9
  go_wp2_with fail
  refine (e_same W10.out ⟨pl, cl, [[49], [50], [51]]⟩ (by simp) 3 rfl _ rfl _ rfl (by decide)).mono ?_
  rintro e V11 ⟨rfl, hb⟩
  have W11 := Lib.hid (W10.out.same (((Below.refl _ _).alloc (Nat.le_refl _) _).trans (hb.mono (by simp))))
  clear hb W10
  go_wp2_with fail
  refine (e_same W11.out ⟨pm, cm, [[50], [51]]⟩ (by simp) 2 rfl _ rfl _ rfl (by decide)).mono ?_
  rintro e V12 ⟨rfl, hb⟩
  have W12 := Lib.hid (W11.out.same (((Below.refl _ _).alloc (Nat.le_refl _) _).trans (hb.mono (by simp))))
  clear hb W11
  go_wp2_with fail
  refine (e_same W12.out ⟨pn, cn, [[97, 46, 50], [97, 46, 49]]⟩ (by simp) 2 rfl _ rfl _ rfl (by decide)).mono ?_
  rintro e V13 ⟨rfl, hb⟩
  have W13 := Lib.hid (W12.out.same (((Below.refl _ _).alloc (Nat.le_refl _) _).trans (hb.mono (by simp))))
  clear hb W12
  go_wp2_with fail
  refine (of_told (W13.out.wk.errs ⟨.iface 110 (.pointer (some ⟨kf, 0, none⟩)), 12, kf⟩ (by simp)).1 (HT.out _ W13.out.below)).mono ?_
  rintro e V14 ⟨rfl, hb⟩
  have W14 := Lib.hid (W13.out.same hb)
  clear hb W13
  go_wp2_with fail
  refine (e_name W14.out 0 [97] nm_a0 (by omega) (by omega)).mono ?_
  rintro e V15 ⟨rfl, hb⟩
  have W15 := Lib.hid (W14.out.same hb)
  clear hb W14
  go_wp2_with fail
  refine (e_name W15.out 12 [97, 46, 49, 50] nm_a12 (by omega) (by omega)).mono ?_
  rintro e V16 ⟨rfl, hb⟩
  have W16 := Lib.hid (W15.out.same hb)
  clear hb W15
  go_wp2_with fail
  go_ret
  exact ⟨rfl, W16.out.below⟩
end Go.Proofs.YtememmgnhnldaaaDoor.Gen

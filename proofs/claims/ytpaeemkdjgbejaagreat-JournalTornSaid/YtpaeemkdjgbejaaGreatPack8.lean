/-
Layer 11 (store): what a crash leaves of a file; Crash.
Layer 11 (store): Crash.
Layer 11 (store): numbers that came in, opened.
Layer 11 (store): Crash in one form.
Layer 22 (journal): what a law keeps beside a journal: the items that were taken, in a row of its own.
Layer 22 (journal): the law JournalTorn, walked. Written by gen_jrntorn.py.
-/
import Derived.Test.YtpaeemkdjgbejaaGreatPack7
import Derived.StillTailTactics
import Derived.Maps.OwnSet
import Derived.SliceStrings
import Derived.Deep.Slices
import Derived.Deep.AppendLies
section
namespace Go.Proofs.YtpaeemkdjgbejaaGreat.Sto
open Go.RowKit Go.Proofs.YtpaeemkdjgbejaaGreat.Own Go.Proofs.YtpaeemkdjgbejaaGreat.KM Go.Proofs.YtpaeemkdjgbejaaGreat.Flt
open Go.Proofs.YtpaeemkdjgbejaaGreat.Rw (str strs)

theorem Bt.upto {w : World} {sl : Value} {l : Bs} (h : Bt w sl l) {k : Nat} (hk : k ≤ l.length) : ∃ p c, Bt w (.slice p k c) (l.take k) ∧ (Value.slice p k c).ownBlock = sl.ownBlock ∧
    ∀ W, (Instr.sliceAt 74 sl none (some (.int .i64 k)) none).run Tryz.prog W = .ok (.slice p k c) W := by
  have hel : Tryz.prog.elem 74 = 5 := by simp [Program.elem, Tryz.underlying74]
  have ht : Tryz.prog.underlying 74 = some (.slice (Tryz.prog.elem 74)) := by rw [hel]; exact Tryz.underlying74
  have hlt : (l.take k).length = k := by rw [List.length_take]; omega
  have r1 : ∀ (W : World) (p : Option Addr) (n c : Nat) (hk : k ≤ c), (Instr.sliceAt 74 (.slice p n c) none (some (.int .i64 k)) none).run Tryz.prog W = .ok (sliced p 0 k c 1) W := by
    intro W p n c hk
    rw [run_sliceAt_slice W _ _ _ _ _ ht, run_slice_h W _ _ _ _ ht .i64 k (by omega) (by omega), hel, Tryz.sizeOf5, Int.toNat_natCast]; rfl
  rcases h.2 with ⟨rfl, h0⟩ | ⟨g, cap, cur, rfl, _, hh, h3, h4, h5, h6⟩
  · obtain rfl : k = 0 := by omega
    refine ⟨none, 0, by rw [List.take_zero]; exact Bt.nil w, rfl, fun W => ?_⟩
    rw [r1 W none 0 0 (Nat.le_refl _)]; rfl
  · refine ⟨some ⟨g, 0, none⟩, cap, ?_, rfl, fun W => ?_⟩
    · refine ⟨by rw [bv_len, hlt, Nat.mul_one], .inr ⟨g, cap, cur, by rw [hlt], Nat.zero_le _, hh, by rw [hlt]; omega, h4, h5, ?_⟩⟩
      rw [hlt, Nat.mul_one, ← bv_take, ← h6, Nat.mul_one, List.take_take, Nat.min_eq_left hk]
    · rw [r1 W _ _ _ (by omega)]; simp [sliced, Addr.add]

set_option maxRecDepth 100000 in
set_option maxHeartbeats 1000000 in
theorem cut_calls {w : World} {sl : Value} {x : Fl} (h : Bt w sl x.bs) (hs : x.sure ≤ x.bs.length) (hl : x.bs.length ≤ 16777216) (k : Int) (hk1 : -9223372036854775808 ≤ k) (hk2 : k ≤ 9223372036854775807) :
    Calls Tryz.prog 38 #[.agg #[sl, .int .i64 x.sure], .int .i64 k] w fun e w' => ∃ p c, e = .returned (.agg #[.slice p (cutN x k) c, .int .i64 (cutN x k)]) ∧ Bt w (.slice p (cutN x k) c) (cutF x k).bs ∧ (Value.slice p (cutN x k) c).ownBlock = sl.ownBlock ∧ Below w.heap.size w w' := by
  obtain ⟨hn1, hn2⟩ := cutN_le hs k
  obtain ⟨p, c, u1, u2, u3⟩ := h.upto hn2
  have hcf : Hid (∀ (e : Ending) (w' : World), (e = .returned (.agg #[.slice p (cutN x k) c, .int .i64 (cutN x k)]) ∧ Below w.heap.size w w') → ∃ p c, e = .returned (.agg #[.slice p (cutN x k) c, .int .i64 (cutN x k)]) ∧ Bt w (.slice p (cutN x k) c) (cutF x k).bs ∧ (Value.slice p (cutN x k) c).ownBlock = sl.ownBlock ∧ Below w.heap.size w w') :=
    Lib.hid fun (e : Ending) (w' : World) h => ⟨p, c, h.1, u1, u2, h.2⟩
  refine Calls.mono (R := fun (e : Ending) (w' : World) => e = .returned (.agg #[.slice p (cutN x k) c, .int .i64 (cutN x k)]) ∧ Below w.heap.size w w') ?_ (fun e w' h => hcf.out e w' h)
  have hd : (cutN x k : Int) = x.sure + min (max k 0) ((x.bs.length : Int) - x.sure) := by unfold cutN; omega
  obtain ⟨N, hN⟩ : ∃ N, cutN x k = N := ⟨_, rfl⟩
  obtain ⟨S, hS⟩ : ∃ S, x.sure = S := ⟨_, rfl⟩
  obtain ⟨p0, c0, hsl, -⟩ := h.shape
  obtain ⟨n, hn⟩ : ∃ n, x.bs.length = n := ⟨_, rfl⟩
  rw [hn] at hsl
  subst hsl
  rw [hN] at hn1 hn2 u3 hd ⊢
  rw [hS] at hs hn1 hd ⊢
  rw [hn] at hs hl hn2 hd
  clear hcf u1 u2 h hN hS hn
  obtain ⟨M, hM⟩ : ∃ M, max k 0 = M := ⟨_, rfl⟩
  rw [hM] at hd
  obtain ⟨Q, hQ⟩ : ∃ Q, min M ((n : Int) - S) = Q := ⟨_, rfl⟩
  rw [hQ] at hd
  have q1 : 0 ≤ Q := by omega
  have q2 : Q ≤ n := by omega
  replace hd : (S : Int) + Q = N := hd.symm
  go_enter Tryz.func38, Tryz.ntmps38
  go_wp2_with fail
  refine bodyPost_ret (v := .agg #[.slice p N c, .int .i64 N]) ?_ rfl ⟨rfl, ?_⟩
  · simp [results, Tryz.results38, go_sem, *]
  · exact ((Below.refl _ _).alloc (Nat.le_refl _) _).alloc (by simp) _

/-! ### Crash -/
theorem Rise.uniq {α : Type} {nm : α → Bs} {L M : List α} (hL : Rise nm L) (hM : Rise nm M) (h : ∀ y, y ∈ L ↔ y ∈ M) : L = M := by
  have nd : ∀ {l : List α}, Rise nm l → l.Nodup := fun hl => hl.imp fun hlt e => by rw [e] at hlt; exact List.lt_irrefl _ hlt
  exact List.Perm.eq_of_pairwise (le := fun x y => nm x < nm y) (fun x y _ _ h1 h2 => absurd (List.lt_trans h1 h2) (List.lt_irrefl _)) hL hM ((List.perm_ext_iff_of_nodup (nd hL) (nd hM)).2 h)
theorem rise_set {V : List En} (h : Rise enm V) {k : Nat} (hk : k < V.length) {x : En} (hx : enm x = enm V[k]) : Rise enm (V.set k x) := by
  have e : (V.set k x).map enm = V.map enm := by
    rw [List.map_set, hx]
    apply List.ext_getElem
    · simp
    · intro i h1 h2
      rw [List.getElem_set]
      split
      · rename_i e; subst e; simp
      · rfl
  have h1 := (rise_map (nm := enm) (nb := id) enm (fun _ => rfl) (L := V)).1 h
  rw [← e] at h1
  exact (rise_map (nm := enm) (nb := id) enm (fun _ => rfl)).2 h1
theorem pt_set {V : List En} (h : Rise enm V) {k : Nat} (hk : k < V.length) {x : En} (hx : enm x = enm V[k]) : pt enm V x = V.set k x := by
  refine (h.pt x).uniq (rise_set h hk hx) fun y => ?_
  rw [mem_pt]
  constructor
  · rintro (rfl | ⟨h1, h2⟩)
    · exact List.mem_iff_getElem.2 ⟨k, by simpa using hk, by simp⟩
    · obtain ⟨i, hi, rfl⟩ := List.getElem_of_mem h1
      refine List.mem_iff_getElem.2 ⟨i, by simpa using hi, ?_⟩
      rw [List.getElem_set_ne]
      rintro rfl
      exact h2 hx.symm
  · intro hy
    obtain ⟨i, hi, rfl⟩ := List.getElem_of_mem hy
    rw [List.getElem_set]
    split
    · exact .inl rfl
    · rename_i hne
      have hi' : i < V.length := by simpa using hi
      refine .inr ⟨List.getElem_mem hi', fun e => hne ?_⟩
      rw [hx] at e
      rcases Nat.lt_trichotomy k i with hlt | he | hlt
      · have := List.pairwise_iff_getElem.1 h k i hk hi' hlt
        rw [e] at this; exact absurd this (List.lt_irrefl _)
      · exact he
      · have := List.pairwise_iff_getElem.1 h i k hi' hk hlt
        rw [e] at this; exact absurd this (List.lt_irrefl _)

structure CrAt (w wr : World) (bs : Nat → Prop) (b m : Nat) (L : List Fl) (ks : List Int) (most : Int) (k : Nat) : Prop where
  is : ∃ V, V.map En.fl = (crsL L ks).take k ++ L.drop k ∧ Base wr bs b m V most (tot ((crsL L ks).take k) : Nat) 0
  out : Out bs w wr

theorem cr_at {V : List En} {L : List Fl} {ks : List Int} {k : Nat} (hV : V.map En.fl = (crsL L ks).take k ++ L.drop k) (hk : k < L.length) : ∃ h : k < V.length, V[k].fl = L[k] := by
  have hl := congrArg List.length hV
  simp [crs_len] at hl
  refine ⟨by omega, ?_⟩
  have : (V.map En.fl)[k]'(by simp; omega) = L[k] := by
    simp only [hV]
    rw [List.getElem_append_right (by simp [crs_len]; omega)]
    simp [crs_len, Nat.min_eq_left (Nat.le_of_lt hk)]
  simpa using this
theorem cr_next {V : List En} {L : List Fl} {ks : List Int} {k : Nat} (hV : V.map En.fl = (crsL L ks).take k ++ L.drop k) (hk : k < L.length) (x : En) (hx : x.fl = cutF L[k] (ks.getD k 0)) :
    (V.set k x).map En.fl = (crsL L ks).take (k + 1) ++ L.drop (k + 1) := by
  have hkc : k < (crsL L ks).length := by rw [crs_len]; exact hk
  rw [List.map_set, hV, hx, List.set_append_right _ _ (by simp [crs_len]; omega)]
  have e1 : ((crsL L ks).take k).length = k := by simp [crs_len]; omega
  rw [e1, Nat.sub_self, List.drop_eq_getElem_cons hk, List.set_cons_zero, List.take_add_one, List.getElem?_eq_getElem hkc, crs_at L ks k hk]
  simp
theorem tot_next {L : List Fl} {ks : List Int} {k : Nat} (hk : k < L.length) : tot ((crsL L ks).take (k + 1)) = tot ((crsL L ks).take k) + (cutF L[k] (ks.getD k 0)).bs.length := by
  have hkc : k < (crsL L ks).length := by rw [crs_len]; exact hk
  rw [List.take_add_one, List.getElem?_eq_getElem hkc, crs_at L ks k hk, tot_app]
  simp [tot]
theorem tot_take (L : List Fl) (k : Nat) : tot (L.take k) ≤ tot L := by
  have := tot_app (L.take k) (L.drop k)
  rw [List.take_append_drop] at this
  omega
end Go.Proofs.YtpaeemkdjgbejaaGreat.Sto
end

section
namespace Go.Proofs.YtpaeemkdjgbejaaGreat.Sto
open Go.RowKit Go.Proofs.YtpaeemkdjgbejaaGreat.Own Go.Proofs.YtpaeemkdjgbejaaGreat.KM Go.Proofs.YtpaeemkdjgbejaaGreat.Flt
open Go.Proofs.YtpaeemkdjgbejaaGreat.Rw (str strs Row1)

/-- numbers that came in, or were laid -/
def iv (ks : List Int) : List Value := ks.map fun k => .int .i64 k
structure Keep (w : World) (bs : Nat → Prop) (p : Option Addr) (c : Nat) (ks : List Int) : Prop where
  row : Row1 w p c (iv ks)
  rng : ∀ k ∈ ks, -9223372036854775808 ≤ k ∧ k ≤ 9223372036854775807
  far : ks = [] ∨ ∀ g o, p = some ⟨g, o, none⟩ → ¬ bs g
theorem getD_rng {ks : List Int} (h : ∀ k ∈ ks, -9223372036854775808 ≤ k ∧ k ≤ 9223372036854775807) (i : Nat) : -9223372036854775808 ≤ ks.getD i 0 ∧ ks.getD i 0 ≤ 9223372036854775807 := by
  by_cases hi : i < ks.length
  · rw [List.getD, List.getElem?_eq_getElem hi]; exact h _ (List.getElem_mem hi)
  · rw [List.getD, List.getElem?_eq_none (by omega)]; simp
theorem Keep.cell {w : World} {bs : Nat → Prop} {p : Option Addr} {c : Nat} {ks : List Int} (h : Keep w bs p c ks) {i : Nat} (hi : i < ks.length) : ∃ g o, p = some ⟨g, o, none⟩ ∧ ¬ bs g ∧ g < w.heap.size ∧ w.cell? ⟨g, o + i, none⟩ = some (.int .i64 (ks.getD i 0)) := by
  rcases h.row.cells with h0 | ⟨g, o, e, hl, hc⟩
  · have : ks = [] := by simpa [iv] using h0
    rw [this] at hi; simp at hi
  · have hf : ¬ bs g := by
      rcases h.far with h0 | h0
      · rw [h0] at hi; simp at hi
      · exact h0 g o e
    exact ⟨g, o, e, hf, hl, hc i _ (by simp [iv, List.getD, List.getElem?_eq_getElem hi])⟩
theorem Keep.out {w w' : World} {bs : Nat → Prop} {p : Option Addr} {c : Nat} {ks : List Int} (h : Keep w bs p c ks) (ho : Out bs w w') : Keep w' bs p c ks := by
  refine ⟨⟨h.row.cap, h.row.max, ?_⟩, h.rng, h.far⟩
  rcases h.far with h0 | h0
  · exact .inl (by rw [h0]; rfl)
  · exact h.row.cells.imp id fun ⟨g, o, e, hl, hc⟩ => ⟨g, o, e, Nat.lt_of_lt_of_le hl ho.size, fun i x hx => (ho.cell (p := ⟨g, o + i, none⟩) hl (h0 g o e)).trans (hc i x hx)⟩

section
variable {w : World} {bs : Nat → Prop} {b m : Nat} {V : List En} {most total bad : Int}
theorem cr_step {wo W w4 : World} {bs : Nat → Prop} {b m : Nat} {Vi : List En} {most total bad : Int} {L : List Fl} {ks : List Int} {k M : Nat} {kk : Int} {p1 p' : Option Addr} {n1 c1 c' : Nat} {a : Bs} (h : Base wo bs b m Vi most total bad)
    (hkV : k < Vi.length) (hkL : k < L.length) (hx : Vi[k].fl = L[k]) (hsl : Vi[k].sl = .slice p1 n1 c1) (ha : a = L[k].nm) (_ : ks.getD k 0 = kk) (hM : cutN L[k] kk = M) (_ : L[k].sure ≤ L[k].bs.length) (_ : L[k].bs.length ≤ 16777216)
    (hb : Below wo.heap.size wo W) (hm : KMap Tryz.prog 9 str w4 m (put (look Vi) a (.agg #[.slice p' M c', .int .i64 M])) (if (look Vi a).isSome then Vi.length else Vi.length + 1)) (ho : Out (fun k => k = m) W w4)
    (R2 : Bt wo (.slice p' M c') (cutF L[k] kk).bs) (e2 : (Value.slice p' M c').ownBlock = (Value.slice p1 n1 c1).ownBlock) : Base w4 bs b m (Vi.set k ⟨cutF L[k] kk, .slice p' M c'⟩) most total bad := by
  have hxV : Vi[k] ∈ Vi := List.getElem_mem hkV
  have hn : enm ⟨cutF L[k] kk, .slice p' M c'⟩ = enm Vi[k] := by show L[k].nm = Vi[k].fl.nm; rw [hx]
  rw [← pt_set h.rise hkV hn]
  have h2 := h.below hb
  have hv : En.val ⟨cutF L[k] kk, .slice p' M c'⟩ = .agg #[.slice p' M c', .int .i64 M] := by rw [← hM]; rfl
  refine h2.put_ _ rfl (fun _ _ _ _ _ => rfl) ?_ ho (R2.kept fun g hg => hb.block g (R2.lt hg)) (fun y hy hne => ?_) fun g hg => ?_
  · rw [hv, show enm ⟨cutF L[k] kk, .slice p' M c'⟩ = a from ha.symm]; exact hm
  · have := apart_mem h.apart hxV hy (fun e => hne (by rw [← e]; exact hn.symm))
    intro g hg
    rw [e2, ← hsl] at hg
    exact this g hg
  · rw [e2, ← hsl] at hg
    exact h.mine _ hxV g hg
set_option maxRecDepth 100000 in
set_option maxHeartbeats 8000000 in
theorem crash_calls (h : Base w bs b m V most total bad) (hall : ∀ k, bs k → k < w.heap.size) {L : List Fl} (hVL : V.map En.fl = L) (hnm : ∀ x ∈ L, isNm x.nm = true) (hs : ∀ x ∈ L, x.sure ≤ x.bs.length) (ht : tot L ≤ 16777216) (hV : V.length ≤ 1000000)
    {p : Option Addr} {c : Nat} {ks : List Int} (hk : Keep w bs p c ks) :
    Calls Tryz.prog 17 #[.pointer (some ⟨b, 0, none⟩), .slice p ks.length c] w fun e w' => e = .returned (.tuple #[]) ∧ ∃ V', V'.map En.fl = crsL L ks ∧ Leaves w bs w' b m V' most (tot (crsL L ks) : Nat) 0 := by
  have c0 := (at_cell h.box 0 : _ = some _)
  have c2 := (at_cell h.box 2 : _ = some _)
  have c3 := (at_cell h.box 3 : _ = some _)
  have f2 := at_frozen h.box 2
  have f3 := at_frozen h.box 3
  have hbb := h.bb
  have B1 := Lib.hid ((h.total_ 0).bad_ 0)
  have O1 : Hid (Out bs w ((w.setCell ⟨b, 2, none⟩ (.int .i64 0)).setCell ⟨b, 3, none⟩ (.int .i64 0))) := Lib.hid (((Out.refl bs w).setCell (p := ⟨b, 2, none⟩) (fun _ => hbb) _).setCell (p := ⟨b, 3, none⟩) (fun _ => hbb) _)
  have hA := Lib.hid hall
  have hK := Lib.hid hk
  have hSR := Lib.hid hs
  have hNMS := Lib.hid hnm
  have hVL' := Lib.hid hVL
  have hb' := Lib.hid hbb
  obtain ⟨N, hN⟩ : ∃ N, V.length = N := ⟨_, rfl⟩
  have hLn : L.length = N := by rw [← hVL, List.length_map, hN]
  have hLN := Lib.hid hLn
  obtain ⟨K, hKK⟩ : ∃ K, ks.length = K := ⟨_, rfl⟩
  have hKl := Lib.hid hKK
  have hNM := Lib.hid (names_calls B1.out hV)
  rw [hN] at hNM hV
  rw [hKK]
  have hcap := hk.row.cap
  have hmax := hk.row.max
  simp only [iv, List.length_map, hKK] at hcap
  have hrise := Lib.hid h.rise
  clear h hall hVL hs hnm hN hKK hLn hk hbb
  go_enter Tryz.func17, Tryz.ntmps17
  go_wp2_with (first
    | (go_at_call 30; refine (made_some _ _ _ c0).mono ?_; rintro e w' ⟨rfl, rfl⟩)
    | (go_at_call 37; refine hNM.out.mono ?_; rintro e w1 ⟨v1, rfl, hr1, hb1⟩; obtain ⟨pv, cv, rfl, hT⟩ := Rw.owns_row hr1 (by have := hr1.1; omega); replace hr1 := Lib.hid hr1; replace hb1 := Lib.hid hb1; replace hT := Lib.hid hT))
  have hsz := O1.out.size
  have hnm : Hid (∀ i (hi : i < L.length), ∃ g, pv = some ⟨g, 0, none⟩ ∧ ¬ bs g ∧ g < w1.heap.size ∧ w1.cell? ⟨g, i, none⟩ = some (str L[i].nm)) := by
    refine Lib.hid fun i hi => ?_
    have hiN : i < N := by rw [← hLN.out]; exact hi
    obtain ⟨g, c', e, hg1, hg2, _, _⟩ := Rw.own_shape hr1.out (by omega)
    cases e
    refine ⟨g, rfl, fun hb => by have := hA.out g hb; omega, hg2, ?_⟩
    refine Rw.own_cell hr1.out rfl ?_
    have hiV : i < V.length := by have := congrArg List.length hVL'.out; rw [List.length_map] at this; omega
    have e2 : V[i].fl = L[i] := by
      have : (V.map En.fl)[i]'(by simpa using hiV) = L[i] := by simp only [hVL'.out]
      simpa using this
    rw [Rw.strs_at (by simpa using hiV)]
    simp only [List.getElem_map]
    rw [show enm V[i] = L[i].nm from congrArg Fl.nm e2]
  have O2 : Hid (Out bs w w1) := Lib.hid (O1.out.trans (Out.ofNew (S := bs) hb1.out) fun _ _ h => h)
  have hK1 : Hid (Keep w1 bs p c ks) := Lib.hid (hK.out.out O2.out)
  have hA1 : Hid (∀ k, bs k → k < w1.heap.size) := Lib.hid fun k hk => Nat.lt_of_lt_of_le (hA.out k hk) O2.out.size
  have C0 : Hid (CrAt w1 w1 bs b m L ks most 0) := Lib.hid ⟨⟨V, by rw [List.take_zero, List.drop_zero, List.nil_append]; exact hVL'.out, by rw [List.take_zero]; exact B1.out.below hb1.out⟩, Out.refl _ _⟩
  have hRng := Lib.hid fun i => getD_rng hK.out.rng i
  clear c0 c2 c3 f2 f3 B1 O1 hK hr1 hb1 hT hNM hsz hVL' hA hrise
  go_loopw [4, 5, 6, 7, 20] (fun _ _ _ _ i wr => ∃ k : Nat, k ≤ N ∧ i = .int .i64 k ∧ CrAt w1 wr bs b m L ks most k) (fun _ _ _ _ i _ => N - (intOf i).toNat)
  case atStart => exact ⟨0, Nat.zero_le _, rfl, C0.out⟩
  case round =>
    rename World => wo
    obtain ⟨k, hk, rfl, C⟩ := hrel
    by_cases hlt : k < N
    · have hkL : k < L.length := by rw [hLN.out]; exact hlt
      obtain ⟨g, rfl, hgb, hgl, hgc⟩ := hnm.out k hkL
      obtain ⟨⟨Vi, hVi, Bi⟩, Oi⟩ := C
      obtain ⟨hkV, hxk⟩ := cr_at hVi hkL
      have d0 := (Oi.cell (p := ⟨g, k, none⟩) hgl hgb).trans hgc
      obtain ⟨nm, hnmE⟩ : ∃ s : ByteArray, s = ⟨(L[k].nm).toArray⟩ := ⟨_, rfl⟩
      have hnmL : nm.data.toList = L[k].nm := by rw [hnmE]
      rw [str, ← hnmE] at d0
      have c0 := (at_cell Bi.box 0 : _ = some _)
      have hxV : Vi[k] ∈ Vi := List.getElem_mem hkV
      have hlkx : lk enm Vi nm.data.toList = some Vi[k] := Bi.rise.lk.2 ⟨hxV, by rw [hnmL, ← hxk]⟩
      have hgot := gotE_some hlkx
      have hname : nm.size ≤ maxLen := name_max (by rw [hnmL]; exact hNMS.out _ (List.getElem_mem hkL))
      have hlk := Bi.look_ nm hname
      rw [hgot] at hlk
      have hBt := Bi.rows Vi[k] hxV
      obtain ⟨p1, n1, c1, hsl⟩ := hBt.form
      obtain ⟨S, hS⟩ : ∃ S, Vi[k].fl.sure = S := ⟨_, rfl⟩
      rw [En.val, hsl, hS] at hlk
      have hmem := hSR.out L[k] (List.getElem_mem hkL)
      have hlen : L[k].bs.length ≤ 16777216 := Nat.le_trans (len_tot (List.getElem_mem hkL)) ht
      obtain ⟨kk, hkk⟩ : ∃ kk, ks.getD k 0 = kk := ⟨_, rfl⟩
      obtain ⟨r1, r2⟩ := hRng.out k
      rw [hkk] at r1 r2
      have hCut := fun W (hb : Below wo.heap.size wo W) => cut_calls (w := W) (sl := .slice p1 n1 c1) (x := L[k]) (by rw [← hsl, ← hxk]; exact hBt.kept fun g hg => hb.block g (hBt.lt hg)) hmem hlen kk r1 r2
      rw [show L[k].sure = S by rw [← hxk]; exact hS] at hCut
      have HB := Lib.hid Bi
      have HC := Lib.hid hCut
      have HV := Lib.hid (show Vi.map En.fl = (crsL L ks).take k ++ L.drop k from hVi)
      have HX := Lib.hid (show Vi[k].fl = L[k] ∧ Vi[k].sl = .slice p1 n1 c1 ∧ nm.data.toList = L[k].nm ∧ ks.getD k 0 = kk from ⟨hxk, hsl, hnmL, hkk⟩)
      have HO := Lib.hid Oi
      have HS := Lib.hid hmem
      have q1 : (k : Int) < (N : Int) := by omega
      clear hgc hVi Bi Oi hlkx hgot hBt hsl hS hmem hCut hnmE hnmL hxk hxV
      by_cases hkK : k < K
      · obtain ⟨gk, ok, rfl, hk1, hk2, hk3⟩ := hK1.out.cell (i := k) (by rw [hKl.out]; exact hkK)
        rw [hkk] at hk3
        have e0 := (HO.out.cell (p := ⟨gk, ok + k, none⟩) hk2 hk1).trans hk3
        have q2 : (k : Int) < (K : Int) := by omega
        have q3 : (K : Int) ≤ (c : Int) := by omega
        clear hk1 hk2 hk3 hkk
        go_wp2_with (go_at_call 38; refine (HC.out _ (Below.refl _ _)).mono ?_; rintro e w2 ⟨p', c', rfl, R2, e2, hb2⟩; replace R2 := Lib.hid R2; replace e2 := Lib.hid e2; replace hb2 := Lib.hid hb2)
        obtain ⟨W, hW⟩ : ∃ W, w2.alloc (.cells #[.slice p' (cutN L[k] kk) c', .int .i64 (cutN L[k] kk)] 76 (0, 0)) = W := ⟨_, rfl⟩
        have N3 : W.heap[w2.heap.size]? = some (.cells #[.slice p' (cutN L[k] kk) c', .int .i64 (cutN L[k] kk)] 76 (0, 0)) := by rw [← hW]; exact at_new _ _
        have b3 : Hid (Below wo.heap.size wo W) := Lib.hid (by rw [← hW]; exact hb2.out.alloc hb2.out.size _)
        have s3 : Hid (wo.heap.size ≤ w2.heap.size ∧ w2.heap.size < W.heap.size) := Lib.hid (by rw [← hW]; exact ⟨hb2.out.size, by simp⟩)
        rw [hW]
        obtain ⟨M, hM⟩ : ∃ M, cutN L[k] kk = M := ⟨_, rfl⟩
        rw [hM] at N3 R2 e2 ⊢
        have HM := Lib.hid hM
        have B3 := Lib.hid (HB.out.below b3.out)
        clear hW c0 hlk d0 hM e0 q3
        have n0 := (at_cell N3 0 : _ = some _)
        have n1 := (at_cell N3 1 : _ = some _)
        have c0 := (at_cell B3.out.box 0 : _ = some _)
        go_still_tail 6, (by kernel_rfl)
        change wpList _ _ _ _ _ W.drew
        refine wp_store rfl _ _ _ _ rfl _ _ keyed Tryz.underlying58 m _ _ rfl (B3.out.map.kept (w' := W.drew) rfl) nm.data.toList rfl (.agg #[.slice p' M c', .int .i64 M]) rfl (str_key hname) (str_inj _) ?_
        intro w4 K4 O4
        have O4' : Hid (Out (fun k => k = m) W w4) := Lib.hid O4.ofDrew
        have B4 := Lib.hid (cr_step HB.out hkV hkL HX.out.1 HX.out.2.1 HX.out.2.2.1 HX.out.2.2.2 HM.out HS.out hlen b3.out K4 O4'.out R2.out e2.out)
        have N4 := O4'.out.at_ N3 (fun e => by have := HB.out.lt.2; have := s3.out.1; omega)
        clear n0 n1 c0 K4 O4 N3
        have n0 := (at_cell N4 0 : _ = some _)
        have t2 := (at_cell B4.out.box 2 : _ = some _)
        have tf := at_frozen B4.out.box 2
        have hT1 : 0 ≤ (tot ((crsL L ks).take k) : Int) ∧ (tot ((crsL L ks).take k) : Int) ≤ 16777216 := ⟨by omega, by have := tot_take (crsL L ks) k; have := tot_cut hSR.out ks; omega⟩
        have hM2 : (M : Int) ≤ 16777216 := by have := (cutN_le HS.out kk).2; rw [HM.out] at this; omega
        obtain ⟨T, hT⟩ : ∃ T : Int, (tot ((crsL L ks).take k) : Int) = T := ⟨_, rfl⟩
        rw [hT] at t2 hT1
        obtain ⟨hT1, hT2⟩ := hT1
        have HT := Lib.hid hT
        clear hT N4
        go_wp2_with fail
        go_still_tail 10, (by kernel_rfl)
        change wpList _ _ _ _ _ w4.drew
        go_wp2_with fail
        go_roundw
        case rel =>
          refine ⟨k + 1, by omega, by go_num, ⟨_, cr_next HV.out hkL ⟨cutF L[k] kk, .slice p' M c'⟩ (by rw [HX.out.2.2.2]), ?_⟩, ?_⟩
          · have := B4.out.total_ (T + M)
            rw [tot_next hkL, HX.out.2.2.2]
            have e : ((tot ((crsL L ks).take k) + (cutF L[k] kk).bs.length : Nat) : Int) = T + M := by
              have h1 := (cutN_le HS.out kk).2
              rw [← HT.out, ← HM.out]
              simp only [cutF, List.length_take]
              omega
            rw [e]
            exact this.kept fun _ _ _ => rfl
          · have o1 := (HO.out.trans (Out.ofNew (S := bs) b3.out) fun _ _ h => h).trans O4'.out fun i _ hi => by subst hi; exact HB.out.bm
            have o2 := o1.setCell (p := ⟨b, 2, none⟩) (fun _ => hb'.out) (.int .i64 (T + M))
            exact ⟨o2.os, o2.tape, o2.output, o2.size, o2.block⟩
        case measure => simp [intOf]; omega
      · have q2 : (K : Int) ≤ (k : Int) := by omega
        obtain rfl : kk = 0 := by rw [← hkk, List.getD, List.getElem?_eq_none (by rw [hKl.out]; omega)]; rfl
        clear hkk
        go_wp2_with (go_at_call 38; refine (HC.out _ (Below.refl _ _)).mono ?_; rintro e w2 ⟨p', c', rfl, R2, e2, hb2⟩; replace R2 := Lib.hid R2; replace e2 := Lib.hid e2; replace hb2 := Lib.hid hb2)
        obtain ⟨W, hW⟩ : ∃ W, w2.alloc (.cells #[.slice p' (cutN L[k] 0) c', .int .i64 (cutN L[k] 0)] 76 (0, 0)) = W := ⟨_, rfl⟩
        have N3 : W.heap[w2.heap.size]? = some (.cells #[.slice p' (cutN L[k] 0) c', .int .i64 (cutN L[k] 0)] 76 (0, 0)) := by rw [← hW]; exact at_new _ _
        have b3 : Hid (Below wo.heap.size wo W) := Lib.hid (by rw [← hW]; exact hb2.out.alloc hb2.out.size _)
        have s3 : Hid (wo.heap.size ≤ w2.heap.size ∧ w2.heap.size < W.heap.size) := Lib.hid (by rw [← hW]; exact ⟨hb2.out.size, by simp⟩)
        rw [hW]
        obtain ⟨M, hM⟩ : ∃ M, cutN L[k] 0 = M := ⟨_, rfl⟩
        rw [hM] at N3 R2 e2 ⊢
        have HM := Lib.hid hM
        have B3 := Lib.hid (HB.out.below b3.out)
        clear hW c0 hlk d0 hM 
        have n0 := (at_cell N3 0 : _ = some _)
        have n1 := (at_cell N3 1 : _ = some _)
        have c0 := (at_cell B3.out.box 0 : _ = some _)
        go_still_tail 6, (by kernel_rfl)
        change wpList _ _ _ _ _ W.drew
        refine wp_store rfl _ _ _ _ rfl _ _ keyed Tryz.underlying58 m _ _ rfl (B3.out.map.kept (w' := W.drew) rfl) nm.data.toList rfl (.agg #[.slice p' M c', .int .i64 M]) rfl (str_key hname) (str_inj _) ?_
        intro w4 K4 O4
        have O4' : Hid (Out (fun k => k = m) W w4) := Lib.hid O4.ofDrew
        have B4 := Lib.hid (cr_step HB.out hkV hkL HX.out.1 HX.out.2.1 HX.out.2.2.1 HX.out.2.2.2 HM.out HS.out hlen b3.out K4 O4'.out R2.out e2.out)
        have N4 := O4'.out.at_ N3 (fun e => by have := HB.out.lt.2; have := s3.out.1; omega)
        clear n0 n1 c0 K4 O4 N3
        have n0 := (at_cell N4 0 : _ = some _)
        have t2 := (at_cell B4.out.box 2 : _ = some _)
        have tf := at_frozen B4.out.box 2
        have hT1 : 0 ≤ (tot ((crsL L ks).take k) : Int) ∧ (tot ((crsL L ks).take k) : Int) ≤ 16777216 := ⟨by omega, by have := tot_take (crsL L ks) k; have := tot_cut hSR.out ks; omega⟩
        have hM2 : (M : Int) ≤ 16777216 := by have := (cutN_le HS.out 0).2; rw [HM.out] at this; omega
        obtain ⟨T, hT⟩ : ∃ T : Int, (tot ((crsL L ks).take k) : Int) = T := ⟨_, rfl⟩
        rw [hT] at t2 hT1
        obtain ⟨hT1, hT2⟩ := hT1
        have HT := Lib.hid hT
        clear hT N4
        go_wp2_with fail
        go_still_tail 10, (by kernel_rfl)
        change wpList _ _ _ _ _ w4.drew
        go_wp2_with fail
        go_roundw
        case rel =>
          refine ⟨k + 1, by omega, by go_num, ⟨_, cr_next HV.out hkL ⟨cutF L[k] 0, .slice p' M c'⟩ (by rw [HX.out.2.2.2]), ?_⟩, ?_⟩
          · have := B4.out.total_ (T + M)
            rw [tot_next hkL, HX.out.2.2.2]
            have e : ((tot ((crsL L ks).take k) + (cutF L[k] 0).bs.length : Nat) : Int) = T + M := by
              have h1 := (cutN_le HS.out 0).2
              rw [← HT.out, ← HM.out]
              simp only [cutF, List.length_take]
              omega
            rw [e]
            exact this.kept fun _ _ _ => rfl
          · have o1 := (HO.out.trans (Out.ofNew (S := bs) b3.out) fun _ _ h => h).trans O4'.out fun i _ hi => by subst hi; exact HB.out.bm
            have o2 := o1.setCell (p := ⟨b, 2, none⟩) (fun _ => hb'.out) (.int .i64 (T + M))
            exact ⟨o2.os, o2.tape, o2.output, o2.size, o2.block⟩
        case measure => simp [intOf]; omega
    · obtain rfl : k = N := by omega
      have q1 : ¬ (k : Int) < (k : Int) := by omega
      have HC := Lib.hid C
      clear C
      go_wp2_with fail
      go_end0
      obtain ⟨⟨Vi, hVi, Bi⟩, Oi⟩ := HC.out
      have e1 : (crsL L ks).take k = crsL L ks := List.take_of_length_le (by rw [crs_len, hLN.out]; omega)
      rw [e1] at hVi Bi
      rw [List.drop_eq_nil_of_le (by rw [hLN.out]; omega), List.append_nil] at hVi
      exact ⟨rfl, Vi, hVi, bs, Bi, O2.out.trans Oi fun _ _ h => h, fun _ h => .inl h, fun i hi => Nat.lt_of_lt_of_le (hA1.out i hi) Oi.size⟩
end
end Go.Proofs.YtpaeemkdjgbejaaGreat.Sto
end

section
namespace Go.Proofs.YtpaeemkdjgbejaaGreat.Sto
open Go.RowKit Go.Proofs.YtpaeemkdjgbejaaGreat.Own Go.ChangeShapes Go.WideShapes Go.Deep
open Go.Proofs.YtpaeemkdjgbejaaGreat.Rw (str strs Row1)

def toI : Value → Int
  | .int _ n => n
  | _ => 0
section
variable {H : Type} {enc : TypeId × Value → H} {w : World} {base : Nat} {spare : Nat → Bool} {held : Bool}
theorem cInt : Tryz.prog.cellsOf 3 = 1 := by kernel_rfl
/-- a slice of numbers -/
theorem ints_arg {v : Value} {d : DataW H} {p : List MemPlace} (h : DataW.Trod enc Tryz.prog w base spare held 23 v d p) (hv : ∃ a n cap, v = .slice a n cap) :
    ∃ q K cq ks, v = .slice q K cq ∧ ks.length = K ∧ Row1 w q cq (iv ks) ∧ ∀ k ∈ ks, -9223372036854775808 ≤ k ∧ k ≤ 9223372036854775807 := by
  obtain ⟨n, E, ⟨a, cap, rfl, h1, h2, h3⟩, m, hE⟩ := args_slice Tryz.underlying23 (size := 1) cInt (by omega) h hv
  have hz : ∀ i, i < n → ∃ x, E i 0 = .int .i64 x ∧ -9223372036854775808 ≤ x ∧ x ≤ 9223372036854775807 := fun i hi => by
    obtain ⟨y, hy⟩ := hE i hi
    obtain ⟨x, ex, hw⟩ := leaf_int Tryz.underlying3 hy
    exact ⟨x, ex, wf64 hw⟩
  refine ⟨a, n, cap, (List.range n).map fun i => toI (E i 0), rfl, by simp, ⟨by simpa [iv] using h1, h2, ?_⟩, fun k hk => ?_⟩
  · rcases h3 with h0 | ⟨g, off, rfl, hl, hc⟩
    · left; subst h0; rfl
    · refine .inr ⟨g, off, rfl, hl, fun i x hx => ?_⟩
      have hi : i < n := by
        have := (List.getElem?_eq_some_iff.1 hx).1
        simpa [iv] using this
      obtain ⟨z, ez, _⟩ := hz i hi
      have hc0 := hc i 0 hi (by omega)
      rw [Nat.mul_one, Nat.add_zero] at hc0
      rw [hc0, ez]
      simp [iv, hi, ez, toI] at hx
      rw [← hx]
  · simp only [List.mem_map, List.mem_range] at hk
    obtain ⟨i, hi, rfl⟩ := hk
    obtain ⟨z, ez, hz2⟩ := hz i hi
    rw [ez]
    exact hz2
set_option maxRecDepth 100000 in
theorem ints_open {v : Value} (t : ∃ d p, DataW.Trod enc Tryz.prog w base spare held 23 v d p) {r : Reach} (o : ∃ base, Value.okWide Tryz.prog w r base 23 v) :
    ∃ q K cq ks, v = .slice q K cq ∧ ks.length = K ∧ Row1 w q cq (iv ks) ∧ ∀ k ∈ ks, -9223372036854775808 ≤ k ∧ k ≤ 9223372036854775807 := by
  obtain ⟨d, p, t⟩ := t
  obtain ⟨b0, o⟩ := o
  exact ints_arg t (okWide_slice Tryz.underlying23 o)
end
end Go.Proofs.YtpaeemkdjgbejaaGreat.Sto
end

section
namespace Go.Proofs.YtpaeemkdjgbejaaGreat.Sto
open Go.RowKit Go.Proofs.YtpaeemkdjgbejaaGreat.Own Go.Proofs.YtpaeemkdjgbejaaGreat.KM Go.Proofs.YtpaeemkdjgbejaaGreat.Flt
open Go.Proofs.YtpaeemkdjgbejaaGreat.Rw (str strs Row1)

section
variable {w : World} {bs : Nat → Prop} {b : Nat} {t : St}

theorem sto_crash (h : Sto w bs b t) (hl : t.L.length ≤ 1000000) {p : Option Addr} {c : Nat} {ks : List Int} (hk : Keep w bs p c ks) :
    Calls Tryz.prog 17 #[pb b, .slice p ks.length c] w fun e w' => e = .returned (.tuple #[]) ∧ Does w bs w' b (crs t ks) := by
  obtain ⟨m, V, eV, hB⟩ := h.is
  have hlen : V.length = t.L.length := by rw [← eV, List.length_map]
  refine (crash_calls hB h.all eV h.ok.names h.ok.sures (by have := tot_top h.ok; omega) (by omega) hk).mono fun e w' ⟨he, V', hV', bs', B', ho, h1, h2⟩ => ?_
  exact ⟨he, bs', ⟨h.ok.crs ks, h2, m, V', hV', B'⟩, ho, h1⟩
end
end Go.Proofs.YtpaeemkdjgbejaaGreat.Sto
end

section
namespace Go.Proofs.YtpaeemkdjgbejaaGreat.Jrn
open Go.RowKit Go.Proofs.YtpaeemkdjgbejaaGreat.Own Go.Proofs.YtpaeemkdjgbejaaGreat.Sto Go.Proofs.YtpaeemkdjgbejaaGreat.Gen Go.Proofs.YtpaeemkdjgbejaaGreat.Flt
open Go.Proofs.YtpaeemkdjgbejaaGreat.Rec (Itm chk bytesOf flat cv cv_len cv_app Its)
open Go.Proofs.YtpaeemkdjgbejaaGreat.Rw (str strs Row1 Texts)
open Go.Proofs.YtpaeemkdjgbejaaGreat.Tree (own_slice own_lt own_out grown_out)

/-- what a call of a journal's may write -/
def Mv (w : World) (bs : Nat → Prop) (j : Nat) (w' : World) (bs' : Nat → Prop) : Prop := Out (fun k => bs k ∨ k = j) w w' ∧ ∀ i, bs' i → bs i ∨ w.heap.size ≤ i
section
variable {w0 w w' : World} {bs bs' : Nat → Prop} {j b K : Nat} {t t' : St} {size : Int} {r r' : Bool} {l l' : Int} {A D : List Itm} {u : Nat} {v : Value}
theorem Wj.move {q : Bool} {e : Ending} {base : Bs} {n : Int} (h : Wj w0 w bs j b t base n size r l) (hp : JPost w bs j b base n size t' r' l' q e w') : e = .returned (.bool q) ∧ ∃ bs', Mv w bs j w' bs' ∧ Wj w0 w' bs' j b t' base n size r' l' := by
  obtain ⟨he, bs', h1, h2, h3⟩ := hp
  have hs := h.below.size
  refine ⟨he, bs', ⟨h2, h3⟩, h.below.trans (h2.below hs fun i hi => ?_), h1, fun k hk => ?_, h.jm⟩
  · rcases hi with hi | rfl
    · exact h.mine i hi
    · exact h.jm
  · rcases h3 k hk with h4 | h4
    · exact h.mine k h4
    · omega
theorem Hs.out (h : Hs w0 w bs j b t K size r l A u) {S : Nat → Prop} (ho : Out S w w') (hS : ∀ k, S k → ¬ bs k ∧ k ≠ j ∧ w0.heap.size ≤ k) : Hs w0 w' bs j b t K size r l A u :=
  ⟨⟨h.wj.below.trans (ho.below h.wj.below.size fun i hi => (hS i hi).2.2), ⟨h.wj.jat.sto.out ho fun k hk hs => (hS k hs).1 hk, h.wj.jat.jb.out ho fun hs => (hS j hs).2.1 rfl, h.wj.jat.far⟩, h.wj.mine, h.wj.jm⟩, h.hist, h.ule⟩
def AddO (w0 w : World) (bs : Nat → Prop) (j b K : Nat) (size : Int) (r : Bool) (l : Int) (A : List Itm) (u : Nat) (x : Itm) (e : Ending) (w' : World) : Prop :=
  ∃ q bs' t', e = .returned (.bool q) ∧ Mv w bs j w' bs' ∧ ((q = true ∧ r = false ∧ Hs w0 w' bs' j b t' K size false l (A ++ [x]) u) ∨ (q = false ∧ Hs w0 w' bs' j b t' K size true (l + 1) A u))
theorem add_ho (h : Hs w0 w bs j b t K size r l A u) (hz : Sz K size) (l0 : 0 ≤ l) (l1 : l ≤ 1000000) (k a : Int) (s : ByteArray) (hx : chk ⟨k, a, s⟩ = 0) :
    Calls Tryz.prog 13 #[pb j, .agg #[.int .i64 k, .int .i64 a, .string s]] w (AddO w0 w bs j b K size r l A u ⟨k, a, s⟩) := by
  have hput := h.hist.put h.ule h.ok hz.k0 hz.k1 hx size
  cases r with
  | true =>
    refine (add_rest h.wj.jat l0 l1 k a s hx).mono fun e w' hp => ?_
    obtain ⟨he, bs', hv, hw⟩ := h.wj.move hp
    exact ⟨false, bs', t, he, hv, .inr ⟨rfl, hw, h.hist, h.ule⟩⟩
  | false =>
    by_cases hc : putC t lg K size (bytesOf ⟨k, a, s⟩) = 0
    · refine (add_ok h.wj.jat (by decide) hz.s0 hz.s1 l0 l1 k a s hx (by rw [hz.held]; exact hc)).mono fun e w' hp => ?_
      rw [hz.held] at hp
      obtain ⟨he, bs', hv, hw⟩ := h.wj.move hp
      exact ⟨true, bs', _, he, hv, .inl ⟨rfl, rfl, hw, hput.1 hc, by have := h.ule; rw [List.length_append]; omega⟩⟩
    · refine (add_no h.wj.jat (by decide) hz.s0 hz.s1 l0 l1 k a s hx (by rw [hz.held]; exact hc)).mono fun e w' hp => ?_
      rw [hz.held] at hp
      obtain ⟨he, bs', hv, hw⟩ := h.wj.move hp
      exact ⟨false, bs', _, he, hv, .inr ⟨rfl, hw, hput.2 hc, h.ule⟩⟩
def SyncO (w0 w : World) (bs : Nat → Prop) (j b K : Nat) (size : Int) (r : Bool) (l : Int) (A : List Itm) (u : Nat) (e : Ending) (w' : World) : Prop :=
  ∃ q bs' t', e = .returned (.bool q) ∧ Mv w bs j w' bs' ∧ ((q = true ∧ r = false ∧ Hs w0 w' bs' j b t' K size false l A A.length) ∨ (q = false ∧ Hs w0 w' bs' j b t' K size true l A u))
theorem sync_ho (h : Hs w0 w bs j b t K size r l A u) (hz : Sz K size) :
    Calls Tryz.prog 8 #[pb j] w (SyncO w0 w bs j b K size r l A u) := by
  cases r with
  | true =>
    refine (sync_rest h.wj.jat).mono fun e w' hp => ?_
    obtain ⟨he, bs', hv, hw⟩ := h.wj.move hp
    exact ⟨false, bs', t, he, hv, .inr ⟨rfl, hw, h.hist, h.ule⟩⟩
  | false =>
    by_cases hc : synC t lg = 0
    · refine (sync_ok h.wj.jat hc).mono fun e w' hp => ?_
      obtain ⟨he, bs', hv, hw⟩ := h.wj.move hp
      exact ⟨true, bs', _, he, hv, .inl ⟨rfl, rfl, hw, h.hist.syn h.ok hz.k0 hc, Nat.le_refl _⟩⟩
    · by_cases hc7 : synC t lg = 7
      · refine (sync_none h.wj.jat hc7).mono fun e w' hp => ?_
        obtain ⟨he, bs', hv, hw⟩ := h.wj.move hp
        exact ⟨true, bs', _, he, hv, .inl ⟨rfl, rfl, hw, h.hist.gone hc7, Nat.le_refl _⟩⟩
      · refine (sync_no h.wj.jat ⟨hc, hc7⟩).mono fun e w' hp => ?_
        obtain ⟨he, bs', hv, hw⟩ := h.wj.move hp
        exact ⟨false, bs', _, he, hv, .inr ⟨rfl, hw, h.hist.same (syn_no hc), h.ule⟩⟩
def ReopO (w0 w : World) (bs : Nat → Prop) (j b K : Nat) (size : Int) (r : Bool) (l : Int) (A : List Itm) (u : Nat) (now : Int) (e : Ending) (w' : World) : Prop :=
  ∃ q bs' t', e = .returned (.bool q) ∧ Mv w bs j w' bs' ∧ ((q = true ∧ Hs w0 w' bs' j b t' K size false 0 (A ++ gapL l now) u) ∨ (q = false ∧ 0 < l ∧ Hs w0 w' bs' j b t' K size r l A u))
theorem reopen_ho (h : Hs w0 w bs j b t K size r l A u) (hz : Sz K size) (l0 : 0 ≤ l) (l1 : l ≤ 1000000) (now : Int) (h3 : 0 ≤ now) (h4 : now ≤ 1099511627776) :
    Calls Tryz.prog 10 #[pb j, .int .i64 now] w (ReopO w0 w bs j b K size r l A u now) := by
  by_cases hl : 0 < l
  · have hx := gap_ok l0 l1 h3 h4
    have hput := h.hist.put h.ule h.ok hz.k0 hz.k1 hx size
    have eT : jpT t lg (held (K : Nat)) size ⟨3, now, ⟨(Digit.dec l).toArray⟩⟩ = putT t lg K size (bytesOf (gapI l now)) := by rw [hz.held]; exact if_pos hx
    have eC : jpC t lg (held (K : Nat)) size ⟨3, now, ⟨(Digit.dec l).toArray⟩⟩ = putC t lg K size (bytesOf (gapI l now)) := by rw [hz.held]; exact if_pos hx
    have eg : gapL l now = [gapI l now] := if_pos hl
    by_cases hc : putC t lg K size (bytesOf (gapI l now)) = 0
    · refine (reopen_ok h.wj.jat (by decide) hz.s0 hz.s1 hl l1 now (by rw [eC]; exact hc)).mono fun e w' hp => ?_
      rw [eT] at hp
      obtain ⟨he, bs', hv, hw⟩ := h.wj.move hp
      exact ⟨true, bs', _, he, hv, .inl ⟨rfl, hw, by rw [eg]; exact hput.1 hc, by have := h.ule; rw [List.length_append]; omega⟩⟩
    · refine (reopen_no h.wj.jat (by decide) hz.s0 hz.s1 hl l1 now (by rw [eC]; exact hc)).mono fun e w' hp => ?_
      rw [eT] at hp
      obtain ⟨he, bs', hv, hw⟩ := h.wj.move hp
      exact ⟨false, bs', _, he, hv, .inr ⟨rfl, hl, hw, hput.2 hc, h.ule⟩⟩
  · have eg : gapL l now = [] := if_neg hl
    refine (reopen_none h.wj.jat (by omega) now).mono fun e w' hp => ?_
    obtain ⟨he, bs', hv, hw⟩ := h.wj.move hp
    exact ⟨true, bs', _, he, hv, .inl ⟨rfl, hw, by rw [eg, List.append_nil]; exact h.hist, by rw [eg, List.append_nil]; exact h.ule⟩⟩
def FailO (w0 w : World) (bs : Nat → Prop) (j b K : Nat) (size : Int) (r : Bool) (l : Int) (A : List Itm) (u : Nat) (e : Ending) (w' : World) : Prop :=
  e = .returned (.tuple #[]) ∧ ∃ bs' t', Mv w bs j w' bs' ∧ Hs w0 w' bs' j b t' K size r l A u
theorem fail_ho (h : Hs w0 w bs j b t K size r l A u) (n : Int) (hn : -9223372036854775808 ≤ n ∧ n ≤ 9223372036854775807) :
    Calls Tryz.prog 12 #[pb b, .int .i64 n] w (FailO w0 w bs j b K size r l A u) :=
  (sto_fail h.wj.jat.sto n hn).mono fun _ _ ⟨he, hs, ho⟩ => ⟨he, bs, _, ⟨ho.mono (fun _ _ h => .inl h), fun _ hk => .inl hk⟩, h.wj.go hs ho (fun _ hk => .inl hk), h.hist.same rfl, h.ule⟩

/-- a journal, and beside it the items D in a row of the law's own -/
structure TnS (w0 w : World) (bs : Nat → Prop) (j b : Nat) (t : St) (K : Nat) (size : Int) (r : Bool) (l : Int) (A : List Itm) (u : Nat) (D : List Itm) (v : Value) : Prop where
  hs : Hs w0 w bs j b t K size r l A u
  own : w.ownsRow w0.heap.size 36 3 v D.length (cv D)
  far : ∀ g, v.ownBlock = some g → ¬ bs g ∧ g ≠ j
theorem TnS.same (h : TnS w0 w bs j b t K size r l A u D v) (hb : Below w.heap.size w w') : TnS w0 w' bs j b t K size r l A u D v := ⟨h.hs.same hb, own_below h.own hb, h.far⟩
theorem TnS.move {A' : List Itm} {u' : Nat} (h : TnS w0 w bs j b t K size r l A u D v) (hv : Mv w bs j w' bs') (hs : Hs w0 w' bs' j b t' K size r' l' A' u') : TnS w0 w' bs' j b t' K size r' l' A' u' D v := by
  refine ⟨hs, own_out h.own hv.1 fun k hk hS => ?_, fun g hg => ⟨fun hb => ?_, (h.far g hg).2⟩⟩
  · rcases hS with hS | hS
    · exact (h.far k hk).1 hS
    · exact (h.far k hk).2 hS
  · rcases hv.2 g hb with h1 | h1
    · exact (h.far g hg).1 h1
    · have := (own_lt h.own hg).2; omega
/-- one more is appended -/
theorem TnS.app {w5 w1 : World} {x : Itm} {g cap n : Nat} (h : TnS w0 w bs j b t K size r l A u D v) (hb : Below w.heap.size w w5) (hn : n = D.length) (ho : w1.ownsRow w0.heap.size 36 3 (.slice (some ⟨g, 0, none⟩) (n + 1) cap) (n + 1) (cv D ++ [.int .i64 x.k, .int .i64 x.a, .string x.b]))
    (hg : w5.grownBy w1 v.ownBlock) (hat : v.ownBlock = some g ∨ g = w5.heap.size) : TnS w0 w1 bs j b t K size r l A u (D ++ [x]) (.slice (some ⟨g, 0, none⟩) (n + 1) cap) := by
  subst hn
  have h5 := h.same hb
  refine ⟨h5.hs.out (grown_out hg) fun k hk => ⟨(h.far k hk).1, (h.far k hk).2, (own_lt h.own hk).1⟩, by rw [List.length_append, cv_app]; exact ho, fun g' hg' => ?_⟩
  obtain rfl : g = g' := by simpa [Value.ownBlock] using hg'
  rcases hat with h1 | rfl
  · exact h.far g h1
  · refine ⟨fun hb5 => ?_, fun e => ?_⟩
    · have := h5.hs.wj.jat.sto.all _ hb5; omega
    · have := at_lt h5.hs.wj.jat.jb.box; omega
theorem item_new (w : World) (x y z : Value) (T : TypeId) : ∀ j u, [x, y, z][j]? = some u → (w.alloc (.cells #[x, y, z] T (0, 0))).cell? ((⟨w.heap.size, 0, none⟩ : Addr).add j) = some u := fun j u hu => three_new w x y z T w.heap.size rfl _ rfl j u hu
theorem item_drew (w : World) (x y z : Value) (T : TypeId) : ∀ j u, [x, y, z][j]? = some u → (w.alloc (.cells #[x, y, z] T (0, 0))).drew.cell? ((⟨w.heap.size, 0, none⟩ : Addr).add j) = some u := fun j u hu => three_new w x y z T w.heap.size rfl _ rfl j u hu
/-- what is read of all generations lies within -/
theorem TnS.within (h : TnS w0 w bs j b t K size r l A u A v) (hK : 1 ≤ K) : ∃ k0, k0 + (load ((fnd t (ser lg K)).map Fl.bs)).length = A.length ∧ (A.drop k0).take (load ((fnd t (ser lg K)).map Fl.bs)).length = load ((fnd t (ser lg K)).map Fl.bs) := by
  obtain ⟨pre, h1, _⟩ := h.hs.hist.all hK
  generalize load ((fnd t (ser lg K)).map Fl.bs) = X at *
  exact ⟨pre.length, by rw [h1, List.length_append], by rw [h1, List.drop_left, List.take_length]⟩
theorem TnS.torn (h : TnS w0 w bs j b t K size r l A u A v) (hK : 1 ≤ K) (ks : List Int) : ∃ k0, k0 + (load ((fnd (crs t ks) (ser lg K)).map Fl.bs)).length ≤ A.length ∧ u ≤ k0 + (load ((fnd (crs t ks) (ser lg K)).map Fl.bs)).length ∧ (A.drop k0).take (load ((fnd (crs t ks) (ser lg K)).map Fl.bs)).length = load ((fnd (crs t ks) (ser lg K)).map Fl.bs) := by
  obtain ⟨pre, post, h1, h2⟩ := h.hs.hist.crash h.hs.ok hK ks
  generalize load ((fnd (crs t ks) (ser lg K)).map Fl.bs) = X at *
  have hl : A.length = pre.length + X.length + post.length := by rw [h1, List.length_append, List.length_append]
  exact ⟨pre.length, by omega, by omega, by rw [h1, List.append_assoc, List.drop_left, List.take_left]⟩
end
theorem keep_of {w wr : World} {bs : Nat → Prop} {q : Option Addr} {c : Nat} {ks : List Int} (h : Row1 w q c (iv ks)) (hr : ∀ k ∈ ks, -9223372036854775808 ≤ k ∧ k ≤ 9223372036854775807) (hb : Below w.heap.size w wr) (hm : ∀ k, bs k → w.heap.size ≤ k) : Keep wr bs q c ks := by
  refine ⟨h.below hb, hr, ?_⟩
  rcases h.cells with h0 | ⟨g, o, e, hl, _⟩
  · left; simpa [iv] using h0
  · right
    intro g' o' e' hg
    rw [e] at e'
    cases e'
    have := hm _ hg
    omega
/-- append onto a row of one's own, whose block is told -/
theorem append_lies {P : Program} {w : World} {ops : Array Oper} {rest : List Oper} {o : Oper} {a : Act} {Q : Exit → Act → World → Prop} (hgd : o.guard = none) (s x : Operand) (t : TypeId)
    (ho : o.op = .call { callee := .builtin .append, args := #[s, x], argTypes := #[t, t] })
    (base : Nat) (e : TypeId) (i : TypeInfo) (z : Value) (size bytes : Nat) (ht : P.underlying t = some (.slice e)) (hi : P.info? e = some i) (hz : i.zero = some z)
    (hsize : i.size = size) (hby : i.bytes = bytes) (hzs : z.cells.size = size) (hsz : 0 < size)
    (v : Value) (n : Nat) (xs : List Value) (hs : a.eval s = v) (hown : w.ownsRow base e size v n xs)
    (ad : Addr) (m c : Nat) (news : List Value) (hx : a.eval x = .slice (some ad) m c) (hl : news.length = m * size) (hnews : ∀ j u, news[j]? = some u → w.cell? (ad.add j) = some u) (h1 : ∀ u ∈ news, u.oneCell' = true)
    (hm : 0 < m) (h63 : n + m ≤ maxLen) (hbytes : (n + m) * bytes ≤ 140737488355328) (hbase : base ≤ w.heap.size)
    (h : ∀ g cap w', w'.ownsRow base e size (.slice (some ⟨g, 0, none⟩) (n + m) cap) (n + m) (xs ++ news) → w.grownBy w' v.ownBlock → (v.ownBlock = some g ∨ g = w.heap.size) → g < w'.heap.size → wpList P ops Q rest (a.put o.dst (.slice (some ⟨g, 0, none⟩) (n + m) cap)) w') : wpList P ops Q (o :: rest) a w :=
  wpList_plain hgd fun _ hK => wp_append_lies w s x t ho base e i z size bytes ht hi hz hsize hby hzs hsz v n xs hs hown ad m c news hx hl hnews h1 hm h63 hbytes hbase w.heap.size rfl fun g cap w' a b c d => hK _ _ (h g cap w' a b c d)
end Go.Proofs.YtpaeemkdjgbejaaGreat.Jrn
end

section
namespace Go.Proofs.YtpaeemkdjgbejaaGreat.Jrn
open Go.RowKit Go.Proofs.YtpaeemkdjgbejaaGreat.Own Go.Proofs.YtpaeemkdjgbejaaGreat.Sto Go.Proofs.YtpaeemkdjgbejaaGreat.Gen Go.Proofs.YtpaeemkdjgbejaaGreat.Flt
open Go.Proofs.YtpaeemkdjgbejaaGreat.Rec (Itm chk bytesOf flat cv cv_len cv_app Its)
open Go.Proofs.YtpaeemkdjgbejaaGreat.Rw (str strs Row1 Texts)

set_option maxRecDepth 100000 in
set_option maxHeartbeats 64000000 in
theorem torn_walk (p0 : Option Addr) (c0 n0 : Nat) (f : Nat → Oc) (q0 : Option Addr) (cq : Nat) (ks : List Int) (nk : Nat) (nb sz : Int) (w : World) (hF : ORow w p0 c0 n0 f) (hz : 0 ≤ sz ∧ sz ≤ 255) (hb : 0 ≤ nb ∧ nb ≤ 255)
    (hk : ks.length = nk) (hR : Row1 w q0 cq (iv ks)) (hkr : ∀ k ∈ ks, -9223372036854775808 ≤ k ∧ k ≤ 9223372036854775807) :
    Calls Tryz.prog 3 #[.int .u8 nb, .int .u8 sz, .slice p0 n0 c0, .slice q0 nk cq] w fun e w' => e = .returned (.bool true) ∧ Below w.heap.size w w' := by
  obtain ⟨i0, hi, hi0, hi1, hi2⟩ := info_parts Rec.info_item
  have hcap := hF.cap
  have hmax := hF.max
  have hqc := hR.cap
  have hqm := hR.max
  have hkl : (iv ks).length = nk := by rw [← hk]; simp [iv]
  rw [hkl] at hqc
  unfold maxLen at hmax hqm
  have HF := Lib.hid hF
  have HR := Lib.hid hR
  have HK := Lib.hid hk
  have HKR := Lib.hid hkr
  clear hF hR hk hkr hkl
  obtain ⟨hz0, hz1⟩ := hz
  by_cases hn : 60 < n0 ∨ 20 < nk
  · have hnn : (decide ((60 : Int) < (n0 : Int)) || decide ((20 : Int) < (nk : Int))) = true := by
      rcases hn with h | h
      · rw [decide_eq_true (by omega)]; rfl
      · rw [decide_eq_true (p := (20 : Int) < (nk : Int)) (by omega), Bool.or_true]
    by_cases h60 : 60 < n0
    · have hn' : (60 : Int) < (n0 : Int) := by omega
      go_enter Tryz.func3, Tryz.ntmps3
      go_wp2_with fail
      refine (works_walk _).mono ?_
      rintro e w1 ⟨rfl, hb⟩
      replace hb := Lib.hid hb
      go_wp2_with fail
      go_ret
      exact ⟨rfl, hb.out⟩
    · have hn' : ¬ (60 : Int) < (n0 : Int) := by omega
      have hn2 : (20 : Int) < (nk : Int) := by omega
      go_enter Tryz.func3, Tryz.ntmps3
      go_wp2_with fail
      refine (works_walk _).mono ?_
      rintro e w1 ⟨rfl, hb⟩
      replace hb := Lib.hid hb
      go_wp2_with fail
      go_ret
      exact ⟨rfl, hb.out⟩
  have hn' : ¬ (60 : Int) < (n0 : Int) := by omega
  have hn2 : ¬ (20 : Int) < (nk : Int) := by omega
  obtain ⟨K, hK⟩ : ∃ K : Nat, nb % 6 + 1 = (K : Int) := ⟨(nb % 6 + 1).toNat, by omega⟩
  obtain ⟨q, hq⟩ : ∃ q : Int, nb % 6 = q := ⟨_, rfl⟩
  have hqw : IntKind.u8.wrap (nb.tmod 6) = q := by
    rw [Int.tmod_eq_emod_of_nonneg hb.1, hq]
    exact Int.emod_eq_of_lt (by omega) (by show q < 256; omega)
  have hqt : nb.tmod 6 = q := by rw [Int.tmod_eq_emod_of_nonneg hb.1, hq]
  have hqb : 0 ≤ q ∧ q ≤ 5 := by omega
  have hqK : q + 1 = (K : Int) := by omega
  obtain ⟨hq0, hq5⟩ := hqb
  have hK1 : 1 ≤ K := by omega
  have hK6 : K ≤ 6 := by omega
  clear hn hK hq hb
  obtain ⟨size, hsize⟩ : ∃ size : Int, 64 + sz = size := ⟨_, rfl⟩
  have hs0 : 64 ≤ size := by omega
  have hs1 : size ≤ 1048576 := by omega
  go_enter Tryz.func3, Tryz.ntmps3
  go_wp2_with fail
  refine (Sto.new_in 5000 (by omega) (by omega) _).mono ?_
  rintro e V1 ⟨b, rfl, bs1, s1, hb1, hn1⟩
  have S1 := Lib.hid s1
  have B1 := Lib.hid hb1
  have N1 := Lib.hid hn1
  clear s1 hb1 hn1
  go_wp2_with fail
  refine (new_some b lg (K : Nat) size (by omega) ⟨hs0, hs1⟩ _).mono ?_
  rintro e V2 ⟨rfl, hj2, hb2⟩
  have W2 := Lib.hid (Wj.new B1.out S1.out N1.out hj2 hb2)
  generalize V1.heap.size = j at *
  clear hj2 hb2 S1 B1 N1 hsize hz0 hz1 hqw hqt hq0 hq5
  have HZ : Hid (Sz K size) := Lib.hid ⟨by omega, by omega, hs0, hs1⟩
  have L0 := Lib.hid (show TnS w V2 bs1 j b ⟨[], 5000, 0⟩ K size false 0 [] 0 [] (.slice none 0 0) from ⟨⟨W2.out, hist_new K 5000 0, Nat.zero_le _⟩, World.ownsRow_nil _ _ _ _, fun g hg => by cases hg⟩)
  clear W2 hqK
  go_wp2_with fail
  go_loopw [14, 15, 16] (fun av sv i wr => ∃ (k : Nat) (bs : Nat → Prop) (t : St) (r : Bool) (l : Int) (A : List Itm) (u na ca : Nat) (pa : Option Addr), k ≤ n0 ∧ i = .int .i64 k ∧ sv = .int .i64 u ∧ av = .slice pa na ca ∧ na = A.length ∧ 0 ≤ l ∧ l ≤ k ∧ na ≤ k ∧ TnS w wr bs j b t K size r l A u A av) (fun _ _ i _ => n0 - (intOf i).toNat)
  case atStart => exact ⟨0, bs1, _, false, 0, [], 0, 0, 0, none, Nat.zero_le _, rfl, rfl, rfl, rfl, Int.le_refl _, by omega, Nat.zero_le _, L0.out⟩
  case round =>
    obtain ⟨k, bs, t, r, l, A, u, na, ca, pa, hk, rfl, rfl, rfl, hna, l0, hlk, hnk, C⟩ := hrel
    rename World => wr
    have L1 := Lib.hid C
    have HNA := Lib.hid hna
    have hk60 : k ≤ 60 := by omega
    have hl60 : l ≤ 60 := by omega
    have hna60 : na ≤ 60 := by omega
    obtain ⟨_, _, ea, hca1, hca2⟩ := Tree.own_slice C.own
    simp only [Value.slice.injEq] at ea
    obtain ⟨rfl, -, rfl⟩ := ea
    rw [← hna] at hca1
    unfold maxLen at hca2
    clear C L0 hna
    rcases Nat.lt_or_eq_of_le hk with hlt | rfl
    · have q1 : (k : Int) < (n0 : Int) := by omega
      have HFb := HF.out.below L1.out.hs.below
      have hok := HFb.ok k hlt
      rcases HFb.cells with h0 | ⟨g, o, rfl, hg, hc⟩
      · omega
      obtain ⟨d0, d1, d2, d3, d4⟩ := hc k hlt
      have HN := Lib.hid (show ∀ W, Below wr.heap.size wr W → W.cell? ⟨g, o + k * 5, none⟩ = some (.int .u8 (f k).k) ∧ W.cell? ⟨g, o + k * 5 + 4, none⟩ = some (.int .u8 (f k).n) from fun W hb => ⟨(hb.cell (p := ⟨g, _, none⟩) hg).trans d0, (hb.cell (p := ⟨g, _, none⟩) hg).trans d4⟩)
      clear HFb hc d0 d4
      generalize f k = oc at *
      obtain ⟨hk0, hk1, hn0, hn1, hsz⟩ := hok
      obtain ⟨ok, oxk, oxa, oxb, on⟩ := oc
      simp only at hk0 hk1 hn0 hn1 hsz d1 d2 d3 HN
      have HFI := Lib.hid fun W => fine_calls oxk oxa oxb hsz W
      obtain ⟨hf1, hf2⟩ := fine_ok oxk oxa oxb
      generalize fineI oxk oxa oxb = x at *
      obtain ⟨fk, fa, fb⟩ := x
      have HF1 := Lib.hid hf1
      obtain ⟨_, _, fa0, fa1, _⟩ := Rec.chk_ok.1 hf1
      simp only at fa0 fa1 HFI
      clear hf1 hf2 hsz
      go_wp2_with fail
      refine (HFI.out _).mono ?_
      rintro e w5 ⟨rfl, hb5⟩
      have BX := Lib.hid (hb5.alloc hb5.size (.cells #[.int .i64 fk, .int .i64 fa, .string fb] 36 (0, 0)))
      have HXB := Lib.hid (at_new w5 (.cells #[.int .i64 fk, .int .i64 fa, .string fb] 36 (0, 0)))
      obtain ⟨d0, -⟩ := HN.out _ BX.out
      have HGX := Lib.hid (show ¬ (bs w5.heap.size ∨ w5.heap.size = j) from fun h => by
        have L5 := (L1.out.same hb5).hs.wj.jat
        rcases h with h | h
        · have := L5.sto.all _ h; omega
        · have := at_lt L5.jb.box; omega)
      clear hb5 d1 d2 d3 HFI
      obtain ⟨q, hq⟩ : ∃ q : Int, ok % 8 = q := ⟨_, rfl⟩
      have hq8 : IntKind.u8.wrap (ok.tmod 8) = q := by
        rw [Int.tmod_eq_emod_of_nonneg hk0, hq]
        exact Int.emod_eq_of_lt (by omega) (by show q < 256; omega)
      have hq9 : ok.tmod 8 = q := by rw [Int.tmod_eq_emod_of_nonneg hk0, hq]
      have qb : 0 ≤ q ∧ q < 8 := by omega
      obtain ⟨qb0, qb1⟩ := qb
      clear hq
      by_cases q4 : q = 4
      · subst q4
        go_wp2_with fail
        generalize w5.alloc (.cells #[.int .i64 fk, .int .i64 fa, .string fb] 36 (0, 0)) = W5 at *
        generalize w5.heap.size = gx at *
        have L5 := Lib.hid (L1.out.same BX.out)
        obtain ⟨x0, x1, x2⟩ := Rec.box3 HXB.out
        clear L1 HXB
        refine (sync_ho L5.out.hs HZ.out).mono ?_
        intro e V6 hp
        obtain ⟨q6, bs6, t6, rfl, hv, hw⟩ := hp
        rcases hw with ⟨rfl, rfl, hw⟩ | ⟨rfl, hw⟩
        · have L6 := Lib.hid (L5.out.move hv hw)
          have HNA2 := HNA
          rw [← HNA.out] at L6
          clear hv hw L5 x0 x1 x2 HNA
          have HA := Lib.hid (all_hs L6.out.hs HZ.out)
          obtain ⟨k0, hw1, hw2⟩ := L6.out.within hK1
          have HSZ := fnd_size L6.out.hs.ok (ser lg K)
          generalize (fnd _ (ser lg K)).map Fl.bs = TL at *
          have HW1 := Lib.hid hw1
          have HW2 := Lib.hid hw2
          have HSZ2 := Lib.hid HSZ
          clear hw1 hw2 HSZ
          go_wp2_with fail
          refine HA.out.mono ?_
          rintro e V7 ⟨pl, cl, nl, rfl, hnl, hT, hb7, -, -⟩
          have L7 := Lib.hid (L6.out.same hb7)
          have HLD := Lib.hid (load_calls pl cl nl TL V7 hT hnl HSZ2.out (by have := HW1.out; have := HNA2.out; omega))
          clear hb7 hT hnl HA
          go_wp2_with fail
          refine HLD.out.mono ?_
          rintro e V8 ⟨v8, rfl, ho8, hb8⟩
          have L8 := Lib.hid (L7.out.same hb8)
          obtain ⟨xp, xc, rfl, hx1, hx2⟩ := Tree.own_slice ho8
          obtain ⟨nx, hnx⟩ : ∃ nx, (load TL).length = nx := ⟨_, rfl⟩
          have HI := Lib.hid (Rec.owns_its (n := nx) (by rw [hnx] at ho8; exact ho8) hnx.symm)
          have HI2 := Lib.hid (Rec.owns_its (n := na) (by have := L8.out.own; rw [← HNA2.out] at this; exact this) HNA2.out)
          rw [hnx] at hx1 HW1 HW2 ⊢
          have HNX := Lib.hid hnx.symm
          rw [← HNA2.out] at HW1
          clear hb8 ho8 hnx HLD L7
          unfold maxLen at hx2
          have HWI := Lib.hid (within_calls (load TL) A nx na HNX.out HNA2.out na (by omega) (by omega) (by omega) k0 (by have := HW1.out; omega) (by have := HW1.out; omega) HW2.out xp pa xc ca V8 HI.out HI2.out)
          go_wp2_with fail
          refine HWI.out.mono ?_
          rintro e V9 ⟨rfl, hb9⟩
          have L9 := Lib.hid (L8.out.same hb9)
          clear hb9 L8 HWI HI HI2
          go_wp2_with fail
          go_roundw
          case rel => exact ⟨k + 1, _, _, _, _, _, _, _, _, _, by omega, by go_num, rfl, rfl, HNA2.out, by omega, by omega, by omega, L9.out⟩
          case measure => simp [intOf]; omega
        · have L6 := Lib.hid (L5.out.move hv hw)
          have HNA2 := HNA
          clear hv hw L5 x0 x1 x2 HNA
          have HA := Lib.hid (all_hs L6.out.hs HZ.out)
          obtain ⟨k0, hw1, hw2⟩ := L6.out.within hK1
          have HSZ := fnd_size L6.out.hs.ok (ser lg K)
          generalize (fnd _ (ser lg K)).map Fl.bs = TL at *
          have HW1 := Lib.hid hw1
          have HW2 := Lib.hid hw2
          have HSZ2 := Lib.hid HSZ
          clear hw1 hw2 HSZ
          go_wp2_with fail
          refine HA.out.mono ?_
          rintro e V7 ⟨pl, cl, nl, rfl, hnl, hT, hb7, -, -⟩
          have L7 := Lib.hid (L6.out.same hb7)
          have HLD := Lib.hid (load_calls pl cl nl TL V7 hT hnl HSZ2.out (by have := HW1.out; have := HNA2.out; omega))
          clear hb7 hT hnl HA
          go_wp2_with fail
          refine HLD.out.mono ?_
          rintro e V8 ⟨v8, rfl, ho8, hb8⟩
          have L8 := Lib.hid (L7.out.same hb8)
          obtain ⟨xp, xc, rfl, hx1, hx2⟩ := Tree.own_slice ho8
          obtain ⟨nx, hnx⟩ : ∃ nx, (load TL).length = nx := ⟨_, rfl⟩
          have HI := Lib.hid (Rec.owns_its (n := nx) (by rw [hnx] at ho8; exact ho8) hnx.symm)
          have HI2 := Lib.hid (Rec.owns_its (n := na) (by have := L8.out.own; rw [← HNA2.out] at this; exact this) HNA2.out)
          rw [hnx] at hx1 HW1 HW2 ⊢
          have HNX := Lib.hid hnx.symm
          rw [← HNA2.out] at HW1
          clear hb8 ho8 hnx HLD L7
          unfold maxLen at hx2
          have HWI := Lib.hid (within_calls (load TL) A nx na HNX.out HNA2.out na (by omega) (by omega) (by omega) k0 (by have := HW1.out; omega) (by have := HW1.out; omega) HW2.out xp pa xc ca V8 HI.out HI2.out)
          go_wp2_with fail
          refine HWI.out.mono ?_
          rintro e V9 ⟨rfl, hb9⟩
          have L9 := Lib.hid (L8.out.same hb9)
          clear hb9 L8 HWI HI HI2
          go_wp2_with fail
          go_roundw
          case rel => exact ⟨k + 1, _, _, _, _, _, _, _, _, _, by omega, by go_num, rfl, rfl, HNA2.out, by omega, by omega, by omega, L9.out⟩
          case measure => simp [intOf]; omega
      by_cases q5 : q = 5
      · subst q5
        go_wp2_with fail
        generalize w5.alloc (.cells #[.int .i64 fk, .int .i64 fa, .string fb] 36 (0, 0)) = W5 at *
        generalize w5.heap.size = gx at *
        have L5 := Lib.hid (L1.out.same BX.out)
        obtain ⟨x0, x1, x2⟩ := Rec.box3 HXB.out
        clear L1
        refine (lost_calls L5.out.hs.wj.jat.jb).mono ?_
        rintro e w' ⟨rfl, rfl⟩
        go_wp2_with fail
        refine (reopen_ho L5.out.hs HZ.out l0 (by omega) fa fa0 fa1).mono ?_
        intro e V6 hp
        obtain ⟨q6, bs6, t6, rfl, hv, hw⟩ := hp
        rcases hw with ⟨rfl, hw⟩ | ⟨rfl, -, hw⟩
        · by_cases hl : 0 < l
          · rw [show gapL l fa = [gapI l fa] from if_pos hl] at hw
            have L6 := Lib.hid (L5.out.move hv hw)
            have hV6 := L6.out.hs.below.size
            have HOA := Lib.hid fun o => (World.ownsRow.alloc (by have := L6.out.own; rw [← HNA.out] at this; exact this) o : (V6.alloc o).drew.ownsRow w.heap.size 36 3 (.slice pa na ca) na (cv A))
            have XB := (hv.1.block gx (at_lt HXB.out) HGX.out).trans HXB.out
            obtain ⟨y0, y1, y2⟩ := Rec.box3 XB
            clear XB x0 x1 x2
            have HPU := Lib.hid fun W => Digit.rput_calls l (by omega) (by omega) W
            have HGI : Hid (gapI l fa = ⟨3, fa, ⟨(Digit.dec l).toArray⟩⟩) := Lib.hid rfl
            obtain ⟨gi, hgi⟩ : ∃ gi, gapI l fa = gi := ⟨_, rfl⟩
            obtain ⟨gb, hgb⟩ : ∃ gb : ByteArray, (⟨(Digit.dec l).toArray⟩ : ByteArray) = gb := ⟨_, rfl⟩
            rw [hgi, hgb] at HGI
            rw [hgi] at L6
            rw [hgb] at HPU
            clear hv hw L5 hgi hgb HXB HGX
            go_wp2_with fail
            go_region_law (first
              | (go_simp; go_at_call 11; refine (HPU.out _).mono ?_; rintro e w' ⟨rfl, rfl⟩)
              | (refine step_append_lies _ rfl (.tmp 94) (.tmp 100) 34 rfl w.heap.size 36 i0 _ 3 32 Tryz.underlying34 hi hi0 hi1 hi2 rfl (by decide) (.slice pa na ca) na (cv A) rfl (HOA.out _) ⟨V6.heap.size, 0, none⟩ 1 1 [.int .i64 3, .int .i64 fa, .string gb] rfl rfl (item_drew V6 _ _ _ _) (by simp [Value.oneCell']) (by omega) (by unfold maxLen; omega) (by omega) (by simp; omega) _ rfl ?_; intro g2 cap2 w9 own9 grow9 at9 _))
            all_goals
              rw [show [Value.int .i64 3, .int .i64 fa, .string gb] = [.int .i64 gi.k, .int .i64 gi.a, .string gi.b] from by rw [HGI.out]] at own9
              have L9 := Lib.hid (L6.out.app (x := gi) (by first | exact (Below.refl V6.heap.size V6).alloc (Nat.le_refl _) _ | exact ((Below.refl V6.heap.size V6).alloc (Nat.le_refl _) _).drew | exact ⟨rfl, rfl, rfl, by simp, fun k hk => Below.heap_alloc _ _ _ hk⟩) HNA.out own9 grow9 (by first | exact at9 | simpa using at9))
              obtain ⟨n2, hn2⟩ : ∃ n2, na + 1 = n2 := ⟨_, rfl⟩
              have HNA2 : Hid (n2 = (A ++ [gi]).length) := Lib.hid (by rw [List.length_append, List.length_singleton, ← HNA.out, hn2])
              have hn2b : n2 ≤ 61 := by omega
              have hn2k : n2 ≤ k + 1 := by omega
              have hcap2 := (Tree.own_slice L9.out.own).choose_spec
              obtain ⟨cc2, ec2, hca3, hca4⟩ := hcap2
              simp only [Value.slice.injEq] at ec2
              obtain ⟨-, -, rfl⟩ := ec2
              unfold maxLen at hca4
              rw [← HNA2.out] at hca3
              rw [hn2] at L9 ⊢
              clear own9 grow9 at9 hn2 HNA L6 HOA hV6
              have HA := Lib.hid (all_hs L9.out.hs HZ.out)
              obtain ⟨k0, hw1, hw2⟩ := L9.out.within hK1
              have HSZ := fnd_size L9.out.hs.ok (ser lg K)
              generalize (fnd _ (ser lg K)).map Fl.bs = TL at *
              have HW1 := Lib.hid hw1
              have HW2 := Lib.hid hw2
              have HSZ2 := Lib.hid HSZ
              clear hw1 hw2 HSZ
              go_wp2_with fail
              refine HA.out.mono ?_
              rintro e V7 ⟨pl, cl, nl, rfl, hnl, hT, hb7, -, -⟩
              have L7 := Lib.hid (L9.out.same hb7)
              have HLD := Lib.hid (load_calls pl cl nl TL V7 hT hnl HSZ2.out (by have := HW1.out; have := HNA2.out; omega))
              clear hb7 hT hnl HA
              go_wp2_with fail
              refine HLD.out.mono ?_
              rintro e V8 ⟨v8, rfl, ho8, hb8⟩
              have L8 := Lib.hid (L7.out.same hb8)
              obtain ⟨xp, xc, rfl, hx1, hx2⟩ := Tree.own_slice ho8
              obtain ⟨nx, hnx⟩ : ∃ nx, (load TL).length = nx := ⟨_, rfl⟩
              have HI := Lib.hid (Rec.owns_its (n := nx) (by rw [hnx] at ho8; exact ho8) hnx.symm)
              have HI2 := Lib.hid (Rec.owns_its (n := n2) (by have := L8.out.own; rw [← HNA2.out] at this; exact this) HNA2.out)
              rw [hnx] at hx1 HW1 HW2 ⊢
              have HNX := Lib.hid hnx.symm
              rw [← HNA2.out] at HW1
              clear hb8 ho8 hnx HLD L7
              unfold maxLen at hx2
              have HWI := Lib.hid (within_calls (load TL) (A ++ [gi]) nx n2 HNX.out HNA2.out n2 (by omega) (by omega) (by omega) k0 (by have := HW1.out; omega) (by have := HW1.out; omega) HW2.out xp (some ⟨g2, 0, none⟩) xc cap2 V8 HI.out HI2.out)
              go_wp2_with fail
              refine HWI.out.mono ?_
              rintro e V9 ⟨rfl, hb9⟩
              have L9 := Lib.hid (L8.out.same hb9)
              clear hb9 L8 HWI HI HI2
              go_wp2_with fail
              go_roundw
              case rel => exact ⟨k + 1, _, _, _, _, _, _, _, _, _, by omega, by go_num, rfl, rfl, HNA2.out, by omega, by omega, by omega, L9.out⟩
              case measure => simp [intOf]; omega
          · rw [show gapL l fa = [] from if_neg hl, List.append_nil] at hw
            have L6 := Lib.hid (L5.out.move hv hw)
            have HNA2 := HNA
            clear hv hw L5 x0 x1 x2 HNA HXB HGX
            have HA := Lib.hid (all_hs L6.out.hs HZ.out)
            obtain ⟨k0, hw1, hw2⟩ := L6.out.within hK1
            have HSZ := fnd_size L6.out.hs.ok (ser lg K)
            generalize (fnd _ (ser lg K)).map Fl.bs = TL at *
            have HW1 := Lib.hid hw1
            have HW2 := Lib.hid hw2
            have HSZ2 := Lib.hid HSZ
            clear hw1 hw2 HSZ
            go_wp2_with fail
            refine HA.out.mono ?_
            rintro e V7 ⟨pl, cl, nl, rfl, hnl, hT, hb7, -, -⟩
            have L7 := Lib.hid (L6.out.same hb7)
            have HLD := Lib.hid (load_calls pl cl nl TL V7 hT hnl HSZ2.out (by have := HW1.out; have := HNA2.out; omega))
            clear hb7 hT hnl HA
            go_wp2_with fail
            refine HLD.out.mono ?_
            rintro e V8 ⟨v8, rfl, ho8, hb8⟩
            have L8 := Lib.hid (L7.out.same hb8)
            obtain ⟨xp, xc, rfl, hx1, hx2⟩ := Tree.own_slice ho8
            obtain ⟨nx, hnx⟩ : ∃ nx, (load TL).length = nx := ⟨_, rfl⟩
            have HI := Lib.hid (Rec.owns_its (n := nx) (by rw [hnx] at ho8; exact ho8) hnx.symm)
            have HI2 := Lib.hid (Rec.owns_its (n := na) (by have := L8.out.own; rw [← HNA2.out] at this; exact this) HNA2.out)
            rw [hnx] at hx1 HW1 HW2 ⊢
            have HNX := Lib.hid hnx.symm
            rw [← HNA2.out] at HW1
            clear hb8 ho8 hnx HLD L7
            unfold maxLen at hx2
            have HWI := Lib.hid (within_calls (load TL) A nx na HNX.out HNA2.out na (by omega) (by omega) (by omega) k0 (by have := HW1.out; omega) (by have := HW1.out; omega) HW2.out xp pa xc ca V8 HI.out HI2.out)
            go_wp2_with fail
            refine HWI.out.mono ?_
            rintro e V9 ⟨rfl, hb9⟩
            have L9 := Lib.hid (L8.out.same hb9)
            clear hb9 L8 HWI HI HI2
            go_wp2_with fail
            go_roundw
            case rel => exact ⟨k + 1, _, _, _, _, _, _, _, _, _, by omega, by go_num, rfl, rfl, HNA2.out, by omega, by omega, by omega, L9.out⟩
            case measure => simp [intOf]; omega
        · have L6 := Lib.hid (L5.out.move hv hw)
          have HNA2 := HNA
          clear hv hw L5 x0 x1 x2 HNA HXB HGX
          have HA := Lib.hid (all_hs L6.out.hs HZ.out)
          obtain ⟨k0, hw1, hw2⟩ := L6.out.within hK1
          have HSZ := fnd_size L6.out.hs.ok (ser lg K)
          generalize (fnd _ (ser lg K)).map Fl.bs = TL at *
          have HW1 := Lib.hid hw1
          have HW2 := Lib.hid hw2
          have HSZ2 := Lib.hid HSZ
          clear hw1 hw2 HSZ
          go_wp2_with fail
          refine HA.out.mono ?_
          rintro e V7 ⟨pl, cl, nl, rfl, hnl, hT, hb7, -, -⟩
          have L7 := Lib.hid (L6.out.same hb7)
          have HLD := Lib.hid (load_calls pl cl nl TL V7 hT hnl HSZ2.out (by have := HW1.out; have := HNA2.out; omega))
          clear hb7 hT hnl HA
          go_wp2_with fail
          refine HLD.out.mono ?_
          rintro e V8 ⟨v8, rfl, ho8, hb8⟩
          have L8 := Lib.hid (L7.out.same hb8)
          obtain ⟨xp, xc, rfl, hx1, hx2⟩ := Tree.own_slice ho8
          obtain ⟨nx, hnx⟩ : ∃ nx, (load TL).length = nx := ⟨_, rfl⟩
          have HI := Lib.hid (Rec.owns_its (n := nx) (by rw [hnx] at ho8; exact ho8) hnx.symm)
          have HI2 := Lib.hid (Rec.owns_its (n := na) (by have := L8.out.own; rw [← HNA2.out] at this; exact this) HNA2.out)
          rw [hnx] at hx1 HW1 HW2 ⊢
          have HNX := Lib.hid hnx.symm
          rw [← HNA2.out] at HW1
          clear hb8 ho8 hnx HLD L7
          unfold maxLen at hx2
          have HWI := Lib.hid (within_calls (load TL) A nx na HNX.out HNA2.out na (by omega) (by omega) (by omega) k0 (by have := HW1.out; omega) (by have := HW1.out; omega) HW2.out xp pa xc ca V8 HI.out HI2.out)
          go_wp2_with fail
          refine HWI.out.mono ?_
          rintro e V9 ⟨rfl, hb9⟩
          have L9 := Lib.hid (L8.out.same hb9)
          clear hb9 L8 HWI HI HI2
          go_wp2_with fail
          go_roundw
          case rel => exact ⟨k + 1, _, _, _, _, _, _, _, _, _, by omega, by go_num, rfl, rfl, HNA2.out, by omega, by omega, by omega, L9.out⟩
          case measure => simp [intOf]; omega
      by_cases q6 : q = 6
      · subst q6
        have m4 : on.tmod 4 = on % 4 := Int.tmod_eq_emod_of_nonneg hn0
        obtain ⟨m, hm⟩ : ∃ m, on % 4 = m := ⟨_, rfl⟩
        have hm0 : 0 ≤ m ∧ m < 4 := by omega
        rw [hm] at m4
        obtain ⟨hm1, hm2⟩ := hm0
        clear hm
        have d4 := (HN.out _ BX.out).2
        go_wp2_with fail
        generalize w5.alloc (.cells #[.int .i64 fk, .int .i64 fa, .string fb] 36 (0, 0)) = W5 at *
        generalize w5.heap.size = gx at *
        have L5 := Lib.hid (L1.out.same BX.out)
        obtain ⟨x0, x1, x2⟩ := Rec.box3 HXB.out
        clear L1 HXB
        refine (fail_ho L5.out.hs _ (by omega)).mono ?_
        intro e V6 hp
        obtain ⟨rfl, bs6, t6, hv, hw⟩ := hp
        have L6 := Lib.hid (L5.out.move hv hw)
        have HNA2 := HNA
        clear hv hw L5 x0 x1 x2 HNA
        have HA := Lib.hid (all_hs L6.out.hs HZ.out)
        obtain ⟨k0, hw1, hw2⟩ := L6.out.within hK1
        have HSZ := fnd_size L6.out.hs.ok (ser lg K)
        generalize (fnd _ (ser lg K)).map Fl.bs = TL at *
        have HW1 := Lib.hid hw1
        have HW2 := Lib.hid hw2
        have HSZ2 := Lib.hid HSZ
        clear hw1 hw2 HSZ
        go_wp2_with fail
        refine HA.out.mono ?_
        rintro e V7 ⟨pl, cl, nl, rfl, hnl, hT, hb7, -, -⟩
        have L7 := Lib.hid (L6.out.same hb7)
        have HLD := Lib.hid (load_calls pl cl nl TL V7 hT hnl HSZ2.out (by have := HW1.out; have := HNA2.out; omega))
        clear hb7 hT hnl HA
        go_wp2_with fail
        refine HLD.out.mono ?_
        rintro e V8 ⟨v8, rfl, ho8, hb8⟩
        have L8 := Lib.hid (L7.out.same hb8)
        obtain ⟨xp, xc, rfl, hx1, hx2⟩ := Tree.own_slice ho8
        obtain ⟨nx, hnx⟩ : ∃ nx, (load TL).length = nx := ⟨_, rfl⟩
        have HI := Lib.hid (Rec.owns_its (n := nx) (by rw [hnx] at ho8; exact ho8) hnx.symm)
        have HI2 := Lib.hid (Rec.owns_its (n := na) (by have := L8.out.own; rw [← HNA2.out] at this; exact this) HNA2.out)
        rw [hnx] at hx1 HW1 HW2 ⊢
        have HNX := Lib.hid hnx.symm
        rw [← HNA2.out] at HW1
        clear hb8 ho8 hnx HLD L7
        unfold maxLen at hx2
        have HWI := Lib.hid (within_calls (load TL) A nx na HNX.out HNA2.out na (by omega) (by omega) (by omega) k0 (by have := HW1.out; omega) (by have := HW1.out; omega) HW2.out xp pa xc ca V8 HI.out HI2.out)
        go_wp2_with fail
        refine HWI.out.mono ?_
        rintro e V9 ⟨rfl, hb9⟩
        have L9 := Lib.hid (L8.out.same hb9)
        clear hb9 L8 HWI HI HI2
        go_wp2_with fail
        go_roundw
        case rel => exact ⟨k + 1, _, _, _, _, _, _, _, _, _, by omega, by go_num, rfl, rfl, HNA2.out, by omega, by omega, by omega, L9.out⟩
        case measure => simp [intOf]; omega
      have b4 : (q == 4) = false := by simpa using q4
      have b5 : (q == 5) = false := by simpa using q5
      have b6 : (q == 6) = false := by simpa using q6
      go_wp2_with fail
      generalize w5.alloc (.cells #[.int .i64 fk, .int .i64 fa, .string fb] 36 (0, 0)) = W5 at *
      generalize w5.heap.size = gx at *
      have L5 := Lib.hid (L1.out.same BX.out)
      obtain ⟨x0, x1, x2⟩ := Rec.box3 HXB.out
      clear L1
      refine (add_ho L5.out.hs HZ.out l0 (by omega) fk fa fb HF1.out).mono ?_
      intro e V6 hp
      obtain ⟨q6, bs6, t6, rfl, hv, hw⟩ := hp
      rcases hw with ⟨rfl, rfl, hw⟩ | ⟨rfl, hw⟩
      · have L6 := Lib.hid (L5.out.move hv hw)
        have hV6 := L6.out.hs.below.size
        have HOA := Lib.hid fun o => (World.ownsRow.alloc (by have := L6.out.own; rw [← HNA.out] at this; exact this) o : (V6.alloc o).ownsRow w.heap.size 36 3 (.slice pa na ca) na (cv A))
        have XB := (hv.1.block gx (at_lt HXB.out) HGX.out).trans HXB.out
        obtain ⟨y0, y1, y2⟩ := Rec.box3 XB
        clear XB x0 x1 x2
        clear hv hw L5 HXB HGX
        go_wp2_with (at_builtin; go_loud (refine append_lies rfl (.tmp 72) (.tmp 74) 34 rfl w.heap.size 36 i0 _ 3 32 Tryz.underlying34 hi hi0 hi1 hi2 rfl (by decide) (.slice pa na ca) na (cv A) rfl (HOA.out _) ⟨V6.heap.size, 0, none⟩ 1 1 [.int .i64 fk, .int .i64 fa, .string fb] rfl rfl (item_new V6 _ _ _ _) (by simp [Value.oneCell']) (by omega) (by unfold maxLen; omega) (by omega) (by simp; omega) ?_; intro g2 cap2 w9 own9 grow9 at9 _))
        have L9 := Lib.hid (L6.out.app (x := (⟨fk, fa, fb⟩ : Itm)) (by first | exact (Below.refl V6.heap.size V6).alloc (Nat.le_refl _) _ | exact ((Below.refl V6.heap.size V6).alloc (Nat.le_refl _) _).drew | exact ⟨rfl, rfl, rfl, by simp, fun k hk => Below.heap_alloc _ _ _ hk⟩) HNA.out own9 grow9 (by first | exact at9 | simpa using at9))
        obtain ⟨n2, hn2⟩ : ∃ n2, na + 1 = n2 := ⟨_, rfl⟩
        have HNA2 : Hid (n2 = (A ++ [(⟨fk, fa, fb⟩ : Itm)]).length) := Lib.hid (by rw [List.length_append, List.length_singleton, ← HNA.out, hn2])
        have hn2b : n2 ≤ 61 := by omega
        have hn2k : n2 ≤ k + 1 := by omega
        have hcap2 := (Tree.own_slice L9.out.own).choose_spec
        obtain ⟨cc2, ec2, hca3, hca4⟩ := hcap2
        simp only [Value.slice.injEq] at ec2
        obtain ⟨-, -, rfl⟩ := ec2
        unfold maxLen at hca4
        rw [← HNA2.out] at hca3
        rw [hn2] at L9 ⊢
        clear own9 grow9 at9 hn2 HNA L6 HOA hV6
        have HA := Lib.hid (all_hs L9.out.hs HZ.out)
        obtain ⟨k0, hw1, hw2⟩ := L9.out.within hK1
        have HSZ := fnd_size L9.out.hs.ok (ser lg K)
        generalize (fnd _ (ser lg K)).map Fl.bs = TL at *
        have HW1 := Lib.hid hw1
        have HW2 := Lib.hid hw2
        have HSZ2 := Lib.hid HSZ
        clear hw1 hw2 HSZ
        go_wp2_with fail
        refine HA.out.mono ?_
        rintro e V7 ⟨pl, cl, nl, rfl, hnl, hT, hb7, -, -⟩
        have L7 := Lib.hid (L9.out.same hb7)
        have HLD := Lib.hid (load_calls pl cl nl TL V7 hT hnl HSZ2.out (by have := HW1.out; have := HNA2.out; omega))
        clear hb7 hT hnl HA
        go_wp2_with fail
        refine HLD.out.mono ?_
        rintro e V8 ⟨v8, rfl, ho8, hb8⟩
        have L8 := Lib.hid (L7.out.same hb8)
        obtain ⟨xp, xc, rfl, hx1, hx2⟩ := Tree.own_slice ho8
        obtain ⟨nx, hnx⟩ : ∃ nx, (load TL).length = nx := ⟨_, rfl⟩
        have HI := Lib.hid (Rec.owns_its (n := nx) (by rw [hnx] at ho8; exact ho8) hnx.symm)
        have HI2 := Lib.hid (Rec.owns_its (n := n2) (by have := L8.out.own; rw [← HNA2.out] at this; exact this) HNA2.out)
        rw [hnx] at hx1 HW1 HW2 ⊢
        have HNX := Lib.hid hnx.symm
        rw [← HNA2.out] at HW1
        clear hb8 ho8 hnx HLD L7
        unfold maxLen at hx2
        have HWI := Lib.hid (within_calls (load TL) (A ++ [(⟨fk, fa, fb⟩ : Itm)]) nx n2 HNX.out HNA2.out n2 (by omega) (by omega) (by omega) k0 (by have := HW1.out; omega) (by have := HW1.out; omega) HW2.out xp (some ⟨g2, 0, none⟩) xc cap2 V8 HI.out HI2.out)
        go_wp2_with fail
        refine HWI.out.mono ?_
        rintro e V9 ⟨rfl, hb9⟩
        have L9 := Lib.hid (L8.out.same hb9)
        clear hb9 L8 HWI HI HI2
        go_wp2_with fail
        go_roundw
        case rel => exact ⟨k + 1, _, _, _, _, _, _, _, _, _, by omega, by go_num, rfl, rfl, HNA2.out, by omega, by omega, by omega, L9.out⟩
        case measure => simp [intOf]; omega
      · have L6 := Lib.hid (L5.out.move hv hw)
        have HNA2 := HNA
        clear hv hw L5 x0 x1 x2 HNA HXB HGX
        have HA := Lib.hid (all_hs L6.out.hs HZ.out)
        obtain ⟨k0, hw1, hw2⟩ := L6.out.within hK1
        have HSZ := fnd_size L6.out.hs.ok (ser lg K)
        generalize (fnd _ (ser lg K)).map Fl.bs = TL at *
        have HW1 := Lib.hid hw1
        have HW2 := Lib.hid hw2
        have HSZ2 := Lib.hid HSZ
        clear hw1 hw2 HSZ
        go_wp2_with fail
        refine HA.out.mono ?_
        rintro e V7 ⟨pl, cl, nl, rfl, hnl, hT, hb7, -, -⟩
        have L7 := Lib.hid (L6.out.same hb7)
        have HLD := Lib.hid (load_calls pl cl nl TL V7 hT hnl HSZ2.out (by have := HW1.out; have := HNA2.out; omega))
        clear hb7 hT hnl HA
        go_wp2_with fail
        refine HLD.out.mono ?_
        rintro e V8 ⟨v8, rfl, ho8, hb8⟩
        have L8 := Lib.hid (L7.out.same hb8)
        obtain ⟨xp, xc, rfl, hx1, hx2⟩ := Tree.own_slice ho8
        obtain ⟨nx, hnx⟩ : ∃ nx, (load TL).length = nx := ⟨_, rfl⟩
        have HI := Lib.hid (Rec.owns_its (n := nx) (by rw [hnx] at ho8; exact ho8) hnx.symm)
        have HI2 := Lib.hid (Rec.owns_its (n := na) (by have := L8.out.own; rw [← HNA2.out] at this; exact this) HNA2.out)
        rw [hnx] at hx1 HW1 HW2 ⊢
        have HNX := Lib.hid hnx.symm
        rw [← HNA2.out] at HW1
        clear hb8 ho8 hnx HLD L7
        unfold maxLen at hx2
        have HWI := Lib.hid (within_calls (load TL) A nx na HNX.out HNA2.out na (by omega) (by omega) (by omega) k0 (by have := HW1.out; omega) (by have := HW1.out; omega) HW2.out xp pa xc ca V8 HI.out HI2.out)
        go_wp2_with fail
        refine HWI.out.mono ?_
        rintro e V9 ⟨rfl, hb9⟩
        have L9 := Lib.hid (L8.out.same hb9)
        clear hb9 L8 HWI HI HI2
        go_wp2_with fail
        go_roundw
        case rel => exact ⟨k + 1, _, _, _, _, _, _, _, _, _, by omega, by go_num, rfl, rfl, HNA2.out, by omega, by omega, by omega, L9.out⟩
        case measure => simp [intOf]; omega
    · clear HF hk
      have hK16 : K ≤ 1000000 := by omega
      have HCR := Lib.hid (sto_crash L1.out.hs.wj.jat.sto (by have := L1.out.hs.hist.files L1.out.hs.ok; omega) (keep_of HR.out HKR.out L1.out.hs.below L1.out.hs.wj.mine))
      rw [HK.out] at HCR
      obtain ⟨k0, hw1, hw2, hw3⟩ := L1.out.torn hK1 ks
      have hul := L1.out.hs.ule
      rw [← HNA.out] at hul hw1
      go_wp2_with fail
      refine HCR.out.mono ?_
      rintro e V2 ⟨rfl, bs2, s2, ho2, hn2⟩
      have HB2 := Lib.hid (L1.out.hs.below.trans (ho2.below L1.out.hs.below.size fun i hi => L1.out.hs.wj.mine i hi))
      have HO2 := Lib.hid (Tree.own_out L1.out.own ho2 fun g hg => (L1.out.far g hg).1)
      have HA := Lib.hid (all_calls s2 lg (by decide) (K : Nat))
      rw [HZ.out.held] at HA
      have HSZ := Lib.hid (fnd_size s2.ok (ser lg K))
      generalize (fnd _ (ser lg K)).map Fl.bs = TL at *
      have HW1 := Lib.hid hw1
      have HW2 := Lib.hid hw2
      have HW3 := Lib.hid hw3
      clear hw1 hw2 hw3 s2 ho2 hn2 L1 HCR HR HKR HK
      go_wp2_with fail
      refine HA.out.mono ?_
      rintro e V7 ⟨pl, cl, nl, rfl, hnl, hT, hb7, -, -⟩
      have B7 := Lib.hid hb7
      have HLD := Lib.hid (load_calls pl cl nl TL V7 hT hnl HSZ.out (by have := HW1.out; omega))
      clear hb7 hT hnl HA
      go_wp2_with fail
      refine HLD.out.mono ?_
      rintro e V8 ⟨v8, rfl, ho8, hb8⟩
      have B8 := Lib.hid (B7.out.trans (hb8.mono B7.out.size))
      obtain ⟨xp, xc, rfl, hx1, hx2⟩ := Tree.own_slice ho8
      obtain ⟨nx, hnx⟩ : ∃ nx, (load TL).length = nx := ⟨_, rfl⟩
      have HI := Lib.hid (Rec.owns_its (n := nx) (by rw [hnx] at ho8; exact ho8) hnx.symm)
      have HI2 := Lib.hid (Rec.owns_its (n := na) (by have := own_below HO2.out B8.out; rw [← HNA.out] at this; exact this) HNA.out)
      rw [hnx] at hx1 HW1 HW2 HW3 ⊢
      have HNX := Lib.hid hnx.symm
      clear hb8 ho8 hnx HLD B7
      unfold maxLen at hx2
      have HWI := Lib.hid (within_calls (load TL) A nx na HNX.out HNA.out u (by omega) (by omega) (by omega) k0 HW1.out (by have := HW2.out; omega) HW3.out xp pa xc ca V8 HI.out HI2.out)
      go_wp2_with fail
      refine HWI.out.mono ?_
      rintro e V9 ⟨rfl, hb9⟩
      have B9 := Lib.hid (B8.out.trans (hb9.mono B8.out.size))
      clear hb9 B8 HWI HI HI2
      go_wp2_with fail
      refine (works_walk _).mono ?_
      rintro e V10 ⟨rfl, hb⟩
      have B10 := Lib.hid (B9.out.trans (hb.mono B9.out.size))
      clear hb
      go_wp2_with fail
      go_ret
      exact ⟨rfl, HB2.out.trans (B10.out.mono HB2.out.size)⟩
end Go.Proofs.YtpaeemkdjgbejaaGreat.Jrn
end


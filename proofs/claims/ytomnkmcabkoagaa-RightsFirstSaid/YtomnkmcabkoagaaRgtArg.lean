/-
  Layer 16 (rights): a configuration that came in.
-/
import Derived.Test.YtomnkmcabkoagaaRgtFewM
import Derived.Test.YtomnkmcabkoagaaArgs
import Derived.Lib.SmallJoins
import Derived.OpenShut
namespace Go.Proofs.Ytomnkmcabkoagaa.Rgt
open Go.RowKit Go.Proofs.Ytomnkmcabkoagaa.Own Go.Proofs.Ytomnkmcabkoagaa.Rw Go.Proofs.Ytomnkmcabkoagaa.Tree Go.Proofs.Ytomnkmcabkoagaa.Conf

/-- groups that came in, as cells -/
inductive GsA (w : World) : List Value → List (Bs × List Bs) → Prop
  | nil : GsA w [] []
  | cons {nm : Bs} {ps : List Bs} {p : Option Addr} {c : Nat} {cs : List Value} {L : List (Bs × List Bs)} (h : Texts w p c ps) (r : GsA w cs L) : GsA w (str nm :: .slice p ps.length c :: cs) ((nm, ps) :: L)
theorem GsA.keep {w w' : World} {cs : List Value} {L : List (Bs × List Bs)} (h : GsA w cs L) (hb : Below w.heap.size w w') : GsA w' cs L := by
  induction h with
  | nil => exact .nil
  | cons h _ ih => exact .cons (h.below hb) ih
theorem GsA.len {w : World} {cs : List Value} {L : List (Bs × List Bs)} (h : GsA w cs L) : cs.length = L.length * 2 := by
  induction h with
  | nil => rfl
  | cons _ _ ih => simp only [List.length_cons]; omega
theorem GsA.at_ {w : World} {cs : List Value} {L : List (Bs × List Bs)} (h : GsA w cs L) : ∀ {i : Nat} (hi : i < L.length), ∃ p c, cs[i * 2]? = some (str L[i].1) ∧ cs[i * 2 + 1]? = some (.slice p L[i].2.length c) ∧ Texts w p c L[i].2 := by
  induction h with
  | nil => intro i hi; simp at hi
  | @cons nm ps p c cs L h _ ih =>
    intro i hi
    cases i with
    | zero => exact ⟨p, c, rfl, rfl, h⟩
    | succ i =>
      obtain ⟨p', c', e0, e1, r⟩ := ih (i := i) (by simpa using hi)
      rw [Nat.add_mul]
      exact ⟨p', c', e0, e1, r⟩
theorem grpA_at {w : World} {p : Option Addr} {c n : Nat} {gs : List Value} {cs : List (Bs × List Bs)} (h : Rd w 2 p c n gs) (hg : GsA w gs cs) {i : Nat} (hi : i < cs.length) : ∃ b o q d, p = some ⟨b, o, none⟩ ∧ b < w.heap.size ∧ i < n ∧ w.cell? ⟨b, o + i * 2, none⟩ = some (.string ⟨cs[i].1.toArray⟩) ∧ w.cell? ⟨b, o + i * 2 + 1, none⟩ = some (.slice q cs[i].2.length d) ∧ Texts w q d cs[i].2 := by
  have hl := h.len
  rw [hg.len] at hl
  have hn : n = cs.length := by omega
  obtain ⟨q, d, e0, e1, ht⟩ := hg.at_ hi
  rcases h.cells with h0 | ⟨b, o, e, hb, k⟩
  · omega
  · refine ⟨b, o, q, d, e, hb, by omega, k _ _ e0, ?_, ht⟩
    have := k _ _ e1
    rwa [← Nat.add_assoc] at this
/-- a configuration that came in -/
structure CfA (w : World) (v0 v1 v2 v3 : Value) (c : Cf) : Prop where
  cons : ∃ p k, v0 = .slice p c.cons.length k ∧ Rd w 10 p k c.cons.length (c.cons.flatMap cnv)
  grps : ∃ p k gs, v1 = .slice p c.grps.length k ∧ Rd w 2 p k c.grps.length gs ∧ GsA w gs c.grps
  usrs : ∃ p k, v2 = .slice p c.usrs.length k ∧ Rd w 2 p k c.usrs.length (c.usrs.flatMap urv)
  accs : ∃ p k, v3 = .slice p c.accs.length k ∧ Rd w 3 p k c.accs.length (c.accs.flatMap acv)

/-- rows of k cells, out of a reading -/
theorem rd_of_row {α : Type} {f : α → List Value} {k : Nat} (hf : ∀ x, (f x).length = k) (hk : 0 < k) {w : World} {v : Value} {n : Nat} {E : Nat → Nat → Value} (row : Row w v n k E) {Pr : α → Prop} (hE : ∀ i, i < n → ∃ x, Pr x ∧ ∀ j, j < k → E i j = (f x).getD j undef) :
    ∃ L : List α, (∀ x ∈ L, Pr x) ∧ L.length = n ∧ ∃ p c, v = .slice p n c ∧ Rd w k p c n (L.flatMap f) := by
  have hL : ∃ L : List α, (∀ x ∈ L, Pr x) ∧ L.length = n ∧ ∀ i (h : i < L.length), ∀ j, j < k → E i j = (f L[i]).getD j undef := by
    clear row
    induction n generalizing E with
    | zero => exact ⟨[], fun x h => absurd h List.not_mem_nil, rfl, fun i h => absurd h (Nat.not_lt_zero _)⟩
    | succ n ih =>
      obtain ⟨x, hx, hx2⟩ := hE 0 (by omega)
      obtain ⟨L, h1, h2, h3⟩ := ih (E := fun i j => E (i + 1) j) (fun i hi => hE (i + 1) (by omega))
      refine ⟨x :: L, fun y hy => (List.mem_cons.1 hy).elim (fun e => by rw [e]; exact hx) (h1 y), by simp [h2], fun i h j hj => ?_⟩
      cases i with
      | zero => exact hx2 j hj
      | succ i => exact h3 i (by simpa using h) j hj
  obtain ⟨L, h1, h2, h3⟩ := hL
  obtain ⟨a, cap, rfl, r1, r2, r3⟩ := row
  refine ⟨L, h1, h2, a, cap, rfl, ⟨r1, r2, by rw [fm_len hf, h2], ?_⟩⟩
  rcases r3 with h0 | ⟨b, off, rfl, hl, hc⟩
  · exact .inl h0
  · refine .inr ⟨b, off, rfl, hl, fun j x hx => ?_⟩
    have hj : j < (L.flatMap f).length := (List.getElem?_eq_some_iff.1 hx).1
    rw [fm_len hf] at hj
    have hi : j / k < L.length := Nat.div_lt_of_lt_mul (by rw [Nat.mul_comm]; exact hj)
    have hr : j % k < k := Nat.mod_lt _ hk
    have e : j = j / k * k + j % k := by rw [Nat.mul_comm]; exact (Nat.div_add_mod j k).symm
    have h4 := hc (j / k) (j % k) (by omega) hr
    rw [h3 _ hi _ hr] at h4
    have h5 := fm_get hf hi (j % k) hr
    rw [← e, hx] at h5
    rw [Nat.add_assoc, ← e] at h4
    rw [h4, List.getD_eq_getElem?_getD, ← h5]
    rfl

section
open Go.Joins Go.ChangeShapes Go.WideShapes Go.Deep
variable {H : Type} {enc : TypeId × Value → H} {w : World} {spare : Nat → Bool} {held : Bool} {base : Nat}
theorem slice_leaf {t e : TypeId} {m : Nat} {y : DataW H × List MemPlace} {v : Value} (ht : Try.prog.underlying t = some (.slice e)) (h : DataW.trod enc Try.prog w base spare held m t [v] = some y) :
    ∃ a n cap, v = .slice a n cap ∧ DataW.Trod enc Try.prog w base spare held t v y.1 y.2 := by
  have hv : ∃ a n cap, v = .slice a n cap := by
    rcases open_slice ht h with ⟨hcs, _⟩ | ⟨x, l, c, _, _, _, _, hcs, _⟩
    · exact ⟨_, _, _, by simpa using hcs⟩
    · exact ⟨_, _, _, by simpa using hcs⟩
  obtain ⟨a, n, cap, rfl⟩ := hv
  exact ⟨a, n, cap, rfl, m, h⟩
theorem texts_leaf {m : Nat} {y : DataW H × List MemPlace} {v : Value} (h : DataW.trod enc Try.prog w base spare held m 45 [v] = some y) : ∃ p c ts, v = .slice p ts.length c ∧ Texts w p c ts := by
  obtain ⟨a, n, cap, rfl, ht⟩ := slice_leaf Try.underlying45 h
  obtain ⟨n', E, hrow, hE⟩ := args_strings Try.underlying45 Try.underlying9 (by kernel_rfl) ht ⟨_, _, _, rfl⟩
  obtain ⟨L, -, h2, p, c, e, r⟩ := rd_of_row (k := 1) (f := fun (s : Bs) => [str s]) (Pr := fun _ => True) (fun _ => rfl) (by decide) hrow (fun i hi => by
    obtain ⟨s, e, _⟩ := hE i hi
    refine ⟨s.data.toList, trivial, fun j hj => ?_⟩
    obtain rfl : j = 0 := by omega
    rw [e]; rfl)
  injection e with e1 e2 e3
  subst e1 e2 e3
  have hm : L.flatMap (fun s => [str s]) = strs L := by
    clear r h2
    induction L with
    | nil => rfl
    | cons x l ih => rw [List.flatMap_cons, ih]; rfl
  rw [hm] at r
  refine ⟨a, cap, L, by rw [h2], ⟨⟨by rw [strs_len, h2]; exact r.cap, r.max, ?_⟩⟩⟩
  rcases r.cells with h0 | h0
  · left
    have : L = [] := List.eq_nil_of_length_eq_zero (by omega)
    rw [this]; rfl
  · exact .inr h0
set_option maxRecDepth 100000 in
theorem con_leaf {m : Nat} {y : DataW H × List MemPlace} {E : Nat → Value} (hf : DataW.trod enc Try.prog w base spare held m 47 ((List.range 10).map E) = some y) : ∃ x : Cn, True ∧ ∀ j, j < 10 → E j = (cnv x).getD j undef := by
  obtain ⟨_, _, h0⟩ := leaf_field Try.underlying47 hf 0 _ rfl 0 1 rfl (by kernel_rfl) (by omega)
  obtain ⟨_, _, h1⟩ := leaf_field Try.underlying47 hf 1 _ rfl 1 1 rfl (by kernel_rfl) (by omega)
  obtain ⟨_, _, h2⟩ := leaf_field Try.underlying47 hf 2 _ rfl 2 1 rfl (by kernel_rfl) (by omega)
  obtain ⟨_, _, h3⟩ := leaf_field Try.underlying47 hf 3 _ rfl 3 1 rfl (by kernel_rfl) (by omega)
  obtain ⟨_, _, h4⟩ := leaf_field Try.underlying47 hf 4 _ rfl 4 1 rfl (by kernel_rfl) (by omega)
  obtain ⟨_, _, h5⟩ := leaf_field Try.underlying47 hf 5 _ rfl 5 1 rfl (by kernel_rfl) (by omega)
  obtain ⟨_, _, h6⟩ := leaf_field Try.underlying47 hf 6 _ rfl 6 1 rfl (by kernel_rfl) (by omega)
  obtain ⟨_, _, h7⟩ := leaf_field Try.underlying47 hf 7 _ rfl 7 1 rfl (by kernel_rfl) (by omega)
  obtain ⟨_, _, h8⟩ := leaf_field Try.underlying47 hf 8 _ rfl 8 1 rfl (by kernel_rfl) (by omega)
  obtain ⟨_, _, h9⟩ := leaf_field Try.underlying47 hf 9 _ rfl 9 1 rfl (by kernel_rfl) (by omega)
  obtain ⟨s0, e0, _⟩ := leaf_string Try.underlying9 h0
  obtain ⟨n1, e1, _⟩ := leaf_int Try.underlying3 h1
  obtain ⟨n2, e2, _⟩ := leaf_int Try.underlying3 h2
  obtain ⟨n3, e3, _⟩ := leaf_int Try.underlying3 h3
  obtain ⟨n4, e4, _⟩ := leaf_int Try.underlying3 h4
  obtain ⟨n5, e5, _⟩ := leaf_int Try.underlying3 h5
  obtain ⟨n6, e6, _⟩ := leaf_int Try.underlying3 h6
  obtain ⟨n7, e7, _⟩ := leaf_int Try.underlying3 h7
  obtain ⟨n8, e8, _⟩ := leaf_int Try.underlying3 h8
  obtain ⟨s9, e9, _⟩ := leaf_string Try.underlying9 h9
  refine ⟨⟨s0.data.toList, n1, n2, n3, n4, n5, n6, n7, n8, s9.data.toList⟩, trivial, fun j hj => ?_⟩
  rcases (show j = 0 ∨ j = 1 ∨ j = 2 ∨ j = 3 ∨ j = 4 ∨ j = 5 ∨ j = 6 ∨ j = 7 ∨ j = 8 ∨ j = 9 by omega) with rfl | rfl | rfl | rfl | rfl | rfl | rfl | rfl | rfl | rfl
  · exact e0
  · exact e1
  · exact e2
  · exact e3
  · exact e4
  · exact e5
  · exact e6
  · exact e7
  · exact e8
  · exact e9
theorem usr_leaf {m : Nat} {y : DataW H × List MemPlace} {E : Nat → Value} (hf : DataW.trod enc Try.prog w base spare held m 55 ((List.range 2).map E) = some y) : ∃ x : Bs × Bs, True ∧ ∀ j, j < 2 → E j = (urv x).getD j undef := by
  obtain ⟨_, _, h0⟩ := leaf_field Try.underlying55 hf 0 _ rfl 0 1 rfl (by kernel_rfl) (by omega)
  obtain ⟨_, _, h1⟩ := leaf_field Try.underlying55 hf 1 _ rfl 1 1 rfl (by kernel_rfl) (by omega)
  obtain ⟨s0, e0, _⟩ := leaf_string Try.underlying9 h0
  obtain ⟨s1, e1, _⟩ := leaf_string Try.underlying9 h1
  refine ⟨(s0.data.toList, s1.data.toList), trivial, fun j hj => ?_⟩
  rcases (show j = 0 ∨ j = 1 by omega) with rfl | rfl
  · exact e0
  · exact e1
theorem acc_leaf {m : Nat} {y : DataW H × List MemPlace} {E : Nat → Value} (hf : DataW.trod enc Try.prog w base spare held m 50 ((List.range 3).map E) = some y) : ∃ x : Ac, True ∧ ∀ j, j < 3 → E j = (acv x).getD j undef := by
  obtain ⟨_, _, h0⟩ := leaf_field Try.underlying50 hf 0 _ rfl 0 1 rfl (by kernel_rfl) (by omega)
  obtain ⟨_, _, h1⟩ := leaf_field Try.underlying50 hf 1 _ rfl 1 1 rfl (by kernel_rfl) (by omega)
  obtain ⟨_, _, h2⟩ := leaf_field Try.underlying50 hf 2 _ rfl 2 1 rfl (by kernel_rfl) (by omega)
  obtain ⟨s0, e0, _⟩ := leaf_string Try.underlying9 h0
  obtain ⟨s1, e1, _⟩ := leaf_string Try.underlying9 h1
  obtain ⟨n2, e2, _⟩ := leaf_int Try.underlying3 h2
  refine ⟨(s0.data.toList, s1.data.toList, n2), trivial, fun j hj => ?_⟩
  rcases (show j = 0 ∨ j = 1 ∨ j = 2 by omega) with rfl | rfl | rfl
  · exact e0
  · exact e1
  · exact e2
/-- a group's cells: the name, where the patterns lie -/
structure Gx where
  nm : Bs
  ps : List Bs
  p : Option Addr
  c : Nat
def gxv (x : Gx) : List Value := [str x.nm, .slice x.p x.ps.length x.c]
theorem grp_leaf {m : Nat} {y : DataW H × List MemPlace} {E : Nat → Value} (hf : DataW.trod enc Try.prog w base spare held m 53 ((List.range 2).map E) = some y) : ∃ x : Gx, Texts w x.p x.c x.ps ∧ ∀ j, j < 2 → E j = (gxv x).getD j undef := by
  obtain ⟨_, _, h0⟩ := leaf_field Try.underlying53 hf 0 _ rfl 0 1 rfl (by kernel_rfl) (by omega)
  obtain ⟨_, _, h1⟩ := leaf_field Try.underlying53 hf 1 _ rfl 1 1 rfl (by kernel_rfl) (by omega)
  obtain ⟨s0, e0, _⟩ := leaf_string Try.underlying9 h0
  obtain ⟨p, c, ts, e1, ht⟩ := texts_leaf (v := E 1) h1
  refine ⟨⟨s0.data.toList, ts, p, c⟩, ht, fun j hj => ?_⟩
  rcases (show j = 0 ∨ j = 1 by omega) with rfl | rfl
  · exact e0
  · exact e1
theorem gx_gs {L : List Gx} (h : ∀ x ∈ L, Texts w x.p x.c x.ps) : GsA w (L.flatMap gxv) (L.map fun x => (x.nm, x.ps)) := by
  induction L with
  | nil => exact .nil
  | cons x l ih => exact .cons (h x (List.mem_cons_self ..)) (ih fun y hy => h y (List.mem_cons_of_mem _ hy))
set_option maxRecDepth 100000 in
theorem rows_leaf {t e : TypeId} {α : Type} {f : α → List Value} {k : Nat} (hf : ∀ x, (f x).length = k) (hk : 0 < k) {m : Nat} {y : DataW H × List MemPlace} {v : Value} (ht : Try.prog.underlying t = some (.slice e)) (hC : Try.prog.cellsOf e = k) {Pr : α → Prop}
    (hl : ∀ (m : Nat) (y : DataW H × List MemPlace) (E : Nat → Value), DataW.trod enc Try.prog w base spare held m e ((List.range k).map E) = some y → ∃ x, Pr x ∧ ∀ j, j < k → E j = (f x).getD j undef)
    (h : DataW.trod enc Try.prog w base spare held m t [v] = some y) : ∃ L : List α, (∀ x ∈ L, Pr x) ∧ ∃ p c, v = .slice p L.length c ∧ Rd w k p c L.length (L.flatMap f) := by
  obtain ⟨a, n, cap, rfl, hT⟩ := slice_leaf ht h
  obtain ⟨n', E, hrow, m', hE⟩ := args_slice ht hC hk hT ⟨_, _, _, rfl⟩
  obtain ⟨L, h1, h2, p, c, e, r⟩ := rd_of_row hf hk hrow (fun i hi => by
    obtain ⟨y', hy⟩ := hE i hi
    exact hl m' y' (E i) hy)
  refine ⟨L, h1, p, c, ?_, ?_⟩
  · rw [e, h2]
  · rw [h2]; exact r
theorem brk_leaf {m : Nat} {y : DataW H × List MemPlace} {cs : List Value} (h : DataW.trod enc Try.prog w base spare held m 26 cs = some y) : ∀ u ∈ cs, ∃ s : Bs, u = .string ⟨s.toArray⟩ := by
  obtain ⟨xs, m', -, -, hl, hx, hel⟩ := DataW.trod_array Try.underlying26 h
  have hl : cs.length = 10 := hl.trans (by kernel_rfl)
  intro u hu
  obtain ⟨i, hi, rfl⟩ := List.mem_iff_getElem.1 hu
  have h1 := hel i (by omega)
  rw [show Try.prog.cellsOf 9 = 1 by kernel_rfl, Nat.mul_one, List.drop_eq_getElem_cons hi, List.take_succ_cons, List.take_zero, List.getElem?_eq_getElem (by omega)] at h1
  obtain ⟨s, e, _⟩ := DataW.trod_string Try.underlying9 h1
  injection e with e
  exact ⟨s.data.toList, e⟩
set_option maxRecDepth 100000 in
theorem conf_arg {v : Value} {d : DataW H} {p : List MemPlace} {b0 : Nat} {r : Reach} (ho : Value.okWide Try.prog w r b0 28 v) (h : DataW.Trod enc Try.prog w base spare held 28 v d p) :
    ∃ p0 p1 p2 p3 n0 n1 n2 n3 k0 k1 k2 k3 d0 d1 d2 d3 d4 d5 d6 d7 d8 d9 c, v = confV (.slice p0 n0 k0) (.slice p1 n1 k1) (.slice p2 n2 k2) (.slice p3 n3 k3) d0 d1 d2 d3 d4 d5 d6 d7 d8 d9 ∧ CfA w (.slice p0 n0 k0) (.slice p1 n1 k1) (.slice p2 n2 k2) (.slice p3 n3 k3) c := by
  obtain ⟨cs, rfl, hsz⟩ := okWide_struct Try.underlying28 ho
  have hs14 : cs.size = 14 := hsz.trans (by kernel_rfl)
  obtain ⟨l⟩ := cs
  match l, hs14, h with
  | [c0, c1, c2, c3, c4, c5, c6, c7, c8, c9, c10, c11, c12, c13], _, h =>
    obtain ⟨fuel, hf⟩ := h
    have hf' : DataW.trod enc Try.prog w base spare held fuel 28 ((List.range 14).map fun i => [c0, c1, c2, c3, c4, c5, c6, c7, c8, c9, c10, c11, c12, c13].getD i undef) = some (d, p) := hf
    obtain ⟨_, _, h0⟩ := leaf_field Try.underlying28 hf' 0 _ rfl 0 1 rfl (by kernel_rfl) (by omega)
    obtain ⟨_, _, h1⟩ := leaf_field Try.underlying28 hf' 1 _ rfl 1 1 rfl (by kernel_rfl) (by omega)
    obtain ⟨_, _, h2⟩ := leaf_field Try.underlying28 hf' 2 _ rfl 2 1 rfl (by kernel_rfl) (by omega)
    obtain ⟨_, _, h3⟩ := leaf_field Try.underlying28 hf' 3 _ rfl 3 1 rfl (by kernel_rfl) (by omega)
    obtain ⟨_, _, h4⟩ := leaf_field Try.underlying28 hf' 4 _ rfl 4 10 rfl (by kernel_rfl) (by omega)
    obtain ⟨L0, -, q0, k0, e0, r0⟩ := rows_leaf cnv_len (by omega) (v := c0) Try.underlying22 (by kernel_rfl) (Pr := fun _ => True) (fun m y E => con_leaf) h0
    obtain ⟨L1, g1, q1, k1, e1, r1⟩ := rows_leaf (f := gxv) (fun _ => rfl) (by omega) (v := c1) Try.underlying23 (by kernel_rfl) (fun m y E => grp_leaf) h1
    obtain ⟨L2, -, q2, k2, e2, r2⟩ := rows_leaf urv_len (by omega) (v := c2) Try.underlying24 (by kernel_rfl) (Pr := fun _ => True) (fun m y E => usr_leaf) h2
    obtain ⟨L3, -, q3, k3, e3, r3⟩ := rows_leaf acv_len (by omega) (v := c3) Try.underlying25 (by kernel_rfl) (Pr := fun _ => True) (fun m y E => acc_leaf) h3
    subst e0 e1 e2 e3
    have hbr : ∀ u ∈ [c4, c5, c6, c7, c8, c9, c10, c11, c12, c13], ∃ s : Bs, u = .string ⟨s.toArray⟩ := brk_leaf h4
    obtain ⟨s4, rfl⟩ := hbr c4 (by simp)
    obtain ⟨s5, rfl⟩ := hbr c5 (by simp)
    obtain ⟨s6, rfl⟩ := hbr c6 (by simp)
    obtain ⟨s7, rfl⟩ := hbr c7 (by simp)
    obtain ⟨s8, rfl⟩ := hbr c8 (by simp)
    obtain ⟨s9, rfl⟩ := hbr c9 (by simp)
    obtain ⟨s10, rfl⟩ := hbr c10 (by simp)
    obtain ⟨s11, rfl⟩ := hbr c11 (by simp)
    obtain ⟨s12, rfl⟩ := hbr c12 (by simp)
    obtain ⟨s13, rfl⟩ := hbr c13 (by simp)
    refine ⟨_, _, _, _, _, _, _, _, _, _, _, _, _, _, _, _, _, _, _, _, _, _, ⟨L0, L1.map fun x => (x.nm, x.ps), L2, L3, []⟩, rfl, ⟨⟨_, _, rfl, r0⟩, ⟨q1, k1, _, by rw [List.length_map], by rw [List.length_map]; exact r1, gx_gs g1⟩, ⟨_, _, rfl, r2⟩, ⟨_, _, rfl, r3⟩⟩⟩
end
end Go.Proofs.Ytomnkmcabkoagaa.Rgt

/-
  Layer 16 (rights): the law's Few: what holds of the copy under way.
-/
import Derived.Test.YtomnkmcabkoagaaRgtSample
namespace Go.Proofs.Ytomnkmcabkoagaa.Rgt
open Go.RowKit Go.Proofs.Ytomnkmcabkoagaa.Own Go.Proofs.Ytomnkmcabkoagaa.Rw Go.Proofs.Ytomnkmcabkoagaa.Tree Go.Proofs.Ytomnkmcabkoagaa.Conf

/-- groups as cells, their patterns in rows of the call's own -/
inductive Go_ (B : Nat) (w : World) : List Value → List (Bs × List Bs) → Prop
  | nil : Go_ B w [] []
  | cons {nm : Bs} {ps : List Bs} {v : Value} {cs : List Value} {L : List (Bs × List Bs)} (h : w.ownsRow B 9 1 v ps.length (strs ps)) (r : Go_ B w cs L) : Go_ B w (str nm :: v :: cs) ((nm, ps) :: L)
theorem Go_.out {B : Nat} {S : Nat → Prop} {w w' : World} {cs : List Value} {L : List (Bs × List Bs)} (h : Go_ B w cs L) (ho : Out S w w') (hS : ∀ k C fr, B ≤ k → w.heap[k]? = some (.cells C 9 fr) → ¬ S k) : Go_ B w' cs L := by
  induction h with
  | nil => exact .nil
  | cons h _ ih =>
    refine .cons (own_out h ho fun k hk => ?_) ih
    rcases h.2 with ⟨rfl, _⟩ | ⟨g, cap, cur, rfl, hg, hh, _⟩
    · cases hk
    · obtain rfl : g = k := by simpa [Value.ownBlock] using hk
      exact hS g _ _ hg hh
theorem Go_.snoc {B : Nat} {w : World} {nm : Bs} {ps : List Bs} {v : Value} {cs : List Value} {L : List (Bs × List Bs)} (h : Go_ B w cs L) (hv : w.ownsRow B 9 1 v ps.length (strs ps)) : Go_ B w (cs ++ [str nm, v]) (L ++ [(nm, ps)]) := by
  induction h with
  | nil => exact .cons hv .nil
  | cons h _ ih => exact .cons h ih
theorem Go_.len {B : Nat} {w : World} {cs : List Value} {L : List (Bs × List Bs)} (h : Go_ B w cs L) : cs.length = L.length * 2 := by
  induction h with
  | nil => rfl
  | cons _ _ ih => simp only [List.length_cons]; omega
theorem Go_.gs {B : Nat} {w : World} {cs : List Value} {L : List (Bs × List Bs)} (h : Go_ B w cs L) : Gs w.heap.size w cs L := by
  induction h with
  | nil => exact .nil
  | cons h _ ih =>
    obtain ⟨p, c, rfl, -, -⟩ := own_slice h
    exact .cons (own_txB (own_base h (Nat.zero_le _)) rfl fun k e => (own_lt h e).2) ih

/-- a configuration that is small -/
structure Few (c : Cf) (m0 m1 m2 m3 : Nat) : Prop where
  l0 : c.cons.length ≤ m0
  l1 : c.grps.length ≤ m1
  l2 : c.usrs.length ≤ m2
  l3 : c.accs.length ≤ m3
  cons : ∀ x ∈ c.cons, x.name.length ≤ 40
  grps : ∀ g ∈ c.grps, g.2.length ≤ 8 ∧ ∀ p ∈ g.2, p.length ≤ 40
  accs : ∀ a ∈ c.accs, a.1.length ≤ 40 ∧ a.2.1.length ≤ 40
theorem few_nil : Few empty 0 0 0 0 := ⟨Nat.le_refl _, Nat.le_refl _, Nat.le_refl _, Nat.le_refl _, fun _ h => absurd h List.not_mem_nil, fun _ h => absurd h List.not_mem_nil, fun _ h => absurd h List.not_mem_nil⟩
theorem Few.mono {c : Cf} {m0 m1 m2 m3 n0 n1 n2 n3 : Nat} (h : Few c m0 m1 m2 m3) (h0 : m0 ≤ n0) (h1 : m1 ≤ n1) (h2 : m2 ≤ n2) (h3 : m3 ≤ n3) : Few c n0 n1 n2 n3 :=
  ⟨Nat.le_trans h.l0 h0, Nat.le_trans h.l1 h1, Nat.le_trans h.l2 h2, Nat.le_trans h.l3 h3, h.cons, h.grps, h.accs⟩
theorem Few.addC {c : Cf} {m0 m1 m2 m3 : Nat} (h : Few c m0 m1 m2 m3) {x : Cn} (hx : x.name.length ≤ 40) : Few { c with cons := c.cons ++ [x] } (m0 + 1) m1 m2 m3 :=
  ⟨by have := h.l0; simpa using this, h.l1, h.l2, h.l3, fun y hy => (List.mem_append.1 hy).elim (h.cons y) fun hy => by rw [List.mem_singleton.1 hy]; exact hx, h.grps, h.accs⟩
theorem Few.addG {c : Cf} {m0 m1 m2 m3 : Nat} (h : Few c m0 m1 m2 m3) {x : Bs × List Bs} (hx : x.2.length ≤ 8 ∧ ∀ p ∈ x.2, p.length ≤ 40) : Few { c with grps := c.grps ++ [x] } m0 (m1 + 1) m2 m3 :=
  ⟨h.l0, by have := h.l1; simpa using this, h.l2, h.l3, h.cons, fun y hy => (List.mem_append.1 hy).elim (h.grps y) fun hy => by rw [List.mem_singleton.1 hy]; exact hx, h.accs⟩
theorem Few.addU {c : Cf} {m0 m1 m2 m3 : Nat} (h : Few c m0 m1 m2 m3) (x : Bs × Bs) : Few { c with usrs := c.usrs ++ [x] } m0 m1 (m2 + 1) m3 :=
  ⟨h.l0, h.l1, by have := h.l2; simpa using this, h.l3, h.cons, h.grps, h.accs⟩
theorem Few.addA {c : Cf} {m0 m1 m2 m3 : Nat} (h : Few c m0 m1 m2 m3) {x : Bs × Bs × Int} (hx : x.1.length ≤ 40 ∧ x.2.1.length ≤ 40) : Few { c with accs := c.accs ++ [x] } m0 m1 m2 (m3 + 1) :=
  ⟨h.l0, h.l1, h.l2, by have := h.l3; simpa using this, h.cons, h.grps, fun y hy => (List.mem_append.1 hy).elim (h.accs y) fun hy => by rw [List.mem_singleton.1 hy]; exact hx⟩

/-- the copy under way: its block b, its rows (in blocks behind W's), all else as it was -/
structure Fw (W wr : World) (b : Nat) (v0 v1 v2 v3 : Value) (bs : List Bs) (c : Cf) : Prop where
  blk : wr.heap[b]? = some (.cells (v0 :: v1 :: v2 :: v3 :: strs bs).toArray 28 (0, 0))
  lt : b < W.heap.size
  out : Out (fun k => k = b) W wr
  ten : bs.length = 10
  cons : wr.ownsRow W.heap.size 47 10 v0 c.cons.length (c.cons.flatMap cnv)
  grps : ∃ gs, wr.ownsRow W.heap.size 53 2 v1 c.grps.length gs ∧ Go_ W.heap.size wr gs c.grps
  usrs : wr.ownsRow W.heap.size 55 2 v2 c.usrs.length (c.usrs.flatMap urv)
  accs : wr.ownsRow W.heap.size 50 3 v3 c.accs.length (c.accs.flatMap acv)
theorem Fw.keep {W wr w' : World} {b : Nat} {v0 v1 v2 v3 : Value} {bs : List Bs} {c : Cf} (h : Fw W wr b v0 v1 v2 v3 bs c) (hb : Below wr.heap.size wr w') : Fw W w' b v0 v1 v2 v3 bs c := by
  obtain ⟨gs, g1, g2⟩ := h.grps
  have hs := h.out.size
  exact ⟨(hb.block _ (at_lt h.blk)).trans h.blk, h.lt, h.out.trans (S' := fun _ => False) (Out.ofNew hb) fun _ _ e => e.elim, h.ten, own_below h.cons hb, ⟨gs, own_below g1 hb, g2.out (Out.ofNew (S := fun _ => False) hb) fun _ _ _ _ _ e => e⟩, own_below h.usrs hb, own_below h.accs hb⟩
theorem Fw.read {W wr : World} {b : Nat} {v0 v1 v2 v3 : Value} {bs : List Bs} {c : Cf} (h : Fw W wr b v0 v1 v2 v3 bs c) : CfR wr v0 v1 v2 v3 c := by
  obtain ⟨gs, g1, g2⟩ := h.grps
  obtain ⟨p1, k1, e1, r1⟩ := own_rd h.cons
  obtain ⟨p2, k2, e2, r2⟩ := own_rd g1
  obtain ⟨p3, k3, e3, r3⟩ := own_rd h.usrs
  obtain ⟨p4, k4, e4, r4⟩ := own_rd h.accs
  exact ⟨⟨p1, k1, e1, r1⟩, ⟨p2, k2, gs, e2, r2, g2.gs⟩, ⟨p3, k3, e3, r3⟩, ⟨p4, k4, e4, r4⟩⟩
theorem Fw.shapes {W wr : World} {b : Nat} {v0 v1 v2 v3 : Value} {bs : List Bs} {c : Cf} (h : Fw W wr b v0 v1 v2 v3 bs c) : ∃ p0 k0 p1 k1 p2 k2 p3 k3, v0 = .slice p0 c.cons.length k0 ∧ v1 = .slice p1 c.grps.length k1 ∧ v2 = .slice p2 c.usrs.length k2 ∧ v3 = .slice p3 c.accs.length k3 := by
  obtain ⟨gs, g1, _⟩ := h.grps
  obtain ⟨p0, k0, e0, -⟩ := own_rd h.cons
  obtain ⟨p1, k1, e1, -⟩ := own_rd g1
  obtain ⟨p2, k2, e2, -⟩ := own_rd h.usrs
  obtain ⟨p3, k3, e3, -⟩ := own_rd h.accs
  exact ⟨p0, k0, p1, k1, p2, k2, p3, k3, e0, e1, e2, e3⟩
theorem own_not {w : World} {B size n : Nat} {e T : TypeId} {v : Value} {xs : List Value} {k : Nat} {C : Array Value} {fr : Nat × Nat} (h : w.ownsRow B e size v n xs) (hT : e ≠ T) (hk : w.heap[k]? = some (.cells C T fr)) : v.ownBlock ≠ some k := own_type h hk hT
section
variable {W wr wa w2 : World} {b : Nat} {v0 v1 v2 v3 v' : Value} {bs : List Bs} {c : Cf}
theorem Fw.addC (h : Fw W wr b v0 v1 v2 v3 bs c) (x : Cn) (ha : Below wr.heap.size wr wa) (own2 : w2.ownsRow W.heap.size 47 10 v' (c.cons.length + 1) (c.cons.flatMap cnv ++ cnv x)) (grow : wa.grownBy w2 v0.ownBlock) :
    (w2.cell? ⟨b, 0, none⟩ = some v0 ∧ w2.frozen? ⟨b, 0, none⟩ = false ∧ b < w2.heap.size) ∧ Fw W (w2.setCell ⟨b, 0, none⟩ v') b v' v1 v2 v3 bs { c with cons := c.cons ++ [x] } := by
  obtain ⟨gs, hg1, hg2⟩ := h.grps
  have hr := h.cons
  have hlt := h.lt
  have ho : Out (fun k => v0.ownBlock = some k) wr w2 := (Out.ofNew (S := fun k => v0.ownBlock = some k) ha).trans (grown_out grow) fun _ _ e => e
  have nb : v0.ownBlock ≠ some b := own_type hr h.blk (by decide)
  have blk2 := ho.at_ h.blk nb
  have os : Out (fun k => k = b) w2 (w2.setCell ⟨b, 0, none⟩ v') := Own.Out.setCell (S := fun k => k = b) (Out.refl _ _) (p := ⟨b, 0, none⟩) (fun _ => rfl) v'
  have oo : Out (fun k => v0.ownBlock = some k ∨ k = b) wr (w2.setCell ⟨b, 0, none⟩ v') := (ho.mono fun _ _ e => .inl e).trans os fun _ _ e => .inr e
  refine ⟨⟨by rw [at_cell blk2]; rfl, at_frozen blk2 _, at_lt blk2⟩, ⟨?_, h.lt, ?_, h.ten, ?_, ?_, ?_, ?_⟩⟩
  · rw [at_set blk2, List.setIfInBounds_toArray]; rfl
  · exact h.out.trans oo fun i hi e => e.elim (fun e => absurd (own_lt hr e).1 (by omega)) fun e => e
  · show World.ownsRow _ _ _ 10 v' (c.cons ++ [x]).length ((c.cons ++ [x]).flatMap cnv)
    rw [List.length_append, List.length_singleton, fm_app, fm_one]
    exact own_out own2 os fun k e e2 => own_type own2 blk2 (by decide) (e2 ▸ e)
  · exact ⟨gs, own_out hg1 oo fun k e e2 => e2.elim (fun e2 => own_other hg1 hr (by decide) e e2) fun e2 => own_type hg1 h.blk (by decide) (e2 ▸ e), hg2.out oo fun k C fr hB hk e2 => e2.elim (fun e2 => own_type hr hk (by decide) e2) fun e2 => by omega⟩
  · exact own_out h.usrs oo fun k e e2 => e2.elim (fun e2 => own_other h.usrs hr (by decide) e e2) fun e2 => own_type h.usrs h.blk (by decide) (e2 ▸ e)
  · exact own_out h.accs oo fun k e e2 => e2.elim (fun e2 => own_other h.accs hr (by decide) e e2) fun e2 => own_type h.accs h.blk (by decide) (e2 ▸ e)
theorem Fw.addU (h : Fw W wr b v0 v1 v2 v3 bs c) (x : Bs × Bs) (ha : Below wr.heap.size wr wa) (own2 : w2.ownsRow W.heap.size 55 2 v' (c.usrs.length + 1) (c.usrs.flatMap urv ++ urv x)) (grow : wa.grownBy w2 v2.ownBlock) :
    (w2.cell? ⟨b, 2, none⟩ = some v2 ∧ w2.frozen? ⟨b, 2, none⟩ = false ∧ b < w2.heap.size) ∧ Fw W (w2.setCell ⟨b, 2, none⟩ v') b v0 v1 v' v3 bs { c with usrs := c.usrs ++ [x] } := by
  obtain ⟨gs, hg1, hg2⟩ := h.grps
  have hr := h.usrs
  have hlt := h.lt
  have ho : Out (fun k => v2.ownBlock = some k) wr w2 := (Out.ofNew (S := fun k => v2.ownBlock = some k) ha).trans (grown_out grow) fun _ _ e => e
  have nb : v2.ownBlock ≠ some b := own_type hr h.blk (by decide)
  have blk2 := ho.at_ h.blk nb
  have os : Out (fun k => k = b) w2 (w2.setCell ⟨b, 2, none⟩ v') := Own.Out.setCell (S := fun k => k = b) (Out.refl _ _) (p := ⟨b, 2, none⟩) (fun _ => rfl) v'
  have oo : Out (fun k => v2.ownBlock = some k ∨ k = b) wr (w2.setCell ⟨b, 2, none⟩ v') := (ho.mono fun _ _ e => .inl e).trans os fun _ _ e => .inr e
  refine ⟨⟨by rw [at_cell blk2]; rfl, at_frozen blk2 _, at_lt blk2⟩, ⟨?_, h.lt, ?_, h.ten, ?_, ?_, ?_, ?_⟩⟩
  · rw [at_set blk2, List.setIfInBounds_toArray]; rfl
  · exact h.out.trans oo fun i hi e => e.elim (fun e => absurd (own_lt hr e).1 (by omega)) fun e => e
  · exact own_out h.cons oo fun k e e2 => e2.elim (fun e2 => own_other h.cons hr (by decide) e e2) fun e2 => own_type h.cons h.blk (by decide) (e2 ▸ e)
  · exact ⟨gs, own_out hg1 oo fun k e e2 => e2.elim (fun e2 => own_other hg1 hr (by decide) e e2) fun e2 => own_type hg1 h.blk (by decide) (e2 ▸ e), hg2.out oo fun k C fr hB hk e2 => e2.elim (fun e2 => own_type hr hk (by decide) e2) fun e2 => by omega⟩
  · show World.ownsRow _ _ _ 2 v' (c.usrs ++ [x]).length ((c.usrs ++ [x]).flatMap urv)
    rw [List.length_append, List.length_singleton, fm_app, fm_one]
    exact own_out own2 os fun k e e2 => own_type own2 blk2 (by decide) (e2 ▸ e)
  · exact own_out h.accs oo fun k e e2 => e2.elim (fun e2 => own_other h.accs hr (by decide) e e2) fun e2 => own_type h.accs h.blk (by decide) (e2 ▸ e)
theorem Fw.addA (h : Fw W wr b v0 v1 v2 v3 bs c) (x : Bs × Bs × Int) (ha : Below wr.heap.size wr wa) (own2 : w2.ownsRow W.heap.size 50 3 v' (c.accs.length + 1) (c.accs.flatMap acv ++ acv x)) (grow : wa.grownBy w2 v3.ownBlock) :
    (w2.cell? ⟨b, 3, none⟩ = some v3 ∧ w2.frozen? ⟨b, 3, none⟩ = false ∧ b < w2.heap.size) ∧ Fw W (w2.setCell ⟨b, 3, none⟩ v') b v0 v1 v2 v' bs { c with accs := c.accs ++ [x] } := by
  obtain ⟨gs, hg1, hg2⟩ := h.grps
  have hr := h.accs
  have hlt := h.lt
  have ho : Out (fun k => v3.ownBlock = some k) wr w2 := (Out.ofNew (S := fun k => v3.ownBlock = some k) ha).trans (grown_out grow) fun _ _ e => e
  have nb : v3.ownBlock ≠ some b := own_type hr h.blk (by decide)
  have blk2 := ho.at_ h.blk nb
  have os : Out (fun k => k = b) w2 (w2.setCell ⟨b, 3, none⟩ v') := Own.Out.setCell (S := fun k => k = b) (Out.refl _ _) (p := ⟨b, 3, none⟩) (fun _ => rfl) v'
  have oo : Out (fun k => v3.ownBlock = some k ∨ k = b) wr (w2.setCell ⟨b, 3, none⟩ v') := (ho.mono fun _ _ e => .inl e).trans os fun _ _ e => .inr e
  refine ⟨⟨by rw [at_cell blk2]; rfl, at_frozen blk2 _, at_lt blk2⟩, ⟨?_, h.lt, ?_, h.ten, ?_, ?_, ?_, ?_⟩⟩
  · rw [at_set blk2, List.setIfInBounds_toArray]; rfl
  · exact h.out.trans oo fun i hi e => e.elim (fun e => absurd (own_lt hr e).1 (by omega)) fun e => e
  · exact own_out h.cons oo fun k e e2 => e2.elim (fun e2 => own_other h.cons hr (by decide) e e2) fun e2 => own_type h.cons h.blk (by decide) (e2 ▸ e)
  · exact ⟨gs, own_out hg1 oo fun k e e2 => e2.elim (fun e2 => own_other hg1 hr (by decide) e e2) fun e2 => own_type hg1 h.blk (by decide) (e2 ▸ e), hg2.out oo fun k C fr hB hk e2 => e2.elim (fun e2 => own_type hr hk (by decide) e2) fun e2 => by omega⟩
  · exact own_out h.usrs oo fun k e e2 => e2.elim (fun e2 => own_other h.usrs hr (by decide) e e2) fun e2 => own_type h.usrs h.blk (by decide) (e2 ▸ e)
  · show World.ownsRow _ _ _ 3 v' (c.accs ++ [x]).length ((c.accs ++ [x]).flatMap acv)
    rw [List.length_append, List.length_singleton, fm_app, fm_one]
    exact own_out own2 os fun k e e2 => own_type own2 blk2 (by decide) (e2 ▸ e)
theorem Fw.addG (h : Fw W wr b v0 v1 v2 v3 bs c) (nm : Bs) (ps : List Bs) (vp : Value) (gs : List Value) (hg1 : wr.ownsRow W.heap.size 53 2 v1 c.grps.length gs) (hg2 : Go_ W.heap.size wr gs c.grps) (hp : wr.ownsRow W.heap.size 9 1 vp ps.length (strs ps))
    (ha : Below wr.heap.size wr wa) (own2 : w2.ownsRow W.heap.size 53 2 v' (c.grps.length + 1) (gs ++ [str nm, vp])) (grow : wa.grownBy w2 v1.ownBlock) :
    (w2.cell? ⟨b, 1, none⟩ = some v1 ∧ w2.frozen? ⟨b, 1, none⟩ = false ∧ b < w2.heap.size) ∧ Fw W (w2.setCell ⟨b, 1, none⟩ v') b v0 v' v2 v3 bs { c with grps := c.grps ++ [(nm, ps)] } := by
  have hr := hg1
  have hlt := h.lt
  have ho : Out (fun k => v1.ownBlock = some k) wr w2 := (Out.ofNew (S := fun k => v1.ownBlock = some k) ha).trans (grown_out grow) fun _ _ e => e
  have nb : v1.ownBlock ≠ some b := own_type hr h.blk (by decide)
  have blk2 := ho.at_ h.blk nb
  have os : Out (fun k => k = b) w2 (w2.setCell ⟨b, 1, none⟩ v') := Own.Out.setCell (S := fun k => k = b) (Out.refl _ _) (p := ⟨b, 1, none⟩) (fun _ => rfl) v'
  have oo : Out (fun k => v1.ownBlock = some k ∨ k = b) wr (w2.setCell ⟨b, 1, none⟩ v') := (ho.mono fun _ _ e => .inl e).trans os fun _ _ e => .inr e
  have nst : ∀ k C fr, W.heap.size ≤ k → wr.heap[k]? = some (.cells C 9 fr) → ¬ (v1.ownBlock = some k ∨ k = b) := fun k C fr hB hk e2 => e2.elim (fun e2 => own_type hr hk (by decide) e2) fun e2 => by omega
  have hp' : (w2.setCell ⟨b, 1, none⟩ v').ownsRow W.heap.size 9 1 vp ps.length (strs ps) := own_out hp oo fun k e e2 => e2.elim (fun e2 => own_other hp hr (by decide) e e2) fun e2 => own_type hp h.blk (by decide) (e2 ▸ e)
  refine ⟨⟨by rw [at_cell blk2]; rfl, at_frozen blk2 _, at_lt blk2⟩, ⟨?_, h.lt, ?_, h.ten, ?_, ?_, ?_, ?_⟩⟩
  · rw [at_set blk2, List.setIfInBounds_toArray]; rfl
  · exact h.out.trans oo fun i hi e => e.elim (fun e => absurd (own_lt hr e).1 (by omega)) fun e => e
  · exact own_out h.cons oo fun k e e2 => e2.elim (fun e2 => own_other h.cons hr (by decide) e e2) fun e2 => own_type h.cons h.blk (by decide) (e2 ▸ e)
  · refine ⟨gs ++ [str nm, vp], ?_, (hg2.out oo nst).snoc hp'⟩
    show World.ownsRow _ _ _ 2 v' (c.grps ++ [(nm, ps)]).length _
    rw [List.length_append, List.length_singleton]
    exact own_out own2 os fun k e e2 => own_type own2 blk2 (by decide) (e2 ▸ e)
  · exact own_out h.usrs oo fun k e e2 => e2.elim (fun e2 => own_other h.usrs hr (by decide) e e2) fun e2 => own_type h.usrs h.blk (by decide) (e2 ▸ e)
  · exact own_out h.accs oo fun k e e2 => e2.elim (fun e2 => own_other h.accs hr (by decide) e e2) fun e2 => own_type h.accs h.blk (by decide) (e2 ▸ e)
theorem Fw.brk (h : Fw W wr b v0 v1 v2 v3 bs c) (i : Nat) (hi : i < 10) (s : Bs) :
    (∃ s0, wr.cell? ⟨b, 4 + i, none⟩ = some (.string s0)) ∧ wr.frozen? ⟨b, 4 + i, none⟩ = false ∧ Fw W (wr.setCell ⟨b, 4 + i, none⟩ (.string ⟨s.toArray⟩)) b v0 v1 v2 v3 (bs.set i s) c := by
  obtain ⟨gs, hg1, hg2⟩ := h.grps
  have hten := h.ten
  have hlt := h.lt
  have os : Out (fun k => k = b) wr (wr.setCell ⟨b, 4 + i, none⟩ (.string ⟨s.toArray⟩)) := Own.Out.setCell (S := fun k => k = b) (Out.refl _ _) (p := ⟨b, 4 + i, none⟩) (fun _ => rfl) _
  refine ⟨?_, at_frozen h.blk _, ⟨?_, h.lt, h.out.trans os fun _ _ e => e, by simpa using hten, ?_, ?_, ?_, ?_⟩⟩
  · refine ⟨⟨(bs[i]'(by omega)).toArray⟩, ?_⟩
    rw [at_cell h.blk, List.getElem?_toArray, show 4 + i = i + 1 + 1 + 1 + 1 by omega]
    simp only [List.getElem?_cons_succ]
    rw [strs_at (by omega)]; rfl
  · rw [at_set h.blk, List.setIfInBounds_toArray, show 4 + i = i + 1 + 1 + 1 + 1 by omega]
    simp only [List.set_cons_succ]
    rw [show (strs bs).set i (.string ⟨s.toArray⟩) = strs (bs.set i s) by rw [strs, strs, List.map_set]; rfl]
  · exact own_out h.cons os fun k e e2 => own_type h.cons h.blk (by decide) (e2 ▸ e)
  · exact ⟨gs, own_out hg1 os fun k e e2 => own_type hg1 h.blk (by decide) (e2 ▸ e), hg2.out os fun k C fr hB hk e2 => by omega⟩
  · exact own_out h.usrs os fun k e e2 => own_type h.usrs h.blk (by decide) (e2 ▸ e)
  · exact own_out h.accs os fun k e e2 => own_type h.accs h.blk (by decide) (e2 ▸ e)
theorem Fw.res {Y : World} {z : Nat} (h : Fw W wr b v0 v1 v2 v3 bs c) (ho : Out (fun k => k = z) wr Y) (hz : z < W.heap.size) : CfR Y v0 v1 v2 v3 c := by
  obtain ⟨gs, g1, g2⟩ := h.grps
  obtain ⟨p1, k1, e1, r1⟩ := own_rd (own_out h.cons ho fun k e e2 => by have := (own_lt h.cons e).1; omega)
  obtain ⟨p2, k2, e2, r2⟩ := own_rd (own_out g1 ho fun k e e2 => by have := (own_lt g1 e).1; omega)
  obtain ⟨p3, k3, e3, r3⟩ := own_rd (own_out h.usrs ho fun k e e2 => by have := (own_lt h.usrs e).1; omega)
  obtain ⟨p4, k4, e4, r4⟩ := own_rd (own_out h.accs ho fun k e e2 => by have := (own_lt h.accs e).1; omega)
  exact ⟨⟨p1, k1, e1, r1⟩, ⟨p2, k2, gs, e2, r2, (g2.out ho fun k C fr hB hk e => by omega).gs⟩, ⟨p3, k3, e3, r3⟩, ⟨p4, k4, e4, r4⟩⟩
end
end Go.Proofs.Ytomnkmcabkoagaa.Rgt

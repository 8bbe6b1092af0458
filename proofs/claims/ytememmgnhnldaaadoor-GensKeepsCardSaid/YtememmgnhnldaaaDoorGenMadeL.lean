/-
  Layer 21 (gens): the two stores while the law's Made goes on.
-/
import Derived.Test.YtememmgnhnldaaaDoorGenMadeP
import Derived.Test.YtememmgnhnldaaaDoorGenRaw
import Derived.Test.YtememmgnhnldaaaDoorStoRefSyn
import Derived.Test.YtememmgnhnldaaaDoorStoPair
import Derived.Deep.RegionHeld3
namespace Go.Proofs.YtememmgnhnldaaaDoor.Gen
open Go.RowKit Go.Proofs.YtememmgnhnldaaaDoor.Own Go.Proofs.YtememmgnhnldaaaDoor.Sto
open Go.Proofs.YtememmgnhnldaaaDoor.Rw (str strs Row1 below_drew)

/-- a store, the document's beside it, and the two boxes of the call -/
structure MdAt (w W : World) (bs : Nat → Prop) (b R X : Nat) (t r : St) (p : Option Addr) (c n : Nat) : Prop where
  below : Below w.heap.size w W
  sto : Sto W bs b t
  mine : ∀ k, bs k → w.heap.size ≤ k
  res : W.heap[R]? = some (.cells #[.slice none 0 0, .int .i64 0, .int .i64 0] 26 (0, 0))
  box : W.heap[X]? = some (.cells #[.slice p n c, .int .i64 10000, .int .i64 0] 26 (0, 0))
  fs : Fs W p c r.L
  len : r.L.length = n
  rmost : r.most = 10000
  rbad : r.bad = 0
  farR : ¬ bs R
  farX : ¬ bs X
  hR : w.heap.size ≤ R
  hX : w.heap.size ≤ X
  ne : R ≠ X
  far : ∀ g o, p = some ⟨g, o, none⟩ → ¬ bs g ∧ g ≠ X ∧ g ≠ R ∧ g < W.heap.size
section
variable {w W W' : World} {bs : Nat → Prop} {b R X c n : Nat} {t t' r r' : St} {p : Option Addr} {e : Ending} {C : Int}
theorem MdAt.same (h : MdAt w W bs b R X t r p c n) (hb : Below W.heap.size W W') : MdAt w W' bs b R X t r p c n :=
  ⟨h.below.trans (hb.mono h.below.size), h.sto.below hb, h.mine, (hb.block _ (at_lt h.res)).trans h.res, (hb.block _ (at_lt h.box)).trans h.box, h.fs.below hb, h.len, h.rmost, h.rbad, h.farR, h.farX, h.hR, h.hX, h.ne,
    fun g o e => by obtain ⟨h1, h2, h3, h4⟩ := h.far g o e; exact ⟨h1, h2, h3, Nat.lt_of_lt_of_le h4 hb.size⟩⟩
/-- a call of the store's that may write -/
theorem MdAt.prog (h : MdAt w W bs b R X t r p c n) (hd : DoesE W bs e W' b t' C) : ∃ v bs', e = .returned v ∧ (v = .nilIface ∨ ∃ k, v = .iface 110 (.pointer (some ⟨k, 0, none⟩))) ∧ MdAt w W' bs' b R X t' r p c n := by
  obtain ⟨v, k, bs', he, hE, -, hs, ho, hn⟩ := hd
  have hsz := h.below.size
  have hlR := at_lt h.res
  have hlX := at_lt h.box
  refine ⟨v, bs', he, ?_, h.below.trans (ho.below hsz fun i hi => h.mine i hi), hs, fun i hi => ?_, (ho.block R hlR h.farR).trans h.res, (ho.block X hlX h.farX).trans h.box, h.fs.out ho fun g o e => (h.far g o e).1, h.len, h.rmost, h.rbad, fun hi => ?_, fun hi => ?_, h.hR, h.hX, h.ne, fun g o e => ?_⟩
  · rcases hE with ⟨_, h0⟩ | ⟨_, h0, _⟩
    · exact .inl h0
    · exact .inr ⟨k, h0⟩
  · rcases hn i hi with h1 | h1
    · exact h.mine i h1
    · omega
  · rcases hn R hi with h1 | h1
    · exact h.farR h1
    · omega
  · rcases hn X hi with h1 | h1
    · exact h.farX h1
    · omega
  · obtain ⟨h1, h2, h3, h4⟩ := h.far g o e
    refine ⟨fun hi => ?_, h2, h3, Nat.lt_of_lt_of_le h4 ho.size⟩
    rcases hn g hi with h5 | h5
    · exact h1 h5
    · omega
def set3 (W : World) (X : Nat) (x y z : Value) : World := ((W.setCell ⟨X, 0, none⟩ x).setCell ⟨X, 1, none⟩ y).setCell ⟨X, 2, none⟩ z
theorem set3_out (W : World) (X : Nat) (x y z : Value) : Out (fun k => k = X) W (set3 W X x y z) :=
  (((Out.refl (fun k => k = X) W).setCell (p := ⟨X, 0, none⟩) (fun _ => rfl) _).setCell (p := ⟨X, 1, none⟩) (fun _ => rfl) _).setCell (p := ⟨X, 2, none⟩) (fun _ => rfl) _
theorem set3_at {W : World} {X : Nat} {x0 y0 z0 x y z : Value} {T : TypeId} (h : W.heap[X]? = some (.cells #[x0, y0, z0] T (0, 0))) : (set3 W X x y z).heap[X]? = some (.cells #[x, y, z] T (0, 0)) := by
  have e1 := at_set h 0 x
  have e2 := at_set e1 1 y
  have e3 := at_set e2 2 z
  unfold set3
  simpa using e3
/-- a call of the document's; what it tells is put into the box -/
theorem MdAt.refs (h : MdAt w W bs b R X t r p c n) (hp : RPost W p r' C e W') (hm : r'.most = 10000) (hb0 : r'.bad = 0) :
    ∃ p' c' n', e = .returned (.tuple #[.agg #[.slice p' n' c', .int .i64 10000, .int .i64 0], .int .i64 C]) ∧ W'.heap[X]? = some (.cells #[.slice p n c, .int .i64 10000, .int .i64 0] 26 (0, 0)) ∧ MdAt w (set3 W' X (.slice p' n' c') (.int .i64 10000) (.int .i64 0)) bs b R X t r' p' c' n' := by
  obtain ⟨p', c', he, hF, hb, hpp⟩ := hp
  have hS := h.same hb
  have o := set3_out W' X (.slice p' r'.L.length c') (.int .i64 10000) (.int .i64 0)
  have hfar : ∀ g o, p' = some ⟨g, o, none⟩ → ¬ bs g ∧ g ≠ X ∧ g ≠ R ∧ g < W'.heap.size := fun g o e => by
    have l1 := at_lt h.res
    have l2 := at_lt h.box
    rcases hpp with rfl | hpp
    · obtain ⟨h1, h2, h3, h4⟩ := h.far g o e; exact ⟨h1, h2, h3, Nat.lt_of_lt_of_le h4 hb.size⟩
    · obtain ⟨h1, h2⟩ := hpp g o e
      exact ⟨fun hg => by have := h.sto.all g hg; omega, by omega, by omega, h2⟩
  refine ⟨p', c', r'.L.length, by rw [he, hm, hb0], hS.box, ?_⟩
  refine ⟨hS.below.trans (o.below hS.below.size fun i e => by rw [e]; exact h.hX), hS.sto.out o fun k hk e => h.farX (by rw [← e]; exact hk), h.mine, (o.block R (at_lt hS.res) h.ne).trans hS.res, set3_at hS.box, hF.out o fun g o e => (hfar g o e).2.1, rfl, hm, hb0, h.farR, h.farX, h.hR, h.hX, h.ne, fun g o2 e => ?_⟩
  obtain ⟨h1, h2, h3, h4⟩ := hfar g o2 e
  exact ⟨h1, h2, h3, Nat.lt_of_lt_of_le h4 o.size⟩
end
def MadePost (w : World) (e : Ending) (w' : World) : Prop :=
  ∃ bs b t p c n, e = .returned (.tuple #[pb b, .agg #[.slice p n c, .int .i64 10000, .int .i64 0]]) ∧ Below w.heap.size w w' ∧ Sto w' bs b t ∧ (∀ k, bs k → w.heap.size ≤ k) ∧ Gd t 21
theorem MdAt.ends {w W : World} {bs : Nat → Prop} {b R X c n k : Nat} {t r : St} {p : Option Addr} (h : MdAt w W bs b R X t r p c n) (hg : Gd t k) (hk : k ≤ 21) :
    MadePost w (.returned (.tuple #[pb b, .agg #[.slice p n c, .int .i64 10000, .int .i64 0]])) (set3 W R (.slice p n c) (.int .i64 10000) (.int .i64 0)) := by
  have o := set3_out W R (.slice p n c) (.int .i64 10000) (.int .i64 0)
  exact ⟨bs, b, t, p, c, n, rfl, h.below.trans (o.below h.below.size fun i e => by rw [e]; exact h.hR), h.sto.out o fun k hk e => h.farR (by rw [← e]; exact hk), h.mine, hg.more hk⟩
end Go.Proofs.YtememmgnhnldaaaDoor.Gen

/-
  Layer 11 (store): what a call of the document's leaves. Written by gen_storef5.py.
-/
import Derived.Test.YtememmgnhnldaaaDoorStoRef4
import Derived.Deep.RegionHeld3
namespace Go.Proofs.YtememmgnhnldaaaDoor.Sto
open Go.RowKit Go.Proofs.YtememmgnhnldaaaDoor.Own
open Go.Proofs.YtememmgnhnldaaaDoor.Rw (str strs Row1 below_drew)

/-- what a call of the document's leaves -/
def RPost (w : World) (p : Option Addr) (r' : St) (code : Int) (e : Ending) (w' : World) : Prop :=
  ∃ p' c', e = .returned (.tuple #[rv p' r'.L.length c' r'.most r'.bad, .int .i64 code]) ∧ Fs w' p' c' r'.L ∧ Below w.heap.size w w' ∧ (p' = p ∨ ∀ b o, p' = some ⟨b, o, none⟩ → w.heap.size ≤ b ∧ b < w'.heap.size)
theorem RPost.same {w w' : World} {p : Option Addr} {c n : Nat} {r : St} {most bad code : Int} {e : Ending} (hF : Fs w p c r.L) (hn : r.L.length = n) (hm : r.most = most) (hd : r.bad = bad) (he : e = .returned (.tuple #[rv p n c most bad, .int .i64 code])) (hb : Below w.heap.size w w') : RPost w p r code e w' := by
  subst hn hm hd
  exact ⟨p, c, he, hF.below hb, hb, .inl rfl⟩
theorem RPost.new {w W w2 w' : World} {p p' : Option Addr} {c' n : Nat} {r' : St} {most bad : Int} {e : Ending} (hW : WoAt W w2 r'.L (.slice p' n c')) (hbW : Below w.heap.size w W) (hm : r'.most = most) (hd : r'.bad = bad) (he : e = .returned (.tuple #[rv p' n c' most bad, .int .i64 0]))
    (hb : Below w2.heap.size w2 w' ∨ (Below w.heap.size w w' ∧ ∀ k, W.heap.size ≤ k → k < w2.heap.size → w'.heap[k]? = w2.heap[k]?)) : RPost w p r' 0 e w' := by
  subst hm hd
  obtain ⟨-, p2, c2, e2, hF, hB⟩ := fs_own hW.own
  cases e2
  have hsz := hbW.size
  have h2 := hbW.trans (hW.below.mono hsz)
  have hlt : ∀ b o, p' = some ⟨b, o, none⟩ → b < w'.heap.size := fun b o h => by
    have hb2 := World.ownsRow.lt hW.own b (by rw [h]; rfl)
    rcases hb with hb | ⟨_, hk⟩
    · exact Nat.lt_of_lt_of_le hb2.2 hb.size
    · have hs := hk b hb2.1 hb2.2
      have h3 := Array.getElem?_eq_getElem hb2.2
      rw [← hs] at h3
      exact (Array.getElem?_eq_some_iff.1 h3).1
  refine ⟨p', c', he, ?_, ?_, .inr fun b o h => ⟨Nat.le_trans hsz (hB b o h), hlt b o h⟩⟩
  · rcases hb with hb | ⟨hb, hk⟩
    · exact hF.below hb
    · refine ⟨hF.cap, hF.max, hF.nil, hF.cells.imp id fun ⟨b, o, e, hl, k⟩ => ?_⟩
      have hs := hk b (hB b o e) hl
      refine ⟨b, o, e, ?_, fun j u hu => (World.cell?_of_block (a := ⟨b, o + j, none⟩) hs).trans (k j u hu)⟩
      have h3 := Array.getElem?_eq_getElem hl
      rw [← hs] at h3
      exact (Array.getElem?_eq_some_iff.1 h3).1
  · rcases hb with hb | ⟨hb, _⟩
    · exact h2.trans (hb.mono h2.size)
    · exact hb
/-- the boxes of such a call, behind what is told ahead -/
structure RefA (w w1 : World) (s m b : Value) : Prop where
  box : w1.heap[w.heap.size]? = some (.cells #[s, m, b] 26 (0, 0))
  res : w1.heap[w.heap.size + 1]? = some (.cells #[.slice none 0 0, .int .i64 0, .int .i64 0] 26 (0, 0))
  below : Below w.heap.size w w1
theorem RefA.lt {w w1 : World} {s m b : Value} (h : RefA w w1 s m b) : w.heap.size + 1 < w1.heap.size := at_lt h.res
theorem RefA.start (w : World) (s m b : Value) : RefA w ((w.alloc (.cells #[s, m, b] 26 (0, 0))).alloc (.cells #[.slice none 0 0, .int .i64 0, .int .i64 0] 26 (0, 0))) s m b :=
  ⟨at_old _ _ (at_new _ _), at_newk _ _ (by simp), ((Below.refl _ _).alloc (Nat.le_refl _) _).alloc (by simp) _⟩
theorem RefA.step {w w1 w2 : World} {s m b : Value} (h : RefA w w1 s m b) (hb : Below w1.heap.size w1 w2) : RefA w w2 s m b :=
  ⟨(hb.block _ (at_lt h.box)).trans h.box, (hb.block _ (at_lt h.res)).trans h.res, h.below.trans (hb.mono h.below.size)⟩
theorem RefA.set {w w1 : World} {s m b : Value} (h : RefA w w1 s m b) (s' m' b' : Value) : RefA w (((w1.setCell ⟨w.heap.size, 0, none⟩ s').setCell ⟨w.heap.size, 1, none⟩ m').setCell ⟨w.heap.size, 2, none⟩ b') s' m' b' := by
  refine ⟨?_, ?_, ((h.below.setCell (p := ⟨_, _, _⟩) (Nat.le_refl _) _).setCell (p := ⟨_, _, _⟩) (Nat.le_refl _) _).setCell (p := ⟨_, _, _⟩) (Nat.le_refl _) _⟩
  · have e1 := at_set h.box 0 s'
    have e2 := at_set e1 1 m'
    have e3 := at_set e2 2 b'
    simpa using e3
  · rw [at_set_other _ (by omega), at_set_other _ (by omega), at_set_other _ (by omega)]; exact h.res
end Go.Proofs.YtememmgnhnldaaaDoor.Sto

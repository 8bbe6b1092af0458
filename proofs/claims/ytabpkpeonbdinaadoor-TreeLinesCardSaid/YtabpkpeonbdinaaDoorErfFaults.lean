/-
  Layer 9 (fault): the Faults of an error, and its line, walked.
-/
import Derived.Test.YtabpkpeonbdinaaDoorErfOf
import Derived.Test.YtabpkpeonbdinaaDoorOwnRow
namespace Go.Proofs.YtabpkpeonbdinaaDoor.Flt
open Go.RowKit Go.Proofs.YtabpkpeonbdinaaDoor.Own

/-- a slice of one-cell values -/
structure Row1 (w : World) (p : Option Addr) (c : Nat) (xs : List Value) : Prop where
  cap : xs.length ≤ c
  max : c ≤ maxLen
  cells : xs = [] ∨ ∃ b, p = some ⟨b, 0, none⟩ ∧ b < w.heap.size ∧ ∀ i x, xs[i]? = some x → w.cell? ⟨b, i, none⟩ = some x
theorem Row1.below {w w' : World} {p : Option Addr} {c : Nat} {xs : List Value} (h : Row1 w p c xs) (hb : Below w.heap.size w w') : Row1 w' p c xs :=
  ⟨h.cap, h.max, h.cells.imp id fun ⟨b, e, hl, k⟩ => ⟨b, e, Nat.lt_of_lt_of_le hl hb.size, fun i x hx => (hb.cell (p := ⟨b, i, none⟩) hl).trans (k i x hx)⟩⟩
theorem owns_row {w : World} {B : Nat} {e : TypeId} {v : Value} {n : Nat} {xs : List Value} (h : w.ownsRow B e 1 v n xs) (hn : n = xs.length) : ∃ p c, v = .slice p n c ∧ Row1 w p c xs := by
  rcases h.2 with ⟨rfl, h0⟩ | ⟨g, cap, cur, rfl, _, hh, h3, h4, _⟩
  · obtain rfl : n = 0 := h0
    exact ⟨none, 0, rfl, by omega, by unfold maxLen; omega, .inl (List.eq_nil_of_length_eq_zero hn.symm)⟩
  · refine ⟨_, cap, rfl, by omega, h4, .inr ⟨g, rfl, at_lt hh, fun i x hx => ?_⟩⟩
    have hc := @World.ownsRow.cells _ _ _ _ _ _ _ h
    have := hc (g := g) rfl i x hx
    rwa [add0] at this
theorem own_out {w w' : World} {B e size n : Nat} {v : Value} {xs : List Value} {S : Nat → Prop} (h : w.ownsRow B e size v n xs) (hb : Out S w w') (hS : ∀ i, S i → i < B) : w'.ownsRow B e size v n xs := by
  refine ⟨h.1, ?_⟩
  rcases h.2 with h0 | ⟨g, cap, cur, hv, hg, hh, r⟩
  · exact .inl h0
  · exact .inr ⟨g, cap, cur, hv, hg, hb.at_ hh (fun hs => by have := hS _ hs; omega), r⟩

def pv (l : List Lay) : List Value := l.map fun x => .pointer (some ⟨x.blk, 0, none⟩)
theorem pv_len (l : List Lay) : (pv l).length = l.length := by simp [pv]
theorem pv_app (l : List Lay) (x : Lay) : pv (l ++ [x]) = pv l ++ [.pointer (some ⟨x.blk, 0, none⟩)] := by simp [pv]
theorem info_ptr : (Tryd.prog.info? 49).map (fun i => (i.zero, i.size, i.bytes)) = some (some (.pointer none), 1, 8) := by kernel_rfl

def FaultsPost (w : World) (l : List Lay) (e : Ending) (w' : World) : Prop :=
  ∃ p c, e = .returned (.slice p l.length c) ∧ Row1 w' p c (pv l) ∧ Below w.heap.size w w'

structure FltAt (w wr : World) (l : List Lay) (c : Int) (u v : Value) (done rest : List Lay) : Prop where
  parts : l = done ++ rest
  err : ErrN wr w.heap.size u rest c
  own : wr.ownsRow (w.heap.size + 1) 49 1 v done.length (pv done)
  below : Below w.heap.size w wr
  f : ∃ old, wr.heap[w.heap.size]? = some (.cells #[old] 49 (0, 0))
theorem FltAt.end_ {w wr w' : World} {l : List Lay} {c : Int} {u v : Value} {done : List Lay} (h : FltAt w wr l c u v done []) (hb : Below wr.heap.size wr w') : FaultsPost w l (.returned v) w' := by
  obtain rfl : l = done := by simpa using h.parts
  obtain ⟨p, cc, e, hr⟩ := owns_row h.own (pv_len _).symm
  exact ⟨p, cc, by rw [e], hr.below hb, h.below.trans (hb.mono h.below.size)⟩
theorem one_new (w : World) (x : Value) (T : TypeId) (g : Nat) (hg : g = w.heap.size) : ∀ ad, some (⟨g, 0, none⟩ : Addr) = some ad → ∀ j u, [x][j]? = some u → (w.alloc (.cells #[x] T (0, 0))).cell? (ad.add j) = some u := by
  subst hg
  rintro ad ⟨⟩ j u hu
  rw [add0, at_cell (at_new w _)]
  simpa using hu
theorem FltAt.step {w wr w5 w1 : World} {l : List Lay} {c : Int} {v v' : Value} {done r : List Lay} {x : Lay} {un : Value} (h : FltAt w wr l c (.iface 49 (.pointer (some ⟨x.blk, 0, none⟩))) v done (x :: r))
    (hx : x.blk < w.heap.size) (he : Err wr x.blk un r c) (ho : Out (fun k => k = w.heap.size) wr w5) (hf : w5.heap[w.heap.size]? = some (.cells #[.pointer (some ⟨x.blk, 0, none⟩)] 49 (0, 0)))
    (hown : w1.ownsRow (w.heap.size + 1) 49 1 v' (done.length + 1) (pv done ++ [.pointer (some ⟨x.blk, 0, none⟩)])) (hg : w5.grownBy w1 v.ownBlock) :
    FltAt w w1 l c un v' (done ++ [x]) r := by
  have hs := h.below.size
  have hs5 := ho.size
  have hlt := at_lt hf
  have hb5 : Below w.heap.size w w5 := h.below.trans (ho.below hs (fun i hi => by omega))
  have hb1 : Below w.heap.size w w1 := hb5.grown hg (by omega) (fun k hk => by have := (World.ownsRow.lt h.own k hk).1; omega)
  have h51 : Below (w.heap.size + 1) w5 w1 := (Below.refl _ _).grown hg (by omega) (fun k hk => (World.ownsRow.lt h.own k hk).1)
  refine ⟨by rw [h.parts]; simp, .inr ?_, ?_, hb1, _, (h51.block _ (by omega)).trans hf⟩
  · exact ((he.more (N' := w.heap.size) (by omega)).out ho (fun i hi => by omega)).below h51 (by omega)
  · rw [List.length_append, pv_app]; exact hown

theorem cells_kept {w5 w1 wr : World} {B b n : Nat} {e : TypeId} {v p a x un : Value} {xs : List Value} {t t' : TypeId} (hf : w5.heap[B]? = some (.cells #[p] t (0, 0))) (hb : w5.heap[b]? = some (.cells #[a, x, un] t' (0, 0))) (hlt : b < B) (hs : B < w5.heap.size)
    (hown : wr.ownsRow (B + 1) e 1 v n xs) (hg : w5.grownBy w1 v.ownBlock) : w1.cell? ⟨B, 0, none⟩ = some p ∧ w1.cell? ⟨b, 2, none⟩ = some un := by
  have h51 : Below (B + 1) w5 w1 := (Below.refl _ _).grown hg (by omega) (fun k hk => (World.ownsRow.lt hown k hk).1)
  exact ⟨by rw [at_cell ((h51.block _ (by omega)).trans hf)]; rfl, by rw [at_cell ((h51.block _ (by omega)).trans hb)]; rfl⟩

set_option maxRecDepth 100000 in
set_option maxHeartbeats 2000000 in
theorem faults_calls (v : Value) (l : List Lay) (c : Int) (N : Nat) (w : World) (h : ErrN w N v l c) (hN : N ≤ w.heap.size) (hT : Tab w) (hl : l.length ≤ 1000000) :
    Calls Tryd.prog 14 #[v] w (FaultsPost w l) := by
  obtain ⟨i0, hi, hz0, hz1, hz2⟩ := info_parts info_ptr
  have HE := Lib.hid h
  have HT := Lib.hid hT
  clear h hT
  go_enter Tryd.func14, Tryd.ntmps14
  go_wp2_with fail
  go_loopw [0, 3] (fun u v wr => ∃ (done rest : List Lay), FltAt w wr l c u v done rest) (fun u _ _ => deep u)
  case atStart =>
    have hb0 : Below w.heap.size w (w.alloc (.cells #[.pointer none] 49)) := (Below.refl _ _).alloc (Nat.le_refl _) _
    exact ⟨[], l, rfl, (HE.out.below hb0 hN).imp id fun h => h.more hN, World.ownsRow_nil _ _ _ _, hb0, _, at_new w _⟩
  case round =>
    obtain ⟨done, rest, C⟩ := hrel
    have hT := HT.out.below C.below
    have hsz := C.below.size
    obtain ⟨old, hold⟩ := C.f
    have hlt := at_lt hold
    rcases C.err with ⟨rfl, rfl, rfl⟩ | he
    · have HC := Lib.hid C
      clear C hold hT
      go_wp2_with (go_at_call 15; refine (asNil_calls _ _).mono ?_; rintro e w5 ⟨rfl, rfl⟩)
      go_ret
      exact HC.out.end_ (Below.refl _ _)
    · cases rest with
      | nil =>
        obtain rfl : _ = Value.iface 52 (.int .i64 c) := he
        have HC := Lib.hid C
        have HT2 := Lib.hid hT
        have HO := Lib.hid hold
        clear C hold hT
        go_wp2_with (go_at_call 15; refine (asMiss_calls c _ w.heap.size _ HT2.out HO.out).mono ?_; rintro e w5 ⟨rfl, hb⟩; replace hb := Lib.hid hb)
        go_ret
        exact HC.out.end_ hb.out
      | cons x r =>
        obtain ⟨rfl, hx, un, hb, he'⟩ := he
        have hown := C.own
        have hdl : done.length + 1 ≤ 1000000 := by have := C.parts; have := congrArg List.length this; simp at this; omega
        have HC := Lib.hid C
        have HT2 := Lib.hid hT
        have HO := Lib.hid hold
        have HE' := Lib.hid he'
        have HB := Lib.hid hb
        have HW := Lib.hid hown
        clear C hold hT he' hb hown
        go_wp2_with (first
          | (go_at_call 15; refine (asFault_calls x.blk _ w.heap.size _ HT2.out HO.out).mono ?_; rintro e w5 ⟨rfl, ho, hh⟩
             have c5 : w5.cell? ⟨w.heap.size, 0, none⟩ = some (.pointer (some ⟨x.blk, 0, none⟩)) := by rw [at_cell hh]; rfl
             have x5 : w5.cell? ⟨x.blk, 2, none⟩ = some un := by rw [at_cell (ho.at_ HB.out (by omega))]; rfl
             have ho5 := own_out HW.out ho (fun i hi => by omega)
             have hs5 := ho.size
             have hx5 := at_lt (ho.at_ HB.out (by omega))
             have hf5 := at_lt hh
             have HO5 := Lib.hid ho
             have HH5 := Lib.hid hh
             clear ho hh)
          | (at_builtin; refine Own.append_any rfl (.tmp 12) (.tmp 14) 47 rfl (w.heap.size + 1) 49 i0 _ 1 8 Tryd.underlying47 hi hz0 hz1 hz2 rfl (by decide) _ _ _ rfl (World.ownsRow.alloc ho5 _) _ 1 1 [.pointer (some ⟨x.blk, 0, none⟩)] rfl (fun h => nomatch h) rfl (one_new _ _ _ _ (by simp)) (by simp [Value.oneCell']) (by unfold maxLen; omega) (by omega) (by simp; omega) ?_; intro v' w1 hown1 hgrow1
             have C1 := Lib.hid (HC.out.step hx HE'.out (HO5.out.alloc _) (at_old _ _ HH5.out) hown1 hgrow1)
             have d := cells_kept (at_old _ _ HH5.out) (at_old _ _ (HO5.out.at_ HB.out (by omega))) hx (by simp; omega) HW.out hgrow1
             have d1 := d.1
             have d2 := d.2
             clear hown1 hgrow1 ho5 c5 x5 d))
        go_roundw
        case rel => exact ⟨_, r, C1.out⟩
        case measure =>
          have := HE'.out
          cases r with
          | nil => rw [show un = _ from this]; simp [deep]
          | cons y s => rw [show un = _ from this.1]; have := this.2.1; simp [deep]; omega
end Go.Proofs.YtabpkpeonbdinaaDoor.Flt

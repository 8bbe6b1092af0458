/-
  Layer 20 (mark): Add, Open, All, Data, walked.
-/
import Derived.Test.YtbjlnaobmgbpfaaDoorMrkDo
namespace Go.Proofs.YtbjlnaobmgbpfaaDoor.Mark
open Go.RowKit Go.Proofs.YtbjlnaobmgbpfaaDoor.Own Go.Proofs.YtbjlnaobmgbpfaaDoor.Rw Go.Proofs.YtbjlnaobmgbpfaaDoor.Rec Go.Proofs.YtbjlnaobmgbpfaaDoor.Bld Go.Proofs.YtbjlnaobmgbpfaaDoor.Digit Go.Proofs.YtbjlnaobmgbpfaaDoor.Clock

theorem open_nil (w : World) : Calls Tryd.prog 8 #[.pointer none] w fun e w' => e = .returned (.bool false) ∧ w = w' := by
  go_enter Tryd.func8, Tryd.ntmps8
  go_wp2_with fail
  go_ret
  exact ⟨rfl, rfl⟩
theorem open_calls (M : Nat) (o : Bool) (w : World) (h : Mk M o w) : Calls Tryd.prog 8 #[.pointer (some ⟨M, 0, none⟩)] w fun e w' => e = .returned (.bool o) ∧ w = w' := by
  have c0 := h.cell
  go_enter Tryd.func8, Tryd.ntmps8
  go_wp2_with fail
  go_ret
  exact ⟨rfl, rfl⟩

theorem add_nil (x : Itm) (w : World) : Calls Tryd.prog 7 #[.pointer none, .agg #[.int .i64 x.k, .int .i64 x.a, .string x.b]] w fun e w' => e = .returned (.string ⟨#[]⟩) ∧ Below w.heap.size w w' := by
  go_enter Tryd.func7, Tryd.ntmps7
  go_wp2_with fail
  go_ret
  exact ⟨rfl, (Below.refl _ _).alloc (Nat.le_refl _) _⟩

def AddPost (M : Nat) (o : Bool) (x : Itm) (w : World) (e : Ending) (w' : World) : Prop := e = .returned (.string ⟨(itT o x).toArray⟩) ∧ Mk M (itO o x) w' ∧ Out (fun k => k = M) w w'
theorem bd_fresh {w : World} {b : Nat} (hb : b = w.heap.size) {B : Nat} (hB : B ≤ b) : Bd B b [] (w.alloc (.cells #[.pointer none, .slice none 0 0] 39 (0, 0))) := by
  subst hb
  have h := fresh w
  have key : ∀ p, Lib.BuilderAt 39 5 w.heap.size w.heap.size p (Lib.byteCells []) (w.alloc (.cells #[.pointer none, .slice none 0 0] 39 (0, 0))) → Lib.BuilderAt 39 5 B w.heap.size p (Lib.byteCells []) (w.alloc (.cells #[.pointer none, .slice none 0 0] 39 (0, 0))) := by
    rintro p ⟨h1, v, h2, h3, h4⟩
    exact ⟨hB, v, h2, own_base h3 hB, h4⟩
  exact h.imp (key _) (key _)

set_option maxRecDepth 100000 in
set_option maxHeartbeats 4000000 in
theorem add_calls (M : Nat) (o : Bool) (x : Itm) (w : World) (hM : Months w) (hm : Mk M o w) (hx : x.b.size ≤ 100000) :
    Calls Tryd.prog 7 #[.pointer (some ⟨M, 0, none⟩), .agg #[.int .i64 x.k, .int .i64 x.a, .string x.b]] w (AddPost M o x w) := by
  obtain ⟨k, a, s⟩ := x
  simp only at hx ⊢
  have hbox := at_new w (.cells #[.int .i64 k, .int .i64 a, .string s] 28 (0, 0))
  have hb1 : Below w.heap.size w (w.alloc (.cells #[.int .i64 k, .int .i64 a, .string s] 28 (0, 0))) := (Below.refl _ _).alloc (Nat.le_refl _) _
  have hb2 : Below w.heap.size w ((w.alloc (.cells #[.int .i64 k, .int .i64 a, .string s] 28 (0, 0))).alloc (.cells #[.pointer none, .slice none 0 0] 39 (0, 0))) := hb1.alloc hb1.size _
  have hbox2 := at_old _ (.cells #[.pointer none, .slice none 0 0] 39 (0, 0)) hbox
  obtain ⟨x0, x1, x2⟩ := box3 hbox2
  have hB : Bd w.heap.size (w.heap.size + 1) [] ((w.alloc (.cells #[.int .i64 k, .int .i64 a, .string s] 28 (0, 0))).alloc (.cells #[.pointer none, .slice none 0 0] 39 (0, 0))) := bd_fresh (by simp) (by omega)
  have HW := Lib.hid (write_calls w.heap.size (w.heap.size + 1) M [] o ⟨k, a, s⟩ _ (hM.below hb2) hB (hm.below hb2) (months_size hM) hb2.size hx (by simp))
  have HB2 := Lib.hid hb2
  have lM := Lib.hid (at_lt hm)
  clear hM hm hb1 hb2 hbox hbox2 hB
  go_enter Tryd.func7, Tryd.ntmps7
  go_wp2_with fail
  refine HW.out.mono ?_
  rintro e w1 ⟨rfl, h1⟩
  have H1 := Lib.hid h1
  clear h1
  go_wp2_with fail
  refine (text_calls _ _ _ _ H1.out.bd H1.out.low).mono ?_
  rintro e w2 ⟨rfl, h2⟩
  have B2 := Lib.hid h2
  clear h2
  go_wp2_with fail
  go_ret
  refine ⟨rfl, ?_, ?_⟩
  · exact (B2.out.block M lM.out).trans H1.out.mkr
  · refine ((Out.ofNew (S := fun k => k = M) HB2.out).trans H1.out.out fun i hi e => e.resolve_right (by omega)).trans (Out.ofBelow (S := fun k => ¬ k < w.heap.size) B2.out fun i _ h => by simpa using h) fun i hi e => absurd hi e

end Go.Proofs.YtbjlnaobmgbpfaaDoor.Mark

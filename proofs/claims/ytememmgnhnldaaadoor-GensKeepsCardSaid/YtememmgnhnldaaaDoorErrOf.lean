/-
  Layer 9 (fault): New, Wrap, Of, walked.
-/
import Derived.Test.YtememmgnhnldaaaDoorErrAs
namespace Go.Proofs.YtememmgnhnldaaaDoor.Flt
open Go.RowKit Go.Proofs.YtememmgnhnldaaaDoor.Own

theorem wrap_nil (n s : Value) (w : World) :
    Calls Tryd.prog 50 #[.nilIface, n, s] w fun e w' => e = .returned .nilIface ∧ w = w' := by
  go_enter Tryd.func50, Tryd.ntmps50
  go_wp2_with fail
  go_ret
  exact ⟨rfl, rfl⟩
theorem wrap_some (t : TypeId) (v : Value) (n : Int) (s : ByteArray) (w : World) :
    Calls Tryd.prog 50 #[.iface t v, .int .i64 n, .string s] w fun e w' => e = .returned (.iface 110 (.pointer (some ⟨w.heap.size, 0, none⟩))) ∧ w' = w.alloc (.cells #[.int .i64 n, .string s, .iface t v] 112) := by
  go_enter Tryd.func50, Tryd.ntmps50
  go_wp2_with fail
  go_ret
  exact ⟨rfl, rfl⟩
theorem new_nil (n s : Value) (w : World) :
    Calls Tryd.prog 42 #[.int .i64 0, n, s] w fun e w' => e = .returned .nilIface ∧ w = w' := by
  go_enter Tryd.func42, Tryd.ntmps42
  go_wp2_with fail
  go_ret
  exact ⟨rfl, rfl⟩
theorem new_some (c n : Int) (s : ByteArray) (hc : c ≠ 0) (w : World) :
    Calls Tryd.prog 42 #[.int .i64 c, .int .i64 n, .string s] w fun e w' => e = .returned (.iface 110 (.pointer (some ⟨w.heap.size, 0, none⟩))) ∧ w' = w.alloc (.cells #[.int .i64 n, .string s, .iface 77 (.int .i64 c)] 112) := by
  have hb : (c == 0) = false := by simpa using hc
  clear hc
  go_enter Tryd.func42, Tryd.ntmps42
  go_wp2_with (go_at_call 50; refine (wrap_some _ _ _ _ _).mono ?_; rintro e w' ⟨rfl, rfl⟩)
  go_ret
  exact ⟨rfl, rfl⟩
/-- what is wrapped -/
theorem Err.wrap {w : World} {N : Nat} {v : Value} {l : List Lay} {c : Int} (h : Err w N v l c) (hN : N ≤ w.heap.size) (n : Int) (s : ByteArray) :
    Err (w.alloc (.cells #[.int .i64 n, .string s, v] 112)) (w.heap.size + 1) (.iface 110 (.pointer (some ⟨w.heap.size, 0, none⟩))) (⟨w.heap.size, n, s.data.toList⟩ :: l) c :=
  ⟨rfl, Nat.lt_succ_self _, v, at_new w _, (h.below ((Below.refl _ _).alloc (Nat.le_refl _) _) hN).more hN⟩

/-- an error, or none -/
def ErrN (w : World) (N : Nat) (v : Value) (l : List Lay) (c : Int) : Prop := (v = .nilIface ∧ l = [] ∧ c = 0) ∨ Err w N v l c
theorem ErrN.same {w w' : World} {l : List Lay} {N : Nat} {v : Value} {c : Int} (h : ErrN w N v l c) (hs : ∀ k o, k < N → w.heap[k]? = some o → w'.heap[k]? = some o) : ErrN w' N v l c := h.imp id fun h => h.same hs
theorem ErrN.below {w w' : World} {B N : Nat} {v : Value} {l : List Lay} {c : Int} (h : ErrN w N v l c) (hb : Below B w w') (hN : N ≤ B) : ErrN w' N v l c := h.imp id fun h => h.below hb hN

set_option maxHeartbeats 1000000 in
theorem of_calls (v : Value) (l : List Lay) (c : Int) (N : Nat) (w : World) (h : ErrN w N v l c) (hN : N ≤ w.heap.size) (hT : Tab w) :
    Calls Tryd.prog 28 #[v] w fun e w' => e = .returned (.int .i64 c) ∧ Below w.heap.size w w' := by
  rcases h with ⟨rfl, rfl, rfl⟩ | h
  · go_enter Tryd.func28, Tryd.ntmps28
    go_wp2_with fail
    go_ret
    exact ⟨rfl, Below.refl _ _⟩
  · obtain ⟨ut, uv, rfl⟩ := err_nil h
    have hb0 : Below w.heap.size w (w.alloc (.cells #[.int .i64 0] 77)) := (Below.refl _ _).alloc (Nat.le_refl _) _
    have HE := Lib.hid (h.below hb0 hN)
    have HN := Lib.hid (show N ≤ (w.alloc (.cells #[.int .i64 0] 77)).heap.size by simp; omega)
    have HT := Lib.hid (hT.below hb0)
    have HK := Lib.hid (at_new w (.cells #[.int .i64 0] 77))
    have HB := Lib.hid hb0
    have HS := Lib.hid (show w.heap.size ≤ (w.alloc (.cells #[.int .i64 0] 77)).heap.size by simp)
    clear h hb0 hT
    go_enter Tryd.func28, Tryd.ntmps28
    go_wp2_with (go_at_call 40; refine (asKind_calls _ l c N _ HE.out HN.out w.heap.size _ HT.out HK.out).mono ?_; rintro e w' ⟨rfl, ho, hh⟩; have hc := (at_cell hh 0); replace ho := Lib.hid ho; clear hh; simp only [List.getElem?_toArray, List.getElem?_cons_zero] at hc)
    go_ret
    exact ⟨rfl, HB.out.trans (ho.out.below HS.out (fun i hi => by omega))⟩

end Go.Proofs.YtememmgnhnldaaaDoor.Flt

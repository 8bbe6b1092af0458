/-
  Layer 9 (fault): errors.As at the two targets of package fault, and Unwrap, walked.
-/
import Derived.Test.YtabpkpeonbdinaaDoorErfPlain
import Derived.Test.YtabpkpeonbdinaaDoorErfLib
import Derived.Lib.Hide
namespace Go.Proofs.YtabpkpeonbdinaaDoor.Flt
open Go.RowKit Go.Extern.Stop Go.Stop Go.Extern Go.Proofs.YtabpkpeonbdinaaDoor.Own

theorem unwrap_calls (b : Nat) (a x u : Value) (w : World) (h : w.heap[b]? = some (.cells #[a, x, u] 51 (0, 0))) :
    Calls Tryd.prog 93 #[.pointer (some ⟨b, 0, none⟩)] w fun e w' => e = .returned u ∧ w' = w := by
  have hc : w.cell? ⟨b, 2, none⟩ = some u := by rw [at_cell h]; rfl
  clear h
  go_enter Tryd.func93, Tryd.ntmps93
  go_wp2_with fail
  go_ret
  exact ⟨rfl, rfl⟩

theorem err_nil {w : World} {N : Nat} {v : Value} {l : List Lay} {c : Int} (h : Err w N v l c) : ∃ t u, v = .iface t u := by
  cases l with
  | nil => exact ⟨_, _, h⟩
  | cons x r => exact ⟨_, _, h.1⟩

/-- the Value of a pointer -/
def ptrV (T : TypeId) (b : Nat) : Value := .agg #[.pointer (some ⟨2, T, none⟩), .pointer (some ⟨b, 0, none⟩), .int .u64 150]
/-- a block of one cell, written -/
theorem one_set {w : World} {b : Nat} {old v : Value} {t : TypeId} (h : w.heap[b]? = some (.cells #[old] t (0, 0))) : (w.setCell ⟨b, 0, none⟩ v).heap[b]? = some (.cells #[v] t (0, 0)) := by
  have := at_set h 0 v
  simpa using this

set_option maxRecDepth 100000 in
set_option maxHeartbeats 4000000 in
/-- errors.as at a target of type *Kind -/
theorem as_kind (v : Value) (l : List Lay) (c : Int) (N tb vb : Nat) (old : Value) (w : World) (h : Err w N v l c) (hN : N ≤ w.heap.size) (ht : w.heap[tb]? = some (.cells #[old] 52 (0, 0))) (hv : w.cell? ⟨vb, 0, none⟩ = some (.pointer (some ⟨tb, 0, none⟩))) :
    Calls Tryd.prog 29 #[v, .iface 54 (.pointer (some ⟨tb, 0, none⟩)), .agg #[.pointer (some ⟨2, 54, none⟩), .pointer (some ⟨vb, 0, none⟩), .int .u64 150], .iface 99 (.agg #[.pointer (some ⟨2, 52, none⟩)])] w
      fun e w' => e = .returned (.bool true) ∧ Out (fun k => k = tb) w w' ∧ w'.heap[tb]? = some (.cells #[.int .i64 c] 52 (0, 0)) := by
  have h32 := @run_callFunc_extern Tryd.prog 26 _ (fun args => ReflectliteValue.unpack (args.getD 0 (.tuple #[]))) Tryd.func26 (by kernel_rfl) (by kernel_rfl) (by kernel_rfl) (by kernel_rfl)
  have h37 := @run_callFunc_extern Tryd.prog 43 _ ReflectliteType.typeOf Tryd.func43 (by kernel_rfl) (by kernel_rfl) (by kernel_rfl) (by kernel_rfl)
  have h71 := @run_callFunc_extern Tryd.prog 100 _ (ReflectliteType.relation "AssignableTo" ReflectliteType.assignableTo) Tryd.func100 (by kernel_rfl) (by kernel_rfl) (by kernel_rfl) (by kernel_rfl)
  have h41 := @run_callFunc_extern Tryd.prog 44 _ (ReflectliteValue.method (ReflectliteValue.valueError "reflectlite.Value.Elem" 0) ReflectliteValue.elem) Tryd.func44 (by kernel_rfl) (by kernel_rfl) (by kernel_rfl) (by kernel_rfl)
  have h42 := @run_callFunc_extern Tryd.prog 45 _ ReflectliteValue.set Tryd.func45 (by kernel_rfl) (by kernel_rfl) (by kernel_rfl) (by kernel_rfl)
  have tK := typeOf_K
  have tF := typeOf_F
  have mA := methodAssignableTo
  have mU := methodUnwrap
  have aK := assignable_KK
  have aF := assignable_FK
  have nA := noAs_F
  have hU := hasUnwrap_F
  have vE := valueE_K
  have hlt := at_lt ht
  have hvb := World.block_lt_of_cell? w _ hv
  change vb < _ at hvb
  have HE := Lib.hid h
  have HT := Lib.hid ht
  clear h ht
  go_enter Tryd.func29, Tryd.ntmps29
  go_wp2_with fail
  go_loopw [0] (fun u w2 => ∃ (M : Nat) (r : List Lay), Err w2 M u r c ∧ w2 = w.alloc (.cells #[.pointer (some ⟨2, 54, none⟩), .pointer (some ⟨vb, 0, none⟩), .int .u64 150] 76)) (fun u _ => deep u)
  case atStart => exact ⟨N, l, HE.out.below ((Below.refl _ _).alloc (Nat.le_refl _) _) hN, rfl⟩
  case round =>
    obtain ⟨M, r, he, rfl⟩ := hrel
    cases r with
    | nil =>
      obtain rfl : _ = Value.iface 52 (.int .i64 c) := he
      have el := elemV_K ⟨vb, 0, none⟩ ⟨tb, 0, none⟩ (w.alloc (.cells #[.pointer (some ⟨2, 54, none⟩), .pointer (some ⟨vb, 0, none⟩), .int .u64 150] 76)) (by rw [World.cell?_alloc_lt _ _ ⟨vb, 0, none⟩ hvb]; exact hv)
      have HH := at_old _ (.cells #[.int .i64 c] 52) (at_old w (.cells #[.pointer (some ⟨2, 54, none⟩), .pointer (some ⟨vb, 0, none⟩), .int .u64 150] 76) HT.out)
      have st := set_K ⟨tb, 0, none⟩ ⟨w.heap.size + 1, 0, none⟩ c old ((w.alloc (.cells #[.pointer (some ⟨2, 54, none⟩), .pointer (some ⟨vb, 0, none⟩), .int .u64 150] 76)).alloc (.cells #[.int .i64 c] 52))
        (by rw [World.cell?_alloc_at _ _ _ _ (by simp)]; rfl) (by rw [at_cell HH]; rfl) (at_frozen HH 0)
      have HS := Lib.hid (fun x y => at_old _ y (at_old _ x (one_set (v := .int .i64 c) HT.out)))
      clear HH
      go_wp2_with fail
      go_ret
      exact ⟨rfl, (((Out.refl (fun k => k = tb) w).setCell (p := ⟨tb, 0, none⟩) (fun _ => rfl) _).alloc _).alloc _, HS.out _ _⟩
    | cons x r =>
      obtain ⟨rfl, hx, u, hb, he'⟩ := he
      obtain ⟨ut, uv, rfl⟩ := err_nil he'
      have HE' := Lib.hid he'
      have HB := Lib.hid hb
      clear he' hb
      go_wp2_with (go_at_call 93; refine (unwrap_calls _ _ _ _ _ HB.out).mono ?_; rintro e w' ⟨rfl, rfl⟩)
      go_roundw
      case rel => exact ⟨x.blk, r, HE'.out, by first | rfl | trivial⟩
      case measure =>
        have := HE'.out
        cases r with
        | nil => rw [show Value.iface ut uv = _ from this]; simp [deep]
        | cons y s => rw [show Value.iface ut uv = _ from this.1]; have := this.2.1; simp [deep]; omega
set_option maxRecDepth 100000 in
set_option maxHeartbeats 4000000 in
/-- errors.as at a target of type **Fault, at a Fault -/
theorem as_fault (eb : Nat) (tb vb : Nat) (old : Value) (w : World) (ht : w.heap[tb]? = some (.cells #[old] 49 (0, 0))) (hv : w.cell? ⟨vb, 0, none⟩ = some (.pointer (some ⟨tb, 0, none⟩))) :
    Calls Tryd.prog 29 #[.iface 49 (.pointer (some ⟨eb, 0, none⟩)), .iface 72 (.pointer (some ⟨tb, 0, none⟩)), .agg #[.pointer (some ⟨2, 72, none⟩), .pointer (some ⟨vb, 0, none⟩), .int .u64 150], .iface 99 (.agg #[.pointer (some ⟨2, 49, none⟩)])] w
      fun e w' => e = .returned (.bool true) ∧ Out (fun k => k = tb) w w' ∧ w'.heap[tb]? = some (.cells #[.pointer (some ⟨eb, 0, none⟩)] 49 (0, 0)) := by
  have h32 := @run_callFunc_extern Tryd.prog 26 _ (fun args => ReflectliteValue.unpack (args.getD 0 (.tuple #[]))) Tryd.func26 (by kernel_rfl) (by kernel_rfl) (by kernel_rfl) (by kernel_rfl)
  have h37 := @run_callFunc_extern Tryd.prog 43 _ ReflectliteType.typeOf Tryd.func43 (by kernel_rfl) (by kernel_rfl) (by kernel_rfl) (by kernel_rfl)
  have h71 := @run_callFunc_extern Tryd.prog 100 _ (ReflectliteType.relation "AssignableTo" ReflectliteType.assignableTo) Tryd.func100 (by kernel_rfl) (by kernel_rfl) (by kernel_rfl) (by kernel_rfl)
  have h41 := @run_callFunc_extern Tryd.prog 44 _ (ReflectliteValue.method (ReflectliteValue.valueError "reflectlite.Value.Elem" 0) ReflectliteValue.elem) Tryd.func44 (by kernel_rfl) (by kernel_rfl) (by kernel_rfl) (by kernel_rfl)
  have h42 := @run_callFunc_extern Tryd.prog 45 _ ReflectliteValue.set Tryd.func45 (by kernel_rfl) (by kernel_rfl) (by kernel_rfl) (by kernel_rfl)
  have tF := typeOf_F
  have mA := methodAssignableTo
  have aF := assignable_FF
  have vE := valueE_F
  have hlt := at_lt ht
  have hvb := World.block_lt_of_cell? w _ hv
  change vb < _ at hvb
  have HT := Lib.hid ht
  clear ht
  have el := elemV_F ⟨vb, 0, none⟩ ⟨tb, 0, none⟩ (w.alloc (.cells #[.pointer (some ⟨2, 72, none⟩), .pointer (some ⟨vb, 0, none⟩), .int .u64 150] 76)) (by rw [World.cell?_alloc_lt _ _ ⟨vb, 0, none⟩ hvb]; exact hv)
  have HH := at_old _ (.cells #[.pointer (some ⟨eb, 0, none⟩)] 49) (at_old w (.cells #[.pointer (some ⟨2, 72, none⟩), .pointer (some ⟨vb, 0, none⟩), .int .u64 150] 76) HT.out)
  have st := set_F ⟨tb, 0, none⟩ ⟨w.heap.size + 1, 0, none⟩ ⟨eb, 0, none⟩ old ((w.alloc (.cells #[.pointer (some ⟨2, 72, none⟩), .pointer (some ⟨vb, 0, none⟩), .int .u64 150] 76)).alloc (.cells #[.pointer (some ⟨eb, 0, none⟩)] 49))
    (by rw [World.cell?_alloc_at _ _ _ _ (by simp)]; rfl) (by rw [at_cell HH]; rfl) (at_frozen HH 0)
  have HS := Lib.hid (fun x y => at_old _ y (at_old _ x (one_set (v := .pointer (some ⟨eb, 0, none⟩)) HT.out)))
  clear HH
  go_enter Tryd.func29, Tryd.ntmps29
  go_wp2_with fail
  refine wp_loop_rounds 1 ?_
  rw [rounds_succ]
  go_wp2_with fail
  go_ret
  exact ⟨rfl, (((Out.refl (fun k => k = tb) w).setCell (p := ⟨tb, 0, none⟩) (fun _ => rfl) _).alloc _).alloc _, HS.out _ _⟩

set_option maxRecDepth 100000 in
set_option maxHeartbeats 4000000 in
/-- errors.as at a target of type **Fault, at a Kind -/
theorem as_miss (c : Int) (t x y z : Value) (w : World) :
    Calls Tryd.prog 29 #[.iface 52 (.int .i64 c), t, .agg #[x, y, z], .iface 99 (.agg #[.pointer (some ⟨2, 49, none⟩)])] w
      fun e w' => e = .returned (.bool false) ∧ Below w.heap.size w w' := by
  have h37 := @run_callFunc_extern Tryd.prog 43 _ ReflectliteType.typeOf Tryd.func43 (by kernel_rfl) (by kernel_rfl) (by kernel_rfl) (by kernel_rfl)
  have h71 := @run_callFunc_extern Tryd.prog 100 _ (ReflectliteType.relation "AssignableTo" ReflectliteType.assignableTo) Tryd.func100 (by kernel_rfl) (by kernel_rfl) (by kernel_rfl) (by kernel_rfl)
  have tK := typeOf_K
  have mA := methodAssignableTo
  have aK := assignable_KF
  have nA := noAs_K
  have nU := noUnwrap_K
  have nV := noUnwraps_K
  go_enter Tryd.func29, Tryd.ntmps29
  go_wp2_with fail
  refine wp_loop_rounds 1 ?_
  rw [rounds_succ]
  go_wp2_with fail
  go_ret
  exact ⟨rfl, (Below.refl _ _).alloc (Nat.le_refl _) _⟩

end Go.Proofs.YtabpkpeonbdinaaDoor.Flt

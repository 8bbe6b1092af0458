/-
  Layer 9 (fault): errors.As at the two targets of package fault, and Unwrap, walked.
-/
import Derived.Test.YtememmgnhnldaaaDoorErrPlain
import Derived.Test.YtememmgnhnldaaaDoorErrLib
import Derived.Lib.Hide
namespace Go.Proofs.YtememmgnhnldaaaDoor.Flt
open Go.RowKit Go.Extern.Stop Go.Stop Go.Extern Go.Proofs.YtememmgnhnldaaaDoor.Own

theorem unwrap_calls (b : Nat) (a x u : Value) (w : World) (h : w.heap[b]? = some (.cells #[a, x, u] 112 (0, 0))) :
    Calls Tryd.prog 88 #[.pointer (some ⟨b, 0, none⟩)] w fun e w' => e = .returned u ∧ w' = w := by
  have hc : w.cell? ⟨b, 2, none⟩ = some u := by rw [at_cell h]; rfl
  clear h
  go_enter Tryd.func88, Tryd.ntmps88
  go_wp2_with fail
  go_ret
  exact ⟨rfl, rfl⟩

theorem err_nil {w : World} {N : Nat} {v : Value} {l : List Lay} {c : Int} (h : Err w N v l c) : ∃ t u, v = .iface t u := by
  cases l with
  | nil => exact ⟨_, _, h⟩
  | cons x r => exact ⟨_, _, h.1⟩

/-- the Value of a pointer -/
def ptrV (T : TypeId) (b : Nat) : Value := .agg #[.pointer (some ⟨1, T, none⟩), .pointer (some ⟨b, 0, none⟩), .int .u64 150]
/-- a block of one cell, written -/
theorem one_set {w : World} {b : Nat} {old v : Value} {t : TypeId} (h : w.heap[b]? = some (.cells #[old] t (0, 0))) : (w.setCell ⟨b, 0, none⟩ v).heap[b]? = some (.cells #[v] t (0, 0)) := by
  have := at_set h 0 v
  simpa using this

set_option maxRecDepth 100000 in
set_option maxHeartbeats 4000000 in
/-- errors.as at a target of type *Kind -/
theorem as_kind (v : Value) (l : List Lay) (c : Int) (N tb vb : Nat) (old : Value) (w : World) (h : Err w N v l c) (hN : N ≤ w.heap.size) (ht : w.heap[tb]? = some (.cells #[old] 77 (0, 0))) (hv : w.cell? ⟨vb, 0, none⟩ = some (.pointer (some ⟨tb, 0, none⟩))) :
    Calls Tryd.prog 49 #[v, .iface 79 (.pointer (some ⟨tb, 0, none⟩)), .agg #[.pointer (some ⟨1, 79, none⟩), .pointer (some ⟨vb, 0, none⟩), .int .u64 150], .iface 97 (.agg #[.pointer (some ⟨1, 77, none⟩)])] w
      fun e w' => e = .returned (.bool true) ∧ Out (fun k => k = tb) w w' ∧ w'.heap[tb]? = some (.cells #[.int .i64 c] 77 (0, 0)) := by
  have h32 := @run_callFunc_extern Tryd.prog 46 _ (fun args => ReflectliteValue.unpack (args.getD 0 (.tuple #[]))) Tryd.func46 (by kernel_rfl) (by kernel_rfl) (by kernel_rfl) (by kernel_rfl)
  have h37 := @run_callFunc_extern Tryd.prog 51 _ ReflectliteType.typeOf Tryd.func51 (by kernel_rfl) (by kernel_rfl) (by kernel_rfl) (by kernel_rfl)
  have h71 := @run_callFunc_extern Tryd.prog 77 _ (ReflectliteType.relation "AssignableTo" ReflectliteType.assignableTo) Tryd.func77 (by kernel_rfl) (by kernel_rfl) (by kernel_rfl) (by kernel_rfl)
  have h41 := @run_callFunc_extern Tryd.prog 52 _ (ReflectliteValue.method (ReflectliteValue.valueError "reflectlite.Value.Elem" 0) ReflectliteValue.elem) Tryd.func52 (by kernel_rfl) (by kernel_rfl) (by kernel_rfl) (by kernel_rfl)
  have h42 := @run_callFunc_extern Tryd.prog 53 _ ReflectliteValue.set Tryd.func53 (by kernel_rfl) (by kernel_rfl) (by kernel_rfl) (by kernel_rfl)
  have tK := typeOf_K
  have tF := typeOf_F
  have mA := methodAssignableTo
  have mU := methodUnwrap
  have aK := assignable_KK
  have aF := assignable_FK
  have nA := noAs_F
  have hU := hasUnwrap_F
  have vE := valueE_K
  have hlt := at_lt ht
  have hvb := World.block_lt_of_cell? w _ hv
  change vb < _ at hvb
  have HE := Lib.hid h
  have HT := Lib.hid ht
  clear h ht
  go_enter Tryd.func49, Tryd.ntmps49
  go_wp2_with fail
  go_loopw [0] (fun u w2 => ∃ (M : Nat) (r : List Lay), Err w2 M u r c ∧ w2 = w.alloc (.cells #[.pointer (some ⟨1, 79, none⟩), .pointer (some ⟨vb, 0, none⟩), .int .u64 150] 86)) (fun u _ => deep u)
  case atStart => exact ⟨N, l, HE.out.below ((Below.refl _ _).alloc (Nat.le_refl _) _) hN, rfl⟩
  case round =>
    obtain ⟨M, r, he, rfl⟩ := hrel
    cases r with
    | nil =>
      obtain rfl : _ = Value.iface 77 (.int .i64 c) := he
      have el := elemV_K ⟨vb, 0, none⟩ ⟨tb, 0, none⟩ (w.alloc (.cells #[.pointer (some ⟨1, 79, none⟩), .pointer (some ⟨vb, 0, none⟩), .int .u64 150] 86)) (by rw [World.cell?_alloc_lt _ _ ⟨vb, 0, none⟩ hvb]; exact hv)
      have HH := at_old _ (.cells #[.int .i64 c] 77) (at_old w (.cells #[.pointer (some ⟨1, 79, none⟩), .pointer (some ⟨vb, 0, none⟩), .int .u64 150] 86) HT.out)
      have st := set_K ⟨tb, 0, none⟩ ⟨w.heap.size + 1, 0, none⟩ c old ((w.alloc (.cells #[.pointer (some ⟨1, 79, none⟩), .pointer (some ⟨vb, 0, none⟩), .int .u64 150] 86)).alloc (.cells #[.int .i64 c] 77))
        (by rw [World.cell?_alloc_at _ _ _ _ (by simp)]; rfl) (by rw [at_cell HH]; rfl) (at_frozen HH 0)
      have HS := Lib.hid (fun x y => at_old _ y (at_old _ x (one_set (v := .int .i64 c) HT.out)))
      clear HH
      go_wp2_with fail
      go_ret
      exact ⟨rfl, (((Out.refl (fun k => k = tb) w).setCell (p := ⟨tb, 0, none⟩) (fun _ => rfl) _).alloc _).alloc _, HS.out _ _⟩
    | cons x r =>
      obtain ⟨rfl, hx, u, hb, he'⟩ := he
      obtain ⟨ut, uv, rfl⟩ := err_nil he'
      have HE' := Lib.hid he'
      have HB := Lib.hid hb
      clear he' hb
      go_wp2_with (go_at_call 88; refine (unwrap_calls _ _ _ _ _ HB.out).mono ?_; rintro e w' ⟨rfl, rfl⟩)
      go_roundw
      case rel => exact ⟨x.blk, r, HE'.out, by first | rfl | trivial⟩
      case measure =>
        have := HE'.out
        cases r with
        | nil => rw [show Value.iface ut uv = _ from this]; simp [deep]
        | cons y s => rw [show Value.iface ut uv = _ from this.1]; have := this.2.1; simp [deep]; omega

/-- errors.As of nil -/
theorem asNil_calls (t : Value) (w : World) : Calls Tryd.prog 40 #[.nilIface, t] w fun e w' => e = .returned (.bool false) ∧ w' = w := by
  go_enter Tryd.func40, Tryd.ntmps40
  go_wp2
  go_ret
  exact ⟨rfl, rfl⟩

set_option maxRecDepth 100000 in
set_option maxHeartbeats 4000000 in
/-- errors.As at a *Kind: the Kind at the end -/
theorem asKind_calls (v : Value) (l : List Lay) (c : Int) (N : Nat) (w : World) (h : Err w N v l c) (hN : N ≤ w.heap.size) (tb : Nat) (old : Value) (hT : Tab w) (ht : w.heap[tb]? = some (.cells #[old] 77 (0, 0))) :
    Calls Tryd.prog 40 #[v, .iface 79 (.pointer (some ⟨tb, 0, none⟩))] w
      fun e w' => e = .returned (.bool true) ∧ Out (fun k => k = tb) w w' ∧ w'.heap[tb]? = some (.cells #[.int .i64 c] 77 (0, 0)) := by
  have h32 := @run_callFunc_extern Tryd.prog 46 _ (fun args => ReflectliteValue.unpack (args.getD 0 (.tuple #[]))) Tryd.func46 (by kernel_rfl) (by kernel_rfl) (by kernel_rfl) (by kernel_rfl)
  have h33 := @run_callFunc_extern Tryd.prog 47 _ (ReflectliteValue.methodAny (ReflectliteValue.valueError "reflectlite.Value.Type" 0) (fun t _ _ _ => ReflectliteType.toType t)) Tryd.func47 (by kernel_rfl) (by kernel_rfl) (by kernel_rfl) (by kernel_rfl)
  have h34 := @run_callFunc_extern Tryd.prog 48 _ (ReflectliteValue.method (ReflectliteValue.valueError "reflectlite.Value.IsNil" 0) ReflectliteValue.isNil) Tryd.func48 (by kernel_rfl) (by kernel_rfl) (by kernel_rfl) (by kernel_rfl)
  have h64 := @run_callFunc_extern Tryd.prog 68 _ (ReflectliteType.abiMethod fun t => do pure (.int .u8 (← Rtype.kind t))) Tryd.func68 (by kernel_rfl) (by kernel_rfl) (by kernel_rfl) (by kernel_rfl)
  have h73 := @run_callFunc_extern Tryd.prog 79 _ (ReflectliteType.method ReflectliteType.elem) Tryd.func79 (by kernel_rfl) (by kernel_rfl) (by kernel_rfl) (by kernel_rfl)
  have h74 := @run_callFunc_extern Tryd.prog 80 _ (ReflectliteType.relation "Implements" ReflectliteType.implements_) Tryd.func80 (by kernel_rfl) (by kernel_rfl) (by kernel_rfl) (by kernel_rfl)
  have f32 := valueOf_K
  have f33 := type_K
  have mK := methodKind
  have mE := methodElem
  have mI := methodImplements
  have kT := kindT_K
  have kE := kindE_K
  have eT := elem_K
  have iE := implements_K
  have HW := at_new (w.alloc (.cells #[.pointer (some ⟨tb, 0, none⟩)] 79)) (.cells #[.pointer (some ⟨1, 79, none⟩), .pointer (some ⟨w.heap.size, 0, none⟩), .int .u64 150] 86)
  have HV := at_old _ (.cells #[.pointer (some ⟨1, 79, none⟩), .pointer (some ⟨w.heap.size, 0, none⟩), .int .u64 150] 86) (at_new w (.cells #[.pointer (some ⟨tb, 0, none⟩)] 79))
  have HT := Lib.hid (at_old _ (.cells #[.pointer (some ⟨1, 79, none⟩), .pointer (some ⟨w.heap.size, 0, none⟩), .int .u64 150] 86) (at_old w (.cells #[.pointer (some ⟨tb, 0, none⟩)] 79) ht))
  have n8 := isNil_K ⟨w.heap.size, 0, none⟩ ⟨tb, 0, none⟩ ((w.alloc (.cells #[.pointer (some ⟨tb, 0, none⟩)] 79)).alloc (.cells #[.pointer (some ⟨1, 79, none⟩), .pointer (some ⟨w.heap.size, 0, none⟩), .int .u64 150] 86)) (by rw [at_cell HV]; rfl)
  have hg := World.cell?_alloc_lt w (.cells #[.pointer (some ⟨tb, 0, none⟩)] 79) ⟨0, 0, none⟩ hT.lt
  have hg2 : ((w.alloc (.cells #[.pointer (some ⟨tb, 0, none⟩)] 79)).alloc (.cells #[.pointer (some ⟨1, 79, none⟩), .pointer (some ⟨w.heap.size, 0, none⟩), .int .u64 150] 86)).cell? ⟨0, 0, none⟩ = some (.iface 97 (.agg #[.pointer (some ⟨1, 36, none⟩)])) := by
    rw [World.cell?_alloc_lt _ _ ⟨0, 0, none⟩ (by have := hT.lt; simp <;> omega), hg]; exact hT.et
  have HVc : ((w.alloc (.cells #[.pointer (some ⟨tb, 0, none⟩)] 79)).alloc (.cells #[.pointer (some ⟨1, 79, none⟩), .pointer (some ⟨w.heap.size, 0, none⟩), .int .u64 150] 86)).cell? ⟨w.heap.size, 0, none⟩ = some (.pointer (some ⟨tb, 0, none⟩)) := by rw [at_cell HV]; rfl
  have HO := Lib.hid (fun S => ((Out.refl S w).alloc (.cells #[.pointer (some ⟨tb, 0, none⟩)] 79)).alloc (.cells #[.pointer (some ⟨1, 79, none⟩), .pointer (some ⟨w.heap.size, 0, none⟩), .int .u64 150] 86))
  obtain ⟨ut, uv, rfl⟩ := err_nil h
  have HE := Lib.hid (h.same (w' := ((w.alloc (.cells #[.pointer (some ⟨tb, 0, none⟩)] 79)).alloc (.cells #[.pointer (some ⟨1, 79, none⟩), .pointer (some ⟨w.heap.size, 0, none⟩), .int .u64 150] 86))) fun k o _ ho => at_old _ (.cells #[.pointer (some ⟨1, 79, none⟩), .pointer (some ⟨w.heap.size, 0, none⟩), .int .u64 150] 86) (at_old w (.cells #[.pointer (some ⟨tb, 0, none⟩)] 79) ho))
  have HN := Lib.hid (show N ≤ ((w.alloc (.cells #[.pointer (some ⟨tb, 0, none⟩)] 79)).alloc (.cells #[.pointer (some ⟨1, 79, none⟩), .pointer (some ⟨w.heap.size, 0, none⟩), .int .u64 150] 86)).heap.size by simp; omega)
  clear h
  have HVC := Lib.hid HVc
  clear hg HW HV ht HVc
  go_enter Tryd.func40, Tryd.ntmps40
  go_wp2_with (go_at_call 49; refine (as_kind _ l c N tb w.heap.size old _ HE.out HN.out HT.out HVC.out).mono ?_; rintro e w' ⟨rfl, ho, hh⟩; replace ho := Lib.hid ho; replace hh := Lib.hid hh)
  go_ret
  exact ⟨rfl, (HO.out _).trans ho.out (fun _ _ h => h), hh.out⟩
end Go.Proofs.YtememmgnhnldaaaDoor.Flt

/-
  Layer 9 (fault): errors.As, called. Written by a program out of one frame for three cases.
-/
import Derived.Test.YtabpkpeonbdinaaDoorErfAs
namespace Go.Proofs.YtabpkpeonbdinaaDoor.Flt
open Go.RowKit Go.Extern.Stop Go.Stop Go.Extern Go.Proofs.YtabpkpeonbdinaaDoor.Own

/-- errors.As of nil -/
theorem asNil_calls (t : Value) (w : World) : Calls Tryd.prog 15 #[.nilIface, t] w fun e w' => e = .returned (.bool false) ∧ w' = w := by
  go_enter Tryd.func15, Tryd.ntmps15
  go_wp2
  go_ret
  exact ⟨rfl, rfl⟩

set_option maxRecDepth 100000 in
set_option maxHeartbeats 4000000 in
/-- errors.As at a *Kind: the Kind at the end -/
theorem asKind_calls (v : Value) (l : List Lay) (c : Int) (N : Nat) (w : World) (h : Err w N v l c) (hN : N ≤ w.heap.size) (tb : Nat) (old : Value) (hT : Tab w) (ht : w.heap[tb]? = some (.cells #[old] 52 (0, 0))) :
    Calls Tryd.prog 15 #[v, .iface 54 (.pointer (some ⟨tb, 0, none⟩))] w
      fun e w' => e = .returned (.bool true) ∧ Out (fun k => k = tb) w w' ∧ w'.heap[tb]? = some (.cells #[.int .i64 c] 52 (0, 0)) := by
  have h32 := @run_callFunc_extern Tryd.prog 26 _ (fun args => ReflectliteValue.unpack (args.getD 0 (.tuple #[]))) Tryd.func26 (by kernel_rfl) (by kernel_rfl) (by kernel_rfl) (by kernel_rfl)
  have h33 := @run_callFunc_extern Tryd.prog 27 _ (ReflectliteValue.methodAny (ReflectliteValue.valueError "reflectlite.Value.Type" 0) (fun t _ _ _ => ReflectliteType.toType t)) Tryd.func27 (by kernel_rfl) (by kernel_rfl) (by kernel_rfl) (by kernel_rfl)
  have h34 := @run_callFunc_extern Tryd.prog 28 _ (ReflectliteValue.method (ReflectliteValue.valueError "reflectlite.Value.IsNil" 0) ReflectliteValue.isNil) Tryd.func28 (by kernel_rfl) (by kernel_rfl) (by kernel_rfl) (by kernel_rfl)
  have h64 := @run_callFunc_extern Tryd.prog 89 _ (ReflectliteType.abiMethod fun t => do pure (.int .u8 (← Rtype.kind t))) Tryd.func89 (by kernel_rfl) (by kernel_rfl) (by kernel_rfl) (by kernel_rfl)
  have h73 := @run_callFunc_extern Tryd.prog 102 _ (ReflectliteType.method ReflectliteType.elem) Tryd.func102 (by kernel_rfl) (by kernel_rfl) (by kernel_rfl) (by kernel_rfl)
  have h74 := @run_callFunc_extern Tryd.prog 103 _ (ReflectliteType.relation "Implements" ReflectliteType.implements_) Tryd.func103 (by kernel_rfl) (by kernel_rfl) (by kernel_rfl) (by kernel_rfl)
  have f32 := valueOf_K
  have f33 := type_K
  have mK := methodKind
  have mE := methodElem
  have mI := methodImplements
  have kT := kindT_K
  have kE := kindE_K
  have eT := elem_K
  have iE := implements_K
  have HW := at_new (w.alloc (.cells #[.pointer (some ⟨tb, 0, none⟩)] 54)) (.cells #[.pointer (some ⟨2, 54, none⟩), .pointer (some ⟨w.heap.size, 0, none⟩), .int .u64 150] 76)
  have HV := at_old _ (.cells #[.pointer (some ⟨2, 54, none⟩), .pointer (some ⟨w.heap.size, 0, none⟩), .int .u64 150] 76) (at_new w (.cells #[.pointer (some ⟨tb, 0, none⟩)] 54))
  have HT := Lib.hid (at_old _ (.cells #[.pointer (some ⟨2, 54, none⟩), .pointer (some ⟨w.heap.size, 0, none⟩), .int .u64 150] 76) (at_old w (.cells #[.pointer (some ⟨tb, 0, none⟩)] 54) ht))
  have n8 := isNil_K ⟨w.heap.size, 0, none⟩ ⟨tb, 0, none⟩ ((w.alloc (.cells #[.pointer (some ⟨tb, 0, none⟩)] 54)).alloc (.cells #[.pointer (some ⟨2, 54, none⟩), .pointer (some ⟨w.heap.size, 0, none⟩), .int .u64 150] 76)) (by rw [at_cell HV]; rfl)
  have hg := World.cell?_alloc_lt w (.cells #[.pointer (some ⟨tb, 0, none⟩)] 54) ⟨0, 0, none⟩ hT.lt
  have hg2 : ((w.alloc (.cells #[.pointer (some ⟨tb, 0, none⟩)] 54)).alloc (.cells #[.pointer (some ⟨2, 54, none⟩), .pointer (some ⟨w.heap.size, 0, none⟩), .int .u64 150] 76)).cell? ⟨0, 0, none⟩ = some (.iface 99 (.agg #[.pointer (some ⟨2, 25, none⟩)])) := by
    rw [World.cell?_alloc_lt _ _ ⟨0, 0, none⟩ (by have := hT.lt; simp <;> omega), hg]; exact hT.et
  have HVc : ((w.alloc (.cells #[.pointer (some ⟨tb, 0, none⟩)] 54)).alloc (.cells #[.pointer (some ⟨2, 54, none⟩), .pointer (some ⟨w.heap.size, 0, none⟩), .int .u64 150] 76)).cell? ⟨w.heap.size, 0, none⟩ = some (.pointer (some ⟨tb, 0, none⟩)) := by rw [at_cell HV]; rfl
  have HO := Lib.hid (fun S => ((Out.refl S w).alloc (.cells #[.pointer (some ⟨tb, 0, none⟩)] 54)).alloc (.cells #[.pointer (some ⟨2, 54, none⟩), .pointer (some ⟨w.heap.size, 0, none⟩), .int .u64 150] 76))
  obtain ⟨ut, uv, rfl⟩ := err_nil h
  have HE := Lib.hid (h.same (w' := ((w.alloc (.cells #[.pointer (some ⟨tb, 0, none⟩)] 54)).alloc (.cells #[.pointer (some ⟨2, 54, none⟩), .pointer (some ⟨w.heap.size, 0, none⟩), .int .u64 150] 76))) fun k o _ ho => at_old _ (.cells #[.pointer (some ⟨2, 54, none⟩), .pointer (some ⟨w.heap.size, 0, none⟩), .int .u64 150] 76) (at_old w (.cells #[.pointer (some ⟨tb, 0, none⟩)] 54) ho))
  have HN := Lib.hid (show N ≤ ((w.alloc (.cells #[.pointer (some ⟨tb, 0, none⟩)] 54)).alloc (.cells #[.pointer (some ⟨2, 54, none⟩), .pointer (some ⟨w.heap.size, 0, none⟩), .int .u64 150] 76)).heap.size by simp; omega)
  clear h
  have HVC := Lib.hid HVc
  clear hg HW HV ht HVc
  go_enter Tryd.func15, Tryd.ntmps15
  go_wp2_with (go_at_call 29; refine (as_kind _ l c N tb w.heap.size old _ HE.out HN.out HT.out HVC.out).mono ?_; rintro e w' ⟨rfl, ho, hh⟩; replace ho := Lib.hid ho; replace hh := Lib.hid hh)
  go_ret
  exact ⟨rfl, (HO.out _).trans ho.out (fun _ _ h => h), hh.out⟩

set_option maxRecDepth 100000 in
set_option maxHeartbeats 4000000 in
/-- errors.As at a **Fault: the Fault itself -/
theorem asFault_calls (eb : Nat) (w : World) (tb : Nat) (old : Value) (hT : Tab w) (ht : w.heap[tb]? = some (.cells #[old] 49 (0, 0))) :
    Calls Tryd.prog 15 #[.iface 49 (.pointer (some ⟨eb, 0, none⟩)), .iface 72 (.pointer (some ⟨tb, 0, none⟩))] w
      fun e w' => e = .returned (.bool true) ∧ Out (fun k => k = tb) w w' ∧ w'.heap[tb]? = some (.cells #[.pointer (some ⟨eb, 0, none⟩)] 49 (0, 0)) := by
  have h32 := @run_callFunc_extern Tryd.prog 26 _ (fun args => ReflectliteValue.unpack (args.getD 0 (.tuple #[]))) Tryd.func26 (by kernel_rfl) (by kernel_rfl) (by kernel_rfl) (by kernel_rfl)
  have h33 := @run_callFunc_extern Tryd.prog 27 _ (ReflectliteValue.methodAny (ReflectliteValue.valueError "reflectlite.Value.Type" 0) (fun t _ _ _ => ReflectliteType.toType t)) Tryd.func27 (by kernel_rfl) (by kernel_rfl) (by kernel_rfl) (by kernel_rfl)
  have h34 := @run_callFunc_extern Tryd.prog 28 _ (ReflectliteValue.method (ReflectliteValue.valueError "reflectlite.Value.IsNil" 0) ReflectliteValue.isNil) Tryd.func28 (by kernel_rfl) (by kernel_rfl) (by kernel_rfl) (by kernel_rfl)
  have h64 := @run_callFunc_extern Tryd.prog 89 _ (ReflectliteType.abiMethod fun t => do pure (.int .u8 (← Rtype.kind t))) Tryd.func89 (by kernel_rfl) (by kernel_rfl) (by kernel_rfl) (by kernel_rfl)
  have h73 := @run_callFunc_extern Tryd.prog 102 _ (ReflectliteType.method ReflectliteType.elem) Tryd.func102 (by kernel_rfl) (by kernel_rfl) (by kernel_rfl) (by kernel_rfl)
  have h74 := @run_callFunc_extern Tryd.prog 103 _ (ReflectliteType.relation "Implements" ReflectliteType.implements_) Tryd.func103 (by kernel_rfl) (by kernel_rfl) (by kernel_rfl) (by kernel_rfl)
  have f32 := valueOf_F
  have f33 := type_F
  have mK := methodKind
  have mE := methodElem
  have mI := methodImplements
  have kT := kindT_F
  have kE := kindE_F
  have eT := elem_F
  have iE := implements_F
  have HW := at_new (w.alloc (.cells #[.pointer (some ⟨tb, 0, none⟩)] 72)) (.cells #[.pointer (some ⟨2, 72, none⟩), .pointer (some ⟨w.heap.size, 0, none⟩), .int .u64 150] 76)
  have HV := at_old _ (.cells #[.pointer (some ⟨2, 72, none⟩), .pointer (some ⟨w.heap.size, 0, none⟩), .int .u64 150] 76) (at_new w (.cells #[.pointer (some ⟨tb, 0, none⟩)] 72))
  have HT := Lib.hid (at_old _ (.cells #[.pointer (some ⟨2, 72, none⟩), .pointer (some ⟨w.heap.size, 0, none⟩), .int .u64 150] 76) (at_old w (.cells #[.pointer (some ⟨tb, 0, none⟩)] 72) ht))
  have n8 := isNil_F ⟨w.heap.size, 0, none⟩ ⟨tb, 0, none⟩ ((w.alloc (.cells #[.pointer (some ⟨tb, 0, none⟩)] 72)).alloc (.cells #[.pointer (some ⟨2, 72, none⟩), .pointer (some ⟨w.heap.size, 0, none⟩), .int .u64 150] 76)) (by rw [at_cell HV]; rfl)
  have hg := World.cell?_alloc_lt w (.cells #[.pointer (some ⟨tb, 0, none⟩)] 72) ⟨0, 0, none⟩ hT.lt
  have hg2 : ((w.alloc (.cells #[.pointer (some ⟨tb, 0, none⟩)] 72)).alloc (.cells #[.pointer (some ⟨2, 72, none⟩), .pointer (some ⟨w.heap.size, 0, none⟩), .int .u64 150] 76)).cell? ⟨0, 0, none⟩ = some (.iface 99 (.agg #[.pointer (some ⟨2, 25, none⟩)])) := by
    rw [World.cell?_alloc_lt _ _ ⟨0, 0, none⟩ (by have := hT.lt; simp <;> omega), hg]; exact hT.et
  have HVc : ((w.alloc (.cells #[.pointer (some ⟨tb, 0, none⟩)] 72)).alloc (.cells #[.pointer (some ⟨2, 72, none⟩), .pointer (some ⟨w.heap.size, 0, none⟩), .int .u64 150] 76)).cell? ⟨w.heap.size, 0, none⟩ = some (.pointer (some ⟨tb, 0, none⟩)) := by rw [at_cell HV]; rfl
  have HO := Lib.hid (fun S => ((Out.refl S w).alloc (.cells #[.pointer (some ⟨tb, 0, none⟩)] 72)).alloc (.cells #[.pointer (some ⟨2, 72, none⟩), .pointer (some ⟨w.heap.size, 0, none⟩), .int .u64 150] 76))
  have HVC := Lib.hid HVc
  clear hg HW HV ht HVc
  go_enter Tryd.func15, Tryd.ntmps15
  go_wp2_with (go_at_call 29; refine (as_fault eb tb w.heap.size old _ HT.out HVC.out).mono ?_; rintro e w' ⟨rfl, ho, hh⟩; replace ho := Lib.hid ho; replace hh := Lib.hid hh)
  go_ret
  exact ⟨rfl, (HO.out _).trans ho.out (fun _ _ h => h), hh.out⟩

set_option maxRecDepth 100000 in
set_option maxHeartbeats 4000000 in
/-- errors.As at a **Fault: a Kind is none -/
theorem asMiss_calls (c : Int) (w : World) (tb : Nat) (old : Value) (hT : Tab w) (ht : w.heap[tb]? = some (.cells #[old] 49 (0, 0))) :
    Calls Tryd.prog 15 #[.iface 52 (.int .i64 c), .iface 72 (.pointer (some ⟨tb, 0, none⟩))] w
      fun e w' => e = .returned (.bool false) ∧ Below w.heap.size w w' := by
  have h32 := @run_callFunc_extern Tryd.prog 26 _ (fun args => ReflectliteValue.unpack (args.getD 0 (.tuple #[]))) Tryd.func26 (by kernel_rfl) (by kernel_rfl) (by kernel_rfl) (by kernel_rfl)
  have h33 := @run_callFunc_extern Tryd.prog 27 _ (ReflectliteValue.methodAny (ReflectliteValue.valueError "reflectlite.Value.Type" 0) (fun t _ _ _ => ReflectliteType.toType t)) Tryd.func27 (by kernel_rfl) (by kernel_rfl) (by kernel_rfl) (by kernel_rfl)
  have h34 := @run_callFunc_extern Tryd.prog 28 _ (ReflectliteValue.method (ReflectliteValue.valueError "reflectlite.Value.IsNil" 0) ReflectliteValue.isNil) Tryd.func28 (by kernel_rfl) (by kernel_rfl) (by kernel_rfl) (by kernel_rfl)
  have h64 := @run_callFunc_extern Tryd.prog 89 _ (ReflectliteType.abiMethod fun t => do pure (.int .u8 (← Rtype.kind t))) Tryd.func89 (by kernel_rfl) (by kernel_rfl) (by kernel_rfl) (by kernel_rfl)
  have h73 := @run_callFunc_extern Tryd.prog 102 _ (ReflectliteType.method ReflectliteType.elem) Tryd.func102 (by kernel_rfl) (by kernel_rfl) (by kernel_rfl) (by kernel_rfl)
  have h74 := @run_callFunc_extern Tryd.prog 103 _ (ReflectliteType.relation "Implements" ReflectliteType.implements_) Tryd.func103 (by kernel_rfl) (by kernel_rfl) (by kernel_rfl) (by kernel_rfl)
  have f32 := valueOf_F
  have f33 := type_F
  have mK := methodKind
  have mE := methodElem
  have mI := methodImplements
  have kT := kindT_F
  have kE := kindE_F
  have eT := elem_F
  have iE := implements_F
  have HW := at_new (w.alloc (.cells #[.pointer (some ⟨tb, 0, none⟩)] 72)) (.cells #[.pointer (some ⟨2, 72, none⟩), .pointer (some ⟨w.heap.size, 0, none⟩), .int .u64 150] 76)
  have HV := at_old _ (.cells #[.pointer (some ⟨2, 72, none⟩), .pointer (some ⟨w.heap.size, 0, none⟩), .int .u64 150] 76) (at_new w (.cells #[.pointer (some ⟨tb, 0, none⟩)] 72))
  have HT := Lib.hid (at_old _ (.cells #[.pointer (some ⟨2, 72, none⟩), .pointer (some ⟨w.heap.size, 0, none⟩), .int .u64 150] 76) (at_old w (.cells #[.pointer (some ⟨tb, 0, none⟩)] 72) ht))
  have n8 := isNil_F ⟨w.heap.size, 0, none⟩ ⟨tb, 0, none⟩ ((w.alloc (.cells #[.pointer (some ⟨tb, 0, none⟩)] 72)).alloc (.cells #[.pointer (some ⟨2, 72, none⟩), .pointer (some ⟨w.heap.size, 0, none⟩), .int .u64 150] 76)) (by rw [at_cell HV]; rfl)
  have hg := World.cell?_alloc_lt w (.cells #[.pointer (some ⟨tb, 0, none⟩)] 72) ⟨0, 0, none⟩ hT.lt
  have hg2 : ((w.alloc (.cells #[.pointer (some ⟨tb, 0, none⟩)] 72)).alloc (.cells #[.pointer (some ⟨2, 72, none⟩), .pointer (some ⟨w.heap.size, 0, none⟩), .int .u64 150] 76)).cell? ⟨0, 0, none⟩ = some (.iface 99 (.agg #[.pointer (some ⟨2, 25, none⟩)])) := by
    rw [World.cell?_alloc_lt _ _ ⟨0, 0, none⟩ (by have := hT.lt; simp <;> omega), hg]; exact hT.et
  have HVc : ((w.alloc (.cells #[.pointer (some ⟨tb, 0, none⟩)] 72)).alloc (.cells #[.pointer (some ⟨2, 72, none⟩), .pointer (some ⟨w.heap.size, 0, none⟩), .int .u64 150] 76)).cell? ⟨w.heap.size, 0, none⟩ = some (.pointer (some ⟨tb, 0, none⟩)) := by rw [at_cell HV]; rfl
  have HO := Lib.hid (fun S => ((Out.refl S w).alloc (.cells #[.pointer (some ⟨tb, 0, none⟩)] 72)).alloc (.cells #[.pointer (some ⟨2, 72, none⟩), .pointer (some ⟨w.heap.size, 0, none⟩), .int .u64 150] 76))
  have hsz := Lib.hid (show ((w.alloc (.cells #[.pointer (some ⟨tb, 0, none⟩)] 72)).alloc (.cells #[.pointer (some ⟨2, 72, none⟩), .pointer (some ⟨w.heap.size, 0, none⟩), .int .u64 150] 76)).heap.size = w.heap.size + 1 + 1 by simp)
  have HBB := Lib.hid (((Below.refl w.heap.size w).alloc (Nat.le_refl _) (.cells #[.pointer (some ⟨tb, 0, none⟩)] 72)).alloc (by simp) (.cells #[.pointer (some ⟨2, 72, none⟩), .pointer (some ⟨w.heap.size, 0, none⟩), .int .u64 150] 76))
  have HVC := Lib.hid HVc
  clear hg HW HV ht HVc
  go_enter Tryd.func15, Tryd.ntmps15
  go_wp2_with (go_at_call 29; refine (as_miss c _ _ _ _ _).mono ?_; rintro e w' ⟨rfl, ho⟩; replace ho := Lib.hid ho)
  go_ret
  exact ⟨rfl, HBB.out.trans (ho.out.mono (by have := hsz.out; omega))⟩

end Go.Proofs.YtabpkpeonbdinaaDoor.Flt

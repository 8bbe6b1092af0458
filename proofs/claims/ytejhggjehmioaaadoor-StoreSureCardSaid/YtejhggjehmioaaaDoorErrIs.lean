/-
  Layer 9 (fault): errors.Is at a Kind, walked.
-/
import Derived.Test.YtejhggjehmioaaaDoorErrAs
namespace Go.Proofs.YtejhggjehmioaaaDoor.Flt
open Go.RowKit Go.Extern.Stop Go.Stop Go.Extern Go.Proofs.YtejhggjehmioaaaDoor.Own

set_option maxRecDepth 100000 in
set_option maxHeartbeats 4000000 in
/-- errors.is at a Kind -/
theorem is_kind (v : Value) (l : List Lay) (c a : Int) (N : Nat) (w : World) (h : Err w N v l c) :
    Calls Tryd.prog 56 #[v, .iface 62 (.int .i64 a), .bool true] w
      fun e w' => e = .returned (.bool (c == a)) ∧ w = w' := by
  have nF := noIs_F
  have nK := noIs_K
  have uK := noUnwrap_K
  have vK := noUnwraps_K
  have mU := methodUnwrap
  have hU := hasUnwrap_F
  have eF := eql_FK
  have eK := eql_KK
  obtain ⟨b, hb⟩ : ∃ b, (c == a) = b := ⟨_, rfl⟩
  rw [hb]
  have eK' : ∀ w, (binOp .eql 26 (.iface 62 (.int .i64 c)) (.iface 62 (.int .i64 a))).run Tryd.prog w = .ok (.bool b) w := fun w => by rw [← hb]; exact eK c a w
  clear eK hb
  have HE := Lib.hid h
  clear h
  go_enter Tryd.func56, Tryd.ntmps56
  go_wp2_with fail
  go_loop [0] (fun u => ∃ (M : Nat) (r : List Lay), Err w M u r c) (fun u => deep u)
  case atStart => exact ⟨N, l, HE.out⟩
  case round =>
    obtain ⟨M, r, he⟩ := hrel
    cases r with
    | nil =>
      obtain rfl : _ = Value.iface 62 (.int .i64 c) := he
      cases b
      · go_wp2_with fail
        go_ret
        exact ⟨rfl, rfl⟩
      · go_wp2_with fail
        go_ret
        exact ⟨rfl, rfl⟩
    | cons x r =>
      obtain ⟨rfl, hx, u, hb, he'⟩ := he
      obtain ⟨ut, uv, rfl⟩ := err_nil he'
      have HE' := Lib.hid he'
      have HB := Lib.hid hb
      clear he' hb
      go_wp2_with (go_at_call 114; refine (unwrap_calls _ _ _ _ _ HB.out).mono ?_; rintro e w' ⟨rfl, rfl⟩)
      go_round
      case rel => exact ⟨x.blk, r, HE'.out⟩
      case measure =>
        have := HE'.out
        cases r with
        | nil => rw [show Value.iface ut uv = _ from this]; simp [deep]
        | cons y s => rw [show Value.iface ut uv = _ from this.1]; have := this.2.1; simp [deep]; omega

set_option maxRecDepth 100000 in
set_option maxHeartbeats 4000000 in
/-- errors.Is at a Kind -/
theorem is_calls (v : Value) (l : List Lay) (c a : Int) (N : Nat) (w : World) (h : Err w N v l c) :
    Calls Tryd.prog 41 #[v, .iface 62 (.int .i64 a)] w
      fun e w' => e = .returned (.bool (c == a)) ∧ w = w' := by
  have h37 := @run_callFunc_extern Tryd.prog 55 _ ReflectliteType.typeOf Tryd.func55 (by kernel_rfl) (by kernel_rfl) (by kernel_rfl) (by kernel_rfl)
  have h72 := @run_callFunc_extern Tryd.prog 104 _ compE Tryd.func104 (by kernel_rfl) (by kernel_rfl) (by kernel_rfl) (by kernel_rfl)
  have tK := typeOf_K
  have cK := comparable_K
  have mC := methodComparable
  obtain ⟨ut, uv, rfl⟩ := err_nil h
  have HE := Lib.hid h
  clear h
  go_enter Tryd.func41, Tryd.ntmps41
  go_wp2_with (go_at_call 56; refine (is_kind _ l c a N _ HE.out).mono ?_; rintro e w' ⟨rfl, rfl⟩)
  go_ret
  exact ⟨rfl, rfl⟩
set_option maxHeartbeats 1000000 in
theorem isNil_calls (a : Int) (w : World) :
    Calls Tryd.prog 41 #[.nilIface, .iface 62 (.int .i64 a)] w fun e w' => e = .returned (.bool false) ∧ w = w' := by
  have hn := eql_nil
  go_enter Tryd.func41, Tryd.ntmps41
  go_wp2_with fail
  go_ret
  exact ⟨rfl, rfl⟩
end Go.Proofs.YtejhggjehmioaaaDoor.Flt

/-
  Layer 11 (store): the calls that write, where they tell what is told ahead of each. Written by gen_stoerr.py.
-/
import Derived.Test.YtejhggjehmioaaaDoorStoGet
namespace Go.Proofs.YtejhggjehmioaaaDoor.Sto
open Go.RowKit Go.Proofs.YtejhggjehmioaaaDoor.Own Go.Proofs.YtejhggjehmioaaaDoor.KM Go.Proofs.YtejhggjehmioaaaDoor.Flt
set_option maxRecDepth 100000 in
theorem app_none (a s : ByteArray) (w : World) : Calls Tryd.prog 11 #[.pointer none, .string a, .string s] w fun e w' => e = .returned (errv w) ∧ w' = w.alloc (fblk 14) := by
  go_enter Tryd.func11, Tryd.ntmps11
  go_wp2_with (go_at_call 29; refine (begin_none _ _).mono ?_; unfold errv; rintro e w' ⟨rfl, rfl⟩)
  go_ret
  exact ⟨rfl, rfl⟩
set_option maxRecDepth 100000 in
theorem app_arg (a s : ByteArray) {w : World} {b m : Nat} {most total bad : Int} (h : w.heap[b]? = some (.cells #[.map (some m), .int .i64 most, .int .i64 total, .int .i64 bad] 61 (0, 0))) (hn : isNm a.data.toList = false) : Calls Tryd.prog 11 #[.pointer (some ⟨b, 0, none⟩), .string a, .string s] w fun e w' => e = .returned (errv w) ∧ w' = w.alloc (fblk 1) := by
  have hB := Lib.hid (begin_arg a h hn)
  clear h
  go_enter Tryd.func11, Tryd.ntmps11
  go_wp2_with (go_at_call 29; refine (hB.out).mono ?_; unfold errv; rintro e w' ⟨rfl, rfl⟩)
  go_ret
  exact ⟨rfl, rfl⟩
set_option maxRecDepth 100000 in
theorem app_io (a s : ByteArray) {w : World} {b m : Nat} {most total bad : Int} (h : w.heap[b]? = some (.cells #[.map (some m), .int .i64 most, .int .i64 total, .int .i64 bad] 61 (0, 0))) (hn : isNm a.data.toList = true) (hb : 0 < bad) (hb2 : bad ≤ 9223372036854775807) : Calls Tryd.prog 11 #[.pointer (some ⟨b, 0, none⟩), .string a, .string s] w fun e w' => e = .returned (errv w) ∧ w' = (w.setCell ⟨b, 3, none⟩ (.int .i64 (bad - 1))).alloc (fblk 12) := by
  have hB := Lib.hid (begin_io a h hn hb hb2)
  clear h
  go_enter Tryd.func11, Tryd.ntmps11
  go_wp2_with (go_at_call 29; refine (hB.out).mono ?_; unfold errv; rintro e w' ⟨rfl, rfl⟩)
  go_ret
  exact ⟨rfl, rfl⟩
set_option maxRecDepth 100000 in
theorem syn_none (a : ByteArray) (w : World) : Calls Tryd.prog 20 #[.pointer none, .string a] w fun e w' => e = .returned (errv w) ∧ w' = w.alloc (fblk 14) := by
  go_enter Tryd.func20, Tryd.ntmps20
  go_wp2_with (go_at_call 29; refine (begin_none _ _).mono ?_; unfold errv; rintro e w' ⟨rfl, rfl⟩)
  go_ret
  exact ⟨rfl, rfl⟩
set_option maxRecDepth 100000 in
theorem syn_arg (a : ByteArray) {w : World} {b m : Nat} {most total bad : Int} (h : w.heap[b]? = some (.cells #[.map (some m), .int .i64 most, .int .i64 total, .int .i64 bad] 61 (0, 0))) (hn : isNm a.data.toList = false) : Calls Tryd.prog 20 #[.pointer (some ⟨b, 0, none⟩), .string a] w fun e w' => e = .returned (errv w) ∧ w' = w.alloc (fblk 1) := by
  have hB := Lib.hid (begin_arg a h hn)
  clear h
  go_enter Tryd.func20, Tryd.ntmps20
  go_wp2_with (go_at_call 29; refine (hB.out).mono ?_; unfold errv; rintro e w' ⟨rfl, rfl⟩)
  go_ret
  exact ⟨rfl, rfl⟩
set_option maxRecDepth 100000 in
theorem syn_io (a : ByteArray) {w : World} {b m : Nat} {most total bad : Int} (h : w.heap[b]? = some (.cells #[.map (some m), .int .i64 most, .int .i64 total, .int .i64 bad] 61 (0, 0))) (hn : isNm a.data.toList = true) (hb : 0 < bad) (hb2 : bad ≤ 9223372036854775807) : Calls Tryd.prog 20 #[.pointer (some ⟨b, 0, none⟩), .string a] w fun e w' => e = .returned (errv w) ∧ w' = (w.setCell ⟨b, 3, none⟩ (.int .i64 (bad - 1))).alloc (fblk 12) := by
  have hB := Lib.hid (begin_io a h hn hb hb2)
  clear h
  go_enter Tryd.func20, Tryd.ntmps20
  go_wp2_with (go_at_call 29; refine (hB.out).mono ?_; unfold errv; rintro e w' ⟨rfl, rfl⟩)
  go_ret
  exact ⟨rfl, rfl⟩
set_option maxRecDepth 100000 in
theorem ren_none (a s : ByteArray) (w : World) : Calls Tryd.prog 21 #[.pointer none, .string a, .string s] w fun e w' => e = .returned (errv w) ∧ w' = w.alloc (fblk 14) := by
  go_enter Tryd.func21, Tryd.ntmps21
  go_wp2_with (go_at_call 29; refine (begin_none _ _).mono ?_; unfold errv; rintro e w' ⟨rfl, rfl⟩)
  go_ret
  exact ⟨rfl, rfl⟩
set_option maxRecDepth 100000 in
theorem ren_arg (a s : ByteArray) {w : World} {b m : Nat} {most total bad : Int} (h : w.heap[b]? = some (.cells #[.map (some m), .int .i64 most, .int .i64 total, .int .i64 bad] 61 (0, 0))) (hn : isNm a.data.toList = false) : Calls Tryd.prog 21 #[.pointer (some ⟨b, 0, none⟩), .string a, .string s] w fun e w' => e = .returned (errv w) ∧ w' = w.alloc (fblk 1) := by
  have hB := Lib.hid (begin_arg a h hn)
  clear h
  go_enter Tryd.func21, Tryd.ntmps21
  go_wp2_with (go_at_call 29; refine (hB.out).mono ?_; unfold errv; rintro e w' ⟨rfl, rfl⟩)
  go_ret
  exact ⟨rfl, rfl⟩
set_option maxRecDepth 100000 in
theorem ren_io (a s : ByteArray) {w : World} {b m : Nat} {most total bad : Int} (h : w.heap[b]? = some (.cells #[.map (some m), .int .i64 most, .int .i64 total, .int .i64 bad] 61 (0, 0))) (hn : isNm a.data.toList = true) (hb : 0 < bad) (hb2 : bad ≤ 9223372036854775807) : Calls Tryd.prog 21 #[.pointer (some ⟨b, 0, none⟩), .string a, .string s] w fun e w' => e = .returned (errv w) ∧ w' = (w.setCell ⟨b, 3, none⟩ (.int .i64 (bad - 1))).alloc (fblk 12) := by
  have hB := Lib.hid (begin_io a h hn hb hb2)
  clear h
  go_enter Tryd.func21, Tryd.ntmps21
  go_wp2_with (go_at_call 29; refine (hB.out).mono ?_; unfold errv; rintro e w' ⟨rfl, rfl⟩)
  go_ret
  exact ⟨rfl, rfl⟩
set_option maxRecDepth 100000 in
theorem rem_none (a : ByteArray) (w : World) : Calls Tryd.prog 22 #[.pointer none, .string a] w fun e w' => e = .returned (errv w) ∧ w' = w.alloc (fblk 14) := by
  go_enter Tryd.func22, Tryd.ntmps22
  go_wp2_with (go_at_call 29; refine (begin_none _ _).mono ?_; unfold errv; rintro e w' ⟨rfl, rfl⟩)
  go_ret
  exact ⟨rfl, rfl⟩
set_option maxRecDepth 100000 in
theorem rem_arg (a : ByteArray) {w : World} {b m : Nat} {most total bad : Int} (h : w.heap[b]? = some (.cells #[.map (some m), .int .i64 most, .int .i64 total, .int .i64 bad] 61 (0, 0))) (hn : isNm a.data.toList = false) : Calls Tryd.prog 22 #[.pointer (some ⟨b, 0, none⟩), .string a] w fun e w' => e = .returned (errv w) ∧ w' = w.alloc (fblk 1) := by
  have hB := Lib.hid (begin_arg a h hn)
  clear h
  go_enter Tryd.func22, Tryd.ntmps22
  go_wp2_with (go_at_call 29; refine (hB.out).mono ?_; unfold errv; rintro e w' ⟨rfl, rfl⟩)
  go_ret
  exact ⟨rfl, rfl⟩
set_option maxRecDepth 100000 in
theorem rem_io (a : ByteArray) {w : World} {b m : Nat} {most total bad : Int} (h : w.heap[b]? = some (.cells #[.map (some m), .int .i64 most, .int .i64 total, .int .i64 bad] 61 (0, 0))) (hn : isNm a.data.toList = true) (hb : 0 < bad) (hb2 : bad ≤ 9223372036854775807) : Calls Tryd.prog 22 #[.pointer (some ⟨b, 0, none⟩), .string a] w fun e w' => e = .returned (errv w) ∧ w' = (w.setCell ⟨b, 3, none⟩ (.int .i64 (bad - 1))).alloc (fblk 12) := by
  have hB := Lib.hid (begin_io a h hn hb hb2)
  clear h
  go_enter Tryd.func22, Tryd.ntmps22
  go_wp2_with (go_at_call 29; refine (hB.out).mono ?_; unfold errv; rintro e w' ⟨rfl, rfl⟩)
  go_ret
  exact ⟨rfl, rfl⟩
end Go.Proofs.YtejhggjehmioaaaDoor.Sto

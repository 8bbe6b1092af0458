/-
  Layer 11 (store): the calls that write, where they tell what is told ahead of each. Written by gen_stoerr.py.
-/
import Derived.Test.YtememmgnhnldaaaDoorStoGet
namespace Go.Proofs.YtememmgnhnldaaaDoor.Sto
open Go.RowKit Go.Proofs.YtememmgnhnldaaaDoor.Own Go.Proofs.YtememmgnhnldaaaDoor.KM Go.Proofs.YtememmgnhnldaaaDoor.Flt
set_option maxRecDepth 100000 in
theorem app_none (a s : ByteArray) (w : World) : Calls Tryd.prog 15 #[.pointer none, .string a, .string s] w fun e w' => e = .returned (errv w) ∧ w' = w.alloc (fblk 14) := by
  go_enter Tryd.func15, Tryd.ntmps15
  go_wp2_with (go_at_call 31; refine (begin_none _ _).mono ?_; unfold errv; rintro e w' ⟨rfl, rfl⟩)
  go_ret
  exact ⟨rfl, rfl⟩
set_option maxRecDepth 100000 in
theorem app_arg (a s : ByteArray) {w : World} {b m : Nat} {most total bad : Int} (h : w.heap[b]? = some (.cells #[.map (some m), .int .i64 most, .int .i64 total, .int .i64 bad] 61 (0, 0))) (hn : isNm a.data.toList = false) : Calls Tryd.prog 15 #[.pointer (some ⟨b, 0, none⟩), .string a, .string s] w fun e w' => e = .returned (errv w) ∧ w' = w.alloc (fblk 1) := by
  have hB := Lib.hid (begin_arg a h hn)
  clear h
  go_enter Tryd.func15, Tryd.ntmps15
  go_wp2_with (go_at_call 31; refine (hB.out).mono ?_; unfold errv; rintro e w' ⟨rfl, rfl⟩)
  go_ret
  exact ⟨rfl, rfl⟩
set_option maxRecDepth 100000 in
theorem app_io (a s : ByteArray) {w : World} {b m : Nat} {most total bad : Int} (h : w.heap[b]? = some (.cells #[.map (some m), .int .i64 most, .int .i64 total, .int .i64 bad] 61 (0, 0))) (hn : isNm a.data.toList = true) (hb : 0 < bad) (hb2 : bad ≤ 9223372036854775807) : Calls Tryd.prog 15 #[.pointer (some ⟨b, 0, none⟩), .string a, .string s] w fun e w' => e = .returned (errv w) ∧ w' = (w.setCell ⟨b, 3, none⟩ (.int .i64 (bad - 1))).alloc (fblk 12) := by
  have hB := Lib.hid (begin_io a h hn hb hb2)
  clear h
  go_enter Tryd.func15, Tryd.ntmps15
  go_wp2_with (go_at_call 31; refine (hB.out).mono ?_; unfold errv; rintro e w' ⟨rfl, rfl⟩)
  go_ret
  exact ⟨rfl, rfl⟩
set_option maxRecDepth 100000 in
theorem syn_none (a : ByteArray) (w : World) : Calls Tryd.prog 17 #[.pointer none, .string a] w fun e w' => e = .returned (errv w) ∧ w' = w.alloc (fblk 14) := by
  go_enter Tryd.func17, Tryd.ntmps17
  go_wp2_with (go_at_call 31; refine (begin_none _ _).mono ?_; unfold errv; rintro e w' ⟨rfl, rfl⟩)
  go_ret
  exact ⟨rfl, rfl⟩
set_option maxRecDepth 100000 in
theorem syn_arg (a : ByteArray) {w : World} {b m : Nat} {most total bad : Int} (h : w.heap[b]? = some (.cells #[.map (some m), .int .i64 most, .int .i64 total, .int .i64 bad] 61 (0, 0))) (hn : isNm a.data.toList = false) : Calls Tryd.prog 17 #[.pointer (some ⟨b, 0, none⟩), .string a] w fun e w' => e = .returned (errv w) ∧ w' = w.alloc (fblk 1) := by
  have hB := Lib.hid (begin_arg a h hn)
  clear h
  go_enter Tryd.func17, Tryd.ntmps17
  go_wp2_with (go_at_call 31; refine (hB.out).mono ?_; unfold errv; rintro e w' ⟨rfl, rfl⟩)
  go_ret
  exact ⟨rfl, rfl⟩
set_option maxRecDepth 100000 in
theorem syn_io (a : ByteArray) {w : World} {b m : Nat} {most total bad : Int} (h : w.heap[b]? = some (.cells #[.map (some m), .int .i64 most, .int .i64 total, .int .i64 bad] 61 (0, 0))) (hn : isNm a.data.toList = true) (hb : 0 < bad) (hb2 : bad ≤ 9223372036854775807) : Calls Tryd.prog 17 #[.pointer (some ⟨b, 0, none⟩), .string a] w fun e w' => e = .returned (errv w) ∧ w' = (w.setCell ⟨b, 3, none⟩ (.int .i64 (bad - 1))).alloc (fblk 12) := by
  have hB := Lib.hid (begin_io a h hn hb hb2)
  clear h
  go_enter Tryd.func17, Tryd.ntmps17
  go_wp2_with (go_at_call 31; refine (hB.out).mono ?_; unfold errv; rintro e w' ⟨rfl, rfl⟩)
  go_ret
  exact ⟨rfl, rfl⟩
set_option maxRecDepth 100000 in
theorem ren_none (a s : ByteArray) (w : World) : Calls Tryd.prog 26 #[.pointer none, .string a, .string s] w fun e w' => e = .returned (errv w) ∧ w' = w.alloc (fblk 14) := by
  go_enter Tryd.func26, Tryd.ntmps26
  go_wp2_with (go_at_call 31; refine (begin_none _ _).mono ?_; unfold errv; rintro e w' ⟨rfl, rfl⟩)
  go_ret
  exact ⟨rfl, rfl⟩
set_option maxRecDepth 100000 in
theorem ren_arg (a s : ByteArray) {w : World} {b m : Nat} {most total bad : Int} (h : w.heap[b]? = some (.cells #[.map (some m), .int .i64 most, .int .i64 total, .int .i64 bad] 61 (0, 0))) (hn : isNm a.data.toList = false) : Calls Tryd.prog 26 #[.pointer (some ⟨b, 0, none⟩), .string a, .string s] w fun e w' => e = .returned (errv w) ∧ w' = w.alloc (fblk 1) := by
  have hB := Lib.hid (begin_arg a h hn)
  clear h
  go_enter Tryd.func26, Tryd.ntmps26
  go_wp2_with (go_at_call 31; refine (hB.out).mono ?_; unfold errv; rintro e w' ⟨rfl, rfl⟩)
  go_ret
  exact ⟨rfl, rfl⟩
set_option maxRecDepth 100000 in
theorem ren_io (a s : ByteArray) {w : World} {b m : Nat} {most total bad : Int} (h : w.heap[b]? = some (.cells #[.map (some m), .int .i64 most, .int .i64 total, .int .i64 bad] 61 (0, 0))) (hn : isNm a.data.toList = true) (hb : 0 < bad) (hb2 : bad ≤ 9223372036854775807) : Calls Tryd.prog 26 #[.pointer (some ⟨b, 0, none⟩), .string a, .string s] w fun e w' => e = .returned (errv w) ∧ w' = (w.setCell ⟨b, 3, none⟩ (.int .i64 (bad - 1))).alloc (fblk 12) := by
  have hB := Lib.hid (begin_io a h hn hb hb2)
  clear h
  go_enter Tryd.func26, Tryd.ntmps26
  go_wp2_with (go_at_call 31; refine (hB.out).mono ?_; unfold errv; rintro e w' ⟨rfl, rfl⟩)
  go_ret
  exact ⟨rfl, rfl⟩
set_option maxRecDepth 100000 in
theorem rem_none (a : ByteArray) (w : World) : Calls Tryd.prog 25 #[.pointer none, .string a] w fun e w' => e = .returned (errv w) ∧ w' = w.alloc (fblk 14) := by
  go_enter Tryd.func25, Tryd.ntmps25
  go_wp2_with (go_at_call 31; refine (begin_none _ _).mono ?_; unfold errv; rintro e w' ⟨rfl, rfl⟩)
  go_ret
  exact ⟨rfl, rfl⟩
set_option maxRecDepth 100000 in
theorem rem_arg (a : ByteArray) {w : World} {b m : Nat} {most total bad : Int} (h : w.heap[b]? = some (.cells #[.map (some m), .int .i64 most, .int .i64 total, .int .i64 bad] 61 (0, 0))) (hn : isNm a.data.toList = false) : Calls Tryd.prog 25 #[.pointer (some ⟨b, 0, none⟩), .string a] w fun e w' => e = .returned (errv w) ∧ w' = w.alloc (fblk 1) := by
  have hB := Lib.hid (begin_arg a h hn)
  clear h
  go_enter Tryd.func25, Tryd.ntmps25
  go_wp2_with (go_at_call 31; refine (hB.out).mono ?_; unfold errv; rintro e w' ⟨rfl, rfl⟩)
  go_ret
  exact ⟨rfl, rfl⟩
set_option maxRecDepth 100000 in
theorem rem_io (a : ByteArray) {w : World} {b m : Nat} {most total bad : Int} (h : w.heap[b]? = some (.cells #[.map (some m), .int .i64 most, .int .i64 total, .int .i64 bad] 61 (0, 0))) (hn : isNm a.data.toList = true) (hb : 0 < bad) (hb2 : bad ≤ 9223372036854775807) : Calls Tryd.prog 25 #[.pointer (some ⟨b, 0, none⟩), .string a] w fun e w' => e = .returned (errv w) ∧ w' = (w.setCell ⟨b, 3, none⟩ (.int .i64 (bad - 1))).alloc (fblk 12) := by
  have hB := Lib.hid (begin_io a h hn hb hb2)
  clear h
  go_enter Tryd.func25, Tryd.ntmps25
  go_wp2_with (go_at_call 31; refine (hB.out).mono ?_; unfold errv; rintro e w' ⟨rfl, rfl⟩)
  go_ret
  exact ⟨rfl, rfl⟩
end Go.Proofs.YtememmgnhnldaaaDoor.Sto

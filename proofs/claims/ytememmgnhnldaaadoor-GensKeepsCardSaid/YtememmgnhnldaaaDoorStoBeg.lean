/-
  Layer 11 (store): names, errors, and what comes ahead of each call that writes.
-/
import Derived.Test.YtememmgnhnldaaaDoorStoMem
import Derived.Test.YtememmgnhnldaaaDoorErrOf
import Derived.Deep.QuietTactic
import Derived.BigQuiet
namespace Go.Proofs.YtememmgnhnldaaaDoor.Sto
open Go.RowKit Go.Proofs.YtememmgnhnldaaaDoor.Own Go.Proofs.YtememmgnhnldaaaDoor.KM Go.Proofs.YtememmgnhnldaaaDoor.Flt

theorem size_list (s : ByteArray) : s.data.toList.length = s.size := rfl
theorem sized_eq (s : ByteArray) : sized s.data.toList = decide (1 ≤ s.size ∧ s.size ≤ 64) := rfl
theorem ne_empty {s : ByteArray} (h : 1 ≤ s.size) : s.toList.isEmpty = false := by
  rw [ByteArray.toList_eq, List.isEmpty_eq_false_iff]
  intro h0
  have := congrArg List.length h0
  rw [size_list, List.length_nil] at this
  omega
theorem all_next (s : ByteArray) (k : Nat) (h : k < s.size) : allc (s.data.toList.take (k + 1)) = (allc (s.data.toList.take k) && nmc s[k].toNat) := by
  have e : s.data.toList.take (k + 1) = s.data.toList.take k ++ [s[k]] := by
    rw [List.take_add_one, List.getElem?_eq_getElem (by rw [size_list]; exact h)]; rfl
  rw [e, allc_snoc]
theorem all_full {s : ByteArray} {k : Nat} (h : ¬ k < s.size) : s.data.toList.take k = s.data.toList := List.take_of_length_le (by rw [size_list]; omega)
theorem all_no {l : Bs} {k : Nat} (h : allc (l.take k) = false) : allc l = false := by
  cases hc : allc l with
  | false => rfl
  | true =>
    rw [allc, List.all_eq_true] at hc
    have : allc (l.take k) = true := by rw [allc, List.all_eq_true]; exact fun c hcm => hc c (List.mem_of_mem_take hcm)
    rw [h] at this; cases this

set_option maxRecDepth 100000 in
set_option maxHeartbeats 1000000 in
theorem named_calls (s : ByteArray) (w : World) : Calls Tryd.prog 38 #[.string s] w fun e w' => e = .returned (.bool (isNm s.data.toList)) ∧ w = w' := by
  rcases (show s.size = 0 ∨ (1 ≤ s.size ∧ s.size ≤ 64) ∨ (1 ≤ s.size ∧ ¬ s.size ≤ 64) by omega) with h | ⟨h, h2⟩ | ⟨h, h2⟩
  · have H : Hid (isNm s.data.toList = false) := Lib.hid (by rw [isNm, sized_eq, decide_eq_false (by omega)]; rfl)
    have he : s = ByteArray.empty := ByteArray.size_eq_zero_iff.1 h
    subst he
    go_enter Tryd.func38, Tryd.ntmps38
    go_wp2
    go_ret
    exact ⟨by rw [H.out]; rfl, rfl⟩
  · have H : Hid (isNm s.data.toList = allc s.data.toList) := Lib.hid (by rw [isNm, sized_eq, decide_eq_true ⟨h, h2⟩, Bool.true_and])
    have hne := ne_empty h
    have b1 : decide ((s.size : Int) ≤ 64) = true := decide_eq_true (by omega)
    go_enter Tryd.func38, Tryd.ntmps38
    go_wp2
    go_loop [3, 13] (fun _ i => ∃ k : Nat, k ≤ s.size ∧ i = .int .i64 k ∧ allc (s.data.toList.take k) = true) (fun _ i => s.size - (intOf i).toNat)
    case atStart => exact ⟨0, Nat.zero_le _, rfl, rfl⟩
    case round =>
      obtain ⟨k, hk, rfl, hp⟩ := hrel
      by_cases hlt : k < s.size
      · have HN := Lib.hid (all_next s k hlt)
        have HP := Lib.hid hp; clear hp
        obtain ⟨c, hc⟩ : ∃ c : UInt8, s[k] = c := ⟨_, rfl⟩
        rw [hc] at HN
        rcases (show (c.toNat < 33) ∨ (33 ≤ c.toNat ∧ 126 < c.toNat) ∨ (33 ≤ c.toNat ∧ c.toNat ≤ 126 ∧ c.toNat = 47) ∨ (33 ≤ c.toNat ∧ c.toNat ≤ 126 ∧ c.toNat ≠ 47) by omega) with q | ⟨q, q2⟩ | ⟨q, q2, q3⟩ | ⟨q, q2, q3⟩
        · have HF : Hid (allc s.data.toList = false) := Lib.hid (all_no (k := k + 1) (by rw [HN.out, nmc, decide_eq_false (by omega : ¬ 33 ≤ c.toNat)]; simp))
          go_wp2_with fail
          go_ret
          exact ⟨by rw [H.out, HF.out]; rfl, rfl⟩
        · have HF : Hid (allc s.data.toList = false) := Lib.hid (all_no (k := k + 1) (by rw [HN.out, nmc, decide_eq_false (by omega : ¬ c.toNat ≤ 126)]; simp))
          go_wp2_with fail
          go_ret
          exact ⟨by rw [H.out, HF.out]; rfl, rfl⟩
        · have HF : Hid (allc s.data.toList = false) := Lib.hid (all_no (k := k + 1) (by rw [HN.out, nmc, q3]; simp))
          go_wp2_with fail
          go_ret
          exact ⟨by rw [H.out, HF.out]; rfl, rfl⟩
        · have q4 : (c.toNat != 47) = true := by simpa using q3
          have q5 : ((c.toNat : Int) == 47) = false := by simp; omega
          have HF : Hid (allc (s.data.toList.take (k + 1)) = true) := Lib.hid (by rw [HN.out, HP.out, nmc, decide_eq_true q, decide_eq_true q2, q4]; rfl)
          go_wp2_with fail
          go_round
          case rel => exact ⟨k + 1, by omega, by go_num, HF.out⟩
          case measure => simp [intOf]; omega
      · rw [all_full hlt] at hp
        have HP := Lib.hid hp; clear hp
        go_wp2_with fail
        go_ret
        exact ⟨by rw [H.out, HP.out]; rfl, rfl⟩
  · have H : Hid (isNm s.data.toList = false) := Lib.hid (by rw [isNm, sized_eq, decide_eq_false (by omega)]; rfl)
    have hne := ne_empty h
    have b1 : decide ((s.size : Int) ≤ 64) = false := decide_eq_false (by omega)
    go_enter Tryd.func38, Tryd.ntmps38
    go_wp2
    go_ret
    exact ⟨by rw [H.out]; rfl, rfl⟩

set_option maxRecDepth 100000 in
theorem wrong_calls (c : Int) (hc : c ≠ 0) (w : World) : Calls Tryd.prog 30 #[.int .i64 c] w fun e w' => e = .returned (.iface 110 (.pointer (some ⟨w.heap.size, 0, none⟩))) ∧ w' = w.alloc (fblk c) := by
  go_enter Tryd.func30, Tryd.ntmps30
  go_wp2_with (go_at_call 42; refine (new_some c 0 ⟨#[]⟩ hc _).mono ?_; rintro e w' ⟨rfl, rfl⟩)
  go_ret
  exact ⟨rfl, rfl⟩

set_option maxRecDepth 100000 in
theorem made_none (w : World) : Calls Tryd.prog 22 #[.pointer none] w fun e w' => e = .returned (.bool false) ∧ w = w' := by
  go_enter Tryd.func22, Tryd.ntmps22
  go_wp2_with fail
  go_ret
  exact ⟨rfl, rfl⟩
theorem map_there (m : Nat) (w : World) : (binOp .neq 59 (.map (some m)) (.map none)).run Tryd.prog w = .ok (.bool true) w := by kernel_rfl
set_option maxRecDepth 100000 in
theorem made_some (b m : Nat) (w : World) (h : w.cell? ⟨b, 0, none⟩ = some (.map (some m))) : Calls Tryd.prog 22 #[.pointer (some ⟨b, 0, none⟩)] w fun e w' => e = .returned (.bool true) ∧ w = w' := by
  have hm := map_there m
  go_enter Tryd.func22, Tryd.ntmps22
  go_wp2_with fail
  go_ret
  exact ⟨rfl, rfl⟩

/-- the error's value -/
def errv (w : World) : Value := .iface 110 (.pointer (some ⟨w.heap.size, 0, none⟩))
set_option maxRecDepth 100000 in
theorem begin_none (x : Value) (w : World) : Calls Tryd.prog 31 #[.pointer none, x] w fun e w' => e = .returned (errv w) ∧ w' = w.alloc (fblk 14) := by
  go_enter Tryd.func31, Tryd.ntmps31
  go_wp2_with (first
    | (go_at_call 22; refine (made_none _).mono ?_; rintro e w' ⟨rfl, rfl⟩)
    | (go_at_call 30; refine (wrong_calls 14 (by decide) _).mono ?_; rintro e w' ⟨rfl, rfl⟩))
  go_ret
  exact ⟨rfl, rfl⟩
section
variable {w : World} {b m : Nat} {most total bad : Int} (s : ByteArray) (h : w.heap[b]? = some (.cells #[.map (some m), .int .i64 most, .int .i64 total, .int .i64 bad] 61 (0, 0)))
include h
set_option maxRecDepth 100000 in
theorem begin_arg (hn : isNm s.data.toList = false) :
    Calls Tryd.prog 31 #[.pointer (some ⟨b, 0, none⟩), .string s] w fun e w' => e = .returned (errv w) ∧ w' = w.alloc (fblk 1) := by
  have h0 := (at_cell h 0 : _ = some _)
  clear h
  go_enter Tryd.func31, Tryd.ntmps31
  go_wp2_with (first
    | (go_at_call 22; refine (made_some _ _ _ h0).mono ?_; rintro e w' ⟨rfl, rfl⟩)
    | (go_at_call 38; refine (named_calls _ _).mono ?_; rw [hn]; rintro e w' ⟨rfl, rfl⟩)
    | (go_at_call 30; refine (wrong_calls 1 (by decide) _).mono ?_; rintro e w' ⟨rfl, rfl⟩))
  go_ret
  exact ⟨rfl, rfl⟩
set_option maxRecDepth 100000 in
theorem begin_io (hn : isNm s.data.toList = true) (hb : 0 < bad) (hb2 : bad ≤ 9223372036854775807) :
    Calls Tryd.prog 31 #[.pointer (some ⟨b, 0, none⟩), .string s] w fun e w' => e = .returned (errv w) ∧ w' = (w.setCell ⟨b, 3, none⟩ (.int .i64 (bad - 1))).alloc (fblk 12) := by
  have h0 := (at_cell h 0 : _ = some _)
  have h3 := (at_cell h 3 : _ = some _)
  have f3 := at_frozen h 3
  clear h
  go_enter Tryd.func31, Tryd.ntmps31
  go_wp2_with (first
    | (go_at_call 22; refine (made_some _ _ _ h0).mono ?_; rintro e w' ⟨rfl, rfl⟩)
    | (go_at_call 38; refine (named_calls _ _).mono ?_; rw [hn]; rintro e w' ⟨rfl, rfl⟩)
    | (go_at_call 30; refine (wrong_calls 12 (by decide) _).mono ?_; rintro e w' ⟨rfl, rfl⟩))
  go_ret
  exact ⟨by simp [errv], rfl⟩
set_option maxRecDepth 100000 in
theorem begin_ok (hn : isNm s.data.toList = true) (hb : ¬ 0 < bad) :
    Calls Tryd.prog 31 #[.pointer (some ⟨b, 0, none⟩), .string s] w fun e w' => e = .returned .nilIface ∧ w = w' := by
  have h0 := (at_cell h 0 : _ = some _)
  have h3 := (at_cell h 3 : _ = some _)
  clear h
  go_enter Tryd.func31, Tryd.ntmps31
  go_wp2_with (first
    | (go_at_call 22; refine (made_some _ _ _ h0).mono ?_; rintro e w' ⟨rfl, rfl⟩)
    | (go_at_call 38; refine (named_calls _ _).mono ?_; rw [hn]; rintro e w' ⟨rfl, rfl⟩))
  go_ret
  exact ⟨rfl, rfl⟩
end
end Go.Proofs.YtememmgnhnldaaaDoor.Sto

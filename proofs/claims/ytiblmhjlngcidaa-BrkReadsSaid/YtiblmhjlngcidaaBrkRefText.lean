/-
  Layer 14 (brk): the document's own text of a step, walked.
-/
import Derived.Test.YtiblmhjlngcidaaBrkRefOne
namespace Go.Proofs.Ytiblmhjlngcidaa.Brk
open Go.RowKit Go.Proofs.Ytiblmhjlngcidaa.Digit Go.Proofs.Ytiblmhjlngcidaa.Own

def TPost (x : Op) (w : World) (e : Ending) (w' : World) : Prop :=
  ((Ok x ∧ ∃ t : List UInt8, e = .returned (.tuple #[.string ⟨t.toArray⟩, .bool true]) ∧ Near (tx x) t ∧ t.length ≤ 4 * x.s.length + 300) ∨ (¬ Ok x ∧ e = .returned (.tuple #[.string ⟨#[]⟩, .bool false]))) ∧ Below w.heap.size w w'

set_option maxRecDepth 100000 in
set_option maxHeartbeats 2000000 in
theorem rtext_send (s : List UInt8) (h0 : s ≠ []) (hs : s.length ≤ 100000) (w : World) :
    Calls Try.prog 24 #[.agg #[.int .i64 1, .string ⟨s.toArray⟩, .int .i64 0]] w (TPost ⟨1, s, 0⟩ w) := by
  have b0 : s.isEmpty = false := by simpa using h0
  have HS := Lib.hid (rshow_calls ⟨s.toArray⟩ (by show s.toArray.size ≤ _; rw [List.size_toArray]; exact hs))
  rw [show (⟨s.toArray⟩ : ByteArray).data.toList = s from rfl] at HS
  have HO := Lib.hid (show Ok ⟨1, s, 0⟩ from .inl ⟨rfl, h0, rfl⟩)
  have HB := Lib.hid ((Below.refl w.heap.size w).alloc (Nat.le_refl _) (.cells #[.int .i64 1, .string ⟨s.toArray⟩, .int .i64 0] 32 (0, 0)))
  clear h0
  go_enter Try.func24, Try.ntmps24
  go_wp2_with (go_at_call 29; refine (HS.out _).mono ?_; rintro e w5 ⟨rfl, hb5⟩)
  go_ret2
  exact ⟨.inl ⟨HO.out, shw s, rfl, .inl rfl, by have := shw_len s; show _ ≤ 4 * s.length + 300; omega⟩, HB.out.trans (hb5.mono (by simp))⟩
set_option maxRecDepth 100000 in
set_option maxHeartbeats 2000000 in
theorem rtext_pulse (w : World) :
    Calls Try.prog 24 #[.agg #[.int .i64 3, .string ⟨#[]⟩, .int .i64 0]] w (TPost ⟨3, [], 0⟩ w) := by
  go_enter Try.func24, Try.ntmps24
  go_wp2_with fail
  go_ret2
  exact ⟨.inl ⟨.inr (.inr ⟨rfl, rfl, rfl⟩), [92, 122], rfl, .inl rfl, by simp⟩, (Below.refl _ _).alloc (Nat.le_refl _) _⟩
theorem wait_part (i k : Nat) (hk : 1 ≤ k) : wtx (99 * i + k) = reps i ++ wtx k := wtx_reps i k hk
set_option maxRecDepth 100000 in
set_option maxHeartbeats 2000000 in
theorem rtext_wait (N : Nat) (h1 : 1 ≤ N) (hN : (N : Int) ≤ 9223372036854775807) (w : World) :
    Calls Try.prog 24 #[.agg #[.int .i64 2, .string ⟨#[]⟩, .int .i64 N]] w (TPost ⟨2, [], N⟩ w) := by
  have HO := Lib.hid (show Ok ⟨2, [], N⟩ from .inr (.inl ⟨rfl, rfl, by show (1 : Int) ≤ (N : Int); omega⟩))
  have HT := Lib.hid (show tx ⟨2, [], N⟩ = wtx N by show wtx (N : Int).toNat = _; rw [Int.toNat_natCast])
  have q1 : ¬ (N : Int) < 1 := by omega
  obtain ⟨w1, hw1⟩ : ∃ w1, w1 = w.alloc (.cells #[.int .i64 2, .string ⟨#[]⟩, .int .i64 N] 32 (0, 0)) := ⟨_, rfl⟩
  have HB := Lib.hid (show Below w.heap.size w w1 by rw [hw1]; exact (Below.refl _ _).alloc (Nat.le_refl _) _)
  go_enter Try.func24, Try.ntmps24
  go_wp2_with fail
  rw [← hw1]
  clear hw1
  go_loopw [4, 5] (fun sv nv wr => ∃ i k : Nat, sv = .string ⟨(reps i).toArray⟩ ∧ nv = .int .i64 k ∧ Hid (N = 99 * i + k) ∧ 1 ≤ k ∧ k ≤ N ∧ i ≤ 64 ∧ wr = w1) (fun _ nv _ => (intOf nv).toNat)
  case atStart => exact ⟨0, N, rfl, rfl, Lib.hid (by omega), h1, Nat.le_refl _, by omega, rfl⟩
  case round =>
    obtain ⟨i, k, rfl, rfl, HK, hk, hkN, hi, rfl⟩ := hrel
    have hl : (reps i).length = 4 * i := reps_len i
    have kN : (k : Int) ≤ 9223372036854775807 := by omega
    by_cases h9 : k ≤ 99
    · have q2 : ¬ (99 : Int) < (k : Int) := by omega
      have HW := Lib.hid (show wtx N = reps i ++ wsg k by rw [HK.out, wait_part i k hk, wtx_le h9])
      by_cases hk1 : k = 1
      · subst hk1
        go_wp2_with fail
        go_ret2
        exact ⟨.inl ⟨HO.out, reps i ++ [92, 100], by rw [← bytes_add]; rfl, .inl (by rw [HT.out, HW.out]; rfl), by rw [List.length_append, hl]; simp; omega⟩, HB.out⟩
      · have b1 : ((k : Int) == 1) = false := by simp; omega
        have HP := Lib.hid (rpad_two k h9)
        have hlw : (two k).length = 2 := rfl
        have HS := Lib.hid (show wsg k = [92, 119] ++ two k from if_neg hk1)
        go_wp2_with (go_at_call 27; refine (HP.out _).mono ?_; rintro e w5 ⟨rfl, hw⟩; obtain rfl := hw)
        go_ret2
        exact ⟨.inl ⟨HO.out, reps i ++ [92, 119] ++ two k, by rw [← bytes_add, ← bytes_add]; rfl, .inl (by rw [HT.out, HW.out, HS.out, List.append_assoc]), by rw [List.length_append, List.length_append, hl, hlw]; simp; omega⟩, HB.out⟩
    · have q2 : (99 : Int) < (k : Int) := by omega
      by_cases hi4 : i = 64
      · subst hi4
        have HL := Lib.hid (show 255 < (wtx N).length from wtx_long (by have := HK.out; omega))
        have b1 : ((k : Int) == 1) = false := by simp; omega
        have HP := Lib.hid (rpad_calls k 2 (by omega) kN)
        rw [pad_long (by omega)] at HP
        have hd := dec_len (n := (k : Int)) (by omega) kN
        have q3 : ¬ ((4 * 64 : Nat) : Int) ≤ 255 := by omega
        go_wp2_with (go_at_call 27; refine (HP.out _).mono ?_; rintro e w5 ⟨rfl, hw⟩; obtain rfl := hw)
        go_ret2
        exact ⟨.inl ⟨HO.out, reps 64 ++ [92, 119] ++ dec k, by rw [← bytes_add, ← bytes_add]; rfl, .inr ⟨by rw [HT.out]; exact HL.out, by rw [List.length_append, List.length_append, hl]; omega⟩, by rw [List.length_append, List.length_append, hl]; simp; omega⟩, HB.out⟩
      · have q3 : ((4 * i : Nat) : Int) ≤ 255 := by omega
        have HR := Lib.hid (reps_snoc i)
        go_wp2_with fail
        go_roundw
        case rel => exact ⟨i + 1, k - 99, by rw [HR.out, ← bytes_add]; rfl, by go_num, Lib.hid (by have := HK.out; omega), by omega, by omega, by omega, trivial⟩
        case measure => simp [intOf]; omega
theorem bool_of {a b : Int} : (a == b) = true ∧ a = b ∨ (a == b) = false ∧ ¬ a = b := by
  by_cases h : a = b
  · exact .inl ⟨by simpa using h, h⟩
  · exact .inr ⟨by simpa using h, h⟩
set_option maxRecDepth 100000 in
set_option maxHeartbeats 4000000 in
theorem rtext_bad (k : Int) (s : List UInt8) (n : Int) (hno : ¬ Ok ⟨k, s, n⟩) (w : World) :
    Calls Try.prog 24 #[.agg #[.int .i64 k, .string ⟨s.toArray⟩, .int .i64 n]] w (TPost ⟨k, s, n⟩ w) := by
  have HO := Lib.hid hno
  have HB := Lib.hid ((Below.refl w.heap.size w).alloc (Nat.le_refl _) (.cells #[.int .i64 k, .string ⟨s.toArray⟩, .int .i64 n] 32 (0, 0)))
  have hs : s.isEmpty = true ∧ s = [] ∨ s.isEmpty = false ∧ ¬ s = [] := by cases s <;> simp
  have ways : (∃ b, (k == 1) = true ∧ (k == 3) = false ∧ (k == 2) = false ∧ (k != 2) = true ∧ (n == 0) = b ∧ (b = false ∨ s.isEmpty = true)) ∨
      (∃ b, (k == 1) = false ∧ (k == 3) = true ∧ (k == 2) = false ∧ (k != 2) = true ∧ (n == 0) = b ∧ (b = false ∨ s.isEmpty = false)) ∨
      ((k == 1) = false ∧ (k == 3) = false ∧ (k == 2) = true ∧ (k != 2) = false ∧ (n < 1 ∨ (¬ n < 1 ∧ s.isEmpty = false))) ∨
      ((k == 1) = false ∧ (k == 3) = false ∧ (k == 2) = false ∧ (k != 2) = true) := by
    by_cases k1 : k = 1
    · subst k1
      refine .inl ⟨(n == 0), rfl, rfl, rfl, rfl, rfl, ?_⟩
      by_cases h0 : n = 0
      · refine .inr ?_
        rcases hs with ⟨h, _⟩ | ⟨_, h⟩
        · exact h
        · exact absurd (.inl ⟨rfl, h, h0⟩) hno
      · exact .inl (by simpa using h0)
    by_cases k3 : k = 3
    · subst k3
      refine .inr (.inl ⟨(n == 0), rfl, rfl, rfl, rfl, rfl, ?_⟩)
      by_cases h0 : n = 0
      · refine .inr ?_
        rcases hs with ⟨_, h⟩ | ⟨h, _⟩
        · exact absurd (.inr (.inr ⟨rfl, h, h0⟩)) hno
        · exact h
      · exact .inl (by simpa using h0)
    by_cases k2 : k = 2
    · subst k2
      refine .inr (.inr (.inl ⟨rfl, rfl, rfl, rfl, ?_⟩))
      by_cases h0 : n < 1
      · exact .inl h0
      · refine .inr ⟨h0, ?_⟩
        rcases hs with ⟨_, h⟩ | ⟨h, _⟩
        · exact absurd (.inr (.inl ⟨rfl, h, by show 1 ≤ n; omega⟩)) hno
        · exact h
    · exact .inr (.inr (.inr ⟨by simpa using k1, by simpa using k3, by simpa using k2, by simpa using k2⟩))
  clear hs hno
  rcases ways with ⟨b, b1, b3, b2, b2', bn, rfl | he⟩ | ⟨b, b1, b3, b2, b2', bn, rfl | he⟩ | ⟨b1, b3, b2, b2', h | ⟨h, he⟩⟩ | ⟨b1, b3, b2, b2'⟩
  case inl.inr => 
    cases b
    all_goals
      go_enter Try.func24, Try.ntmps24
      go_wp2_with fail
      go_ret2
      exact ⟨.inr ⟨HO.out, rfl⟩, HB.out⟩
  case inr.inl.inr => 
    cases b
    all_goals
      go_enter Try.func24, Try.ntmps24
      go_wp2_with fail
      go_ret2
      exact ⟨.inr ⟨HO.out, rfl⟩, HB.out⟩
  all_goals
    go_enter Try.func24, Try.ntmps24
    go_wp2_with fail
    go_ret2
    exact ⟨.inr ⟨HO.out, rfl⟩, HB.out⟩
theorem rtext_calls (x : Op) (hs : x.s.length ≤ 100000) (hn : x.n ≤ 9223372036854775807) (w : World) :
    Calls Try.prog 24 #[.agg #[.int .i64 x.k, .string ⟨x.s.toArray⟩, .int .i64 x.n]] w (TPost x w) := by
  obtain ⟨k, s, n⟩ := x
  by_cases h : Ok ⟨k, s, n⟩
  · rcases h with ⟨a, b, c⟩ | ⟨a, b, c⟩ | ⟨a, b, c⟩
    · simp only at a b c
      subst a c
      exact rtext_send s b hs w
    · simp only at a b c hn
      subst a b
      obtain ⟨N, rfl⟩ : ∃ N : Nat, n = N := ⟨n.toNat, by omega⟩
      exact rtext_wait N (by omega) hn w
    · simp only at a b c
      subst a b c
      exact rtext_pulse w
  · exact rtext_bad k s n h w
end Go.Proofs.Ytiblmhjlngcidaa.Brk

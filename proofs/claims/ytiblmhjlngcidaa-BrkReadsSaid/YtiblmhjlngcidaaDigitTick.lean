/-
  Layer 2 (digit): the program's Read, walked.
-/
import Derived.Test.YtiblmhjlngcidaaNumP
namespace Go.Proofs.Ytiblmhjlngcidaa.Digit
open Go.RowKit

def RdAt (s : ByteArray) (w : World) (good : Bool) (a' : Act) (w' : World) : Prop :=
  ∃ (k : Nat) (N K : Int) (u6 u7 u8 u9 u10 u11 u12 u13 u14 u15 u16 u17 u18 u19 u20 u21 u22 u23 : Value),
    a' = { tmps := #[.string s, undef, .int .i64 0, .int .i64 0, .int .i64 N, .int .i64 K, u6, u7, u8, u9, u10, u11, u12, u13, u14, u15, u16, u17, u18, u19, u20, u21, u22, u23, undef, undef, undef, undef, undef, undef, undef, undef, undef], defers := [] } ∧
    K = k ∧ k ≤ s.size ∧ (good = true → N = scan 0 (s.data.toList.take k)) ∧ 0 ≤ N ∧ N ≤ 20000000000000 ∧ w' = w

theorem byte_sub {c : Int} (h : 48 ≤ c) (h1 : c ≤ 57) : IntKind.u8.wrap (c - 48) = c - 48 := IntWalk.u8_in _ (by omega)

set_option maxRecDepth 100000 in
set_option maxHeartbeats 1000000 in
theorem read_some (s : ByteArray) (hs : s.size ≤ 100000) (t : Int) (ht : IsTick s.data.toList t) (w : World) :
    Calls Try.prog 38 #[.string s] w fun e w' => e = .returned (.tuple #[.int .i64 t, .int .i64 0]) ∧ Below w.heap.size w w' := by
  have HT := Lib.hid ht
  have hpos : 0 < s.size := tick_pos ht
  have hdig : ∀ k (h : k < s.size), 48 ≤ (s[k].toNat : Int) ∧ (s[k].toNat : Int) ≤ 57 := fun k h => by
    have := tick_digit ht s[k] (by show s.data[k] ∈ _; simp); omega
  have HG := Lib.hid hdig
  obtain ⟨t0, t1, hd⟩ := ht
  clear hdig hd
  go_enter Try.func38, Try.ntmps38
  go_wp2
  refine wp_scope_jumps 0 (RdAt s w true) (fun a' _ => s.size - (intOf (a'.tmps.getD 5 undef)).toNat) rfl ?_ ?_
  · go_wp2_with fail
    go_step3
    obtain ⟨d0, d1⟩ := HG.out 0 hpos
    have HS := Lib.hid (scan_snoc s 0 hpos)
    have m1 := tick_part HT.out 1
    go_wp2_with fail
    go_step3
    exact ⟨rfl, 1, _, _, _, _, _, _, _, _, _, _, _, _, _, _, _, _, _, _, _, _, rfl, rfl, by omega, fun _ => by rw [HS.out]; simp [scan], by omega, by omega, rfl⟩
  · rintro a' w' ⟨k, N, K, u6, u7, u8, u9, u10, u11, u12, u13, u14, u15, u16, u17, u18, u19, u20, u21, u22, u23, rfl, rfl, hk, hN, n0, n1, rfl⟩
    obtain rfl := hN rfl
    obtain ⟨m0, m1⟩ := tick_part HT.out k
    by_cases hlt : k < s.size
    · have HS := Lib.hid (scan_snoc s k hlt)
      obtain ⟨d0, d1⟩ := HG.out k hlt
      go_wp2_with fail
      go_step3
      refine ⟨rfl, ⟨k + 1, _, _, _, _, _, _, _, _, _, _, _, _, _, _, _, _, _, _, _, _, rfl, by omega, by omega, fun _ => by rw [HS.out]; omega, by omega, by omega, rfl⟩, ?_⟩
      simp [intOf]; omega
    · have he : s.data.toList.take k = s.data.toList := List.take_of_length_le (by rw [size_list]; omega)
      rw [he, (tick_scan HT.out).1]
      have hx : (dec t == s.toList) = true := by rw [HT.out.2.2, ByteArray.toList_eq]; simp
      clear he
      go_wp2_with (go_at_call 42; refine (put_calls _ (by omega) (by omega) _).mono ?_; rintro e w' ⟨rfl, hb⟩)
      simp only [Exit.jump]
      go_ret2
      exact ⟨rfl, hb⟩

theorem u8_bd (x : Int) : 0 ≤ IntKind.u8.wrap x ∧ IntKind.u8.wrap x < 256 := by
  have e : IntKind.u8.wrap x = x % 256 := rfl
  rw [e]; omega

set_option maxRecDepth 100000 in
set_option maxHeartbeats 1000000 in
theorem read_none (s : ByteArray) (hs : s.size ≤ 100000) (ht : ¬ ∃ t, IsTick s.data.toList t) (w : World) :
    Calls Try.prog 38 #[.string s] w fun e w' => e = .returned (.tuple #[.int .i64 0, .int .i64 3]) ∧ Below w.heap.size w w' := by
  have HT := Lib.hid ht; clear ht
  have hno : ∀ n : Int, 0 ≤ n → n ≤ 1099511627776 → (dec n == s.toList) = false := fun n h0 h1 => by
    rw [beq_eq_false_iff_ne]
    exact fun h => HT.out ⟨n, h0, h1, by rw [h, ByteArray.toList_eq]⟩
  have HN := Lib.hid hno; clear hno
  go_enter Try.func38, Try.ntmps38
  go_wp2
  refine wp_scope_jumps 0 (RdAt s w false) (fun a' _ => s.size - (intOf (a'.tmps.getD 5 undef)).toNat) rfl ?_ ?_
  · go_wp2_with fail
    go_step3
    by_cases hpos : 0 < s.size
    · obtain ⟨d0, d1⟩ := u8_bd ((s[0].toNat : Int) - 48)
      go_wp2_with fail
      go_step3
      exact ⟨rfl, 1, _, _, _, _, _, _, _, _, _, _, _, _, _, _, _, _, _, _, _, _, rfl, rfl, by omega, (fun h => by cases h), by omega, by omega, rfl⟩
    · have hx := HN.out 0 (by omega) (by omega)
      go_wp2_with (go_at_call 42; refine (put_calls _ (by omega) (by omega) _).mono ?_; rintro e w' ⟨rfl, hb⟩)
      simp only [Exit.jump]
      go_ret2
      exact ⟨rfl, hb⟩
  · rintro a' w' ⟨k, N, K, u6, u7, u8, u9, u10, u11, u12, u13, u14, u15, u16, u17, u18, u19, u20, u21, u22, u23, rfl, rfl, hk, -, n0, n1, rfl⟩
    by_cases hlt : k < s.size
    · by_cases hn : N ≤ 1099511627776
      · obtain ⟨d0, d1⟩ := u8_bd ((s[k].toNat : Int) - 48)
        go_wp2_with fail
        go_step3
        refine ⟨rfl, ⟨k + 1, _, _, _, _, _, _, _, _, _, _, _, _, _, _, _, _, _, _, _, _, rfl, by omega, by omega, (fun h => by cases h), by omega, by omega, rfl⟩, ?_⟩
        simp [intOf]; omega
      · go_wp2_with fail
        simp only [Exit.jump]
        go_ret2
        exact ⟨rfl, Below.refl _ _⟩
    · by_cases hn : N ≤ 1099511627776
      · have hx := HN.out N n0 hn
        go_wp2_with (go_at_call 42; refine (put_calls _ (by omega) (by omega) _).mono ?_; rintro e w' ⟨rfl, hb⟩)
        simp only [Exit.jump]
        go_ret2
        exact ⟨rfl, hb⟩
      · go_wp2_with fail
        simp only [Exit.jump]
        go_ret2
        exact ⟨rfl, Below.refl _ _⟩

theorem read_calls (s : ByteArray) (hs : s.size ≤ 100000) (w : World) :
    Calls Try.prog 38 #[.string s] w fun e w' => e = .returned (.tuple #[.int .i64 (rdV s.data.toList), .int .i64 (rdC s.data.toList)]) ∧ Below w.heap.size w w' := by
  by_cases h : ∃ t, IsTick s.data.toList t
  · obtain ⟨t, ht⟩ := h
    obtain ⟨h1, h2⟩ := rd_some ht
    rw [h1, h2]
    exact read_some s hs t ht w
  · obtain ⟨h1, h2⟩ := rd_none h
    rw [h1, h2]
    exact read_none s hs h w

end Go.Proofs.Ytiblmhjlngcidaa.Digit

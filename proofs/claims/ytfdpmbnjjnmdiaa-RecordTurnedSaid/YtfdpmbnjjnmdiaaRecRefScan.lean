/-
  Layer 8 (record): the document's Scan and Same, walked.
-/
import Derived.Test.YtfdpmbnjjnmdiaaRecRefRead
namespace Go.Proofs.Ytfdpmbnjjnmdiaa.Rec
open Go.RowKit Go.Proofs.Ytfdpmbnjjnmdiaa.Sum Go.Proofs.Ytfdpmbnjjnmdiaa.Own

theorem rread_no (s : ByteArray) (hs : s.size ≤ 4611686018427387904) (h : rdC s.data.toList ≠ 0) (w : World) :
    Calls Try.prog 13 #[.string s] w fun e w' => e = .returned (.tuple #[.agg #[.int .i64 0, .int .i64 0, .string ⟨#[]⟩], .int .i64 0, .int .i64 (rdC s.data.toList)]) ∧ Below w.heap.size w w' :=
  (rread_calls s hs w).mono fun e w' hp => by
    obtain ⟨rfl, hb⟩ := hp
    obtain ⟨e1, e2⟩ := rd_none h
    rw [e1, e2]; exact ⟨rfl, hb⟩
theorem rread_yes (s : ByteArray) (hs : s.size ≤ 4611686018427387904) (h : rdC s.data.toList = 0) (x : Itm) (n : Int) (hx : rdX s.data.toList = x) (hn : rdN s.data.toList = n) (w : World) :
    Calls Try.prog 13 #[.string s] w fun e w' => e = .returned (.tuple #[.agg #[.int .i64 x.k, .int .i64 x.a, .string x.b], .int .i64 n, .int .i64 0]) ∧ Below w.heap.size w w' :=
  (rread_calls s hs w).mono fun e w' hp => by
    obtain ⟨rfl, hb⟩ := hp
    rw [hx, hn, h]; exact ⟨rfl, hb⟩

set_option maxRecDepth 100000 in
set_option maxHeartbeats 1000000 in
theorem rscan_calls (s : ByteArray) (hs : s.size ≤ 1099511627776) (w : World) :
    Calls Try.prog 15 #[.string s] w (ScanPost s w) := by
  obtain ⟨i0, hi, hz0, hz1, hz2⟩ := info_parts info_item
  go_enter Try.func15, Try.ntmps15
  go_wp2_with fail
  go_loopw [4, 5] (fun v a wr => ∃ (L : List Itm) (k : Nat), a = .int .i64 k ∧ ScanAt s w wr L k v) (fun _ a _ => s.size - (intOf a).toNat)
  case atStart => exact ⟨[], 0, rfl, World.ownsRow_nil _ _ _ _, Below.refl _ _, by simp, by omega, by simp⟩
  case round =>
    obtain ⟨L, k, rfl, C⟩ := hrel
    have hle := C.le
    have hlen := C.len
    have hown := C.own
    have hsz := C.below.size
    obtain ⟨p, hps, hpl, hpw⟩ := from_of s k hle
    have k0 : (k : Int) ≤ 1099511627776 := by omega
    rcases Nat.lt_or_eq_of_le hle with hlt | heq
    · have q1 : (k : Int) < (s.size : Int) := by omega
      by_cases hr : rdC (s.data.toList.drop k) = 0
      · obtain ⟨_, hn⟩ := rd_some hr
        have hn0 := ln_range (s.data.toList.drop k)
        obtain ⟨n, hnn⟩ : ∃ n, rdN (s.data.toList.drop k) = n := ⟨_, rfl⟩
        obtain ⟨x, hxx⟩ : ∃ x, rdX (s.data.toList.drop k) = x := ⟨_, rfl⟩
        have HY := Lib.hid (rread_yes p (by omega) (by rw [hpl]; exact hr) x n (by rw [hpl]; exact hxx) (by rw [hpl]; exact hnn))
        have hl := (rd_inv hr).2.1
        rw [List.length_drop, size_list] at hl
        have n0 : 0 ≤ n := by omega
        have n3 : n + k ≤ (s.size : Int) := by omega
        have n1 : n + k ≤ 1099511627776 := by omega
        have n2 : 14 ≤ n := by omega
        have HC := Lib.hid C
        have HR := Lib.hid hr
        have HN := Lib.hid hnn
        have HX := Lib.hid hxx
        have HO := Lib.hid hown
        clear C hr hnn hxx hown hl hn hn0 hpl
        go_wp2_with fail
        refine (HY.out _).mono ?_
        rintro e w5 ⟨rfl, hb5⟩
        have HB5 := Lib.hid hb5
        have h5 := hb5.size
        have ho5 := Own.own_below HO.out hb5
        clear hb5
        go_wp2_with (at_builtin; refine Own.append_any rfl (.tmp 25) (.tmp 27) 33 rfl w.heap.size 23 i0 _ 3 32 Try.underlying33 hi hz0 hz1 hz2 rfl (by decide) _ _ _ rfl (World.ownsRow.alloc (World.ownsRow.alloc ho5 _) _) _ 1 1 [.int .i64 x.k, .int .i64 x.a, .string x.b] rfl (fun h => nomatch h) rfl (Own.three_new _ _ _ _ _ _ (by simp)) (by simp [Value.oneCell']) (by unfold maxLen; omega) (by omega) (by simp; omega) ?_; intro v' w1 hown1 hgrow1)
        have C1 := HC.out.step HR.out ((HB5.out.alloc h5 _).alloc (by simp; omega) _) (by rw [HX.out]; exact hown1) hgrow1
        rw [HX.out, HN.out] at C1
        have HC1 := Lib.hid C1
        clear C1 hown1 hgrow1 ho5
        go_wp2_with fail
        go_roundw
        case rel => exact ⟨_, _, by rw [show (k : Int) + n = ((k + n.toNat : Nat) : Int) by omega], HC1.out⟩
        case measure => simp [intOf]; omega
      · have HY := Lib.hid (rread_no p (by omega) (by rw [hpl]; exact hr))
        rw [hpl] at HY
        have HC := Lib.hid C
        have HR := Lib.hid hr
        obtain ⟨c, hc⟩ : ∃ c, rdC (s.data.toList.drop k) = c := ⟨_, rfl⟩
        rw [hc] at HY hr
        have b3 : (c == 0) = false := by simpa using hr
        have b4 : (c != 0) = true := by simpa using hr
        clear C hc hown hpl hr
        go_wp2_with fail
        refine (HY.out _).mono ?_
        rintro e w5 ⟨rfl, hb5⟩
        have HB5 := Lib.hid hb5
        clear hb5
        go_wp2_with fail
        go_ret2
        exact HC.out.end_ HR.out (HB5.out.alloc HB5.out.size _)
    · have HC := Lib.hid C
      have HR : Hid (rdC (s.data.toList.drop k) ≠ 0) := Lib.hid (by rw [heq, List.drop_of_length_le (by rw [size_list]; exact Nat.le_refl _)]; decide)
      have q1 : (s.size : Int) ≤ (k : Int) := by omega
      clear C heq hown hpl
      go_wp2_with fail
      go_ret2
      exact HC.out.end_ HR.out (Below.refl _ _)

set_option maxRecDepth 100000 in
set_option maxHeartbeats 1000000 in
/-- two slices that hold the same items -/
theorem rsame_calls (xs : List Itm) (p q : Option Addr) (c d : Nat) (w : World) (h1 : Its w xs p c) (h2 : Its w xs q d) :
    Calls Try.prog 16 #[.slice p xs.length c, .slice q xs.length d] w fun e w' => e = .returned (.bool true) ∧ Below w.heap.size w w' := by
  have hc1 := h1.cap
  have hm1 := h1.max
  unfold maxLen at hm1
  have q2 : (xs.length : Int) ≤ 9223372036854775807 := by omega
  have H1 := Lib.hid h1
  have H2 := Lib.hid h2
  clear h1 h2
  go_enter Try.func16, Try.ntmps16
  go_wp2_with fail
  go_loopw [5] (fun i wr => ∃ k m : Nat, k ≤ xs.length ∧ i = .int .i64 k ∧ wr = w.drewN m) (fun i _ => xs.length - (intOf i).toNat)
  case atStart => exact ⟨0, 0, by omega, rfl, rfl⟩
  case round =>
    obtain ⟨k, m, hk, rfl, rfl⟩ := hrel
    rcases Nat.lt_or_eq_of_le hk with hlt | rfl
    · rcases H1.out.cells with h0 | ⟨b, o, rfl, hb, hc⟩
      · rw [h0] at hlt; simp at hlt
      · rcases H2.out.cells with h0 | ⟨b', o', rfl, hb', hc'⟩
        · rw [h0] at hlt; simp at hlt
        · obtain ⟨c0, c1, c2⟩ := hc k hlt
          obtain ⟨d0, d1, d2⟩ := hc' k hlt
          have q1 : (k : Int) < (xs.length : Int) := by omega
          generalize xs[k] = x at *
          clear hc hc'
          go_wp2_with fail
          go_quiet (fail)
          go_wp2_with fail
          go_roundw
          case rel => exact ⟨k + 1, _, by omega, by go_num, rfl⟩
          case measure => simp [intOf]; omega
    · go_wp2_with fail
      go_ret
      exact ⟨rfl, below_drewN (Below.refl _ _) _⟩
end Go.Proofs.Ytfdpmbnjjnmdiaa.Rec

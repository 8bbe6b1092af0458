/-
  Layer 10 (word): the document's own Same and Join, walked.
-/
import Derived.Test.YtbchfkocpnmdiaaWordLib
namespace Go.Proofs.Ytbchfkocpnmdiaa.Word
open Go.RowKit Go.Proofs.Ytbchfkocpnmdiaa.Own Go.Proofs.Ytbchfkocpnmdiaa.Rw

set_option maxRecDepth 100000 in
set_option maxHeartbeats 1000000 in
/-- two slices that hold the same texts -/
theorem same_at (ts : List Bs) (n : Nat) (hn : ts.length = n) (p1 p2 : Option Addr) (c1 c2 : Nat) (w : World) (h1 : Texts w p1 c1 ts) (h2 : Texts w p2 c2 ts) (hl : n ≤ 1000000) :
    Calls Try.prog 14 #[.slice p1 n c1, .slice p2 n c2] w fun e w' => e = .returned (.bool true) ∧ Below w.heap.size w w' := by
  have H1 := Lib.hid h1
  have H2 := Lib.hid h2
  clear h1 h2
  go_enter Try.func14, Try.ntmps14
  go_wp2_with fail
  go_loopw [5] (fun i wr => ∃ k m : Nat, k ≤ n ∧ i = .int .i64 k ∧ wr = w.drewN m) (fun i _ => n - (intOf i).toNat)
  case atStart => exact ⟨0, 0, by omega, rfl, rfl⟩
  case round =>
    obtain ⟨k, m, hk, rfl, rfl⟩ := hrel
    rcases Nat.lt_or_eq_of_le hk with hlt | rfl
    · have hkt : k < ts.length := by omega
      rcases H1.out.cells with h0 | ⟨b, o, rfl, hb, hc⟩
      · rw [h0] at hkt; simp at hkt
      · rcases H2.out.cells with h0 | ⟨b', o', rfl, hb', hc'⟩
        · rw [h0] at hkt; simp at hkt
        · have c0 := hc k hkt
          have d0 := hc' k hkt
          have q1 : (k : Int) < (n : Int) := by omega
          generalize ts[k] = x at c0 d0
          rw [str] at c0 d0
          clear hc hc' hkt
          go_wp2_with fail
          go_quiet (fail)
          go_wp2_with fail
          go_roundw
          case rel => exact ⟨k + 1, _, by omega, by go_num, rfl⟩
          case measure => simp [intOf]; omega
    · go_wp2_with fail
      go_ret
      exact ⟨rfl, below_drew (Below.refl _ _)⟩
theorem same_calls (ts : List Bs) (p1 p2 : Option Addr) (c1 c2 : Nat) (w : World) (h1 : Texts w p1 c1 ts) (h2 : Texts w p2 c2 ts) (hl : ts.length ≤ 1000000) :
    Calls Try.prog 14 #[.slice p1 ts.length c1, .slice p2 ts.length c2] w fun e w' => e = .returned (.bool true) ∧ Below w.heap.size w w' := same_at ts _ rfl p1 p2 c1 c2 w h1 h2 hl

theorem str_add {a b c : List UInt8} (h : c = a ++ b) : (⟨a.toArray⟩ : ByteArray) ++ ⟨b.toArray⟩ = ⟨c.toArray⟩ := by
  subst h
  apply ByteArray.ext
  simp [ByteArray.data_append]
theorem size_mk (l : List UInt8) : (⟨l.toArray⟩ : ByteArray).size = l.length := by simp [ByteArray.size]
theorem take_weight (ts : List Bs) (k : Nat) : weight (ts.take k) ≤ weight ts := by
  have := weight_app (ts.take k) (ts.drop k)
  rw [List.take_append_drop] at this
  omega

set_option maxRecDepth 100000 in
set_option maxHeartbeats 1000000 in
theorem rjoin_calls (ts : List Bs) (p : Option Addr) (c : Nat) (w : World) (h : Texts w p c ts) (hw : weight ts ≤ 1000000) : Calls Try.prog 17 #[.slice p ts.length c] w fun e w' => e = .returned (str (joinW ts)) ∧ w = w' := by
  have H := Lib.hid h
  clear h
  have HW := Lib.hid hw
  have hn : ts.length ≤ 1000000 := Nat.le_trans (len_weight ts) hw
  clear hw
  go_enter Try.func17, Try.ntmps17
  go_wp2_with fail
  go_loop [3, 4] (fun s i => ∃ (k : Nat) (l : List UInt8), k ≤ ts.length ∧ i = .int .i64 k ∧ s = .string ⟨l.toArray⟩ ∧ l = joinW (ts.take k)) (fun _ i => ts.length - (intOf i).toNat)
  case atStart => exact ⟨0, [], by omega, rfl, rfl, rfl⟩
  case round =>
    obtain ⟨k, l, hk, rfl, rfl, hl⟩ := hrel
    have hsz : l.length ≤ 1000000 := by
      have h1 := join_weight (ts.take k)
      have h2 := take_weight ts k
      have := HW.out
      rw [hl]; omega
    have HL := Lib.hid hl
    clear hl
    rcases Nat.lt_or_eq_of_le hk with hlt | rfl
    · rcases H.out.cells with h0 | ⟨b, o, rfl, hb, hc⟩
      · rw [h0] at hlt; simp at hlt
      · have c0 := hc k hlt
        have HN : Hid (joinW (ts.take (k + 1)) = if 0 < k then l ++ [32] ++ ts[k] else l ++ ts[k]) := Lib.hid (by
          split
          · rw [HL.out]; exact join_next (by assumption) hlt
          · obtain rfl : k = 0 := by omega
            rw [HL.out]; exact join_first hlt)
        have hx : ts[k].length ≤ 1000000 := by
          have h1 := weight_app (ts.take k) (ts.drop k)
          rw [List.take_append_drop, List.drop_eq_getElem_cons hlt] at h1
          simp only [weight, List.map_cons, List.sum_cons] at h1
          have := HW.out
          simp only [weight] at this
          omega
        generalize ts[k] = x at *
        rw [str] at c0
        have s1 := size_mk l
        have s2 := size_mk x
        clear hc
        by_cases h0 : 0 < k
        · rw [if_pos h0] at HN
          go_wp2_with fail
          go_round
          case rel => exact ⟨k + 1, _, by omega, by go_num, by rw [str_add (a := l) (b := [32]) rfl, str_add rfl], HN.out.symm⟩
          case measure => simp [intOf]; omega
        · rw [if_neg h0] at HN
          go_wp2_with fail
          go_round
          case rel => exact ⟨k + 1, _, by omega, by go_num, by rw [str_add rfl], HN.out.symm⟩
          case measure => simp [intOf]; omega
    · have HE : Hid (joinW ts = l) := Lib.hid (by rw [HL.out, List.take_length])
      go_wp2_with fail
      go_ret
      exact ⟨by rw [HE.out]; rfl, rfl⟩

end Go.Proofs.Ytbchfkocpnmdiaa.Word

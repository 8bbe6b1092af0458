/-
  Layer 7 (sum): the document's own answers, walked.
-/
import Derived.WalkKit
import Derived.WalkSpells
import Derived.Deep.RegionHeld3
import Derived.Test.YtfdpmbnjjnmdiaaProg
import Derived.Test.YtfdpmbnjjnmdiaaSumMore
import Derived.Lib.Hide
namespace Go.Proofs.Ytfdpmbnjjnmdiaa.Sum
open Go.RowKit

theorem ret_string {a b : ByteArray} (h : a = b) : Ending.returned (.string a) = .returned (.string b) := by rw [h]
theorem ret_i64 {a b : Int} (h : a = b) : Ending.returned (.int .i64 a) = .returned (.int .i64 b) := by rw [h]
theorem ret_bool {a b : Bool} (h : a = b) : Ending.returned (.bool a) = .returned (.bool b) := by rw [h]
theorem ret_two {a b c d : Int} (h : a = b) (g : c = d) : Ending.returned (.tuple #[.int .i64 a, .int .i64 c]) = .returned (.tuple #[.int .i64 b, .int .i64 d]) := by rw [h, g]
theorem size_list (s : ByteArray) : s.data.toList.length = s.size := rfl

theorem sum_snoc (s : ByteArray) (k : Nat) (h : k < s.size) : sumOf (s.data.toList.take (k + 1)) = (257 * sumOf (s.data.toList.take k) + (s[k].toNat : Int) + 1) % 2147483647 := by
  rw [sumOf_take _ (by rw [size_list]; exact h)]; rfl

set_option maxHeartbeats 400000 in
theorem rof_calls (s : ByteArray) (hs : s.size ≤ 9223372036854775807) (w : World) :
    Calls Try.prog 21 #[.string s] w fun e w' => e = .returned (.int .i64 (sumOf s.data.toList)) ∧ w = w' := by
  go_enter Try.func21, Try.ntmps21
  go_wp2
  go_loop [3, 4] (fun n i => ∃ k : Nat, k ≤ s.size ∧ i = .int .i64 k ∧ n = .int .i64 (sumOf (s.data.toList.take k))) (fun _ i => s.size - (intOf i).toNat)
  case atStart => exact ⟨0, Nat.zero_le _, rfl, rfl⟩
  case round =>
    obtain ⟨k, hk, rfl, rfl⟩ := hrel
    obtain ⟨hb1, hb2⟩ := sumOf_range (s.data.toList.take k)
    by_cases hlt : k < s.size
    · have HS := Lib.hid (sum_snoc s k hlt)
      have hc : (s[k].toNat : Int) < 256 := by have := s[k].toNat_lt; omega
      go_wp2_with fail
      go_round
      case rel => exact ⟨k + 1, by omega, by go_num, by rw [HS.out]⟩
      case measure => simp [intOf]; omega
    · have he : s.data.toList.take k = s.data.toList := List.take_of_length_le (by rw [size_list]; omega)
      rw [he] at *
      clear he
      go_wp2_with fail
      go_ret
      exact ⟨rfl, rfl⟩

theorem four_bytes {P : Program} (W : World) (b : Nat) (x y z u : UInt8) (src dst e : TypeId) (hs : P.underlying src = some (.slice e)) (he : P.underlying e = some (.int .u8)) (hd : P.underlying dst = some .string)
    (hx : W.cell? ⟨b, 0, none⟩ = some (.int .u8 (x.toNat : Int))) (hy : W.cell? ⟨b, 1, none⟩ = some (.int .u8 (y.toNat : Int))) (hz : W.cell? ⟨b, 2, none⟩ = some (.int .u8 (z.toNat : Int))) (hu : W.cell? ⟨b, 3, none⟩ = some (.int .u8 (u.toNat : Int))) :
    (convert src dst (.slice (some ⟨b, 0, none⟩) 4 4)).run P W = .ok (.string ⟨#[x, y, z, u]⟩) W := by
  refine run_convert_bytes_back W src dst e ⟨b, 0, none⟩ 4 [x, y, z, u] hs he hd (fun j hj => ?_)
  match j, hj with
  | 0, _ => exact hx
  | 1, _ => exact hy
  | 2, _ => exact hz
  | 3, _ => exact hu
  | j + 4, hj => simp at hj; omega

set_option maxHeartbeats 400000 in
theorem rput_calls (n : Int) (w : World) :
    Calls Try.prog 20 #[.int .i64 n] w fun e w' => e = .returned (.string ⟨(putL n).toArray⟩) ∧ Below w.heap.size w w' := by
  by_cases h : n < 0 ∨ 2147483647 ≤ n
  · rw [put_none h]
    rcases h with h | h
    · go_enter Try.func20, Try.ntmps20
      go_wp2_with fail
      go_ret
      exact ⟨rfl, Below.refl _ _⟩
    · have h0 : 0 ≤ n := by omega
      go_enter Try.func20, Try.ntmps20
      go_wp2_with fail
      go_ret
      exact ⟨rfl, Below.refl _ _⟩
  · have h0 : 0 ≤ n := by omega
    have h1 : n < 2147483647 := by omega
    rw [put_some h0 h1]
    clear h
    have hcv := fun (W : World) (b : Nat) hx hy hz hu => four_bytes (P := Try.prog) W b (byteI (n / 16777216 % 256)) (byteI (n / 65536 % 256)) (byteI (n / 256 % 256)) (byteI (n % 256)) 42 9 5 Try.underlying42 Try.underlying5 Try.underlying9 hx hy hz hu
    rw [byteI_back (by omega) (by omega), byteI_back (by omega) (by omega), byteI_back (by omega) (by omega), byteI_back (by omega) (by omega), show n / 16777216 % 256 = n / 16777216 by omega] at hcv
    go_enter Try.func20, Try.ntmps20
    go_wp2_with fail
    go_ret
    exact ⟨ret_string (by unfold four; rw [show n / 16777216 % 256 = n / 16777216 by omega]), (Below.refl _ _).alloc (Nat.le_refl _) _⟩

end Go.Proofs.Ytfdpmbnjjnmdiaa.Sum

/-
  Layer 2 (digit): the program's ReadHex, walked.
-/
import Derived.Test.YtiblmhjlngcidaaDigitHex
import Derived.Test.YtiblmhjlngcidaaShelf
namespace Go.Proofs.Ytiblmhjlngcidaa.Digit
open Go.RowKit

theorem index_calls (c : Int) (w : World) :
    Calls Try.prog 37 #[.string ⟨#[48, 49, 50, 51, 52, 53, 54, 55, 56, 57, 97, 98, 99, 100, 101, 102]⟩, .int .u8 c] w fun e w' => e = .returned (.int .i64 (Lib.indexByte hexTab c.toNat.toUInt8)) ∧ w = w' :=
  (Try.strings_IndexByte _ c w).mono fun _ _ ⟨h1, h2⟩ => ⟨h1, h2.symm⟩

theorem two_list (s : ByteArray) (h : s.size = 2) : s.data.toList = [s[0], s[1]] := by
  have hl : s.data.toList.length = 2 := h
  match hs : s.data.toList, hl with
  | [a, b], _ =>
    have e0 : s[0] = s.data.toList[0] := rfl
    have e1 : s[1] = s.data.toList[1] := rfl
    simp [e0, e1, hs]

theorem or_all : ∀ a : Fin 16, ∀ b : Fin 16, bits BinOp.or IntKind.i64 ((a.val : Int) * 16) (b.val : Int) = (a.val : Int) * 16 + (b.val : Int) := by decide +kernel
theorem or_16 {x y : Int} (h0 : 0 ≤ x) (h1 : x < 16) (g0 : 0 ≤ y) (g1 : y < 16) : bits BinOp.or IntKind.i64 (x * 16) y = x * 16 + y := by
  have h := or_all ⟨x.toNat, by omega⟩ ⟨y.toNat, by omega⟩
  simp only [Int.toNat_of_nonneg h0, Int.toNat_of_nonneg g0] at h
  exact h

theorem u8_back (c : UInt8) : ((c.toNat : Int)).toNat.toUInt8 = c := by simp

set_option maxHeartbeats 400000 in
theorem readhex_calls (s : ByteArray) (w : World) :
    Calls Try.prog 31 #[.string s] w fun e w' => e = .returned (.tuple #[.int .u8 (rhV s.data.toList), .int .i64 (rhC s.data.toList)]) ∧ w = w' := by
  by_cases h2 : s.size = 2
  · have p0 : 0 < s.size := by omega
    have p1 : 1 < s.size := by omega
    have hl : s.data.toList = [s[0], s[1]] := two_list s h2
    rcases idx_spec s[0] with ⟨i0, i1⟩ | ⟨i0, i1, i2⟩
    · have H := Lib.hid (rh_none (s := s.data.toList) (by rw [hl]; rintro ⟨c, hc, hh⟩; exact i1 (c / 16) (by omega) (List.cons.inj hh).1))
      have hx : Lib.indexByte hexTab s[0] < 0 := by omega
      clear i0 i1 hl
      go_enter Try.func31, Try.ntmps31
      go_wp2_with (go_at_call 37; refine (index_calls _ _).mono ?_; rintro e w' ⟨rfl, rfl⟩)
      go_ret2
      exact ⟨ret_byte H.out.1.symm H.out.2.symm, rfl⟩
    · rcases idx_spec s[1] with ⟨j0, j1⟩ | ⟨j0, j1, j2⟩
      · have H := Lib.hid (rh_none (s := s.data.toList) (by rw [hl]; rintro ⟨c, hc, hh⟩; exact j1 (c % 16) (by omega) (List.cons.inj (List.cons.inj hh).2).1))
        have hx : Lib.indexByte hexTab s[1] < 0 := by omega
        clear i2 j0 j1 hl
        go_enter Try.func31, Try.ntmps31
        go_wp2_with (go_at_call 37; refine (index_calls _ _).mono ?_; rintro e w' ⟨rfl, rfl⟩)
        go_ret2
        exact ⟨ret_byte H.out.1.symm H.out.2.symm, rfl⟩
      · have hh : hexS (16 * (Lib.indexByte hexTab s[0]).toNat + (Lib.indexByte hexTab s[1]).toNat) = s.data.toList := by
          rw [hl, hexS]
          rw [show (16 * (Lib.indexByte hexTab s[0]).toNat + (Lib.indexByte hexTab s[1]).toNat) / 16 = (Lib.indexByte hexTab s[0]).toNat by omega, show (16 * (Lib.indexByte hexTab s[0]).toNat + (Lib.indexByte hexTab s[1]).toNat) % 16 = (Lib.indexByte hexTab s[1]).toNat by omega, i2, j2]
        have G := rh_some (c := 16 * (Lib.indexByte hexTab s[0]).toNat + (Lib.indexByte hexTab s[1]).toNat) (by omega)
        rw [hh] at G
        have H := Lib.hid G
        clear G i2 j2 hl hh
        go_enter Try.func31, Try.ntmps31
        go_wp2_with (go_at_call 37; refine (index_calls _ _).mono ?_; rintro e w' ⟨rfl, rfl⟩)
        go_ret2
        exact ⟨ret_byte (by rw [H.out.1, or_16 i0 i1 j0 j1]; omega) H.out.2.symm, rfl⟩
  · have H := Lib.hid (rh_none (s := s.data.toList) (by rintro ⟨c, hc, hh⟩; have := congrArg List.length hh; rw [size_list] at this; simp [hexS] at this; omega))
    go_enter Try.func31, Try.ntmps31
    go_wp2_with fail
    go_ret2
    exact ⟨ret_byte H.out.1.symm H.out.2.symm, rfl⟩

end Go.Proofs.Ytiblmhjlngcidaa.Digit

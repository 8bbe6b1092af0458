/-
  Layer 2 (digit): the program's Hex and sign, walked.
-/
import Derived.Test.YtbjlnaobmgbpfaaDoorSignR
namespace Go.Proofs.YtbjlnaobmgbpfaaDoor.Digit
open Go.RowKit

/-- a digit of the table -/
theorem tab_index (W : World) (i : Int) (h0 : 0 ≤ i) (h1 : i < 16) :
    (Instr.index 9 (.string ⟨#[48, 49, 50, 51, 52, 53, 54, 55, 56, 57, 97, 98, 99, 100, 101, 102]⟩) (.int .u8 i)).run Tryd.prog W = .ok (.int .u8 ((hexd i.toNat).toNat : Int)) W := by
  have h : i = 0 ∨ i = 1 ∨ i = 2 ∨ i = 3 ∨ i = 4 ∨ i = 5 ∨ i = 6 ∨ i = 7 ∨ i = 8 ∨ i = 9 ∨ i = 10 ∨ i = 11 ∨ i = 12 ∨ i = 13 ∨ i = 14 ∨ i = 15 := by omega
  rcases h with rfl | rfl | rfl | rfl | rfl | rfl | rfl | rfl | rfl | rfl | rfl | rfl | rfl | rfl | rfl | rfl
  all_goals (clear h0 h1; rfl)

theorem two_bytes {P : Program} (W : World) (b : Nat) (x y : UInt8) (src dst e : TypeId) (hs : P.underlying src = some (.slice e)) (he : P.underlying e = some (.int .u8)) (hd : P.underlying dst = some .string)
    (hx : W.cell? ⟨b, 0, none⟩ = some (.int .u8 (x.toNat : Int))) (hy : W.cell? ⟨b, 1, none⟩ = some (.int .u8 (y.toNat : Int))) :
    (convert src dst (.slice (some ⟨b, 0, none⟩) 2 2)).run P W = .ok (.string ⟨#[x, y]⟩) W := by
  refine run_convert_bytes_back W src dst e ⟨b, 0, none⟩ 2 [x, y] hs he hd (fun j hj => ?_)
  match j, hj with
  | 0, _ => exact hx
  | 1, _ => exact hy
  | j + 2, hj => simp at hj; omega

set_option maxHeartbeats 400000 in
theorem hex_calls (c : Int) (h0 : 0 ≤ c) (h1 : c < 256) (w : World) :
    Calls Tryd.prog 37 #[.int .u8 c] w fun e w' => e = .returned (.string ⟨(hexS c.toNat).toArray⟩) ∧ Below w.heap.size w w' := by
  have e1 := fun W => tab_index W (c / 16) (by omega) (by omega)
  have e2 := fun W => tab_index W (c % 16) (by omega) (by omega)
  rw [show (c / 16).toNat = c.toNat / 16 by omega] at e1
  rw [show (c % 16).toNat = c.toNat % 16 by omega] at e2
  have hcv := fun (W : World) (b : Nat) hx hy => two_bytes (P := Tryd.prog) W b (hexd (c.toNat / 16)) (hexd (c.toNat % 16)) 37 9 5 Tryd.underlying37 Tryd.underlying5 Tryd.underlying9 hx hy
  go_enter Tryd.func37, Tryd.ntmps37
  go_wp2_with fail
  go_region
  go_wp2_with fail
  go_ret
  exact ⟨rfl, ((Below.refl _ _).alloc (Nat.le_refl _) _).drew⟩

theorem sign_calls (c : Int) (h0 : 0 ≤ c) (h1 : c < 256) (w : World) :
    Calls Tryd.prog 29 #[.int .u8 c] w fun e w' => e = .returned (.string ⟨(sgn c.toNat).toArray⟩) ∧ Below w.heap.size w w' := by
  by_cases e1 : c = 92
  · subst e1
    go_enter Tryd.func29, Tryd.ntmps29
    go_wp2_with fail
    go_ret
    exact ⟨rfl, Below.refl _ _⟩
  by_cases e2 : c = 10
  · subst e2
    go_enter Tryd.func29, Tryd.ntmps29
    go_wp2_with fail
    go_ret
    exact ⟨rfl, Below.refl _ _⟩
  by_cases e3 : c = 13
  · subst e3
    go_enter Tryd.func29, Tryd.ntmps29
    go_wp2_with fail
    go_ret
    exact ⟨rfl, Below.refl _ _⟩
  by_cases e4 : c = 9
  · subst e4
    go_enter Tryd.func29, Tryd.ntmps29
    go_wp2_with fail
    go_ret
    exact ⟨rfl, Below.refl _ _⟩
  have H := Lib.hid (sgn_other (n := c.toNat) (by omega) (by omega) (by omega) (by omega))
  by_cases e5 : c < 32
  · go_enter Tryd.func29, Tryd.ntmps29
    go_wp2_with (go_at_call 37; refine (hex_calls _ (by omega) (by omega) _).mono ?_; rintro e w' ⟨rfl, hb⟩)
    go_ret
    exact ⟨ret_string (by rw [H.out, if_pos (by omega)]; exact bytes_add [92, 120] _), hb⟩
  by_cases e6 : 126 < c
  · go_enter Tryd.func29, Tryd.ntmps29
    go_wp2_with (go_at_call 37; refine (hex_calls _ (by omega) (by omega) _).mono ?_; rintro e w' ⟨rfl, hb⟩)
    go_ret
    exact ⟨ret_string (by rw [H.out, if_pos (by omega)]; exact bytes_add [92, 120] _), hb⟩
  · have hcv := fun (W : World) => run_byte_string W c 37 9 5 Tryd.underlying37 Tryd.underlying5 Tryd.underlying9
    go_enter Tryd.func29, Tryd.ntmps29
    go_wp2_with fail
    go_ret
    exact ⟨ret_string (by rw [H.out, if_neg (by omega)]), (Below.refl _ _).alloc (Nat.le_refl _) _⟩

end Go.Proofs.YtbjlnaobmgbpfaaDoor.Digit

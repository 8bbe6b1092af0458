/-
  Layer 2 (digit): the walk of 'works': some answers by example.
-/
import Derived.Test.YtpdjjcgffnkhcaaDigitOut
namespace Go.Proofs.Ytpdjjcgffnkhcaa.Digit
open Go.RowKit

theorem dec_70 : dec (-70) = [45, 55, 48] := by simp [dec, decN, hexd]
theorem dec_min : dec (-9223372036854775808) = [45, 57, 50, 50, 51, 51, 55, 50, 48, 51, 54, 56, 53, 52, 55, 55, 53, 56, 48, 56] := by simp [dec, decN, hexd]
theorem dec_max : dec 1099511627776 = [49, 48, 57, 57, 53, 49, 49, 54, 50, 55, 55, 55, 54] := by simp [dec, decN, hexd]
theorem pad_7 : padI 7 3 = [48, 48, 55] := by simp [padI, padL, dec, decN, hexd, List.replicate]
theorem read_max : rdV [49, 48, 57, 57, 53, 49, 49, 54, 50, 55, 55, 55, 54] = 1099511627776 ∧ rdC [49, 48, 57, 57, 53, 49, 49, 54, 50, 55, 55, 55, 54] = 0 :=
  rd_some ⟨by omega, by omega, dec_max⟩
theorem read_over : rdV [49, 48, 57, 57, 53, 49, 49, 54, 50, 55, 55, 55, 55] = 0 ∧ rdC [49, 48, 57, 57, 53, 49, 49, 54, 50, 55, 55, 55, 55] = 3 :=
  rd_none fun ⟨t, ht⟩ => by
    have h := (tick_scan ht).1
    simp [scan] at h
    have := ht.2.1; omega
theorem read_01 : rdV [48, 49] = 0 ∧ rdC [48, 49] = 3 :=
  rd_none fun ⟨t, ht⟩ => by
    have h := (tick_scan ht).1
    simp [scan] at h
    subst h
    have := ht.2.2
    simp [dec, decN, hexd] at this
theorem hex_fe : rhV [102, 101] = 254 ∧ rhC [102, 101] = 0 := rh_some (c := 254) (by omega)
theorem unshow_a : unV [97, 92, 120, 48, 48, 92, 110] = [97, 0, 10] ∧ unC [97, 92, 120, 48, 48, 92, 110] = 0 := by
  have e : [97, 92, 120, 48, 48, 92, 110] = shw [97, 0, 10] := by decide
  rw [e, unV, unC, uns_shw]
  exact ⟨rfl, rfl⟩
theorem unshow_41 : unV [92, 120, 52, 49] = [] ∧ unC [92, 120, 52, 49] = 3 := by
  have h := (rh_some (c := 65) (by omega)).1
  have e : hexS 65 = [52, 49] := by decide
  rw [e] at h
  have hm : mean [92, 120, 52, 49] = 65 := by simp [mean, h]
  have hn : ¬ sgn (mean [92, 120, 52, 49]) <+: [92, 120, 52, 49] := by rw [hm]; decide
  rw [unV, unC, uns_none (by simp) hn]
  exact ⟨rfl, rfl⟩
theorem show_a : shw [97, 92, 127, 10] = [97, 92, 92, 92, 120, 55, 102, 92, 110] := by decide

set_option maxRecDepth 100000 in
set_option maxHeartbeats 1000000 in
theorem works_calls (w : World) :
    Calls Try.prog 11 #[] w fun e w' => e = .returned (.bool true) ∧ Below w.heap.size w w' := by
  have a1 := dec_70; have a2 := dec_min; have a3 := pad_7
  obtain ⟨b1, c1⟩ := read_max
  obtain ⟨b2, c2⟩ := read_over
  obtain ⟨b3, c3⟩ := read_01
  obtain ⟨b4, c4⟩ := hex_fe
  obtain ⟨b5, c5⟩ := unshow_a
  obtain ⟨b6, c6⟩ := unshow_41
  have a4 := show_a
  have hB := Below.refl w.heap.size w
  go_enter Try.func11, Try.ntmps11
  go_wp2_with (first | (go_at_call 12; refine (read_calls _ (by decide) _).mono ?_; rintro e w' ⟨rfl, hb⟩; replace hB := hB.trans (hb.mono hB.size); clear hb) | (go_at_call 19; refine (unshow_calls _ (by decide) _).mono ?_; rintro e w' ⟨rfl, hb⟩; replace hB := hB.trans (hb.mono hB.size); clear hb) | (go_at_call 14; refine (readhex_calls _ _).mono ?_; rintro e w' ⟨rfl, rfl⟩) | (go_at_call 7; refine (put_calls _ (by omega) (by omega) _).mono ?_; rintro e w' ⟨rfl, hb⟩; replace hB := hB.trans (hb.mono hB.size); clear hb) | (go_at_call 9; refine (pad_calls _ _ (by omega) (by omega) _).mono ?_; rintro e w' ⟨rfl, hb⟩; replace hB := hB.trans (hb.mono hB.size); clear hb) | (go_at_call 18; refine (show_calls _ (by decide) _).mono ?_; rintro e w' ⟨rfl, hb⟩; replace hB := hB.trans (hb.mono hB.size); clear hb))
  go_ret
  exact ⟨rfl, hB⟩

end Go.Proofs.Ytpdjjcgffnkhcaa.Digit

/-
  Layer 18 (backoff): Fail, walked.
-/
import Derived.Test.YtblmjacphhpekaaBkfWait
import Derived.Test.YtblmjacphhpekaaCalcTot
import Derived.Deep.RegionHeld3
namespace Go.Proofs.Ytblmjacphhpekaa.Bkf
open Go.RowKit Go.Proofs.Ytblmjacphhpekaa.Own Go.Proofs.Ytblmjacphhpekaa.Rw Go.Proofs.Ytblmjacphhpekaa.Tree Go.Proofs.Ytblmjacphhpekaa.Calc

/-- what Fail answers and leaves -/
def FailPost (w : World) (k : Nat) (b c j : Int) (n : Nat) (now r : Int) (e : Ending) (w' : World) : Prop :=
  (isT now = false ∧ e = .returned (.tuple #[.int .i64 0, .int .i64 1]) ∧ Below w.heap.size w w') ∨
  (isT now = true ∧ isT (atR b c j n now r) = false ∧ e = .returned (.tuple #[.int .i64 0, .int .i64 2]) ∧ Below w.heap.size w w') ∨
  (isT now = true ∧ isT (atR b c j n now r) = true ∧ e = .returned (.tuple #[.int .i64 (atR b c j n now r), .int .i64 0]) ∧ IsW w' k b c j (n + 1 + 1) ∧ Out (fun i => i = k) w w')
theorem heldW {w w' : World} {k : Nat} {b c j a : Int} (h : IsW w k b c j a) (hb : Below w.heap.size w w') : Below w.heap.size w w' ∧ w'.cell? ⟨k, 0, none⟩ = some (.int .i64 b) ∧ w'.cell? ⟨k, 1, none⟩ = some (.int .i64 c) ∧ w'.cell? ⟨k, 2, none⟩ = some (.int .i64 j) :=
  ⟨hb, (row4 (h.below hb)).1, (row4 (h.below hb)).2.1, (row4 (h.below hb)).2.2.1⟩
set_option maxRecDepth 100000 in
set_option maxHeartbeats 4000000 in
theorem fail_calls {w : World} {k : Nat} {b c j : Int} (h : okR b c j) {n : Nat} (hn : n < 1000000000000000000) (hW : IsW w k b c j (n + 1)) (now r : Int) :
    Calls Try.prog 10 #[.pointer (some ⟨k, 0, none⟩), .int .i64 now, .int .i64 r] w (FailPost w k b c j n now r) := by
  have HM := Lib.hid (made_calls hW (by omega))
  have HH := Lib.hid h
  have HW := Lib.hid hW
  obtain ⟨c0, c1, c2, c3⟩ := row4 hW
  have hlt := at_lt hW
  have hf := at_frozen hW 3
  clear hW
  cases hT : isT now with
  | false =>
    go_enter Try.func10, Try.ntmps10
    go_wp2_with fail
    refine HM.out.mono ?_
    rintro e w' ⟨rfl, m, rfl⟩
    go_wp2_with (go_at_call 17; refine (is_calls _ _).mono ?_; rintro e w' ⟨rfl, rfl⟩)
    go_ret2
    exact .inl ⟨hT, rfl, below_drew (Below.refl _ _)⟩
  | true =>
    have HC := Lib.hid (chk_ok h)
    have HT := Lib.hid hT
    have hl := low_rng h n
    have H3 := Lib.hid (total_at3 h n now r hT)
    have hlf := lf_rng (r := r) (m := j + 1) (by have := h.2.2.2.2.1; omega)
    obtain ⟨g1, g2, g3, g4, g5, g6⟩ := h
    go_enter Try.func10, Try.ntmps10
    go_wp2_with fail
    refine HM.out.mono ?_
    rintro e w' ⟨rfl, m, rfl⟩
    go_wp2_with (go_at_call 17; refine (is_calls _ _).mono ?_; rw [HT.out]; rintro e w' ⟨rfl, rfl⟩)
    refine (check_calls b c j _).mono ?_
    rintro e w1 ⟨rfl, hb⟩
    rw [HC.out]
    have B1 : Hid (Below w.heap.size w w1) := Lib.hid ((below_drew (Below.refl w.heap.size w) (q := m)).trans hb)
    clear hb c0 c1 c2 c3 hf
    have W1 := Lib.hid (HW.out.below B1.out)
    go_wp2_with fail
    obtain ⟨c0, c1, c2, c3⟩ := row4 W1.out
    go_region_held3 (fun w' => Below w1.heap.size w1 w' ∧ w'.cell? ⟨k, 0, none⟩ = some (.int .i64 b) ∧ w'.cell? ⟨k, 1, none⟩ = some (.int .i64 c) ∧ w'.cell? ⟨k, 2, none⟩ = some (.int .i64 j))
      (first
        | exact heldW W1.out (below_drew (Below.refl _ _))
        | exact heldW W1.out hb5
        | exact heldW W1.out (below_drew hb5))
      (first
        | (go_at_call 12; go_split_ands; refine (tries_calls hn (IsW.below W1.out (by assumption))).mono ?_; rintro e w5 ⟨rfl, mq, rfl⟩; have hb5 := below_drew (q := mq) (show Below w1.heap.size w1 _ by assumption))
        | (go_at_call 13; go_split_ands; refine (bounds_calls b c j HH.out n _).mono ?_; rintro e w5 ⟨rfl, hb5⟩; replace hb5 := Below.trans (by assumption) (hb5.mono (Below.size (by assumption)))))
    have B5 := Lib.hid (B1.out.trans (hb5.mono B1.out.size))
    have W5 := Lib.hid (HW.out.below B5.out)
    have hlt5 := at_lt W5.out
    have hf5 := at_frozen W5.out 3
    obtain ⟨d0, d1, d2, d3⟩ := row4 W5.out
    clear hb5 c0 c1 c2 c3 W1
    have HA := Lib.hid (left_calls r (j + 1) (by omega) (by omega))
    obtain ⟨lv, hlv⟩ : ∃ lv, lowR b c n = lv := ⟨_, rfl⟩
    obtain ⟨fv, hfv⟩ : ∃ fv, lf r (j + 1) = fv := ⟨_, rfl⟩
    obtain ⟨av, hav⟩ : ∃ av, atR b c j n now r = av := ⟨_, rfl⟩
    have hl := low_rng HH.out n
    have hlf := lf_rng (r := r) (m := j + 1) (by omega)
    rw [hlv] at hl
    rw [hfv] at hlf
    rw [hlv, hfv, hav] at H3
    rw [hlv]
    rw [hfv] at HA
    have HAV := Lib.hid hav
    clear hlv hfv hav
    go_wp2_with (go_at_call 19; refine (HA.out _).mono ?_; rintro e w' ⟨rfl, rfl⟩)
    refine (total_at _ 0 3 3 [now, lv, fv] _ (by simp) (by unfold maxLen; omega) (Nat.le_refl _) (fun i hi => ?_)).mono ?_
    · have hn2 := at_new w5 (.cells #[.int .i64 now, .int .i64 lv, .int .i64 fv] 3 (0, 0))
      rw [Nat.zero_add]
      rcases (by omega : i = 0 ∨ i = 1 ∨ i = 2) with rfl | rfl | rfl
      · exact at_cell hn2 0
      · exact at_cell hn2 1
      · exact at_cell hn2 2
    rintro e w6 ⟨rfl, rfl⟩
    rw [show List.take 3 [now, lv, fv] = [now, lv, fv] from rfl, H3.out]
    cases hA : isT av with
    | true =>
      rw [if_pos rfl]
      have HE := Lib.hid hA
      go_wp2_with fail
      go_ret2
      refine .inr (.inr ⟨HT.out, by rw [HAV.out]; exact HE.out, by rw [HAV.out]; rfl, ?_, ?_⟩)
      · exact at_old _ _ (at_set W5.out 3 _)
      · exact ((Out.ofNew (S := fun i => i = k) B5.out).setCell (p := ⟨k, 3, none⟩) (fun _ => rfl) _).alloc _
    | false =>
      rw [if_neg (by simp)]
      have HE := Lib.hid hA
      go_wp2_with fail
      go_ret2
      exact .inr (.inl ⟨HT.out, by rw [HAV.out]; exact HE.out, rfl, B5.out.alloc B5.out.size _⟩)
end Go.Proofs.Ytblmjacphhpekaa.Bkf

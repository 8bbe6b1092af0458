/-
  Layer 4 (ring): is a ring as the document's, walked.
-/
import Derived.Test.YtgbelgmnenbmcaaRingWorks
import Derived.Deep.RegionHeld3
import Derived.IntWalk
namespace Go.Proofs.Ytgbelgmnenbmcaa.Ring
open Go.RowKit Go.Proofs.Ytgbelgmnenbmcaa.Own

theorem one_fact {w w1 : World} {o : Obj} (h : Below (w.alloc o).heap.size (w.alloc o) w1) : w1.heap[w.heap.size]? = some o ∧ Below w.heap.size w w1 := by
  refine ⟨?_, ((Below.refl _ _).alloc (Nat.le_refl _) _).trans (h.mono (by simp))⟩
  rw [h.block w.heap.size (by simp)]; exact at_new _ _

section
variable {w0 w : World} {b most g : Nat} {all : List UInt8}

set_option maxHeartbeats 2000000 in
theorem same_calls (h : Mine w0 w b most g (all.drop g)) (i : Int) (hg : g ≤ all.length) :
    Calls Try.prog 16 #[.pointer (some ⟨b, 0, none⟩), .agg #[.string ⟨all.toArray⟩, .int .i64 g, .int .i64 most], .int .i64 i] w fun e w' => e = .returned (.bool true) ∧ Below w.heap.size w w' := by
  have hlen := h.1.len
  have l1 := hlen.1
  have l2 := hlen.2.1
  clear hlen
  have HT : Hid (∀ W, Calls Try.prog 22 #[.agg #[.string ⟨all.toArray⟩, .int .i64 g, .int .i64 most]] W fun e w' => e = .returned (.string ⟨(all.drop g).toArray⟩) ∧ Below W.heap.size W w') :=
    Lib.hid fun W => rtext_calls all g most hg W
  obtain ⟨t, ht⟩ : ∃ t, t = all.drop g := ⟨_, rfl⟩
  rw [← ht] at h HT l1
  clear ht
  have HM := Lib.hid h; clear h
  by_cases hi : 0 ≤ i ∧ i.toNat < t.length
  · obtain ⟨k, rfl⟩ : ∃ k : Nat, i = k := ⟨i.toNat, by omega⟩
    have hk : k < t.length := by omega
    go_enter Try.func16, Try.ntmps16
    go_wp2_with fail
    refine (HT.out _).mono ?_
    rintro e w1 ⟨rfl, hb1⟩
    obtain ⟨hr, hB⟩ := one_fact hb1
    clear hb1
    obtain ⟨c0, c1, c2⟩ := row3 hr
    have M1 := Lib.hid (HM.out.same hB)
    have B1 := Lib.hid hB
    have hlt : w.heap.size < w1.heap.size := at_lt hr
    clear hr hB
    have ha := M1.out.atB_ (k : Int)
    rw [show atB t (k : Int) = true from decide_eq_true hi, show atV t (k : Int) = (t[k].toNat : Int) by unfold atV; rw [dif_pos hi]; rfl] at ha
    have HA := Lib.hid ha; clear ha
    have k0 : (0 : Int) ≤ (k : Int) := by omega
    have k1 : (k : Int) < (t.length : Int) := by omega
    clear hi
    go_wp2_with (go_at_call 20; refine HA.out.mono ?_; rintro e w2 ⟨rfl, hb2⟩)
    have B2 := Lib.hid (B1.out.trans (hb2.mono (Nat.le_of_lt hlt)))
    have d1 : w2.cell? ⟨w.heap.size, 1, none⟩ = some (.int .i64 g) := by rw [hb2.cell hlt]; exact c1
    have d2 : w2.cell? ⟨w.heap.size, 2, none⟩ = some (.int .i64 most) := by rw [hb2.cell hlt]; exact c2
    have hlt2 := Nat.lt_of_lt_of_le hlt hb2.size
    have l3 : t.length ≤ 1048576 := by omega
    have kw : IntKind.i64.wrap ((most : Int) - (t.length : Int)) = (most : Int) - (t.length : Int) := IntWalk.i64_in _ (by omega)
    clear c0 c1 c2 hb2
    go_region_held3 (fun w' => Below w.heap.size w w' ∧ w.heap.size < w'.heap.size ∧ w'.cell? ⟨w.heap.size, 1, none⟩ = some (.int .i64 g) ∧ w'.cell? ⟨w.heap.size, 2, none⟩ = some (.int .i64 most))
      (first
        | exact ⟨B2.out.drew, hlt2, d1, d2⟩
        | (go_split_ands; exact ⟨Below.trans (by assumption) (hb5.mono (Nat.le_of_lt (by assumption))), Nat.lt_of_lt_of_le (by assumption) hb5.size, by rw [hb5.cell (by assumption)]; assumption, by rw [hb5.cell (by assumption)]; assumption⟩))
      (first
        | (go_at_call 17; go_split_ands; refine (Mine.textB (HM.out.same (by assumption))).mono ?_; rintro e w5 ⟨rfl, hb5⟩)
        | (go_at_call 19; go_split_ands; refine (Mine.lenB (HM.out.same (by assumption))).mono ?_; rintro e w5 ⟨rfl, hb5⟩)
        | (go_at_call 21; go_split_ands; refine (Mine.roomB (HM.out.same (by assumption))).mono ?_; rintro e w5 ⟨rfl, hb5⟩)
        | (go_at_call 18; go_split_ands; refine (Mine.wentB (HM.out.same (by assumption))).mono ?_; rintro e w5 ⟨rfl, hb5⟩))
    all_goals (go_wp2_with fail; go_ret; go_split_ands; exact ⟨rfl, by assumption⟩)
  · have ha : ∀ W, Mine w0 W b most g t → Calls Try.prog 20 #[.pointer (some ⟨b, 0, none⟩), .int .i64 i] W fun e w' => e = .returned (.tuple #[.int .u8 0, .bool false]) ∧ Below W.heap.size W w' := fun W hW => by
      have := hW.atB_ i
      rwa [show atB t i = false from decide_eq_false hi, show atV t i = 0 by unfold atV; rw [dif_neg hi]] at this
    have HA := Lib.hid ha; clear ha
    by_cases h0 : 0 ≤ i
    · have k1 : (t.length : Int) ≤ i := by omega
      clear hi
      go_enter Try.func16, Try.ntmps16
      go_wp2_with fail
      refine (HT.out _).mono ?_
      rintro e w1 ⟨rfl, hb1⟩
      obtain ⟨hr, hB⟩ := one_fact hb1
      clear hb1
      obtain ⟨c0, c1, c2⟩ := row3 hr
      have M1 := Lib.hid (HM.out.same hB)
      have B1 := Lib.hid hB
      have hlt : w.heap.size < w1.heap.size := at_lt hr
      clear hr hB
      go_wp2_with (go_at_call 20; refine (HA.out _ M1.out).mono ?_; rintro e w2 ⟨rfl, hb2⟩)
      have B2 := Lib.hid (B1.out.trans (hb2.mono (Nat.le_of_lt hlt)))
      have d1 : w2.cell? ⟨w.heap.size, 1, none⟩ = some (.int .i64 g) := by rw [hb2.cell hlt]; exact c1
      have d2 : w2.cell? ⟨w.heap.size, 2, none⟩ = some (.int .i64 most) := by rw [hb2.cell hlt]; exact c2
      have hlt2 := Nat.lt_of_lt_of_le hlt hb2.size
      have l3 : t.length ≤ 1048576 := by omega
      have kw : IntKind.i64.wrap ((most : Int) - (t.length : Int)) = (most : Int) - (t.length : Int) := IntWalk.i64_in _ (by omega)
      clear c0 c1 c2 hb2
      go_region_held3 (fun w' => Below w.heap.size w w' ∧ w.heap.size < w'.heap.size ∧ w'.cell? ⟨w.heap.size, 1, none⟩ = some (.int .i64 g) ∧ w'.cell? ⟨w.heap.size, 2, none⟩ = some (.int .i64 most))
        (first
          | exact ⟨B2.out.drew, hlt2, d1, d2⟩
          | (go_split_ands; exact ⟨Below.trans (by assumption) (hb5.mono (Nat.le_of_lt (by assumption))), Nat.lt_of_lt_of_le (by assumption) hb5.size, by rw [hb5.cell (by assumption)]; assumption, by rw [hb5.cell (by assumption)]; assumption⟩))
        (first
          | (go_at_call 17; go_split_ands; refine (Mine.textB (HM.out.same (by assumption))).mono ?_; rintro e w5 ⟨rfl, hb5⟩)
          | (go_at_call 19; go_split_ands; refine (Mine.lenB (HM.out.same (by assumption))).mono ?_; rintro e w5 ⟨rfl, hb5⟩)
          | (go_at_call 21; go_split_ands; refine (Mine.roomB (HM.out.same (by assumption))).mono ?_; rintro e w5 ⟨rfl, hb5⟩)
          | (go_at_call 18; go_split_ands; refine (Mine.wentB (HM.out.same (by assumption))).mono ?_; rintro e w5 ⟨rfl, hb5⟩))
      all_goals (go_wp2_with fail; go_ret; go_split_ands; exact ⟨rfl, by assumption⟩)
    · have k1 : i < 0 := by omega
      clear hi
      go_enter Try.func16, Try.ntmps16
      go_wp2_with fail
      refine (HT.out _).mono ?_
      rintro e w1 ⟨rfl, hb1⟩
      obtain ⟨hr, hB⟩ := one_fact hb1
      clear hb1
      obtain ⟨c0, c1, c2⟩ := row3 hr
      have M1 := Lib.hid (HM.out.same hB)
      have B1 := Lib.hid hB
      have hlt : w.heap.size < w1.heap.size := at_lt hr
      clear hr hB
      go_wp2_with (go_at_call 20; refine (HA.out _ M1.out).mono ?_; rintro e w2 ⟨rfl, hb2⟩)
      have B2 := Lib.hid (B1.out.trans (hb2.mono (Nat.le_of_lt hlt)))
      have d1 : w2.cell? ⟨w.heap.size, 1, none⟩ = some (.int .i64 g) := by rw [hb2.cell hlt]; exact c1
      have d2 : w2.cell? ⟨w.heap.size, 2, none⟩ = some (.int .i64 most) := by rw [hb2.cell hlt]; exact c2
      have hlt2 := Nat.lt_of_lt_of_le hlt hb2.size
      have l3 : t.length ≤ 1048576 := by omega
      have kw : IntKind.i64.wrap ((most : Int) - (t.length : Int)) = (most : Int) - (t.length : Int) := IntWalk.i64_in _ (by omega)
      clear c0 c1 c2 hb2
      go_region_held3 (fun w' => Below w.heap.size w w' ∧ w.heap.size < w'.heap.size ∧ w'.cell? ⟨w.heap.size, 1, none⟩ = some (.int .i64 g) ∧ w'.cell? ⟨w.heap.size, 2, none⟩ = some (.int .i64 most))
        (first
          | exact ⟨B2.out.drew, hlt2, d1, d2⟩
          | (go_split_ands; exact ⟨Below.trans (by assumption) (hb5.mono (Nat.le_of_lt (by assumption))), Nat.lt_of_lt_of_le (by assumption) hb5.size, by rw [hb5.cell (by assumption)]; assumption, by rw [hb5.cell (by assumption)]; assumption⟩))
        (first
          | (go_at_call 17; go_split_ands; refine (Mine.textB (HM.out.same (by assumption))).mono ?_; rintro e w5 ⟨rfl, hb5⟩)
          | (go_at_call 19; go_split_ands; refine (Mine.lenB (HM.out.same (by assumption))).mono ?_; rintro e w5 ⟨rfl, hb5⟩)
          | (go_at_call 21; go_split_ands; refine (Mine.roomB (HM.out.same (by assumption))).mono ?_; rintro e w5 ⟨rfl, hb5⟩)
          | (go_at_call 18; go_split_ands; refine (Mine.wentB (HM.out.same (by assumption))).mono ?_; rintro e w5 ⟨rfl, hb5⟩))
      all_goals (go_wp2_with fail; go_ret; go_split_ands; exact ⟨rfl, by assumption⟩)
end
end Go.Proofs.Ytgbelgmnenbmcaa.Ring

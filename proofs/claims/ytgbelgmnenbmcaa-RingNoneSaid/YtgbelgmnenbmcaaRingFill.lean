/-
  Layer 4 (ring): the program's within, fill, walked.
-/
import Derived.Test.YtgbelgmnenbmcaaRingLow
namespace Go.Proofs.Ytgbelgmnenbmcaa.Ring
open Go.RowKit Go.Proofs.Ytgbelgmnenbmcaa.Own

theorem info8 : (Try.prog.info? 5).map (·.size) = some 1 := by kernel_rfl

section
variable {w : World} {b : Nat} {q : Option Nat} {most gone f cnt : Nat} {L : List UInt8}

theorem within_raw (h : Raw w b q most gone f cnt L) (n : Int) (hc : cnt ≤ 1048576) :
    Calls Try.prog 24 #[.pointer (some ⟨b, 0, none⟩), .int .i64 n] w fun e w' => e = .returned (.int .i64 ((min n.toNat cnt : Nat) : Int)) ∧ w = w' := by
  have HR := Lib.hid h
  clear h
  by_cases h0 : n < 0
  · go_enter Try.func24, Try.ntmps24
    go_wp2_with (go_at_call 19; refine (len_raw HR.out).mono ?_; rintro e w' ⟨rfl, rfl⟩)
    all_goals (go_ret; exact ⟨ret_int (by first | omega | (split at * <;> omega)), rfl⟩)
  · obtain ⟨k, rfl⟩ : ∃ k : Nat, n = k := ⟨n.toNat, by omega⟩
    go_enter Try.func24, Try.ntmps24
    go_wp2_with (go_at_call 19; refine (len_raw HR.out).mono ?_; rintro e w' ⟨rfl, rfl⟩)
    all_goals (go_ret; exact ⟨ret_int (by first | omega | (split at * <;> omega)), rfl⟩)
/-- fill, where no byte lies behind the places' end -/
theorem fill_a (p : Nat) {t : List UInt8} (h : Raw w b (some p) most gone f t.length L) (hr : Reads L f t) (g o m cap : Nat) (cur : List Value) (T : TypeId)
    (hg : w.heap[g]? = some (.cells cur.toArray T (0, 0))) (gb : g ≠ b) (ho : o + m ≤ cur.length) (hm : m ≤ t.length) (hf : f < L.length) (hcap : m ≤ cap) (hle : m ≤ L.length - f) :
    Calls Try.prog 25 #[.pointer (some ⟨b, 0, none⟩), .slice (some ⟨g, o, none⟩) m cap] w fun e w' => e = .returned (.tuple #[]) ∧
      w'.heap[g]? = some (.cells (splice cur o (bv (t.take m))).toArray T (0, 0)) ∧ Out (fun k => k = g) w w' := by
  obtain ⟨c0, c1, c2, c3, c4⟩ := h.cells
  have hrow := h.row.1
  have l1 := h.m2
  have l2 := h.lm
  have hsrc : ∀ j v, (bv (t.take m))[j]? = some v → w.cell? ((⟨p, f, none⟩ : Addr).add j) = some v := by
    intro j v hv
    have hj : j < m := by
      have := (List.getElem?_eq_some_iff.1 hv).1; rw [bv_len] at this; simp at this; omega
    have ha : (⟨p, f, none⟩ : Addr).add j = ⟨p, f + j, none⟩ := by unfold Addr.add; split <;> simp_all
    rw [ha, at_cell hrow, List.getElem?_toArray, bv_get, reads_one hr hm hle hj, ← bv_get, hv]
  have hl : (bv (t.take m)).length = m := by rw [bv_len]; simp; omega
  have blt := h.lt
  have plt := h.ltq rfl
  have HR := Lib.hid h; clear h
  have HS := Lib.hid hsrc; clear hsrc
  have HG := Lib.hid hg; clear hg
  have HL := Lib.hid hl; clear hl
  have HO := Lib.hid hrow; clear hrow
  have HX := Lib.hid hr; clear hr
  unfold placeV at c1
  generalize L.length = n at *
  have i0 : (0 : Int) ≤ (f : Int) := by omega
  have i1 : (f : Int) ≤ (n : Int) := by omega
  go_enter Try.func25, Try.ntmps25
  go_wp2
  go_region_held3 (fun w' => w'.cell? ⟨b, 1, none⟩ = some (.slice (some ⟨p, 0, none⟩) n n) ∧ w'.cell? ⟨b, 2, none⟩ = some (.int .i64 f))
    (first
      | go_keep
      | exact ⟨by rw [hO1.cell blt (Ne.symm gb)]; assumption, by rw [hO1.cell blt (Ne.symm gb)]; assumption⟩)
    ((refine step_copy_out rfl _ _ _ _ rfl 5 Try.underlying51 info8 _ _ _ _ _ _ rfl rfl g o cur T HG.out (bv (t.take m)) m HL.out (by omega) (fun _ => ⟨rfl, ⟨p, f, none⟩, if_neg (Ne.symm (Nat.ne_of_lt hf)), HS.out⟩) ho (bv_one _) ?_; intro w1 hg1 hO1))
  have e1 : w1.cell? ⟨b, 1, none⟩ = some (.slice (some ⟨p, 0, none⟩) n n) := by rw [hO1.cell blt (Ne.symm gb)]; assumption
  have HO1 := Lib.hid hO1.ofDrew; clear hO1
  have j0 : (0 : Int) ≤ (m : Int) := by omega
  have j1 : (m : Int) ≤ (cap : Int) := by omega
  go_wp2
  go_region_held3 (fun w' => w'.cell? ⟨b, 1, none⟩ = some (.slice (some ⟨p, 0, none⟩) n n))
    (first
      | go_keep
      | (rw [hO2.cell (show b < w1.heap.size by have := HO1.out.size; omega) (Ne.symm gb)]; assumption))
    ((refine step_copy_out rfl _ _ _ _ rfl 5 Try.underlying51 info8 _ _ _ _ _ _ rfl rfl g 0 _ T hg1.out [] 0 rfl (by omega) (fun h => absurd h (by omega)) (by simp) (by simp) ?_; intro w2 hg2 hO2))
  go_wp2
  all_goals
    go_end0
    refine ⟨rfl, ?_, HO1.out.trans hO2.ofDrew (fun _ _ h => h)⟩
    have := hg2.out
    rwa [splice_nil] at this
/-- fill, where bytes lie behind the places' end -/
theorem fill_b (p : Nat) {t : List UInt8} (h : Raw w b (some p) most gone f t.length L) (hr : Reads L f t) (g o m cap : Nat) (cur : List Value) (T : TypeId)
    (hg : w.heap[g]? = some (.cells cur.toArray T (0, 0))) (gb : g ≠ b) (gp : g ≠ p) (ho : o + m ≤ cur.length) (hm : m ≤ t.length) (hf : f < L.length) (hcap : m ≤ cap) (hcm : cap ≤ 1048576) (hgt : L.length - f < m) :
    Calls Try.prog 25 #[.pointer (some ⟨b, 0, none⟩), .slice (some ⟨g, o, none⟩) m cap] w fun e w' => e = .returned (.tuple #[]) ∧
      w'.heap[g]? = some (.cells (splice cur o (bv (t.take m))).toArray T (0, 0)) ∧ Out (fun k => k = g) w w' := by
  obtain ⟨c0, c1, c2, c3, c4⟩ := h.cells
  have hrow := h.row.1
  have l1 := h.m2
  have l2 := h.lm
  have hnl := hr.1
  have hsrc : ∀ j v, (bv (t.take (L.length - f)))[j]? = some v → w.cell? ((⟨p, f, none⟩ : Addr).add j) = some v := by
    intro j v hv
    have hj : j < L.length - f := by
      have := (List.getElem?_eq_some_iff.1 hv).1; rw [bv_len] at this; simp at this; omega
    have ha : (⟨p, f, none⟩ : Addr).add j = ⟨p, f + j, none⟩ := by unfold Addr.add; split <;> simp_all
    rw [ha, at_cell hrow, List.getElem?_toArray, bv_get, reads_one hr (by omega) (Nat.le_refl _) hj, ← bv_get, hv]
  have hl : (bv (t.take (L.length - f))).length = L.length - f := by rw [bv_len]; simp; omega
  have hsrc2 : ∀ j v, (bv ((t.take m).drop (L.length - f)))[j]? = some v → w.cell? ((⟨p, 0, none⟩ : Addr).add j) = some v := by
    intro j v hv
    have hj : j < m - (L.length - f) := by
      have := (List.getElem?_eq_some_iff.1 hv).1; rw [bv_len] at this; simp at this; omega
    have ha : (⟨p, 0, none⟩ : Addr).add j = ⟨p, j, none⟩ := by unfold Addr.add; split <;> simp_all
    rw [ha, at_cell hrow, List.getElem?_toArray, bv_get, reads_two hr hm (by omega) hj, ← bv_get, hv]
  have hl2 : (bv ((t.take m).drop (L.length - f))).length = m - (L.length - f) := by rw [bv_len]; simp; omega
  have hfin : splice (splice cur o (bv (t.take (L.length - f)))) (o + (L.length - f)) (bv ((t.take m).drop (L.length - f))) = splice cur o (bv (t.take m)) := by
    have := splice_two cur (bv (t.take (L.length - f))) (bv ((t.take m).drop (L.length - f))) o (by rw [hl, hl2]; omega)
    rw [hl] at this
    rw [this, ← bv_app]
    congr 2
    have e := List.take_append_drop (L.length - f) (t.take m)
    rw [List.take_take, Nat.min_eq_left (by omega)] at e
    exact e
  have blt := h.lt
  have plt := h.ltq rfl
  have HR := Lib.hid h; clear h
  have HS := Lib.hid hsrc; clear hsrc
  have HG := Lib.hid hg; clear hg
  have HL := Lib.hid hl; clear hl
  have HO := Lib.hid hrow; clear hrow
  have HX := Lib.hid hr; clear hr
  have HS2 := Lib.hid hsrc2; clear hsrc2
  have HL2 := Lib.hid hl2; clear hl2
  have HF := Lib.hid hfin; clear hfin
  unfold placeV at c1
  generalize L.length = n at *
  have i0 : (0 : Int) ≤ (f : Int) := by omega
  have i1 : (f : Int) ≤ (n : Int) := by omega
  go_enter Try.func25, Try.ntmps25
  go_wp2
  go_region_held3 (fun w' => w'.cell? ⟨b, 1, none⟩ = some (.slice (some ⟨p, 0, none⟩) n n) ∧ w'.cell? ⟨b, 2, none⟩ = some (.int .i64 f))
    (first
      | go_keep
      | exact ⟨by rw [hO1.cell blt (Ne.symm gb)]; assumption, by rw [hO1.cell blt (Ne.symm gb)]; assumption⟩)
    ((refine step_copy_out rfl _ _ _ _ rfl 5 Try.underlying51 info8 _ _ _ _ _ _ rfl rfl g o cur T HG.out (bv (t.take (n - f))) (n - f) HL.out (by omega) (fun _ => ⟨rfl, ⟨p, f, none⟩, if_neg (Ne.symm (Nat.ne_of_lt hf)), HS.out⟩) (by omega) (bv_one _) ?_; intro w1 hg1 hO1))
  have e1 : w1.cell? ⟨b, 1, none⟩ = some (.slice (some ⟨p, 0, none⟩) n n) := by rw [hO1.cell blt (Ne.symm gb)]; assumption
  have HO1 := Lib.hid hO1.ofDrew; clear hO1
  have j0 : (0 : Int) ≤ ((n - f : Nat) : Int) := by omega
  have j1 : ((n - f : Nat) : Int) ≤ (cap : Int) := by omega
  have j2 : ((n - f : Nat) : Int) ≤ (m : Int) := by omega
  have HC : Hid (∀ j v, (bv ((t.take m).drop (n - f)))[j]? = some v → w1.cell? ((⟨p, 0, none⟩ : Addr).add j) = some v) := Lib.hid fun j v hv => by
    have ha : (⟨p, 0, none⟩ : Addr).add j = ⟨p, j, none⟩ := by unfold Addr.add; split <;> simp_all
    have := HS2.out j v hv
    rw [ha] at this ⊢
    rw [HO1.out.cell plt (Ne.symm gp)]; exact this
  go_wp2
  go_region_held3 (fun w' => w'.cell? ⟨b, 1, none⟩ = some (.slice (some ⟨p, 0, none⟩) n n))
    (first
      | go_keep
      | (rw [hO2.cell (show b < w1.heap.size by have := HO1.out.size; omega) (Ne.symm gb)]; assumption))
    ((refine step_copy_out rfl _ _ _ _ rfl 5 Try.underlying51 info8 _ _ _ _ _ _ rfl rfl g (o + (n - f)) _ T hg1.out (bv ((t.take m).drop (n - f))) (m - (n - f)) HL2.out (by omega) (fun _ => ⟨if_neg (by omega), ⟨p, 0, none⟩, rfl, HC.out⟩) (by rw [length_splice _ _ _ (by rw [HL.out]; omega)]; omega) (bv_one _) ?_; intro w2 hg2 hO2))
  go_wp2
  all_goals
    go_end0
    refine ⟨rfl, ?_, HO1.out.trans hO2.ofDrew (fun _ _ h => h)⟩
    have := hg2.out
    rwa [HF.out] at this

theorem fill_raw (p : Nat) {t : List UInt8} (h : Raw w b (some p) most gone f t.length L) (hr : Reads L f t) (g o m cap : Nat) (cur : List Value) (T : TypeId)
    (hg : w.heap[g]? = some (.cells cur.toArray T (0, 0))) (gb : g ≠ b) (gp : g ≠ p) (ho : o + m ≤ cur.length) (hm : m ≤ t.length) (hf : f < L.length) (hcap : m ≤ cap) (hcm : cap ≤ 1048576) :
    Calls Try.prog 25 #[.pointer (some ⟨b, 0, none⟩), .slice (some ⟨g, o, none⟩) m cap] w fun e w' => e = .returned (.tuple #[]) ∧
      w'.heap[g]? = some (.cells (splice cur o (bv (t.take m))).toArray T (0, 0)) ∧ Out (fun k => k = g) w w' := by
  by_cases hle : m ≤ L.length - f
  · exact fill_a p h hr g o m cap cur T hg gb ho hm hf hcap hle
  · exact fill_b p h hr g o m cap cur T hg gb gp ho hm hf hcap hcm (by omega)

/-- fill of a ring that has no place yet -/
theorem fill_nil (h : Raw w b none most gone 0 0 L) (g cap : Nat) (cur : List Value) (T : TypeId) (hg : w.heap[g]? = some (.cells cur.toArray T (0, 0))) (gb : g ≠ b) :
    Calls Try.prog 25 #[.pointer (some ⟨b, 0, none⟩), .slice (some ⟨g, 0, none⟩) 0 cap] w fun e w' => e = .returned (.tuple #[]) ∧
      w'.heap[g]? = some (.cells cur.toArray T (0, 0)) ∧ Out (fun k => k = g) w w' := by
  obtain ⟨c0, c1, c2, c3, c4⟩ := h.cells
  have blt := h.lt
  have HG := Lib.hid hg; clear hg
  unfold placeV at c1
  clear h
  go_enter Try.func25, Try.ntmps25
  go_wp2
  go_region_held3 (fun w' => w'.cell? ⟨b, 1, none⟩ = some (.slice none 0 0) ∧ w'.cell? ⟨b, 2, none⟩ = some (.int .i64 0))
    (first
      | go_keep
      | exact ⟨by rw [hO1.cell blt (Ne.symm gb)]; assumption, by rw [hO1.cell blt (Ne.symm gb)]; assumption⟩)
    ((refine step_copy_out rfl _ _ _ _ rfl 5 Try.underlying51 info8 _ _ _ _ _ _ rfl rfl g 0 cur T HG.out [] 0 rfl (by omega) (fun h => absurd h (by omega)) (by simp) (by simp) ?_; intro w1 hg1 hO1))
  have e1 : w1.cell? ⟨b, 1, none⟩ = some (.slice none 0 0) := by rw [hO1.cell blt (Ne.symm gb)]; assumption
  have HO1 := Lib.hid hO1.ofDrew; clear hO1
  have j0 : (0 : Int) ≤ (cap : Int) := by omega
  go_wp2
  go_region_held3 (fun w' => w'.cell? ⟨b, 1, none⟩ = some (.slice none 0 0))
    (first
      | go_keep
      | (rw [hO2.cell (show b < w1.heap.size by have := HO1.out.size; omega) (Ne.symm gb)]; assumption))
    ((refine step_copy_out rfl _ _ _ _ rfl 5 Try.underlying51 info8 _ _ _ _ _ _ rfl rfl g 0 _ T hg1.out [] 0 rfl (by omega) (fun h => absurd h (by omega)) (by simp) (by simp) ?_; intro w2 hg2 hO2))
  go_wp2
  all_goals
    go_end0
    refine ⟨rfl, ?_, HO1.out.trans hO2.ofDrew (fun _ _ h => h)⟩
    have := hg2.out
    rwa [splice_nil, splice_nil] at this
end
end Go.Proofs.Ytgbelgmnenbmcaa.Ring

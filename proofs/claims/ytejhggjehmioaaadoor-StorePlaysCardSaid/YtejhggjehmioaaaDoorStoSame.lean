/-
  Layer 11 (store): the law's own comparison of a store and the document's.
-/
import Derived.Test.YtejhggjehmioaaaDoorStoDoes
import Derived.Test.YtejhggjehmioaaaDoorStoRef2
import Derived.Deep.RegionHeld3
namespace Go.Proofs.YtejhggjehmioaaaDoor.Sto
open Go.RowKit Go.Proofs.YtejhggjehmioaaaDoor.Own Go.Proofs.YtejhggjehmioaaaDoor.KM
open Go.Proofs.YtejhggjehmioaaaDoor.Rw (str strs Row1 below_drew)

theorem held3 {w1 w' : World} {B : Nat} {x y z : Value} (hb : Below w1.heap.size w1 w') (hl : B < w1.heap.size) (x0 : w1.cell? ⟨B, 0, none⟩ = some x) (x1 : w1.cell? ⟨B, 1, none⟩ = some y) (x2 : w1.cell? ⟨B, 2, none⟩ = some z) :
    Below w1.heap.size w1 w' ∧ w'.cell? ⟨B, 0, none⟩ = some x ∧ w'.cell? ⟨B, 1, none⟩ = some y ∧ w'.cell? ⟨B, 2, none⟩ = some z :=
  ⟨hb, (hb.cell hl).trans x0, (hb.cell hl).trans x1, (hb.cell hl).trans x2⟩

set_option maxRecDepth 100000 in
set_option maxHeartbeats 8000000 in
theorem same_calls {w : World} {bs : Nat → Prop} {b : Nat} {t : St} (h : Sto w bs b t) (p : Option Addr) (c n : Nat) (hn : t.L.length = n) (hN : n ≤ 1000000) (most bad : Int) (hF : Fs w p c t.L) :
    Calls Tryd.prog 14 #[pb b, rv p n c most bad] w fun e w' => e = .returned (.bool true) ∧ Below w.heap.size w w' := by
  have H := Lib.hid h
  have HF := Lib.hid hF
  have HN := Lib.hid hn
  obtain ⟨t0, t1⟩ := tot_top h.ok
  have hc := hF.cap
  have hm := hF.max
  rw [hn] at hc
  have hbA := (Below.refl w.heap.size w).alloc (Nat.le_refl _) (.cells #[.slice p n c, .int .i64 most, .int .i64 bad] 33 (0, 0))
  have hNm := sto_names (h.below hbA) (by omega)
  rw [hn] at hNm
  have HNm := Lib.hid hNm
  have HA := Lib.hid hbA
  have N1 := Lib.hid (at_new w (.cells #[.slice p n c, .int .i64 most, .int .i64 bad] 33 (0, 0)))
  have hRis := Lib.hid h.ok.rise
  clear h hF hn hbA hNm
  go_enter Tryd.func14, Tryd.ntmps14
  go_wp2_with fail
  refine HNm.out.mono ?_
  rintro e w1 ⟨v, rfl, hr1, hb1⟩
  obtain ⟨pv, cv, rfl, hT⟩ := Rw.owns_row hr1 (by have := hr1.1; omega)
  have hcv := hT.cap
  have hmv := hT.max
  have hb1' := hb1
  have N2 := Lib.hid ((hb1.block _ (at_lt N1.out)).trans N1.out)
  have HA1 := Lib.hid (HA.out.trans (hb1.mono (by simp)))
  have hnm : Hid (∀ i (hi : i < t.L.length), ∃ g, pv = some ⟨g, 0, none⟩ ∧ g < w1.heap.size ∧ w1.cell? ⟨g, i, none⟩ = some (str t.L[i].nm)) := by
    refine Lib.hid fun i hi => ?_
    have hiN : i < n := by rw [← HN.out]; exact hi
    obtain ⟨g, c', e, hg1, hg2, _, _⟩ := Rw.own_shape hr1 (by omega)
    cases e
    refine ⟨g, rfl, hg2, ?_⟩
    refine Rw.own_cell hr1 rfl ?_
    rw [Rw.strs_at (by simpa using hi)]
    simp only [List.getElem_map]
  clear hr1 hb1 hb1' hT N1 HNm
  have x0 := (at_cell N2.out 0 : _ = some _)
  have x1 := (at_cell N2.out 1 : _ = some _)
  have x2 := (at_cell N2.out 2 : _ = some _)
  have hlt := at_lt N2.out
  have q0 : ((n : Int) != (n : Int)) = false := by simp
  have q2 : (n : Int) ≤ 9223372036854775807 := by unfold maxLen at hm; omega
  have hTot : Hid (∀ W, Below w1.heap.size w1 W → Calls Tryd.prog 23 #[pb b] W fun e w' => e = .returned (.int .i64 (tot t.L : Nat)) ∧ W = w') :=
    Lib.hid fun W hW => sto_total (H.out.below (HA1.out.trans (hW.mono HA1.out.size)))
  have hRt : Hid (∀ W, Below w1.heap.size w1 W → Calls Tryd.prog 36 #[rv p n c most bad] W fun e w' => e = .returned (.int .i64 (tot t.L : Nat)) ∧ Below W.heap.size W w') :=
    Lib.hid fun W hW => total_ref t.L p c n HN.out most bad W (HF.out.below (HA1.out.trans (hW.mono HA1.out.size))) (by omega)
  obtain ⟨T, hTT⟩ : ∃ T, ((tot t.L : Nat) : Int) = T := ⟨_, rfl⟩
  rw [hTT] at hTot hRt t0 t1
  clear hTT
  go_wp2_with fail
  have B2 : Hid (Below w1.heap.size w1 w1) := Lib.hid (Below.refl _ _)
  go_region_held3 (fun w' => Below w1.heap.size w1 w' ∧ w'.cell? ⟨w.heap.size, 0, none⟩ = some (.slice p n c) ∧ w'.cell? ⟨w.heap.size, 1, none⟩ = some (.int .i64 most) ∧ w'.cell? ⟨w.heap.size, 2, none⟩ = some (.int .i64 bad))
    (first
      | exact held3 (below_drew (Below.refl _ _)) hlt x0 x1 x2
      | exact held3 hb5 hlt x0 x1 x2)
    (first
      | (go_at_call 23; go_split_ands; refine (hTot.out _ (by assumption)).mono ?_; rintro e w5 ⟨rfl, rfl⟩)
      | (go_at_call 36; go_split_ands; refine (hRt.out _ (by assumption)).mono ?_; rintro e w5 ⟨rfl, hb5⟩; replace hb5 := Below.trans (by assumption) (hb5.mono (Below.size (by assumption)))))
  clear hTot hRt t0 t1 x0 x1 x2 B2
  rename_i hH
  clear hH
  have HB5 := Lib.hid hb5
  go_wp2_with fail
  go_loopw [6, 7, 8, 9, 10] (fun i _ _ _ _ wr => ∃ k : Nat, k ≤ n ∧ i = .int .i64 k ∧ Below w5.heap.size w5 wr) (fun i _ _ _ _ _ => n - (intOf i).toNat)
  case atStart => exact ⟨0, by omega, rfl, Below.refl _ _⟩
  case round =>
    rename World => wo
    obtain ⟨k, hk, rfl, C⟩ := hrel
    have hW1 : Hid (Below w1.heap.size w1 wo) := Lib.hid (HB5.out.trans (C.mono HB5.out.size))
    have hW0 : Hid (Below w.heap.size w wo) := Lib.hid (HA1.out.trans (hW1.out.mono HA1.out.size))
    by_cases hlt2 : k < n
    · have hkL : k < t.L.length := by rw [HN.out]; exact hlt2
      obtain ⟨g, rfl, hgl, hgc⟩ := hnm.out k hkL
      obtain ⟨b2, o, rfl, hbl, -, -, -⟩ := HF.out.at_ hkL
      obtain ⟨x, hx⟩ : ∃ s : ByteArray, s = ⟨(t.L[k].nm).toArray⟩ := ⟨_, rfl⟩
      obtain ⟨y, hy⟩ : ∃ s : ByteArray, s = ⟨(t.L[k].bs).toArray⟩ := ⟨_, rfl⟩
      obtain ⟨S, hS⟩ : ∃ s : Int, s = (t.L[k].sure : Int) := ⟨_, rfl⟩
      have hxn : x.data.toList = t.L[k].nm := by rw [hx]
      have hlk : flk t.L x.data.toList = some t.L[k] := hRis.out.lk.2 ⟨List.getElem_mem hkL, hxn.symm⟩
      have hxs : x.size ≤ maxLen := by
        have := isNm_len (H.out.ok.names _ (List.getElem_mem hkL))
        rw [← hxn] at this
        have e : x.data.toList.length = x.size := rfl
        unfold maxLen; omega
      have hRd : Hid (∀ W, Below wo.heap.size wo W → Calls Tryd.prog 16 #[pb b, .string x] W fun e w' => e = .returned (.tuple #[.string y, .bool true]) ∧ Below W.heap.size W w') := Lib.hid fun W hW => by
        have := sto_read (H.out.below (hW0.out.trans (hW.mono hW0.out.size))) x hxs
        rwa [hlk, got_some hlk, ← hy] at this
      have hys : y.size = t.L[k].bs.length := by rw [hy]; rfl
      have hSz : Hid (∀ W, Below wo.heap.size wo W → Calls Tryd.prog 17 #[pb b, .string x] W fun e w' => e = .returned (.tuple #[.int .i64 (y.size : Int), .int .i64 S]) ∧ Below W.heap.size W w') := Lib.hid fun W hW => by
        have := sto_size (H.out.below (hW0.out.trans (hW.mono hW0.out.size))) x hxs
        rwa [got_some hlk, ← hS, ← hys] at this
      have hCells : Hid (∀ W, Below wo.heap.size wo W → W.cell? ⟨g, k, none⟩ = some (.string x) ∧ W.cell? ⟨w.heap.size, 0, none⟩ = some (.slice (some ⟨b2, o, none⟩) n c) ∧ W.cell? ⟨b2, o + k * 3, none⟩ = some (.string x) ∧ W.cell? ⟨b2, o + k * 3 + 1, none⟩ = some (.string y) ∧ W.cell? ⟨b2, o + k * 3 + 2, none⟩ = some (.int .i64 S)) := Lib.hid fun W hW => by
        have e1 := hW1.out.trans (hW.mono hW1.out.size)
        have e2 := hW0.out.trans (hW.mono hW0.out.size)
        obtain ⟨b3, o3, e3, _, c0, c1, c2⟩ := (HF.out.below e2).at_ hkL
        cases e3
        refine ⟨(e1.cell (p := ⟨g, k, none⟩) hgl).trans (by rw [hgc, hx]; rfl), (e1.cell (p := ⟨w.heap.size, 0, none⟩) hlt).trans (at_cell N2.out 0), by rw [c0, hx]; rfl, by rw [c1, hy]; rfl, by rw [c2, hS]⟩
      obtain ⟨d0, -, -, -, -⟩ := hCells.out wo (Below.refl _ _)
      have q1 : (k : Int) < (n : Int) := by omega
      have q3 : (y.size : Int) ≤ 9223372036854775807 := by
        have := len_tot (List.getElem_mem hkL)
        have := tot_top H.out.ok
        omega
      clear hx hy hS hxn hlk hys hgc hnm
      go_wp2_with fail
      refine (hRd.out _ (Below.refl _ _)).mono ?_
      rintro e w6 ⟨rfl, hb6⟩
      clear d0
      obtain ⟨d0, -, -, -, -⟩ := hCells.out w6 hb6
      have H6 := Lib.hid hb6
      clear hb6
      go_wp2_with fail
      refine (hSz.out _ H6.out).mono ?_
      rintro e w7 ⟨rfl, hb7⟩
      have H7 : Hid (Below wo.heap.size wo w7) := Lib.hid (H6.out.trans (hb7.mono H6.out.size))
      clear d0 hb7
      obtain ⟨d0, d1, d2, d3, d4⟩ := hCells.out w7 H7.out
      have z1 : (x.toList == x.toList) = true := text_same rfl
      have z2 : (y.toList == y.toList) = true := text_same rfl
      clear hRd hSz hCells
      go_wp2_with fail
      go_quiet (fail)
      go_wp2_with fail
      go_roundw
      case rel => exact ⟨k + 1, by omega, by go_num, below_drew (C.trans (H7.out.mono C.size))⟩
      case measure => simp [intOf]; omega
    · have q1 : ¬ (k : Int) < (n : Int) := by omega
      go_wp2_with fail
      go_ret
      exact ⟨rfl, hW0.out⟩
end Go.Proofs.YtejhggjehmioaaaDoor.Sto

/-
  Layer 16 (rights): Pick.
-/
import Derived.Test.YtomnkmcabkoagaaRgtPick
namespace Go.Proofs.Ytomnkmcabkoagaa.Rgt
open Go.RowKit Go.Proofs.Ytomnkmcabkoagaa.Own Go.Proofs.Ytomnkmcabkoagaa.Rw Go.Proofs.Ytomnkmcabkoagaa.Tree Go.Proofs.Ytomnkmcabkoagaa.Conf

theorem pk_yes {c : Cf} {u n : Bs} {x : Cn} (h : c.cons.find? (nmF n) = some x) (hs : sees c.accs u x = true) : pickM c u n = (idx c.cons (nmF n), 0) := by unfold pickM; rw [h]; simp [hs]
theorem pk_one {c : Cf} {u n : Bs} {i : Nat} (h : ∀ x, c.cons.find? (nmF n) = some x → sees c.accs u x = false) (hb : begM c u n = [i]) : pickM c u n = ((i : Int), 0) := by
  unfold pickM
  split
  · rename_i x hx
    rw [h x hx, hb]; rfl
  · rw [hb]
theorem pk_many {c : Cf} {u n : Bs} {i j : Nat} {r : List Nat} (h : ∀ x, c.cons.find? (nmF n) = some x → sees c.accs u x = false) (hb : begM c u n = i :: j :: r) : pickM c u n = (-1, 8) := by
  unfold pickM
  split
  · rename_i x hx
    rw [h x hx, hb]; rfl
  · rw [hb]
theorem pk_denied {c : Cf} {u n : Bs} {x : Cn} (h : c.cons.find? (nmF n) = some x) (hs : sees c.accs u x = false) (hb : begM c u n = []) : pickM c u n = (-1, 10) := by unfold pickM; rw [h, hb]; simp [hs]
theorem pk_none {c : Cf} {u n : Bs} (h : c.cons.find? (nmF n) = none) (hb : begM c u n = []) : pickM c u n = (-1, 7) := by unfold pickM; rw [h, hb]
set_option maxRecDepth 100000 in
set_option maxHeartbeats 4000000 in
theorem Pick_calls (c : Cf) (us u : Bs) (hu : us.length ≤ 65536) (hx : ∀ x ∈ c.cons, x.name.length ≤ 65536) (p0 p3 : Option Addr) (k0 n0 k3 n3 : Nat) (v1 v2 : Value) (b0 b1 b2 b3 b4 b5 b6 b7 b8 b9 : Bs) (hn0 : n0 = c.cons.length) (hm0 : n0 ≤ 65536) (hn : n3 = c.accs.length) (hm : n3 ≤ 65536) (w : World) (h0 : Rd w 10 p0 k0 n0 (c.cons.flatMap cnv)) (h : Rd w 3 p3 k3 n3 (c.accs.flatMap acv)) :
    Calls Try.prog 19 #[confV (.slice p0 n0 k0) v1 v2 (.slice p3 n3 k3) b0 b1 b2 b3 b4 b5 b6 b7 b8 b9, .string ⟨us.toArray⟩, .string ⟨u.toArray⟩] w fun e w' => e = .returned (.tuple #[.int .i64 (pickM c us u).1, .int .i64 (pickM c us u).2]) ∧ Below w.heap.size w w' := by
  have hA := (Below.refl w.heap.size w).alloc (Nat.le_refl _) (.cells #[.slice p0 n0 k0, v1, v2, .slice p3 n3 k3, .string ⟨b0.toArray⟩, .string ⟨b1.toArray⟩, .string ⟨b2.toArray⟩, .string ⟨b3.toArray⟩, .string ⟨b4.toArray⟩, .string ⟨b5.toArray⟩, .string ⟨b6.toArray⟩, .string ⟨b7.toArray⟩, .string ⟨b8.toArray⟩, .string ⟨b9.toArray⟩] 28)
  have nA := at_new w (.cells #[.slice p0 n0 k0, v1, v2, .slice p3 n3 k3, .string ⟨b0.toArray⟩, .string ⟨b1.toArray⟩, .string ⟨b2.toArray⟩, .string ⟨b3.toArray⟩, .string ⟨b4.toArray⟩, .string ⟨b5.toArray⟩, .string ⟨b6.toArray⟩, .string ⟨b7.toArray⟩, .string ⟨b8.toArray⟩, .string ⟨b9.toArray⟩] 28)
  generalize hW : (w.alloc (.cells #[.slice p0 n0 k0, v1, v2, .slice p3 n3 k3, .string ⟨b0.toArray⟩, .string ⟨b1.toArray⟩, .string ⟨b2.toArray⟩, .string ⟨b3.toArray⟩, .string ⟨b4.toArray⟩, .string ⟨b5.toArray⟩, .string ⟨b6.toArray⟩, .string ⟨b7.toArray⟩, .string ⟨b8.toArray⟩, .string ⟨b9.toArray⟩] 28)) = W at hA nA
  have hs : W.heap.size = w.heap.size + 1 := by rw [← hW]; simp
  have hA2 := hA.alloc hA.size (.cells #[.string ⟨u.toArray⟩] 9)
  have nA2 : (W.alloc (.cells #[.string ⟨u.toArray⟩] 9)).cell? ⟨w.heap.size + 1, 0, none⟩ = some (.string ⟨u.toArray⟩) := by
    rw [← hs]; exact at_cell (at_new W _) 0
  have nA3 : (W.alloc (.cells #[.string ⟨u.toArray⟩] 9)).heap[w.heap.size]? = some (.cells #[.slice p0 n0 k0, v1, v2, .slice p3 n3 k3, .string ⟨b0.toArray⟩, .string ⟨b1.toArray⟩, .string ⟨b2.toArray⟩, .string ⟨b3.toArray⟩, .string ⟨b4.toArray⟩, .string ⟨b5.toArray⟩, .string ⟨b6.toArray⟩, .string ⟨b7.toArray⟩, .string ⟨b8.toArray⟩, .string ⟨b9.toArray⟩] 28 (0, 0)) := at_old W _ nA
  have hs2 : (W.alloc (.cells #[.string ⟨u.toArray⟩] 9)).heap.size = w.heap.size + 2 := by simp [hs]
  have HS := Lib.hid (seenBy_calls c.accs us hu p3 k3 n3 (.slice p0 n0 k0) v1 v2 b0 b1 b2 b3 b4 b5 b6 b7 b8 b9 hn hm _ (h.below hA2))
  have HF := Lib.hid (fun (w' : World) (hb : Below w.heap.size w w') => find_calls c.cons u p0 k0 v1 v2 (.slice p3 n3 k3) b0 b1 b2 b3 b4 b5 b6 b7 b8 b9 n0 hn0 w' (h0.below hb))
  have HPL := Lib.hid (fun (w' : World) (hb : Below w.heap.size w w') (g gs : Nat) (hs : SeV w' p3 n3 k3 c.accs us gs) (hg : g < w'.heap.size) (hc : w'.cell? ⟨g, 0, none⟩ = some (.string ⟨u.toArray⟩)) (h2 : Nat) (hh : h2 < w'.heap.size) (hc2 : w'.cell? ⟨h2, 0, none⟩ = some (seF gs)) =>
    placesC2_calls c.cons (fun x => begs u x && sees c.accs us x) 37 (enters_of Try.func37 (by kernel_rfl) rfl) ⟨g, 0, none⟩ ⟨h2, 0, none⟩ p0 k0 n0 hn0 hm0 w' (h0.below hb)
      (fun x hx1 w2 hb2 => pick1_calls c.accs us u x (hx x hx1) p3 k3 n3 g h2 gs w2 ((h.below hb).below hb2) (hs.below hb2) (Nat.lt_of_lt_of_le hg hb2.size) ((hb2.cell (p := ⟨g, 0, none⟩) hg).trans hc) (Nat.lt_of_lt_of_le hh hb2.size) ((hb2.cell (p := ⟨h2, 0, none⟩) hh).trans hc2)))
  have HA2 := Lib.hid hA2
  have NA2 := Lib.hid nA2
  have NA3 := Lib.hid nA3
  have HS2 := Lib.hid hs2
  have HR := Lib.hid h0
  have HN := Lib.hid hn0
  have hcap := h0.cap
  have HSE := Lib.hid (fun (w' : World) (hb : Below w.heap.size w w') (x : Cn) (hx1 : x ∈ c.cons) (gs : Nat) (hs : SeV w' p3 n3 k3 c.accs us gs) => see_calls c.accs us x (hx x hx1) p3 k3 n3 gs w' (h.below hb) hs)
  clear hA nA hA2 nA2 nA3 hs2 hn h hs hn0 h0
  rw [← hW] at HS HA2 NA3 NA2 HS2
  clear hW
  unfold confV at *
  go_enter Try.func19, Try.ntmps19
  go_wp2_with fail
  refine HS.out.mono ?_
  rintro e w5 ⟨gs, rfl, hsv, hb5⟩
  have hB5 := HA2.out.trans (hb5.mono HA2.out.size)
  have N5 := (hb5.block _ (at_lt NA3.out)).trans NA3.out
  have M5 := (hb5.cell (p := ⟨w.heap.size + 1, 0, none⟩) (by rw [HS2.out]; show w.heap.size + 1 < _; omega)).trans NA2.out
  have l5 : w.heap.size + 1 < w5.heap.size := by have := hb5.size; have := HS2.out; omega
  have hbF := (Below.refl w5.heap.size w5).alloc (Nat.le_refl _) (.cells #[seF gs] 60)
  have nF := at_new w5 (.cells #[seF gs] 60)
  have N6 := at_old w5 (.cells #[seF gs] 60) N5
  have M6 := (hbF.cell (p := ⟨w.heap.size + 1, 0, none⟩) l5).trans M5
  have s6 : (w5.alloc (.cells #[seF gs] 60)).heap.size = w5.heap.size + 1 := by simp
  have V6 := hsv.below hbF
  have HFI := Lib.hid (HF.out _ (hB5.trans (hbF.mono hB5.size)))
  have HB6 := Lib.hid (hB5.trans (hbF.mono hB5.size))
  have HN6 := Lib.hid N6
  have HM6 := Lib.hid M6
  have HNF := Lib.hid nF
  have HV6 := Lib.hid V6
  have HS6 := Lib.hid s6
  have y0 := (at_cell N6 0 : _ = some (Value.slice p0 n0 k0))
  have y1 := (at_cell N6 1 : _ = some (v1))
  have y2 := (at_cell N6 2 : _ = some (v2))
  have y3 := (at_cell N6 3 : _ = some (Value.slice p3 n3 k3))
  have y4 := (at_cell N6 4 : _ = some (Value.string ⟨b0.toArray⟩))
  have y5 := (at_cell N6 5 : _ = some (Value.string ⟨b1.toArray⟩))
  have y6 := (at_cell N6 6 : _ = some (Value.string ⟨b2.toArray⟩))
  have y7 := (at_cell N6 7 : _ = some (Value.string ⟨b3.toArray⟩))
  have y8 := (at_cell N6 8 : _ = some (Value.string ⟨b4.toArray⟩))
  have y9 := (at_cell N6 9 : _ = some (Value.string ⟨b5.toArray⟩))
  have y10 := (at_cell N6 10 : _ = some (Value.string ⟨b6.toArray⟩))
  have y11 := (at_cell N6 11 : _ = some (Value.string ⟨b7.toArray⟩))
  have y12 := (at_cell N6 12 : _ = some (Value.string ⟨b8.toArray⟩))
  have y13 := (at_cell N6 13 : _ = some (Value.string ⟨b9.toArray⟩))
  clear hB5 hbF nF N5 M6 s6 V6 hsv hb5 HS N6 HF
  unfold seF at *
  unfold PlPost at HPL
  rcases idx_cases c.cons (nmF u) with ⟨e1, hf⟩ | ⟨k, hk, e1, hf⟩
  · rw [show fIdx c.cons u = -1 from e1] at HFI
    clear HSE
    have hone : ∀ x, c.cons.find? (nmF u) = some x → sees c.accs us x = false := fun x hx => by rw [hf] at hx; cases hx
    go_wp2_with fail
    refine HFI.out.mono ?_
    rintro e w6 ⟨rfl, hb6⟩
    clear y0 y1 y2 y3 y4 y5 y6 y7 y8 y9 y10 y11 y12 y13
    have HB7 := Lib.hid (HB6.out.trans (hb6.mono HB6.out.size))
    have N7 := (hb6.block _ (at_lt HN6.out)).trans HN6.out
    have z0 := (at_cell N7 0 : _ = some (Value.slice p0 n0 k0))
    have zF := (hb6.cell (p := ⟨w5.heap.size, 0, none⟩) (at_lt HNF.out)).trans (at_cell HNF.out 0)
    have zM := (hb6.cell (p := ⟨w.heap.size + 1, 0, none⟩) (by rw [HS6.out]; show w.heap.size + 1 < _; omega)).trans HM6.out
    have HM7 := Lib.hid zM
    have HV7 := Lib.hid (HV6.out.below hb6)
    have l7 : w5.heap.size < w6.heap.size := by have := hb6.size; have := HS6.out; omega
    have HF7 := Lib.hid zF
    have HN7 := Lib.hid N7
    clear hb6 N7 zM HFI
    go_wp2_with fail
    go_quiet (fail)
    generalize hnq : w6.drewN _ = wX
    have hbX : Below w6.heap.size w6 wX := by rw [← hnq]; exact below_drew (Below.refl _ _)
    clear hnq
    have hnon := fun hb => pk_none (u := us) hf hb
    rcases hbeg : begM c us u with _ | ⟨i, _ | ⟨j, r⟩⟩
    · have HE := Lib.hid (hnon hbeg)
      clear hf
      have y0 := (hbX.cell (p := ⟨w.heap.size, 0, none⟩) (by show w.heap.size < _; omega)).trans z0
      have HBX := Lib.hid (HB7.out.trans (hbX.mono HB7.out.size))
      have hP := HPL.out _ HBX.out (w.heap.size + 1) gs (HV7.out.below hbX) (by have := hbX.size; omega) ((hbX.cell (p := ⟨w.heap.size + 1, 0, none⟩) (by show w.heap.size + 1 < _; omega)).trans HM7.out) w5.heap.size (by have := hbX.size; omega) ((hbX.cell (p := ⟨w5.heap.size, 0, none⟩) l7).trans HF7.out)
      rw [show (plc c.cons fun x => begs u x && sees c.accs us x) = _ from hbeg] at hP
      have HP := Lib.hid hP
      clear hP hbX hbeg
      go_wp2_with fail
      refine HP.out.mono ?_
      rintro e w8 ⟨v, rfl, ho, hb8⟩
      obtain ⟨q8, c8, rfl, hr8⟩ := own_rd ho
      have HB8 := Lib.hid (HBX.out.trans (hb8.mono HBX.out.size))
      have hcap8 := hr8.cap
      have hmax8 := hr8.max
      unfold maxLen at hmax8
      clear HP ho hb8
      clear hr8
      go_wp2_with fail
      go_ret2
      exact ⟨by rw [HE.out]; rfl, HB8.out⟩
    · have HE := Lib.hid (pk_one hone hbeg)
      clear hf
      have y0 := (hbX.cell (p := ⟨w.heap.size, 0, none⟩) (by show w.heap.size < _; omega)).trans z0
      have HBX := Lib.hid (HB7.out.trans (hbX.mono HB7.out.size))
      have hP := HPL.out _ HBX.out (w.heap.size + 1) gs (HV7.out.below hbX) (by have := hbX.size; omega) ((hbX.cell (p := ⟨w.heap.size + 1, 0, none⟩) (by show w.heap.size + 1 < _; omega)).trans HM7.out) w5.heap.size (by have := hbX.size; omega) ((hbX.cell (p := ⟨w5.heap.size, 0, none⟩) l7).trans HF7.out)
      rw [show (plc c.cons fun x => begs u x && sees c.accs us x) = _ from hbeg] at hP
      have HP := Lib.hid hP
      clear hP hbX hbeg
      go_wp2_with fail
      refine HP.out.mono ?_
      rintro e w8 ⟨v, rfl, ho, hb8⟩
      obtain ⟨q8, c8, rfl, hr8⟩ := own_rd ho
      have HB8 := Lib.hid (HBX.out.trans (hb8.mono HBX.out.size))
      have hcap8 := hr8.cap
      have hmax8 := hr8.max
      unfold maxLen at hmax8
      clear HP ho hb8
      rcases hr8.cells with h9 | ⟨g9, o9, rfl, hg9, hc9⟩
      · cases h9
      have y9 := hc9 0 (.int .i64 i) rfl
      rw [Nat.add_zero] at y9
      have hc10 : 1 ≤ c8 := hcap8
      clear hc9 hr8 hcap8
      go_wp2_with fail
      go_ret2
      exact ⟨by rw [HE.out]; rfl, HB8.out⟩
    · have HE := Lib.hid (pk_many hone hbeg)
      clear hf
      have y0 := (hbX.cell (p := ⟨w.heap.size, 0, none⟩) (by show w.heap.size < _; omega)).trans z0
      have HBX := Lib.hid (HB7.out.trans (hbX.mono HB7.out.size))
      have hP := HPL.out _ HBX.out (w.heap.size + 1) gs (HV7.out.below hbX) (by have := hbX.size; omega) ((hbX.cell (p := ⟨w.heap.size + 1, 0, none⟩) (by show w.heap.size + 1 < _; omega)).trans HM7.out) w5.heap.size (by have := hbX.size; omega) ((hbX.cell (p := ⟨w5.heap.size, 0, none⟩) l7).trans HF7.out)
      rw [show (plc c.cons fun x => begs u x && sees c.accs us x) = _ from hbeg] at hP
      have HP := Lib.hid hP
      clear hP hbX hbeg
      go_wp2_with fail
      refine HP.out.mono ?_
      rintro e w8 ⟨v, rfl, ho, hb8⟩
      obtain ⟨q8, c8, rfl, hr8⟩ := own_rd ho
      have HB8 := Lib.hid (HBX.out.trans (hb8.mono HBX.out.size))
      have hcap8 := hr8.cap
      have hmax8 := hr8.max
      unfold maxLen at hmax8
      clear HP ho hb8
      obtain ⟨n8, hn8, hl8⟩ : ∃ n8, (i :: j :: r).length = n8 ∧ 2 ≤ n8 := ⟨_, rfl, by simp⟩
      rw [hn8] at hcap8
      have b1 : ((n8 : Int) == 1) = false := by simp; omega
      have b2 : (1 : Int) < (n8 : Int) := by omega
      clear hr8
      rw [hn8]
      clear hn8
      go_wp2_with fail
      go_ret2
      exact ⟨by rw [HE.out]; rfl, HB8.out⟩
  · cases hsee : sees c.accs us c.cons[k] with
    | true =>
      have HE := Lib.hid (pk_yes hf hsee)
      rw [e1] at HE
      have HCA := Lib.hid (fun (w' : World) (hb : Below w.heap.size w w') => con_at (HR.out.below hb) hk)
      have HCC := Lib.hid (fun (w' : World) (hb : Below w.heap.size w w') (gs : Nat) (hs : SeV w' p3 n3 k3 c.accs us gs) => HSE.out w' hb c.cons[k] (List.getElem_mem hk) gs hs)
      have q1 : (k : Int) < (n0 : Int) := by have := HN.out; omega
      have q2 : k < n0 := by omega
      rw [show fIdx c.cons u = (k : Int) from e1] at HFI
      clear e1 hf HSE HPL
      go_wp2_with fail
      refine HFI.out.mono ?_
      rintro e w6 ⟨rfl, hb6⟩
      clear y0 y1 y2 y3 y4 y5 y6 y7 y8 y9 y10 y11 y12 y13
      have HB7 := Lib.hid (HB6.out.trans (hb6.mono HB6.out.size))
      have N7 := (hb6.block _ (at_lt HN6.out)).trans HN6.out
      have z0 := (at_cell N7 0 : _ = some (Value.slice p0 n0 k0))
      have zF := (hb6.cell (p := ⟨w5.heap.size, 0, none⟩) (at_lt HNF.out)).trans (at_cell HNF.out 0)
      have zM := (hb6.cell (p := ⟨w.heap.size + 1, 0, none⟩) (by rw [HS6.out]; show w.heap.size + 1 < _; omega)).trans HM6.out
      have HM7 := Lib.hid zM
      have HV7 := Lib.hid (HV6.out.below hb6)
      have l7 : w5.heap.size < w6.heap.size := by have := hb6.size; have := HS6.out; omega
      have HF7 := Lib.hid zF
      have HN7 := Lib.hid N7
      clear hb6 N7 zM HFI
      obtain ⟨g, o, rfl, hg, hkn, hat⟩ := HCA.out w6 HB7.out
      have HC3 := Lib.hid (fun (w' : World) (hb : Below w6.heap.size w6 w') => HCC.out w' (HB7.out.trans (hb.mono HB7.out.size)) gs (HV7.out.below hb))
      clear HCC HCA
      rw [hsee] at HC3
      generalize c.cons[k] = x at *
      unfold cnV at HC3
      have HG10 := Lib.hid hat
      have HKP := Lib.hid (fun (w' : World) (hb : Below w6.heap.size w6 w') => (⟨hb, (hb.cell (p := ⟨w.heap.size, 0, none⟩) (by show w.heap.size < _; omega)).trans z0, (hb.cell (p := ⟨w5.heap.size, 0, none⟩) l7).trans zF, HG10.out.below hb hg⟩ : (fun w' => Below w6.heap.size w6 w' ∧ w'.cell? ⟨w.heap.size, 0, none⟩ = some (.slice (some ⟨g, o, none⟩) n0 k0) ∧ w'.cell? ⟨w5.heap.size, 0, none⟩ = some (.func (.func 46) #[] #[.pointer (some ⟨gs, 0, none⟩)]) ∧ w'.cell? ⟨g, o + k * 10, none⟩ = some (.string ⟨x.name.toArray⟩) ∧ w'.cell? ⟨g, o + k * 10 + 1, none⟩ = some (.int .i64 x.kind) ∧ w'.cell? ⟨g, o + k * 10 + 2, none⟩ = some (.int .i64 x.lines) ∧ w'.cell? ⟨g, o + k * 10 + 3, none⟩ = some (.int .i64 x.bytes) ∧ w'.cell? ⟨g, o + k * 10 + 4, none⟩ = some (.int .i64 x.gens) ∧ w'.cell? ⟨g, o + k * 10 + 5, none⟩ = some (.int .i64 x.size) ∧ w'.cell? ⟨g, o + k * 10 + 6, none⟩ = some (.int .i64 x.base) ∧ w'.cell? ⟨g, o + k * 10 + 7, none⟩ = some (.int .i64 x.cap) ∧ w'.cell? ⟨g, o + k * 10 + 8, none⟩ = some (.int .i64 x.jit) ∧ w'.cell? ⟨g, o + k * 10 + 9, none⟩ = some (.string ⟨x.init.toArray⟩)) w'))
      clear hat
      go_wp2_with fail
      go_region_held3 (fun w' => Below w6.heap.size w6 w' ∧ w'.cell? ⟨w.heap.size, 0, none⟩ = some (.slice (some ⟨g, o, none⟩) n0 k0) ∧ w'.cell? ⟨w5.heap.size, 0, none⟩ = some (.func (.func 46) #[] #[.pointer (some ⟨gs, 0, none⟩)]) ∧ w'.cell? ⟨g, o + k * 10, none⟩ = some (.string ⟨x.name.toArray⟩) ∧ w'.cell? ⟨g, o + k * 10 + 1, none⟩ = some (.int .i64 x.kind) ∧ w'.cell? ⟨g, o + k * 10 + 2, none⟩ = some (.int .i64 x.lines) ∧ w'.cell? ⟨g, o + k * 10 + 3, none⟩ = some (.int .i64 x.bytes) ∧ w'.cell? ⟨g, o + k * 10 + 4, none⟩ = some (.int .i64 x.gens) ∧ w'.cell? ⟨g, o + k * 10 + 5, none⟩ = some (.int .i64 x.size) ∧ w'.cell? ⟨g, o + k * 10 + 6, none⟩ = some (.int .i64 x.base) ∧ w'.cell? ⟨g, o + k * 10 + 7, none⟩ = some (.int .i64 x.cap) ∧ w'.cell? ⟨g, o + k * 10 + 8, none⟩ = some (.int .i64 x.jit) ∧ w'.cell? ⟨g, o + k * 10 + 9, none⟩ = some (.string ⟨x.init.toArray⟩))
        (first | exact HKP.out _ (below_drew (Below.refl _ _)) | exact HKP.out _ (by assumption))
        (first | (go_split_ands; refine (HC3.out _ (by assumption)).mono ?_; rintro e w7 ⟨rfl, hb7⟩; replace hb7 := Below.trans (by assumption) (hb7.mono (Below.size (by assumption)))))
      rename Below w6.heap.size w6 _ => hbX
      have HBX := Lib.hid (HB7.out.trans (hbX.mono HB7.out.size))
      go_wp2_with fail
      go_ret2
      exact ⟨by rw [HE.out]; rfl, HBX.out⟩
    | false =>
      have hone : ∀ x, c.cons.find? (nmF u) = some x → sees c.accs us x = false := fun x hx => by rw [hf] at hx; cases hx; exact hsee
      have hden := fun hb => pk_denied (u := us) hf hsee hb
      have HCA := Lib.hid (fun (w' : World) (hb : Below w.heap.size w w') => con_at (HR.out.below hb) hk)
      have HCC := Lib.hid (fun (w' : World) (hb : Below w.heap.size w w') (gs : Nat) (hs : SeV w' p3 n3 k3 c.accs us gs) => HSE.out w' hb c.cons[k] (List.getElem_mem hk) gs hs)
      have q1 : (k : Int) < (n0 : Int) := by have := HN.out; omega
      have q2 : k < n0 := by omega
      rw [show fIdx c.cons u = (k : Int) from e1] at HFI
      clear e1 HSE
      go_wp2_with fail
      refine HFI.out.mono ?_
      rintro e w6 ⟨rfl, hb6⟩
      clear y0 y1 y2 y3 y4 y5 y6 y7 y8 y9 y10 y11 y12 y13
      have HB7 := Lib.hid (HB6.out.trans (hb6.mono HB6.out.size))
      have N7 := (hb6.block _ (at_lt HN6.out)).trans HN6.out
      have z0 := (at_cell N7 0 : _ = some (Value.slice p0 n0 k0))
      have zF := (hb6.cell (p := ⟨w5.heap.size, 0, none⟩) (at_lt HNF.out)).trans (at_cell HNF.out 0)
      have zM := (hb6.cell (p := ⟨w.heap.size + 1, 0, none⟩) (by rw [HS6.out]; show w.heap.size + 1 < _; omega)).trans HM6.out
      have HM7 := Lib.hid zM
      have HV7 := Lib.hid (HV6.out.below hb6)
      have l7 : w5.heap.size < w6.heap.size := by have := hb6.size; have := HS6.out; omega
      have HF7 := Lib.hid zF
      have HN7 := Lib.hid N7
      clear hb6 N7 zM HFI
      obtain ⟨g, o, rfl, hg, hkn, hat⟩ := HCA.out w6 HB7.out
      have HC3 := Lib.hid (fun (w' : World) (hb : Below w6.heap.size w6 w') => HCC.out w' (HB7.out.trans (hb.mono HB7.out.size)) gs (HV7.out.below hb))
      clear HCC HCA
      rw [hsee] at HC3
      generalize c.cons[k] = x at *
      unfold cnV at HC3
      have HG10 := Lib.hid hat
      have HKP := Lib.hid (fun (w' : World) (hb : Below w6.heap.size w6 w') => (⟨hb, (hb.cell (p := ⟨w.heap.size, 0, none⟩) (by show w.heap.size < _; omega)).trans z0, (hb.cell (p := ⟨w5.heap.size, 0, none⟩) l7).trans zF, HG10.out.below hb hg⟩ : (fun w' => Below w6.heap.size w6 w' ∧ w'.cell? ⟨w.heap.size, 0, none⟩ = some (.slice (some ⟨g, o, none⟩) n0 k0) ∧ w'.cell? ⟨w5.heap.size, 0, none⟩ = some (.func (.func 46) #[] #[.pointer (some ⟨gs, 0, none⟩)]) ∧ w'.cell? ⟨g, o + k * 10, none⟩ = some (.string ⟨x.name.toArray⟩) ∧ w'.cell? ⟨g, o + k * 10 + 1, none⟩ = some (.int .i64 x.kind) ∧ w'.cell? ⟨g, o + k * 10 + 2, none⟩ = some (.int .i64 x.lines) ∧ w'.cell? ⟨g, o + k * 10 + 3, none⟩ = some (.int .i64 x.bytes) ∧ w'.cell? ⟨g, o + k * 10 + 4, none⟩ = some (.int .i64 x.gens) ∧ w'.cell? ⟨g, o + k * 10 + 5, none⟩ = some (.int .i64 x.size) ∧ w'.cell? ⟨g, o + k * 10 + 6, none⟩ = some (.int .i64 x.base) ∧ w'.cell? ⟨g, o + k * 10 + 7, none⟩ = some (.int .i64 x.cap) ∧ w'.cell? ⟨g, o + k * 10 + 8, none⟩ = some (.int .i64 x.jit) ∧ w'.cell? ⟨g, o + k * 10 + 9, none⟩ = some (.string ⟨x.init.toArray⟩)) w'))
      clear hat
      go_wp2_with fail
      go_region_held3 (fun w' => Below w6.heap.size w6 w' ∧ w'.cell? ⟨w.heap.size, 0, none⟩ = some (.slice (some ⟨g, o, none⟩) n0 k0) ∧ w'.cell? ⟨w5.heap.size, 0, none⟩ = some (.func (.func 46) #[] #[.pointer (some ⟨gs, 0, none⟩)]) ∧ w'.cell? ⟨g, o + k * 10, none⟩ = some (.string ⟨x.name.toArray⟩) ∧ w'.cell? ⟨g, o + k * 10 + 1, none⟩ = some (.int .i64 x.kind) ∧ w'.cell? ⟨g, o + k * 10 + 2, none⟩ = some (.int .i64 x.lines) ∧ w'.cell? ⟨g, o + k * 10 + 3, none⟩ = some (.int .i64 x.bytes) ∧ w'.cell? ⟨g, o + k * 10 + 4, none⟩ = some (.int .i64 x.gens) ∧ w'.cell? ⟨g, o + k * 10 + 5, none⟩ = some (.int .i64 x.size) ∧ w'.cell? ⟨g, o + k * 10 + 6, none⟩ = some (.int .i64 x.base) ∧ w'.cell? ⟨g, o + k * 10 + 7, none⟩ = some (.int .i64 x.cap) ∧ w'.cell? ⟨g, o + k * 10 + 8, none⟩ = some (.int .i64 x.jit) ∧ w'.cell? ⟨g, o + k * 10 + 9, none⟩ = some (.string ⟨x.init.toArray⟩))
        (first | exact HKP.out _ (below_drew (Below.refl _ _)) | exact HKP.out _ (by assumption))
        (first | (go_split_ands; refine (HC3.out _ (by assumption)).mono ?_; rintro e w7 ⟨rfl, hb7⟩; replace hb7 := Below.trans (by assumption) (hb7.mono (Below.size (by assumption)))))
      rename Below w6.heap.size w6 _ => hbX
      rcases hbeg : begM c us u with _ | ⟨i, _ | ⟨j, r⟩⟩
      · have HE := Lib.hid (hden hbeg)
        clear hf
        have y0 := (hbX.cell (p := ⟨w.heap.size, 0, none⟩) (by show w.heap.size < _; omega)).trans z0
        have HBX := Lib.hid (HB7.out.trans (hbX.mono HB7.out.size))
        have hP := HPL.out _ HBX.out (w.heap.size + 1) gs (HV7.out.below hbX) (by have := hbX.size; omega) ((hbX.cell (p := ⟨w.heap.size + 1, 0, none⟩) (by show w.heap.size + 1 < _; omega)).trans HM7.out) w5.heap.size (by have := hbX.size; omega) ((hbX.cell (p := ⟨w5.heap.size, 0, none⟩) l7).trans HF7.out)
        rw [show (plc c.cons fun x => begs u x && sees c.accs us x) = _ from hbeg] at hP
        have HP := Lib.hid hP
        clear hP hbX hbeg
        go_wp2_with fail
        refine HP.out.mono ?_
        rintro e w8 ⟨v, rfl, ho, hb8⟩
        obtain ⟨q8, c8, rfl, hr8⟩ := own_rd ho
        have HB8 := Lib.hid (HBX.out.trans (hb8.mono HBX.out.size))
        have hcap8 := hr8.cap
        have hmax8 := hr8.max
        unfold maxLen at hmax8
        clear HP ho hb8
        clear hr8
        go_wp2_with fail
        go_ret2
        exact ⟨by rw [HE.out]; rfl, HB8.out⟩
      · have HE := Lib.hid (pk_one hone hbeg)
        clear hf
        have y0 := (hbX.cell (p := ⟨w.heap.size, 0, none⟩) (by show w.heap.size < _; omega)).trans z0
        have HBX := Lib.hid (HB7.out.trans (hbX.mono HB7.out.size))
        have hP := HPL.out _ HBX.out (w.heap.size + 1) gs (HV7.out.below hbX) (by have := hbX.size; omega) ((hbX.cell (p := ⟨w.heap.size + 1, 0, none⟩) (by show w.heap.size + 1 < _; omega)).trans HM7.out) w5.heap.size (by have := hbX.size; omega) ((hbX.cell (p := ⟨w5.heap.size, 0, none⟩) l7).trans HF7.out)
        rw [show (plc c.cons fun x => begs u x && sees c.accs us x) = _ from hbeg] at hP
        have HP := Lib.hid hP
        clear hP hbX hbeg
        go_wp2_with fail
        refine HP.out.mono ?_
        rintro e w8 ⟨v, rfl, ho, hb8⟩
        obtain ⟨q8, c8, rfl, hr8⟩ := own_rd ho
        have HB8 := Lib.hid (HBX.out.trans (hb8.mono HBX.out.size))
        have hcap8 := hr8.cap
        have hmax8 := hr8.max
        unfold maxLen at hmax8
        clear HP ho hb8
        rcases hr8.cells with h9 | ⟨g9, o9, rfl, hg9, hc9⟩
        · cases h9
        have y9 := hc9 0 (.int .i64 i) rfl
        rw [Nat.add_zero] at y9
        have hc10 : 1 ≤ c8 := hcap8
        clear hc9 hr8 hcap8
        go_wp2_with fail
        go_ret2
        exact ⟨by rw [HE.out]; rfl, HB8.out⟩
      · have HE := Lib.hid (pk_many hone hbeg)
        clear hf
        have y0 := (hbX.cell (p := ⟨w.heap.size, 0, none⟩) (by show w.heap.size < _; omega)).trans z0
        have HBX := Lib.hid (HB7.out.trans (hbX.mono HB7.out.size))
        have hP := HPL.out _ HBX.out (w.heap.size + 1) gs (HV7.out.below hbX) (by have := hbX.size; omega) ((hbX.cell (p := ⟨w.heap.size + 1, 0, none⟩) (by show w.heap.size + 1 < _; omega)).trans HM7.out) w5.heap.size (by have := hbX.size; omega) ((hbX.cell (p := ⟨w5.heap.size, 0, none⟩) l7).trans HF7.out)
        rw [show (plc c.cons fun x => begs u x && sees c.accs us x) = _ from hbeg] at hP
        have HP := Lib.hid hP
        clear hP hbX hbeg
        go_wp2_with fail
        refine HP.out.mono ?_
        rintro e w8 ⟨v, rfl, ho, hb8⟩
        obtain ⟨q8, c8, rfl, hr8⟩ := own_rd ho
        have HB8 := Lib.hid (HBX.out.trans (hb8.mono HBX.out.size))
        have hcap8 := hr8.cap
        have hmax8 := hr8.max
        unfold maxLen at hmax8
        clear HP ho hb8
        obtain ⟨n8, hn8, hl8⟩ : ∃ n8, (i :: j :: r).length = n8 ∧ 2 ≤ n8 := ⟨_, rfl, by simp⟩
        rw [hn8] at hcap8
        have b1 : ((n8 : Int) == 1) = false := by simp; omega
        have b2 : (1 : Int) < (n8 : Int) := by omega
        clear hr8
        rw [hn8]
        clear hn8
        go_wp2_with fail
        go_ret2
        exact ⟨by rw [HE.out]; rfl, HB8.out⟩
end Go.Proofs.Ytomnkmcabkoagaa.Rgt

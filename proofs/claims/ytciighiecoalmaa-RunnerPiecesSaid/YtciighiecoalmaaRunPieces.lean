/-
  Layer 17 (runner): the law of the pieces, walked.
-/
import Derived.Test.YtciighiecoalmaaRunPcs
namespace Go.Proofs.Ytciighiecoalmaa.Run
open Go.RowKit Go.Proofs.Ytciighiecoalmaa.Own Go.Proofs.Ytciighiecoalmaa.Rw Go.Proofs.Ytciighiecoalmaa.Brk Go.Proofs.Ytciighiecoalmaa.Calc Go.Proofs.Ytciighiecoalmaa.Tree

set_option maxRecDepth 100000 in
set_option maxHeartbeats 8000000 in
theorem pieces_walk (l : List Op) (p : Option Addr) (n c : Nat) (hn : l.length = n) (xs : List Int) (px : Option Addr) (m cx : Nat) (hm : xs.length = m) (w : World) (h : Ops w l p c) (hx : Nums w .u8 xs px cx) (h8 : ∀ x ∈ xs, 0 ≤ x ∧ x ≤ 255) :
    Calls Try.prog 4 #[.slice p n c, .slice px m cx] w fun e w' => e = .returned (.bool true) ∧ Below w.heap.size w w' := by
  obtain ⟨i0, hi, hz0, hz1, hz2⟩ := info_parts info_op
  have h1 := h.cap
  have h2 := h.max
  have h3 := hx.cap
  have h4 := hx.max
  unfold maxLen at h2 h4
  have q1 : (n : Int) ≤ 9223372036854775807 := by omega
  have q2 : (m : Int) ≤ 9223372036854775807 := by omega
  have HN := Lib.hid hn
  have HM := Lib.hid hm
  have HH := Lib.hid h
  have HX := Lib.hid hx
  have H8 := Lib.hid h8
  clear h hx h8 h1 h3 hn hm
  by_cases hb1 : 40 < n
  · have hb : (40 : Int) < (n : Int) := by omega
    go_enter Try.func4, Try.ntmps4
    go_wp2_with (go_at_call 6; refine (works_calls _).mono ?_; rintro e w' ⟨rfl, hw⟩)
    go_ret
    exact ⟨rfl, hw⟩
  have hb3 : ¬ (40 : Int) < (n : Int) := by omega
  by_cases hb2 : 60 < m
  · have hb : (60 : Int) < (m : Int) := by omega
    go_enter Try.func4, Try.ntmps4
    go_wp2_with (go_at_call 6; refine (works_calls _).mono ?_; rintro e w' ⟨rfl, hw⟩)
    go_ret
    exact ⟨rfl, hw⟩
  have hb4 : ¬ (60 : Int) < (m : Int) := by omega
  by_cases hc : chk 5 l = 0
  · have HC := Lib.hid hc
    have HP := Lib.hid (plan_of hc (by rw [HN.out]; omega))
    obtain ⟨t1, t2⟩ := chk_inv hc
    have HT := Lib.hid t1
    have HG := Lib.hid t2
    have HE := Lib.hid (ends_tick t1 t2)
    clear hc t1 t2
    go_enter Try.func4, Try.ntmps4
    go_wp2_with fail
    refine (rcheck_calls l n HN.out 5 p c w HH.out).mono ?_
    rintro e w0 ⟨rfl, hB⟩
    rw [HC.out]
    have B0 := Lib.hid hB
    clear hB
    go_wp2_with fail
    refine (new_yes l n HN.out (by omega) 5 4 (by omega) p c w0 (HH.out.below B0.out) HC.out).mono ?_
    rintro e w1 ⟨ba, qa, rfl, hA, hb, hq, hB⟩
    have BB1 := Lib.hid (B0.out.trans (hB.mono B0.out.size))
    have HA := Lib.hid hA
    have HBA := Lib.hid (And.intro hb hB)
    clear hA hb hB hq
    go_wp2_with fail
    refine (new_yes l n HN.out (by omega) 5 4 (by omega) p c w1 (HH.out.below BB1.out) HC.out).mono ?_
    rintro e w2 ⟨bb, qb, rfl, hA, hb, hq, hB⟩
    have P0 : Hid (PcL w w2 w2.heap.size (dues 5 l) (ends 5 l) ba qa bb qb 0 5 (.slice none 0 0)) := Lib.hid (pc_start HA.out (Nat.le_trans B0.out.size HBA.out.1) BB1.out hA hb hq hB)
    clear hA hb hB hq HA HBA
    generalize w2.heap.size = B at *
    have HDL := Lib.hid (Nat.le_trans (dues_len 5 l) (show l.length ≤ 40 by rw [HN.out]; omega))
    have HSrt := Lib.hid HP.out.sorted
    go_wp2_with fail
    go_loopw [9, 10, 11] (fun g u i wr => ∃ (k : Nat) (nv : Int), k ≤ m ∧ i = .int .i64 k ∧ u = .int .i64 nv ∧ 5 ≤ nv ∧ nv ≤ 5 + 255 * (k : Int) ∧ Hid (PcL w wr B (dues 5 l) (ends 5 l) ba qa bb qb k nv g)) (fun _ _ i _ => m - (Go.RowKit.intOf i).toNat)
    case atStart => exact ⟨0, 5, Nat.zero_le _, rfl, rfl, by omega, by omega, P0⟩
    case round =>
      obtain ⟨k, nv, hk, rfl, rfl, s0, s1, HL⟩ := hrel
      have hm60 : m ≤ 60 := by omega
      rcases Nat.lt_or_eq_of_le hk with hlt | rfl
      · have hkl : k < xs.length := by rw [HM.out]; exact hlt
        rcases HX.out.cells with h0 | ⟨bx, ox, rfl, hbl, hcx⟩
        · rw [h0] at hkl; simp at hkl
        · obtain ⟨wa, C, a4, a5, a6, a7⟩ := HL.out
          have c0 := hcx k hkl
          rw [← C.below.cell (p := ⟨bx, _, none⟩) hbl] at c0
          obtain ⟨x0, x1⟩ := H8.out _ (List.getElem_mem hkl)
          generalize xs[k] = x at *
          have z1 : (k : Int) < (m : Int) := by omega
          have HC0 := Lib.hid C
          clear hcx a6 a7 C
          go_wp2_with fail
          refine (pc_stepA HC0.out HP.out (nv + x) (by omega)).mono ?_
          rintro e w5 ⟨v5, rfl, h5, C5⟩
          obtain ⟨ao, c5, rfl, hno, hnews⟩ := news_of h5
          obtain ⟨t5, ht5⟩ : ∃ t, (told (dues 5 l) wa (nv + x)).length = t := ⟨_, rfl⟩
          obtain ⟨t4, ht4⟩ : ∃ t, (told (dues 5 l) 4 wa).length = t := ⟨_, rfl⟩
          have l5 := Nat.le_trans (told_len (dues 5 l) wa (nv + x)) HDL.out
          have l4 := Nat.le_trans (told_len (dues 5 l) 4 wa) HDL.out
          rw [ht5] at l5 hno
          rw [ht4] at l4
          rw [ht5]
          have HT5 := Lib.hid ht5
          have HT4 := Lib.hid ht4
          have HO := Lib.hid (mine_m C5.own ht4)
          have HNO := Lib.hid hno
          have HNW := Lib.hid hnews
          have HC5 := Lib.hid C5
          have hs5 := C5.size
          clear h5 C5 hno hnews ht5 ht4
          go_wp2_with (at_builtin; go_loud (refine Own.append_any rfl (.tmp 57) (.tmp 60) 22 rfl _ 42 i0 _ 3 32 Try.underlying22 hi hz0 hz1 hz2 rfl (by decide) _ t4 _ rfl (HO.out) ao t5 c5 (ov (told (dues 5 l) wa (nv + x))) rfl HNO.out (by rw [ov_len, HT5.out]) HNW.out (ov_one' _) (by unfold maxLen; omega) (by omega) (by omega) ?_; intro v' w1 hown hgr; have C6 := Lib.hid (HC5.out.append hgr hown (by rw [HT4.out, HT5.out])); clear hown hgr))
          go_roundw
          case rel => exact ⟨k + 1, nv + x, by omega, by go_num, rfl, by omega, by omega, Lib.hid ⟨nv + x, by rw [← told_two a4 (show wa ≤ nv + x by omega) HSrt.out]; exact C6.out, by omega, Int.le_refl _, (fun _ => rfl), (fun e => absurd e (by omega))⟩⟩
          case measure => simp [Go.RowKit.intOf]; omega
      · obtain ⟨wa, C, a4, a5, a6, a7⟩ := HL.out
        clear HL
        by_cases hm0 : k = 0
        · obtain ⟨rfl, rfl⟩ := a7 hm0
          have hm1 : ((k : Int) == 0) = true := by simpa using hm0
          have HC0 := Lib.hid C
          clear C a6 a7 hm0
          go_wp2_with fail
          refine (pc_stepA HC0.out HP.out 5 (by omega)).mono ?_
          rintro e w5 ⟨v5, rfl, h5, C5⟩
          have HPC : Hid (Pc w w5 B (dues 5 l) (ends 5 l) ba qa bb qb 5 4 v5 (told (dues 5 l) 4 5)) := Lib.hid (C5.put (own_base h5 HC0.out.size))
          clear h5 C5 HC0
          go_wp2_with fail
          have hnv : (5 : Int) ≤ 5 ∧ (5 : Int) ≤ 20000 := by omega
          obtain ⟨g, hg⟩ : ∃ g, nxB (ends 5 l) (5) = g := ⟨_, rfl⟩
          have hge : decide (ends 5 l ≤ 5) = !g := by rw [← hg]; unfold nxB; rw [← decide_not]; congr 1; simp
          have HGV := Lib.hid hg
          obtain ⟨e0, e1⟩ := isT_iff.1 HE.out
          clear hg
          refine (pc_stepB HPC.out HP.out (5) (by omega)).mono ?_
          rintro e w6 ⟨v6, rfl, h6, C6⟩
          have HSm := Lib.hid (mine_same C6.own h6)
          have HC6 := Lib.hid C6
          clear h6 C6 HPC
          go_wp2_with fail
          refine HSm.out.mono ?_
          rintro e w7 ⟨rfl, hb7⟩
          have HC7 := Lib.hid (HC6.out.keep hb7)
          clear hb7 HC6 HSm
          go_wp2_with fail
          refine (done_at HC7.out.ra).mono ?_
          rw [HGV.out]
          rintro e w' ⟨rfl, rfl⟩
          go_wp2_with fail
          refine (done_at HC7.out.rb).mono ?_
          rw [HGV.out]
          rintro e w' ⟨rfl, rfl⟩
          go_wp2_with fail
          refine (done_at HC7.out.rb).mono ?_
          rw [HGV.out]
          rintro e w' ⟨rfl, rfl⟩
          go_wp2_with fail
          refine (ends_calls HC7.out.rb).mono ?_
          rintro e w' ⟨rfl, rfl⟩
          go_wp2_with fail
          refine (ends_calls HC7.out.ra).mono ?_
          rintro e w' ⟨rfl, rfl⟩
          rcases Int.lt_or_le (5) (ends 5 l) with hlt | hle
          · have hle2 : ¬ ends 5 l ≤ 5 := by omega
            have hm2 : (5 : Int) ≤ ends 5 l ∧ ends 5 l ≤ ends 5 l ∧ ends 5 l ≤ 1099511627776 := by omega
            as_aux_lemma =>
              go_wp2_with fail
              refine (pc_stepA HC7.out HP.out (ends 5 l) (by omega)).mono ?_
              rintro e w9 ⟨v9, rfl, h9, C9⟩
              obtain ⟨ao, c5, rfl, hno, hnews⟩ := news_of h9
              obtain ⟨t5, ht5⟩ : ∃ t, (told (dues 5 l) (5) (ends 5 l)).length = t := ⟨_, rfl⟩
              obtain ⟨t4, ht4⟩ : ∃ t, (told (dues 5 l) 4 (5)).length = t := ⟨_, rfl⟩
              have l5 := Nat.le_trans (told_len (dues 5 l) (5) (ends 5 l)) HDL.out
              have l4 := Nat.le_trans (told_len (dues 5 l) 4 (5)) HDL.out
              rw [ht5] at l5 hno
              rw [ht4] at l4
              rw [ht5]
              have HT52 := Lib.hid ht5
              have HT42 := Lib.hid ht4
              have HO2 := Lib.hid (mine_m C9.own ht4)
              have HNO2 := Lib.hid hno
              have HNW2 := Lib.hid hnews
              have HC9 := Lib.hid C9
              have hs9 := C9.size
              clear h9 C9 hno hnews ht5 ht4
              go_wp2_with (at_builtin; go_loud (refine Own.append_any rfl (.tmp 90) (.tmp 96) 22 rfl _ 42 i0 _ 3 32 Try.underlying22 hi hz0 hz1 hz2 rfl (by decide) _ t4 _ rfl (HO2.out) ao t5 c5 (ov (told (dues 5 l) (5) (ends 5 l))) rfl HNO2.out (by rw [ov_len, HT52.out]) HNW2.out (ov_one' _) (by unfold maxLen; omega) (by omega) (by omega) ?_; intro v' w10 hown hgr; have C10 := Lib.hid (HC9.out.append hgr hown (by rw [HT42.out, HT52.out])); clear hown hgr))
              have C11 := C10.out
              rw [told_two (by omega) (by omega) HSrt.out, dues_map l (ends 5 l) HG.out (by omega)] at C11
              have HC11 := Lib.hid C11
              clear C11 C10 HC9 HO2 HNO2 HNW2 hge
              go_loopw [12, 13] (fun v i wr => ∃ k2 : Nat, k2 ≤ n ∧ i = .int .i64 k2 ∧ Hid (Mine wr w10.heap.size v ((l.take k2).filter fun x => decide (x.k ≠ 2))) ∧ Hid (Below w10.heap.size w10 wr)) (fun _ i _ => n - (Go.RowKit.intOf i).toNat)
              case atStart => exact ⟨0, Nat.zero_le _, rfl, Lib.hid (mine_nil _ _), Lib.hid (Below.refl _ _)⟩
              case round =>
                obtain ⟨k2, hk2, rfl, HMi, HBl⟩ := hrel
                rename World => wz
                have hsz := HBl.out.size
                rcases Nat.lt_or_eq_of_le hk2 with hlt3 | rfl
                · have hkl : k2 < l.length := by rw [HN.out]; exact hlt3
                  rcases HH.out.cells with h0 | ⟨b2, o2, rfl, hbl2, hc2⟩
                  · rw [h0] at hkl; simp at hkl
                  · obtain ⟨c0, c1, c2⟩ := hc2 k2 hkl
                    rw [← (HC11.out.below.trans (HBl.out.mono HC11.out.below.size)).cell (p := ⟨b2, _, none⟩) hbl2] at c0 c1 c2
                    have z1 : (k2 : Int) < (n : Int) := by omega
                    by_cases hk3 : l[k2].k = 2
                    · have HFW := Lib.hid (filt_wait hkl hk3)
                      rw [hk3] at c0
                      clear hc2 hk3 c1 c2
                      go_wp2_with fail
                      go_roundw
                      case rel => exact ⟨k2 + 1, by omega, by go_num, by rw [HFW.out]; exact HMi, HBl⟩
                      case measure => simp [Go.RowKit.intOf]; omega
                    · have HF1 := Lib.hid (filt_one hkl hk3)
                      have hk4 : (l[k2].k == 2) = false := by simpa using hk3
                      generalize l[k2] = x at *
                      obtain ⟨xk, xs2, xn⟩ := x
                      simp only at c0 c1 c2 hk4
                      obtain ⟨t6, ht6⟩ : ∃ t, ((l.take k2).filter fun x => decide (x.k ≠ 2)).length = t := ⟨_, rfl⟩
                      have l6 : t6 ≤ k2 := by rw [← ht6]; exact Nat.le_trans (List.length_filter_le _ _) (List.length_take_le _ _)
                      have HO6 := Lib.hid (mine_m HMi.out ht6)
                      have HT6 := Lib.hid ht6
                      clear hc2 hk3 ht6
                      go_wp2_with (at_builtin; go_loud (refine Own.append_any rfl (.tmp 110) (.tmp 115) 22 rfl w10.heap.size 42 i0 _ 3 32 Try.underlying22 hi hz0 hz1 hz2 rfl (by decide) _ _ _ rfl (World.ownsRow.alloc HO6.out _) _ 1 1 [.int .i64 xk, .string ⟨xs2.toArray⟩, .int .i64 xn] rfl (fun h => nomatch h) rfl (Own.three_new _ _ _ _ _ _ (by simp)) (by simp [Value.oneCell']) (by unfold maxLen; omega) (by omega) (by simp; omega) ?_; intro v7 w11 hown hgr; have C7 := Lib.hid (And.intro (mine_more (x := ⟨xk, xs2, xn⟩) hown HT6.out.symm) ((HBl.out.alloc hsz _).grown hgr (by simp; omega) (fun k hk => (World.ownsRow.lt HO6.out k hk).1))); clear hown hgr))
                      go_roundw
                      case rel => exact ⟨k2 + 1, by omega, by go_num, by rw [HF1.out]; exact Lib.hid C7.out.1, Lib.hid C7.out.2⟩
                      case measure => simp [Go.RowKit.intOf]; omega
                · have HMi2 := HMi.out
                  rw [List.take_of_length_le (by rw [HN.out]; exact Nat.le_refl _)] at HMi2
                  have HC12 := Lib.hid (HC11.out.keep HBl.out)
                  have HSm2 := Lib.hid (mine_same HC12.out.own HMi2)
                  clear HMi2 HMi HC11
                  have HGD : Hid (nxB (ends 5 l) (ends 5 l) = false) := Lib.hid (by unfold nxB; simp; try omega)
                  go_wp2_with fail
                  refine HSm2.out.mono ?_
                  rintro e w12 ⟨rfl, hb12⟩
                  have HC13 := Lib.hid (HC12.out.keep hb12)
                  clear hb12 HC12 HSm2
                  go_wp2_with fail
                  refine (done_at HC13.out.ra).mono ?_
                  rw [HGD.out]
                  rintro e w' ⟨rfl, rfl⟩
                  go_wp2_with fail
                  refine (pc_stepA HC13.out HP.out 1099511627776 (by omega)).mono ?_
                  rintro e w14 ⟨v14, rfl, h14, C14⟩
                  rw [told_none (fun p hp => Int.le_trans (HP.out.last p hp) hm2.2.1)] at h14
                  obtain ⟨ao2, c14, rfl, -, -⟩ := news_of h14
                  have HC14 := Lib.hid C14
                  clear h14 C14
                  go_wp2_with (go_at_call 6; refine (works_calls _).mono ?_; rintro e w' ⟨rfl, hw⟩)
                  go_ret
                  exact ⟨rfl, HC14.out.below.trans (hw.mono HC14.out.below.size)⟩
          · have hlt2 : ¬ (5 : Int) < ends 5 l := by omega
            have hm2 : (5 : Int) ≤ 5 ∧ ends 5 l ≤ 5 ∧ (5 : Int) ≤ 1099511627776 := by omega
            as_aux_lemma =>
              go_wp2_with fail
              refine (pc_stepA HC7.out HP.out (5) (by omega)).mono ?_
              rintro e w9 ⟨v9, rfl, h9, C9⟩
              obtain ⟨ao, c5, rfl, hno, hnews⟩ := news_of h9
              obtain ⟨t5, ht5⟩ : ∃ t, (told (dues 5 l) (5) (5)).length = t := ⟨_, rfl⟩
              obtain ⟨t4, ht4⟩ : ∃ t, (told (dues 5 l) 4 (5)).length = t := ⟨_, rfl⟩
              have l5 := Nat.le_trans (told_len (dues 5 l) (5) (5)) HDL.out
              have l4 := Nat.le_trans (told_len (dues 5 l) 4 (5)) HDL.out
              rw [ht5] at l5 hno
              rw [ht4] at l4
              rw [ht5]
              have HT52 := Lib.hid ht5
              have HT42 := Lib.hid ht4
              have HO2 := Lib.hid (mine_m C9.own ht4)
              have HNO2 := Lib.hid hno
              have HNW2 := Lib.hid hnews
              have HC9 := Lib.hid C9
              have hs9 := C9.size
              clear h9 C9 hno hnews ht5 ht4
              go_wp2_with (at_builtin; go_loud (refine Own.append_any rfl (.tmp 90) (.tmp 96) 22 rfl _ 42 i0 _ 3 32 Try.underlying22 hi hz0 hz1 hz2 rfl (by decide) _ t4 _ rfl (HO2.out) ao t5 c5 (ov (told (dues 5 l) (5) (5))) rfl HNO2.out (by rw [ov_len, HT52.out]) HNW2.out (ov_one' _) (by unfold maxLen; omega) (by omega) (by omega) ?_; intro v' w10 hown hgr; have C10 := Lib.hid (HC9.out.append hgr hown (by rw [HT42.out, HT52.out])); clear hown hgr))
              have C11 := C10.out
              rw [told_two (by omega) (by omega) HSrt.out, dues_map l (5) HG.out (by omega)] at C11
              have HC11 := Lib.hid C11
              clear C11 C10 HC9 HO2 HNO2 HNW2 hge
              go_loopw [12, 13] (fun v i wr => ∃ k2 : Nat, k2 ≤ n ∧ i = .int .i64 k2 ∧ Hid (Mine wr w10.heap.size v ((l.take k2).filter fun x => decide (x.k ≠ 2))) ∧ Hid (Below w10.heap.size w10 wr)) (fun _ i _ => n - (Go.RowKit.intOf i).toNat)
              case atStart => exact ⟨0, Nat.zero_le _, rfl, Lib.hid (mine_nil _ _), Lib.hid (Below.refl _ _)⟩
              case round =>
                obtain ⟨k2, hk2, rfl, HMi, HBl⟩ := hrel
                rename World => wz
                have hsz := HBl.out.size
                rcases Nat.lt_or_eq_of_le hk2 with hlt3 | rfl
                · have hkl : k2 < l.length := by rw [HN.out]; exact hlt3
                  rcases HH.out.cells with h0 | ⟨b2, o2, rfl, hbl2, hc2⟩
                  · rw [h0] at hkl; simp at hkl
                  · obtain ⟨c0, c1, c2⟩ := hc2 k2 hkl
                    rw [← (HC11.out.below.trans (HBl.out.mono HC11.out.below.size)).cell (p := ⟨b2, _, none⟩) hbl2] at c0 c1 c2
                    have z1 : (k2 : Int) < (n : Int) := by omega
                    by_cases hk3 : l[k2].k = 2
                    · have HFW := Lib.hid (filt_wait hkl hk3)
                      rw [hk3] at c0
                      clear hc2 hk3 c1 c2
                      go_wp2_with fail
                      go_roundw
                      case rel => exact ⟨k2 + 1, by omega, by go_num, by rw [HFW.out]; exact HMi, HBl⟩
                      case measure => simp [Go.RowKit.intOf]; omega
                    · have HF1 := Lib.hid (filt_one hkl hk3)
                      have hk4 : (l[k2].k == 2) = false := by simpa using hk3
                      generalize l[k2] = x at *
                      obtain ⟨xk, xs2, xn⟩ := x
                      simp only at c0 c1 c2 hk4
                      obtain ⟨t6, ht6⟩ : ∃ t, ((l.take k2).filter fun x => decide (x.k ≠ 2)).length = t := ⟨_, rfl⟩
                      have l6 : t6 ≤ k2 := by rw [← ht6]; exact Nat.le_trans (List.length_filter_le _ _) (List.length_take_le _ _)
                      have HO6 := Lib.hid (mine_m HMi.out ht6)
                      have HT6 := Lib.hid ht6
                      clear hc2 hk3 ht6
                      go_wp2_with (at_builtin; go_loud (refine Own.append_any rfl (.tmp 110) (.tmp 115) 22 rfl w10.heap.size 42 i0 _ 3 32 Try.underlying22 hi hz0 hz1 hz2 rfl (by decide) _ _ _ rfl (World.ownsRow.alloc HO6.out _) _ 1 1 [.int .i64 xk, .string ⟨xs2.toArray⟩, .int .i64 xn] rfl (fun h => nomatch h) rfl (Own.three_new _ _ _ _ _ _ (by simp)) (by simp [Value.oneCell']) (by unfold maxLen; omega) (by omega) (by simp; omega) ?_; intro v7 w11 hown hgr; have C7 := Lib.hid (And.intro (mine_more (x := ⟨xk, xs2, xn⟩) hown HT6.out.symm) ((HBl.out.alloc hsz _).grown hgr (by simp; omega) (fun k hk => (World.ownsRow.lt HO6.out k hk).1))); clear hown hgr))
                      go_roundw
                      case rel => exact ⟨k2 + 1, by omega, by go_num, by rw [HF1.out]; exact Lib.hid C7.out.1, Lib.hid C7.out.2⟩
                      case measure => simp [Go.RowKit.intOf]; omega
                · have HMi2 := HMi.out
                  rw [List.take_of_length_le (by rw [HN.out]; exact Nat.le_refl _)] at HMi2
                  have HC12 := Lib.hid (HC11.out.keep HBl.out)
                  have HSm2 := Lib.hid (mine_same HC12.out.own HMi2)
                  clear HMi2 HMi HC11
                  have HGD : Hid (nxB (ends 5 l) (5) = false) := Lib.hid (by unfold nxB; simp; try omega)
                  go_wp2_with fail
                  refine HSm2.out.mono ?_
                  rintro e w12 ⟨rfl, hb12⟩
                  have HC13 := Lib.hid (HC12.out.keep hb12)
                  clear hb12 HC12 HSm2
                  go_wp2_with fail
                  refine (done_at HC13.out.ra).mono ?_
                  rw [HGD.out]
                  rintro e w' ⟨rfl, rfl⟩
                  go_wp2_with fail
                  refine (pc_stepA HC13.out HP.out 1099511627776 (by omega)).mono ?_
                  rintro e w14 ⟨v14, rfl, h14, C14⟩
                  rw [told_none (fun p hp => Int.le_trans (HP.out.last p hp) hm2.2.1)] at h14
                  obtain ⟨ao2, c14, rfl, -, -⟩ := news_of h14
                  have HC14 := Lib.hid C14
                  clear h14 C14
                  go_wp2_with (go_at_call 6; refine (works_calls _).mono ?_; rintro e w' ⟨rfl, hw⟩)
                  go_ret
                  exact ⟨rfl, HC14.out.below.trans (hw.mono HC14.out.below.size)⟩
        · obtain rfl := a6 hm0
          have hm1 : ((k : Int) == 0) = false := by simpa using hm0
          have HPC := Lib.hid C
          clear C a6 a7 hm0
          go_wp2_with fail
          have hnv : (5 : Int) ≤ wa ∧ (wa : Int) ≤ 20000 := by omega
          obtain ⟨g, hg⟩ : ∃ g, nxB (ends 5 l) (wa) = g := ⟨_, rfl⟩
          have hge : decide (ends 5 l ≤ wa) = !g := by rw [← hg]; unfold nxB; rw [← decide_not]; congr 1; simp
          have HGV := Lib.hid hg
          obtain ⟨e0, e1⟩ := isT_iff.1 HE.out
          clear hg
          refine (pc_stepB HPC.out HP.out (wa) (by omega)).mono ?_
          rintro e w6 ⟨v6, rfl, h6, C6⟩
          have HSm := Lib.hid (mine_same C6.own h6)
          have HC6 := Lib.hid C6
          clear h6 C6 HPC
          go_wp2_with fail
          refine HSm.out.mono ?_
          rintro e w7 ⟨rfl, hb7⟩
          have HC7 := Lib.hid (HC6.out.keep hb7)
          clear hb7 HC6 HSm
          go_wp2_with fail
          refine (done_at HC7.out.ra).mono ?_
          rw [HGV.out]
          rintro e w' ⟨rfl, rfl⟩
          go_wp2_with fail
          refine (done_at HC7.out.rb).mono ?_
          rw [HGV.out]
          rintro e w' ⟨rfl, rfl⟩
          go_wp2_with fail
          refine (done_at HC7.out.rb).mono ?_
          rw [HGV.out]
          rintro e w' ⟨rfl, rfl⟩
          go_wp2_with fail
          refine (ends_calls HC7.out.rb).mono ?_
          rintro e w' ⟨rfl, rfl⟩
          go_wp2_with fail
          refine (ends_calls HC7.out.ra).mono ?_
          rintro e w' ⟨rfl, rfl⟩
          rcases Int.lt_or_le (wa) (ends 5 l) with hlt | hle
          · have hle2 : ¬ ends 5 l ≤ wa := by omega
            have hm2 : (wa : Int) ≤ ends 5 l ∧ ends 5 l ≤ ends 5 l ∧ ends 5 l ≤ 1099511627776 := by omega
            as_aux_lemma =>
              go_wp2_with fail
              refine (pc_stepA HC7.out HP.out (ends 5 l) (by omega)).mono ?_
              rintro e w9 ⟨v9, rfl, h9, C9⟩
              obtain ⟨ao, c5, rfl, hno, hnews⟩ := news_of h9
              obtain ⟨t5, ht5⟩ : ∃ t, (told (dues 5 l) (wa) (ends 5 l)).length = t := ⟨_, rfl⟩
              obtain ⟨t4, ht4⟩ : ∃ t, (told (dues 5 l) 4 (wa)).length = t := ⟨_, rfl⟩
              have l5 := Nat.le_trans (told_len (dues 5 l) (wa) (ends 5 l)) HDL.out
              have l4 := Nat.le_trans (told_len (dues 5 l) 4 (wa)) HDL.out
              rw [ht5] at l5 hno
              rw [ht4] at l4
              rw [ht5]
              have HT52 := Lib.hid ht5
              have HT42 := Lib.hid ht4
              have HO2 := Lib.hid (mine_m C9.own ht4)
              have HNO2 := Lib.hid hno
              have HNW2 := Lib.hid hnews
              have HC9 := Lib.hid C9
              have hs9 := C9.size
              clear h9 C9 hno hnews ht5 ht4
              go_wp2_with (at_builtin; go_loud (refine Own.append_any rfl (.tmp 90) (.tmp 96) 22 rfl _ 42 i0 _ 3 32 Try.underlying22 hi hz0 hz1 hz2 rfl (by decide) _ t4 _ rfl (HO2.out) ao t5 c5 (ov (told (dues 5 l) (wa) (ends 5 l))) rfl HNO2.out (by rw [ov_len, HT52.out]) HNW2.out (ov_one' _) (by unfold maxLen; omega) (by omega) (by omega) ?_; intro v' w10 hown hgr; have C10 := Lib.hid (HC9.out.append hgr hown (by rw [HT42.out, HT52.out])); clear hown hgr))
              have C11 := C10.out
              rw [told_two (by omega) (by omega) HSrt.out, dues_map l (ends 5 l) HG.out (by omega)] at C11
              have HC11 := Lib.hid C11
              clear C11 C10 HC9 HO2 HNO2 HNW2 hge
              go_loopw [12, 13] (fun v i wr => ∃ k2 : Nat, k2 ≤ n ∧ i = .int .i64 k2 ∧ Hid (Mine wr w10.heap.size v ((l.take k2).filter fun x => decide (x.k ≠ 2))) ∧ Hid (Below w10.heap.size w10 wr)) (fun _ i _ => n - (Go.RowKit.intOf i).toNat)
              case atStart => exact ⟨0, Nat.zero_le _, rfl, Lib.hid (mine_nil _ _), Lib.hid (Below.refl _ _)⟩
              case round =>
                obtain ⟨k2, hk2, rfl, HMi, HBl⟩ := hrel
                rename World => wz
                have hsz := HBl.out.size
                rcases Nat.lt_or_eq_of_le hk2 with hlt3 | rfl
                · have hkl : k2 < l.length := by rw [HN.out]; exact hlt3
                  rcases HH.out.cells with h0 | ⟨b2, o2, rfl, hbl2, hc2⟩
                  · rw [h0] at hkl; simp at hkl
                  · obtain ⟨c0, c1, c2⟩ := hc2 k2 hkl
                    rw [← (HC11.out.below.trans (HBl.out.mono HC11.out.below.size)).cell (p := ⟨b2, _, none⟩) hbl2] at c0 c1 c2
                    have z1 : (k2 : Int) < (n : Int) := by omega
                    by_cases hk3 : l[k2].k = 2
                    · have HFW := Lib.hid (filt_wait hkl hk3)
                      rw [hk3] at c0
                      clear hc2 hk3 c1 c2
                      go_wp2_with fail
                      go_roundw
                      case rel => exact ⟨k2 + 1, by omega, by go_num, by rw [HFW.out]; exact HMi, HBl⟩
                      case measure => simp [Go.RowKit.intOf]; omega
                    · have HF1 := Lib.hid (filt_one hkl hk3)
                      have hk4 : (l[k2].k == 2) = false := by simpa using hk3
                      generalize l[k2] = x at *
                      obtain ⟨xk, xs2, xn⟩ := x
                      simp only at c0 c1 c2 hk4
                      obtain ⟨t6, ht6⟩ : ∃ t, ((l.take k2).filter fun x => decide (x.k ≠ 2)).length = t := ⟨_, rfl⟩
                      have l6 : t6 ≤ k2 := by rw [← ht6]; exact Nat.le_trans (List.length_filter_le _ _) (List.length_take_le _ _)
                      have HO6 := Lib.hid (mine_m HMi.out ht6)
                      have HT6 := Lib.hid ht6
                      clear hc2 hk3 ht6
                      go_wp2_with (at_builtin; go_loud (refine Own.append_any rfl (.tmp 110) (.tmp 115) 22 rfl w10.heap.size 42 i0 _ 3 32 Try.underlying22 hi hz0 hz1 hz2 rfl (by decide) _ _ _ rfl (World.ownsRow.alloc HO6.out _) _ 1 1 [.int .i64 xk, .string ⟨xs2.toArray⟩, .int .i64 xn] rfl (fun h => nomatch h) rfl (Own.three_new _ _ _ _ _ _ (by simp)) (by simp [Value.oneCell']) (by unfold maxLen; omega) (by omega) (by simp; omega) ?_; intro v7 w11 hown hgr; have C7 := Lib.hid (And.intro (mine_more (x := ⟨xk, xs2, xn⟩) hown HT6.out.symm) ((HBl.out.alloc hsz _).grown hgr (by simp; omega) (fun k hk => (World.ownsRow.lt HO6.out k hk).1))); clear hown hgr))
                      go_roundw
                      case rel => exact ⟨k2 + 1, by omega, by go_num, by rw [HF1.out]; exact Lib.hid C7.out.1, Lib.hid C7.out.2⟩
                      case measure => simp [Go.RowKit.intOf]; omega
                · have HMi2 := HMi.out
                  rw [List.take_of_length_le (by rw [HN.out]; exact Nat.le_refl _)] at HMi2
                  have HC12 := Lib.hid (HC11.out.keep HBl.out)
                  have HSm2 := Lib.hid (mine_same HC12.out.own HMi2)
                  clear HMi2 HMi HC11
                  have HGD : Hid (nxB (ends 5 l) (ends 5 l) = false) := Lib.hid (by unfold nxB; simp; try omega)
                  go_wp2_with fail
                  refine HSm2.out.mono ?_
                  rintro e w12 ⟨rfl, hb12⟩
                  have HC13 := Lib.hid (HC12.out.keep hb12)
                  clear hb12 HC12 HSm2
                  go_wp2_with fail
                  refine (done_at HC13.out.ra).mono ?_
                  rw [HGD.out]
                  rintro e w' ⟨rfl, rfl⟩
                  go_wp2_with fail
                  refine (pc_stepA HC13.out HP.out 1099511627776 (by omega)).mono ?_
                  rintro e w14 ⟨v14, rfl, h14, C14⟩
                  rw [told_none (fun p hp => Int.le_trans (HP.out.last p hp) hm2.2.1)] at h14
                  obtain ⟨ao2, c14, rfl, -, -⟩ := news_of h14
                  have HC14 := Lib.hid C14
                  clear h14 C14
                  go_wp2_with (go_at_call 6; refine (works_calls _).mono ?_; rintro e w' ⟨rfl, hw⟩)
                  go_ret
                  exact ⟨rfl, HC14.out.below.trans (hw.mono HC14.out.below.size)⟩
          · have hlt2 : ¬ (wa : Int) < ends 5 l := by omega
            have hm2 : (wa : Int) ≤ wa ∧ ends 5 l ≤ wa ∧ (wa : Int) ≤ 1099511627776 := by omega
            as_aux_lemma =>
              go_wp2_with fail
              refine (pc_stepA HC7.out HP.out (wa) (by omega)).mono ?_
              rintro e w9 ⟨v9, rfl, h9, C9⟩
              obtain ⟨ao, c5, rfl, hno, hnews⟩ := news_of h9
              obtain ⟨t5, ht5⟩ : ∃ t, (told (dues 5 l) (wa) (wa)).length = t := ⟨_, rfl⟩
              obtain ⟨t4, ht4⟩ : ∃ t, (told (dues 5 l) 4 (wa)).length = t := ⟨_, rfl⟩
              have l5 := Nat.le_trans (told_len (dues 5 l) (wa) (wa)) HDL.out
              have l4 := Nat.le_trans (told_len (dues 5 l) 4 (wa)) HDL.out
              rw [ht5] at l5 hno
              rw [ht4] at l4
              rw [ht5]
              have HT52 := Lib.hid ht5
              have HT42 := Lib.hid ht4
              have HO2 := Lib.hid (mine_m C9.own ht4)
              have HNO2 := Lib.hid hno
              have HNW2 := Lib.hid hnews
              have HC9 := Lib.hid C9
              have hs9 := C9.size
              clear h9 C9 hno hnews ht5 ht4
              go_wp2_with (at_builtin; go_loud (refine Own.append_any rfl (.tmp 90) (.tmp 96) 22 rfl _ 42 i0 _ 3 32 Try.underlying22 hi hz0 hz1 hz2 rfl (by decide) _ t4 _ rfl (HO2.out) ao t5 c5 (ov (told (dues 5 l) (wa) (wa))) rfl HNO2.out (by rw [ov_len, HT52.out]) HNW2.out (ov_one' _) (by unfold maxLen; omega) (by omega) (by omega) ?_; intro v' w10 hown hgr; have C10 := Lib.hid (HC9.out.append hgr hown (by rw [HT42.out, HT52.out])); clear hown hgr))
              have C11 := C10.out
              rw [told_two (by omega) (by omega) HSrt.out, dues_map l (wa) HG.out (by omega)] at C11
              have HC11 := Lib.hid C11
              clear C11 C10 HC9 HO2 HNO2 HNW2 hge
              go_loopw [12, 13] (fun v i wr => ∃ k2 : Nat, k2 ≤ n ∧ i = .int .i64 k2 ∧ Hid (Mine wr w10.heap.size v ((l.take k2).filter fun x => decide (x.k ≠ 2))) ∧ Hid (Below w10.heap.size w10 wr)) (fun _ i _ => n - (Go.RowKit.intOf i).toNat)
              case atStart => exact ⟨0, Nat.zero_le _, rfl, Lib.hid (mine_nil _ _), Lib.hid (Below.refl _ _)⟩
              case round =>
                obtain ⟨k2, hk2, rfl, HMi, HBl⟩ := hrel
                rename World => wz
                have hsz := HBl.out.size
                rcases Nat.lt_or_eq_of_le hk2 with hlt3 | rfl
                · have hkl : k2 < l.length := by rw [HN.out]; exact hlt3
                  rcases HH.out.cells with h0 | ⟨b2, o2, rfl, hbl2, hc2⟩
                  · rw [h0] at hkl; simp at hkl
                  · obtain ⟨c0, c1, c2⟩ := hc2 k2 hkl
                    rw [← (HC11.out.below.trans (HBl.out.mono HC11.out.below.size)).cell (p := ⟨b2, _, none⟩) hbl2] at c0 c1 c2
                    have z1 : (k2 : Int) < (n : Int) := by omega
                    by_cases hk3 : l[k2].k = 2
                    · have HFW := Lib.hid (filt_wait hkl hk3)
                      rw [hk3] at c0
                      clear hc2 hk3 c1 c2
                      go_wp2_with fail
                      go_roundw
                      case rel => exact ⟨k2 + 1, by omega, by go_num, by rw [HFW.out]; exact HMi, HBl⟩
                      case measure => simp [Go.RowKit.intOf]; omega
                    · have HF1 := Lib.hid (filt_one hkl hk3)
                      have hk4 : (l[k2].k == 2) = false := by simpa using hk3
                      generalize l[k2] = x at *
                      obtain ⟨xk, xs2, xn⟩ := x
                      simp only at c0 c1 c2 hk4
                      obtain ⟨t6, ht6⟩ : ∃ t, ((l.take k2).filter fun x => decide (x.k ≠ 2)).length = t := ⟨_, rfl⟩
                      have l6 : t6 ≤ k2 := by rw [← ht6]; exact Nat.le_trans (List.length_filter_le _ _) (List.length_take_le _ _)
                      have HO6 := Lib.hid (mine_m HMi.out ht6)
                      have HT6 := Lib.hid ht6
                      clear hc2 hk3 ht6
                      go_wp2_with (at_builtin; go_loud (refine Own.append_any rfl (.tmp 110) (.tmp 115) 22 rfl w10.heap.size 42 i0 _ 3 32 Try.underlying22 hi hz0 hz1 hz2 rfl (by decide) _ _ _ rfl (World.ownsRow.alloc HO6.out _) _ 1 1 [.int .i64 xk, .string ⟨xs2.toArray⟩, .int .i64 xn] rfl (fun h => nomatch h) rfl (Own.three_new _ _ _ _ _ _ (by simp)) (by simp [Value.oneCell']) (by unfold maxLen; omega) (by omega) (by simp; omega) ?_; intro v7 w11 hown hgr; have C7 := Lib.hid (And.intro (mine_more (x := ⟨xk, xs2, xn⟩) hown HT6.out.symm) ((HBl.out.alloc hsz _).grown hgr (by simp; omega) (fun k hk => (World.ownsRow.lt HO6.out k hk).1))); clear hown hgr))
                      go_roundw
                      case rel => exact ⟨k2 + 1, by omega, by go_num, by rw [HF1.out]; exact Lib.hid C7.out.1, Lib.hid C7.out.2⟩
                      case measure => simp [Go.RowKit.intOf]; omega
                · have HMi2 := HMi.out
                  rw [List.take_of_length_le (by rw [HN.out]; exact Nat.le_refl _)] at HMi2
                  have HC12 := Lib.hid (HC11.out.keep HBl.out)
                  have HSm2 := Lib.hid (mine_same HC12.out.own HMi2)
                  clear HMi2 HMi HC11
                  have HGD : Hid (nxB (ends 5 l) (wa) = false) := Lib.hid (by unfold nxB; simp; try omega)
                  go_wp2_with fail
                  refine HSm2.out.mono ?_
                  rintro e w12 ⟨rfl, hb12⟩
                  have HC13 := Lib.hid (HC12.out.keep hb12)
                  clear hb12 HC12 HSm2
                  go_wp2_with fail
                  refine (done_at HC13.out.ra).mono ?_
                  rw [HGD.out]
                  rintro e w' ⟨rfl, rfl⟩
                  go_wp2_with fail
                  refine (pc_stepA HC13.out HP.out 1099511627776 (by omega)).mono ?_
                  rintro e w14 ⟨v14, rfl, h14, C14⟩
                  rw [told_none (fun p hp => Int.le_trans (HP.out.last p hp) hm2.2.1)] at h14
                  obtain ⟨ao2, c14, rfl, -, -⟩ := news_of h14
                  have HC14 := Lib.hid C14
                  clear h14 C14
                  go_wp2_with (go_at_call 6; refine (works_calls _).mono ?_; rintro e w' ⟨rfl, hw⟩)
                  go_ret
                  exact ⟨rfl, HC14.out.below.trans (hw.mono HC14.out.below.size)⟩
  · obtain ⟨cd, hcd⟩ : ∃ cd, chk 5 l = cd := ⟨_, rfl⟩
    rw [hcd] at hc
    have HC := Lib.hid hcd
    have k1 : (cd != 0) = true := by simpa using hc
    clear hcd hc
    go_enter Try.func4, Try.ntmps4
    go_wp2_with fail
    refine (rcheck_calls l n HN.out 5 p c w HH.out).mono ?_
    rintro e w0 ⟨rfl, hB⟩
    rw [HC.out]
    have B0 := Lib.hid hB
    clear hB
    go_wp2_with (go_at_call 6; refine (works_calls _).mono ?_; rintro e w' ⟨rfl, hw⟩)
    go_ret
    exact ⟨rfl, B0.out.trans (hw.mono B0.out.size)⟩
end Go.Proofs.Ytciighiecoalmaa.Run

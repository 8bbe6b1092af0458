/-
  Layer 17 (runner): the law of what Next says, walked.
-/
import Derived.Test.YtciighiecoalmaaRunTells
namespace Go.Proofs.Ytciighiecoalmaa.Run
open Go.RowKit Go.Proofs.Ytciighiecoalmaa.Own Go.Proofs.Ytciighiecoalmaa.Brk Go.Proofs.Ytciighiecoalmaa.Calc Go.Proofs.Ytciighiecoalmaa.Tree

theorem rest_rest {D : List (Int × Op)} {a b : Int} (h : a ≤ b) : rest D b = (rest D a).filter fun p => decide (b < p.1) := by
  unfold rest
  rw [List.filter_filter]
  apply List.filter_congr
  intro p _
  by_cases h2 : b < p.1
  · have : a < p.1 := by omega
    simp [h2, this]
  · simp [h2]
/-- what Next says, where not all is done -/
theorem nx_facts {D : List (Int × Op)} {E was : Int} (hP : Plan D E) (h : was < E) : was < nxV D E was ∧ nxV D E was ≤ E ∧ told D was (nxV D E was - 1) = [] ∧
    ((rest D was = [] ∧ nxV D E was = E ∧ ∀ a b, was ≤ a → told D a b = []) ∨ ((∀ a, a < nxV D E was → told D a (nxV D E was) ≠ []) ∧ (rest D (nxV D E was)).length < (rest D was).length)) := by
  cases hr : rest D was with
  | nil =>
    have hn : ∀ p ∈ D, p.1 ≤ was := fun p hp => by
      have h2 : p ∉ rest D was := by rw [hr]; exact List.not_mem_nil
      unfold rest at h2
      rw [List.mem_filter] at h2
      have : ¬ was < p.1 := fun h3 => h2 ⟨hp, by simpa using h3⟩
      omega
    rw [nx_none h hr]
    exact ⟨h, Int.le_refl _, told_none hn, .inl ⟨rfl, rfl, fun a b ha => told_none fun p hp => Int.le_trans (hn p hp) ha⟩⟩
  | cons p r =>
    have hm : p ∈ rest D was := by rw [hr]; exact List.mem_cons_self
    have hpw : p ∈ D ∧ was < p.1 := by unfold rest at hm; rw [List.mem_filter] at hm; exact ⟨hm.1, by simpa using hm.2⟩
    have hs : (p :: r).Pairwise (fun p q => p.1 ≤ q.1) := by rw [← hr]; unfold rest; exact hP.sorted.filter _
    have hle : ∀ q ∈ D, was < q.1 → p.1 ≤ q.1 := fun q hq hw => by
      have hq2 : q ∈ p :: r := by rw [← hr]; unfold rest; rw [List.mem_filter]; exact ⟨hq, by simpa using hw⟩
      rcases List.mem_cons.1 hq2 with rfl | hq2
      · exact Int.le_refl _
      · exact (List.pairwise_cons.1 hs).1 q hq2
    rw [nx_some h hr]
    refine ⟨hpw.2, hP.last p hpw.1, ?_, .inr ⟨fun a ha => ?_, ?_⟩⟩
    · unfold told
      rw [List.map_eq_nil_iff, List.filter_eq_nil_iff]
      intro q hq
      have := hle q hq
      simp; omega
    · unfold told
      rw [ne_eq, List.map_eq_nil_iff, List.filter_eq_nil_iff]
      intro hx
      have := hx p hpw.1
      simp at this
      omega
    · rw [rest_rest (Int.le_of_lt hpw.2), hr, List.filter_cons, if_neg (by simp)]
      have := List.length_filter_le (fun q : Int × Op => decide (p.1 < q.1)) r
      simp; omega
/-- how many questions there may be still -/
def qs (D : List (Int × Op)) (E was : Int) : Nat := (rest D was).length + if was < E then 1 else 0
theorem qs_step {D : List (Int × Op)} {E was : Int} (hP : Plan D E) (h : was < E) : qs D E (nxV D E was) + 1 ≤ qs D E was := by
  obtain ⟨h1, h2, _, h3⟩ := nx_facts hP h
  unfold qs
  rw [if_pos h]
  rcases h3 with ⟨hr, he, _⟩ | ⟨_, hl⟩
  · rw [he, if_neg (by omega), rest_none (fun p hp => hP.last p hp)]
    simp
  · split <;> omega
theorem qs_start (l : List Op) (now : Int) : qs (dues now l) (ends now l) (now - 1) ≤ l.length + 1 := by
  have h1 : (rest (dues now l) (now - 1)).length ≤ (dues now l).length := List.length_filter_le _ _
  have h2 := dues_len now l
  unfold qs
  split <;> omega
theorem told_some {w : World} {B : Nat} {v : Value} {T : List Op} (h : Mine w B v T) (h0 : T ≠ []) : ∃ p t c, v = .slice p t c ∧ t ≠ 0 := by
  obtain ⟨p, c, rfl, _⟩ := h.ops
  exact ⟨p, _, c, rfl, fun e => h0 (List.eq_nil_of_length_eq_zero e)⟩
theorem told_nil {w : World} {B : Nat} {v : Value} (h : Mine w B v []) : ∃ p c, v = .slice p 0 c := by
  obtain ⟨p, c, e, _⟩ := h.ops
  exact ⟨p, c, e⟩

set_option maxRecDepth 100000 in
set_option maxHeartbeats 8000000 in
theorem next_walk (l : List Op) (p : Option Addr) (n c : Nat) (hn : l.length = n) (s : Int) (hs0 : 0 ≤ s) (hs1 : s ≤ 4294967295) (w : World) (h : Ops w l p c) :
    Calls Try.prog 5 #[.slice p n c, .int .u32 s] w fun e w' => e = .returned (.bool true) ∧ Below w.heap.size w w' := by
  have h2 := h.max
  have h1 := h.cap
  unfold maxLen at h2
  have q1 : (n : Int) ≤ 9223372036854775807 := by omega
  have HN := Lib.hid hn
  have HH := Lib.hid h
  clear h h1 hn
  by_cases hb1 : 40 < n
  · have hb : (40 : Int) < (n : Int) := by omega
    go_enter Try.func5, Try.ntmps5
    go_wp2_with (go_at_call 6; refine (works_calls _).mono ?_; rintro e w' ⟨rfl, hw⟩)
    go_ret
    exact ⟨rfl, hw⟩
  have hb3 : ¬ (40 : Int) < (n : Int) := by omega
  by_cases hc : chk s l = 0
  · have HC := Lib.hid hc
    have HP := Lib.hid (plan_of hc (by rw [HN.out]; omega))
    obtain ⟨t1, t2⟩ := chk_inv hc
    have HT := Lib.hid t1
    have HG := Lib.hid t2
    have HE := Lib.hid (ends_tick t1 t2)
    clear hc t1 t2
    go_enter Try.func5, Try.ntmps5
    go_wp2_with fail
    refine (rcheck_calls l n HN.out s p c w HH.out).mono ?_
    rintro e w0 ⟨rfl, hB⟩
    rw [HC.out]
    have B0 := Lib.hid hB
    clear hB
    go_wp2_with fail
    refine (new_yes l n HN.out (by omega) s (s - 1) (by omega) p c w0 (HH.out.below B0.out) HC.out).mono ?_
    rintro e w1 ⟨b, q, rfl, hA, hb, hq, hB⟩
    have R1 : Hid (Rk w w1 l s b q (s - 1)) := Lib.hid ⟨hA, Nat.le_trans B0.out.size hb, B0.out.trans (hB.mono B0.out.size)⟩
    clear hA hb hq hB
    have hD := HP.out.few
    go_wp2_with fail
    go_loopw [7, 8] (fun u i wr => ∃ (k : Nat) (was : Int), i = .int .i64 k ∧ u = .int .i64 was ∧ s - 1 ≤ was ∧ was ≤ 1099511627776 ∧ Hid (k + qs (dues s l) (ends s l) was ≤ n + 1) ∧ Hid (Rk w wr l s b q was)) (fun _ i _ => n + 2 - (Go.RowKit.intOf i).toNat)
    case atStart => exact ⟨0, s - 1, rfl, rfl, by omega, by omega, Lib.hid (by rw [Nat.zero_add, ← HN.out]; exact qs_start l s), R1⟩
    case round =>
      obtain ⟨k, was, rfl, rfl, s0, s1, HQ, R3⟩ := hrel
      have hk : k ≤ n + 1 := Nat.le_trans (Nat.le_add_right _ _) HQ.out
      have hk2 : (k : Int) ≤ (n : Int) + 1 := by omega
      by_cases hE : was < ends s l
      · have hb0 : nxB (ends s l) was = true := by unfold nxB; simpa using hE
        have HNB := Lib.hid hb0
        obtain ⟨f1, f2, f3, f4⟩ := nx_facts HP.out hE
        have HQS := Lib.hid (qs_step HP.out hE)
        obtain ⟨e0, e1⟩ := isT_iff.1 HE.out
        obtain ⟨av, hav⟩ : ∃ av, nxV (dues s l) (ends s l) was = av := ⟨_, rfl⟩
        rw [hav] at f1 f2 f3 f4 HQS
        have HAV := Lib.hid hav
        have HF3 := Lib.hid f3
        have g1 : ¬ av ≤ was := by omega
        have g2 : ¬ ends s l < av := by omega
        have g3 : decide (av ≤ was) = false := by simpa using g1
        have g4 : decide (ends s l < av) = false := by simpa using g2
        clear hb0 f3 hav
        by_cases hA : was < av - 1
        · have g5 : s < av := by omega
          rcases f4 with ⟨f5, f6, f7⟩ | ⟨f5, f6⟩
          · have HF7 := Lib.hid f7
            have HF6 := Lib.hid f6
            clear f5 f6 f7
            as_aux_lemma =>
              go_wp2_with fail
              refine (next_at R3.out.run).mono ?_
              rw [HNB.out, HAV.out]
              rintro e w' ⟨rfl, rfl⟩
              go_wp2_with fail
              refine (ends_calls R3.out.run).mono ?_
              rintro e w' ⟨rfl, rfl⟩
              go_wp2_with fail
              refine (rk_step R3.out HP.out (av - 1) (by omega)).mono ?_
              rintro e w5 ⟨v5, rfl, h5, hR5, -⟩
              rw [HF3.out] at h5
              obtain ⟨p5, c5, rfl⟩ := told_nil h5
              have R5 := Lib.hid hR5
              have hav1 : av - 1 ≤ av ∧ s - 1 ≤ av - 1 ∧ was ≤ av - 1 := by omega
              clear h5 hR5
              go_wp2_with fail
              refine (rk_step R5.out HP.out av (by omega)).mono ?_
              rintro e w6 ⟨v6, rfl, h6, hR6, -⟩
              rw [HF7.out _ _ (by omega)] at h6
              obtain ⟨p6, c6, rfl⟩ := told_nil h6
              have R6 := Lib.hid hR6
              clear h6 hR6
              go_wp2_with fail
              refine (done_at R6.out.run).mono ?_
              rw [show nxB (ends s l) av = false by unfold nxB; rw [HF6.out]; simp]
              rintro e w' ⟨rfl, rfl⟩
              go_wp2_with fail
              go_roundw
              case rel => exact ⟨k + 1, av, by go_num, rfl, by omega, by omega, Lib.hid (by have := HQ.out; have := HQS.out; omega), R6⟩
              case measure => simp [Go.RowKit.intOf]; omega
          · have HF5 := Lib.hid f5
            clear f5 f6
            as_aux_lemma =>
              go_wp2_with fail
              refine (next_at R3.out.run).mono ?_
              rw [HNB.out, HAV.out]
              rintro e w' ⟨rfl, rfl⟩
              go_wp2_with fail
              refine (ends_calls R3.out.run).mono ?_
              rintro e w' ⟨rfl, rfl⟩
              go_wp2_with fail
              refine (rk_step R3.out HP.out (av - 1) (by omega)).mono ?_
              rintro e w5 ⟨v5, rfl, h5, hR5, -⟩
              rw [HF3.out] at h5
              obtain ⟨p5, c5, rfl⟩ := told_nil h5
              have R5 := Lib.hid hR5
              have hav1 : av - 1 ≤ av ∧ s - 1 ≤ av - 1 ∧ was ≤ av - 1 := by omega
              clear h5 hR5
              go_wp2_with fail
              refine (rk_step R5.out HP.out av (by omega)).mono ?_
              rintro e w6 ⟨v6, rfl, h6, hR6, -⟩
              obtain ⟨p6, t6, c6, rfl, hne⟩ := told_some h6 (HF5.out _ (by omega))
              have hne2 : ((t6 : Int) == 0) = false := by simpa using hne
              have R6 := Lib.hid hR6
              clear h6 hR6 hne
              go_wp2_with fail
              go_roundw
              case rel => exact ⟨k + 1, av, by go_num, rfl, by omega, by omega, Lib.hid (by have := HQ.out; have := HQS.out; omega), R6⟩
              case measure => simp [Go.RowKit.intOf]; omega
        · have g6 : decide (was < av - 1) = false := by simpa using hA
          rcases f4 with ⟨f5, f6, f7⟩ | ⟨f5, f6⟩
          · have HF7 := Lib.hid f7
            have HF6 := Lib.hid f6
            clear f5 f6 f7
            as_aux_lemma =>
              go_wp2_with fail
              refine (next_at R3.out.run).mono ?_
              rw [HNB.out, HAV.out]
              rintro e w' ⟨rfl, rfl⟩
              go_wp2_with fail
              refine (ends_calls R3.out.run).mono ?_
              rintro e w' ⟨rfl, rfl⟩
              have R5 : Hid (Rk w wr l s b q was) := R3
              go_wp2_with fail
              refine (rk_step R5.out HP.out av (by omega)).mono ?_
              rintro e w6 ⟨v6, rfl, h6, hR6, -⟩
              rw [HF7.out _ _ (by omega)] at h6
              obtain ⟨p6, c6, rfl⟩ := told_nil h6
              have R6 := Lib.hid hR6
              clear h6 hR6
              go_wp2_with fail
              refine (done_at R6.out.run).mono ?_
              rw [show nxB (ends s l) av = false by unfold nxB; rw [HF6.out]; simp]
              rintro e w' ⟨rfl, rfl⟩
              go_wp2_with fail
              go_roundw
              case rel => exact ⟨k + 1, av, by go_num, rfl, by omega, by omega, Lib.hid (by have := HQ.out; have := HQS.out; omega), R6⟩
              case measure => simp [Go.RowKit.intOf]; omega
          · have HF5 := Lib.hid f5
            clear f5 f6
            as_aux_lemma =>
              go_wp2_with fail
              refine (next_at R3.out.run).mono ?_
              rw [HNB.out, HAV.out]
              rintro e w' ⟨rfl, rfl⟩
              go_wp2_with fail
              refine (ends_calls R3.out.run).mono ?_
              rintro e w' ⟨rfl, rfl⟩
              have R5 : Hid (Rk w wr l s b q was) := R3
              go_wp2_with fail
              refine (rk_step R5.out HP.out av (by omega)).mono ?_
              rintro e w6 ⟨v6, rfl, h6, hR6, -⟩
              obtain ⟨p6, t6, c6, rfl, hne⟩ := told_some h6 (HF5.out _ (by omega))
              have hne2 : ((t6 : Int) == 0) = false := by simpa using hne
              have R6 := Lib.hid hR6
              clear h6 hR6 hne
              go_wp2_with fail
              go_roundw
              case rel => exact ⟨k + 1, av, by go_num, rfl, by omega, by omega, Lib.hid (by have := HQ.out; have := HQS.out; omega), R6⟩
              case measure => simp [Go.RowKit.intOf]; omega
      · have HNB : Hid (nxB (ends s l) was = false) := Lib.hid (by unfold nxB; simpa using hE)
        have HNV : Hid (nxV (dues s l) (ends s l) was = 0) := Lib.hid (nx_done (by omega))
        go_wp2_with fail
        refine (next_at R3.out.run).mono ?_
        rw [HNB.out, HNV.out]
        rintro e w' ⟨rfl, rfl⟩
        go_wp2_with fail
        refine (done_at R3.out.run).mono ?_
        rw [HNB.out]
        rintro e w' ⟨rfl, rfl⟩
        go_wp2_with (go_at_call 6; refine (works_calls _).mono ?_; rintro e w' ⟨rfl, hw⟩)
        go_ret
        exact ⟨rfl, R3.out.below.trans (hw.mono R3.out.below.size)⟩
  · obtain ⟨cd, hcd⟩ : ∃ cd, chk s l = cd := ⟨_, rfl⟩
    rw [hcd] at hc
    have HC := Lib.hid hcd
    have k1 : (cd != 0) = true := by simpa using hc
    clear hcd hc
    go_enter Try.func5, Try.ntmps5
    go_wp2_with fail
    refine (rcheck_calls l n HN.out s p c w HH.out).mono ?_
    rintro e w0 ⟨rfl, hB⟩
    rw [HC.out]
    have B0 := Lib.hid hB
    clear hB
    go_wp2_with (go_at_call 6; refine (works_calls _).mono ?_; rintro e w' ⟨rfl, hw⟩)
    go_ret
    exact ⟨rfl, B0.out.trans (hw.mono B0.out.size)⟩
end Go.Proofs.Ytciighiecoalmaa.Run

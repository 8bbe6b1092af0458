/-
  Layer 18 (backoff): the laws, walked.
-/
import Derived.Test.YtblmjacphhpekaaBkfWorks
import Derived.Test.YtblmjacphhpekaaNums
namespace Go.Proofs.Ytblmjacphhpekaa.Bkf
open Go.RowKit Go.Proofs.Ytblmjacphhpekaa.Own Go.Proofs.Ytblmjacphhpekaa.Rw Go.Proofs.Ytblmjacphhpekaa.Tree Go.Proofs.Ytblmjacphhpekaa.Calc Go.Proofs.Ytblmjacphhpekaa.Run

theorem at_pos {b c j : Int} (h : okR b c j) (n : Nat) {now : Int} (ht : isT now = true) (r : Int) : 0 ≤ atR b c j n now r := by
  have h1 := at_rng h n now r
  have h2 := low_rng h n
  have h3 := (isT_iff.1 ht).1
  have := h.1
  omega
set_option maxRecDepth 100000 in
set_option maxHeartbeats 8000000 in
theorem waits_walk (b c j : Int) (xs : List Int) (p : Option Addr) (m cx : Nat) (hm : xs.length = m) (now g : Int) (hg0 : 0 ≤ g) (hg1 : g ≤ 255) (w : World) (hx : Nums w .i64 xs p cx) :
    Calls Try.prog 3 #[.agg #[.int .i64 b, .int .i64 c, .int .i64 j], .slice p m cx, .int .i64 now, .int .u8 g] w fun e w' => e = .returned (.bool true) ∧ Below w.heap.size w w' := by
  have h1 := hx.cap
  have h4 := hx.max
  unfold maxLen at h4
  have q2 : (m : Int) ≤ 9223372036854775807 := by omega
  have HM := Lib.hid hm
  have HX := Lib.hid hx
  have hA := (Below.refl w.heap.size w).alloc (Nat.le_refl _) (.cells #[.int .i64 b, .int .i64 c, .int .i64 j] 23 (0, 0))
  have HR := Lib.hid (at_new w (.cells #[.int .i64 b, .int .i64 c, .int .i64 j] 23 (0, 0)))
  have HA := Lib.hid hA
  have hlt : w.heap.size < (w.alloc (.cells #[.int .i64 b, .int .i64 c, .int .i64 j] 23 (0, 0))).heap.size := by simp
  have HLT := Lib.hid hlt
  clear hm hx h1 hA hlt
  by_cases hb1 : 60 < m
  · have hb : (60 : Int) < (m : Int) := by omega
    go_enter Try.func3, Try.ntmps3
    go_wp2_with (go_at_call 5; refine (works_calls _).mono ?_; rintro e w' ⟨rfl, hw⟩)
    go_ret
    exact ⟨rfl, HA.out.trans (hw.mono (by simp))⟩
  have hb3 : ¬ (60 : Int) < (m : Int) := by omega
  have RULE : ∀ W : World, Below (w.alloc (.cells #[.int .i64 b, .int .i64 c, .int .i64 j] 23 (0, 0))).heap.size (w.alloc (.cells #[.int .i64 b, .int .i64 c, .int .i64 j] 23 (0, 0))) W → W.cell? ⟨w.heap.size, 0, none⟩ = some (.int .i64 b) ∧ W.cell? ⟨w.heap.size, 1, none⟩ = some (.int .i64 c) ∧ W.cell? ⟨w.heap.size, 2, none⟩ = some (.int .i64 j) :=
    fun W hW => row3i ((hW.block _ HLT.out).trans HR.out)
  have HRU := Lib.hid RULE
  clear RULE
  by_cases hk : okR b c j
  · have HK := Lib.hid hk
    have HC := Lib.hid (chk_ok hk)
    clear hk
    go_enter Try.func3, Try.ntmps3
    go_wp2_with fail
    obtain ⟨WA, hWA⟩ : ∃ WA, w.alloc (.cells #[.int .i64 b, .int .i64 c, .int .i64 j] 23 (0, 0)) = WA := ⟨_, rfl⟩
    rw [hWA] at HRU HA
    rw [hWA]
    have HS : Hid (w.heap.size ≤ WA.heap.size) := Lib.hid (by rw [← hWA]; simp)
    clear HR HLT hWA
    refine (wk_new HK.out).mono ?_
    rintro e w1 ⟨k, rfl, h1, h2, h3⟩
    have W1 : Hid (Wk WA w1 k b c j 0) := Lib.hid ⟨h1, h2, h3⟩
    clear h1 h2 h3
    obtain ⟨c0, c1, c2⟩ := HRU.out _ W1.out.below
    go_wp2_with fail
    refine (rcheck_calls b c j w1).mono ?_
    rintro e w' ⟨rfl, rfl⟩
    rw [HC.out]
    go_wp2_with fail
    refine (check_calls b c j w1).mono ?_
    rintro e w2 ⟨rfl, hB⟩
    rw [HC.out]
    have W2 := Lib.hid (W1.out.keep hB)
    clear hB W1 c0 c1 c2
    go_wp2_with fail
    go_loopw [12, 13] (fun u i wr => ∃ (q n : Nat), q ≤ m ∧ n ≤ q ∧ i = .int .i64 q ∧ u = .int .i64 n ∧ Hid (Wk WA wr k b c j n)) (fun _ i _ => m - (Go.RowKit.intOf i).toNat)
    case atStart => exact ⟨0, 0, Nat.zero_le _, Nat.le_refl _, rfl, rfl, W2⟩
    case round =>
      obtain ⟨q, n, hq, hnq, rfl, rfl, W3⟩ := hrel
      rcases Nat.lt_or_eq_of_le hq with hlt | rfl
      · have hkl : q < xs.length := by rw [HM.out]; exact hlt
        have hn18 : n < 1000000000000000000 := by omega
        have z1 : (q : Int) < (m : Int) := by omega
        rcases HX.out.cells with h0 | ⟨bx, ox, rfl, hbl, hcx⟩
        · rw [h0] at hkl; simp at hkl
        · have hbl2 : bx < WA.heap.size := Nat.lt_of_lt_of_le hbl HS.out
          have CEL : Hid (∀ W, Below WA.heap.size WA W → W.cell? ⟨bx, ox + q, none⟩ = some (.int .i64 xs[q])) := Lib.hid (fun W hW => by
            rw [hW.cell (p := ⟨bx, _, none⟩) hbl2, HA.out.cell (p := ⟨bx, _, none⟩) hbl]
            exact hcx q hkl)
          clear hcx
          generalize xs[q] = x at *
          have hgq : (0 < q ∧ (q : Int) = g) ∨ q = 0 ∨ (0 < q ∧ (q : Int) ≠ g) := by omega
          rcases hgq with ⟨hq0, hqg⟩ | hq0 | ⟨hq0, hqg⟩
          · have k1 : decide ((0 : Int) < (q : Int)) = true := by simpa using hq0
            have k2 : ((q : Int) == g) = true := by simpa using hqg
            have k3 : (0 : Int) < (q : Int) := by omega
            clear hqg
            go_wp2_with fail
            refine (wk_good W3.out).mono ?_
            rintro e w4 ⟨rfl, hW⟩
            have W4 := Lib.hid hW
            clear hW
            have hn0 : (0 : Nat) < 1000000000000000000 := by omega
            by_cases hT : isT now = true
            · obtain ⟨t0, t1⟩ := isT_iff.1 hT
              have t2 : ¬ now < 0 := by omega
              have t3 : ¬ 1099511627776 < now := by omega
              have HT := Lib.hid hT
              have hp := at_pos HK.out 0 hT x
              have HB : Hid (atB b c j 0 now x = decide (atR b c j 0 now x ≤ 1099511627776)) := Lib.hid rfl
              clear hT
              by_cases hA : isT (atR b c j 0 now x) = true
              · have HIA := Lib.hid hA
                obtain ⟨a0, a1⟩ := isT_iff.1 hA
                rw [decide_eq_true a1] at HB
                obtain ⟨av, hav⟩ : ∃ av, atR b c j 0 now x = av := ⟨_, rfl⟩
                rw [hav] at HIA
                have HAV := Lib.hid hav
                clear hA hav a0 a1 hp
                have x0 := CEL.out _ W4.out.below
                go_wp2_with fail
                refine (wk_yes HK.out hn0 W4.out now x av HT.out HAV.out HIA.out).mono ?_
                rintro e w5 ⟨rfl, hW⟩
                have W5 := Lib.hid hW
                clear hW W4 x0
                have x1 := CEL.out _ W5.out.below
                obtain ⟨c0, c1, c2⟩ := HRU.out _ W5.out.below
                have HQ := Lib.hid (fun W => rat_calls b c j HK.out 0 now x HT.out W)
                rw [HAV.out, HB.out] at HQ
                go_wp2_with fail
                go_quiet ((go_at_call 11; exact Calls.quiet_of_same ((HQ.out _).mono fun _ _ h => ⟨h.1, h.2.symm⟩)))
                go_wp2_with fail
                refine (wk_tries (n := 0 + 1) (by omega) (W5.out.keep (below_drew (Below.refl _ _)))).mono ?_
                rintro e w6 ⟨rfl, hW⟩
                have W6 := Lib.hid hW
                clear hW W5 x1 c0 c1 c2
                go_wp2_with fail
                go_roundw
                case rel => exact ⟨q + 1, 0 + 1, hlt, by omega, by go_num, by go_num, W6⟩
                case measure => simp [Go.RowKit.intOf]; omega
              · have HIA : Hid (isT (atR b c j 0 now x) = false) := Lib.hid (by simpa using hA)
                have a1 : ¬ atR b c j 0 now x ≤ 1099511627776 := fun h => hA (isT_iff.2 ⟨hp, h⟩)
                rw [decide_eq_false a1] at HB
                obtain ⟨av, hav⟩ : ∃ av, atR b c j 0 now x = av := ⟨_, rfl⟩
                rw [hav] at HIA
                have HAV := Lib.hid hav
                clear hA hav a1 hp
                have x0 := CEL.out _ W4.out.below
                go_wp2_with fail
                refine (wk_far HK.out hn0 W4.out now x HT.out (by rw [HAV.out]; exact HIA.out)).mono ?_
                rintro e w5 ⟨rfl, hW⟩
                have W5 := Lib.hid hW
                clear hW W4 x0
                have x1 := CEL.out _ W5.out.below
                obtain ⟨c0, c1, c2⟩ := HRU.out _ W5.out.below
                have HQ := Lib.hid (fun W => rat_calls b c j HK.out 0 now x HT.out W)
                rw [HAV.out, HB.out] at HQ
                go_wp2_with fail
                go_quiet ((go_at_call 11; exact Calls.quiet_of_same ((HQ.out _).mono fun _ _ h => ⟨h.1, h.2.symm⟩)))
                go_wp2_with fail
                refine (wk_tries (n := 0) (by omega) (W5.out.keep (below_drew (Below.refl _ _)))).mono ?_
                rintro e w6 ⟨rfl, hW⟩
                have W6 := Lib.hid hW
                clear hW W5 x1 c0 c1 c2
                go_wp2_with fail
                go_roundw
                case rel => exact ⟨q + 1, 0, hlt, by omega, by go_num, rfl, W6⟩
                case measure => simp [Go.RowKit.intOf]; omega
            · have hT2 : isT now = false := by simpa using hT
              have HT := Lib.hid hT2
              have hs : now < 0 ∨ (0 ≤ now ∧ 1099511627776 < now) := by
                have := isT_not.1 hT2
                omega
              clear hT hT2
              have x0 := CEL.out _ W4.out.below
              rcases hs with t0 | ⟨t0, t1⟩
              all_goals
                go_wp2_with fail
                refine (wk_arg HK.out hn0 W4.out now x HT.out).mono ?_
                rintro e w5 ⟨rfl, hW⟩
                have W5 := Lib.hid hW
                clear hW x0
                go_wp2_with fail
                go_roundw
                case rel => exact ⟨q + 1, 0, hlt, by omega, by go_num, rfl, W5⟩
                case measure => simp [Go.RowKit.intOf]; omega
          · have k1 : decide ((0 : Int) < (q : Int)) = false := by simp; omega
            have k4 : decide (0 < q) = false := by simp; omega
            clear hq0
            have W4 := W3
            have hn0 := hn18
            by_cases hT : isT now = true
            · obtain ⟨t0, t1⟩ := isT_iff.1 hT
              have t2 : ¬ now < 0 := by omega
              have t3 : ¬ 1099511627776 < now := by omega
              have HT := Lib.hid hT
              have hp := at_pos HK.out n hT x
              have HB : Hid (atB b c j n now x = decide (atR b c j n now x ≤ 1099511627776)) := Lib.hid rfl
              clear hT
              by_cases hA : isT (atR b c j n now x) = true
              · have HIA := Lib.hid hA
                obtain ⟨a0, a1⟩ := isT_iff.1 hA
                rw [decide_eq_true a1] at HB
                obtain ⟨av, hav⟩ : ∃ av, atR b c j n now x = av := ⟨_, rfl⟩
                rw [hav] at HIA
                have HAV := Lib.hid hav
                clear hA hav a0 a1 hp
                have x0 := CEL.out _ W4.out.below
                go_wp2_with fail
                refine (wk_yes HK.out hn0 W4.out now x av HT.out HAV.out HIA.out).mono ?_
                rintro e w5 ⟨rfl, hW⟩
                have W5 := Lib.hid hW
                clear hW W4 x0
                have x1 := CEL.out _ W5.out.below
                obtain ⟨c0, c1, c2⟩ := HRU.out _ W5.out.below
                have HQ := Lib.hid (fun W => rat_calls b c j HK.out n now x HT.out W)
                rw [HAV.out, HB.out] at HQ
                go_wp2_with fail
                go_quiet ((go_at_call 11; exact Calls.quiet_of_same ((HQ.out _).mono fun _ _ h => ⟨h.1, h.2.symm⟩)))
                go_wp2_with fail
                refine (wk_tries (n := n + 1) (by omega) (W5.out.keep (below_drew (Below.refl _ _)))).mono ?_
                rintro e w6 ⟨rfl, hW⟩
                have W6 := Lib.hid hW
                clear hW W5 x1 c0 c1 c2
                go_wp2_with fail
                go_roundw
                case rel => exact ⟨q + 1, n + 1, hlt, by omega, by go_num, by go_num, W6⟩
                case measure => simp [Go.RowKit.intOf]; omega
              · have HIA : Hid (isT (atR b c j n now x) = false) := Lib.hid (by simpa using hA)
                have a1 : ¬ atR b c j n now x ≤ 1099511627776 := fun h => hA (isT_iff.2 ⟨hp, h⟩)
                rw [decide_eq_false a1] at HB
                obtain ⟨av, hav⟩ : ∃ av, atR b c j n now x = av := ⟨_, rfl⟩
                rw [hav] at HIA
                have HAV := Lib.hid hav
                clear hA hav a1 hp
                have x0 := CEL.out _ W4.out.below
                go_wp2_with fail
                refine (wk_far HK.out hn0 W4.out now x HT.out (by rw [HAV.out]; exact HIA.out)).mono ?_
                rintro e w5 ⟨rfl, hW⟩
                have W5 := Lib.hid hW
                clear hW W4 x0
                have x1 := CEL.out _ W5.out.below
                obtain ⟨c0, c1, c2⟩ := HRU.out _ W5.out.below
                have HQ := Lib.hid (fun W => rat_calls b c j HK.out n now x HT.out W)
                rw [HAV.out, HB.out] at HQ
                go_wp2_with fail
                go_quiet ((go_at_call 11; exact Calls.quiet_of_same ((HQ.out _).mono fun _ _ h => ⟨h.1, h.2.symm⟩)))
                go_wp2_with fail
                refine (wk_tries (n := n) (by omega) (W5.out.keep (below_drew (Below.refl _ _)))).mono ?_
                rintro e w6 ⟨rfl, hW⟩
                have W6 := Lib.hid hW
                clear hW W5 x1 c0 c1 c2
                go_wp2_with fail
                go_roundw
                case rel => exact ⟨q + 1, n, hlt, by omega, by go_num, rfl, W6⟩
                case measure => simp [Go.RowKit.intOf]; omega
            · have hT2 : isT now = false := by simpa using hT
              have HT := Lib.hid hT2
              have hs : now < 0 ∨ (0 ≤ now ∧ 1099511627776 < now) := by
                have := isT_not.1 hT2
                omega
              clear hT hT2
              have x0 := CEL.out _ W4.out.below
              rcases hs with t0 | ⟨t0, t1⟩
              all_goals
                go_wp2_with fail
                refine (wk_arg HK.out hn0 W4.out now x HT.out).mono ?_
                rintro e w5 ⟨rfl, hW⟩
                have W5 := Lib.hid hW
                clear hW x0
                go_wp2_with fail
                go_roundw
                case rel => exact ⟨q + 1, n, hlt, by omega, by go_num, rfl, W5⟩
                case measure => simp [Go.RowKit.intOf]; omega
          · have k1 : decide ((0 : Int) < (q : Int)) = true := by simpa using hq0
            have k2 : ((q : Int) == g) = false := by simpa using hqg
            have k3 : (0 : Int) < (q : Int) := by omega
            clear hqg
            have W4 := W3
            have hn0 := hn18
            by_cases hT : isT now = true
            · obtain ⟨t0, t1⟩ := isT_iff.1 hT
              have t2 : ¬ now < 0 := by omega
              have t3 : ¬ 1099511627776 < now := by omega
              have HT := Lib.hid hT
              have hp := at_pos HK.out n hT x
              have HB : Hid (atB b c j n now x = decide (atR b c j n now x ≤ 1099511627776)) := Lib.hid rfl
              clear hT
              by_cases hA : isT (atR b c j n now x) = true
              · have HIA := Lib.hid hA
                obtain ⟨a0, a1⟩ := isT_iff.1 hA
                rw [decide_eq_true a1] at HB
                obtain ⟨av, hav⟩ : ∃ av, atR b c j n now x = av := ⟨_, rfl⟩
                rw [hav] at HIA
                have HAV := Lib.hid hav
                clear hA hav a0 a1 hp
                have x0 := CEL.out _ W4.out.below
                go_wp2_with fail
                refine (wk_yes HK.out hn0 W4.out now x av HT.out HAV.out HIA.out).mono ?_
                rintro e w5 ⟨rfl, hW⟩
                have W5 := Lib.hid hW
                clear hW W4 x0
                have x1 := CEL.out _ W5.out.below
                obtain ⟨c0, c1, c2⟩ := HRU.out _ W5.out.below
                have HQ := Lib.hid (fun W => rat_calls b c j HK.out n now x HT.out W)
                rw [HAV.out, HB.out] at HQ
                go_wp2_with fail
                go_quiet ((go_at_call 11; exact Calls.quiet_of_same ((HQ.out _).mono fun _ _ h => ⟨h.1, h.2.symm⟩)))
                go_wp2_with fail
                refine (wk_tries (n := n + 1) (by omega) (W5.out.keep (below_drew (Below.refl _ _)))).mono ?_
                rintro e w6 ⟨rfl, hW⟩
                have W6 := Lib.hid hW
                clear hW W5 x1 c0 c1 c2
                go_wp2_with fail
                go_roundw
                case rel => exact ⟨q + 1, n + 1, hlt, by omega, by go_num, by go_num, W6⟩
                case measure => simp [Go.RowKit.intOf]; omega
              · have HIA : Hid (isT (atR b c j n now x) = false) := Lib.hid (by simpa using hA)
                have a1 : ¬ atR b c j n now x ≤ 1099511627776 := fun h => hA (isT_iff.2 ⟨hp, h⟩)
                rw [decide_eq_false a1] at HB
                obtain ⟨av, hav⟩ : ∃ av, atR b c j n now x = av := ⟨_, rfl⟩
                rw [hav] at HIA
                have HAV := Lib.hid hav
                clear hA hav a1 hp
                have x0 := CEL.out _ W4.out.below
                go_wp2_with fail
                refine (wk_far HK.out hn0 W4.out now x HT.out (by rw [HAV.out]; exact HIA.out)).mono ?_
                rintro e w5 ⟨rfl, hW⟩
                have W5 := Lib.hid hW
                clear hW W4 x0
                have x1 := CEL.out _ W5.out.below
                obtain ⟨c0, c1, c2⟩ := HRU.out _ W5.out.below
                have HQ := Lib.hid (fun W => rat_calls b c j HK.out n now x HT.out W)
                rw [HAV.out, HB.out] at HQ
                go_wp2_with fail
                go_quiet ((go_at_call 11; exact Calls.quiet_of_same ((HQ.out _).mono fun _ _ h => ⟨h.1, h.2.symm⟩)))
                go_wp2_with fail
                refine (wk_tries (n := n) (by omega) (W5.out.keep (below_drew (Below.refl _ _)))).mono ?_
                rintro e w6 ⟨rfl, hW⟩
                have W6 := Lib.hid hW
                clear hW W5 x1 c0 c1 c2
                go_wp2_with fail
                go_roundw
                case rel => exact ⟨q + 1, n, hlt, by omega, by go_num, rfl, W6⟩
                case measure => simp [Go.RowKit.intOf]; omega
            · have hT2 : isT now = false := by simpa using hT
              have HT := Lib.hid hT2
              have hs : now < 0 ∨ (0 ≤ now ∧ 1099511627776 < now) := by
                have := isT_not.1 hT2
                omega
              clear hT hT2
              have x0 := CEL.out _ W4.out.below
              rcases hs with t0 | ⟨t0, t1⟩
              all_goals
                go_wp2_with fail
                refine (wk_arg HK.out hn0 W4.out now x HT.out).mono ?_
                rintro e w5 ⟨rfl, hW⟩
                have W5 := Lib.hid hW
                clear hW x0
                go_wp2_with fail
                go_roundw
                case rel => exact ⟨q + 1, n, hlt, by omega, by go_num, rfl, W5⟩
                case measure => simp [Go.RowKit.intOf]; omega
      · go_wp2_with (go_at_call 5; refine (works_calls _).mono ?_; rintro e w' ⟨rfl, hw⟩)
        go_ret
        exact ⟨rfl, HA.out.trans ((W3.out.below.trans (hw.mono W3.out.below.size)).mono HS.out)⟩
  · have HN := Lib.hid hk
    have HC := Lib.hid (chk_no hk)
    clear hk
    go_enter Try.func3, Try.ntmps3
    go_wp2_with fail
    refine (new_no b c j HN.out _).mono ?_
    rintro e w1 ⟨rfl, hB⟩
    have B1 := Lib.hid hB
    clear hB
    obtain ⟨c0, c1, c2⟩ := HRU.out _ B1.out
    go_wp2_with fail
    refine (rcheck_calls b c j w1).mono ?_
    rintro e w' ⟨rfl, rfl⟩
    rw [HC.out]
    go_wp2_with fail
    refine (check_calls b c j w1).mono ?_
    rintro e w2 ⟨rfl, hB⟩
    rw [HC.out]
    have B2 := Lib.hid (B1.out.trans (hB.mono B1.out.size))
    clear hB c0 c1 c2
    go_wp2_with (go_at_call 5; refine (works_calls _).mono ?_; rintro e w' ⟨rfl, hw⟩)
    go_ret
    exact ⟨rfl, HA.out.trans ((B2.out.trans (hw.mono B2.out.size)).mono (by simp))⟩

set_option maxRecDepth 100000 in
set_option maxHeartbeats 8000000 in
theorem bounds_walk (b c j : Int) (n : Int) (s r : Int) (hs0 : 0 ≤ s) (hs1 : s ≤ 4294967295) (w : World) :
    Calls Try.prog 4 #[.agg #[.int .i64 b, .int .i64 c, .int .i64 j], .int .i64 n, .int .u32 s, .int .i64 r] w fun e w' => e = .returned (.bool true) ∧ Below w.heap.size w w' := by
  have hA := (Below.refl w.heap.size w).alloc (Nat.le_refl _) (.cells #[.int .i64 b, .int .i64 c, .int .i64 j] 23 (0, 0))
  have HR := Lib.hid (at_new w (.cells #[.int .i64 b, .int .i64 c, .int .i64 j] 23 (0, 0)))
  have HA := Lib.hid hA
  have hlt : w.heap.size < (w.alloc (.cells #[.int .i64 b, .int .i64 c, .int .i64 j] 23 (0, 0))).heap.size := by simp
  have HLT := Lib.hid hlt
  clear hA hlt
  have RULE : ∀ W : World, Below (w.alloc (.cells #[.int .i64 b, .int .i64 c, .int .i64 j] 23 (0, 0))).heap.size (w.alloc (.cells #[.int .i64 b, .int .i64 c, .int .i64 j] 23 (0, 0))) W → W.cell? ⟨w.heap.size, 0, none⟩ = some (.int .i64 b) ∧ W.cell? ⟨w.heap.size, 1, none⟩ = some (.int .i64 c) ∧ W.cell? ⟨w.heap.size, 2, none⟩ = some (.int .i64 j) :=
    fun W hW => row3i ((hW.block _ HLT.out).trans HR.out)
  have HRU := Lib.hid RULE
  clear RULE
  by_cases hk : okR b c j
  · have HK := Lib.hid hk
    have HC := Lib.hid (chk_ok hk)
    have hcs : n < 0 ∨ (0 ≤ n ∧ 100 < n) ∨ (0 ≤ n ∧ n ≤ 100) := by omega
    rcases hcs with hn | ⟨hn, hn2⟩ | ⟨hn, hn2⟩
    · clear hk
      go_enter Try.func4, Try.ntmps4
      go_wp2_with fail
      refine (check_calls b c j _).mono ?_
      rintro e w1 ⟨rfl, hB⟩
      rw [HC.out]
      have B1 := Lib.hid hB
      clear hB
      go_wp2_with (go_at_call 5; refine (works_calls _).mono ?_; rintro e w' ⟨rfl, hw⟩)
      go_ret
      exact ⟨rfl, HA.out.trans ((B1.out.trans (hw.mono B1.out.size)).mono (by simp))⟩
    · have hn3 : ¬ n < 0 := by omega
      clear hk
      go_enter Try.func4, Try.ntmps4
      go_wp2_with fail
      refine (check_calls b c j _).mono ?_
      rintro e w1 ⟨rfl, hB⟩
      rw [HC.out]
      have B1 := Lib.hid hB
      clear hB
      go_wp2_with (go_at_call 5; refine (works_calls _).mono ?_; rintro e w' ⟨rfl, hw⟩)
      go_ret
      exact ⟨rfl, HA.out.trans ((B1.out.trans (hw.mono B1.out.size)).mono (by simp))⟩
    · have hn3 : ¬ n < 0 := by omega
      have hn4 : ¬ 100 < n := by omega
      obtain ⟨m, rfl⟩ : ∃ m : Nat, n = (m : Int) := ⟨n.toNat, by omega⟩
      go_enter Try.func4, Try.ntmps4
      go_wp2_with fail
      obtain ⟨WA, hWA⟩ : ∃ WA, w.alloc (.cells #[.int .i64 b, .int .i64 c, .int .i64 j] 23 (0, 0)) = WA := ⟨_, rfl⟩
      rw [hWA] at HRU HA
      rw [hWA]
      have HS : Hid (w.heap.size ≤ WA.heap.size) := Lib.hid (by rw [← hWA]; simp)
      clear HR HLT hWA
      refine (check_calls b c j WA).mono ?_
      rintro e w1 ⟨rfl, hB⟩
      rw [HC.out]
      have B1 := Lib.hid hB
      clear hB
      obtain ⟨c0, c1, c2⟩ := HRU.out _ B1.out
      go_wp2_with fail
      refine (wk_new HK.out).mono ?_
      rintro e w2 ⟨k, rfl, h1, h2, h3⟩
      have W2 : Hid (Wk WA w2 k b c j 0) := Lib.hid ⟨h1, Nat.le_trans B1.out.size h2, B1.out.trans (h3.mono B1.out.size)⟩
      clear h1 h2 h3 c0 c1 c2
      obtain ⟨g1, g2, g3, g4, g5, g6⟩ := hk
      go_wp2_with fail
      go_loopw [11, 12] (fun u i wr => ∃ (q : Nat) (v : Int), q ≤ m + 1 ∧ i = .int .i64 q ∧ u = .int .i64 v ∧ Hid (v ≤ lowR b c q) ∧ Hid (Wk WA wr k b c j q)) (fun _ i _ => m + 1 - (Go.RowKit.intOf i).toNat)
      case atStart => exact ⟨0, 0, Nat.zero_le _, rfl, rfl, Lib.hid (by have := (low_rng HK.out 0).1; omega), W2⟩
      case round =>
        obtain ⟨q, v, hq, rfl, rfl, HV, W3⟩ := hrel
        by_cases hlt : q ≤ m
        · have z1 : (q : Int) ≤ (m : Int) := by omega
          have hT : isT s = true := isT_iff.2 (by omega)
          have hl := low_rng HK.out q
          have hr := at_rng HK.out q s r
          have hu := low_up HK.out q
          have hv := HV.out
          have HIA : Hid (isT (atR b c j q s r) = true) := Lib.hid (isT_iff.2 (by omega))
          have HT := Lib.hid hT
          obtain ⟨av, hav⟩ : ∃ av, atR b c j q s r = av := ⟨_, rfl⟩
          obtain ⟨lv, hlv⟩ : ∃ lv, lowR b c q = lv := ⟨_, rfl⟩
          rw [hav] at hr HIA
          rw [hlv] at hl hr hu hv
          have HAV := Lib.hid hav
          have HLV := Lib.hid hlv
          have HU := Lib.hid hu
          obtain ⟨l0, l1⟩ := hl
          obtain ⟨r0, r1⟩ := hr
          have y1 : ¬ av - s < lv := by omega
          have y2 : ¬ lv + j < av - s := by omega
          have y3 : ¬ lv < v := by omega
          have y4 : ¬ lv < b := by omega
          have y5 : ¬ c + j < lv + j := by omega
          clear hT hav hlv hu HV
          obtain ⟨d0, d1, d2, d3⟩ := row4 W3.out.at_
          go_wp2_with fail
          refine (bounds_calls b c j HK.out q _).mono ?_
          rintro e w4 ⟨rfl, hb⟩
          rw [HLV.out]
          have W4 := Lib.hid (W3.out.keep hb)
          clear hb d0 d1 d2 d3 W3
          go_wp2_with fail
          refine (wk_yes HK.out (by omega) W4.out s r av HT.out HAV.out HIA.out).mono ?_
          rintro e w5 ⟨rfl, hW⟩
          have W5 := Lib.hid hW
          clear hW W4
          obtain ⟨c0, c1, c2⟩ := HRU.out _ W5.out.below
          go_wp2_with (go_at_call 14; refine (rlow_calls b c j HK.out q _).mono ?_; rw [HLV.out]; rintro e w' ⟨rfl, rfl⟩)
          go_roundw
          case rel => exact ⟨q + 1, lv, by omega, by go_num, rfl, HU, W5⟩
          case measure => simp [Go.RowKit.intOf]; omega
        · have z1 : ¬ (q : Int) ≤ (m : Int) := by omega
          go_wp2_with (go_at_call 5; refine (works_calls _).mono ?_; rintro e w' ⟨rfl, hw⟩)
          go_ret
          exact ⟨rfl, HA.out.trans ((W3.out.below.trans (hw.mono W3.out.below.size)).mono HS.out)⟩
  · have HC := Lib.hid (chk_no hk)
    clear hk
    go_enter Try.func4, Try.ntmps4
    go_wp2_with fail
    refine (check_calls b c j _).mono ?_
    rintro e w1 ⟨rfl, hB⟩
    rw [HC.out]
    have B1 := Lib.hid hB
    clear hB
    go_wp2_with (go_at_call 5; refine (works_calls _).mono ?_; rintro e w' ⟨rfl, hw⟩)
    go_ret
    exact ⟨rfl, HA.out.trans ((B1.out.trans (hw.mono B1.out.size)).mono (by simp))⟩
end Go.Proofs.Ytblmjacphhpekaa.Bkf

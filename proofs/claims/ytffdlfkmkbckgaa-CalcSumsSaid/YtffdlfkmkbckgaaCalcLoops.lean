/-
  Layer 1 (calc): the walks of the document's own Mul and Double, and of both Totals.
-/
import Derived.Test.YtffdlfkmkbckgaaCalcRest
import Derived.LoopTactic
namespace Go.Proofs.Ytffdlfkmkbckgaa.Calc
open Go.RowKit

/-- What a walk is told of a slice of ints that came in: no element; or a row of 'cap' cells, of which the first 'len' are its elements. -/
def IsRow (w : World) (a : Option Addr) (len cap : Nat) (zs : List Int) : Prop :=
  len = 0 ∨
  ∃ b off, a = some ⟨b, off, none⟩ ∧ len ≤ cap ∧ cap ≤ maxLen ∧ zs.length = cap ∧ (∀ i, i < zs.length → w.cell? ⟨b, off + i, none⟩ = some (.int .i64 (zs.getD i 0))) ∧ ∀ n ∈ zs, (Lit.int .i64 n).wf = true

theorem rmul_calls (a b : Int) (w : World) :
    Calls Try.prog 15 #[.int .i64 a, .int .i64 b] w fun e w' => e = .returned (.tuple #[.int .i64 (mulV a b), .int .i64 (mulC a b)]) ∧ w = w' := by
  cases ha : isT a
  · have hc := mulC_one (a := a) (b := b) (.inl ha)
    have hv := mulV_none (a := a) (b := b) (by omega)
    have H := Lib.hid (And.intro hc hv); clear hc hv
    go_enter Try.func15, Try.ntmps15
    go_wp2_with (go_at_call 12; refine (ris_calls _ _).mono ?_; rintro e w' ⟨rfl, rfl⟩)
    go_ret2
    exact ⟨ret_two H.out.2.symm H.out.1.symm, rfl⟩
  · cases hb : isT b
    · have hc := mulC_one (a := a) (b := b) (.inr hb)
      have hv := mulV_none (a := a) (b := b) (by omega)
      have H := Lib.hid (And.intro hc hv); clear hc hv
      go_enter Try.func15, Try.ntmps15
      go_wp2_with (go_at_call 12; refine (ris_calls _ _).mono ?_; rintro e w' ⟨rfl, rfl⟩)
      go_ret2
      exact ⟨ret_two H.out.2.symm H.out.1.symm, rfl⟩
    · obtain ⟨a0, a1⟩ := isT_iff.1 ha
      obtain ⟨b0, b1⟩ := isT_iff.1 hb
      have hd0 : 0 ≤ a / 1048576 := by omega
      have hd1 : a / 1048576 ≤ 1048576 := by omega
      have hh0 : 0 ≤ a / 1048576 * b := Int.mul_nonneg hd0 b0
      have hh1 : a / 1048576 * b ≤ 1152921504606846976 := by
        have h1 := Int.mul_le_mul hd1 b1 b0 (by omega : (0 : Int) ≤ 1048576); omega
      have hm0 : 0 ≤ a % 1048576 * b := Int.mul_nonneg (by omega) b0
      have hm1 : a % 1048576 * b ≤ 1152921504606846976 := by
        have h1 := Int.mul_le_mul (show a % 1048576 ≤ 1048576 by omega) b1 b0 (by omega : (0 : Int) ≤ 1048576); omega
      have hab : Hid (a * b = a / 1048576 * b * 1048576 + a % 1048576 * b) := Lib.hid (by
        have h1 : a = a / 1048576 * 1048576 + a % 1048576 := by omega
        calc a * b = (a / 1048576 * 1048576 + a % 1048576) * b := by rw [← h1]
          _ = _ := by rw [Int.add_mul, Int.mul_right_comm])
      by_cases hg : 0 < b ∧ 1099511627776 / b < a / 1048576
      · obtain ⟨hg0, hg1⟩ := hg
        have hx : 1099511627776 < a / 1048576 * b := (Int.ediv_lt_iff_lt_mul hg0).1 hg1
        have hd2 : 0 ≤ 1099511627776 / b := Int.ediv_nonneg (by omega) b0
        have hc := mulC_two ha hb (isT_not.2 (.inr (by rw [hab.out]; omega)))
        have hv := mulV_none (a := a) (b := b) (by omega)
        have H := Lib.hid (And.intro hc hv); clear hc hv
        go_enter Try.func15, Try.ntmps15
        go_wp2_with (go_at_call 12; refine (ris_calls _ _).mono ?_; rintro e w' ⟨rfl, rfl⟩)
        go_ret2
        exact ⟨ret_two H.out.2.symm H.out.1.symm, rfl⟩
      · by_cases hh : 1048576 < a / 1048576 * b
        · have hc := mulC_two ha hb (isT_not.2 (.inr (by rw [hab.out]; omega)))
          have hv := mulV_none (a := a) (b := b) (by omega)
          have H := Lib.hid (And.intro hc hv); clear hc hv
          by_cases hb0 : 0 < b
          · have hg1 : ¬ 1099511627776 / b < a / 1048576 := fun g => hg ⟨hb0, g⟩
            have hd2 : 0 ≤ 1099511627776 / b := Int.ediv_nonneg (by omega) b0
            clear hg
            go_enter Try.func15, Try.ntmps15
            go_wp2_with (go_at_call 12; refine (ris_calls _ _).mono ?_; rintro e w' ⟨rfl, rfl⟩)
            go_ret2
            exact ⟨ret_two H.out.2.symm H.out.1.symm, rfl⟩
          · exact absurd hh (by rw [show b = 0 by omega, Int.mul_zero]; omega)
        · by_cases hb0 : 0 < b
          · have hg1 : ¬ 1099511627776 / b < a / 1048576 := fun g => hg ⟨hb0, g⟩
            have hd2 : 0 ≤ 1099511627776 / b := Int.ediv_nonneg (by omega) b0
            clear hg
            by_cases hn : 1099511627776 < a / 1048576 * b * 1048576 + a % 1048576 * b
            · have hc := mulC_two ha hb (isT_not.2 (.inr (by rw [hab.out]; omega)))
              have hv := mulV_none (a := a) (b := b) (by omega)
              have H := Lib.hid (And.intro hc hv); clear hc hv
              go_enter Try.func15, Try.ntmps15
              go_wp2_with (go_at_call 12; refine (ris_calls _ _).mono ?_; rintro e w' ⟨rfl, rfl⟩)
              go_ret2
              exact ⟨ret_two H.out.2.symm H.out.1.symm, rfl⟩
            · have hc := mulC_nought ha hb (isT_iff.2 (by rw [hab.out]; omega))
              have hv := mulV_some hc
              rw [hab.out] at hv
              have H := Lib.hid (And.intro hc hv); clear hc hv
              go_enter Try.func15, Try.ntmps15
              go_wp2_with (go_at_call 12; refine (ris_calls _ _).mono ?_; rintro e w' ⟨rfl, rfl⟩)
              go_ret2
              exact ⟨ret_two H.out.2.symm H.out.1.symm, rfl⟩
          · obtain rfl : b = 0 := by omega
            have hc := mulC_nought (a := a) (b := 0) ha hb (by rw [Int.mul_zero]; decide)
            have hv := mulV_some hc
            rw [Int.mul_zero] at hv
            have H := Lib.hid (And.intro hc hv); clear hc hv hg hh hh0 hh1 hm0 hm1
            go_enter Try.func15, Try.ntmps15
            go_wp2_with (go_at_call 12; refine (ris_calls _ _).mono ?_; rintro e w' ⟨rfl, rfl⟩)
            go_ret2
            exact ⟨ret_two H.out.2.symm H.out.1.symm, rfl⟩

theorem rdbl_calls (base n most : Int) (w : World) :
    Calls Try.prog 18 #[.int .i64 base, .int .i64 n, .int .i64 most] w fun e w' => e = .returned (.tuple #[.int .i64 (dblV base n most), .int .i64 (dblC base n most)]) ∧ w = w' := by
  cases ha : isT base
  · have H : Hid (dblB base n most = false) := Lib.hid (by unfold dblB; rw [ha]; rfl)
    go_enter Try.func18, Try.ntmps18
    go_wp2_with (go_at_call 12; refine (ris_calls _ _).mono ?_; rintro e w' ⟨rfl, rfl⟩)
    go_ret2
    exact ⟨ret_two (by rw [dblV, H.out]; rfl) (by rw [dblC, H.out]; rfl), rfl⟩
  · cases hb : isT most
    · have H : Hid (dblB base n most = false) := Lib.hid (by unfold dblB; rw [ha, hb]; rfl)
      go_enter Try.func18, Try.ntmps18
      go_wp2_with (go_at_call 12; refine (ris_calls _ _).mono ?_; rintro e w' ⟨rfl, rfl⟩)
      go_ret2
      exact ⟨ret_two (by rw [dblV, H.out]; rfl) (by rw [dblC, H.out]; rfl), rfl⟩
    · by_cases hm : most < base
      · have H : Hid (dblB base n most = false) := Lib.hid (by unfold dblB; rw [ha, hb, decide_eq_false (by omega)]; rfl)
        go_enter Try.func18, Try.ntmps18
        go_wp2_with (go_at_call 12; refine (ris_calls _ _).mono ?_; rintro e w' ⟨rfl, rfl⟩)
        go_ret2
        exact ⟨ret_two (by rw [dblV, H.out]; rfl) (by rw [dblC, H.out]; rfl), rfl⟩
      · by_cases hn : n < 0
        · have H : Hid (dblB base n most = false) := Lib.hid (by unfold dblB; rw [decide_eq_false (p := 0 ≤ n) (by omega)]; simp)
          go_enter Try.func18, Try.ntmps18
          go_wp2_with (go_at_call 12; refine (ris_calls _ _).mono ?_; rintro e w' ⟨rfl, rfl⟩)
          go_ret2
          exact ⟨ret_two (by rw [dblV, H.out]; rfl) (by rw [dblC, H.out]; rfl), rfl⟩
        · obtain ⟨a0, a1⟩ := isT_iff.1 ha
          obtain ⟨b0, b1⟩ := isT_iff.1 hb
          have n0 : 0 ≤ n := by omega
          have H : Hid (dblB base n most = true) := Lib.hid (dblB_iff.2 ⟨ha, hb, by omega, n0⟩)
          have HC : Hid (dbl base (min n.toNat 64) most = dbl base n.toNat most) := Lib.hid (dbl_cap base most n a0 (by omega) b1)
          go_enter Try.func18, Try.ntmps18
          go_wp2_with (go_at_call 12; refine (ris_calls _ _).mono ?_; rintro e w' ⟨rfl, rfl⟩)
          go_loop [0, 8] (fun x i => ∃ k : Nat, k ≤ min n.toNat 64 ∧ i = .int .i64 k ∧ x = .int .i64 (dbl base k most)) (fun _ i => 64 - (intOf i).toNat)
          case atStart => exact ⟨0, by omega, rfl, by rw [show dbl base 0 most = base by unfold dbl; simp; omega]⟩
          case round =>
            obtain ⟨k, hk, rfl, rfl⟩ := hrel
            have hmo := dbl_mono base k most a0 (by omega)
            have HS : Hid (dbl base (k + 1) most = min (dbl base k most + dbl base k most) most) := Lib.hid (dbl_succ base k most a0 b0)
            by_cases hlt : (k : Int) < n
            · by_cases h64 : k < 64
              · by_cases hmin : dbl base k most + dbl base k most < most
                all_goals
                  go_wp2
                  go_round
                  case rel => exact ⟨k + 1, by omega, by go_num, by rw [HS.out]; go_num⟩
                  case measure => simp [intOf]; omega
              · go_wp2
                go_ret2
                exact ⟨ret_two (by rw [dblV, H.out, ← HC.out, show min n.toNat 64 = k by omega]; rfl) (by rw [dblC, H.out]; rfl), rfl⟩
            · go_wp2
              go_ret2
              exact ⟨ret_two (by rw [dblV, H.out, ← HC.out, show min n.toNat 64 = k by omega]; rfl) (by rw [dblC, H.out]; rfl), rfl⟩

theorem total_step (t : Int) (zs : List Int) (len k : Nat) (h : k < len) (hl : len ≤ zs.length) :
    total t ((zs.take len).drop k) = if addC t (zs.getD k 0) = 0 then total (addV t (zs.getD k 0)) ((zs.take len).drop (k + 1)) else (0, addC t (zs.getD k 0)) := by
  have hk : k < (zs.take len).length := by simp; omega
  rw [List.drop_eq_getElem_cons hk]
  have e : (zs.take len)[k] = zs.getD k 0 := by
    rw [List.getElem_take, List.getD_eq_getElem?_getD, List.getElem?_eq_getElem (by omega)]; rfl
  rw [e]; rfl

theorem total_calls (a : Option Addr) (len cap : Nat) (zs : List Int) (w : World) (hr : IsRow w a len cap zs) :
    Calls Try.prog 19 #[.slice a len cap] w fun e w' => e = .returned (.tuple #[.int .i64 (total 0 (zs.take len)).1, .int .i64 (total 0 (zs.take len)).2]) ∧ w = w' := by
  rcases hr with rfl | ⟨b, off, rfl, hl, hm, hz, hcell, -⟩
  · go_enter Try.func19, Try.ntmps19
    go_wp2
    go_loop [4, 11] (fun s i => i = .int .i64 0 ∧ s = .int .i64 0) (fun _ _ => 0)
    case atStart => exact ⟨rfl, rfl⟩
    case round =>
      obtain ⟨rfl, rfl⟩ := hrel
      go_wp2
      go_ret2
      exact ⟨rfl, rfl⟩
  · unfold maxLen at hm
    go_enter Try.func19, Try.ntmps19
    go_wp2
    go_loop [4, 11] (fun s i => ∃ (k : Nat) (t : Int), k ≤ len ∧ i = .int .i64 k ∧ s = .int .i64 t ∧ total 0 (zs.take len) = total t ((zs.take len).drop k)) (fun _ i => len - (intOf i).toNat)
    case atStart => exact ⟨0, 0, Nat.zero_le _, rfl, rfl, rfl⟩
    case round =>
      obtain ⟨k, t, hk, rfl, rfl, ht⟩ := hrel
      by_cases hlt : k < len
      · have hc := hcell k (by omega)
        have hs : Hid (total t ((zs.take len).drop k) = if addC t (zs.getD k 0) = 0 then total (addV t (zs.getD k 0)) ((zs.take len).drop (k + 1)) else (0, addC t (zs.getD k 0))) := Lib.hid (total_step t zs len k hlt (by omega))
        have HT := Lib.hid ht
        clear ht hcell
        generalize zs.getD k 0 = x at hc hs
        by_cases hx : addC t x = 0
        · have hb : (addC t x == 0) = true := by simp [hx]
          have HX := Lib.hid hx
          clear hx
          go_wp2_with (go_at_call 7; refine (add_calls _ _ _).mono ?_; rintro e w' ⟨rfl, rfl⟩)
          go_round
          case rel => exact ⟨k + 1, addV t x, by omega, by go_num, rfl, by rw [HT.out, hs.out, if_pos HX.out]⟩
          case measure => simp [intOf]; omega
        · have hb : (addC t x == 0) = false := by simp [hx]
          have HX := Lib.hid hx
          clear hx
          go_wp2_with (go_at_call 7; refine (add_calls _ _ _).mono ?_; rintro e w' ⟨rfl, rfl⟩)
          go_ret2
          exact ⟨ret_two (by rw [HT.out, hs.out, if_neg HX.out]) (by rw [HT.out, hs.out, if_neg HX.out]), rfl⟩
      · have HT : Hid (total 0 (zs.take len) = (t, 0)) := Lib.hid (by rw [ht, List.drop_eq_nil_of_le (by simp; omega)]; rfl)
        clear ht
        go_wp2
        go_ret2
        exact ⟨ret_two (by rw [HT.out]) (by rw [HT.out]), rfl⟩

theorem rtotal_calls (a : Option Addr) (len cap : Nat) (zs : List Int) (w : World) (hr : IsRow w a len cap zs) :
    Calls Try.prog 20 #[.slice a len cap] w fun e w' => e = .returned (.tuple #[.int .i64 (total 0 (zs.take len)).1, .int .i64 (total 0 (zs.take len)).2]) ∧ w = w' := by
  rcases hr with rfl | ⟨b, off, rfl, hl, hm, hz, hcell, -⟩
  · go_enter Try.func20, Try.ntmps20
    go_wp2
    go_loop [4, 5] (fun s i => i = .int .i64 0 ∧ s = .int .i64 0) (fun _ _ => 0)
    case atStart => exact ⟨rfl, rfl⟩
    case round =>
      obtain ⟨rfl, rfl⟩ := hrel
      go_wp2
      go_ret2
      exact ⟨rfl, rfl⟩
  · unfold maxLen at hm
    go_enter Try.func20, Try.ntmps20
    go_wp2
    go_loop [4, 5] (fun s i => ∃ (k : Nat) (t : Int), k ≤ len ∧ i = .int .i64 k ∧ s = .int .i64 t ∧ total 0 (zs.take len) = total t ((zs.take len).drop k)) (fun _ i => len - (intOf i).toNat)
    case atStart => exact ⟨0, 0, Nat.zero_le _, rfl, rfl, rfl⟩
    case round =>
      obtain ⟨k, t, hk, rfl, rfl, ht⟩ := hrel
      by_cases hlt : k < len
      · have hc := hcell k (by omega)
        have hs : Hid (total t ((zs.take len).drop k) = if addC t (zs.getD k 0) = 0 then total (addV t (zs.getD k 0)) ((zs.take len).drop (k + 1)) else (0, addC t (zs.getD k 0))) := Lib.hid (total_step t zs len k hlt (by omega))
        have HT := Lib.hid ht
        clear ht hcell
        generalize zs.getD k 0 = x at hc hs
        by_cases hx : addC t x = 0
        · have hb : (addC t x == 0) = true := by simp [hx]
          have HX := Lib.hid hx
          clear hx
          go_wp2_with (go_at_call 8; refine (radd_calls _ _ _).mono ?_; rintro e w' ⟨rfl, rfl⟩)
          go_round
          case rel => exact ⟨k + 1, addV t x, by omega, by go_num, rfl, by rw [HT.out, hs.out, if_pos HX.out]⟩
          case measure => simp [intOf]; omega
        · have hb : (addC t x == 0) = false := by simp [hx]
          have HX := Lib.hid hx
          clear hx
          go_wp2_with (go_at_call 8; refine (radd_calls _ _ _).mono ?_; rintro e w' ⟨rfl, rfl⟩)
          go_ret2
          exact ⟨ret_two (by rw [HT.out, hs.out, if_neg HX.out]) (by rw [HT.out, hs.out, if_neg HX.out]), rfl⟩
      · have HT : Hid (total 0 (zs.take len) = (t, 0)) := Lib.hid (by rw [ht, List.drop_eq_nil_of_le (by simp; omega)]; rfl)
        clear ht
        go_wp2
        go_ret2
        exact ⟨ret_two (by rw [HT.out]) (by rw [HT.out]), rfl⟩

end Go.Proofs.Ytffdlfkmkbckgaa.Calc

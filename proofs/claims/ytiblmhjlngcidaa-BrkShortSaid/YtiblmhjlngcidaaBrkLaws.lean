/-
  Layer 14 (brk): the walks of BrkReads, BrkShort and BrkPuts.
-/
import Derived.Test.YtiblmhjlngcidaaBrkWorks
import Derived.Test.YtiblmhjlngcidaaBrkRefRead
import Derived.Test.YtiblmhjlngcidaaBrkRefPut
namespace Go.Proofs.Ytiblmhjlngcidaa.Brk
open Go.RowKit Go.Proofs.Ytiblmhjlngcidaa.Digit Go.Proofs.Ytiblmhjlngcidaa.Own

theorem ba_list (s : ByteArray) : ∃ l : List UInt8, s = ⟨l.toArray⟩ ∧ s.size = l.length := ⟨s.data.toList, by simp, (size_list s).symm⟩

set_option maxRecDepth 100000 in
set_option maxHeartbeats 4000000 in
theorem reads_walk (s : ByteArray) (w : World) :
    Calls Try.prog 3 #[.string s] w fun e w' => e = .returned (.bool true) ∧ Below w.heap.size w w' := by
  obtain ⟨l, rfl, hz⟩ := ba_list s
  by_cases hs : 400 < l.length
  · have q : (400 : Int) < (l.length : Int) := by omega
    clear hs
    go_enter Try.func3, Try.ntmps3
    go_wp2_with fail
    refine (works_calls _).mono ?_
    rintro e w1 ⟨rfl, hb⟩
    go_wp2_with fail
    go_ret
    exact ⟨rfl, hb⟩
  · have q : ¬ (400 : Int) < (l.length : Int) := by omega
    have HR := Lib.hid (read_calls l (by omega))
    have HRR := Lib.hid (rread_calls l (by omega))
    have hbd := (r_bd l).mono (show l.length ≤ 400 by omega)
    unfold RPost at HR HRR
    generalize rV l = R at *
    generalize rC l = C at *
    have HD := Lib.hid hbd
    obtain ⟨n, hn⟩ : ∃ n, R.length = n := ⟨_, rfl⟩
    have HN := Lib.hid hn
    clear hbd hs hz
    go_enter Try.func3, Try.ntmps3
    go_wp2_with fail
    refine (HR.out _).mono ?_
    rintro e w1 ⟨v1, rfl, hm1, hb1⟩
    obtain ⟨p1, c1, rfl, ho1⟩ := hm1.ops
    have O1 := Lib.hid ho1
    have B1 := Lib.hid hb1
    clear hm1 ho1 hb1
    rw [hn]
    go_wp2_with fail
    refine (HRR.out _).mono ?_
    rintro e w2 ⟨v2, rfl, hm2, hb2⟩
    obtain ⟨p2, c2, rfl, ho2⟩ := hm2.ops
    have O1 := Lib.hid (O1.out.below hb2)
    have O2 := Lib.hid ho2
    have B2 := Lib.hid (B1.out.trans (hb2.mono B1.out.size))
    clear hm2 ho2 hb2
    rw [hn]
    go_wp2_with fail
    refine (same_calls R n HN.out p1 p2 c1 c2 _ O1.out O2.out).mono ?_
    rintro e w3 ⟨rfl, hb3⟩
    have O3 := Lib.hid (O1.out.below hb3)
    have P3 := Lib.hid (O2.out.below hb3)
    have B3 := Lib.hid (B2.out.trans (hb3.mono B2.out.size))
    clear hb3
    go_wp2_with fail
    refine (cost_calls R p1 c1 n HN.out _ O3.out HD.out.ok (by have := HD.out.cst; omega)).mono ?_
    rintro e w4 ⟨rfl, hb4⟩
    have O4 := Lib.hid (O3.out.below hb4)
    have P4 := Lib.hid (P3.out.below hb4)
    have B4 := Lib.hid (B3.out.trans (hb4.mono B3.out.size))
    clear hb4
    go_wp2_with fail
    refine (rcost_calls R p2 c2 n HN.out _ P4.out HD.out.ok (by have := HD.out.cst; omega)).mono ?_
    rintro e w5 ⟨rfl, hw5⟩
    obtain rfl := hw5.symm
    go_wp2_with fail
    refine (bytes_calls R p1 c1 n HN.out _ O4.out HD.out.ok (by have := HD.out.byt; omega)).mono ?_
    rintro e w6 ⟨rfl, hb6⟩
    have P6 := Lib.hid (P4.out.below hb6)
    have B6 := Lib.hid (B4.out.trans (hb6.mono B4.out.size))
    clear hb6
    go_wp2_with fail
    refine (rbytes_calls R p2 c2 n HN.out _ P6.out (by have := HD.out.byt; omega)).mono ?_
    rintro e w7 ⟨rfl, hw7⟩
    obtain rfl := hw7.symm
    go_wp2_with fail
    refine (works_calls _).mono ?_
    rintro e w8 ⟨rfl, hb8⟩
    have B8 := Lib.hid (B6.out.trans (hb8.mono B6.out.size))
    clear hb8
    go_wp2_with fail
    go_ret
    exact ⟨rfl, B8.out⟩

set_option maxRecDepth 100000 in
set_option maxHeartbeats 4000000 in
theorem short_walk (s : ByteArray) (w : World) :
    Calls Try.prog 5 #[.string s] w fun e w' => e = .returned (.bool true) ∧ Below w.heap.size w w' := by
  obtain ⟨l, rfl, hz⟩ := ba_list s
  by_cases hs : 255 < l.length
  · have q : (255 : Int) < (l.length : Int) := by omega
    clear hs
    go_enter Try.func5, Try.ntmps5
    go_wp2_with fail
    refine (works_calls _).mono ?_
    rintro e w1 ⟨rfl, hb⟩
    go_wp2_with fail
    go_ret
    exact ⟨rfl, hb⟩
  · have q : ¬ (255 : Int) < (l.length : Int) := by omega
    have HR := Lib.hid (read_calls l (by omega))
    have HG := Lib.hid (r_good l)
    have hc : rC l = 0 ∨ rC l ≠ 0 := by omega
    unfold RPost at HR
    generalize rV l = R at *
    generalize rC l = C at *
    obtain ⟨n, hn⟩ : ∃ n, R.length = n := ⟨_, rfl⟩
    have HN := Lib.hid hn
    clear hs hz
    rcases hc with rfl | hc
    · by_cases hl : 255 < (txt R).length
      · obtain ⟨e1, e2⟩ := p_big HG.out hl
        have HP := Lib.hid (fun p c w h => put_calls R p c n HN.out w h)
        unfold PPost at HP
        rw [e1, e2] at HP
        clear hl e1 e2
        go_enter Try.func5, Try.ntmps5
        go_wp2_with fail
        refine (HR.out _).mono ?_
        rintro e w1 ⟨v1, rfl, hm1, hb1⟩
        obtain ⟨p1, c1, rfl, ho1⟩ := hm1.ops
        have O1 := Lib.hid ho1
        have B1 := Lib.hid hb1
        clear hm1 ho1 hb1
        rw [hn]
        go_wp2_with fail
        refine (HP.out p1 c1 _ O1.out).mono ?_
        rintro e w2 ⟨rfl, hb2⟩
        have B2 := Lib.hid (B1.out.trans (hb2.mono B1.out.size))
        clear hb2
        go_wp2_with fail
        refine (works_calls _).mono ?_
        rintro e w8 ⟨rfl, hb8⟩
        have B8 := Lib.hid (B2.out.trans (hb8.mono B2.out.size))
        clear hb8
        go_wp2_with fail
        go_ret
        exact ⟨rfl, B8.out⟩
      · obtain ⟨e1, e2⟩ := p_fit HG.out hl
        obtain ⟨r1, r2⟩ := read_put HG.out hl
        have HP := Lib.hid (fun p c w h => put_calls R p c n HN.out w h)
        have HR2 := Lib.hid (read_calls (txt R) (by omega))
        unfold PPost at HP
        unfold RPost at HR2
        rw [e1, e2] at HP
        rw [r1, r2] at HR2
        generalize txt R = t at *
        clear hl e1 e2 r1 r2
        go_enter Try.func5, Try.ntmps5
        go_wp2_with fail
        refine (HR.out _).mono ?_
        rintro e w1 ⟨v1, rfl, hm1, hb1⟩
        obtain ⟨p1, c1, rfl, ho1⟩ := hm1.ops
        have O1 := Lib.hid ho1
        have B1 := Lib.hid hb1
        clear hm1 ho1 hb1
        rw [hn]
        go_wp2_with fail
        refine (HP.out p1 c1 _ O1.out).mono ?_
        rintro e w2 ⟨rfl, hb2⟩
        have O2 := Lib.hid (O1.out.below hb2)
        have B2 := Lib.hid (B1.out.trans (hb2.mono B1.out.size))
        clear hb2
        go_wp2_with fail
        refine (HR2.out _).mono ?_
        rintro e w3 ⟨v3, rfl, hm3, hb3⟩
        obtain ⟨p3, c3, rfl, ho3⟩ := hm3.ops
        have O3 := Lib.hid (O2.out.below hb3)
        have P3 := Lib.hid ho3
        have B3 := Lib.hid (B2.out.trans (hb3.mono B2.out.size))
        clear hm3 ho3 hb3
        rw [hn]
        go_wp2_with fail
        refine (HP.out p3 c3 _ P3.out).mono ?_
        rintro e w4 ⟨rfl, hb4⟩
        have O4 := Lib.hid (O3.out.below hb4)
        have P4 := Lib.hid (P3.out.below hb4)
        have B4 := Lib.hid (B3.out.trans (hb4.mono B3.out.size))
        clear hb4
        go_wp2_with fail
        refine (same_calls R n HN.out p1 p3 c1 c3 _ O4.out P4.out).mono ?_
        rintro e w5 ⟨rfl, hb5⟩
        have B5 := Lib.hid (B4.out.trans (hb5.mono B4.out.size))
        clear hb5
        go_wp2_with fail
        refine (works_calls _).mono ?_
        rintro e w8 ⟨rfl, hb8⟩
        have B8 := Lib.hid (B5.out.trans (hb8.mono B5.out.size))
        clear hb8
        go_wp2_with fail
        go_ret
        exact ⟨rfl, B8.out⟩
    · have b : (C != 0) = true := by simpa using hc
      have b2 : (C == 0) = false := by simpa using hc
      clear hc
      go_enter Try.func5, Try.ntmps5
      go_wp2_with fail
      refine (HR.out _).mono ?_
      rintro e w1 ⟨v1, rfl, hm1, hb1⟩
      obtain ⟨p1, c1, rfl, ho1⟩ := hm1.ops
      have B1 := Lib.hid hb1
      clear hm1 ho1 hb1
      rw [hn]
      go_wp2_with fail
      refine (works_calls _).mono ?_
      rintro e w8 ⟨rfl, hb8⟩
      have B8 := Lib.hid (B1.out.trans (hb8.mono B1.out.size))
      clear hb8
      go_wp2_with fail
      go_ret
      exact ⟨rfl, B8.out⟩

set_option maxRecDepth 100000 in
set_option maxHeartbeats 4000000 in
theorem puts_walk (L : List Op) (p : Option Addr) (c n : Nat) (hn : L.length = n) (w : World) (h : Ops w L p c) (hL : ∀ x ∈ L, x.n ≤ 9223372036854775807 ∧ x.s.length ≤ 9223372036854775807) :
    Calls Try.prog 4 #[.slice p n c] w fun e w' => e = .returned (.bool true) ∧ Below w.heap.size w w' := by
  have hcap := h.cap
  have hmax := h.max
  unfold maxLen at hmax
  have q2 : (n : Int) ≤ 9223372036854775807 := by omega
  have HH := Lib.hid h
  have HN := Lib.hid hn
  have HL := Lib.hid hL
  clear h hL
  by_cases hs : 30 < n
  · have q : (30 : Int) < (n : Int) := by omega
    clear hs
    go_enter Try.func4, Try.ntmps4
    go_wp2_with fail
    refine (works_calls _).mono ?_
    rintro e w1 ⟨rfl, hb⟩
    go_wp2_with fail
    go_ret
    exact ⟨rfl, hb⟩
  · have q : ¬ (30 : Int) < (n : Int) := by omega
    go_enter Try.func4, Try.ntmps4
    go_wp2_with fail
    go_loopw [3] (fun i wr => ∃ k : Nat, k ≤ n ∧ i = .int .i64 k ∧ Hid (∀ j (hj : j < L.length), j < k → L[j].s.length ≤ 100) ∧ wr = w) (fun i _ => n - (intOf i).toNat)
    case atStart => exact ⟨0, Nat.zero_le _, rfl, Lib.hid (fun j _ h => absurd h (by omega)), rfl⟩
    case round =>
      obtain ⟨k, hkn, rfl, HS, rfl⟩ := hrel
      rcases Nat.lt_or_eq_of_le hkn with hlt | rfl
      · have hkl : k < L.length := by omega
        rcases HH.out.cells with h0 | ⟨b, o, rfl, hbl, hc⟩
        · rw [h0] at hkl; simp at hkl
        · obtain ⟨c0, c1, c2⟩ := hc k hkl
          have q1 : (k : Int) < (n : Int) := by omega
          have hxl := (HL.out L[k] (List.getElem_mem hkl)).2
          obtain ⟨x, hx⟩ : ∃ x, L[k].s = x := ⟨_, rfl⟩
          rw [hx] at c1 hxl
          have HX := Lib.hid hx
          clear hc c0 c2 hx
          by_cases h1 : 100 < x.length
          · have q3 : (100 : Int) < (x.length : Int) := by omega
            go_wp2_with fail
            refine (works_calls _).mono ?_
            rintro e w1 ⟨rfl, hb⟩
            go_wp2_with fail
            go_ret
            exact ⟨rfl, hb⟩
          · have q3 : ¬ (100 : Int) < (x.length : Int) := by omega
            go_wp2_with fail
            go_roundw
            case rel => exact ⟨k + 1, by omega, by go_num, Lib.hid (fun j hj h => by
              rcases Nat.lt_or_eq_of_le (Nat.le_of_lt_succ h) with h | rfl
              · exact HS.out j hj h
              · rw [HX.out]; omega), trivial⟩
            case measure => simp [intOf]; omega
      · have HALL := Lib.hid (show ∀ x ∈ L, x.s.length ≤ 100000 ∧ x.n ≤ 9223372036854775807 from fun x hx => by
          obtain ⟨j, hj, rfl⟩ := List.getElem_of_mem hx
          have := HS.out j hj (by omega)
          exact ⟨by omega, (HL.out _ hx).1⟩)
        have HP := Lib.hid (put_calls L p c k HN.out wr HH.out)
        have HRP := Lib.hid (fun w h => rput_calls L p c k HN.out (by omega) w h HALL.out)
        unfold PPost at HP HRP
        rcases (show (pC L = 0 ∧ pV L = txt L ∧ Good L ∧ ¬ 255 < (txt L).length) ∨ ((pC L = 1 ∨ pC L = 5) ∧ pV L = []) from by
          by_cases hg : Good L
          · by_cases hl : 255 < (txt L).length
            · obtain ⟨e1, e2⟩ := p_big hg hl; exact .inr ⟨.inr e1, e2⟩
            · obtain ⟨e1, e2⟩ := p_fit hg hl; exact .inl ⟨e1, e2, hg, hl⟩
          · obtain ⟨e1, e2⟩ := p_bad hg; exact .inr ⟨.inl e1, e2⟩) with ⟨e1, e2, hg, hl⟩ | ⟨e1, e2⟩
        · obtain ⟨r1, r2⟩ := read_put hg hl
          have HR2 := Lib.hid (read_calls (txt L) (by omega))
          unfold RPost at HR2
          rw [e1, e2] at HP HRP
          rw [r1, r2] at HR2
          generalize txt L = t at *
          clear e1 e2 hg hl r1 r2
          go_wp2_with fail
          refine HP.out.mono ?_
          rintro e w1 ⟨rfl, hb1⟩
          have O1 := Lib.hid (HH.out.below hb1)
          have B1 := Lib.hid hb1
          clear hb1
          go_wp2_with fail
          refine (HRP.out _ O1.out).mono ?_
          rintro e w2 ⟨rfl, hb2⟩
          have O2 := Lib.hid (O1.out.below hb2)
          have B2 := Lib.hid (B1.out.trans (hb2.mono B1.out.size))
          clear hb2
          go_wp2_with fail
          refine (HR2.out _).mono ?_
          rintro e w3 ⟨v3, rfl, hm3, hb3⟩
          obtain ⟨p3, c3, rfl, ho3⟩ := hm3.ops
          have O3 := Lib.hid (O2.out.below hb3)
          have P3 := Lib.hid ho3
          have B3 := Lib.hid (B2.out.trans (hb3.mono B2.out.size))
          clear hm3 ho3 hb3
          rw [hn]
          go_wp2_with fail
          refine (same_calls L k HN.out p3 p c3 c _ P3.out O3.out).mono ?_
          rintro e w5 ⟨rfl, hb5⟩
          have B5 := Lib.hid (B3.out.trans (hb5.mono B3.out.size))
          clear hb5
          go_wp2_with fail
          refine (works_calls _).mono ?_
          rintro e w8 ⟨rfl, hb8⟩
          have B8 := Lib.hid (B5.out.trans (hb8.mono B5.out.size))
          clear hb8
          go_wp2_with fail
          go_ret
          exact ⟨rfl, B8.out⟩
        · rw [e2] at HP HRP
          generalize pC L = C at *
          clear e2
          rcases e1 with rfl | rfl
          all_goals
            go_wp2_with fail
            refine HP.out.mono ?_
            rintro e w1 ⟨rfl, hb1⟩
            have O1 := Lib.hid (HH.out.below hb1)
            have B1 := Lib.hid hb1
            clear hb1
            go_wp2_with fail
            refine (HRP.out _ O1.out).mono ?_
            rintro e w2 ⟨rfl, hb2⟩
            have B2 := Lib.hid (B1.out.trans (hb2.mono B1.out.size))
            clear hb2
            go_wp2_with fail
            refine (works_calls _).mono ?_
            rintro e w8 ⟨rfl, hb8⟩
            have B8 := Lib.hid (B2.out.trans (hb8.mono B2.out.size))
            clear hb8
            go_wp2_with fail
            go_ret
            exact ⟨rfl, B8.out⟩
end Go.Proofs.Ytiblmhjlngcidaa.Brk

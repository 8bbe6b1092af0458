/-
  Layer 12 (lex): the walks of LexReads and LexPuts.
-/
import Derived.Test.YtijnijlekidhcaaDoorLexWorks
namespace Go.Proofs.YtijnijlekidhcaaDoor.Lex
open Go.RowKit Go.Proofs.YtijnijlekidhcaaDoor.Own

set_option maxRecDepth 100000 in
set_option maxHeartbeats 4000000 in
theorem reads_walk (s : ByteArray) (w : World) (hT : Flt.Tab w) :
    Calls Tryd.prog 3 #[.string s] w fun e w' => e = .returned (.bool true) ∧ Below w.heap.size w w' := by
  rcases (show (3000 < s.size ∧ s.size ≤ 65536) ∨ 66000 < s.size ∨ (s.size ≤ 3000) ∨ (65536 < s.size ∧ s.size ≤ 66000) by omega) with ⟨h1, h2⟩ | h1 | h
  · have q1 : (3000 : Int) < (s.size : Int) := by omega
    have q2 : (s.size : Int) ≤ 65536 := by omega
    have HW := Lib.hid (works_calls w hT)
    clear hT h1 h2
    go_enter Tryd.func3, Tryd.ntmps3
    go_wp2_with fail
    refine HW.out.mono ?_
    rintro e w1 ⟨rfl, hb⟩
    go_wp2_with fail
    go_ret
    exact ⟨rfl, hb⟩
  · have q1 : (3000 : Int) < (s.size : Int) := by omega
    have q2 : ¬ (s.size : Int) ≤ 65536 := by omega
    have q3 : (66000 : Int) < (s.size : Int) := by omega
    have HW := Lib.hid (works_calls w hT)
    clear hT h1
    go_enter Tryd.func3, Tryd.ntmps3
    go_wp2_with fail
    refine HW.out.mono ?_
    rintro e w1 ⟨rfl, hb⟩
    go_wp2_with fail
    go_ret
    exact ⟨rfl, hb⟩
  · have HT := Lib.hid hT
    have HR := Lib.hid (read_calls s w)
    have HRR := Lib.hid (rread_calls s (by omega))
    clear hT
    unfold ReadPost at HR
    unfold RReadPost at HRR
    generalize total s.data.toList = r at HR HRR
    rcases h with h | ⟨h1, h⟩
    all_goals
      first
        | have q1 : (s.size : Int) ≤ 3000 := by omega
        | (have q1 : (3000 : Int) < (s.size : Int) := by omega
           have q2 : ¬ (s.size : Int) ≤ 65536 := by omega
           have q3 : (s.size : Int) ≤ 66000 := by omega)
      clear h
      go_enter Tryd.func3, Tryd.ntmps3
      go_wp2_with fail
      refine HR.out.mono ?_
      rintro e w1 ⟨v1, u1, rfl, g1⟩
      have B1 := Lib.hid g1.below
      obtain ⟨p1, c1, rfl, P1⟩ := own_pcs g1.own rfl
      obtain ⟨lay, hE, hl, hl1⟩ := g1.err
      have HE := Lib.hid hE
      have HL := Lib.hid hl
      have HP := Lib.hid P1
      clear g1 hE hl P1
      go_wp2_with fail
      refine (HRR.out _).mono ?_
      rintro e w2 ⟨v2, rfl, ho2, hb2⟩
      obtain ⟨p2, c2, rfl, P2⟩ := own_pcs ho2 rfl
      have HS := Lib.hid (same_calls r.pcs _ rfl p1 p2 c1 c2 w2 (HP.out.kept hb2) P2)
      have HE2 := Lib.hid (HE.out.below hb2 (Nat.le_refl _))
      have hN2 := Lib.hid hb2.size
      have B2 := Lib.hid (B1.out.trans (hb2.mono B1.out.size))
      clear ho2 hb2 P2
      generalize r.pcs.length = n at *
      generalize r.code = c at *
      generalize r.line = ln at *
      go_wp2_with fail
      refine HS.out.mono ?_
      rintro e w3 ⟨rfl, hb3⟩
      have HE3 := Lib.hid (HE2.out.below hb3 hN2.out)
      have hN3 := Lib.hid (Nat.le_trans hN2.out hb3.size)
      have B3 := Lib.hid (B2.out.trans (hb3.mono B2.out.size))
      have HT3 := Lib.hid (HT.out.below B3.out)
      clear hb3
      go_wp2_with fail
      refine (Flt.of_calls _ lay c _ _ HE3.out hN3.out HT3.out).mono ?_
      rintro e w4 ⟨rfl, hb4⟩
      have HE4 := Lib.hid (HE3.out.below hb4 hN3.out)
      have hN4 := Lib.hid (Nat.le_trans hN3.out hb4.size)
      have B4 := Lib.hid (B3.out.trans (hb4.mono B3.out.size))
      have HT4 := Lib.hid (HT.out.below B4.out)
      clear hb4
      go_wp2_with fail
      refine (Flt.line_calls _ lay c _ _ HE4.out hN4.out HT4.out (by omega)).mono ?_
      rintro e w5 ⟨rfl, hb5⟩
      rw [HL.out]
      have B5 := Lib.hid (B4.out.trans (hb5.mono B4.out.size))
      have HT5 := Lib.hid (HT.out.below B5.out)
      clear hb5
      go_wp2_with fail
      refine (works_calls _ HT5.out).mono ?_
      rintro e w6 ⟨rfl, hb6⟩
      have B6 := Lib.hid (B5.out.trans (hb6.mono B5.out.size))
      clear hb6
      go_wp2_with fail
      go_ret
      exact ⟨rfl, B6.out⟩

set_option maxRecDepth 100000 in
set_option maxHeartbeats 4000000 in
theorem puts_walk (k : Int) (t : ByteArray) (ln : Int) (w : World) (hT : Flt.Tab w) :
    Calls Tryd.prog 4 #[.int .i64 k, .string t, .int .i64 ln] w fun e w' => e = .returned (.bool true) ∧ Below w.heap.size w w' := by
  have HT := Lib.hid hT
  clear hT
  by_cases hs : 300 < t.size
  · have q1 : (300 : Int) < (t.size : Int) := by omega
    go_enter Tryd.func4, Tryd.ntmps4
    go_wp2_with fail
    refine (works_calls _ HT.out).mono ?_
    rintro e w1 ⟨rfl, hb⟩
    go_wp2_with fail
    go_ret
    exact ⟨rfl, hb⟩
  · have q1 : ¬ (300 : Int) < (t.size : Int) := by omega
    have HP := Lib.hid (put_calls k t ln (by omega))
    have HR := Lib.hid (rput_calls k t (by omega))
    have HW := Lib.hid (wordy_calls t)
    have HV := Lib.hid (rwordy_calls t (by omega))
    generalize (⟨(ptT k t.data.toList).toArray⟩ : ByteArray) = a at HP HR
    generalize ptC k t.data.toList = c at HP HR
    generalize isW t.data.toList = b at HW HV
    clear hs
    go_enter Tryd.func4, Tryd.ntmps4
    go_wp2_with fail
    refine (HP.out _).mono ?_
    rintro e w1 ⟨rfl, hb1⟩
    have B1 := Lib.hid hb1
    clear hb1
    go_wp2_with fail
    refine (HR.out _).mono ?_
    rintro e w2 ⟨rfl, hb2⟩
    have B2 := Lib.hid (B1.out.trans (hb2.mono B1.out.size))
    clear hb2
    go_wp2_with fail
    refine (HW.out _).mono ?_
    rintro e w3 ⟨rfl, hb3⟩
    have B3 := Lib.hid (B2.out.trans (hb3.mono B2.out.size))
    clear hb3
    go_wp2_with fail
    refine (HV.out _).mono ?_
    rintro e w4 ⟨rfl, hw4⟩
    obtain rfl := hw4.symm
    have HT4 := Lib.hid (HT.out.below B3.out)
    go_wp2_with fail
    refine (works_calls _ HT4.out).mono ?_
    rintro e w6 ⟨rfl, hb6⟩
    have B6 := Lib.hid (B3.out.trans (hb6.mono B3.out.size))
    clear hb6
    go_wp2_with fail
    go_ret
    exact ⟨rfl, B6.out⟩
end Go.Proofs.YtijnijlekidhcaaDoor.Lex

/-
  Layer 13 (tree): the walk of TreeLines.
-/
import Derived.Test.YtabpkpeonbdinaaDoorTreeWorks
namespace Go.Proofs.YtabpkpeonbdinaaDoor.Tree
open Go.RowKit Go.Proofs.YtabpkpeonbdinaaDoor.Own Go.Proofs.YtabpkpeonbdinaaDoor.Rw Go.Proofs.YtabpkpeonbdinaaDoor.Lex

set_option maxRecDepth 100000 in
set_option maxHeartbeats 4000000 in
theorem lines_walk (s : ByteArray) (w : World) (hT : Flt.Tab w) :
    Calls Tryd.prog 3 #[.string s] w fun e w' => e = .returned (.bool true) ∧ Below w.heap.size w w' := by
  have HT := Lib.hid hT
  clear hT
  by_cases hs : 2000 < s.size
  · have q1 : (2000 : Int) < (s.size : Int) := by omega
    clear hs
    go_enter Tryd.func3, Tryd.ntmps3
    go_wp2_with (go_at_call 4; refine (works_calls _ HT.out).mono ?_; rintro e w1 ⟨rfl, hb⟩)
    go_ret
    exact ⟨rfl, hb⟩
  · have q1 : ¬ (2000 : Int) < (s.size : Int) := by omega
    have hs2 : s.size ≤ 2000 := by omega
    clear hs
    have HU := Lib.hid (readT_up s.data.toList (by rw [size_list]; omega))
    have HR1 := Lib.hid (read_calls s)
    have HR2 := Lib.hid (read_calls (⟨#[35, 32, 110, 111, 116, 101, 10]⟩ ++ s))
    rw [show ((⟨#[35, 32, 110, 111, 116, 101, 10]⟩ : ByteArray) ++ s).data.toList = note ++ s.data.toList by rw [list_app]; rfl] at HR2
    have HSZ := Lib.hid (show ((⟨#[35, 32, 110, 111, 116, 101, 10]⟩ : ByteArray) ++ s).size = 7 + s.size by rw [ByteArray.size_append]; rfl)
    generalize readT s.data.toList = t1 at HU HR1
    generalize readT (note ++ s.data.toList) = t2 at HU HR2
    go_enter Tryd.func3, Tryd.ntmps3
    go_wp2_with fail
    refine (HR1.out _).mono ?_
    rintro e w1 ⟨v1, u1, rfl, h1⟩
    have B1 := Lib.hid h1.below
    have S1 := Lib.hid h1.fo.sl
    have U1 := Lib.hid h1.wrong
    clear h1
    go_wp2_with fail
    refine (HR2.out _).mono ?_
    rintro e w2 ⟨v2, u2, rfl, h2⟩
    have B2 := Lib.hid (B1.out.trans (h2.below.mono B1.out.size))
    have S2 := Lib.hid (S1.out.below h2.below)
    have R2 := Lib.hid h2.fo.sl
    have P2 := Lib.hid (U1.out.below h2.below)
    have Q2 := Lib.hid h2.wrong
    have T2 := Lib.hid (HT.out.below B2.out)
    clear h2 S1 U1 HR1 HR2 HSZ
    obtain ⟨a, b, c, n, m, hc1, hc2, hn1, hn2, hab, rfl, rfl, hnm⟩ : ∃ (a b : List Nd) (c n m : Int), t1.code = c ∧ t2.code = c ∧ (if 0 < t1.line then t1.line else 0) = n ∧ (if 0 < t2.line then t2.line else 0) = m ∧ sameL a b = true ∧ a = t1.nds ∧ b = t2.nds ∧ ((n = 0 ∧ m = 0) ∨ (1 ≤ n ∧ n ≤ 100000 ∧ m = n + 1)) := by
      cases HU.out with
      | ok h => exact ⟨_, _, 0, 0, 0, rfl, rfl, rfl, rfl, h, rfl, rfl, .inl ⟨rfl, rfl⟩⟩
      | err c n h => 
        obtain ⟨h1, h2⟩ := h
        exact ⟨[], [], c, n, n + 1, rfl, rfl, if_pos (by show 0 < n; omega), if_pos (by show 0 < n + 1; omega), sameL_nil, rfl, rfl, .inr ⟨h1, h2, rfl⟩⟩
    rw [hc1, hn1] at P2
    rw [hc2, hn2] at Q2
    obtain ⟨p1, k1, rfl, -, -⟩ := S2.out.slice
    obtain ⟨p2, k2, rfl, -, -⟩ := R2.out.slice
    have HAB := Lib.hid hab
    clear hc1 hc2 hn1 hn2 hab HU
    generalize t1.nds = a at *
    generalize t2.nds = b at *
    obtain ⟨x, hx⟩ : ∃ x, x = a.length := ⟨_, rfl⟩
    obtain ⟨y, hy⟩ : ∃ y, y = b.length := ⟨_, rfl⟩
    rw [← hx] at S2 ⊢
    rw [← hy] at R2 ⊢
    have HX := Lib.hid hx
    have HY := Lib.hid hy
    clear hx hy
    go_wp2_with fail
    refine (P2.out.line T2.out).mono ?_
    rintro e w3 ⟨rfl, hb3⟩
    have B3 := Lib.hid (B2.out.trans (hb3.mono B2.out.size))
    have S3 := Lib.hid (S2.out.below hb3)
    have R3 := Lib.hid (R2.out.below hb3)
    have P3 := Lib.hid (P2.out.below hb3)
    have Q3 := Lib.hid (Q2.out.below hb3)
    have T3 := Lib.hid (HT.out.below B3.out)
    clear hb3 S2 R2 P2 Q2 T2
    rcases hnm with ⟨rfl, rfl⟩ | ⟨hn1, hn2, rfl⟩
    all_goals
      go_wp2_with fail
      refine (P3.out.of T3.out).mono ?_
      rintro e w4 ⟨rfl, hb4⟩
      have B4 := Lib.hid (B3.out.trans (hb4.mono B3.out.size))
      have S4 := Lib.hid (S3.out.below hb4)
      have R4 := Lib.hid (R3.out.below hb4)
      have Q4 := Lib.hid (Q3.out.below hb4)
      have T4 := Lib.hid (HT.out.below B4.out)
      clear hb4
      go_wp2_with fail
      refine (Q4.out.of T4.out).mono ?_
      rintro e w5 ⟨rfl, hb5⟩
      have B5 := Lib.hid (B4.out.trans (hb5.mono B4.out.size))
      have S5 := Lib.hid (S4.out.below hb5)
      have R5 := Lib.hid (R4.out.below hb5)
      have Q5 := Lib.hid (Q4.out.below hb5)
      have T5 := Lib.hid (HT.out.below B5.out)
      clear hb5
      go_wp2_with fail
      refine (Q5.out.line T5.out).mono ?_
      rintro e w6 ⟨rfl, hb6⟩
      have B6 := Lib.hid (B5.out.trans (hb6.mono B5.out.size))
      have S6 := Lib.hid (S5.out.below hb6)
      have R6 := Lib.hid (R5.out.below hb6)
      clear hb6
      go_wp2_with fail
      refine (same_calls _ a b _ _ x y k1 k2 w6 rfl HX.out HY.out S6.out R6.out).mono ?_
      rintro e w7 ⟨rfl, hb7⟩
      rw [HAB.out]
      have B7 := Lib.hid (B6.out.trans (hb7.mono B6.out.size))
      have T7 := Lib.hid (HT.out.below B7.out)
      clear hb7
      go_wp2_with fail
      refine (works_calls _ T7.out).mono ?_
      rintro e w8 ⟨rfl, hb8⟩
      have B8 := Lib.hid (B7.out.trans (hb8.mono B7.out.size))
      clear hb8
      go_wp2_with fail
      go_ret
      exact ⟨rfl, B8.out⟩
end Go.Proofs.YtabpkpeonbdinaaDoor.Tree

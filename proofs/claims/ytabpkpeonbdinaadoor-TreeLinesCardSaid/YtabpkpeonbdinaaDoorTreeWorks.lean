/-
  Layer 13 (tree): the law's example, walked.
-/
import Derived.Test.YtabpkpeonbdinaaDoorTreeRead
import Derived.Test.YtabpkpeonbdinaaDoorTreeEqf
import Derived.Test.YtabpkpeonbdinaaDoorTreeCount
import Derived.Test.YtabpkpeonbdinaaDoorTreeWrite
import Derived.Test.YtabpkpeonbdinaaDoorErfOf
namespace Go.Proofs.YtabpkpeonbdinaaDoor.Tree
open Go.RowKit Go.Proofs.YtabpkpeonbdinaaDoor.Own Go.Proofs.YtabpkpeonbdinaaDoor.Rw Go.Proofs.YtabpkpeonbdinaaDoor.Lex

def ex1 : List UInt8 := [99, 111, 110, 115, 111, 108, 101, 32, 97, 32, 123, 10, 32, 108, 105, 110, 101, 115, 32, 50, 48, 59, 10, 32, 105, 110, 105, 116, 32, 34, 120, 32, 121, 34, 59, 10, 125, 10, 98, 114, 101, 97, 107, 32, 49, 32, 122, 59]
def ex2 : List UInt8 := [97, 32, 123, 10, 32, 98]
def ex3 : List UInt8 := [97, 59, 10, 125]
def exT : List UInt8 := [99, 111, 110, 115, 111, 108, 101, 32, 97, 32, 123, 10, 32, 32, 108, 105, 110, 101, 115, 32, 50, 48, 59, 10, 32, 32, 105, 110, 105, 116, 32, 34, 120, 32, 121, 34, 59, 10, 125, 10, 98, 114, 101, 97, 107, 32, 49, 32, 122, 59, 10]
def kid0 : Nd := .mk [108, 105, 110, 101, 115] [[50, 48]] false [] 2
def kid1 : Nd := .mk [105, 110, 105, 116] [[120, 32, 121]] false [] 3
def top0 : Nd := .mk [99, 111, 110, 115, 111, 108, 101] [[97]] true [kid0, kid1] 1
def top1 : Nd := .mk [98, 114, 101, 97, 107] [[49], [122]] false [] 5
theorem read_ex1 : readT ex1 = .ok [top0, top1] := by kernel_rfl
theorem read_ex2 : readT ex2 = .err 3 2 := by kernel_rfl
theorem read_ex3 : readT ex3 = .err 3 2 := by kernel_rfl
theorem print_ex : txtL 0 [top0, top1] = some exT := by kernel_rfl
theorem count_ex : cntL [top0, top1] = 4 := by kernel_rfl
theorem same_ex : sameL [top0, top1] [top0, top1] = true := by kernel_rfl
theorem wt_ex : wtL [top0, top1] ≤ 549755813888 := by decide +kernel

/-- what Read of a text that is wrong tells of it -/
structure Wrong (w : World) (u : Value) (c n : Int) : Prop where
  err : ∃ lay N, Flt.ErrN w N u lay c ∧ Flt.lineOf lay = n ∧ lay.length ≤ 1 ∧ N ≤ w.heap.size
theorem Wrong.below {w w' : World} {u : Value} {c n : Int} (h : Wrong w u c n) (hb : Below w.heap.size w w') : Wrong w' u c n := by
  obtain ⟨lay, N, h1, h2, h3, h4⟩ := h.err
  exact ⟨lay, N, h1.below hb h4, h2, h3, Nat.le_trans h4 hb.size⟩
theorem Wrong.of {w : World} {u : Value} {c n : Int} (h : Wrong w u c n) (hT : Flt.Tab w) : Calls Tryd.prog 7 #[u] w fun e w' => e = .returned (.int .i64 c) ∧ Below w.heap.size w w' := by
  obtain ⟨lay, N, h1, h2, h3, h4⟩ := h.err
  exact Flt.of_calls u lay c N w h1 h4 hT
theorem Wrong.line {w : World} {u : Value} {c n : Int} (h : Wrong w u c n) (hT : Flt.Tab w) : Calls Tryd.prog 6 #[u] w fun e w' => e = .returned (.int .i64 n) ∧ Below w.heap.size w w' := by
  obtain ⟨lay, N, h1, h2, h3, h4⟩ := h.err
  rw [← h2]
  exact Flt.line_calls u lay c N w h1 h4 hT (by omega)
theorem TrRes.wrong {t : Tr} {w w' : World} {v u : Value} (h : TrRes t w w' v u) : Wrong w' u t.code (if 0 < t.line then t.line else 0) := by
  obtain ⟨lay, h1, h2, h3⟩ := h.err
  exact ⟨lay, _, h1, h2, h3, Nat.le_refl _⟩

set_option maxRecDepth 100000 in
set_option maxHeartbeats 4000000 in
theorem works_calls (w : World) (hT : Flt.Tab w) :
    Calls Tryd.prog 4 #[] w fun e w' => e = .returned (.bool true) ∧ Below w.heap.size w w' := by
  have HT := Lib.hid hT
  clear hT
  go_enter Tryd.func4, Tryd.ntmps4
  go_wp2_with fail
  refine (read_calls ⟨ex1.toArray⟩ _).mono ?_
  rintro e w1 ⟨v1, u1, rfl, h1⟩
  rw [show (⟨ex1.toArray⟩ : ByteArray).data.toList = ex1 from rfl, read_ex1] at h1
  obtain rfl := h1.none rfl
  have B1 := Lib.hid h1.below
  have S1 := Lib.hid (show Sl w1 v1 [top0, top1] from h1.fo.sl)
  clear h1
  go_wp2_with fail
  refine (read_calls ⟨ex2.toArray⟩ _).mono ?_
  rintro e w2 ⟨v2, u2, rfl, h2⟩
  rw [show (⟨ex2.toArray⟩ : ByteArray).data.toList = ex2 from rfl, read_ex2] at h2
  have B2 := Lib.hid (B1.out.trans (h2.below.mono B1.out.size))
  have S2 := Lib.hid (S1.out.below h2.below)
  have W2 := Lib.hid (show Wrong w2 u2 3 2 from h2.wrong)
  clear h2 S1
  go_wp2_with fail
  refine (read_calls ⟨ex3.toArray⟩ _).mono ?_
  rintro e w3 ⟨v3, u3, rfl, h3⟩
  rw [show (⟨ex3.toArray⟩ : ByteArray).data.toList = ex3 from rfl, read_ex3] at h3
  have B3 := Lib.hid (B2.out.trans (h3.below.mono B2.out.size))
  have S3 := Lib.hid (S2.out.below h3.below)
  have V2 := Lib.hid (W2.out.below h3.below)
  have V3 := Lib.hid (show Wrong w3 u3 3 2 from h3.wrong)
  clear h3 S2 W2
  obtain ⟨p, c, rfl, hc, hm⟩ := S3.out.slice
  unfold maxLen at hm
  rw [show [top0, top1].length = 2 from rfl] at *
  obtain ⟨g, pa, ca, pl, cl, rfl, hg, ⟨x0, x1, x2, x3, x4⟩, -, hl⟩ := S3.out.at_ (i := 0) (by decide)
  have SL := Lib.hid hl
  clear hl
  rw [show ([top0, top1][0]'(by decide)).list.length = 2 from rfl] at x3
  go_wp2_with fail
  refine (print_calls [top0, top1] _ 2 c w3 rfl S3.out wt_ex).mono ?_
  rintro e w4 ⟨rfl, hb4⟩
  rw [print_ex, show prC (some exT) = 0 from rfl, show (⟨(prT (some exT)).toArray⟩ : ByteArray) = ⟨#[99, 111, 110, 115, 111, 108, 101, 32, 97, 32, 123, 10, 32, 32, 108, 105, 110, 101, 115, 32, 50, 48, 59, 10, 32, 32, 105, 110, 105, 116, 32, 34, 120, 32, 121, 34, 59, 10, 125, 10, 98, 114, 101, 97, 107, 32, 49, 32, 122, 59, 10]⟩ from rfl]
  have B4 := Lib.hid (B3.out.trans (hb4.mono B3.out.size))
  have S4 := Lib.hid (S3.out.below hb4)
  have L4 := Lib.hid (SL.out.below hb4)
  have U2 := Lib.hid (V2.out.below hb4)
  have U3 := Lib.hid (V3.out.below hb4)
  have a0 : w4.cell? ⟨g, 0, none⟩ = some (.string ⟨#[99, 111, 110, 115, 111, 108, 101]⟩) := (hb4.cell (p := ⟨g, 0, none⟩) hg).trans x0
  have a2 : w4.cell? ⟨g, 2, none⟩ = some (.bool true) := (hb4.cell (p := ⟨g, 2, none⟩) hg).trans x2
  have a3 : w4.cell? ⟨g, 3, none⟩ = some (.slice pl 2 cl) := (hb4.cell (p := ⟨g, 3, none⟩) hg).trans x3
  obtain ⟨g1, pa1, ca1, pl1, cl1, e1, -, ⟨-, -, -, -, y4⟩, -, -⟩ := S4.out.at_ (i := 1) (by decide)
  cases e1
  have a9 : w4.cell? ⟨g, 9, none⟩ = some (.int .i64 5) := y4
  obtain ⟨g2, pa2, ca2, pl2, cl2, rfl, hg2, ⟨-, z1, -, -, z4⟩, ha2, -⟩ := L4.out.at_ (i := 1) (by decide)
  have b6 : w4.cell? ⟨g2, 6, none⟩ = some (.slice pa2 1 ca2) := z1
  have b9 : w4.cell? ⟨g2, 9, none⟩ = some (.int .i64 3) := z4
  obtain ⟨g3, rfl, hg3, c0⟩ := text_at (i := 0) ha2 (by decide)
  have d0 : w4.cell? ⟨g3, 0, none⟩ = some (.string ⟨#[120, 32, 121]⟩) := c0
  obtain ⟨-, -, hv, hc2, hm2⟩ := own_slice ha2
  have hL := L4.out.slice
  have T4 := Lib.hid (HT.out.below B4.out)
  clear x0 x1 x2 x3 x4 y4 z1 z4 c0 ha2 hb4 S3 SL V2 V3 B1 B2 B3
  go_wp2_with fail
  refine (U2.out.of T4.out).mono ?_
  rintro e w5 ⟨rfl, hb5⟩
  have B5 := Lib.hid (B4.out.trans (hb5.mono B4.out.size))
  have S5 := Lib.hid (S4.out.below hb5)
  have P2 := Lib.hid (U2.out.below hb5)
  have P3 := Lib.hid (U3.out.below hb5)
  have T5 := Lib.hid (HT.out.below B5.out)
  clear hb5 a0 a2 a3 a9 b6 b9 d0 S4 U2 U3 L4 T4
  go_wp2_with fail
  refine (P2.out.line T5.out).mono ?_
  rintro e w6 ⟨rfl, hb6⟩
  have B6 := Lib.hid (B5.out.trans (hb6.mono B5.out.size))
  have S6 := Lib.hid (S5.out.below hb6)
  have Q3 := Lib.hid (P3.out.below hb6)
  have T6 := Lib.hid (HT.out.below B6.out)
  clear hb6 S5 P3 P2 T5
  go_wp2_with fail
  refine (Q3.out.line T6.out).mono ?_
  rintro e w7 ⟨rfl, hb7⟩
  have B7 := Lib.hid (B6.out.trans (hb7.mono B6.out.size))
  have S7 := Lib.hid (S6.out.below hb7)
  clear hb7 S6 Q3 T6
  go_wp2_with fail
  refine (count_calls _ [top0, top1] _ 2 c w7 rfl rfl (by rw [count_ex]; decide) S7.out).mono ?_
  rintro e w8 ⟨rfl, hb8⟩
  rw [count_ex]
  have B8 := Lib.hid (B7.out.trans (hb8.mono B7.out.size))
  have S8 := Lib.hid (S7.out.below hb8)
  clear hb8 S7
  go_wp2_with fail
  refine (same_calls _ [top0, top1] [top0, top1] _ _ 2 2 c c w8 rfl rfl rfl S8.out S8.out).mono ?_
  rintro e w9 ⟨rfl, hb9⟩
  rw [same_ex]
  have B9 := Lib.hid (B8.out.trans (hb9.mono B8.out.size))
  clear hb9 S8
  go_wp2_with fail
  go_ret
  exact ⟨rfl, B9.out⟩
end Go.Proofs.YtabpkpeonbdinaaDoor.Tree

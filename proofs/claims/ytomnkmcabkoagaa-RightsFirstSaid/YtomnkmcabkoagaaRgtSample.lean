/-
  Layer 16 (rights): the law's cut, its sample.
-/
import Derived.Test.YtomnkmcabkoagaaRgtRef4
import Derived.Test.YtomnkmcabkoagaaConfUsual
import Derived.Test.YtomnkmcabkoagaaConfSet14
namespace Go.Proofs.Ytomnkmcabkoagaa.Rgt
open Go.RowKit Go.Proofs.Ytomnkmcabkoagaa.Own Go.Proofs.Ytomnkmcabkoagaa.Rw Go.Proofs.Ytomnkmcabkoagaa.Tree Go.Proofs.Ytomnkmcabkoagaa.Conf

def cutM (s : Bs) : Bs := s.take 40
set_option maxRecDepth 100000 in
theorem cut_calls (s : Bs) (w : World) : Calls Try.prog 7 #[.string ⟨s.toArray⟩] w fun e w' => e = .returned (.string ⟨(cutM s).toArray⟩) ∧ w = w' := by
  by_cases h : 40 < s.length
  · have H := Lib.hid (show (⟨(cutM s).toArray⟩ : ByteArray) = (⟨s.toArray⟩ : ByteArray).extract 0 40 by
      apply ByteArray.ext
      apply Array.ext'
      rw [← ByteArray.toList_eq, ← ByteArray.toList_eq, ext_list]
      simp [cutM, ByteArray.toList_eq])
    have q1 : (40 : Int) < (s.length : Int) := by omega
    have q2 : (40 : Int) ≤ (s.length : Int) := by omega
    go_enter Try.func7, Try.ntmps7
    go_wp2_with fail
    go_ret
    exact ⟨by rw [H.out]; rfl, rfl⟩
  · have H := Lib.hid (show cutM s = s by unfold cutM; exact List.take_of_length_le (by omega))
    have q1 : ¬ (40 : Int) < (s.length : Int) := by omega
    go_enter Try.func7, Try.ntmps7
    go_wp2_with fail
    go_ret
    exact ⟨by rw [H.out]; rfl, rfl⟩
theorem four_new (w5 W : World) (o : Obj) (hW : ((((w5.alloc o).alloc o).alloc o).alloc o).drew = W) :
    W.heap[w5.heap.size + 1]? = some o ∧ W.heap[w5.heap.size + 1 + 1]? = some o ∧ W.heap[w5.heap.size + 1 + 1 + 1]? = some o ∧ W.heap.size = w5.heap.size + 4 ∧ Below w5.heap.size w5 W := by
  subst hW
  refine ⟨?_, ?_, ?_, ?_, ?_⟩
  · show ((((w5.alloc o).alloc o).alloc o).alloc o).heap[_]? = _
    exact at_old _ _ (at_old _ _ (at_newk _ _ (by simp)))
  · show ((((w5.alloc o).alloc o).alloc o).alloc o).heap[_]? = _
    exact at_old _ _ (at_newk _ _ (by simp))
  · show ((((w5.alloc o).alloc o).alloc o).alloc o).heap[_]? = _
    exact at_newk _ _ (by simp)
  · show ((((w5.alloc o).alloc o).alloc o).alloc o).heap.size = _
    simp
  · have b := ((((Below.refl w5.heap.size w5).alloc (Nat.le_refl _) o).alloc (by simp) o).alloc (by simp; omega) o).alloc (by simp; omega) o
    exact ⟨b.os, b.tape, b.output, b.size, b.block⟩
theorem three_set {W W4 : World} {a b c z : Nat} {va vb vc : Value} (hW : ((W.setCell ⟨a, 0, none⟩ va).setCell ⟨b, 0, none⟩ vb).setCell ⟨c, 0, none⟩ vc = W4)
    {x y0 y1 y2 y3 y4 y5 y6 y7 y8 : Value} {T : TypeId} {o : Obj}
    (ha : W.heap[a]? = some (.cells #[x, y0, y1, y2, y3, y4, y5, y6, y7, y8] T (0, 0))) (hb : W.heap[b]? = some (.cells #[x, y0, y1, y2, y3, y4, y5, y6, y7, y8] T (0, 0))) (hc : W.heap[c]? = some (.cells #[x, y0, y1, y2, y3, y4, y5, y6, y7, y8] T (0, 0)))
    (hz : W.heap[z]? = some o) (hab : a ≠ b) (hac : a ≠ c) (hbc : b ≠ c) (hza : z ≠ a) (hzb : z ≠ b) (hzc : z ≠ c) {w : World} (hB : Below z w W) (hla : z ≤ a) (hlb : z ≤ b) (hlc : z ≤ c) :
    W4.heap[a]? = some (.cells #[va, y0, y1, y2, y3, y4, y5, y6, y7, y8] T (0, 0)) ∧ W4.heap[b]? = some (.cells #[vb, y0, y1, y2, y3, y4, y5, y6, y7, y8] T (0, 0)) ∧ W4.heap[c]? = some (.cells #[vc, y0, y1, y2, y3, y4, y5, y6, y7, y8] T (0, 0)) ∧ W4.heap[z]? = some o ∧ Below z w W4 := by
  subst hW
  refine ⟨?_, ?_, ?_, ?_, ?_⟩
  · rw [at_set_other _ hac, at_set_other _ hab]; exact at_set ha 0 va
  · rw [at_set_other _ hbc]
    exact at_set ((at_set_other _ hab.symm 0 va).trans hb) 0 vb
  · exact at_set ((at_set_other _ hbc.symm 0 vb).trans ((at_set_other _ hac.symm 0 va).trans hc)) 0 vc
  · rw [at_set_other _ hzc, at_set_other _ hzb, at_set_other _ hza]; exact hz
  · exact ((hB.setCell (p := ⟨a, 0, none⟩) hla va).setCell (p := ⟨b, 0, none⟩) hlb vb).setCell (p := ⟨c, 0, none⟩) hlc vc
def kWeb1 : Cn := { usual with name := [119, 101, 98, 49] }
def kWeb2 : Cn := { usual with name := [119, 101, 98, 50] }
def kDb : Cn := { usual with name := [100, 98] }
def sampleC : Cf := ⟨[kWeb1, kWeb2, kDb], [([119, 101, 98, 115], [[119, 101, 98, 63], [119, 42]])], [([97, 110, 110], [120])], [([100, 98], [97, 110, 110], 0), ([42], [97, 110, 110], 2)], List.replicate 10 []⟩
def smpV (q0 q1 q2 q3 : Nat) : Value := confV (.slice (some ⟨q0, 0, none⟩) 3 3) (.slice (some ⟨q1, 0, none⟩) 1 1) (.slice (some ⟨q2, 0, none⟩) 1 1) (.slice (some ⟨q3, 0, none⟩) 2 2) [] [] [] [] [] [] [] [] [] []
/-- five rows made one behind the other, then a configuration stored whole into a block ahead of them -/
structure Fin5 (W4 Y : World) (z : Nat) : Prop where
  n1 : Y.heap[W4.heap.size]? = some (.cells #[.string ⟨#[119, 101, 98, 49]⟩, .int .i64 1, .int .i64 20, .int .i64 4096, .int .i64 3, .int .i64 4096, .int .i64 1, .int .i64 64, .int .i64 4, .string ⟨#[]⟩, .string ⟨#[119, 101, 98, 50]⟩, .int .i64 1, .int .i64 20, .int .i64 4096, .int .i64 3, .int .i64 4096, .int .i64 1, .int .i64 64, .int .i64 4, .string ⟨#[]⟩, .string ⟨#[100, 98]⟩, .int .i64 1, .int .i64 20, .int .i64 4096, .int .i64 3, .int .i64 4096, .int .i64 1, .int .i64 64, .int .i64 4, .string ⟨#[]⟩] 47 (0, 0))
  n2 : Y.heap[W4.heap.size + 1]? = some (.cells #[.string ⟨#[119, 101, 98, 63]⟩, .string ⟨#[119, 42]⟩] 9 (0, 0))
  n3 : Y.heap[W4.heap.size + 1 + 1]? = some (.cells #[.string ⟨#[119, 101, 98, 115]⟩, .slice (some ⟨W4.heap.size + 1, 0, none⟩) 2 2] 53 (0, 0))
  n4 : Y.heap[W4.heap.size + 1 + 1 + 1]? = some (.cells #[.string ⟨#[97, 110, 110]⟩, .string ⟨#[120]⟩] 55 (0, 0))
  n5 : Y.heap[W4.heap.size + 1 + 1 + 1 + 1]? = some (.cells #[.string ⟨#[100, 98]⟩, .string ⟨#[97, 110, 110]⟩, .int .i64 0, .string ⟨#[42]⟩, .string ⟨#[97, 110, 110]⟩, .int .i64 2] 50 (0, 0))
  nz : Y.heap[z]? = some (.cells #[.slice (some ⟨W4.heap.size, 0, none⟩) 3 3, .slice (some ⟨W4.heap.size + 1 + 1, 0, none⟩) 1 1, .slice (some ⟨W4.heap.size + 1 + 1 + 1, 0, none⟩) 1 1, .slice (some ⟨W4.heap.size + 1 + 1 + 1 + 1, 0, none⟩) 2 2, .string ⟨#[]⟩, .string ⟨#[]⟩, .string ⟨#[]⟩, .string ⟨#[]⟩, .string ⟨#[]⟩, .string ⟨#[]⟩, .string ⟨#[]⟩, .string ⟨#[]⟩, .string ⟨#[]⟩, .string ⟨#[]⟩] 28 (0, 0))
  below : Below z W4 Y
theorem fin5 {W4 X : World} {z : Nat} (hX : X = (((((W4.alloc (.cells #[.string ⟨#[119, 101, 98, 49]⟩, .int .i64 1, .int .i64 20, .int .i64 4096, .int .i64 3, .int .i64 4096, .int .i64 1, .int .i64 64, .int .i64 4, .string ⟨#[]⟩, .string ⟨#[119, 101, 98, 50]⟩, .int .i64 1, .int .i64 20, .int .i64 4096, .int .i64 3, .int .i64 4096, .int .i64 1, .int .i64 64, .int .i64 4, .string ⟨#[]⟩, .string ⟨#[100, 98]⟩, .int .i64 1, .int .i64 20, .int .i64 4096, .int .i64 3, .int .i64 4096, .int .i64 1, .int .i64 64, .int .i64 4, .string ⟨#[]⟩] 47)).alloc (.cells #[.string ⟨#[119, 101, 98, 63]⟩, .string ⟨#[119, 42]⟩] 9)).alloc (.cells #[.string ⟨#[119, 101, 98, 115]⟩, .slice (some ⟨W4.heap.size + 1, 0, none⟩) 2 2] 53)).alloc (.cells #[.string ⟨#[97, 110, 110]⟩, .string ⟨#[120]⟩] 55)).alloc (.cells #[.string ⟨#[100, 98]⟩, .string ⟨#[97, 110, 110]⟩, .int .i64 0, .string ⟨#[42]⟩, .string ⟨#[97, 110, 110]⟩, .int .i64 2] 50))) (hz : z < W4.heap.size) (nz : X.heap[z]? = some (.cells #[.slice none 0 0, .slice none 0 0, .slice none 0 0, .slice none 0 0, .string ⟨#[]⟩, .string ⟨#[]⟩, .string ⟨#[]⟩, .string ⟨#[]⟩, .string ⟨#[]⟩, .string ⟨#[]⟩, .string ⟨#[]⟩, .string ⟨#[]⟩, .string ⟨#[]⟩, .string ⟨#[]⟩] 28 (0, 0))) : Fin5 W4 (((((((((((((((X.setCell ⟨z, 0, none⟩ (.slice (some ⟨W4.heap.size, 0, none⟩) 3 3)).setCell ⟨z, 1, none⟩ (.slice (some ⟨W4.heap.size + 1 + 1, 0, none⟩) 1 1)).setCell ⟨z, 2, none⟩ (.slice (some ⟨W4.heap.size + 1 + 1 + 1, 0, none⟩) 1 1)).setCell ⟨z, 3, none⟩ (.slice (some ⟨W4.heap.size + 1 + 1 + 1 + 1, 0, none⟩) 2 2)).setCell ⟨z, 4, none⟩ (.string ⟨#[]⟩)).setCell ⟨z, 5, none⟩ (.string ⟨#[]⟩)).setCell ⟨z, 6, none⟩ (.string ⟨#[]⟩)).setCell ⟨z, 7, none⟩ (.string ⟨#[]⟩)).setCell ⟨z, 8, none⟩ (.string ⟨#[]⟩)).setCell ⟨z, 9, none⟩ (.string ⟨#[]⟩)).setCell ⟨z, 10, none⟩ (.string ⟨#[]⟩)).setCell ⟨z, 11, none⟩ (.string ⟨#[]⟩)).setCell ⟨z, 12, none⟩ (.string ⟨#[]⟩)).setCell ⟨z, 13, none⟩ (.string ⟨#[]⟩))) z := by
  have s : X.heap.size = W4.heap.size + 1 + 1 + 1 + 1 + 1 := by rw [hX]; simp
  have h1 : X.heap[W4.heap.size]? = some (.cells #[.string ⟨#[119, 101, 98, 49]⟩, .int .i64 1, .int .i64 20, .int .i64 4096, .int .i64 3, .int .i64 4096, .int .i64 1, .int .i64 64, .int .i64 4, .string ⟨#[]⟩, .string ⟨#[119, 101, 98, 50]⟩, .int .i64 1, .int .i64 20, .int .i64 4096, .int .i64 3, .int .i64 4096, .int .i64 1, .int .i64 64, .int .i64 4, .string ⟨#[]⟩, .string ⟨#[100, 98]⟩, .int .i64 1, .int .i64 20, .int .i64 4096, .int .i64 3, .int .i64 4096, .int .i64 1, .int .i64 64, .int .i64 4, .string ⟨#[]⟩] 47 (0, 0)) := by rw [hX]; exact at_old _ _ (at_old _ _ (at_old _ _ (at_old _ _ (at_new _ _))))
  have h2 : X.heap[W4.heap.size + 1]? = some (.cells #[.string ⟨#[119, 101, 98, 63]⟩, .string ⟨#[119, 42]⟩] 9 (0, 0)) := by rw [hX]; exact at_old _ _ (at_old _ _ (at_old _ _ (at_newk _ _ (by simp))))
  have h3 : X.heap[W4.heap.size + 1 + 1]? = some (.cells #[.string ⟨#[119, 101, 98, 115]⟩, .slice (some ⟨W4.heap.size + 1, 0, none⟩) 2 2] 53 (0, 0)) := by rw [hX]; exact at_old _ _ (at_old _ _ (at_newk _ _ (by simp)))
  have h4 : X.heap[W4.heap.size + 1 + 1 + 1]? = some (.cells #[.string ⟨#[97, 110, 110]⟩, .string ⟨#[120]⟩] 55 (0, 0)) := by rw [hX]; exact at_old _ _ (at_newk _ _ (by simp))
  have h5 : X.heap[W4.heap.size + 1 + 1 + 1 + 1]? = some (.cells #[.string ⟨#[100, 98]⟩, .string ⟨#[97, 110, 110]⟩, .int .i64 0, .string ⟨#[42]⟩, .string ⟨#[97, 110, 110]⟩, .int .i64 2] 50 (0, 0)) := by rw [hX]; exact at_newk _ _ (by simp)
  have hb : Below z W4 X := by
    rw [hX]
    exact ((((((Below.refl z W4).alloc (by omega) _).alloc (by simp; omega) _).alloc (by simp; omega) _).alloc (by simp; omega) _).alloc (by simp; omega) _)
  clear hX
  have NY := set14_row (y0 := .slice (some ⟨W4.heap.size, 0, none⟩) 3 3) (y1 := .slice (some ⟨W4.heap.size + 1 + 1, 0, none⟩) 1 1) (y2 := .slice (some ⟨W4.heap.size + 1 + 1 + 1, 0, none⟩) 1 1) (y3 := .slice (some ⟨W4.heap.size + 1 + 1 + 1 + 1, 0, none⟩) 2 2) (y4 := .string ⟨#[]⟩) (y5 := .string ⟨#[]⟩) (y6 := .string ⟨#[]⟩) (y7 := .string ⟨#[]⟩) (y8 := .string ⟨#[]⟩) (y9 := .string ⟨#[]⟩) (y10 := .string ⟨#[]⟩) (y11 := .string ⟨#[]⟩) (y12 := .string ⟨#[]⟩) (y13 := .string ⟨#[]⟩) nz
  have OY := set14_out X z (.slice (some ⟨W4.heap.size, 0, none⟩) 3 3) (.slice (some ⟨W4.heap.size + 1 + 1, 0, none⟩) 1 1) (.slice (some ⟨W4.heap.size + 1 + 1 + 1, 0, none⟩) 1 1) (.slice (some ⟨W4.heap.size + 1 + 1 + 1 + 1, 0, none⟩) 2 2) (.string ⟨#[]⟩) (.string ⟨#[]⟩) (.string ⟨#[]⟩) (.string ⟨#[]⟩) (.string ⟨#[]⟩) (.string ⟨#[]⟩) (.string ⟨#[]⟩) (.string ⟨#[]⟩) (.string ⟨#[]⟩) (.string ⟨#[]⟩)
  have hbY : Below z W4 (((((((((((((((X.setCell ⟨z, 0, none⟩ (.slice (some ⟨W4.heap.size, 0, none⟩) 3 3)).setCell ⟨z, 1, none⟩ (.slice (some ⟨W4.heap.size + 1 + 1, 0, none⟩) 1 1)).setCell ⟨z, 2, none⟩ (.slice (some ⟨W4.heap.size + 1 + 1 + 1, 0, none⟩) 1 1)).setCell ⟨z, 3, none⟩ (.slice (some ⟨W4.heap.size + 1 + 1 + 1 + 1, 0, none⟩) 2 2)).setCell ⟨z, 4, none⟩ (.string ⟨#[]⟩)).setCell ⟨z, 5, none⟩ (.string ⟨#[]⟩)).setCell ⟨z, 6, none⟩ (.string ⟨#[]⟩)).setCell ⟨z, 7, none⟩ (.string ⟨#[]⟩)).setCell ⟨z, 8, none⟩ (.string ⟨#[]⟩)).setCell ⟨z, 9, none⟩ (.string ⟨#[]⟩)).setCell ⟨z, 10, none⟩ (.string ⟨#[]⟩)).setCell ⟨z, 11, none⟩ (.string ⟨#[]⟩)).setCell ⟨z, 12, none⟩ (.string ⟨#[]⟩)).setCell ⟨z, 13, none⟩ (.string ⟨#[]⟩))) := hb.trans (OY.below (by have := at_lt nz; omega) fun k hk => by rw [hk]; exact Nat.le_refl _)
  exact ⟨OY.at_ h1 (by omega), OY.at_ h2 (by omega), OY.at_ h3 (by omega), OY.at_ h4 (by omega), OY.at_ h5 (by omega), NY, hbY⟩
theorem rd_lit {w : World} {b k n : Nat} {arr : Array Value} {T : TypeId} {xs : List Value} (N : w.heap[b]? = some (.cells arr T (0, 0))) (e : arr.toList = xs) (hl : xs.length = n * k) (hn : n ≤ maxLen) : Rd w k (some ⟨b, 0, none⟩) n n xs :=
  ⟨Nat.le_refl _, hn, hl, .inr ⟨b, 0, rfl, at_lt N, fun j x hx => by
    rw [at_cell N, Nat.zero_add, ← Array.getElem?_toList, e]; exact hx⟩⟩
theorem fin5_cf {W4 Y : World} {z : Nat} (h : Fin5 W4 Y z) : CfR Y (.slice (some ⟨W4.heap.size, 0, none⟩) 3 3) (.slice (some ⟨W4.heap.size + 1 + 1, 0, none⟩) 1 1) (.slice (some ⟨W4.heap.size + 1 + 1 + 1, 0, none⟩) 1 1) (.slice (some ⟨W4.heap.size + 1 + 1 + 1 + 1, 0, none⟩) 2 2) sampleC := by
  refine ⟨⟨_, _, rfl, rd_lit h.n1 rfl rfl (by unfold maxLen; decide)⟩, ⟨_, _, [.string ⟨#[119, 101, 98, 115]⟩, .slice (some ⟨W4.heap.size + 1, 0, none⟩) 2 2], rfl, rd_lit h.n3 rfl rfl (by unfold maxLen; decide), ?_⟩, ⟨_, _, rfl, rd_lit h.n4 rfl rfl (by unfold maxLen; decide)⟩, ⟨_, _, rfl, rd_lit h.n5 rfl rfl (by unfold maxLen; decide)⟩⟩
  have r := rd_lit (n := 2) (k := 1) (xs := strs [[119, 101, 98, 63], [119, 42]]) h.n2 rfl rfl (by unfold maxLen; decide)
  exact .cons ⟨⟨⟨Nat.le_refl _, by unfold maxLen; decide, .inr (r.cells.resolve_left (by decide))⟩⟩, fun a e => by cases e; exact at_lt h.n2, fun e => by cases e⟩ .nil
def SmPost (w : World) (e : Ending) (w' : World) : Prop := ∃ q0 q1 q2 q3, e = .returned (smpV q0 q1 q2 q3) ∧ CfR w' (.slice (some ⟨q0, 0, none⟩) 3 3) (.slice (some ⟨q1, 0, none⟩) 1 1) (.slice (some ⟨q2, 0, none⟩) 1 1) (.slice (some ⟨q3, 0, none⟩) 2 2) sampleC ∧ Below w.heap.size w w'
/-- three consoles in blocks of their own, and a configuration's block -/
structure Smp (w wx : World) (a b c : Nat) (xa xb xc : Bs) : Prop where
  ha : wx.heap[a]? = some (.cells #[.string ⟨xa.toArray⟩, .int .i64 1, .int .i64 20, .int .i64 4096, .int .i64 3, .int .i64 4096, .int .i64 1, .int .i64 64, .int .i64 4, .string ⟨#[]⟩] 47 (0, 0))
  hb : wx.heap[b]? = some (.cells #[.string ⟨xb.toArray⟩, .int .i64 1, .int .i64 20, .int .i64 4096, .int .i64 3, .int .i64 4096, .int .i64 1, .int .i64 64, .int .i64 4, .string ⟨#[]⟩] 47 (0, 0))
  hc : wx.heap[c]? = some (.cells #[.string ⟨xc.toArray⟩, .int .i64 1, .int .i64 20, .int .i64 4096, .int .i64 3, .int .i64 4096, .int .i64 1, .int .i64 64, .int .i64 4, .string ⟨#[]⟩] 47 (0, 0))
  hz : wx.heap[w.heap.size]? = some (.cells #[.slice none 0 0, .slice none 0 0, .slice none 0 0, .slice none 0 0, .string ⟨#[]⟩, .string ⟨#[]⟩, .string ⟨#[]⟩, .string ⟨#[]⟩, .string ⟨#[]⟩, .string ⟨#[]⟩, .string ⟨#[]⟩, .string ⟨#[]⟩, .string ⟨#[]⟩, .string ⟨#[]⟩] 28 (0, 0))
  below : Below w.heap.size w wx
  ab : a ≠ b
  ac : a ≠ c
  bc : b ≠ c
  za : w.heap.size < a
  zb : w.heap.size < b
  zc : w.heap.size < c
set_option maxRecDepth 100000 in
set_option maxHeartbeats 8000000 in
theorem sample_calls (w : World) : Calls Try.prog 29 #[] w (SmPost w) := by
  have HU := Lib.hid (usual_calls)
  unfold usualV at HU
  have hA := (Below.refl w.heap.size w).alloc (Nat.le_refl _) (.cells #[.slice none 0 0, .slice none 0 0, .slice none 0 0, .slice none 0 0, .string ⟨#[]⟩, .string ⟨#[]⟩, .string ⟨#[]⟩, .string ⟨#[]⟩, .string ⟨#[]⟩, .string ⟨#[]⟩, .string ⟨#[]⟩, .string ⟨#[]⟩, .string ⟨#[]⟩, .string ⟨#[]⟩] 28)
  have nA := at_new w (.cells #[.slice none 0 0, .slice none 0 0, .slice none 0 0, .slice none 0 0, .string ⟨#[]⟩, .string ⟨#[]⟩, .string ⟨#[]⟩, .string ⟨#[]⟩, .string ⟨#[]⟩, .string ⟨#[]⟩, .string ⟨#[]⟩, .string ⟨#[]⟩, .string ⟨#[]⟩, .string ⟨#[]⟩] 28)
  have HA := Lib.hid hA
  have NA := Lib.hid nA
  clear hA nA
  unfold SmPost
  go_enter Try.func29, Try.ntmps29
  go_wp2_with fail
  refine (HU.out _).mono ?_
  rintro e w5 ⟨rfl, hb5⟩
  have HB5 := Lib.hid (HA.out.trans (hb5.mono HA.out.size))
  have N5 := Lib.hid ((hb5.block _ (at_lt NA.out)).trans NA.out)
  clear hb5 HU HA NA
  go_upto_region 2 with (fail)
  go_cut [2, 3, 4] (fun s2 s3 s4 wx => ∃ a b c : Nat, s2 = .pointer (some ⟨a, 0, none⟩) ∧ s3 = .pointer (some ⟨b, 0, none⟩) ∧ s4 = .pointer (some ⟨c, 0, none⟩) ∧ Smp w wx a b c [] [] [])
  case first =>
    go_region
    all_goals
      go_wp2_with fail
      go_meet
      generalize hW : World.drew _ = W
      obtain ⟨h1, h2, h3, hs, hb⟩ := four_new w5 W _ hW
      have l0 : w.heap.size < w5.heap.size := at_lt N5.out
      refine ⟨_, _, _, rfl, rfl, rfl, ?_, ?_, ?_, (hb.block _ (at_lt N5.out)).trans N5.out, HB5.out.trans (hb.mono HB5.out.size), by omega, by omega, by omega, by omega, by omega, by omega⟩
      all_goals first | exact h1 | exact h2 | exact h3
  case rest =>
    obtain ⟨a, b, c, rfl, rfl, rfl, C⟩ := hcut
    have c1 := (at_cell C.ha 0 : _ = some (Value.string ⟨#[]⟩))
    have c2 := (at_cell C.hb 0 : _ = some (Value.string ⟨#[]⟩))
    have c3 := (at_cell C.hc 0 : _ = some (Value.string ⟨#[]⟩))
    have f1 := at_frozen C.ha 0
    have f2 := at_frozen C.hb 0
    have f3 := at_frozen C.hc 0
    have n1 := C.ab
    have n2 := C.ac
    have n3 := C.bc
    have HC := Lib.hid C
    clear C
    go_upto_region 4 with (fail)
    generalize hW4 : World.setCell (World.setCell (World.setCell wc _ _) _ _) _ _ = W4
    have C := HC.out
    have C4 : Smp w W4 a b c [119, 101, 98, 49] [119, 101, 98, 50] [100, 98] := by
      obtain ⟨hA, hB, hC, h0, hBW⟩ := three_set hW4 C.ha C.hb C.hc C.hz C.ab C.ac C.bc (by have := C.za; omega) (by have := C.zb; omega) (by have := C.zc; omega) C.below (Nat.le_of_lt C.za) (Nat.le_of_lt C.zb) (Nat.le_of_lt C.zc)
      exact ⟨hA, hB, hC, h0, hBW, C.ab, C.ac, C.bc, C.za, C.zb, C.zc⟩
    clear hW4 c1 c2 c3 f1 f2 f3 HC C n1 n2 n3
    have ca0 := (at_cell C4.ha 0 : _ = some (Value.string ⟨#[119, 101, 98, 49]⟩))
    have ca1 := (at_cell C4.ha 1 : _ = some (Value.int .i64 1))
    have ca2 := (at_cell C4.ha 2 : _ = some (Value.int .i64 20))
    have ca3 := (at_cell C4.ha 3 : _ = some (Value.int .i64 4096))
    have ca4 := (at_cell C4.ha 4 : _ = some (Value.int .i64 3))
    have ca5 := (at_cell C4.ha 5 : _ = some (Value.int .i64 4096))
    have ca6 := (at_cell C4.ha 6 : _ = some (Value.int .i64 1))
    have ca7 := (at_cell C4.ha 7 : _ = some (Value.int .i64 64))
    have ca8 := (at_cell C4.ha 8 : _ = some (Value.int .i64 4))
    have ca9 := (at_cell C4.ha 9 : _ = some (Value.string ⟨#[]⟩))
    have cb0 := (at_cell C4.hb 0 : _ = some (Value.string ⟨#[119, 101, 98, 50]⟩))
    have cb1 := (at_cell C4.hb 1 : _ = some (Value.int .i64 1))
    have cb2 := (at_cell C4.hb 2 : _ = some (Value.int .i64 20))
    have cb3 := (at_cell C4.hb 3 : _ = some (Value.int .i64 4096))
    have cb4 := (at_cell C4.hb 4 : _ = some (Value.int .i64 3))
    have cb5 := (at_cell C4.hb 5 : _ = some (Value.int .i64 4096))
    have cb6 := (at_cell C4.hb 6 : _ = some (Value.int .i64 1))
    have cb7 := (at_cell C4.hb 7 : _ = some (Value.int .i64 64))
    have cb8 := (at_cell C4.hb 8 : _ = some (Value.int .i64 4))
    have cb9 := (at_cell C4.hb 9 : _ = some (Value.string ⟨#[]⟩))
    have cc0 := (at_cell C4.hc 0 : _ = some (Value.string ⟨#[100, 98]⟩))
    have cc1 := (at_cell C4.hc 1 : _ = some (Value.int .i64 1))
    have cc2 := (at_cell C4.hc 2 : _ = some (Value.int .i64 20))
    have cc3 := (at_cell C4.hc 3 : _ = some (Value.int .i64 4096))
    have cc4 := (at_cell C4.hc 4 : _ = some (Value.int .i64 3))
    have cc5 := (at_cell C4.hc 5 : _ = some (Value.int .i64 4096))
    have cc6 := (at_cell C4.hc 6 : _ = some (Value.int .i64 1))
    have cc7 := (at_cell C4.hc 7 : _ = some (Value.int .i64 64))
    have cc8 := (at_cell C4.hc 8 : _ = some (Value.int .i64 4))
    have cc9 := (at_cell C4.hc 9 : _ = some (Value.string ⟨#[]⟩))
    have hzX : (((((W4.alloc (.cells #[.string ⟨#[119, 101, 98, 49]⟩, .int .i64 1, .int .i64 20, .int .i64 4096, .int .i64 3, .int .i64 4096, .int .i64 1, .int .i64 64, .int .i64 4, .string ⟨#[]⟩, .string ⟨#[119, 101, 98, 50]⟩, .int .i64 1, .int .i64 20, .int .i64 4096, .int .i64 3, .int .i64 4096, .int .i64 1, .int .i64 64, .int .i64 4, .string ⟨#[]⟩, .string ⟨#[100, 98]⟩, .int .i64 1, .int .i64 20, .int .i64 4096, .int .i64 3, .int .i64 4096, .int .i64 1, .int .i64 64, .int .i64 4, .string ⟨#[]⟩] 47)).alloc (.cells #[.string ⟨#[119, 101, 98, 63]⟩, .string ⟨#[119, 42]⟩] 9)).alloc (.cells #[.string ⟨#[119, 101, 98, 115]⟩, .slice (some ⟨W4.heap.size + 1, 0, none⟩) 2 2] 53)).alloc (.cells #[.string ⟨#[97, 110, 110]⟩, .string ⟨#[120]⟩] 55)).alloc (.cells #[.string ⟨#[100, 98]⟩, .string ⟨#[97, 110, 110]⟩, .int .i64 0, .string ⟨#[42]⟩, .string ⟨#[97, 110, 110]⟩, .int .i64 2] 50)).heap[w.heap.size]? = some (.cells #[.slice none 0 0, .slice none 0 0, .slice none 0 0, .slice none 0 0, .string ⟨#[]⟩, .string ⟨#[]⟩, .string ⟨#[]⟩, .string ⟨#[]⟩, .string ⟨#[]⟩, .string ⟨#[]⟩, .string ⟨#[]⟩, .string ⟨#[]⟩, .string ⟨#[]⟩, .string ⟨#[]⟩] 28 (0, 0)) := at_old _ _ (at_old _ _ (at_old _ _ (at_old _ _ (at_old _ _ C4.hz))))
    have cz0 := (at_cell hzX 0 : _ = some (Value.slice none 0 0))
    have cz1 := (at_cell hzX 1 : _ = some (Value.slice none 0 0))
    have cz2 := (at_cell hzX 2 : _ = some (Value.slice none 0 0))
    have cz3 := (at_cell hzX 3 : _ = some (Value.slice none 0 0))
    have cz4 := (at_cell hzX 4 : _ = some (Value.string ⟨#[]⟩))
    have cz5 := (at_cell hzX 5 : _ = some (Value.string ⟨#[]⟩))
    have cz6 := (at_cell hzX 6 : _ = some (Value.string ⟨#[]⟩))
    have cz7 := (at_cell hzX 7 : _ = some (Value.string ⟨#[]⟩))
    have cz8 := (at_cell hzX 8 : _ = some (Value.string ⟨#[]⟩))
    have cz9 := (at_cell hzX 9 : _ = some (Value.string ⟨#[]⟩))
    have cz10 := (at_cell hzX 10 : _ = some (Value.string ⟨#[]⟩))
    have cz11 := (at_cell hzX 11 : _ = some (Value.string ⟨#[]⟩))
    have cz12 := (at_cell hzX 12 : _ = some (Value.string ⟨#[]⟩))
    have cz13 := (at_cell hzX 13 : _ = some (Value.string ⟨#[]⟩))
    have fz0 := at_frozen hzX 0
    have fz1 := at_frozen hzX 1
    have fz2 := at_frozen hzX 2
    have fz3 := at_frozen hzX 3
    have fz4 := at_frozen hzX 4
    have fz5 := at_frozen hzX 5
    have fz6 := at_frozen hzX 6
    have fz7 := at_frozen hzX 7
    have fz8 := at_frozen hzX 8
    have fz9 := at_frozen hzX 9
    have fz10 := at_frozen hzX 10
    have fz11 := at_frozen hzX 11
    have fz12 := at_frozen hzX 12
    have fz13 := at_frozen hzX 13
    have HZX := Lib.hid hzX
    clear hzX
    have HC4 := Lib.hid C4
    have lz := at_lt C4.hz
    clear C4
    go_wp2_with fail
    clear ca0 ca1 ca2 ca3 ca4 ca5 ca6 ca7 ca8 ca9 cb0 cb1 cb2 cb3 cb4 cb5 cb6 cb7 cb8 cb9 cc0 cc1 cc2 cc3 cc4 cc5 cc6 cc7 cc8 cc9 cz0 cz1 cz2 cz3 cz4 cz5 cz6 cz7 cz8 cz9 cz10 cz11 cz12 cz13 fz0 fz1 fz2 fz3 fz4 fz5 fz6 fz7 fz8 fz9 fz10 fz11 fz12 fz13
    have F := fin5 (X := (((((W4.alloc (.cells #[.string ⟨#[119, 101, 98, 49]⟩, .int .i64 1, .int .i64 20, .int .i64 4096, .int .i64 3, .int .i64 4096, .int .i64 1, .int .i64 64, .int .i64 4, .string ⟨#[]⟩, .string ⟨#[119, 101, 98, 50]⟩, .int .i64 1, .int .i64 20, .int .i64 4096, .int .i64 3, .int .i64 4096, .int .i64 1, .int .i64 64, .int .i64 4, .string ⟨#[]⟩, .string ⟨#[100, 98]⟩, .int .i64 1, .int .i64 20, .int .i64 4096, .int .i64 3, .int .i64 4096, .int .i64 1, .int .i64 64, .int .i64 4, .string ⟨#[]⟩] 47)).alloc (.cells #[.string ⟨#[119, 101, 98, 63]⟩, .string ⟨#[119, 42]⟩] 9)).alloc (.cells #[.string ⟨#[119, 101, 98, 115]⟩, .slice (some ⟨W4.heap.size + 1, 0, none⟩) 2 2] 53)).alloc (.cells #[.string ⟨#[97, 110, 110]⟩, .string ⟨#[120]⟩] 55)).alloc (.cells #[.string ⟨#[100, 98]⟩, .string ⟨#[97, 110, 110]⟩, .int .i64 0, .string ⟨#[42]⟩, .string ⟨#[97, 110, 110]⟩, .int .i64 2] 50))) rfl (at_lt HC4.out.hz) HZX.out
    have HBW := HC4.out.below
    clear HZX HC4
    generalize (((((((((((((((((((W4.alloc (.cells #[.string ⟨#[119, 101, 98, 49]⟩, .int .i64 1, .int .i64 20, .int .i64 4096, .int .i64 3, .int .i64 4096, .int .i64 1, .int .i64 64, .int .i64 4, .string ⟨#[]⟩, .string ⟨#[119, 101, 98, 50]⟩, .int .i64 1, .int .i64 20, .int .i64 4096, .int .i64 3, .int .i64 4096, .int .i64 1, .int .i64 64, .int .i64 4, .string ⟨#[]⟩, .string ⟨#[100, 98]⟩, .int .i64 1, .int .i64 20, .int .i64 4096, .int .i64 3, .int .i64 4096, .int .i64 1, .int .i64 64, .int .i64 4, .string ⟨#[]⟩] 47)).alloc (.cells #[.string ⟨#[119, 101, 98, 63]⟩, .string ⟨#[119, 42]⟩] 9)).alloc (.cells #[.string ⟨#[119, 101, 98, 115]⟩, .slice (some ⟨W4.heap.size + 1, 0, none⟩) 2 2] 53)).alloc (.cells #[.string ⟨#[97, 110, 110]⟩, .string ⟨#[120]⟩] 55)).alloc (.cells #[.string ⟨#[100, 98]⟩, .string ⟨#[97, 110, 110]⟩, .int .i64 0, .string ⟨#[42]⟩, .string ⟨#[97, 110, 110]⟩, .int .i64 2] 50)).setCell ⟨w.heap.size, 0, none⟩ (.slice (some ⟨W4.heap.size, 0, none⟩) 3 3)).setCell ⟨w.heap.size, 1, none⟩ (.slice (some ⟨W4.heap.size + 1 + 1, 0, none⟩) 1 1)).setCell ⟨w.heap.size, 2, none⟩ (.slice (some ⟨W4.heap.size + 1 + 1 + 1, 0, none⟩) 1 1)).setCell ⟨w.heap.size, 3, none⟩ (.slice (some ⟨W4.heap.size + 1 + 1 + 1 + 1, 0, none⟩) 2 2)).setCell ⟨w.heap.size, 4, none⟩ (.string ⟨#[]⟩)).setCell ⟨w.heap.size, 5, none⟩ (.string ⟨#[]⟩)).setCell ⟨w.heap.size, 6, none⟩ (.string ⟨#[]⟩)).setCell ⟨w.heap.size, 7, none⟩ (.string ⟨#[]⟩)).setCell ⟨w.heap.size, 8, none⟩ (.string ⟨#[]⟩)).setCell ⟨w.heap.size, 9, none⟩ (.string ⟨#[]⟩)).setCell ⟨w.heap.size, 10, none⟩ (.string ⟨#[]⟩)).setCell ⟨w.heap.size, 11, none⟩ (.string ⟨#[]⟩)).setCell ⟨w.heap.size, 12, none⟩ (.string ⟨#[]⟩)).setCell ⟨w.heap.size, 13, none⟩ (.string ⟨#[]⟩)) = Y at F ⊢
    have cy0 := (at_cell F.nz 0 : _ = some (Value.slice (some ⟨W4.heap.size, 0, none⟩) 3 3))
    have cy1 := (at_cell F.nz 1 : _ = some (Value.slice (some ⟨W4.heap.size + 1 + 1, 0, none⟩) 1 1))
    have cy2 := (at_cell F.nz 2 : _ = some (Value.slice (some ⟨W4.heap.size + 1 + 1 + 1, 0, none⟩) 1 1))
    have cy3 := (at_cell F.nz 3 : _ = some (Value.slice (some ⟨W4.heap.size + 1 + 1 + 1 + 1, 0, none⟩) 2 2))
    have cy4 := (at_cell F.nz 4 : _ = some (Value.string ⟨#[]⟩))
    have cy5 := (at_cell F.nz 5 : _ = some (Value.string ⟨#[]⟩))
    have cy6 := (at_cell F.nz 6 : _ = some (Value.string ⟨#[]⟩))
    have cy7 := (at_cell F.nz 7 : _ = some (Value.string ⟨#[]⟩))
    have cy8 := (at_cell F.nz 8 : _ = some (Value.string ⟨#[]⟩))
    have cy9 := (at_cell F.nz 9 : _ = some (Value.string ⟨#[]⟩))
    have cy10 := (at_cell F.nz 10 : _ = some (Value.string ⟨#[]⟩))
    have cy11 := (at_cell F.nz 11 : _ = some (Value.string ⟨#[]⟩))
    have cy12 := (at_cell F.nz 12 : _ = some (Value.string ⟨#[]⟩))
    have cy13 := (at_cell F.nz 13 : _ = some (Value.string ⟨#[]⟩))
    have R := Lib.hid (fin5_cf F)
    have B := Lib.hid (HBW.trans F.below)
    clear F HBW
    generalize W4.heap.size + 1 + 1 + 1 + 1 = q3 at *
    generalize W4.heap.size + 1 + 1 + 1 = q2 at *
    generalize W4.heap.size + 1 + 1 = q1 at *
    refine bodyPost_ret (v := smpV W4.heap.size q1 q2 q3) ?_ rfl ⟨_, _, _, _, rfl, R.out, B.out⟩
    simp [results, Try.results29, go_sem, smpV, confV, *]
end Go.Proofs.Ytomnkmcabkoagaa.Rgt

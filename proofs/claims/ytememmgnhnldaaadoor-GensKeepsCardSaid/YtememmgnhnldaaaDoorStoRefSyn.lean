/-
  Layer 11 (store): the document's own Sync. Written by gen_storef5.py.
-/
import Derived.Test.YtememmgnhnldaaaDoorStoRefO
namespace Go.Proofs.YtememmgnhnldaaaDoor.Sto
open Go.RowKit Go.Proofs.YtememmgnhnldaaaDoor.Own
open Go.Proofs.YtememmgnhnldaaaDoor.Rw (str strs Row1 below_drew)

theorem get_open {w w' : World} {L : List Fl} {a : Bs} {e : Ending} (h : GetPost w L a e w') : ∃ nmx y S, e = .returned (.tuple #[.agg #[.string nmx, .string y, .int .i64 (S : Nat)], .bool (flk L a).isSome]) ∧ y.data.toList = (got L a).bs ∧ S = (got L a).sure ∧ Below w.heap.size w w' := by
  obtain ⟨nmv, he, hb⟩ := h
  exact ⟨⟨nmv.toArray⟩, ⟨(got L a).bs.toArray⟩, _, he, rfl, rfl, hb⟩
theorem RefA.repack {w W w5 : World} {s m b : Value} (h : RefA w W s m b) (hb : Below W.heap.size W.drew w5) : RefA w w5 s m b := h.step ⟨hb.os, hb.tape, hb.output, hb.size, hb.block⟩

set_option maxRecDepth 100000 in
set_option maxHeartbeats 4000000 in
theorem rsyn_calls (r : St) (p : Option Addr) (c n : Nat) (hn : r.L.length = n) (a : ByteArray) (hz : a.size ≤ 1000000) (hd : r.bad ≤ 9223372036854775807) (w : World) (h : Fs w p c r.L) (hr : Rise Fl.nm r.L) (hN : n ≤ 1000000) (ht : tot r.L ≤ 16777216) :
    Calls Tryd.prog 18 #[rv p n c r.most r.bad, .string a] w (RPost w p (synT r a.data.toList) (synC r a.data.toList)) := by
  obtain ⟨most, hmost⟩ : ∃ x, r.most = x := ⟨_, rfl⟩
  obtain ⟨bad, hbad⟩ : ∃ x, r.bad = x := ⟨_, rfl⟩
  have hBeg := fun W => rbegin_calls r p c n a hz hd W
  simp only [hmost, hbad] at hBeg
  replace hBeg := Lib.hid hBeg
  have HM := Lib.hid (And.intro hmost hbad)
  rw [hmost, hbad]
  have H := Lib.hid h
  have HN := Lib.hid hn
  have A0 := Lib.hid (RefA.start w (.slice p n c) (.int .i64 most) (.int .i64 bad))
  have hR := Lib.hid hr
  have hGet := Lib.hid (fun (W : World) hb => get_calls r.L p c n hn most bad a W (h.below hb) hr)
  have hWi := Lib.hid (fun (W : World) hb (z : ByteArray) (S : Nat) => with_calls r.L p c n hn hN ⟨a.data.toList, z.data.toList, S⟩ W (h.below hb))
  have HTT := Lib.hid ht
  clear h hn hmost hbad hr ht
  go_enter Tryd.func18, Tryd.ntmps18
  go_wp2_with fail
  refine (hBeg.out _).mono ?_
  rintro e w1 ⟨rfl, hb1⟩
  have A0' := Lib.hid (A0.out.step hb1)
  by_cases h0 : begC r a.data.toList = 0
  rotate_left
  · have HT : Hid (synT r a.data.toList = begT r a.data.toList ∧ synC r a.data.toList = begC r a.data.toList) := Lib.hid ⟨if_neg h0, if_neg h0⟩
    obtain ⟨code, hcode⟩ : ∃ x, begC r a.data.toList = x := ⟨_, rfl⟩
    obtain ⟨b1, hb1⟩ : ∃ x, (begT r a.data.toList).bad = x := ⟨_, rfl⟩
    have hbm : (begT r a.data.toList).most = most ∧ (begT r a.data.toList).L = r.L := by rw [← HM.out.1]; unfold begT; split <;> exact ⟨rfl, rfl⟩
    rw [hcode, hb1]
    rw [hcode] at h0
    have hcb : (code != 0) = true := by simpa using h0
    have A1 := A0'
    have n0 := (at_cell A1.out.box 0 : _ = some _)
    have n1 := (at_cell A1.out.box 1 : _ = some _)
    have n2 := (at_cell A1.out.box 2 : _ = some _)
    have nf0 := at_frozen A1.out.box 0
    have nf1 := at_frozen A1.out.box 1
    have nf2 := at_frozen A1.out.box 2
    have m0 := (at_cell A1.out.res 0 : _ = some _)
    have m1 := (at_cell A1.out.res 1 : _ = some _)
    have m2 := (at_cell A1.out.res 2 : _ = some _)
    have mf0 := at_frozen A1.out.res 0
    have mf1 := at_frozen A1.out.res 1
    have mf2 := at_frozen A1.out.res 2
    have HC := Lib.hid (And.intro hbm (And.intro hb1 hcode))
    clear hb1 hbm hcode h0
    go_wp2_with fail
    refine bodyPost_ret (v := .tuple #[rv p n c most b1, .int .i64 code]) ?_ rfl ?_
    · simp [results, Tryd.results18, go_sem, *]
    · rw [HT.out.1, HT.out.2, HC.out.2.2]
      exact RPost.same (by rw [HC.out.1.2]; exact H.out) (by rw [HC.out.1.2]; exact HN.out) HC.out.1.1 HC.out.2.1 rfl (by repeat' (first | exact A1.out.below | refine Below.setCell ?_ ?_ _ | refine Below.alloc ?_ ?_ _ | refine below_drew ?_ | exact Nat.le_refl _ | exact Nat.le_succ _ | (simp; done) | (have := A1.out.lt; simp; omega)))
  have e0 : begT r a.data.toList = r := by
    have hb := beg_nm h0
    by_cases hp : 0 < r.bad
    · rw [(begC_io hb hp).1] at h0; cases h0
    · exact (begC_ok hb hp).2
  rw [h0, e0, HM.out.2]
  have A1 := A0'
  have n0 := (at_cell A1.out.box 0 : _ = some _)
  have n1 := (at_cell A1.out.box 1 : _ = some _)
  have n2 := (at_cell A1.out.box 2 : _ = some _)
  have nf0 := at_frozen A1.out.box 0
  have nf1 := at_frozen A1.out.box 1
  have nf2 := at_frozen A1.out.box 2
  have m0 := (at_cell A1.out.res 0 : _ = some _)
  have m1 := (at_cell A1.out.res 1 : _ = some _)
  have m2 := (at_cell A1.out.res 2 : _ = some _)
  have mf0 := at_frozen A1.out.res 0
  have mf1 := at_frozen A1.out.res 1
  have mf2 := at_frozen A1.out.res 2
  go_wp2_with fail
  replace A1 := Lib.hid (A1.out.set (.slice p n c) (.int .i64 most) (.int .i64 bad))
  generalize ((w1.setCell ⟨w.heap.size, 0, none⟩ (.slice p n c)).setCell ⟨w.heap.size, 1, none⟩ (.int .i64 most)).setCell ⟨w.heap.size, 2, none⟩ (.int .i64 bad) = W at A1 ⊢
  clear n0 n1 n2 nf0 nf1 nf2 m0 m1 m2 mf0 mf1 mf2
  refine (hGet.out _ A1.out.below).mono ?_
  intro e w2 hG
  obtain ⟨nmx, y, S, rfl, hy, hS, hb2⟩ := get_open hG
  replace A1 := Lib.hid ((A1.out.step hb2).step ((Below.refl _ w2).alloc (Nat.le_refl _) (.cells #[.string nmx, .string y, .int .i64 (S : Int)] 68 (0, 0))))
  clear hG hb2 A0'
  have hys : y.size ≤ 16777216 := by
    have e1 : y.size = (got r.L a.data.toList).bs.length := by rw [← hy]; rfl
    cases hl : flk r.L a.data.toList with
    | none => rw [e1, got_none hl]; simp
    | some x => rw [e1, got_some hl]; exact Nat.le_trans (len_tot (lk_some hl).1) HTT.out
  have HY := Lib.hid (And.intro hy hS)
  clear hy hS
  have n0 := (at_cell A1.out.box 0 : _ = some _)
  have n1 := (at_cell A1.out.box 1 : _ = some _)
  have n2 := (at_cell A1.out.box 2 : _ = some _)
  have nf0 := at_frozen A1.out.box 0
  have nf1 := at_frozen A1.out.box 1
  have nf2 := at_frozen A1.out.box 2
  have m0 := (at_cell A1.out.res 0 : _ = some _)
  have m1 := (at_cell A1.out.res 1 : _ = some _)
  have m2 := (at_cell A1.out.res 2 : _ = some _)
  have mf0 := at_frozen A1.out.res 0
  have mf1 := at_frozen A1.out.res 1
  have mf2 := at_frozen A1.out.res 2
  cases hl : flk r.L a.data.toList with
  | none =>
    have HT : Hid (synT r a.data.toList = r ∧ synC r a.data.toList = 7) := Lib.hid (by unfold synT synC; rw [if_pos h0, if_pos h0, hl]; exact ⟨rfl, rfl⟩)
    go_wp2_with fail
    refine bodyPost_ret (v := .tuple #[rv p n c most bad, .int .i64 7]) ?_ rfl ?_
    · simp [results, Tryd.results18, go_sem, *]
    · rw [HT.out.1, HT.out.2]
      exact RPost.same H.out HN.out HM.out.1 HM.out.2 rfl (by repeat' (first | exact A1.out.below | refine Below.setCell ?_ ?_ _ | refine Below.alloc ?_ ?_ _ | refine below_drew ?_ | exact Nat.le_refl _ | exact Nat.le_succ _ | (simp; done) | (have := A1.out.lt; simp; omega)))
  | some x =>
    have HT : Hid (synT r a.data.toList = ⟨fpt r.L ⟨a.data.toList, (got r.L a.data.toList).bs, (got r.L a.data.toList).bs.length⟩, r.most, r.bad⟩ ∧ synC r a.data.toList = 0) := Lib.hid (by unfold synT synC; rw [if_pos h0, if_pos h0, hl]; exact ⟨rfl, rfl⟩)
    clear hl
    go_wp2_with fail
    have hWi2 := hWi.out _ A1.out.below y y.size
    rw [show (⟨a.data.toList, y.data.toList, y.size⟩ : Fl) = ⟨a.data.toList, (got r.L a.data.toList).bs, (got r.L a.data.toList).bs.length⟩ by rw [← HY.out.1]; rfl] at hWi2
    refine hWi2.mono ?_
    clear n0 n1 n2 nf0 nf1 nf2 m0 m1 m2 mf0 mf1 mf2
    clear hWi2
    rintro e w3 ⟨v3, rfl, hW3⟩
    obtain ⟨-, p3, c3, e3, -⟩ := fs_own hW3.own
    obtain ⟨n3, hn3⟩ : ∃ n3, (fpt r.L ⟨a.data.toList, (got r.L a.data.toList).bs, (got r.L a.data.toList).bs.length⟩).length = n3 := ⟨_, rfl⟩
    rw [hn3] at e3
    subst e3
    have A2 := A1
    replace A1 := Lib.hid (A1.out.step hW3.below)
    have n0 := (at_cell A1.out.box 0 : _ = some _)
    have n1 := (at_cell A1.out.box 1 : _ = some _)
    have n2 := (at_cell A1.out.box 2 : _ = some _)
    have nf0 := at_frozen A1.out.box 0
    have nf1 := at_frozen A1.out.box 1
    have nf2 := at_frozen A1.out.box 2
    have m0 := (at_cell A1.out.res 0 : _ = some _)
    have m1 := (at_cell A1.out.res 1 : _ = some _)
    have m2 := (at_cell A1.out.res 2 : _ = some _)
    have mf0 := at_frozen A1.out.res 0
    have mf1 := at_frozen A1.out.res 1
    have mf2 := at_frozen A1.out.res 2
    have HW3 := Lib.hid hW3
    clear hW3 hn3
    go_wp2_with fail
    refine bodyPost_ret (v := .tuple #[rv p3 n3 c3 most bad, .int .i64 0]) ?_ rfl ?_
    · simp [results, Tryd.results18, go_sem, *]
    · rw [HT.out.1, HT.out.2]
      refine RPost.new (r' := ⟨fpt r.L ⟨a.data.toList, (got r.L a.data.toList).bs, (got r.L a.data.toList).bs.length⟩, r.most, r.bad⟩) HW3.out A2.out.below HM.out.1 HM.out.2 rfl (.inr ⟨(by repeat' (first | exact A1.out.below | refine Below.setCell ?_ ?_ _ | refine Below.alloc ?_ ?_ _ | refine below_drew ?_ | exact Nat.le_refl _ | exact Nat.le_succ _ | (simp; done) | (have := A1.out.lt; simp; omega))), fun k h1 h2 => ?_⟩)
      have := A2.out.lt
      rw [at_set_other _ (by omega), at_set_other _ (by omega), at_set_other _ (by omega), at_set_other _ (by omega)]
end Go.Proofs.YtememmgnhnldaaaDoor.Sto

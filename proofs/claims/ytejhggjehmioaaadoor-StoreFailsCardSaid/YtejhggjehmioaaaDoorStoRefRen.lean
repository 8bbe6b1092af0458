/-
  Layer 11 (store): the document's own Rename. Written by gen_storef5.py.
-/
import Derived.Test.YtejhggjehmioaaaDoorStoRefSyn
import Derived.Deep.RegionWith
namespace Go.Proofs.YtejhggjehmioaaaDoor.Sto
open Go.RowKit Go.Proofs.YtejhggjehmioaaaDoor.Own
open Go.Proofs.YtejhggjehmioaaaDoor.Rw (str strs Row1 below_drew)

set_option maxRecDepth 100000 in
set_option maxHeartbeats 4000000 in
theorem rren_calls (r : St) (p : Option Addr) (c n : Nat) (hn : r.L.length = n) (a d : ByteArray) (hz : a.size ≤ 1000000) (hd : r.bad ≤ 9223372036854775807) (w : World) (h : Fs w p c r.L) (hr : Rise Fl.nm r.L) (hN : n ≤ 1000000) (ht : tot r.L ≤ 16777216) (hzd : d.size ≤ 1000000) :
    Calls Tryd.prog 32 #[rv p n c r.most r.bad, .string a, .string d] w (RPost w p (renT r a.data.toList d.data.toList) (renC r a.data.toList d.data.toList)) := by
  obtain ⟨most, hmost⟩ : ∃ x, r.most = x := ⟨_, rfl⟩
  obtain ⟨bad, hbad⟩ : ∃ x, r.bad = x := ⟨_, rfl⟩
  have hBeg := fun W => rbegin_calls r p c n a hz hd W
  simp only [hmost, hbad] at hBeg
  replace hBeg := Lib.hid hBeg
  have HM := Lib.hid (And.intro hmost hbad)
  rw [hmost, hbad]
  have H := Lib.hid h
  have HN := Lib.hid hn
  have A0 := Lib.hid (RefA.start w (.slice p n c) (.int .i64 most) (.int .i64 bad))
  have hR := Lib.hid hr
  have hGet := Lib.hid (fun (W : World) hb => get_calls r.L p c n hn most bad a W (h.below hb) hr)
  have hWo := Lib.hid (fun W hb => without_calls r.L p c n hn hN a W (h.below hb))
  have hNd := Lib.hid (fun W => rnamed_calls d hzd W)
  have HTT := Lib.hid ht
  clear h hn hmost hbad hr ht
  go_enter Tryd.func32, Tryd.ntmps32
  go_wp2_with fail
  refine (hBeg.out _).mono ?_
  rintro e w1 ⟨rfl, hb1⟩
  have A0' := Lib.hid (A0.out.step hb1)
  by_cases h0 : begC r a.data.toList = 0
  rotate_left
  · have HT : Hid (renT r a.data.toList d.data.toList = begT r a.data.toList ∧ renC r a.data.toList d.data.toList = begC r a.data.toList) := Lib.hid ⟨if_neg h0, if_neg h0⟩
    obtain ⟨code, hcode⟩ : ∃ x, begC r a.data.toList = x := ⟨_, rfl⟩
    obtain ⟨b1, hb1⟩ : ∃ x, (begT r a.data.toList).bad = x := ⟨_, rfl⟩
    have hbm : (begT r a.data.toList).most = most ∧ (begT r a.data.toList).L = r.L := by rw [← HM.out.1]; unfold begT; split <;> exact ⟨rfl, rfl⟩
    rw [hcode, hb1]
    rw [hcode] at h0
    have hcb : (code != 0) = true := by simpa using h0
    have A1 := A0'
    have n0 := (at_cell A1.out.box 0 : _ = some _)
    have n1 := (at_cell A1.out.box 1 : _ = some _)
    have n2 := (at_cell A1.out.box 2 : _ = some _)
    have nf0 := at_frozen A1.out.box 0
    have nf1 := at_frozen A1.out.box 1
    have nf2 := at_frozen A1.out.box 2
    have m0 := (at_cell A1.out.res 0 : _ = some _)
    have m1 := (at_cell A1.out.res 1 : _ = some _)
    have m2 := (at_cell A1.out.res 2 : _ = some _)
    have mf0 := at_frozen A1.out.res 0
    have mf1 := at_frozen A1.out.res 1
    have mf2 := at_frozen A1.out.res 2
    have HC := Lib.hid (And.intro hbm (And.intro hb1 hcode))
    clear hb1 hbm hcode h0
    go_wp2_with fail
    refine bodyPost_ret (v := .tuple #[rv p n c most b1, .int .i64 code]) ?_ rfl ?_
    · simp [results, Tryd.results32, go_sem, *]
    · rw [HT.out.1, HT.out.2, HC.out.2.2]
      exact RPost.same (by rw [HC.out.1.2]; exact H.out) (by rw [HC.out.1.2]; exact HN.out) HC.out.1.1 HC.out.2.1 rfl (by repeat' (first | exact A1.out.below | refine Below.setCell ?_ ?_ _ | refine Below.alloc ?_ ?_ _ | refine below_drew ?_ | exact Nat.le_refl _ | exact Nat.le_succ _ | (simp; done) | (have := A1.out.lt; simp; omega)))
  have e0 : begT r a.data.toList = r := by
    have hb := beg_nm h0
    by_cases hp : 0 < r.bad
    · rw [(begC_io hb hp).1] at h0; cases h0
    · exact (begC_ok hb hp).2
  rw [h0, e0, HM.out.2]
  have A1 := A0'
  have n0 := (at_cell A1.out.box 0 : _ = some _)
  have n1 := (at_cell A1.out.box 1 : _ = some _)
  have n2 := (at_cell A1.out.box 2 : _ = some _)
  have nf0 := at_frozen A1.out.box 0
  have nf1 := at_frozen A1.out.box 1
  have nf2 := at_frozen A1.out.box 2
  have m0 := (at_cell A1.out.res 0 : _ = some _)
  have m1 := (at_cell A1.out.res 1 : _ = some _)
  have m2 := (at_cell A1.out.res 2 : _ = some _)
  have mf0 := at_frozen A1.out.res 0
  have mf1 := at_frozen A1.out.res 1
  have mf2 := at_frozen A1.out.res 2
  go_wp2_with fail
  replace A1 := Lib.hid (A1.out.set (.slice p n c) (.int .i64 most) (.int .i64 bad))
  generalize ((w1.setCell ⟨w.heap.size, 0, none⟩ (.slice p n c)).setCell ⟨w.heap.size, 1, none⟩ (.int .i64 most)).setCell ⟨w.heap.size, 2, none⟩ (.int .i64 bad) = W at A1 ⊢
  clear n0 n1 n2 nf0 nf1 nf2 m0 m1 m2 mf0 mf1 mf2
  have n0 := (at_cell A1.out.box 0 : _ = some _)
  have n1 := (at_cell A1.out.box 1 : _ = some _)
  have n2 := (at_cell A1.out.box 2 : _ = some _)
  have nf0 := at_frozen A1.out.box 0
  have nf1 := at_frozen A1.out.box 1
  have nf2 := at_frozen A1.out.box 2
  have m0 := (at_cell A1.out.res 0 : _ = some _)
  have m1 := (at_cell A1.out.res 1 : _ = some _)
  have m2 := (at_cell A1.out.res 2 : _ = some _)
  have mf0 := at_frozen A1.out.res 0
  have mf1 := at_frozen A1.out.res 1
  have mf2 := at_frozen A1.out.res 2
  clear A0'
  have hNd2 := hNd.out W
  cases hd : isNm d.data.toList with
  | false =>
    rw [hd] at hNd2
    have HT : Hid (renT r a.data.toList d.data.toList = r ∧ renC r a.data.toList d.data.toList = 1) := Lib.hid (by unfold renT renC; rw [if_pos h0, if_pos h0, hd]; simp)
    refine hNd2.mono ?_
    rintro e w' ⟨rfl, rfl⟩
    clear hNd2 hd
    go_wp2_with fail
    refine bodyPost_ret (v := .tuple #[rv p n c most bad, .int .i64 1]) ?_ rfl ?_
    · simp [results, Tryd.results32, go_sem, *]
    · rw [HT.out.1, HT.out.2]
      exact RPost.same H.out HN.out HM.out.1 HM.out.2 rfl (by repeat' (first | exact A1.out.below | refine Below.setCell ?_ ?_ _ | refine Below.alloc ?_ ?_ _ | refine below_drew ?_ | exact Nat.le_refl _ | exact Nat.le_succ _ | (simp; done) | (have := A1.out.lt; simp; omega)))
  | true =>
    rw [hd] at hNd2
    refine hNd2.mono ?_
    rintro e w' ⟨rfl, rfl⟩
    have hd' := Lib.hid hd
    clear hNd2 hd
    go_wp2_with fail
    refine (hGet.out _ A1.out.below).mono ?_
    clear n0 n1 n2 nf0 nf1 nf2 m0 m1 m2 mf0 mf1 mf2
    intro e w2 hG
    obtain ⟨nmx, y, S, rfl, hy, hS, hb2⟩ := get_open hG
    have A9 := Lib.hid (A1.out.step hb2)
    replace A1 := Lib.hid ((A1.out.step hb2).step ((Below.refl _ w2).alloc (Nat.le_refl _) (.cells #[.string nmx, .string y, .int .i64 (S : Int)] 76 (0, 0))))
    clear hG hb2
    have HY := Lib.hid (And.intro hy hS)
    clear hy hS
    have n0 := (at_cell A1.out.box 0 : _ = some _)
    have n1 := (at_cell A1.out.box 1 : _ = some _)
    have n2 := (at_cell A1.out.box 2 : _ = some _)
    have nf0 := at_frozen A1.out.box 0
    have nf1 := at_frozen A1.out.box 1
    have nf2 := at_frozen A1.out.box 2
    have m0 := (at_cell A1.out.res 0 : _ = some _)
    have m1 := (at_cell A1.out.res 1 : _ = some _)
    have m2 := (at_cell A1.out.res 2 : _ = some _)
    have mf0 := at_frozen A1.out.res 0
    have mf1 := at_frozen A1.out.res 1
    have mf2 := at_frozen A1.out.res 2
    cases hl : flk r.L a.data.toList with
    | none =>
      have HT : Hid (renT r a.data.toList d.data.toList = r ∧ renC r a.data.toList d.data.toList = 7) := Lib.hid (by unfold renT renC; rw [if_pos h0, if_pos h0, hl, hd'.out]; simp)
      go_wp2_with fail
      refine bodyPost_ret (v := .tuple #[rv p n c most bad, .int .i64 7]) ?_ rfl ?_
      · simp [results, Tryd.results32, go_sem, *]
      · rw [HT.out.1, HT.out.2]
        exact RPost.same H.out HN.out HM.out.1 HM.out.2 rfl (by repeat' (first | exact A1.out.below | refine Below.setCell ?_ ?_ _ | refine Below.alloc ?_ ?_ _ | refine below_drew ?_ | exact Nat.le_refl _ | exact Nat.le_succ _ | (simp; done) | (have := A1.out.lt; simp; omega)))
    | some x =>
      have HT : Hid (renT r a.data.toList d.data.toList = ⟨fpt (fwo r.L a.data.toList) ⟨d.data.toList, (got r.L a.data.toList).bs, (got r.L a.data.toList).sure⟩, r.most, r.bad⟩ ∧ renC r a.data.toList d.data.toList = 0) := Lib.hid (by unfold renT renC; rw [if_pos h0, if_pos h0, hl, hd'.out]; simp)
      clear hl
      go_wp2_with fail
      obtain ⟨N9, hN9⟩ : ∃ N9, w2.heap.size = N9 := ⟨_, rfl⟩
      have a9 := at_newk w2 (.cells #[.string nmx, .string y, .int .i64 (S : Int)] 76 (0, 0)) hN9.symm
      rw [hN9]
      have h9 : w.heap.size + 1 < N9 := by rw [← hN9]; exact A9.out.lt
      generalize w2.alloc (.cells #[.string nmx, .string y, .int .i64 (S : Int)] 76 (0, 0)) = W3 at *
      have d1 := (at_cell a9 1 : _ = some _)
      have d2 := (at_cell a9 2 : _ = some _)
      have d0l := at_lt a9
      have b0l := at_lt A1.out.box
      clear m0 m1 m2 mf0 mf1 mf2 n1 n2 nf1 nf2 hN9 A9
      go_region_with (first
        | (go_at_call 50; refine (hWo.out _ (by first | exact A1.out.below | exact below_drew A1.out.below)).mono ?_; rintro e w6 ⟨v6, rfl, hW6⟩
           obtain ⟨hn6, p6, c6, rfl, hF6, -⟩ := fs_own hW6.own
           obtain ⟨n6, hn6'⟩ : ∃ n6, (fwo r.L a.data.toList).length = n6 := ⟨_, rfl⟩
           rw [hn6']
           have d61 := (hW6.below.cell (p := ⟨N9, 1, none⟩) d0l).trans d1
           have d62 := (hW6.below.cell (p := ⟨N9, 2, none⟩) d0l).trans d2
           have A6 := Lib.hid (A1.out.repack hW6.below)
           have HF6 := Lib.hid hF6
           have HN6 := Lib.hid hn6'
           have s6 := hW6.below.size
           clear hn6 hF6 hn6' hW6)
        | (go_at_call 49; refine (with_calls (fwo r.L a.data.toList) p6 c6 n6 HN6.out (by have := wo_len (nm := Fl.nm) r.L a.data.toList; rw [← HN6.out]; have := HN.out; unfold fwo; omega) ⟨d.data.toList, y.data.toList, S⟩ _ (HF6.out.below (by first | exact Below.refl _ _ | exact below_drew (Below.refl _ _)))).mono ?_; rintro e w7 ⟨v7, rfl, hW7⟩
           obtain ⟨-, p7, c7, e7, -⟩ := fs_own hW7.own
           obtain ⟨n7, hn7⟩ : ∃ n7, (fpt (fwo r.L a.data.toList) ⟨d.data.toList, y.data.toList, S⟩).length = n7 := ⟨_, rfl⟩
           rw [hn7] at e7
           subst e7
           have A7 := Lib.hid (A6.out.step hW7.below)
           have n0' := (at_cell A7.out.box 0 : _ = some _)
           have nf0' := at_frozen A7.out.box 0
           have HW7 := Lib.hid hW7
           clear hW7 hn7))
      all_goals
        have HZ := Lib.hid (RPost.new (p := p) (r' := ⟨fpt (fwo r.L a.data.toList) ⟨d.data.toList, (got r.L a.data.toList).bs, (got r.L a.data.toList).sure⟩, r.most, r.bad⟩) (w := w) (by
          have e := HW7.out
          rw [HY.out.1, HY.out.2] at e
          exact e) A6.out.below HM.out.1 HM.out.2 (e := .returned (.tuple #[rv p7 n7 c7 most bad, .int .i64 0])) rfl (.inr ⟨A7.out.below.setCell (p := ⟨w.heap.size, 0, none⟩) (Nat.le_refl _) (.slice p7 n7 c7) |>.setCell (p := ⟨w.heap.size + 1, 0, none⟩) (Nat.le_succ _) (.slice p7 n7 c7) |>.setCell (p := ⟨w.heap.size + 1, 1, none⟩) (Nat.le_succ _) (.int .i64 most) |>.setCell (p := ⟨w.heap.size + 1, 2, none⟩) (Nat.le_succ _) (.int .i64 bad), fun k h1 h2 => by
            have := A6.out.lt
            rw [at_set_other _ (by omega), at_set_other _ (by omega), at_set_other _ (by omega), at_set_other _ (by omega)]⟩))
        have m0 := (at_cell A7.out.res 0 : _ = some _)
        have m1 := (at_cell A7.out.res 1 : _ = some _)
        have m2 := (at_cell A7.out.res 2 : _ = some _)
        have mf0 := at_frozen A7.out.res 0
        have mf1 := at_frozen A7.out.res 1
        have mf2 := at_frozen A7.out.res 2
        have n1' := (at_cell A7.out.box 1 : _ = some _)
        have n2' := (at_cell A7.out.box 2 : _ = some _)
        clear HW7 HY hd' hBeg hGet hWo hNd HF6 HN6 A0 hR HTT a9 d0l b0l n0 nf0 s6
        go_wp2_with fail
        refine bodyPost_ret (v := .tuple #[rv p7 n7 c7 most bad, .int .i64 0]) ?_ rfl ?_
        · simp [results, Tryd.results32, go_sem, *]
        · rw [HT.out.1, HT.out.2]; exact HZ.out
end Go.Proofs.YtejhggjehmioaaaDoor.Sto

/-
  Layer 11 (store): the document's own Append, Sync, Remove, Rename. Written by gen_storef5.py.
-/
import Derived.Test.YtejhggjehmioaaaDoorStoRef4
import Derived.Deep.RegionHeld3
namespace Go.Proofs.YtejhggjehmioaaaDoor.Sto
open Go.RowKit Go.Proofs.YtejhggjehmioaaaDoor.Own
open Go.Proofs.YtejhggjehmioaaaDoor.Rw (str strs Row1 below_drew)

/-- what a call of the document's leaves -/
def RPost (w : World) (p : Option Addr) (r' : St) (code : Int) (e : Ending) (w' : World) : Prop :=
  ∃ p' c', e = .returned (.tuple #[rv p' r'.L.length c' r'.most r'.bad, .int .i64 code]) ∧ Fs w' p' c' r'.L ∧ Below w.heap.size w w' ∧ (p' = p ∨ ∀ b o, p' = some ⟨b, o, none⟩ → w.heap.size ≤ b ∧ b < w'.heap.size)
theorem RPost.same {w w' : World} {p : Option Addr} {c n : Nat} {r : St} {most bad code : Int} {e : Ending} (hF : Fs w p c r.L) (hn : r.L.length = n) (hm : r.most = most) (hd : r.bad = bad) (he : e = .returned (.tuple #[rv p n c most bad, .int .i64 code])) (hb : Below w.heap.size w w') : RPost w p r code e w' := by
  subst hn hm hd
  exact ⟨p, c, he, hF.below hb, hb, .inl rfl⟩
theorem RPost.new {w W w2 w' : World} {p p' : Option Addr} {c' n : Nat} {r' : St} {most bad : Int} {e : Ending} (hW : WoAt W w2 r'.L (.slice p' n c')) (hbW : Below w.heap.size w W) (hm : r'.most = most) (hd : r'.bad = bad) (he : e = .returned (.tuple #[rv p' n c' most bad, .int .i64 0]))
    (hb : Below w2.heap.size w2 w' ∨ (Below w.heap.size w w' ∧ ∀ k, W.heap.size ≤ k → k < w2.heap.size → w'.heap[k]? = w2.heap[k]?)) : RPost w p r' 0 e w' := by
  subst hm hd
  obtain ⟨-, p2, c2, e2, hF, hB⟩ := fs_own hW.own
  cases e2
  have hsz := hbW.size
  have h2 := hbW.trans (hW.below.mono hsz)
  have hlt : ∀ b o, p' = some ⟨b, o, none⟩ → b < w'.heap.size := fun b o h => by
    have hb2 := World.ownsRow.lt hW.own b (by rw [h]; rfl)
    rcases hb with hb | ⟨_, hk⟩
    · exact Nat.lt_of_lt_of_le hb2.2 hb.size
    · have hs := hk b hb2.1 hb2.2
      have h3 := Array.getElem?_eq_getElem hb2.2
      rw [← hs] at h3
      exact (Array.getElem?_eq_some_iff.1 h3).1
  refine ⟨p', c', he, ?_, ?_, .inr fun b o h => ⟨Nat.le_trans hsz (hB b o h), hlt b o h⟩⟩
  · rcases hb with hb | ⟨hb, hk⟩
    · exact hF.below hb
    · refine ⟨hF.cap, hF.max, hF.nil, hF.cells.imp id fun ⟨b, o, e, hl, k⟩ => ?_⟩
      have hs := hk b (hB b o e) hl
      refine ⟨b, o, e, ?_, fun j u hu => (World.cell?_of_block (a := ⟨b, o + j, none⟩) hs).trans (k j u hu)⟩
      have h3 := Array.getElem?_eq_getElem hl
      rw [← hs] at h3
      exact (Array.getElem?_eq_some_iff.1 h3).1
  · rcases hb with hb | ⟨hb, _⟩
    · exact h2.trans (hb.mono h2.size)
    · exact hb
/-- the boxes of such a call, behind what is told ahead -/
structure RefA (w w1 : World) (s m b : Value) : Prop where
  box : w1.heap[w.heap.size]? = some (.cells #[s, m, b] 33 (0, 0))
  res : w1.heap[w.heap.size + 1]? = some (.cells #[.slice none 0 0, .int .i64 0, .int .i64 0] 33 (0, 0))
  below : Below w.heap.size w w1
theorem RefA.lt {w w1 : World} {s m b : Value} (h : RefA w w1 s m b) : w.heap.size + 1 < w1.heap.size := at_lt h.res
theorem RefA.start (w : World) (s m b : Value) : RefA w ((w.alloc (.cells #[s, m, b] 33 (0, 0))).alloc (.cells #[.slice none 0 0, .int .i64 0, .int .i64 0] 33 (0, 0))) s m b :=
  ⟨at_old _ _ (at_new _ _), at_newk _ _ (by simp), ((Below.refl _ _).alloc (Nat.le_refl _) _).alloc (by simp) _⟩
theorem RefA.step {w w1 w2 : World} {s m b : Value} (h : RefA w w1 s m b) (hb : Below w1.heap.size w1 w2) : RefA w w2 s m b :=
  ⟨(hb.block _ (at_lt h.box)).trans h.box, (hb.block _ (at_lt h.res)).trans h.res, h.below.trans (hb.mono h.below.size)⟩
theorem RefA.set {w w1 : World} {s m b : Value} (h : RefA w w1 s m b) (s' m' b' : Value) : RefA w (((w1.setCell ⟨w.heap.size, 0, none⟩ s').setCell ⟨w.heap.size, 1, none⟩ m').setCell ⟨w.heap.size, 2, none⟩ b') s' m' b' := by
  refine ⟨?_, ?_, ((h.below.setCell (p := ⟨_, _, _⟩) (Nat.le_refl _) _).setCell (p := ⟨_, _, _⟩) (Nat.le_refl _) _).setCell (p := ⟨_, _, _⟩) (Nat.le_refl _) _⟩
  · have e1 := at_set h.box 0 s'
    have e2 := at_set e1 1 m'
    have e3 := at_set e2 2 b'
    simpa using e3
  · rw [at_set_other _ (by omega), at_set_other _ (by omega), at_set_other _ (by omega)]; exact h.res

set_option maxRecDepth 100000 in
set_option maxHeartbeats 4000000 in
theorem rrem_calls (r : St) (p : Option Addr) (c n : Nat) (hn : r.L.length = n) (a : ByteArray) (hz : a.size ≤ 1000000) (hd : r.bad ≤ 9223372036854775807) (w : World) (h : Fs w p c r.L) (hr : Rise Fl.nm r.L) (hN : n ≤ 1000000) :
    Calls Tryd.prog 33 #[rv p n c r.most r.bad, .string a] w (RPost w p (remT r a.data.toList) (remC r a.data.toList)) := by
  obtain ⟨most, hmost⟩ : ∃ x, r.most = x := ⟨_, rfl⟩
  obtain ⟨bad, hbad⟩ : ∃ x, r.bad = x := ⟨_, rfl⟩
  have hBeg := fun W => rbegin_calls r p c n a hz hd W
  simp only [hmost, hbad] at hBeg
  replace hBeg := Lib.hid hBeg
  have HM := Lib.hid (And.intro hmost hbad)
  rw [hmost, hbad]
  have H := Lib.hid h
  have HN := Lib.hid hn
  have A0 := Lib.hid (RefA.start w (.slice p n c) (.int .i64 most) (.int .i64 bad))
  have hR := Lib.hid hr
  have hWo := Lib.hid (fun W hb => without_calls r.L p c n hn hN a W (h.below hb))
  have hPl := Lib.hid (fun (W : World) hb => place_calls r.L p c n hn most bad a W (h.below hb))
  clear h hn hmost hbad hr
  go_enter Tryd.func33, Tryd.ntmps33
  go_wp2_with fail
  refine (hBeg.out _).mono ?_
  rintro e w1 ⟨rfl, hb1⟩
  have A0' := Lib.hid (A0.out.step hb1)
  by_cases h0 : begC r a.data.toList = 0
  rotate_left
  · have HT : Hid (remT r a.data.toList = begT r a.data.toList ∧ remC r a.data.toList = begC r a.data.toList) := Lib.hid ⟨if_neg h0, if_neg h0⟩
    obtain ⟨code, hcode⟩ : ∃ x, begC r a.data.toList = x := ⟨_, rfl⟩
    obtain ⟨b1, hb1⟩ : ∃ x, (begT r a.data.toList).bad = x := ⟨_, rfl⟩
    have hbm : (begT r a.data.toList).most = most ∧ (begT r a.data.toList).L = r.L := by rw [← HM.out.1]; unfold begT; split <;> exact ⟨rfl, rfl⟩
    rw [hcode, hb1]
    rw [hcode] at h0
    have hcb : (code != 0) = true := by simpa using h0
    have A1 := A0'
    have n0 := (at_cell A1.out.box 0 : _ = some _)
    have n1 := (at_cell A1.out.box 1 : _ = some _)
    have n2 := (at_cell A1.out.box 2 : _ = some _)
    have nf0 := at_frozen A1.out.box 0
    have nf1 := at_frozen A1.out.box 1
    have nf2 := at_frozen A1.out.box 2
    have m0 := (at_cell A1.out.res 0 : _ = some _)
    have m1 := (at_cell A1.out.res 1 : _ = some _)
    have m2 := (at_cell A1.out.res 2 : _ = some _)
    have mf0 := at_frozen A1.out.res 0
    have mf1 := at_frozen A1.out.res 1
    have mf2 := at_frozen A1.out.res 2
    have HC := Lib.hid (And.intro hbm (And.intro hb1 hcode))
    clear hb1 hbm hcode h0
    go_wp2_with fail
    refine bodyPost_ret (v := .tuple #[rv p n c most b1, .int .i64 code]) ?_ rfl ?_
    · simp [results, Tryd.results33, go_sem, *]
    · rw [HT.out.1, HT.out.2, HC.out.2.2]
      exact RPost.same (by rw [HC.out.1.2]; exact H.out) (by rw [HC.out.1.2]; exact HN.out) HC.out.1.1 HC.out.2.1 rfl (by repeat' (first | exact A1.out.below | refine Below.setCell ?_ ?_ _ | refine Below.alloc ?_ ?_ _ | refine below_drew ?_ | exact Nat.le_refl _ | exact Nat.le_succ _ | (simp; done) | (have := A1.out.lt; simp; omega)))
  have e0 : begT r a.data.toList = r := by
    have hb := beg_nm h0
    by_cases hp : 0 < r.bad
    · rw [(begC_io hb hp).1] at h0; cases h0
    · exact (begC_ok hb hp).2
  rw [h0, e0, HM.out.2]
  have A1 := A0'
  have n0 := (at_cell A1.out.box 0 : _ = some _)
  have n1 := (at_cell A1.out.box 1 : _ = some _)
  have n2 := (at_cell A1.out.box 2 : _ = some _)
  have nf0 := at_frozen A1.out.box 0
  have nf1 := at_frozen A1.out.box 1
  have nf2 := at_frozen A1.out.box 2
  have m0 := (at_cell A1.out.res 0 : _ = some _)
  have m1 := (at_cell A1.out.res 1 : _ = some _)
  have m2 := (at_cell A1.out.res 2 : _ = some _)
  have mf0 := at_frozen A1.out.res 0
  have mf1 := at_frozen A1.out.res 1
  have mf2 := at_frozen A1.out.res 2
  go_wp2_with fail
  refine (hPl.out _ (by repeat' (first | exact A1.out.below | refine Below.setCell ?_ ?_ _ | refine Below.alloc ?_ ?_ _ | refine below_drew ?_ | exact Nat.le_refl _ | exact Nat.le_succ _ | (simp; done) | (have := A1.out.lt; simp; omega)))).mono ?_
  clear n0 n1 n2 nf0 nf1 nf2 m0 m1 m2 mf0 mf1 mf2
  rintro e w2 ⟨k, rfl, hb2, hk⟩
  replace A1 := Lib.hid ((A1.out.set (.slice p n c) (.int .i64 most) (.int .i64 bad)).step hb2)
  clear hb2 A0'
  have n0 := (at_cell A1.out.box 0 : _ = some _)
  have n1 := (at_cell A1.out.box 1 : _ = some _)
  have n2 := (at_cell A1.out.box 2 : _ = some _)
  have nf0 := at_frozen A1.out.box 0
  have nf1 := at_frozen A1.out.box 1
  have nf2 := at_frozen A1.out.box 2
  have m0 := (at_cell A1.out.res 0 : _ = some _)
  have m1 := (at_cell A1.out.res 1 : _ = some _)
  have m2 := (at_cell A1.out.res 2 : _ = some _)
  have mf0 := at_frozen A1.out.res 0
  have mf1 := at_frozen A1.out.res 1
  have mf2 := at_frozen A1.out.res 2
  rcases plat_lk hR.out hk with ⟨rfl, hl⟩ | ⟨i, hi, rfl, hl⟩
  · have HT : Hid (remT r a.data.toList = r ∧ remC r a.data.toList = 7) := Lib.hid (by unfold remT remC; rw [if_pos h0, if_pos h0, hl]; exact ⟨rfl, rfl⟩)
    clear hl hk
    go_wp2_with fail
    refine bodyPost_ret (v := .tuple #[rv p n c most bad, .int .i64 7]) ?_ rfl ?_
    · simp [results, Tryd.results33, go_sem, *]
    · rw [HT.out.1, HT.out.2]
      exact RPost.same H.out HN.out HM.out.1 HM.out.2 rfl (by repeat' (first | exact A1.out.below | refine Below.setCell ?_ ?_ _ | refine Below.alloc ?_ ?_ _ | refine below_drew ?_ | exact Nat.le_refl _ | exact Nat.le_succ _ | (simp; done) | (have := A1.out.lt; simp; omega)))
  · have HT : Hid (remT r a.data.toList = ⟨fwo r.L a.data.toList, r.most, r.bad⟩ ∧ remC r a.data.toList = 0) := Lib.hid (by unfold remT remC; rw [if_pos h0, if_pos h0, hl]; exact ⟨rfl, rfl⟩)
    clear hl hk
    have q1 : ¬ (i : Int) < 0 := by omega
    go_wp2_with fail
    refine (hWo.out _ (by repeat' (first | exact A1.out.below | refine Below.setCell ?_ ?_ _ | refine Below.alloc ?_ ?_ _ | refine below_drew ?_ | exact Nat.le_refl _ | exact Nat.le_succ _ | (simp; done) | (have := A1.out.lt; simp; omega)))).mono ?_
    clear n0 n1 n2 nf0 nf1 nf2 m0 m1 m2 mf0 mf1 mf2
    rintro e w3 ⟨v3, rfl, hW3⟩
    obtain ⟨-, p3, c3, e3, -⟩ := fs_own hW3.own
    obtain ⟨n3, hn3⟩ : ∃ n3, (fwo r.L a.data.toList).length = n3 := ⟨_, rfl⟩
    rw [hn3] at e3
    subst e3
    have A2 := A1
    replace A1 := Lib.hid (A1.out.step hW3.below)
    have n0 := (at_cell A1.out.box 0 : _ = some _)
    have n1 := (at_cell A1.out.box 1 : _ = some _)
    have n2 := (at_cell A1.out.box 2 : _ = some _)
    have nf0 := at_frozen A1.out.box 0
    have nf1 := at_frozen A1.out.box 1
    have nf2 := at_frozen A1.out.box 2
    have m0 := (at_cell A1.out.res 0 : _ = some _)
    have m1 := (at_cell A1.out.res 1 : _ = some _)
    have m2 := (at_cell A1.out.res 2 : _ = some _)
    have mf0 := at_frozen A1.out.res 0
    have mf1 := at_frozen A1.out.res 1
    have mf2 := at_frozen A1.out.res 2
    have HW3 := Lib.hid hW3
    clear hW3 hn3
    go_wp2_with fail
    refine bodyPost_ret (v := .tuple #[rv p3 n3 c3 most bad, .int .i64 0]) ?_ rfl ?_
    · simp [results, Tryd.results33, go_sem, *]
    · rw [HT.out.1, HT.out.2]
      refine RPost.new (r' := ⟨fwo r.L a.data.toList, r.most, r.bad⟩) HW3.out A2.out.below HM.out.1 HM.out.2 rfl (.inr ⟨(by repeat' (first | exact A1.out.below | refine Below.setCell ?_ ?_ _ | refine Below.alloc ?_ ?_ _ | refine below_drew ?_ | exact Nat.le_refl _ | exact Nat.le_succ _ | (simp; done) | (have := A1.out.lt; simp; omega))), fun k h1 h2 => ?_⟩)
      have := A2.out.lt
      rw [at_set_other _ (by omega), at_set_other _ (by omega), at_set_other _ (by omega), at_set_other _ (by omega)]
end Go.Proofs.YtejhggjehmioaaaDoor.Sto

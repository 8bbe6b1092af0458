/-
Layer 21 (gens): the two stores while the law's Made goes on.
Layer 11 (store): the document's own Append. Written by gen_storef5.py.
Layer 21 (gens): the law's Made, walked. Written by gen_genmade.py.
Layer 9 (fault): what the handle of the package errors holds.
Layer 9 (fault): closed facts on what errors.As and errors.Is ask of internal/reflectlite and of the method sets, at the types of package fault. Written by gen_fltlib.py.
Layer 9 (fault): errors.As at the two targets of package fault, and Unwrap, walked.
Layer 9 (fault): Of, walked.
Layer 11 (store): the code of an error that was told.
A slice of items that came in.
Layer 9 (fault), for a seat without words: what the listed handle gives the walks: the type of errors.
-/
import Derived.Test.YtngangdjbbbbdaaGreatDoorPack10
import Derived.Deep.RegionHeld3
import Derived.WalkKit
import Derived.LaidEql
import Derived.Stop.Asserts
import Derived.RowKitTokens
import Derived.Lib.Hide
import Derived.Test.YtngangdjbbbbdaaGreatDoorRows
import Derived.ProofKit
import Derived.LaidMore
import Derived.LaidHandle
import Derived.OpenShut
import Derived.FnData
section
namespace Go.Proofs.YtngangdjbbbbdaaGreatDoor.Gen
open Go.RowKit Go.Proofs.YtngangdjbbbbdaaGreatDoor.Own Go.Proofs.YtngangdjbbbbdaaGreatDoor.Sto
open Go.Proofs.YtngangdjbbbbdaaGreatDoor.Rw (str strs Row1 below_drew)

/-- a store, the document's beside it, and the two boxes of the call -/
structure MdAt (w W : World) (bs : Nat → Prop) (b R X : Nat) (t r : St) (p : Option Addr) (c n : Nat) : Prop where
  below : Below w.heap.size w W
  sto : Sto W bs b t
  mine : ∀ k, bs k → w.heap.size ≤ k
  res : W.heap[R]? = some (.cells #[.slice none 0 0, .int .i64 0, .int .i64 0] 27 (0, 0))
  box : W.heap[X]? = some (.cells #[.slice p n c, .int .i64 10000, .int .i64 0] 27 (0, 0))
  fs : Fs W p c r.L
  len : r.L.length = n
  rmost : r.most = 10000
  rbad : r.bad = 0
  farR : ¬ bs R
  farX : ¬ bs X
  hR : w.heap.size ≤ R
  hX : w.heap.size ≤ X
  ne : R ≠ X
  far : ∀ g o, p = some ⟨g, o, none⟩ → ¬ bs g ∧ g ≠ X ∧ g ≠ R ∧ g < W.heap.size
section
variable {w W W' : World} {bs : Nat → Prop} {b R X c n : Nat} {t t' r r' : St} {p : Option Addr} {e : Ending} {C : Int}
theorem MdAt.same (h : MdAt w W bs b R X t r p c n) (hb : Below W.heap.size W W') : MdAt w W' bs b R X t r p c n :=
  ⟨h.below.trans (hb.mono h.below.size), h.sto.below hb, h.mine, (hb.block _ (at_lt h.res)).trans h.res, (hb.block _ (at_lt h.box)).trans h.box, h.fs.below hb, h.len, h.rmost, h.rbad, h.farR, h.farX, h.hR, h.hX, h.ne,
    fun g o e => by obtain ⟨h1, h2, h3, h4⟩ := h.far g o e; exact ⟨h1, h2, h3, Nat.lt_of_lt_of_le h4 hb.size⟩⟩
/-- a call of the store's that may write -/
theorem MdAt.prog (h : MdAt w W bs b R X t r p c n) (hd : DoesE W bs e W' b t' C) : ∃ v bs', e = .returned v ∧ (v = .nilIface ∨ ∃ k, v = .iface 174 (.pointer (some ⟨k, 0, none⟩))) ∧ MdAt w W' bs' b R X t' r p c n := by
  obtain ⟨v, k, bs', he, hE, -, hs, ho, hn⟩ := hd
  have hsz := h.below.size
  have hlR := at_lt h.res
  have hlX := at_lt h.box
  refine ⟨v, bs', he, ?_, h.below.trans (ho.below hsz fun i hi => h.mine i hi), hs, fun i hi => ?_, (ho.block R hlR h.farR).trans h.res, (ho.block X hlX h.farX).trans h.box, h.fs.out ho fun g o e => (h.far g o e).1, h.len, h.rmost, h.rbad, fun hi => ?_, fun hi => ?_, h.hR, h.hX, h.ne, fun g o e => ?_⟩
  · rcases hE with ⟨_, h0⟩ | ⟨_, h0, _⟩
    · exact .inl h0
    · exact .inr ⟨k, h0⟩
  · rcases hn i hi with h1 | h1
    · exact h.mine i h1
    · omega
  · rcases hn R hi with h1 | h1
    · exact h.farR h1
    · omega
  · rcases hn X hi with h1 | h1
    · exact h.farX h1
    · omega
  · obtain ⟨h1, h2, h3, h4⟩ := h.far g o e
    refine ⟨fun hi => ?_, h2, h3, Nat.lt_of_lt_of_le h4 ho.size⟩
    rcases hn g hi with h5 | h5
    · exact h1 h5
    · omega
def set3 (W : World) (X : Nat) (x y z : Value) : World := ((W.setCell ⟨X, 0, none⟩ x).setCell ⟨X, 1, none⟩ y).setCell ⟨X, 2, none⟩ z
theorem set3_out (W : World) (X : Nat) (x y z : Value) : Out (fun k => k = X) W (set3 W X x y z) :=
  (((Out.refl (fun k => k = X) W).setCell (p := ⟨X, 0, none⟩) (fun _ => rfl) _).setCell (p := ⟨X, 1, none⟩) (fun _ => rfl) _).setCell (p := ⟨X, 2, none⟩) (fun _ => rfl) _
theorem set3_at {W : World} {X : Nat} {x0 y0 z0 x y z : Value} {T : TypeId} (h : W.heap[X]? = some (.cells #[x0, y0, z0] T (0, 0))) : (set3 W X x y z).heap[X]? = some (.cells #[x, y, z] T (0, 0)) := by
  have e1 := at_set h 0 x
  have e2 := at_set e1 1 y
  have e3 := at_set e2 2 z
  unfold set3
  simpa using e3
/-- a call of the document's; what it tells is put into the box -/
theorem MdAt.refs (h : MdAt w W bs b R X t r p c n) (hp : RPost W p r' C e W') (hm : r'.most = 10000) (hb0 : r'.bad = 0) :
    ∃ p' c' n', e = .returned (.tuple #[.agg #[.slice p' n' c', .int .i64 10000, .int .i64 0], .int .i64 C]) ∧ W'.heap[X]? = some (.cells #[.slice p n c, .int .i64 10000, .int .i64 0] 27 (0, 0)) ∧ MdAt w (set3 W' X (.slice p' n' c') (.int .i64 10000) (.int .i64 0)) bs b R X t r' p' c' n' := by
  obtain ⟨p', c', he, hF, hb, hpp⟩ := hp
  have hS := h.same hb
  have o := set3_out W' X (.slice p' r'.L.length c') (.int .i64 10000) (.int .i64 0)
  have hfar : ∀ g o, p' = some ⟨g, o, none⟩ → ¬ bs g ∧ g ≠ X ∧ g ≠ R ∧ g < W'.heap.size := fun g o e => by
    have l1 := at_lt h.res
    have l2 := at_lt h.box
    rcases hpp with rfl | hpp
    · obtain ⟨h1, h2, h3, h4⟩ := h.far g o e; exact ⟨h1, h2, h3, Nat.lt_of_lt_of_le h4 hb.size⟩
    · obtain ⟨h1, h2⟩ := hpp g o e
      exact ⟨fun hg => by have := h.sto.all g hg; omega, by omega, by omega, h2⟩
  refine ⟨p', c', r'.L.length, by rw [he, hm, hb0], hS.box, ?_⟩
  refine ⟨hS.below.trans (o.below hS.below.size fun i e => by rw [e]; exact h.hX), hS.sto.out o fun k hk e => h.farX (by rw [← e]; exact hk), h.mine, (o.block R (at_lt hS.res) h.ne).trans hS.res, set3_at hS.box, hF.out o fun g o e => (hfar g o e).2.1, rfl, hm, hb0, h.farR, h.farX, h.hR, h.hX, h.ne, fun g o2 e => ?_⟩
  obtain ⟨h1, h2, h3, h4⟩ := hfar g o2 e
  exact ⟨h1, h2, h3, Nat.lt_of_lt_of_le h4 o.size⟩
end
/-- the document's store beside the program's -/
structure Beside (W : World) (bs : Nat → Prop) (t : St) (p : Option Addr) (c n : Nat) : Prop where
  fs : Fs W p c t.L
  len : t.L.length = n
  far : ∀ g o, p = some ⟨g, o, none⟩ → ¬ bs g ∧ g < W.heap.size
theorem Beside.same {W W' : World} {bs : Nat → Prop} {t : St} {p : Option Addr} {c n : Nat} (h : Beside W bs t p c n) (hb : Below W.heap.size W W') : Beside W' bs t p c n :=
  ⟨h.fs.below hb, h.len, fun g o e => ⟨(h.far g o e).1, Nat.lt_of_lt_of_le (h.far g o e).2 hb.size⟩⟩
def MadePost (w : World) (e : Ending) (w' : World) : Prop :=
  ∃ bs b t p c n, e = .returned (.tuple #[pb b, .agg #[.slice p n c, .int .i64 10000, .int .i64 0]]) ∧ Below w.heap.size w w' ∧ Sto w' bs b t ∧ (∀ k, bs k → w.heap.size ≤ k) ∧ Gd t 21 ∧ Beside w' bs t p c n
theorem MdAt.ends {w W : World} {bs : Nat → Prop} {b R X c n k : Nat} {t : St} {p : Option Addr} (h : MdAt w W bs b R X t t p c n) (hg : Gd t k) (hk : k ≤ 21) :
    MadePost w (.returned (.tuple #[pb b, .agg #[.slice p n c, .int .i64 10000, .int .i64 0]])) (set3 W R (.slice p n c) (.int .i64 10000) (.int .i64 0)) := by
  have o := set3_out W R (.slice p n c) (.int .i64 10000) (.int .i64 0)
  exact ⟨bs, b, t, p, c, n, rfl, h.below.trans (o.below h.below.size fun i e => by rw [e]; exact h.hR), h.sto.out o fun k hk e => h.farR (by rw [← e]; exact hk), h.mine, hg.more hk,
    h.fs.out o (fun g o2 e => (h.far g o2 e).2.2.1), h.len, fun g o2 e => ⟨(h.far g o2 e).1, Nat.lt_of_lt_of_le (h.far g o2 e).2.2.2 o.size⟩⟩
end Go.Proofs.YtngangdjbbbbdaaGreatDoor.Gen
end

section
namespace Go.Proofs.YtngangdjbbbbdaaGreatDoor.Sto
open Go.RowKit Go.Proofs.YtngangdjbbbbdaaGreatDoor.Own
open Go.Proofs.YtngangdjbbbbdaaGreatDoor.Rw (str strs Row1 below_drew)

set_option maxRecDepth 100000 in
set_option maxHeartbeats 4000000 in
theorem rapp_calls (r : St) (p : Option Addr) (c n : Nat) (hn : r.L.length = n) (a s : ByteArray) (hz : a.size ≤ 1000000) (hd : r.bad ≤ 9223372036854775807) (w : World) (h : Fs w p c r.L) (hr : Rise Fl.nm r.L) (hN : n ≤ 1000000) (ht : tot r.L ≤ 16777216) (hs : s.size ≤ 1000000) :
    Calls Tryz.prog 17 #[rv p n c r.most r.bad, .string a, .string s] w (RPost w p (appT r a.data.toList s.data.toList) (appC r a.data.toList s.data.toList)) := by
  obtain ⟨most, hmost⟩ : ∃ x, r.most = x := ⟨_, rfl⟩
  obtain ⟨bad, hbad⟩ : ∃ x, r.bad = x := ⟨_, rfl⟩
  have hBeg := fun W => rbegin_calls r p c n a hz hd W
  simp only [hmost, hbad] at hBeg
  replace hBeg := Lib.hid hBeg
  have HM := Lib.hid (And.intro hmost hbad)
  rw [hmost, hbad]
  have H := Lib.hid h
  have HN := Lib.hid hn
  have A0 := Lib.hid (RefA.start w (.slice p n c) (.int .i64 most) (.int .i64 bad))
  have hR := Lib.hid hr
  have hGet := Lib.hid (fun (W : World) hb => get_calls r.L p c n hn most bad a W (h.below hb) hr)
  have hWi := Lib.hid (fun (W : World) hb (z : ByteArray) (S : Nat) => with_calls r.L p c n hn hN ⟨a.data.toList, z.data.toList, S⟩ W (h.below hb))
  have hTot := Lib.hid (fun (W : World) hb => total_ref r.L p c n hn most bad W (h.below hb) ht)
  have HTT := Lib.hid ht
  clear h hn hmost hbad hr ht
  go_enter Tryz.func17, Tryz.ntmps17
  go_wp2_with fail
  refine (hBeg.out _).mono ?_
  rintro e w1 ⟨rfl, hb1⟩
  have A0' := Lib.hid (A0.out.step hb1)
  by_cases h0 : begC r a.data.toList = 0
  rotate_left
  · have HT : Hid (appT r a.data.toList s.data.toList = begT r a.data.toList ∧ appC r a.data.toList s.data.toList = begC r a.data.toList) := Lib.hid ⟨if_neg h0, if_neg h0⟩
    obtain ⟨code, hcode⟩ : ∃ x, begC r a.data.toList = x := ⟨_, rfl⟩
    obtain ⟨b1, hb1⟩ : ∃ x, (begT r a.data.toList).bad = x := ⟨_, rfl⟩
    have hbm : (begT r a.data.toList).most = most ∧ (begT r a.data.toList).L = r.L := by rw [← HM.out.1]; unfold begT; split <;> exact ⟨rfl, rfl⟩
    rw [hcode, hb1]
    rw [hcode] at h0
    have hcb : (code != 0) = true := by simpa using h0
    have A1 := A0'
    have n0 := (at_cell A1.out.box 0 : _ = some _)
    have n1 := (at_cell A1.out.box 1 : _ = some _)
    have n2 := (at_cell A1.out.box 2 : _ = some _)
    have nf0 := at_frozen A1.out.box 0
    have nf1 := at_frozen A1.out.box 1
    have nf2 := at_frozen A1.out.box 2
    have m0 := (at_cell A1.out.res 0 : _ = some _)
    have m1 := (at_cell A1.out.res 1 : _ = some _)
    have m2 := (at_cell A1.out.res 2 : _ = some _)
    have mf0 := at_frozen A1.out.res 0
    have mf1 := at_frozen A1.out.res 1
    have mf2 := at_frozen A1.out.res 2
    have HC := Lib.hid (And.intro hbm (And.intro hb1 hcode))
    clear hb1 hbm hcode h0
    go_wp2_with fail
    refine bodyPost_ret (v := .tuple #[rv p n c most b1, .int .i64 code]) ?_ rfl ?_
    · simp [results, Tryz.results17, go_sem, *]
    · rw [HT.out.1, HT.out.2, HC.out.2.2]
      exact RPost.same (by rw [HC.out.1.2]; exact H.out) (by rw [HC.out.1.2]; exact HN.out) HC.out.1.1 HC.out.2.1 rfl (by repeat' (first | exact A1.out.below | refine Below.setCell ?_ ?_ _ | refine Below.alloc ?_ ?_ _ | refine below_drew ?_ | exact Nat.le_refl _ | exact Nat.le_succ _ | (simp; done) | (have := A1.out.lt; simp; omega)))
  have e0 : begT r a.data.toList = r := by
    have hb := beg_nm h0
    by_cases hp : 0 < r.bad
    · rw [(begC_io hb hp).1] at h0; cases h0
    · exact (begC_ok hb hp).2
  rw [h0, e0, HM.out.2]
  have A1 := A0'
  have n0 := (at_cell A1.out.box 0 : _ = some _)
  have n1 := (at_cell A1.out.box 1 : _ = some _)
  have n2 := (at_cell A1.out.box 2 : _ = some _)
  have nf0 := at_frozen A1.out.box 0
  have nf1 := at_frozen A1.out.box 1
  have nf2 := at_frozen A1.out.box 2
  have m0 := (at_cell A1.out.res 0 : _ = some _)
  have m1 := (at_cell A1.out.res 1 : _ = some _)
  have m2 := (at_cell A1.out.res 2 : _ = some _)
  have mf0 := at_frozen A1.out.res 0
  have mf1 := at_frozen A1.out.res 1
  have mf2 := at_frozen A1.out.res 2
  go_wp2_with fail
  replace A1 := Lib.hid (A1.out.set (.slice p n c) (.int .i64 most) (.int .i64 bad))
  generalize ((w1.setCell ⟨w.heap.size, 0, none⟩ (.slice p n c)).setCell ⟨w.heap.size, 1, none⟩ (.int .i64 most)).setCell ⟨w.heap.size, 2, none⟩ (.int .i64 bad) = W at A1 ⊢
  clear n0 n1 n2 nf0 nf1 nf2 m0 m1 m2 mf0 mf1 mf2
  have n0 := (at_cell A1.out.box 0 : _ = some _)
  have n1 := (at_cell A1.out.box 1 : _ = some _)
  have n2 := (at_cell A1.out.box 2 : _ = some _)
  have nf0 := at_frozen A1.out.box 0
  have nf1 := at_frozen A1.out.box 1
  have nf2 := at_frozen A1.out.box 2
  have m0 := (at_cell A1.out.res 0 : _ = some _)
  have m1 := (at_cell A1.out.res 1 : _ = some _)
  have m2 := (at_cell A1.out.res 2 : _ = some _)
  have mf0 := at_frozen A1.out.res 0
  have mf1 := at_frozen A1.out.res 1
  have mf2 := at_frozen A1.out.res 2
  clear nf0 nf1 nf2 m0 m1 m2 mf0 mf1 mf2 A0'
  obtain ⟨T, hT⟩ : ∃ T, tot r.L = T := ⟨_, rfl⟩
  have HT0 := Lib.hid hT
  have hTT : T ≤ 16777216 := by rw [← hT]; exact HTT.out
  rw [hT] at hTot
  have hNlt : w.heap.size < W.heap.size := at_lt A1.out.box
  have hTD := Lib.hid (hTot.out W.drew ⟨A1.out.below.os, A1.out.below.tape, A1.out.below.output, A1.out.below.size, A1.out.below.block⟩)
  have hwr : IntKind.i64.wrap ((T : Int) + (s.size : Int)) = (T : Int) + (s.size : Int) := IntWalk.i64_in _ (by omega)
  clear hT
  go_region_held3 (fun w' => w'.cell? ⟨w.heap.size, 0, none⟩ = some (.slice p n c) ∧ w'.cell? ⟨w.heap.size, 1, none⟩ = some (.int .i64 most) ∧ w'.cell? ⟨w.heap.size, 2, none⟩ = some (.int .i64 bad))
    (first
      | exact ⟨(hb5.cell hNlt).trans n0, (hb5.cell hNlt).trans n1, (hb5.cell hNlt).trans n2⟩
      | go_keep)
    (first
      | (go_at_call 42; refine hTD.out.mono ?_; rintro e w5 ⟨rfl, hb5⟩; have A5 := Lib.hid (A1.out.repack hb5)))
  replace A1 := A5
  clear hb5 n0 n1 n2 hNlt A5
  generalize w5 = W5 at *
  have n0 := (at_cell A1.out.box 0 : _ = some _)
  have n1 := (at_cell A1.out.box 1 : _ = some _)
  have n2 := (at_cell A1.out.box 2 : _ = some _)
  have nf0 := at_frozen A1.out.box 0
  have nf1 := at_frozen A1.out.box 1
  have nf2 := at_frozen A1.out.box 2
  have m0 := (at_cell A1.out.res 0 : _ = some _)
  have m1 := (at_cell A1.out.res 1 : _ = some _)
  have m2 := (at_cell A1.out.res 2 : _ = some _)
  have mf0 := at_frozen A1.out.res 0
  have mf1 := at_frozen A1.out.res 1
  have mf2 := at_frozen A1.out.res 2
  by_cases hf : (T : Int) + s.size > most
  · have HT : Hid (appT r a.data.toList s.data.toList = r ∧ appC r a.data.toList s.data.toList = 6) := Lib.hid (by
      have e1 : s.data.toList.length = s.size := rfl
      unfold appT appC; rw [if_pos h0, if_pos h0, e1, HT0.out, HM.out.1, if_pos hf, if_pos hf]; exact ⟨rfl, rfl⟩)
    have hf' : most < (T : Int) + s.size := hf
    go_wp2_with fail
    refine bodyPost_ret (v := .tuple #[rv p n c most bad, .int .i64 6]) ?_ rfl ?_
    · simp [results, Tryz.results17, go_sem, *]
    · rw [HT.out.1, HT.out.2]
      exact RPost.same H.out HN.out HM.out.1 HM.out.2 rfl (by repeat' (first | exact A1.out.below | refine Below.setCell ?_ ?_ _ | refine Below.alloc ?_ ?_ _ | refine below_drew ?_ | exact Nat.le_refl _ | exact Nat.le_succ _ | (simp; done) | (have := A1.out.lt; simp; omega)))
  · have HT : Hid (appT r a.data.toList s.data.toList = ⟨fpt r.L ⟨a.data.toList, (got r.L a.data.toList).bs ++ s.data.toList, (got r.L a.data.toList).sure⟩, r.most, r.bad⟩ ∧ appC r a.data.toList s.data.toList = 0) := Lib.hid (by
      have e1 : s.data.toList.length = s.size := rfl
      unfold appT appC; rw [if_pos h0, if_pos h0, e1, HT0.out, HM.out.1, if_neg hf, if_neg hf]; exact ⟨rfl, rfl⟩)
    have hf' : ¬ most < (T : Int) + s.size := hf
    clear hf
    go_wp2_with fail
    refine (hGet.out _ A1.out.below).mono ?_
    clear n0 n1 n2 nf0 nf1 nf2 m0 m1 m2 mf0 mf1 mf2
    intro e w2 hG
    obtain ⟨nmx, y, S, rfl, hy, hS, hb2⟩ := get_open hG
    replace A1 := Lib.hid ((A1.out.step hb2).step ((Below.refl _ w2).alloc (Nat.le_refl _) (.cells #[.string nmx, .string y, .int .i64 (S : Int)] 79 (0, 0))))
    clear hG hb2
    have hys : y.size ≤ 16777216 := by
      have e1 : y.size = (got r.L a.data.toList).bs.length := by rw [← hy]; rfl
      cases hl : flk r.L a.data.toList with
      | none => rw [e1, got_none hl]; simp
      | some x => rw [e1, got_some hl]; exact Nat.le_trans (len_tot (lk_some hl).1) HTT.out
    have HY := Lib.hid (And.intro hy hS)
    clear hy hS
    have n0 := (at_cell A1.out.box 0 : _ = some _)
    have n1 := (at_cell A1.out.box 1 : _ = some _)
    have n2 := (at_cell A1.out.box 2 : _ = some _)
    have nf0 := at_frozen A1.out.box 0
    have nf1 := at_frozen A1.out.box 1
    have nf2 := at_frozen A1.out.box 2
    have m0 := (at_cell A1.out.res 0 : _ = some _)
    have m1 := (at_cell A1.out.res 1 : _ = some _)
    have m2 := (at_cell A1.out.res 2 : _ = some _)
    have mf0 := at_frozen A1.out.res 0
    have mf1 := at_frozen A1.out.res 1
    have mf2 := at_frozen A1.out.res 2
    go_wp2_with fail
    have hWi2 := hWi.out _ A1.out.below (y ++ s) S
    rw [show (⟨a.data.toList, (y ++ s).data.toList, S⟩ : Fl) = ⟨a.data.toList, (got r.L a.data.toList).bs ++ s.data.toList, (got r.L a.data.toList).sure⟩ by rw [← HY.out.1, ← HY.out.2]; simp] at hWi2
    refine hWi2.mono ?_
    clear n0 n1 n2 nf0 nf1 nf2 m0 m1 m2 mf0 mf1 mf2
    clear hWi2
    rintro e w3 ⟨v3, rfl, hW3⟩
    obtain ⟨-, p3, c3, e3, -⟩ := fs_own hW3.own
    obtain ⟨n3, hn3⟩ : ∃ n3, (fpt r.L ⟨a.data.toList, (got r.L a.data.toList).bs ++ s.data.toList, (got r.L a.data.toList).sure⟩).length = n3 := ⟨_, rfl⟩
    rw [hn3] at e3
    subst e3
    have A2 := A1
    replace A1 := Lib.hid (A1.out.step hW3.below)
    have n0 := (at_cell A1.out.box 0 : _ = some _)
    have n1 := (at_cell A1.out.box 1 : _ = some _)
    have n2 := (at_cell A1.out.box 2 : _ = some _)
    have nf0 := at_frozen A1.out.box 0
    have nf1 := at_frozen A1.out.box 1
    have nf2 := at_frozen A1.out.box 2
    have m0 := (at_cell A1.out.res 0 : _ = some _)
    have m1 := (at_cell A1.out.res 1 : _ = some _)
    have m2 := (at_cell A1.out.res 2 : _ = some _)
    have mf0 := at_frozen A1.out.res 0
    have mf1 := at_frozen A1.out.res 1
    have mf2 := at_frozen A1.out.res 2
    have HW3 := Lib.hid hW3
    clear hW3 hn3
    go_wp2_with fail
    refine bodyPost_ret (v := .tuple #[rv p3 n3 c3 most bad, .int .i64 0]) ?_ rfl ?_
    · simp [results, Tryz.results17, go_sem, *]
    · rw [HT.out.1, HT.out.2]
      refine RPost.new (r' := ⟨fpt r.L ⟨a.data.toList, (got r.L a.data.toList).bs ++ s.data.toList, (got r.L a.data.toList).sure⟩, r.most, r.bad⟩) HW3.out A2.out.below HM.out.1 HM.out.2 rfl (.inr ⟨(by repeat' (first | exact A1.out.below | refine Below.setCell ?_ ?_ _ | refine Below.alloc ?_ ?_ _ | refine below_drew ?_ | exact Nat.le_refl _ | exact Nat.le_succ _ | (simp; done) | (have := A1.out.lt; simp; omega))), fun k h1 h2 => ?_⟩)
      have := A2.out.lt
      rw [at_set_other _ (by omega), at_set_other _ (by omega), at_set_other _ (by omega), at_set_other _ (by omega)]
end Go.Proofs.YtngangdjbbbbdaaGreatDoor.Sto
end

section
namespace Go.Proofs.YtngangdjbbbbdaaGreatDoor.Gen
open Go.RowKit Go.Proofs.YtngangdjbbbbdaaGreatDoor.Own Go.Proofs.YtngangdjbbbbdaaGreatDoor.Sto
open Go.Proofs.YtngangdjbbbbdaaGreatDoor.Rw (str strs Row1 below_drew)

theorem made_drew {w W : World} {e : Ending} (h : MadePost w e W) : MadePost w e W.drew := by
  obtain ⟨bs, b, t, p, c, n, he, hb, hs, hm, hg, hq⟩ := h
  exact ⟨bs, b, t, p, c, n, he, hb.drew, hs.below ⟨rfl, rfl, rfl, Nat.le_refl _, fun _ _ => rfl⟩, hm, hg, hq.same ⟨rfl, rfl, rfl, Nat.le_refl _, fun _ _ => rfl⟩⟩
set_option maxRecDepth 100000 in
set_option maxHeartbeats 16000000 in
theorem made_calls (p0 : Option Addr) (c0 n0 : Nat) (f : Nat → Fi) (w : World) (hF : FRow w p0 c0 n0 f) : Calls Tryz.prog 4 #[.slice p0 n0 c0] w (MadePost w) := by
  have HF := Lib.hid hF
  have hcap := hF.cap
  have hmax := hF.max
  unfold maxLen at hmax
  have qn : (n0 : Int) ≤ 9223372036854775807 := by omega
  clear hF
  go_enter Tryz.func4, Tryz.ntmps4
  go_wp2_with fail
  refine (new_in 10000 (by omega) (by omega) _).mono ?_
  rintro e w1 ⟨b, rfl, bs1, s1, hb1, hn1⟩
  go_wp2_with fail
  obtain ⟨R, hR⟩ : ∃ R, w.heap.size = R := ⟨_, rfl⟩
  obtain ⟨X, hX⟩ : ∃ X, w1.heap.size = X := ⟨_, rfl⟩
  have hsz1 : w.heap.size + 1 ≤ w1.heap.size := by have := hb1.size; simpa using this
  have A1 := Lib.hid (show MdAt w (w1.alloc (.cells #[.slice none 0 0, .int .i64 10000, .int .i64 0] 27 (0, 0))) bs1 b R X ⟨[], 10000, 0⟩ ⟨[], 10000, 0⟩ none 0 0 from by
    refine ⟨(((Below.refl _ w).alloc (Nat.le_refl _) (.cells #[.slice none 0 0, .int .i64 0, .int .i64 0] 27 (0, 0))).trans (hb1.mono (by simp))).alloc (by omega) _, s1.below ((Below.refl _ _).alloc (Nat.le_refl _) _), fun k hk => by have := hn1 k hk; simp at this; omega, ?_, at_newk _ _ hX.symm, Fs.empty _, rfl, rfl, rfl, fun h => ?_, fun h => ?_, by omega, by omega, by omega, fun g o e => by cases e⟩
    · refine at_old _ _ ((hb1.block R (by simp; omega)).trans ?_)
      exact at_newk _ _ hR.symm
    · have := hn1 R h; simp at this; omega
    · have := s1.all X h; omega)
  rw [hR, hX]
  generalize w1.alloc (.cells #[.slice none 0 0, .int .i64 10000, .int .i64 0] 27 (0, 0)) = W1 at *
  clear s1 hb1 hn1 hR hX hsz1
  have HOK0 := Lib.hid A1.out.sto.ok
  refine (sto_app A1.out.sto ⟨#[111, 116, 104, 101, 114]⟩ ⟨#[111]⟩ (by decide)).mono ?_
  intro e W2 hd
  obtain ⟨v2, bs2, rfl, hv2, hA2⟩ := A1.out.prog hd
  have A2 := Lib.hid hA2
  clear hd hA2 hv2
  have d0 : W2.cell? ⟨X, 0, none⟩ = some (.slice none 0 0) := at_cell A2.out.box 0
  have d1 : W2.cell? ⟨X, 1, none⟩ = some (.int .i64 10000) := at_cell A2.out.box 1
  have d2 : W2.cell? ⟨X, 2, none⟩ = some (.int .i64 0) := at_cell A2.out.box 2
  have HRA := Lib.hid (rapp_calls ⟨[], 10000, 0⟩ none 0 0 rfl ⟨#[111, 116, 104, 101, 114]⟩ ⟨#[111]⟩ (by decide) (by decide) W2 A2.out.fs HOK0.out.rise (by decide) (by decide) (by decide))
  go_wp2_with fail
  refine HRA.out.mono ?_
  intro e W3 hp
  obtain ⟨p3, c3, n3, rfl, hbx, hA3⟩ := A2.out.refs hp rfl rfl
  unfold set3 at hA3
  have e0 : W3.cell? ⟨X, 0, none⟩ = some (.slice none 0 0) := at_cell hbx 0
  have e1 : W3.cell? ⟨X, 1, none⟩ = some (.int .i64 10000) := at_cell hbx 1
  have e2 : W3.cell? ⟨X, 2, none⟩ = some (.int .i64 0) := at_cell hbx 2
  have g0 := at_frozen hbx 0
  have g1 := at_frozen hbx 1
  have g2 := at_frozen hbx 2
  have gl := at_lt hbx
  have A3 := Lib.hid hA3
  have HG := Lib.hid gd_new
  change Hid (Gd (appT ⟨[], 10000, 0⟩ [111, 116, 104, 101, 114] [111]) 1) at HG
  clear hp hA3 hbx d0 d1 d2 A1 A2 HRA HOK0
  go_wp2_with fail
  generalize (((W3.setCell ⟨X, 0, none⟩ (.slice p3 n3 c3)).setCell ⟨X, 1, none⟩ (.int .i64 10000)).setCell ⟨X, 2, none⟩ (.int .i64 0)) = W4 at *
  clear e0 e1 e2 g0 g1 g2 gl
  generalize appC ⟨[], 10000, 0⟩ [111, 116, 104, 101, 114] [111] = cz at *
  generalize appT ⟨[], 10000, 0⟩ [111, 116, 104, 101, 114] [111] = t3 at *
  go_loopw [7] (fun i wr => ∃ (k : Nat) (t : St) (bs : Nat → Prop) (p : Option Addr) (c n : Nat), k ≤ n0 ∧ k ≤ 20 ∧ i = .int .i64 k ∧ MdAt w wr bs b R X t t p c n ∧ Hid (Gd t (k + 1))) (fun i _ => n0 - (intOf i).toNat)
  case atStart => exact ⟨0, _, _, _, _, _, Nat.zero_le _, by omega, rfl, A3.out, HG⟩
  case round =>
    obtain ⟨k, t, bs, p, c, n, hk, hk2, rfl, hA, HGD⟩ := hrel
    rename World => wr
    have A := Lib.hid hA
    clear hA A3 HG
    by_cases hlt : k < n0
    · by_cases hlt2 : k < 20
      · have q1 : (k : Int) < (n0 : Int) := by omega
        have q2 : (k : Int) < 20 := by omega
        have HC : Hid (∃ g o, p0 = some ⟨g, o, none⟩ ∧ ∀ W, Below w.heap.size w W → W.cell? ⟨g, o + k * 3, none⟩ = some (.int .u8 (f k).k) ∧ W.cell? ⟨g, o + k * 3 + 1, none⟩ = some (.string (f k).s) ∧ W.cell? ⟨g, o + k * 3 + 2, none⟩ = some (.bool (f k).q)) := Lib.hid (by
          rcases HF.out.cells with h0 | ⟨g, o, e, hl, hc⟩
          · omega
          · exact ⟨g, o, e, fun W hb => ⟨(hb.cell (p := ⟨g, _, none⟩) hl).trans (hc k hlt).1, (hb.cell (p := ⟨g, _, none⟩) hl).trans (hc k hlt).2.1, (hb.cell (p := ⟨g, _, none⟩) hl).trans (hc k hlt).2.2⟩⟩)
        obtain ⟨g, o, rfl, hc⟩ := HC.out
        replace HC := Lib.hid hc
        have hfk := HF.out.ok k hlt
        obtain ⟨⟨fk, fs, fq⟩, hfe⟩ : ∃ z, f k = z := ⟨_, rfl⟩
        simp only [hfe] at HC hfk
        clear hc hfe
        obtain ⟨z0, z1, -⟩ := HC.out _ A.out.below
        by_cases h100 : 100 < fs.size
        · have q3 : (100 : Int) < (fs.size : Int) := by omega
          have HG2 := Lib.hid (HGD.out.more (Nat.le_succ _))
          go_wp2_with fail
          go_roundw
          case rel => exact ⟨k + 1, _, _, _, _, _, by omega, by omega, by go_num, A.out, HG2⟩
          case measure => simp [intOf]; omega
        · have q3 : ¬ (100 : Int) < (fs.size : Int) := by omega
          obtain ⟨m, hm⟩ : ∃ m : Nat, fk % 18 = (m : Int) := ⟨(fk % 18).toNat, by omega⟩
          have hm18 : m < 18 := by omega
          have HN := Lib.hid (fun W => rname_calls lg (m : Nat) (by decide) (by omega) (by omega) W)
          have HNE : Hid (oth ≠ nm lg (m : Nat)) := Lib.hid fun e => lg_oth _ e.symm
          have hal := lg_size hm18
          unfold lg at HN
          obtain ⟨a, ha⟩ : ∃ a, nm lg (m : Nat) = a := ⟨_, rfl⟩
          rw [ha] at HNE hal
          unfold lg at ha
          rw [ha] at HN
          have hw18 : IntKind.u8.wrap (fk.tmod 18) = m := by
            rw [Int.tmod_eq_emod_of_nonneg hfk.1, hm]
            exact Int.emod_eq_of_lt (by omega) (by show (m : Int) < 256; omega)
          clear h100 ha hlt hlt2
          have hfs : fs.size ≤ 100 := by omega
          go_wp2_with fail
          refine (HN.out _).mono ?_
          rintro e w' ⟨rfl, rfl⟩
          clear hm hw18
          have HAP := Lib.hid (sto_app A.out.sto ⟨a.toArray⟩ fs (by omega))
          rw [show (⟨a.toArray⟩ : ByteArray).data.toList = a from rfl] at HAP
          go_wp2_with fail
          refine HAP.out.mono ?_
          intro e W5 hd
          obtain ⟨v5, bs5, rfl, hv5, hA5⟩ := A.out.prog hd
          have A5 := Lib.hid hA5
          clear hd hA5 hv5 HAP z0 z1
          obtain ⟨-, z1, -⟩ := HC.out _ A5.out.below
          have d0 : W5.cell? ⟨X, 0, none⟩ = some (.slice p n c) := at_cell A5.out.box 0
          have d1 : W5.cell? ⟨X, 1, none⟩ = some (.int .i64 10000) := at_cell A5.out.box 1
          have d2 : W5.cell? ⟨X, 2, none⟩ = some (.int .i64 0) := at_cell A5.out.box 2
          have HOK := Lib.hid A.out.sto.ok
          have HRA : Hid (∀ W', Below W5.heap.size W5 W' → Calls Tryz.prog 17 #[.agg #[.slice p n c, .int .i64 10000, .int .i64 0], .string ⟨a.toArray⟩, .string fs] W' (RPost W' p (appT t a fs.data.toList) (appC t a fs.data.toList))) := Lib.hid (by
            intro W' hbw
            have hl := A5.out.len
            have hl2 := HGD.out.len
            have ht := (tot_top HOK.out).2
            have := rapp_calls t p c n hl ⟨a.toArray⟩ fs (by rw [size_of]; omega) (by rw [A5.out.rbad]; decide) W' (A5.out.fs.below hbw) HOK.out.rise (by omega) (by omega) (by omega)
            rw [A5.out.rmost, A5.out.rbad] at this
            exact this)
          have HT5 := Lib.hid (app_same HGD.out.bad a fs.data.toList)
          have HG5 := Lib.hid (HGD.out.app HOK.out (s := fs.data.toList) HNE.out)
          have HRF := Lib.hid (fun W' hb e W6 hp => (A5.out.same (W' := W') hb).refs (e := e) (W' := W6) (r' := appT t a fs.data.toList) (C := appC t a fs.data.toList) hp (HT5.out.2.1.trans HGD.out.most) HT5.out.1)
          generalize appC t a fs.data.toList = c5 at *
          generalize appT t a fs.data.toList = t5 at *
          have hzl : X < W5.heap.size := at_lt A5.out.box
          clear A HT5 HOK
          have hd5 : Below W5.heap.size W5 W5 := Below.refl _ _
          go_wp2_with fail
          go_region_with (first
            | (go_at_call 17; refine (HRA.out _ (by first | exact hd5 | exact below_drew hd5 | exact hd5.drew)).mono ?_; intro e w6 hp
               obtain ⟨p6, c6, n6, rfl, hbx, hA6⟩ := HRF.out _ (by first | exact hd5 | exact below_drew hd5 | exact hd5.drew) _ _ hp
               have y0 : w6.cell? ⟨X, 0, none⟩ = some (.slice p n c) := at_cell hbx 0
               have y1 : w6.cell? ⟨X, 1, none⟩ = some (.int .i64 10000) := at_cell hbx 1
               have y2 : w6.cell? ⟨X, 2, none⟩ = some (.int .i64 0) := at_cell hbx 2
               have g0 := at_frozen hbx 0
               have g1 := at_frozen hbx 1
               have g2 := at_frozen hbx 2
               have gl := at_lt hbx
               unfold set3 at hA6
               have A6 := Lib.hid hA6
               have z2 := (HC.out _ A6.out.below).2.2
               clear hp hA6 hbx d0 d1 d2 z1))
          all_goals
            clear HRA HRF A5 hd5 hzl
            generalize ((w6.setCell ⟨X, 0, none⟩ (.slice p6 n6 c6)).setCell ⟨X, 1, none⟩ (.int .i64 10000)).setCell ⟨X, 2, none⟩ (.int .i64 0) = W6 at *
            clear y0 y1 y2 g0 g1 g2 gl
            cases fq with
            | false =>
              go_wp2_with fail
              go_roundw
              case rel => exact ⟨k + 1, _, _, _, _, _, by omega, by omega, by go_num, A6.out, HG5⟩
              case measure => simp [intOf]; omega
            | true =>
              go_wp2_with fail
              clear z2
              have HSY := Lib.hid (sto_syn A6.out.sto ⟨a.toArray⟩)
              rw [show (⟨a.toArray⟩ : ByteArray).data.toList = a from rfl] at HSY
              refine HSY.out.mono ?_
              intro e W7 hd
              obtain ⟨v7, bs7, rfl, hv7, hA7⟩ := A6.out.prog hd
              have A7 := Lib.hid hA7
              clear hd hA7 hv7 HSY
              have d0 : W7.cell? ⟨X, 0, none⟩ = some (.slice p6 n6 c6) := at_cell A7.out.box 0
              have d1 : W7.cell? ⟨X, 1, none⟩ = some (.int .i64 10000) := at_cell A7.out.box 1
              have d2 : W7.cell? ⟨X, 2, none⟩ = some (.int .i64 0) := at_cell A7.out.box 2
              have HOK := Lib.hid A6.out.sto.ok
              have HRS : Hid (Calls Tryz.prog 20 #[.agg #[.slice p6 n6 c6, .int .i64 10000, .int .i64 0], .string ⟨a.toArray⟩] W7 (RPost W7 p6 (synT t5 a) (synC t5 a))) := Lib.hid (by
                have hl := A7.out.len
                have hl2 := HG5.out.len
                have ht := (tot_top HOK.out).2
                have := rsyn_calls t5 p6 c6 n6 hl ⟨a.toArray⟩ (by rw [size_of]; omega) (by rw [A7.out.rbad]; decide) W7 A7.out.fs HOK.out.rise (by omega) (by omega)
                rw [A7.out.rmost, A7.out.rbad] at this
                exact this)
              have HT7 := Lib.hid (syn_same HG5.out.bad a)
              have HG7 := Lib.hid (HG5.out.syn HOK.out HNE.out)
              have HRF := Lib.hid (fun e W6 hp => A7.out.refs (e := e) (W' := W6) (r' := synT t5 a) (C := synC t5 a) hp (HT7.out.2.1.trans HG5.out.most) HT7.out.1)
              generalize synC t5 a = c7 at *
              generalize synT t5 a = t7 at *
              clear A6 HT7 HOK
              go_wp2_with fail
              refine HRS.out.mono ?_
              intro e w8 hp
              obtain ⟨p8, c8, n8, rfl, hbx, hA8⟩ := HRF.out _ _ hp
              have y0 : w8.cell? ⟨X, 0, none⟩ = some (.slice p6 n6 c6) := at_cell hbx 0
              have y1 : w8.cell? ⟨X, 1, none⟩ = some (.int .i64 10000) := at_cell hbx 1
              have y2 : w8.cell? ⟨X, 2, none⟩ = some (.int .i64 0) := at_cell hbx 2
              have g0 := at_frozen hbx 0
              have g1 := at_frozen hbx 1
              have g2 := at_frozen hbx 2
              have gl := at_lt hbx
              unfold set3 at hA8
              have A8 := Lib.hid hA8
              clear hp hA8 hbx d0 d1 d2 HRS HRF A7
              go_wp2_with fail
              go_roundw
              case rel => exact ⟨k + 1, _, _, _, _, _, by omega, by omega, by go_num, A8.out, HG7⟩
              case measure => simp [intOf]; omega
      · have q1 : (k : Int) < (n0 : Int) := by omega
        have q2 : ¬ (k : Int) < 20 := by omega
        clear HF hlt
        have d0 : wr.cell? ⟨X, 0, none⟩ = some (.slice p n c) := at_cell A.out.box 0
        have d1 : wr.cell? ⟨X, 1, none⟩ = some (.int .i64 10000) := at_cell A.out.box 1
        have d2 : wr.cell? ⟨X, 2, none⟩ = some (.int .i64 0) := at_cell A.out.box 2
        have r0 : wr.cell? ⟨R, 0, none⟩ = some (.slice none 0 0) := at_cell A.out.res 0
        have r1 : wr.cell? ⟨R, 1, none⟩ = some (.int .i64 0) := at_cell A.out.res 1
        have r2 : wr.cell? ⟨R, 2, none⟩ = some (.int .i64 0) := at_cell A.out.res 2
        have f0 := at_frozen A.out.res 0
        have f1 := at_frozen A.out.res 1
        have f2 := at_frozen A.out.res 2
        have rl := at_lt A.out.res
        have HE := Lib.hid (A.out.ends HGD.out (by omega))
        go_wp2_with fail
        go_region
        all_goals
          go_wp2_with fail
          refine bodyPost_ret (v := .tuple #[pb b, .agg #[.slice p n c, .int .i64 10000, .int .i64 0]]) ?_ rfl ?_
          · have e := set3_at (x := .slice p n c) (y := .int .i64 10000) (z := .int .i64 0) A.out.res
            unfold set3 at e
            generalize ((wr.setCell ⟨R, 0, none⟩ (.slice p n c)).setCell ⟨R, 1, none⟩ (.int .i64 10000)).setCell ⟨R, 2, none⟩ (.int .i64 0) = WE at *
            have h0 : WE.drew.cell? ⟨R, 0, none⟩ = some (.slice p n c) := at_cell (w := WE.drew) e 0
            have h1 : WE.drew.cell? ⟨R, 1, none⟩ = some (.int .i64 10000) := at_cell (w := WE.drew) e 1
            have h2 : WE.drew.cell? ⟨R, 2, none⟩ = some (.int .i64 0) := at_cell (w := WE.drew) e 2
            simp [results, Tryz.results4, go_sem, h0, h1, h2]
          · exact made_drew HE.out
    · have q1 : ¬ (k : Int) < (n0 : Int) := by omega
      clear HF hlt
      have d0 : wr.cell? ⟨X, 0, none⟩ = some (.slice p n c) := at_cell A.out.box 0
      have d1 : wr.cell? ⟨X, 1, none⟩ = some (.int .i64 10000) := at_cell A.out.box 1
      have d2 : wr.cell? ⟨X, 2, none⟩ = some (.int .i64 0) := at_cell A.out.box 2
      have r0 : wr.cell? ⟨R, 0, none⟩ = some (.slice none 0 0) := at_cell A.out.res 0
      have r1 : wr.cell? ⟨R, 1, none⟩ = some (.int .i64 0) := at_cell A.out.res 1
      have r2 : wr.cell? ⟨R, 2, none⟩ = some (.int .i64 0) := at_cell A.out.res 2
      have f0 := at_frozen A.out.res 0
      have f1 := at_frozen A.out.res 1
      have f2 := at_frozen A.out.res 2
      have rl := at_lt A.out.res
      have HE := Lib.hid (A.out.ends HGD.out (by omega))
      go_wp2_with fail
      go_region
      all_goals
        go_wp2_with fail
        refine bodyPost_ret (v := .tuple #[pb b, .agg #[.slice p n c, .int .i64 10000, .int .i64 0]]) ?_ rfl ?_
        · have e := set3_at (x := .slice p n c) (y := .int .i64 10000) (z := .int .i64 0) A.out.res
          unfold set3 at e
          generalize ((wr.setCell ⟨R, 0, none⟩ (.slice p n c)).setCell ⟨R, 1, none⟩ (.int .i64 10000)).setCell ⟨R, 2, none⟩ (.int .i64 0) = WE at *
          have h0 : WE.drew.cell? ⟨R, 0, none⟩ = some (.slice p n c) := at_cell (w := WE.drew) e 0
          have h1 : WE.drew.cell? ⟨R, 1, none⟩ = some (.int .i64 10000) := at_cell (w := WE.drew) e 1
          have h2 : WE.drew.cell? ⟨R, 2, none⟩ = some (.int .i64 0) := at_cell (w := WE.drew) e 2
          simp [results, Tryz.results4, go_sem, h0, h1, h2]
        · exact made_drew HE.out
end Go.Proofs.YtngangdjbbbbdaaGreatDoor.Gen
end

section
namespace Go.Proofs.YtngangdjbbbbdaaGreatDoor.Flt
open Go.RowKit Go.Proofs.YtngangdjbbbbdaaGreatDoor.Own

/-- what the handle of the package errors holds -/
structure Tab (w : World) : Prop where
  et : w.cell? ⟨0, 0, none⟩ = some (.iface 146 (.agg #[.pointer (some ⟨1, 34, none⟩)]))
theorem Tab.lt {w : World} (h : Tab w) : 0 < w.heap.size := World.block_lt_of_cell? w _ h.et
theorem Tab.below {w w' : World} (h : Tab w) (hb : Below w.heap.size w w') : Tab w' := ⟨(hb.cell (p := ⟨_, 0, none⟩) h.lt).trans h.et⟩
theorem Tab.out {w w' : World} {S : Nat → Prop} (h : Tab w) (hb : Out S w w') (h2 : ¬ S 0) : Tab w' := ⟨(hb.cell (p := ⟨_, 0, none⟩) h.lt h2).trans h.et⟩
end Go.Proofs.YtngangdjbbbbdaaGreatDoor.Flt
end

section
namespace Go.Proofs.YtngangdjbbbbdaaGreatDoor.Flt
open Go.RowKit Go.Extern.Stop Go.Stop Go.Extern

theorem methodKind (x : Value) (w : World) : (Go.method 332 146 (.agg #[x]) "Kind").run Tryz.prog w = .ok (151, x) w := by kernel_rfl
theorem methodElem (x : Value) (w : World) : (Go.method 332 146 (.agg #[x]) "Elem").run Tryz.prog w = .ok (164, .agg #[x]) w := by kernel_rfl
theorem methodImplements (x : Value) (w : World) : (Go.method 332 146 (.agg #[x]) "Implements").run Tryz.prog w = .ok (165, .agg #[x]) w := by kernel_rfl
theorem methodAssignableTo (x : Value) (w : World) : (Go.method 332 146 (.agg #[x]) "AssignableTo").run Tryz.prog w = .ok (162, .agg #[x]) w := by kernel_rfl
theorem typeOf_F (v : Value) (w : World) : (ReflectliteType.typeOf #[.iface 174 v]).run Tryz.prog w = .ok (.iface 146 (.agg #[.pointer (some ⟨1, 174, none⟩)])) w := by kernel_rfl
theorem assignable_KK (w : World) : (ReflectliteType.relation "AssignableTo" ReflectliteType.assignableTo #[.agg #[.pointer (some ⟨1, 82, none⟩)], .iface 146 (.agg #[.pointer (some ⟨1, 82, none⟩)])]).run Tryz.prog w = .ok (.bool true) w := by kernel_rfl
theorem assignable_KF (w : World) : (ReflectliteType.relation "AssignableTo" ReflectliteType.assignableTo #[.agg #[.pointer (some ⟨1, 82, none⟩)], .iface 146 (.agg #[.pointer (some ⟨1, 174, none⟩)])]).run Tryz.prog w = .ok (.bool false) w := by kernel_rfl
theorem assignable_FK (w : World) : (ReflectliteType.relation "AssignableTo" ReflectliteType.assignableTo #[.agg #[.pointer (some ⟨1, 174, none⟩)], .iface 146 (.agg #[.pointer (some ⟨1, 82, none⟩)])]).run Tryz.prog w = .ok (.bool false) w := by kernel_rfl
theorem assignable_FF (w : World) : (ReflectliteType.relation "AssignableTo" ReflectliteType.assignableTo #[.agg #[.pointer (some ⟨1, 174, none⟩)], .iface 146 (.agg #[.pointer (some ⟨1, 174, none⟩)])]).run Tryz.prog w = .ok (.bool true) w := by kernel_rfl
theorem noAs_K (v : Value) (xT : TypeId) (w : World) : (Instr.typeAssert (.iface 82 v) xT 150 true).run Tryz.prog w = .ok (.tuple #[.nilIface, .bool false]) w := run_typeAssert_lacksB Tryz.underlying150 (by kernel_rfl) (by kernel_rfl) v xT w
theorem noAs_F (v : Value) (xT : TypeId) (w : World) : (Instr.typeAssert (.iface 174 v) xT 150 true).run Tryz.prog w = .ok (.tuple #[.nilIface, .bool false]) w := run_typeAssert_lacksB Tryz.underlying150 (by kernel_rfl) (by kernel_rfl) v xT w

/-! ### target K -/
theorem valueOf_K (t : Addr) (w : World) : (ReflectliteValue.unpack (.iface 84 (.pointer (some t)))).run Tryz.prog w
    = .ok (.agg #[.pointer (some ⟨1, 84, none⟩), .pointer (some ⟨w.heap.size, 0, none⟩), .int .u64 150]) (w.alloc (.cells #[.pointer (some t)] 84)) := by kernel_rfl
theorem type_K (a : Addr) (w : World) : (ReflectliteValue.methodAny (ReflectliteValue.valueError "reflectlite.Value.Type" 0) (fun t _ _ _ => ReflectliteType.toType t) #[.agg #[.pointer (some ⟨1, 84, none⟩), .pointer (some a), .int .u64 150]]).run Tryz.prog w
    = .ok (.iface 146 (.agg #[.pointer (some ⟨1, 84, none⟩)])) w := by kernel_rfl
theorem kindT_K (w : World) : ((ReflectliteType.abiMethod fun t => (fun a : Nat => Value.int IntKind.u8 (a : Int)) <$> Rtype.kind t) #[.pointer (some ⟨1, 84, none⟩)]).run Tryz.prog w = .ok (.int .u8 22) w := by kernel_rfl
theorem kindE_K (w : World) : ((ReflectliteType.abiMethod fun t => (fun a : Nat => Value.int IntKind.u8 (a : Int)) <$> Rtype.kind t) #[.pointer (some ⟨1, 82, none⟩)]).run Tryz.prog w = .ok (.int .u8 2) w := by kernel_rfl
theorem parts_K (a : Addr) (w : World) : (ReflectliteValue.parts (.agg #[.pointer (some ⟨1, 84, none⟩), .pointer (some a), .int .u64 150])).run Tryz.prog w = .ok (some (84, a, 150)) w := by kernel_rfl
theorem elem_K (w : World) : (ReflectliteType.method ReflectliteType.elem #[.agg #[.pointer (some ⟨1, 84, none⟩)]]).run Tryz.prog w = .ok (.iface 146 (.agg #[.pointer (some ⟨1, 82, none⟩)])) w := by kernel_rfl
theorem implements_K (w : World) : (ReflectliteType.relation "Implements" ReflectliteType.implements_ #[.agg #[.pointer (some ⟨1, 82, none⟩)], .iface 146 (.agg #[.pointer (some ⟨1, 34, none⟩)])]).run Tryz.prog w = .ok (.bool true) w := by kernel_rfl
theorem elemOf_K (w : World) : (Rtype.elem? 84).run Tryz.prog w = .ok (some 82) w := by kernel_rfl
theorem mk_K (p : Addr) (w : World) : (ReflectliteValue.mk 82 p ReflectliteValue.flagAddr).run Tryz.prog w = .ok (.agg #[.pointer (some ⟨1, 82, none⟩), .pointer (some p), .int .u64 386]) w := by kernel_rfl
theorem partsA_K (a : Addr) (w : World) : (ReflectliteValue.parts (.agg #[.pointer (some ⟨1, 82, none⟩), .pointer (some a), .int .u64 386])).run Tryz.prog w = .ok (some (82, a, 386)) w := by kernel_rfl
theorem partsV_K (a : Addr) (w : World) : (ReflectliteValue.parts (.agg #[.pointer (some ⟨1, 82, none⟩), .pointer (some a), .int .u64 130])).run Tryz.prog w = .ok (some (82, a, 130)) w := by kernel_rfl
theorem direct_K (w : World) : (Rtype.directlyAssignable 82 82).run Tryz.prog w = .ok true w := by kernel_rfl
theorem size_K (w : World) : (sizeOf 82).run Tryz.prog w = .ok 1 w := by kernel_rfl
theorem valueE_K (c : Int) (w : World) : (ReflectliteValue.unpack (.iface 82 (.int .i64 c))).run Tryz.prog w
    = .ok (.agg #[.pointer (some ⟨1, 82, none⟩), .pointer (some ⟨w.heap.size, 0, none⟩), .int .u64 130]) (w.alloc (.cells #[.int .i64 c] 82)) := by kernel_rfl
theorem isNil_K (a p : Addr) (W : World) (ha : W.cell? a = some (.pointer (some p))) :
    (ReflectliteValue.method (ReflectliteValue.valueError "reflectlite.Value.IsNil" 0) ReflectliteValue.isNil #[.agg #[.pointer (some ⟨1, 84, none⟩), .pointer (some a), .int .u64 150]]).run Tryz.prog W = .ok (.bool false) W := by
  change (ReflectliteValue.parts (.agg #[.pointer (some ⟨1, 84, none⟩), .pointer (some a), .int .u64 150]) >>= _).run _ _ = _
  simp only [Sem.run_bind, parts_K, Result.andThen]
  simp [ReflectliteValue.isNil, loadVar, isAgg, underlying, Tryz.underlying84, ha, Result.andThen]
theorem elemV_K (a p : Addr) (W : World) (ha : W.cell? a = some (.pointer (some p))) :
    (ReflectliteValue.method (ReflectliteValue.valueError "reflectlite.Value.Elem" 0) ReflectliteValue.elem #[.agg #[.pointer (some ⟨1, 84, none⟩), .pointer (some a), .int .u64 150]]).run Tryz.prog W
      = .ok (.agg #[.pointer (some ⟨1, 82, none⟩), .pointer (some p), .int .u64 386]) W := by
  change (ReflectliteValue.parts (.agg #[.pointer (some ⟨1, 84, none⟩), .pointer (some a), .int .u64 150]) >>= _).run _ _ = _
  simp only [Sem.run_bind, parts_K, Result.andThen]
  simp [ReflectliteValue.elem, loadVar, isAgg, underlying, Tryz.underlying84, ha, Result.andThen, elemOf_K, mk_K]
theorem set_K (ta b : Addr) (c : Int) (old : Value) (W : World) (hb : W.cell? b = some (.int .i64 c)) (ht : W.cell? ta = some old) (hf : W.frozen? ta = false) :
    (ReflectliteValue.set #[.agg #[.pointer (some ⟨1, 82, none⟩), .pointer (some ta), .int .u64 386], .agg #[.pointer (some ⟨1, 82, none⟩), .pointer (some b), .int .u64 130]]).run Tryz.prog W
      = .ok (.tuple #[]) (W.setCell ta (.int .i64 c)) := by
  change (ReflectliteValue.parts (.agg #[.pointer (some ⟨1, 82, none⟩), .pointer (some ta), .int .u64 386]) >>= fun _ => ReflectliteValue.parts (.agg #[.pointer (some ⟨1, 82, none⟩), .pointer (some b), .int .u64 130]) >>= fun _ => _).run _ _ = _
  simp only [Sem.run_bind, partsA_K, partsV_K, Result.andThen]
  simp [ReflectliteValue.flagAddr, loadVar, isAgg, underlying, Tryz.underlying82, hb, Result.andThen, direct_K, storeVar, Value.cells, storeCells, Addr.add]
  rw [run_store Tryz.prog W ta _ _ (by rfl)]
  simp [ht, hf]

end Go.Proofs.YtngangdjbbbbdaaGreatDoor.Flt
end

section
namespace Go.Proofs.YtngangdjbbbbdaaGreatDoor.Flt
open Go.RowKit Go.Extern.Stop Go.Stop Go.Extern Go.Proofs.YtngangdjbbbbdaaGreatDoor.Own

/-- the Value of a pointer -/
def ptrV (T : TypeId) (b : Nat) : Value := .agg #[.pointer (some ⟨1, T, none⟩), .pointer (some ⟨b, 0, none⟩), .int .u64 150]
/-- a block of one cell, written -/
theorem one_set {w : World} {b : Nat} {old v : Value} {t : TypeId} (h : w.heap[b]? = some (.cells #[old] t (0, 0))) : (w.setCell ⟨b, 0, none⟩ v).heap[b]? = some (.cells #[v] t (0, 0)) := by
  have := at_set h 0 v
  simpa using this

set_option maxRecDepth 100000 in
set_option maxHeartbeats 4000000 in
/-- errors.as at a target of type *Kind -/
theorem as_kind (v : Value) (l : List Lay) (c : Int) (N tb vb : Nat) (old : Value) (w : World) (h : Err w N v l c) (hN : N ≤ w.heap.size) (ht : w.heap[tb]? = some (.cells #[old] 82 (0, 0))) (hv : w.cell? ⟨vb, 0, none⟩ = some (.pointer (some ⟨tb, 0, none⟩))) :
    Calls Tryz.prog 68 #[v, .iface 84 (.pointer (some ⟨tb, 0, none⟩)), .agg #[.pointer (some ⟨1, 84, none⟩), .pointer (some ⟨vb, 0, none⟩), .int .u64 150], .iface 146 (.agg #[.pointer (some ⟨1, 82, none⟩)])] w
      fun e w' => e = .returned (.bool true) ∧ Out (fun k => k = tb) w w' ∧ w'.heap[tb]? = some (.cells #[.int .i64 c] 82 (0, 0)) := by
  have h32 := @run_callFunc_extern Tryz.prog 65 _ (fun args => ReflectliteValue.unpack (args.getD 0 (.tuple #[]))) Tryz.func65 (by kernel_rfl) (by kernel_rfl) (by kernel_rfl) (by kernel_rfl)
  have h37 := @run_callFunc_extern Tryz.prog 77 _ ReflectliteType.typeOf Tryz.func77 (by kernel_rfl) (by kernel_rfl) (by kernel_rfl) (by kernel_rfl)
  have h71 := @run_callFunc_extern Tryz.prog 162 _ (ReflectliteType.relation "AssignableTo" ReflectliteType.assignableTo) Tryz.func162 (by kernel_rfl) (by kernel_rfl) (by kernel_rfl) (by kernel_rfl)
  have h41 := @run_callFunc_extern Tryz.prog 88 _ (ReflectliteValue.method (ReflectliteValue.valueError "reflectlite.Value.Elem" 0) ReflectliteValue.elem) Tryz.func88 (by kernel_rfl) (by kernel_rfl) (by kernel_rfl) (by kernel_rfl)
  have h42 := @run_callFunc_extern Tryz.prog 89 _ ReflectliteValue.set Tryz.func89 (by kernel_rfl) (by kernel_rfl) (by kernel_rfl) (by kernel_rfl)
  have tK := typeOf_K
  have tF := typeOf_F
  have mA := methodAssignableTo
  have mU := methodUnwrap
  have aK := assignable_KK
  have aF := assignable_FK
  have nA := noAs_F
  have hU := hasUnwrap_F
  have vE := valueE_K
  have hlt := at_lt ht
  have hvb := World.block_lt_of_cell? w _ hv
  change vb < _ at hvb
  have HE := Lib.hid h
  have HT := Lib.hid ht
  clear h ht
  go_enter Tryz.func68, Tryz.ntmps68
  go_wp2_with fail
  go_loopw [0] (fun u w2 => ∃ (M : Nat) (r : List Lay), Err w2 M u r c ∧ w2 = w.alloc (.cells #[.pointer (some ⟨1, 84, none⟩), .pointer (some ⟨vb, 0, none⟩), .int .u64 150] 115)) (fun u _ => deep u)
  case atStart => exact ⟨N, l, HE.out.below ((Below.refl _ _).alloc (Nat.le_refl _) _) hN, rfl⟩
  case round =>
    obtain ⟨M, r, he, rfl⟩ := hrel
    cases r with
    | nil =>
      obtain rfl : _ = Value.iface 82 (.int .i64 c) := he
      have el := elemV_K ⟨vb, 0, none⟩ ⟨tb, 0, none⟩ (w.alloc (.cells #[.pointer (some ⟨1, 84, none⟩), .pointer (some ⟨vb, 0, none⟩), .int .u64 150] 115)) (by rw [World.cell?_alloc_lt _ _ ⟨vb, 0, none⟩ hvb]; exact hv)
      have HH := at_old _ (.cells #[.int .i64 c] 82) (at_old w (.cells #[.pointer (some ⟨1, 84, none⟩), .pointer (some ⟨vb, 0, none⟩), .int .u64 150] 115) HT.out)
      have st := set_K ⟨tb, 0, none⟩ ⟨w.heap.size + 1, 0, none⟩ c old ((w.alloc (.cells #[.pointer (some ⟨1, 84, none⟩), .pointer (some ⟨vb, 0, none⟩), .int .u64 150] 115)).alloc (.cells #[.int .i64 c] 82))
        (by rw [World.cell?_alloc_at _ _ _ _ (by simp)]; rfl) (by rw [at_cell HH]; rfl) (at_frozen HH 0)
      have HS := Lib.hid (fun x y => at_old _ y (at_old _ x (one_set (v := .int .i64 c) HT.out)))
      clear HH
      go_wp2_with fail
      go_ret
      exact ⟨rfl, (((Out.refl (fun k => k = tb) w).setCell (p := ⟨tb, 0, none⟩) (fun _ => rfl) _).alloc _).alloc _, HS.out _ _⟩
    | cons x r =>
      obtain ⟨rfl, hx, u, hb, he'⟩ := he
      obtain ⟨ut, uv, rfl⟩ := err_nil he'
      have HE' := Lib.hid he'
      have HB := Lib.hid hb
      clear he' hb
      go_wp2_with (go_at_call 173; refine (unwrap_calls _ _ _ _ _ HB.out).mono ?_; rintro e w' ⟨rfl, rfl⟩)
      go_roundw
      case rel => exact ⟨x.blk, r, HE'.out, by first | rfl | trivial⟩
      case measure =>
        have := HE'.out
        cases r with
        | nil => rw [show Value.iface ut uv = _ from this]; simp [deep]
        | cons y s => rw [show Value.iface ut uv = _ from this.1]; have := this.2.1; simp [deep]; omega

/-- errors.As of nil -/
theorem asNil_calls (t : Value) (w : World) : Calls Tryz.prog 35 #[.nilIface, t] w fun e w' => e = .returned (.bool false) ∧ w' = w := by
  go_enter Tryz.func35, Tryz.ntmps35
  go_wp2
  go_ret
  exact ⟨rfl, rfl⟩

set_option maxRecDepth 100000 in
set_option maxHeartbeats 4000000 in
/-- errors.As at a *Kind: the Kind at the end -/
theorem asKind_calls (v : Value) (l : List Lay) (c : Int) (N : Nat) (w : World) (h : Err w N v l c) (hN : N ≤ w.heap.size) (tb : Nat) (old : Value) (hT : Tab w) (ht : w.heap[tb]? = some (.cells #[old] 82 (0, 0))) :
    Calls Tryz.prog 35 #[v, .iface 84 (.pointer (some ⟨tb, 0, none⟩))] w
      fun e w' => e = .returned (.bool true) ∧ Out (fun k => k = tb) w w' ∧ w'.heap[tb]? = some (.cells #[.int .i64 c] 82 (0, 0)) := by
  have h32 := @run_callFunc_extern Tryz.prog 65 _ (fun args => ReflectliteValue.unpack (args.getD 0 (.tuple #[]))) Tryz.func65 (by kernel_rfl) (by kernel_rfl) (by kernel_rfl) (by kernel_rfl)
  have h33 := @run_callFunc_extern Tryz.prog 66 _ (ReflectliteValue.methodAny (ReflectliteValue.valueError "reflectlite.Value.Type" 0) (fun t _ _ _ => ReflectliteType.toType t)) Tryz.func66 (by kernel_rfl) (by kernel_rfl) (by kernel_rfl) (by kernel_rfl)
  have h34 := @run_callFunc_extern Tryz.prog 67 _ (ReflectliteValue.method (ReflectliteValue.valueError "reflectlite.Value.IsNil" 0) ReflectliteValue.isNil) Tryz.func67 (by kernel_rfl) (by kernel_rfl) (by kernel_rfl) (by kernel_rfl)
  have h64 := @run_callFunc_extern Tryz.prog 151 _ (ReflectliteType.abiMethod fun t => do pure (.int .u8 (← Rtype.kind t))) Tryz.func151 (by kernel_rfl) (by kernel_rfl) (by kernel_rfl) (by kernel_rfl)
  have h73 := @run_callFunc_extern Tryz.prog 164 _ (ReflectliteType.method ReflectliteType.elem) Tryz.func164 (by kernel_rfl) (by kernel_rfl) (by kernel_rfl) (by kernel_rfl)
  have h74 := @run_callFunc_extern Tryz.prog 165 _ (ReflectliteType.relation "Implements" ReflectliteType.implements_) Tryz.func165 (by kernel_rfl) (by kernel_rfl) (by kernel_rfl) (by kernel_rfl)
  have f32 := valueOf_K
  have f33 := type_K
  have mK := methodKind
  have mE := methodElem
  have mI := methodImplements
  have kT := kindT_K
  have kE := kindE_K
  have eT := elem_K
  have iE := implements_K
  have HW := at_new (w.alloc (.cells #[.pointer (some ⟨tb, 0, none⟩)] 84)) (.cells #[.pointer (some ⟨1, 84, none⟩), .pointer (some ⟨w.heap.size, 0, none⟩), .int .u64 150] 115)
  have HV := at_old _ (.cells #[.pointer (some ⟨1, 84, none⟩), .pointer (some ⟨w.heap.size, 0, none⟩), .int .u64 150] 115) (at_new w (.cells #[.pointer (some ⟨tb, 0, none⟩)] 84))
  have HT := Lib.hid (at_old _ (.cells #[.pointer (some ⟨1, 84, none⟩), .pointer (some ⟨w.heap.size, 0, none⟩), .int .u64 150] 115) (at_old w (.cells #[.pointer (some ⟨tb, 0, none⟩)] 84) ht))
  have n8 := isNil_K ⟨w.heap.size, 0, none⟩ ⟨tb, 0, none⟩ ((w.alloc (.cells #[.pointer (some ⟨tb, 0, none⟩)] 84)).alloc (.cells #[.pointer (some ⟨1, 84, none⟩), .pointer (some ⟨w.heap.size, 0, none⟩), .int .u64 150] 115)) (by rw [at_cell HV]; rfl)
  have hg := World.cell?_alloc_lt w (.cells #[.pointer (some ⟨tb, 0, none⟩)] 84) ⟨0, 0, none⟩ hT.lt
  have hg2 : ((w.alloc (.cells #[.pointer (some ⟨tb, 0, none⟩)] 84)).alloc (.cells #[.pointer (some ⟨1, 84, none⟩), .pointer (some ⟨w.heap.size, 0, none⟩), .int .u64 150] 115)).cell? ⟨0, 0, none⟩ = some (.iface 146 (.agg #[.pointer (some ⟨1, 34, none⟩)])) := by
    rw [World.cell?_alloc_lt _ _ ⟨0, 0, none⟩ (by have := hT.lt; simp <;> omega), hg]; exact hT.et
  have HVc : ((w.alloc (.cells #[.pointer (some ⟨tb, 0, none⟩)] 84)).alloc (.cells #[.pointer (some ⟨1, 84, none⟩), .pointer (some ⟨w.heap.size, 0, none⟩), .int .u64 150] 115)).cell? ⟨w.heap.size, 0, none⟩ = some (.pointer (some ⟨tb, 0, none⟩)) := by rw [at_cell HV]; rfl
  have HO := Lib.hid (fun S => ((Out.refl S w).alloc (.cells #[.pointer (some ⟨tb, 0, none⟩)] 84)).alloc (.cells #[.pointer (some ⟨1, 84, none⟩), .pointer (some ⟨w.heap.size, 0, none⟩), .int .u64 150] 115))
  obtain ⟨ut, uv, rfl⟩ := err_nil h
  have HE := Lib.hid (h.same (w' := ((w.alloc (.cells #[.pointer (some ⟨tb, 0, none⟩)] 84)).alloc (.cells #[.pointer (some ⟨1, 84, none⟩), .pointer (some ⟨w.heap.size, 0, none⟩), .int .u64 150] 115))) fun k o _ ho => at_old _ (.cells #[.pointer (some ⟨1, 84, none⟩), .pointer (some ⟨w.heap.size, 0, none⟩), .int .u64 150] 115) (at_old w (.cells #[.pointer (some ⟨tb, 0, none⟩)] 84) ho))
  have HN := Lib.hid (show N ≤ ((w.alloc (.cells #[.pointer (some ⟨tb, 0, none⟩)] 84)).alloc (.cells #[.pointer (some ⟨1, 84, none⟩), .pointer (some ⟨w.heap.size, 0, none⟩), .int .u64 150] 115)).heap.size by simp; omega)
  clear h
  have HVC := Lib.hid HVc
  clear hg HW HV ht HVc
  go_enter Tryz.func35, Tryz.ntmps35
  go_wp2_with (go_at_call 68; refine (as_kind _ l c N tb w.heap.size old _ HE.out HN.out HT.out HVC.out).mono ?_; rintro e w' ⟨rfl, ho, hh⟩; replace ho := Lib.hid ho; replace hh := Lib.hid hh)
  go_ret
  exact ⟨rfl, (HO.out _).trans ho.out (fun _ _ h => h), hh.out⟩
end Go.Proofs.YtngangdjbbbbdaaGreatDoor.Flt
end

section
namespace Go.Proofs.YtngangdjbbbbdaaGreatDoor.Flt
open Go.RowKit Go.Proofs.YtngangdjbbbbdaaGreatDoor.Own

set_option maxHeartbeats 1000000 in
theorem of_calls (v : Value) (l : List Lay) (c : Int) (N : Nat) (w : World) (h : ErrN w N v l c) (hN : N ≤ w.heap.size) (hT : Tab w) :
    Calls Tryz.prog 11 #[v] w fun e w' => e = .returned (.int .i64 c) ∧ Below w.heap.size w w' := by
  rcases h with ⟨rfl, rfl, rfl⟩ | h
  · go_enter Tryz.func11, Tryz.ntmps11
    go_wp2_with fail
    go_ret
    exact ⟨rfl, Below.refl _ _⟩
  · obtain ⟨ut, uv, rfl⟩ := err_nil h
    have hb0 : Below w.heap.size w (w.alloc (.cells #[.int .i64 0] 82)) := (Below.refl _ _).alloc (Nat.le_refl _) _
    have HE := Lib.hid (h.below hb0 hN)
    have HN := Lib.hid (show N ≤ (w.alloc (.cells #[.int .i64 0] 82)).heap.size by simp; omega)
    have HT := Lib.hid (hT.below hb0)
    have HK := Lib.hid (at_new w (.cells #[.int .i64 0] 82))
    have HB := Lib.hid hb0
    have HS := Lib.hid (show w.heap.size ≤ (w.alloc (.cells #[.int .i64 0] 82)).heap.size by simp)
    clear h hb0 hT
    go_enter Tryz.func11, Tryz.ntmps11
    go_wp2_with (go_at_call 35; refine (asKind_calls _ l c N _ HE.out HN.out w.heap.size _ HT.out HK.out).mono ?_; rintro e w' ⟨rfl, ho, hh⟩; have hc := (at_cell hh 0); replace ho := Lib.hid ho; clear hh; simp only [List.getElem?_toArray, List.getElem?_cons_zero] at hc)
    go_ret
    exact ⟨rfl, HB.out.trans (ho.out.below HS.out (fun i hi => by omega))⟩

end Go.Proofs.YtngangdjbbbbdaaGreatDoor.Flt
end

section
namespace Go.Proofs.YtngangdjbbbbdaaGreatDoor.Sto
open Go.RowKit Go.Proofs.YtngangdjbbbbdaaGreatDoor.Own Go.Proofs.YtngangdjbbbbdaaGreatDoor.Flt

section
variable {w : World}
/-- the code of such an error -/
theorem of_told {v : Value} {c : Int} {k : Nat} (h : EAt w v c k) (hT : Tab w) : Calls Tryz.prog 11 #[v] w fun e w' => e = .returned (.int .i64 c) ∧ Below w.heap.size w w' := by
  obtain ⟨l, N, hN, hE⟩ := h.errN
  exact of_calls v l c N w hE hN hT
end
end Go.Proofs.YtngangdjbbbbdaaGreatDoor.Sto
end

section
namespace Go.Proofs.YtngangdjbbbbdaaGreatDoor.Rec
open Go.RowKit Go.Proofs.YtngangdjbbbbdaaGreatDoor.Own
section
open Go.ChangeShapes Go.WideShapes Go.Deep
variable {H : Type} {enc : TypeId × Value → H} {w : World} {spare : Nat → Bool} {held : Bool}
set_option maxRecDepth 100000 in
/-- a slice of items that came in, as it is handed -/
theorem its_open {v : Value} {d : DataW H} {p : List MemPlace} {base b0 : Nat} {r : Reach} (ho : Value.okWide Tryz.prog w r b0 23 v) (h : DataW.Trod enc Tryz.prog w base spare held 23 v d p) :
    ∃ xs q c, v = .slice q (List.length xs) c ∧ Its w xs q c := by
  obtain ⟨a, len, cap, rfl⟩ := okWide_slice Tryz.underlying23 ho
  obtain ⟨n, E, hrow, mm, hE⟩ := Own.args_slice Tryz.underlying23 (size := 3) (by kernel_rfl) (by omega) h ⟨_, _, _, rfl⟩
  exact its_arg hrow fun i hi => by
    obtain ⟨y, hy⟩ := hE i hi
    obtain ⟨m0, y0, h0⟩ := Own.leaf_field Tryz.underlying43 hy 0 _ rfl 0 1 rfl (by kernel_rfl) (by omega)
    obtain ⟨m1, y1, h1⟩ := Own.leaf_field Tryz.underlying43 hy 1 _ rfl 1 1 rfl (by kernel_rfl) (by omega)
    obtain ⟨m2, y2, h2⟩ := Own.leaf_field Tryz.underlying43 hy 2 _ rfl 2 1 rfl (by kernel_rfl) (by omega)
    obtain ⟨k, e0, _⟩ := Own.leaf_int Tryz.underlying3 h0
    obtain ⟨m, e1, _⟩ := Own.leaf_int Tryz.underlying3 h1
    obtain ⟨s, e2, _⟩ := Own.leaf_string Tryz.underlying9 h2
    exact ⟨k, m, s, by simpa using e0, by simpa using e1, by simpa using e2⟩
end
end Go.Proofs.YtngangdjbbbbdaaGreatDoor.Rec
end

section
namespace Go.Proofs.YtngangdjbbbbdaaGreatDoor.Flt
open Go.ChangeShapes Go.WideShapes Go.ChangeAt Go.RowKit

/-- the list of what the table holds -/
def laidL : List (String × DataW Unit) := Rows.restoreBeginsRow.laid
/-- the door's own heap meets the condition -/
theorem door_met (os : Os) (args : Array Value) : laidMetH Tryz.prog laidL ((World.doorLaid Tryz.prog 400 os).forCall (fun _ _ => 0) ⟨#[], args, []⟩).memory :=
  laidMetH_of_parts3 (fuel := 8) (laidMet_of_run' 8 (by kernel_rfl) (by kernel_rfl)) (by kernel_rfl) (by kernel_rfl)
theorem rt : (Tryz.prog.cutTypes.find? (·.1 == "internal/reflectlite.rtype")).map (·.2) = some 146 := by kernel_rfl
theorem oneRow : ((List.range 232).filter fun t => Tryz.prog.rowNamed t [101, 114, 114, 111, 114]) = [34] := by kernel_rfl
theorem sizeT : Tryz.prog.types.size = 232 := by kernel_rfl
theorem met_parts {W : World} (h : laidMetH Tryz.prog laidL W) : laidMet Tryz.prog [] W ∧ handlesMet Tryz.prog [Rows.restoreBeginsRow.laid[0]] W := h

theorem et_of {W : World} (h : laidMetH Tryz.prog laidL W) : W.cell? ⟨0, 0, none⟩ = some (.iface 146 (.agg #[.pointer (some ⟨1, 34, none⟩)])) := by
  obtain ⟨name, u, ty, e1, e2, e3, e4, e5⟩ := (met_parts h).2 _ (List.mem_singleton.2 rfl)
  have en : name = [101, 114, 114, 111, 114] := (Option.some.inj e1).symm
  subst en
  obtain rfl := Option.some.inj (rt.symm.trans e2)
  have hm : ty ∈ (List.range 232).filter fun t => Tryz.prog.rowNamed t [101, 114, 114, 111, 114] := List.mem_filter.2 ⟨List.mem_range.2 (by rw [← sizeT]; exact e3), e4⟩
  rw [oneRow] at hm
  obtain rfl := List.mem_singleton.1 hm
  have hh : typeHandle Tryz.prog 34 = .pointer (some ⟨1, 34, none⟩) := by kernel_rfl
  rw [hh] at e5
  have et : Tryz.prog.globalNamed (Rows.restoreBeginsRow.laid[0]).1 = some 0 := by kernel_rfl
  simpa using World.var?_cell et e5 0
theorem tab_of {W : World} (h : laidMetH Tryz.prog laidL W) : Tab W := ⟨et_of h⟩
end Go.Proofs.YtngangdjbbbbdaaGreatDoor.Flt
end


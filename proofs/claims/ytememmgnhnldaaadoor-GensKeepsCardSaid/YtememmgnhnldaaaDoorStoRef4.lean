/-
  Layer 11 (store): the document's own store: a file is put in its place.
-/
import Derived.Test.YtememmgnhnldaaaDoorStoRef3
import Derived.Deep.Slices
import Derived.Sort.Walk0
namespace Go.Proofs.YtememmgnhnldaaaDoor.Sto
open Go.RowKit Go.Proofs.YtememmgnhnldaaaDoor.Own
open Go.Proofs.YtememmgnhnldaaaDoor.Rw (str strs Row1 below_drew)

theorem below_nil {wo wx w1 : World} {v : Value} (hb : Below wo.heap.size wo wx) (hg : wx.grownBy w1 v.ownBlock) (hv : v.ownBlock = none) : Below wo.heap.size wo w1 :=
  hb.grown hg hb.size (fun k hk => by rw [hv] at hk; cases hk)
theorem grown_row {wo wx wy w1 : World} {v : Value} {n s : Nat} {e : TypeId} {xs : List Value} (ho : wx.ownsRow wo.heap.size e s v n xs) (hy : Below wo.heap.size wo wy) (hg : wy.grownBy w1 v.ownBlock) : Below wo.heap.size wo w1 :=
  hy.grown hg hy.size (fun k hk => (World.ownsRow.lt ho k hk).1)

/-- a row of files, cut in two -/
structure Halv (wo : World) (p : Option Addr) (n c k r : Nat) (xs ys : List Value) (p1 : Option Addr) (c1 : Nat) (p2 : Option Addr) (c2 : Nat) : Prop where
  s1 : ∀ W, (Instr.sliceAt 24 (.slice p n c) none (some (.int .i64 k)) none).run Tryd.prog W = .ok (.slice p1 k c1) W
  s2 : ∀ W, (Instr.sliceAt 24 (.slice p n c) (some (.int .i64 k)) none none).run Tryd.prog W = .ok (.slice p2 r c2) W
  q1 : p1 = none → k = 0 ∧ c1 = 0
  q2 : p2 = none → r = 0 ∧ c2 = 0
  h1 : ∀ w', Below wo.heap.size wo w' → ∀ ad, p1 = some ad → ∀ j u, xs[j]? = some u → w'.cell? (ad.add j) = some u
  h2 : ∀ w', Below wo.heap.size wo w' → ∀ ad, p2 = some ad → ∀ j u, ys[j]? = some u → w'.cell? (ad.add j) = some u
theorem halves {wo : World} {n c k r : Nat} {p : Option Addr} {M : List Fl} (h : Fs wo p c M) (hp : ∀ b o, p = some ⟨b, o, none⟩ → o = 0) (hsp : ∀ a, p = some a → ∃ b o, a = ⟨b, o, none⟩) (hn : M.length = n) (hr : n = k + r) : ∃ p1 c1 p2 c2, Halv wo p n c k r (fvs (M.take k)) (fvs (M.drop k)) p1 c1 p2 c2 := by
  have hel : Tryd.prog.elem 24 = 68 := by simp [Program.elem, Tryd.underlying24]
  have ht : Tryd.prog.underlying 24 = some (.slice (Tryd.prog.elem 24)) := by rw [hel]; exact Tryd.underlying24
  have hcap := h.cap
  have r1 : ∀ (W : World) (hk : k ≤ c), (Instr.sliceAt 24 (.slice p n c) none (some (.int .i64 k)) none).run Tryd.prog W = .ok (sliced p 0 k c 3) W := by
    intro W hk
    rw [run_sliceAt_slice W _ _ _ _ _ ht, run_slice_h W _ _ _ _ ht .i64 k (by omega) (by omega), hel, Tryd.sizeOf68, Int.toNat_natCast]; rfl
  have r2 : ∀ (W : World), (Instr.sliceAt 24 (.slice p n c) (some (.int .i64 k)) none none).run Tryd.prog W = .ok (sliced p k n c 3) W := by
    intro W
    rw [run_sliceAt_slice W _ _ _ _ _ ht, run_slice_l W _ _ _ _ ht .i64 k (by omega) (by omega), hel, Tryd.sizeOf68, Int.toNat_natCast]; rfl
  cases hpp : p with
  | none =>
    subst hpp
    have h0 := h.nil rfl
    subst h0
    obtain rfl : k = 0 := by omega
    obtain rfl : r = 0 := by omega
    obtain rfl : n = 0 := by omega
    exact ⟨none, 0, none, 0, fun W => by rw [r1 W (by omega)]; simp [sliced], fun W => by rw [r2 W]; simp [sliced], fun _ => ⟨rfl, rfl⟩, fun _ => ⟨rfl, rfl⟩, by rintro _ _ _ ⟨⟩, by rintro _ _ _ ⟨⟩⟩
  | some a =>
    obtain ⟨g, o, rfl⟩ := hsp a hpp
    obtain rfl := hp g o hpp
    subst hpp
    have hcell : ∀ w', Below wo.heap.size wo w' → ∀ j u, (fvs M)[j]? = some u → w'.cell? ⟨g, j, none⟩ = some u := fun w' hb j u hu => by
      rcases h.cells with h0 | ⟨b, o, e, hl, hc⟩
      · rw [h0] at hu; simp [fvs] at hu
      · cases e
        have := hc j u hu
        rw [Nat.zero_add] at this
        exact (hb.cell (p := ⟨g, j, none⟩) hl).trans this
    have ht1 : fvs (M.take k) = (fvs M).take (k * 3) := by
      have e := fvs_app (M.take k) (M.drop k)
      rw [List.take_append_drop] at e
      have hl : (fvs (M.take k)).length = k * 3 := by rw [fvs_len, List.length_take]; omega
      rw [e, ← hl, List.take_left]
    have ht2 : fvs (M.drop k) = (fvs M).drop (k * 3) := by
      have e := fvs_app (M.take k) (M.drop k)
      rw [List.take_append_drop] at e
      have hl : (fvs (M.take k)).length = k * 3 := by rw [fvs_len, List.length_take]; omega
      rw [e, ← hl, List.drop_left]
    refine ⟨some ⟨g, 0, none⟩, c, some (if c = k then ⟨g, 0, none⟩ else ⟨g, k * 3, none⟩), c - k, fun W => ?_, fun W => ?_, (fun h => nomatch h), (fun h => nomatch h), ?_, ?_⟩
    · rw [r1 W (by omega)]
      simp only [sliced, Option.map_some, Nat.zero_mul, Nat.sub_zero]
      split <;> simp [add0]
    · rw [r2 W]
      simp only [sliced, Option.map_some, add0, show n - k = r by omega]
      split <;> rfl
    · rintro w' hb ad ⟨⟩ j u hu
      rw [add0]
      refine hcell w' hb j u ?_
      rw [ht1, List.getElem?_take] at hu
      split at hu
      · exact hu
      · cases hu
    · rintro w' hb ad ⟨⟩ j u hu
      have hj := (List.getElem?_eq_some_iff.1 hu).1
      rw [fvs_len, List.length_drop] at hj
      rw [if_neg (by omega)]
      have : (⟨g, k * 3, none⟩ : Addr).add j = ⟨g, k * 3 + j, none⟩ := by cases j <;> simp [Addr.add]
      rw [this]
      rw [ht2, List.getElem?_drop] at hu
      exact hcell w' hb _ u hu

theorem low_take {M : List Fl} {a : Bs} {k : Nat} (hk : k ≤ M.length) (h1 : ∀ j (hj : j < M.length), j < k → M[j].nm < a) (h2 : ∀ h : k < M.length, ¬ M[k].nm < a) : low Fl.nm M a = M.take k ∧ high Fl.nm M a = M.drop k := by
  induction M generalizing k with
  | nil => simp [low, high]
  | cons x r ih =>
    cases k with
    | zero =>
      have := h2 (by simp)
      simp only [List.getElem_cons_zero] at this
      exact ⟨by rw [low, List.takeWhile_cons_of_neg (by simpa using this)]; rfl, by rw [high, List.dropWhile_cons_of_neg (by simpa using this)]; rfl⟩
    | succ k =>
      have hx := h1 0 (by simp) (by omega)
      simp only [List.getElem_cons_zero] at hx
      obtain ⟨e1, e2⟩ := ih (k := k) (by simpa using hk) (fun j hj hjk => by have := h1 (j + 1) (by simpa using hj) (by omega); simpa using this) (fun h => by have := h2 (by simpa using h); simpa using this)
      exact ⟨by rw [low, List.takeWhile_cons_of_pos (by simpa using hx)]; rw [low] at e1; rw [e1]; rfl, by rw [high, List.dropWhile_cons_of_pos (by simpa using hx)]; rw [high] at e2; rw [e2]; rfl⟩
theorem less_b (a b : Bs) : Op.bytesLess a b = decide (a < b) := bytesLess_eq a b

/-- what is put: a row of its own -/
def WithPost (w : World) (L : List Fl) (e : Ending) (w' : World) : Prop := ∃ v, e = .returned v ∧ WoAt w w' L v

set_option maxRecDepth 100000 in
set_option maxHeartbeats 8000000 in
theorem with_calls (L : List Fl) (p : Option Addr) (c n : Nat) (hn : L.length = n) (hN : n ≤ 1000000) (f : Fl) (w : World) (h : Fs w p c L) :
    Calls Tryd.prog 35 #[.slice p n c, .agg #[str f.nm, str f.bs, .int .i64 (f.sure : Int)]] w (WithPost w (fpt L f)) := by
  obtain ⟨i0, hi, hz0, hz1, hz2⟩ := info_parts info_file
  obtain ⟨x, hx⟩ : ∃ s : ByteArray, s = ⟨(f.nm).toArray⟩ := ⟨_, rfl⟩
  obtain ⟨y, hy⟩ : ∃ s : ByteArray, s = ⟨(f.bs).toArray⟩ := ⟨_, rfl⟩
  obtain ⟨S, hS⟩ : ∃ s : Int, s = (f.sure : Int) := ⟨_, rfl⟩
  have hfv : fvs [f] = [.string x, .string y, .int .i64 S] := by rw [hx, hy, hS]; rfl
  rw [str, str, ← hx, ← hy, ← hS]
  have hxn : x.data.toList = f.nm := by rw [hx]
  have hb0 : Below w.heap.size w (w.alloc (.cells #[.string x, .string y, .int .i64 S] 68 (0, 0))) := (Below.refl _ _).alloc (Nat.le_refl _) _
  have hW := Lib.hid (without_calls L p c n hn hN x _ (h.below hb0))
  have hlen : (fwo L x.data.toList).length ≤ 1000000 := Nat.le_trans (wo_len _ _) (by omega)
  rw [hxn] at hW hlen
  have HX := Lib.hid (And.intro hxn hfv)
  have hB0 := Lib.hid hb0
  have N1 := Lib.hid (at_new w (.cells #[.string x, .string y, .int .i64 S] 68 (0, 0)))
  clear hx hy hS hfv hxn hb0 h hn
  go_enter Tryd.func35, Tryd.ntmps35
  go_wp2_with fail
  refine hW.out.mono ?_
  rintro e wo ⟨v0, rfl, hown0, hb1⟩
  obtain ⟨M, hM⟩ : ∃ M, fwo L f.nm = M := ⟨_, rfl⟩
  rw [hM] at hown0 hlen
  have HM := Lib.hid hM
  obtain ⟨hnn, p0, c0, rfl, hF, hB⟩ := fs_own hown0
  have hshape : (∀ b o, p0 = some ⟨b, o, none⟩ → o = 0) ∧ ∀ a, p0 = some a → ∃ b o, a = ⟨b, o, none⟩ := by
    rcases hown0.2 with ⟨e, _⟩ | ⟨g, cap, cur, e, _⟩
    · obtain ⟨rfl, -, -⟩ := Value.slice.inj e; exact ⟨fun b o h => (by cases h), fun a h => (by cases h)⟩
    · obtain ⟨rfl, -, -⟩ := Value.slice.inj e; exact ⟨fun b o h => (by cases h; rfl), fun a h => (by cases h; exact ⟨_, _, rfl⟩)⟩
  obtain ⟨n1, hn1⟩ : ∃ n1, M.length = n1 := ⟨_, rfl⟩
  rw [hn1] at hlen ⊢
  have hbw : Hid (Below w.heap.size w wo) := Lib.hid (hB0.out.trans (hb1.mono (by simp)))
  have hmm := hF.max
  have hcc := hF.cap
  rw [hn1] at hcc
  have HF := Lib.hid hF
  have HL := Lib.hid hn1
  have HSH := Lib.hid hshape
  have b0 := (at_cell ((hb1.block _ (at_lt N1.out)).trans N1.out) 0 : _ = some _)
  have b1 := (at_cell ((hb1.block _ (at_lt N1.out)).trans N1.out) 1 : _ = some _)
  have b2 := (at_cell ((hb1.block _ (at_lt N1.out)).trans N1.out) 2 : _ = some _)
  have hbl : w.heap.size < wo.heap.size := Nat.lt_of_lt_of_le (at_lt N1.out) hb1.size
  clear hM hF hown0 hnn hB hshape hn1 hb1
  go_wp2_with fail
  go_loopw [5] (fun u wx => ∃ k m : Nat, k ≤ n1 ∧ u = .int .i64 k ∧ wx = wo.drewN m ∧ Hid (∀ j (hj : j < M.length), j < k → M[j].nm < f.nm)) (fun u _ => n1 - (intOf u).toNat)
  case atStart => exact ⟨0, 0, by omega, rfl, rfl, Lib.hid fun j hj h => absurd h (by omega)⟩
  case round =>
    obtain ⟨k, m, hk, rfl, rfl, HLow⟩ := hrel
    by_cases hkn : k < n1
    · have hkM : k < M.length := by rw [HL.out]; exact hkn
      obtain ⟨b, o, rfl, hbl2, d0, -, -⟩ := HF.out.at_ hkM
      obtain ⟨z, hz⟩ : ∃ s : ByteArray, s = ⟨(M[k].nm).toArray⟩ := ⟨_, rfl⟩
      rw [str, ← hz] at d0
      have hzn : Hid (z.data.toList = M[k].nm) := Lib.hid (by rw [hz])
      have q1 : (k : Int) < (n1 : Int) := by omega
      have q2 : decide ((k : Int) < (n1 : Int)) = true := decide_eq_true q1
      have q3 : (n1 : Int) ≤ 9223372036854775807 := by unfold maxLen at hmm; omega
      have hl := less_b z.toList x.toList
      clear hz
      by_cases hyx : M[k].nm < f.nm
      · have hzx : z.toList < x.toList := by rw [ByteArray.toList_eq, ByteArray.toList_eq, hzn.out, HX.out.1]; exact hyx
        rw [decide_eq_true hzx] at hl
        replace hyx := Lib.hid hyx
        replace hzx := Lib.hid hzx
        go_wp2_with fail
        go_quiet (fail)
        go_wp2_with fail
        go_roundw
        case rel =>
          refine ⟨k + 1, _, by omega, by go_num, rfl, Lib.hid fun j hj hjk => ?_⟩
          by_cases hjk' : j < k
          · exact HLow.out j hj hjk'
          · obtain rfl : j = k := by omega
            exact hyx.out
        case measure => simp [intOf]; omega
      · have hzx : ¬ z.toList < x.toList := by rw [ByteArray.toList_eq, ByteArray.toList_eq, hzn.out, HX.out.1]; exact hyx
        rw [decide_eq_false hzx] at hl
        replace hyx := Lib.hid hyx
        replace hzx := Lib.hid hzx
        go_wp2_with fail
        go_quiet (fail)
        have HHI : ∀ h : k < M.length, ¬ M[k].nm < f.nm := fun _ => hyx.out
        obtain ⟨e1, e2⟩ := low_take (M := M) (a := f.nm) (k := k) (by rw [HL.out]; omega) HLow.out HHI
        obtain ⟨r, hr⟩ : ∃ r, n1 = k + r := ⟨n1 - k, by omega⟩
        obtain ⟨p1, c1, p2, c2, HV⟩ := halves HF.out HSH.out.1 HSH.out.2 HL.out hr
        have hs1 := HV.s1
        have hs2 := HV.s2
        have HQ1 := Lib.hid HV.q1
        have HQ2 := Lib.hid HV.q2
        have HC1 := Lib.hid HV.h1
        have HC2 := Lib.hid HV.h2
        have HE := Lib.hid (show pt Fl.nm L f = M.take k ++ [f] ++ M.drop k by
          unfold pt
          have e0 : Sto.wo Fl.nm L f.nm = M := HM.out
          rw [e0, e1, e2]; simp)
        have hr2 : k + r ≤ n1 := Nat.le_of_eq hr.symm
        have hr3 : n1 ≤ k + r := Nat.le_of_eq hr
        have hl1 : M.length ≤ n1 := Nat.le_of_eq HL.out
        have hl2 : n1 ≤ M.length := Nat.le_of_eq HL.out.symm
        replace hr := Lib.hid hr
        clear HV e1 e2
        go_wp2_with (first
          | (at_builtin; refine Own.append_any rfl (.tmp 27) (.tmp 30) 24 rfl wo.heap.size 68 i0 _ 3 40 Tryd.underlying24 hi hz0 hz1 hz2 rfl (by decide) _ _ _ rfl (World.ownsRow_nil _ _ _ _) p1 k c1 (fvs (M.take k)) rfl HQ1.out (by rw [fvs_len, List.length_take]; omega) (HC1.out _ (by first | exact Below.refl _ _ | exact below_drew (Below.refl _ _) | exact below_drew (below_drew (Below.refl _ _)) | exact below_drew (below_drew (below_drew (Below.refl _ _))))) (fvs_one _) (by unfold maxLen; omega) (by omega) (by first | exact Nat.le_refl _ | (simp; omega)) ?_; intro v1 w1 hown1 hgrow1
             have hb1 : Below wo.heap.size wo w1 := below_nil (by first | exact below_drew (Below.refl _ _) | exact below_drew (below_drew (Below.refl _ _)) | exact below_drew (below_drew (below_drew (Below.refl _ _)))) (v := .slice none 0 0) hgrow1 rfl
             have ho1 : w1.ownsRow wo.heap.size 68 3 v1 k (fvs (M.take k)) := by simpa using hown1
             have g0 := (hb1.cell (p := ⟨w.heap.size, 0, none⟩) hbl).trans b0
             have g1 := (hb1.cell (p := ⟨w.heap.size, 1, none⟩) hbl).trans b1
             have g2 := (hb1.cell (p := ⟨w.heap.size, 2, none⟩) hbl).trans b2
             have hsw1 := hb1.size
             have HB1 := Lib.hid hb1
             clear hown1 hgrow1 hb1)
          | (at_builtin; refine Own.append_any rfl (.tmp 32) (.tmp 34) 24 rfl wo.heap.size 68 i0 _ 3 40 Tryd.underlying24 hi hz0 hz1 hz2 rfl (by decide) _ _ _ rfl (World.ownsRow.alloc ho1 _) _ 1 1 [.string x, .string y, .int .i64 S] rfl (fun h => nomatch h) rfl (three_new _ _ _ _ _ _ rfl) (by rw [← HX.out.2]; exact fvs_one _) (by unfold maxLen; omega) (by omega) (by simp; omega) ?_; intro v1 w1 hown1 hgrow1
             have hb2 := grown_row ho1 (HB1.out.alloc hsw1 _) hgrow1
             have ho2 := hown1
             have hsw2 := hb2.size
             have HB2 := Lib.hid hb2
             clear hown1 hgrow1 hb2)
          | (at_builtin; refine Own.append_any rfl (.tmp 36) (.tmp 39) 24 rfl wo.heap.size 68 i0 _ 3 40 Tryd.underlying24 hi hz0 hz1 hz2 rfl (by decide) _ _ _ rfl ho2 p2 r c2 (fvs (M.drop k)) rfl HQ2.out (by rw [fvs_len, List.length_drop]; omega) (HC2.out _ HB2.out) (fvs_one _) (by unfold maxLen; omega) (by omega) hsw2 ?_; intro v1 w1 hown1 hgrow1
             have hb3 := grown_row ho2 HB2.out hgrow1
             have HB3 := Lib.hid hb3
             have HO3 := Lib.hid hown1
             clear hown1 hgrow1 hb3))
        go_ret
        refine ⟨_, rfl, ?_, hbw.out.trans (HB3.out.mono hbw.out.size)⟩
        have e3 := HE.out
        unfold fpt
        rw [e3]
        have e4 : (M.take k ++ [f] ++ M.drop k).length = k + 1 + r := by simp; omega
        rw [e4, fvs_app, fvs_app, HX.out.2]
        exact Rw.own_base HO3.out hbw.out.size
    · have q1 : ¬ (k : Int) < (n1 : Int) := by omega
      have q2 : decide ((k : Int) < (n1 : Int)) = false := decide_eq_false q1
      go_wp2_with fail
      go_quiet (fail)
      have HHI : ∀ h : k < M.length, ¬ M[k].nm < f.nm := fun h => absurd h (by have := HL.out; omega)
      obtain ⟨e1, e2⟩ := low_take (M := M) (a := f.nm) (k := k) (by rw [HL.out]; omega) HLow.out HHI
      obtain ⟨r, hr⟩ : ∃ r, n1 = k + r := ⟨n1 - k, by omega⟩
      obtain ⟨p1, c1, p2, c2, HV⟩ := halves HF.out HSH.out.1 HSH.out.2 HL.out hr
      have hs1 := HV.s1
      have hs2 := HV.s2
      have HQ1 := Lib.hid HV.q1
      have HQ2 := Lib.hid HV.q2
      have HC1 := Lib.hid HV.h1
      have HC2 := Lib.hid HV.h2
      have HE := Lib.hid (show pt Fl.nm L f = M.take k ++ [f] ++ M.drop k by
        unfold pt
        have e0 : Sto.wo Fl.nm L f.nm = M := HM.out
        rw [e0, e1, e2]; simp)
      have hr2 : k + r ≤ n1 := Nat.le_of_eq hr.symm
      have hr3 : n1 ≤ k + r := Nat.le_of_eq hr
      have hl1 : M.length ≤ n1 := Nat.le_of_eq HL.out
      have hl2 : n1 ≤ M.length := Nat.le_of_eq HL.out.symm
      replace hr := Lib.hid hr
      clear HV e1 e2
      go_wp2_with (first
        | (at_builtin; refine Own.append_any rfl (.tmp 27) (.tmp 30) 24 rfl wo.heap.size 68 i0 _ 3 40 Tryd.underlying24 hi hz0 hz1 hz2 rfl (by decide) _ _ _ rfl (World.ownsRow_nil _ _ _ _) p1 k c1 (fvs (M.take k)) rfl HQ1.out (by rw [fvs_len, List.length_take]; omega) (HC1.out _ (by first | exact Below.refl _ _ | exact below_drew (Below.refl _ _) | exact below_drew (below_drew (Below.refl _ _)) | exact below_drew (below_drew (below_drew (Below.refl _ _))))) (fvs_one _) (by unfold maxLen; omega) (by omega) (by first | exact Nat.le_refl _ | (simp; omega)) ?_; intro v1 w1 hown1 hgrow1
           have hb1 : Below wo.heap.size wo w1 := below_nil (by first | exact below_drew (Below.refl _ _) | exact below_drew (below_drew (Below.refl _ _)) | exact below_drew (below_drew (below_drew (Below.refl _ _)))) (v := .slice none 0 0) hgrow1 rfl
           have ho1 : w1.ownsRow wo.heap.size 68 3 v1 k (fvs (M.take k)) := by simpa using hown1
           have g0 := (hb1.cell (p := ⟨w.heap.size, 0, none⟩) hbl).trans b0
           have g1 := (hb1.cell (p := ⟨w.heap.size, 1, none⟩) hbl).trans b1
           have g2 := (hb1.cell (p := ⟨w.heap.size, 2, none⟩) hbl).trans b2
           have hsw1 := hb1.size
           have HB1 := Lib.hid hb1
           clear hown1 hgrow1 hb1)
        | (at_builtin; refine Own.append_any rfl (.tmp 32) (.tmp 34) 24 rfl wo.heap.size 68 i0 _ 3 40 Tryd.underlying24 hi hz0 hz1 hz2 rfl (by decide) _ _ _ rfl (World.ownsRow.alloc ho1 _) _ 1 1 [.string x, .string y, .int .i64 S] rfl (fun h => nomatch h) rfl (three_new _ _ _ _ _ _ rfl) (by rw [← HX.out.2]; exact fvs_one _) (by unfold maxLen; omega) (by omega) (by simp; omega) ?_; intro v1 w1 hown1 hgrow1
           have hb2 := grown_row ho1 (HB1.out.alloc hsw1 _) hgrow1
           have ho2 := hown1
           have hsw2 := hb2.size
           have HB2 := Lib.hid hb2
           clear hown1 hgrow1 hb2)
        | (at_builtin; refine Own.append_any rfl (.tmp 36) (.tmp 39) 24 rfl wo.heap.size 68 i0 _ 3 40 Tryd.underlying24 hi hz0 hz1 hz2 rfl (by decide) _ _ _ rfl ho2 p2 r c2 (fvs (M.drop k)) rfl HQ2.out (by rw [fvs_len, List.length_drop]; omega) (HC2.out _ HB2.out) (fvs_one _) (by unfold maxLen; omega) (by omega) hsw2 ?_; intro v1 w1 hown1 hgrow1
           have hb3 := grown_row ho2 HB2.out hgrow1
           have HB3 := Lib.hid hb3
           have HO3 := Lib.hid hown1
           clear hown1 hgrow1 hb3))
      go_ret
      refine ⟨_, rfl, ?_, hbw.out.trans (HB3.out.mono hbw.out.size)⟩
      have e3 := HE.out
      unfold fpt
      rw [e3]
      have e4 : (M.take k ++ [f] ++ M.drop k).length = k + 1 + r := by simp; omega
      rw [e4, fvs_app, fvs_app, HX.out.2]
      exact Rw.own_base HO3.out hbw.out.size
end Go.Proofs.YtememmgnhnldaaaDoor.Sto

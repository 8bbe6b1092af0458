/-
  Layer 11 (store): the document's own Crash.
-/
import Derived.Test.YtejhggjehmioaaaDoorStoRef5
import Derived.Deep.AppendLies
import Derived.Deep.RegionWith
namespace Go.Proofs.YtejhggjehmioaaaDoor.Sto
open Go.RowKit Go.Proofs.YtejhggjehmioaaaDoor.Own
open Go.Proofs.YtejhggjehmioaaaDoor.Rw (str strs Row1 below_drew)

theorem to_cut {P : Program} (t : TypeId) (ht : P.underlying t = some .string) (s : ByteArray) (j : Int) (h0 : 0 ≤ j) (h : j ≤ s.size) (W : World) :
    (Instr.sliceAt t (.string s) none (some (.int .i64 j)) none).run P W = .ok (.string (s.extract 0 j.toNat)) W := by
  rw [run_sliceAt_string W t _ _ _ _ ht, run_slice_string_to_if W t s .i64 j ht, if_pos ⟨h0, h⟩]
theorem ext_list (s : ByteArray) (b : Nat) : (s.extract 0 b).data.toList = s.data.toList.take b := by
  obtain ⟨l, rfl⟩ : ∃ l : List UInt8, s = ⟨l.toArray⟩ := ⟨s.data.toList, by cases s; simp⟩
  rw [ByteArray.extract_mk]
  simp
theorem three_far (w : World) (x y z : Value) (T : TypeId) : ∀ j u, [x, y, z][j]? = some u → (w.alloc (.cells #[x, y, z] T (0, 0))).drew.cell? ((⟨w.heap.size, 0, none⟩ : Addr).add j) = some u := fun j u hu =>
  World.news_of_block (w := (w.alloc (.cells #[x, y, z] T (0, 0))).drew) (B := w.heap.size) (cs := #[x, y, z]) (t := T) (fr := (0, 0)) (at_new w _) j u (by simpa using hu)
theorem crs_take (L : List Fl) (ks : List Int) {k : Nat} (h : k < L.length) : (crsL L ks).take (k + 1) = (crsL L ks).take k ++ [cutF L[k] (ks.getD k 0)] := by
  rw [List.take_add_one, List.getElem?_eq_getElem (by rw [crs_len]; exact h), crs_at L ks k h]; rfl
theorem WoAt.into {w wr : World} {M : List Fl} {v : Value} (h : WoAt w wr M v) (o : Obj) (m : Nat) : WoAt w ((wr.alloc o).drewN m) M v :=
  ⟨(World.ownsRow.alloc h.own o : ((wr.alloc o).drewN m).ownsRow w.heap.size 76 3 v M.length (fvs M)), below_drew (h.below.alloc h.below.size o)⟩
theorem WoAt.into0 {w wr : World} {M : List Fl} {v : Value} (h : WoAt w wr M v) (o : Obj) : WoAt w (wr.alloc o) M v :=
  ⟨World.ownsRow.alloc h.own o, h.below.alloc h.below.size o⟩
theorem below_alloc_drew {B : Nat} (w : World) (o : Obj) (h : B ≤ w.heap.size) : Below B w (w.alloc o).drew := by
  have k := (Below.refl B w).alloc h o
  exact ⟨k.os, k.tape, k.output, k.size, k.block⟩
/-- what Crash leaves -/
def CrashPost (w : World) (most : Int) (n : Nat) (M : List Fl) (e : Ending) (w' : World) : Prop :=
  ∃ p' c', e = .returned (rv p' n c' most 0) ∧ Fs w' p' c' M ∧ Below w.heap.size w w' ∧ ∀ b o, p' = some ⟨b, o, none⟩ → w.heap.size ≤ b ∧ b < w'.heap.size
theorem CrashPost.of {w W wr w' : World} {most : Int} {n : Nat} {M : List Fl} {e : Ending} {p' : Option Addr} {c' : Nat} (hW : WoAt W wr M (.slice p' n c')) (hb : Below w.heap.size w W) (he : e = .returned (rv p' n c' most 0))
    (hk : Below w.heap.size w w') (hs : ∀ k, W.heap.size ≤ k → k < wr.heap.size → w'.heap[k]? = wr.heap[k]?) : CrashPost w most n M e w' := by
  obtain ⟨-, p2, c2, e2, hF, hB⟩ := fs_own hW.own
  cases e2
  have hlt : ∀ b o, p' = some ⟨b, o, none⟩ → b < w'.heap.size := fun b o h => by
    have hb2 := World.ownsRow.lt hW.own b (by rw [h]; rfl)
    have hs2 := hs b hb2.1 hb2.2
    have h3 := Array.getElem?_eq_getElem hb2.2
    rw [← hs2] at h3
    exact (Array.getElem?_eq_some_iff.1 h3).1
  refine ⟨p', c', he, ⟨hF.cap, hF.max, hF.nil, hF.cells.imp id fun ⟨b, o, e, hl, k⟩ => ?_⟩, hk, fun b o h => ⟨Nat.le_trans hb.size (hB b o h), hlt b o h⟩⟩
  have hs2 := hs b (hB b o e) hl
  exact ⟨b, o, e, hlt b o e, fun j u hu => (World.cell?_of_block (a := ⟨b, o + j, none⟩) hs2).trans (k j u hu)⟩

set_option maxRecDepth 100000 in
set_option maxHeartbeats 8000000 in
theorem rcrash_calls (L : List Fl) (p : Option Addr) (c n : Nat) (hn : L.length = n) (hN : n ≤ 1000000) (most bad : Int) (hs : ∀ x ∈ L, x.sure ≤ x.bs.length) (ht : tot L ≤ 16777216) (w : World) (h : Fs w p c L)
    (q : Option Addr) (d K : Nat) (ks : List Int) (hK : ks.length = K) (hk : Row1 w q d (ks.map fun k => .int .i64 k)) (hr : ∀ i, -9223372036854775808 ≤ ks.getD i 0 ∧ ks.getD i 0 ≤ 9223372036854775807) :
    Calls Tryd.prog 34 #[rv p n c most bad, .slice q K d] w (CrashPost w most n (crsL L ks)) := by
  obtain ⟨i0, hi, hz0, hz1, hz2⟩ := info_parts info_file
  have H := Lib.hid h
  have HN := Lib.hid hn
  have HK := Lib.hid hk
  have HKn := Lib.hid hK
  have HR := Lib.hid hr
  have HS := Lib.hid hs
  have HT := Lib.hid ht
  have hc := h.cap
  have hm := h.max
  have hc2 := hk.cap
  have hm2 := hk.max
  rw [hn] at hc
  simp only [List.length_map, hK] at hc2
  have A0 := Lib.hid (RefA.start w (.slice p n c) (.int .i64 most) (.int .i64 bad))
  obtain ⟨W0, hW0⟩ : ∃ W, (w.alloc (.cells #[.slice p n c, .int .i64 most, .int .i64 bad] 33 (0, 0))).alloc (.cells #[.slice none 0 0, .int .i64 0, .int .i64 0] 33 (0, 0)) = W := ⟨_, rfl⟩
  rw [hW0] at A0
  clear h hn hk hK hr hs ht
  go_enter Tryd.func34, Tryd.ntmps34
  go_wp2_with fail
  clear hW0
  go_loopw [5, 6, 7, 8] (fun v i _ _ wr => ∃ k : Nat, k ≤ n ∧ i = .int .i64 k ∧ WoAt W0 wr ((crsL L ks).take k) v) (fun _ i _ _ _ => n - (intOf i).toNat)
  case atStart => exact ⟨0, by omega, rfl, by rw [List.take_zero]; exact WoAt.start W0⟩
  case round =>
    rename World => wo_
    obtain ⟨k, hk, rfl, C⟩ := hrel
    have A1 := Lib.hid (A0.out.step C.below)
    have n0 := (at_cell A1.out.box 0 : _ = some _)
    by_cases hlt : k < n
    · have hkL : k < L.length := by rw [HN.out]; exact hlt
      obtain ⟨b, o, rfl, hbl, c0, c1, c2⟩ := (H.out.below A1.out.below).at_ hkL
      obtain ⟨x, hx⟩ : ∃ s : ByteArray, s = ⟨(L[k].nm).toArray⟩ := ⟨_, rfl⟩
      obtain ⟨y, hy⟩ : ∃ s : ByteArray, s = ⟨(L[k].bs).toArray⟩ := ⟨_, rfl⟩
      obtain ⟨S, hS⟩ : ∃ S, L[k].sure = S := ⟨_, rfl⟩
      rw [str, ← hx] at c0
      rw [str, ← hy] at c1
      rw [hS] at c2
      have hys : y.size = L[k].bs.length := by rw [hy]; rfl
      have hSy : S ≤ y.size := by rw [hys, ← hS]; exact HS.out _ (List.getElem_mem hkL)
      have hyl : y.size ≤ 16777216 := by rw [hys]; exact Nat.le_trans (len_tot (List.getElem_mem hkL)) HT.out
      obtain ⟨kk, hkk⟩ : ∃ kk, ks.getD k 0 = kk := ⟨_, rfl⟩
      obtain ⟨r1, r2⟩ := HR.out k
      rw [hkk] at r1 r2
      obtain ⟨N, hNN⟩ : ∃ N, cutN L[k] kk = N := ⟨_, rfl⟩
      have hNd : (N : Int) = S + min (max kk 0) ((y.size : Int) - S) := by rw [← hNN, hys, ← hS]; have := HS.out _ (List.getElem_mem hkL); unfold cutN; omega
      have hNy : N ≤ y.size := by omega
      obtain ⟨z, hz⟩ : ∃ z, y.extract 0 N = z := ⟨_, rfl⟩
      have hzl := ext_list y N
      have hcut := fun W => to_cut (P := Tryd.prog) 9 Tryd.underlying9 y N (by omega) (by omega) W
      rw [Int.toNat_natCast] at hcut
      rw [hz] at hcut hzl
      have hfv : fvs [cutF L[k] kk] = [.string x, .string z, .int .i64 (N : Int)] := by
        have e1 : z = ⟨(L[k].bs.take N).toArray⟩ := by
          cases z with | mk a => 
          simp only at hzl
          congr 1
          apply Array.toList_inj.1
          rw [hzl, hy]
        rw [hx, e1, ← hNN]; rfl
      have HFV := Lib.hid hfv
      have hsn := crs_take L ks hkL
      rw [hkk] at hsn
      have HSN := Lib.hid hsn
      have hMl : ((crsL L ks).take k).length = k := by rw [List.length_take, crs_len]; omega
      obtain ⟨M, hM⟩ : ∃ M, (crsL L ks).take k = M := ⟨_, rfl⟩
      rw [hM] at C hMl
      have HM := Lib.hid hM
      have HC := Lib.hid C
      have z0 := C.below.size
      have q1 : (k : Int) < (n : Int) := by omega
      have q2 : (n : Int) ≤ 9223372036854775807 := by unfold maxLen at hm; omega
      have q3 : (K : Int) ≤ 9223372036854775807 := by unfold maxLen at hm2; omega
      have HKK := Lib.hid hkk
      have HNd := Lib.hid hNd
      clear hx hy hS hfv hsn hM C hz hzl hNN hkk hNd hys
      by_cases hkK : k < K
      · have hkc := HK.out.below A1.out.below
        rcases hkc.cells with h0 | ⟨g, go, rfl, hgl, hgc⟩
        · have := HKn.out
          have : ks = [] := by simpa using h0
          subst this
          simp at this; omega
        · have d0 := hgc k (.int .i64 kk) (by rw [← HKK.out]; simp [List.getD, List.getElem?_eq_getElem (show k < ks.length by rw [HKn.out]; exact hkK)])
          have q4 : (k : Int) < (K : Int) := by omega
          have b4 : decide ((k : Int) < (K : Int)) = true := by simpa using q4
          clear hkc hgc
          by_cases hp : 0 < kk
          · have b5 : decide (0 < kk) = true := by simpa using hp
            obtain ⟨Q, hQ⟩ : ∃ Q, min kk ((y.size : Int) - S) = Q := ⟨_, rfl⟩
            have hw1 : IntKind.i64.wrap ((y.size : Int) - S) = (y.size : Int) - S := by unfold IntKind.wrap IntKind.bits IntKind.signed; simp; omega
            have hNQ : (S : Int) + Q = N := by have := HNd.out; omega
            have q6 : 0 ≤ Q := by omega
            have q7 : Q ≤ y.size := by omega
            go_wp2_with fail
            go_quiet (fail)
            go_wp2_with fail
            obtain ⟨W3, hW3⟩ : ∃ W, (wo_.alloc (.cells #[.string x, .string y, .int .i64 (S : Int)] 76 (0, 0))).drewN nq = W := ⟨_, rfl⟩
            have HC3 : Hid (WoAt W0 W3 M u5) := Lib.hid (by rw [← hW3]; exact HC.out.into _ nq)
            have e0 : W3.cell? ⟨wo_.heap.size, 0, none⟩ = some (.string x) := by rw [← hW3]; exact (at_cell (at_new wo_ (.cells #[.string x, .string y, .int .i64 (S : Int)] 76 (0, 0))) 0)
            have e1 : W3.cell? ⟨wo_.heap.size, 1, none⟩ = some (.string y) := by rw [← hW3]; exact (at_cell (at_new wo_ (.cells #[.string x, .string y, .int .i64 (S : Int)] 76 (0, 0))) 1)
            rw [hW3]
            clear hW3
            have z3 := HC3.out.below.size
            have hownA := fun o => (World.ownsRow.alloc HC3.out.own o : (W3.alloc o).drew.ownsRow W0.heap.size 76 3 u5 M.length (fvs M))
            have HA := Lib.hid hownA
            clear hownA
            go_region_law (refine step_append_lies _ rfl (.tmp 47) (.tmp 56) 31 rfl W0.heap.size 76 i0 _ 3 40 Tryd.underlying31 hi hz0 hz1 hz2 rfl (by decide) _ _ _ rfl (HA.out _) ⟨W3.heap.size, 0, none⟩ 1 1 [.string x, .string z, .int .i64 (N : Int)] rfl rfl (three_far W3 _ _ _ _) (by simp [Value.oneCell']) (by omega) (by unfold maxLen; omega) (by omega) (by simp; omega) _ rfl ?_; intro g9 cap9 w9 own9 grow9 at9 _; have C1 := Lib.hid (HC3.out.step (N := [cutF L[k] kk]) (below_alloc_drew W3 _ z3) rfl HFV.out.symm own9 grow9); clear own9 grow9 at9)
            all_goals
              go_wp2_with fail
              go_roundw
              case rel => exact ⟨k + 1, by omega, by go_num, by rw [HSN.out, HM.out]; have e := C1.out; rw [hMl] at e; exact e⟩
              case measure => simp [intOf]; omega
          · have b5 : decide (0 < kk) = false := by simpa using hp
            have hNS : N = S := by have := HNd.out; omega
            subst hNS
            go_wp2_with fail
            obtain ⟨W3, hW3⟩ : ∃ W, wo_.alloc (.cells #[.string x, .string y, .int .i64 (N : Int)] 76 (0, 0)) = W := ⟨_, rfl⟩
            have HC3 : Hid (WoAt W0 W3 M u5) := Lib.hid (by rw [← hW3]; exact HC.out.into0 _)
            have e0 : W3.cell? ⟨wo_.heap.size, 0, none⟩ = some (.string x) := by rw [← hW3]; exact (at_cell (at_new wo_ (.cells #[.string x, .string y, .int .i64 (N : Int)] 76 (0, 0))) 0)
            have e1 : W3.cell? ⟨wo_.heap.size, 1, none⟩ = some (.string y) := by rw [← hW3]; exact (at_cell (at_new wo_ (.cells #[.string x, .string y, .int .i64 (N : Int)] 76 (0, 0))) 1)
            rw [hW3]
            clear hW3
            have z3 := HC3.out.below.size
            have hownA := fun o => (World.ownsRow.alloc HC3.out.own o : (W3.alloc o).drew.ownsRow W0.heap.size 76 3 u5 M.length (fvs M))
            have HA := Lib.hid hownA
            clear hownA
            go_region_law (refine step_append_lies _ rfl (.tmp 47) (.tmp 56) 31 rfl W0.heap.size 76 i0 _ 3 40 Tryd.underlying31 hi hz0 hz1 hz2 rfl (by decide) _ _ _ rfl (HA.out _) ⟨W3.heap.size, 0, none⟩ 1 1 [.string x, .string z, .int .i64 (N : Int)] rfl rfl (three_far W3 _ _ _ _) (by simp [Value.oneCell']) (by omega) (by unfold maxLen; omega) (by omega) (by simp; omega) _ rfl ?_; intro g9 cap9 w9 own9 grow9 at9 _; have C1 := Lib.hid (HC3.out.step (N := [cutF L[k] kk]) (below_alloc_drew W3 _ z3) rfl HFV.out.symm own9 grow9); clear own9 grow9 at9)
            all_goals
              go_wp2_with fail
              go_roundw
              case rel => exact ⟨k + 1, by omega, by go_num, by rw [HSN.out, HM.out]; have e := C1.out; rw [hMl] at e; exact e⟩
              case measure => simp [intOf]; omega
      · have q4 : ¬ (k : Int) < (K : Int) := by omega
        have b4 : decide ((k : Int) < (K : Int)) = false := by simpa using q4
        have hk0 : kk = 0 := by rw [← HKK.out, List.getD, List.getElem?_eq_none (by rw [HKn.out]; omega)]; rfl
        have hNS : N = S := by have := HNd.out; omega
        subst hNS
        clear hk0
        go_wp2_with fail
        obtain ⟨W3, hW3⟩ : ∃ W, wo_.alloc (.cells #[.string x, .string y, .int .i64 (N : Int)] 76 (0, 0)) = W := ⟨_, rfl⟩
        have HC3 : Hid (WoAt W0 W3 M u5) := Lib.hid (by rw [← hW3]; exact HC.out.into0 _)
        have e0 : W3.cell? ⟨wo_.heap.size, 0, none⟩ = some (.string x) := by rw [← hW3]; exact (at_cell (at_new wo_ (.cells #[.string x, .string y, .int .i64 (N : Int)] 76 (0, 0))) 0)
        have e1 : W3.cell? ⟨wo_.heap.size, 1, none⟩ = some (.string y) := by rw [← hW3]; exact (at_cell (at_new wo_ (.cells #[.string x, .string y, .int .i64 (N : Int)] 76 (0, 0))) 1)
        rw [hW3]
        clear hW3
        have z3 := HC3.out.below.size
        have hownA := fun o => (World.ownsRow.alloc HC3.out.own o : (W3.alloc o).drew.ownsRow W0.heap.size 76 3 u5 M.length (fvs M))
        have HA := Lib.hid hownA
        clear hownA
        go_region_law (refine step_append_lies _ rfl (.tmp 47) (.tmp 56) 31 rfl W0.heap.size 76 i0 _ 3 40 Tryd.underlying31 hi hz0 hz1 hz2 rfl (by decide) _ _ _ rfl (HA.out _) ⟨W3.heap.size, 0, none⟩ 1 1 [.string x, .string z, .int .i64 (N : Int)] rfl rfl (three_far W3 _ _ _ _) (by simp [Value.oneCell']) (by omega) (by unfold maxLen; omega) (by omega) (by simp; omega) _ rfl ?_; intro g9 cap9 w9 own9 grow9 at9 _; have C1 := Lib.hid (HC3.out.step (N := [cutF L[k] kk]) (below_alloc_drew W3 _ z3) rfl HFV.out.symm own9 grow9); clear own9 grow9 at9)
        all_goals
          go_wp2_with fail
          go_roundw
          case rel => exact ⟨k + 1, by omega, by go_num, by rw [HSN.out, HM.out]; have e := C1.out; rw [hMl] at e; exact e⟩
          case measure => simp [intOf]; omega
    · have q1 : ¬ (k : Int) < (n : Int) := by omega
      have hkn : k = n := by omega
      obtain ⟨M, hM⟩ : ∃ M, (crsL L ks).take k = M := ⟨_, rfl⟩
      have hML : M = crsL L ks := by rw [← hM, List.take_of_length_le]; rw [crs_len, HN.out]; omega
      have hMn : M.length = n := by rw [hML, crs_len, HN.out]
      rw [hM] at C
      have n1 := (at_cell A1.out.box 1 : _ = some _)
      have n2 := (at_cell A1.out.box 2 : _ = some _)
      have m0 := (at_cell A1.out.res 0 : _ = some _)
      have m1 := (at_cell A1.out.res 1 : _ = some _)
      have m2 := (at_cell A1.out.res 2 : _ = some _)
      have nf0 := at_frozen A1.out.box 0
      have nf1 := at_frozen A1.out.box 1
      have nf2 := at_frozen A1.out.box 2
      have mf0 := at_frozen A1.out.res 0
      have mf1 := at_frozen A1.out.res 1
      have mf2 := at_frozen A1.out.res 2
      obtain ⟨-, p2, c2, e2, -⟩ := fs_own C.own
      rw [hMn] at e2
      subst e2
      have HC := Lib.hid C
      clear C hM
      go_wp2_with fail
      refine bodyPost_ret (v := rv p2 n c2 most 0) ?_ rfl ?_
      · simp [results, Tryd.results34, go_sem, *]
      · rw [← hML]
        refine CrashPost.of HC.out A0.out.below rfl (by repeat' (first | exact A1.out.below | refine Below.setCell ?_ ?_ _ | exact Nat.le_refl _ | exact Nat.le_succ _)) fun j h1 h2 => ?_
        have := A0.out.lt
        rw [at_set_other _ (by omega), at_set_other _ (by omega), at_set_other _ (by omega), at_set_other _ (by omega), at_set_other _ (by omega)]
end Go.Proofs.YtejhggjehmioaaaDoor.Sto

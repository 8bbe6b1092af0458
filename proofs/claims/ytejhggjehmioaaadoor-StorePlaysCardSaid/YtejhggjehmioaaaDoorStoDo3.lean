/-
  Layer 11 (store): the law's acts: Remove. Written by gen_stodo.py.
-/
import Derived.Test.YtejhggjehmioaaaDoorStoDo1
import Derived.Test.YtejhggjehmioaaaDoorStoRef5
namespace Go.Proofs.YtejhggjehmioaaaDoor.Sto
open Go.RowKit Go.Proofs.YtejhggjehmioaaaDoor.Own Go.Proofs.YtejhggjehmioaaaDoor.KM Go.Proofs.YtejhggjehmioaaaDoor.Flt
open Go.Proofs.YtejhggjehmioaaaDoor.Rw (str strs Row1 below_drew)

set_option maxRecDepth 100000 in
set_option maxHeartbeats 8000000 in
theorem do_rem {w0 w : World} {bs : Nat → Prop} {b : Nat} {t : St} {p : Option Addr} {c : Nat} (P : Pair w0 w bs b t p c) (hT : Tab w0) (n : Nat) (hn : t.L.length = n) (hN : n ≤ 100000) (a d s : ByteArray) (hz : a.size ≤ 100 ∧ d.size ≤ 100 ∧ s.size ≤ 100)
    (k m : Int) (h0 : 0 ≤ k) (h1 : k ≤ 255) (hk : k % 8 = 4) (q : Option Addr) (K cq : Nat) :
    Calls Tryd.prog 13 #[pb b, rv p n c t.most (max 0 t.bad), .agg #[.int .u8 k, .string a, .string d, .string s, .int .i64 m, .slice q K cq]] w (DoPost w bs b p (remT t a.data.toList)) := by
  have h := P.sto
  have hF := P.fs
  have hH := Lib.hid h
  have hFF := Lib.hid hF
  have hFr := Lib.hid P.far
  have hTT : Hid (∀ W W', Below w.heap.size w W → Out bs W W' → Tab W') := Lib.hid fun W W' h1 h2 => hT.below ((P.below.trans (h1.mono P.below.size)).trans (h2.below (Nat.le_trans P.below.size h1.size) (fun i hi => P.mine i hi)))
  obtain ⟨T, hTe⟩ : ∃ T, remT t a.data.toList = T := ⟨_, rfl⟩
  obtain ⟨C, hCe⟩ : ∃ C, remC t a.data.toList = C := ⟨_, rfl⟩
  obtain ⟨most, hmost⟩ : ∃ x, t.most = x := ⟨_, rfl⟩
  obtain ⟨bd, hbd⟩ : ∃ x, max 0 t.bad = x := ⟨_, rfl⟩
  obtain ⟨n2, hn2⟩ : ∃ x, T.L.length = x := ⟨_, rfl⟩
  obtain ⟨most2, hmost2⟩ : ∃ x, T.most = x := ⟨_, rfl⟩
  obtain ⟨bd2, hbd2⟩ : ∃ x, max 0 T.bad = x := ⟨_, rfl⟩
  have hRef : Hid (∀ W, Below w.heap.size w W → Calls Tryd.prog 33 #[rv p n c most bd, .string a] W fun e w' => ∃ p' c', e = .returned (.tuple #[rv p' n2 c' most2 bd2, .int .i64 C]) ∧ Fs w' p' c' T.L ∧ Below W.heap.size W w' ∧ (p' = p ∨ ∀ g o, p' = some ⟨g, o, none⟩ → W.heap.size ≤ g ∧ g < w'.heap.size)) := Lib.hid fun W hW => by
    have e := rrem_calls (rf t) p c n hn a (by omega) (by show max 0 t.bad ≤ _; have := h.ok.bad; omega) W (hF.below hW) h.ok.rise (by omega)
    have e1 := rf_rem t a.data.toList
    rw [e1.1, e1.2, hTe, hCe] at e
    rw [← hn2, ← hmost2, ← hbd2, ← hmost, ← hbd]
    exact e
  have hPr : Hid (∀ W, Sto W bs b t → Calls Tryd.prog 22 #[pb b, .string a] W fun e w' => DoesE W bs e w' b T C) := Lib.hid fun W hW => by
    have e := sto_rem hW a
    rwa [hTe, hCe] at e
  have hall := Lib.hid h.all
  have A0 := Lib.hid (DoA.start w (.slice p n c) (.int .i64 most) (.int .i64 bd) (.int .u8 k) (.string a) (.string d) (.string s) (.int .i64 m) (.slice q K cq))
  have B0 := Lib.hid ((((Below.refl w.heap.size w).alloc (Nat.le_refl _) (.cells #[.slice p n c, .int .i64 most, .int .i64 bd] 33 (0, 0))).alloc (by simp) (.cells #[.int .u8 k, .string a, .string d, .string s, .int .i64 m, .slice q K cq] 36 (0, 0))).alloc (by simp; omega) (.cells #[.slice none 0 0, .int .i64 0, .int .i64 0] 33 (0, 0)))
  have HD := Lib.hid (And.intro hn2 (And.intro hmost2 hbd2))
  rw [hTe, hmost, hbd]
  clear h hF P hT hTe hCe hmost hbd hn2 hmost2 hbd2
  go_enter Tryd.func13, Tryd.ntmps13
  go_wp2_with fail
  refine (hRef.out _ B0.out).mono ?_
  rintro e w1 ⟨p', c', rfl, F1, hb1, hp1⟩
  have A1 := Lib.hid ((A0.out.step hb1).step ((Below.refl _ w1).alloc (Nat.le_refl _) (.cells #[.slice p' n2 c', .int .i64 most2, .int .i64 bd2] 33 (0, 0))))
  have B1 := Lib.hid ((B0.out.trans (hb1.mono B0.out.size)).alloc (Nat.le_trans B0.out.size hb1.size) (.cells #[.slice p' n2 c', .int .i64 most2, .int .i64 bd2] 33 (0, 0)))
  have y := at_new w1 (.cells #[.slice p' n2 c', .int .i64 most2, .int .i64 bd2] 33 (0, 0))
  have F2 := Lib.hid (F1.below ((Below.refl _ w1).alloc (Nat.le_refl _) (.cells #[.slice p' n2 c', .int .i64 most2, .int .i64 bd2] 33 (0, 0))))
  have HP := Lib.hid hp1
  have HB1 := Lib.hid hb1
  have y1' := Lib.hid (show w.heap.size + 2 < w1.heap.size from (A0.out.step hb1).size)
  have hs2 : w1.heap.size ≤ (w1.alloc (.cells #[.slice p' n2 c', .int .i64 most2, .int .i64 bd2] 33 (0, 0))).heap.size := by simp
  clear F1 hp1 hb1
  go_wp2_with fail
  obtain ⟨Y, hY⟩ : ∃ Y, w1.heap.size = Y := ⟨_, rfl⟩
  rw [hY] at y ⊢
  obtain ⟨W2, hW2⟩ : ∃ W, w1.alloc (.cells #[.slice p' n2 c', .int .i64 most2, .int .i64 bd2] 33 (0, 0)) = W := ⟨_, rfl⟩
  rw [hW2] at A1 B1 y F2 hs2 ⊢
  rw [hY] at y1'
  have HYY := Lib.hid hY
  clear hW2 hY
  have lY := at_lt y
  have lX : w.heap.size + 1 < W2.heap.size := by have := A1.out.size; omega
  have d0 := (at_cell y 0 : _ = some _)
  have d1 := (at_cell y 1 : _ = some _)
  have d2 := (at_cell y 2 : _ = some _)
  have c1 := (at_cell A1.out.b5 1 : _ = some _)
  have c2 := (at_cell A1.out.b5 1 : _ = some _)
  have nY : ¬ bs Y := fun hk => by have := hall.out _ hk; have := y1'.out; omega
  have nX : ¬ bs (w.heap.size + 1) := fun hk => by have := hall.out _ hk; omega
  have eYZ : Y ≠ w.heap.size + 1 + 1 := by have := y1'.out; omega
  go_region_held3 (fun w' => w'.cell? ⟨Y, 0, none⟩ = some (.slice p' n2 c') ∧ w'.cell? ⟨Y, 1, none⟩ = some (.int .i64 most2) ∧ w'.cell? ⟨Y, 2, none⟩ = some (.int .i64 bd2) ∧ w'.cell? ⟨w.heap.size + 1, 1, none⟩ = some (.string a) ∧ w'.cell? ⟨w.heap.size + 1, 1, none⟩ = some (.string a))
    (first
      | exact held4 (out_drew W2) id id lY lX d0 d1 d2 c1 c2
      | exact H6.out
      | exact H5.out
      | exact held4 (out_three (Out.refl (fun _ => False) w6) (w.heap.size + 1 + 1) _ _ _) (fun k => k.elim id eYZ) (fun k => k.elim id (by omega)) u6 u6' H6.out.1 H6.out.2.1 H6.out.2.2.1 H6.out.2.2.2.1 H6.out.2.2.2.2)
    (first
      | (go_at_call 22; refine (hPr.out _ (hH.out.below (by first | exact B1.out | exact below_drew B1.out))).mono ?_; rintro e w5 ⟨v5, k5, bs5, rfl, E5, -, S5, O5, N5⟩; have O5' : Hid (Out bs W2 w5) := Lib.hid ⟨O5.os, O5.tape, O5.output, O5.size, O5.block⟩; have H5 := Lib.hid (held4 O5'.out nY nX lY lX d0 d1 d2 c1 c2); have T5 := Lib.hid (hTT.out _ _ B1.out O5'.out); have l6 := Nat.lt_of_lt_of_le lY O5'.out.size; have l6' := Nat.lt_of_lt_of_le lX O5'.out.size; have A5 := Lib.hid (A1.out.out O5'.out hall.out); replace S5 := Lib.hid S5; replace E5 := Lib.hid E5; replace N5 := Lib.hid N5; clear O5)
      | (go_at_call 9; refine (of_told (E5.out.below (by first | exact Below.refl _ _ | exact below_drew (Below.refl _ _))) (T5.out.below (by first | exact Below.refl _ _ | exact below_drew (Below.refl _ _)))).mono ?_; rintro e w6 ⟨rfl, hb6⟩; replace hb6 : Below w5.heap.size w5 w6 := ⟨hb6.os, hb6.tape, hb6.output, hb6.size, hb6.block⟩; have H6 := Lib.hid (held4 (Out.ofNew (S := fun _ => False) hb6) id id l6 l6' H5.out.1 H5.out.2.1 H5.out.2.2.1 H5.out.2.2.2.1 H5.out.2.2.2.2); have A6 := Lib.hid (A5.out.step hb6); have m0 := (at_cell A6.out.b6 0 : _ = some _); have m1 := (at_cell A6.out.b6 1 : _ = some _); have m2 := (at_cell A6.out.b6 2 : _ = some _); have mf0 := at_frozen A6.out.b6 0; have mf1 := at_frozen A6.out.b6 1; have mf2 := at_frozen A6.out.b6 2; have u6 := Nat.lt_of_lt_of_le l6 hb6.size; have u6' := Nat.lt_of_lt_of_le l6' hb6.size))
  all_goals
    have HX := Lib.hid hb6
    clear hRef hPr A0 B0 c1 c2 d0 d1 d2 nY nX eYZ lY lX l6 l6' u6 u6' hb6 y H5 H6 T5 E5 A1 A5 A6
    go_wp2_with fail
    refine bodyPost_ret (v := .tuple #[rv p' n2 c' most2 bd2, .bool true]) ?_ rfl ?_
    · simp [results, Tryd.results13, go_sem, *]
    · exact do_fin hall.out hFr.out (by simp) HB1.out.size (by rw [HYY.out]; have := HYY.out; omega) B1.out HP.out F2.out O5'.out S5.out N5.out HX.out _ _ _ (by rw [HD.out.1, HD.out.2.1, HD.out.2.2])
end Go.Proofs.YtejhggjehmioaaaDoor.Sto

/-
  Layer 11 (store): the law that what fails does nothing.
-/
import Derived.Test.YtejhggjehmioaaaDoorStoActs
import Derived.Deep.RegionWith
namespace Go.Proofs.YtejhggjehmioaaaDoor.Sto
open Go.RowKit Go.Proofs.YtejhggjehmioaaaDoor.Own Go.Proofs.YtejhggjehmioaaaDoor.KM Go.Proofs.YtejhggjehmioaaaDoor.Flt
open Go.Proofs.YtejhggjehmioaaaDoor.Rw (str strs Row1 below_drew)

theorem acs_at {w0 w : World} {p : Option Addr} {n c : Nat} {o : Nat → Ac} (h : Row w0 (.slice p n c) n 6 (fun i j => (o i).cells.getD j undef)) (hb : Below w0.heap.size w0 w) {i : Nat} (hi : i < n) :
    ∃ g off, p = some ⟨g, off, none⟩ ∧ g < w0.heap.size ∧ w.cell? ⟨g, off + i * 6, none⟩ = some (.int .u8 (o i).k) ∧ w.cell? ⟨g, off + i * 6 + 1, none⟩ = some (.string (o i).a) ∧ w.cell? ⟨g, off + i * 6 + 2, none⟩ = some (.string (o i).d) ∧ w.cell? ⟨g, off + i * 6 + 3, none⟩ = some (.string (o i).s) ∧ w.cell? ⟨g, off + i * 6 + 4, none⟩ = some (.int .i64 (o i).m) ∧ w.cell? ⟨g, off + i * 6 + 5, none⟩ = some (.slice (o i).q (o i).K (o i).cq) := by
  obtain ⟨a, cap, e, -, -, hc⟩ := h.below hb
  cases e
  rcases hc with h0 | ⟨g, off, rfl, hl, hc⟩
  · omega
  · obtain ⟨a, cap, e, -, -, hc0⟩ := h
    cases e
    rcases hc0 with h0 | ⟨g0, off0, e0, hl0, hc0⟩
    · omega
    cases e0
    exact ⟨g, off, rfl, hl0, hc i 0 hi (by omega), hc i 1 hi (by omega), hc i 2 hi (by omega), hc i 3 hi (by omega), hc i 4 hi (by omega), hc i 5 hi (by omega)⟩

/-- the frame of that law's loop: the last act's box besides -/
structure FrZ (w0 w : World) (bs : Nat → Prop) (b : Nat) (t : St) (p : Option Addr) (c X : Nat) (z : Ac) : Prop where
  fr : Fr w0 w bs b t p c X
  zb : w.heap[w0.heap.size]? = some (.cells z.cells 36 (0, 0))
  nZ : ¬ bs w0.heap.size
  ne : X ≠ w0.heap.size
section
variable {w0 w w' : World} {bs : Nat → Prop} {b c X : Nat} {t t' : St} {p : Option Addr} {z : Ac}
theorem FrZ.same (h : FrZ w0 w bs b t p c X z) (hb : Below w.heap.size w w') : FrZ w0 w' bs b t p c X z := ⟨h.fr.same hb, (hb.block _ (at_lt h.zb)).trans h.zb, h.nZ, h.ne⟩
theorem FrZ.next (h : FrZ w0 w bs b t p c X z) {e : Ending} (hD : DoPost w bs b p t' e w') : ∃ bs' p' c', e = .returned (.tuple #[rv p' t'.L.length c' t'.most (max 0 t'.bad), .bool true]) ∧ w'.heap[X]? = some (.cells #[.slice p t.L.length c, .int .i64 t.most, .int .i64 (max 0 t.bad)] 33 (0, 0)) ∧
    FrZ w0 (((w'.setCell ⟨X, 0, none⟩ (.slice p' t'.L.length c')).setCell ⟨X, 1, none⟩ (.int .i64 t'.most)).setCell ⟨X, 2, none⟩ (.int .i64 (max 0 t'.bad))) bs' b t' p' c' X z := by
  obtain ⟨bs', p', c', he, hs, ho, hn, hf, hfar, hp⟩ := hD
  obtain ⟨P, hb, h1, h2, -, -⟩ := h.fr.act hs ho hn hf hfar hp
  refine ⟨bs', p', c', he, hb, Fr.lay P hb h.fr.hX h1 h2, ?_, fun hk => ?_, h.ne⟩
  · have e1 := (ho.block _ (at_lt h.zb) h.nZ).trans h.zb
    rw [at_set_other _ h.ne.symm, at_set_other _ h.ne.symm, at_set_other _ h.ne.symm]
    exact e1
  · rcases hn _ hk with h3 | h3
    · exact h.nZ h3
    · have := at_lt h.zb; omega
theorem FrZ.fail (h : FrZ w0 w bs b t p c X z) (hs : Sto w' bs b ⟨t.L, t.most, 1⟩) (ho : Out bs w w') : w'.heap[X]? = some (.cells #[.slice p t.L.length c, .int .i64 t.most, .int .i64 (max 0 t.bad)] 33 (0, 0)) ∧ FrZ w0 (w'.setCell ⟨X, 2, none⟩ (.int .i64 1)) bs b ⟨t.L, t.most, 1⟩ p c X z := by
  have hb := (ho.block X (at_lt h.fr.box) h.fr.nX).trans h.fr.box
  have o1 := (Out.refl (fun k => k = X) w').setCell (p := ⟨X, 2, none⟩) (fun _ => rfl) (.int .i64 1)
  have P := h.fr.pair.next hs ho (fun k hk => .inl hk) (h.fr.pair.fs.out ho fun g o e => (h.fr.pair.far g o e).1) (h.fr.pair.far.mono ho.size)
  refine ⟨hb, ⟨⟨P.below.trans (o1.below P.below.size fun i e => by rw [e]; exact h.fr.hX), P.sto.out o1 (fun k hk e => h.fr.nX (e ▸ hk)), P.mine, P.fs.out o1 fun g o e e2 => h.fr.pX g o e e2, P.far.mono o1.size⟩, ?_, h.fr.hX, h.fr.nX, h.fr.pX⟩, ?_, h.nZ, h.ne⟩
  · have e1 := at_set hb 2 (.int .i64 1)
    have e2 : (max 0 1 : Int) = 1 := rfl
    simpa [e2] using e1
  · rw [at_set_other _ h.ne.symm]
    exact (ho.block _ (at_lt h.zb) h.nZ).trans h.zb
theorem step_fail {o : Ac} (h : o.k % 8 ≤ 4) (hb : begC t o.a.data.toList ≠ 0) : stepA t o = begT t o.a.data.toList := by
  unfold stepA
  split
  · exact if_neg hb
  split
  · exact if_neg hb
  split
  · exact if_neg hb
  rw [if_neg (by omega), if_neg (by omega)]
  exact if_neg hb
end

set_option maxRecDepth 100000 in
set_option maxHeartbeats 16000000 in
theorem fails_walk (p : Option Addr) (n cap : Nat) (o : Nat → Ac) (z : Ac) (w0 : World) (hR : Row w0 (.slice p n cap) n 6 (fun i j => (o i).cells.getD j undef)) (hO : ∀ i, i < n → OkA w0 (o i)) (hz : OkA w0 z) (hT : Tab w0) :
    Calls Tryd.prog 5 #[.slice p n cap, .agg z.cells] w0 fun e w' => e = .returned (.bool true) ∧ Below w0.heap.size w0 w' := by
  have HR := Lib.hid hR
  have HO := Lib.hid hO
  have HZ := Lib.hid hz
  have HT := Lib.hid (fun W (hb : Below w0.heap.size w0 W) => hT.below hb)
  have HT0 := Lib.hid hT
  obtain ⟨k, a, d, s, m, q, K, cq, ks⟩ := z
  unfold Ac.cells
  have hk0 := hz.h0
  have hk1 := hz.h1
  simp only at hk0 hk1
  have hncap : n ≤ cap ∧ cap ≤ maxLen := by obtain ⟨_, _, e, h1, h2, _⟩ := hR; cases e; exact ⟨h1, h2⟩
  have hzn : (n : Int) ≤ 9223372036854775807 := by have := hncap.2; unfold maxLen at this; omega
  have hB0 := Lib.hid ((Below.refl w0.heap.size w0).alloc (Nat.le_refl _) (.cells #[.int .u8 k, .string a, .string d, .string s, .int .i64 m, .slice q K cq] 36 (0, 0)))
  have hw := Lib.hid (works_walk (w0.alloc (.cells #[.int .u8 k, .string a, .string d, .string s, .int .i64 m, .slice q K cq] 36 (0, 0))) (HT.out _ hB0.out))
  by_cases hbig : 40 < n ∨ 100 < s.size ∨ 100 < a.size ∨ 100 < d.size ∨ 4 < k % 8
  · clear hR hO hz hT
    rcases (show (40 < (n : Int)) ∨ (¬ 40 < (n : Int) ∧ 100 < (s.size : Int)) ∨ (¬ 40 < (n : Int) ∧ ¬ 100 < (s.size : Int) ∧ 100 < (a.size : Int)) ∨ (¬ 40 < (n : Int) ∧ ¬ 100 < (s.size : Int) ∧ ¬ 100 < (a.size : Int) ∧ 100 < (d.size : Int)) ∨ (¬ 40 < (n : Int) ∧ ¬ 100 < (s.size : Int) ∧ ¬ 100 < (a.size : Int) ∧ ¬ 100 < (d.size : Int) ∧ 4 < k % 8) by omega) with q1 | ⟨q1, q2⟩ | ⟨q1, q2, q3⟩ | ⟨q1, q2, q3, q4⟩ | ⟨q1, q2, q3, q4, q5⟩
    all_goals
      clear hbig
      go_enter Tryd.func5, Tryd.ntmps5
      go_wp2_with (go_at_call 7; refine hw.out.mono ?_; rintro e w5 ⟨rfl, hb5⟩; replace hb5 := Lib.hid hb5)
      go_ret
      exact ⟨rfl, hB0.out.trans (hb5.out.mono hB0.out.size)⟩
  · have hn40 : n ≤ 40 := by omega
    have hfit : Hid (a.size ≤ 100 ∧ d.size ≤ 100 ∧ s.size ≤ 100) := Lib.hid (by omega)
    have hk4 : Hid (k % 8 ≤ 4) := Lib.hid (by omega)
    have q1 : ¬ 40 < (n : Int) := by omega
    have q2 : ¬ 100 < (s.size : Int) := by omega
    have q3 : ¬ 100 < (a.size : Int) := by omega
    have q4 : ¬ 100 < (d.size : Int) := by omega
    have q5 : ¬ 4 < k % 8 := by omega
    clear hbig hR hO hz hT hw
    go_enter Tryd.func5, Tryd.ntmps5
    go_wp2_with fail
    refine (new_in 300 (by omega) (by omega) _).mono ?_
    rintro e w1 ⟨b, rfl, bs1, S1, hb1, hn1⟩
    have F0 : Hid (FrZ w0 (w1.alloc (.cells #[.slice none 0 0, .int .i64 300, .int .i64 0] 33 (0, 0))) bs1 b ⟨[], 300, 0⟩ none 0 w1.heap.size ⟨k, a, d, s, m, q, K, cq, ks⟩) := Lib.hid (by
      have hz := hb1.size
      simp at hz
      refine ⟨Fr.start S1 (hB0.out.trans (hb1.mono hB0.out.size)) (fun k hk => Nat.le_trans hB0.out.size (hn1 k hk)) rfl rfl, ?_, fun hk => ?_, by omega⟩
      · refine at_old _ _ ((hb1.block _ (by simp)).trans ?_)
        exact at_new w0 _
      · have := hn1 _ hk; simp at this; omega)
    clear S1 hb1 hn1 q2 q3 q4 q5
    go_wp2_with fail
    obtain ⟨X, hX⟩ : ∃ X, w1.heap.size = X := ⟨_, rfl⟩
    rw [hX] at F0 ⊢
    obtain ⟨W1, hW1⟩ : ∃ W, w1.alloc (.cells #[.slice none 0 0, .int .i64 300, .int .i64 0] 33 (0, 0)) = W := ⟨_, rfl⟩
    rw [hW1] at F0 ⊢
    clear hW1 hX
    go_loopw [8] (fun i wr => ∃ (j : Nat) (bs : Nat → Prop) (t : St) (p' : Option Addr) (c' : Nat), j ≤ n ∧ i = .int .i64 j ∧ FrZ w0 wr bs b t p' c' X ⟨k, a, d, s, m, q, K, cq, ks⟩ ∧ t.L.length ≤ j) (fun i _ => n - (intOf i).toNat)
    case atStart => exact ⟨0, bs1, ⟨[], 300, 0⟩, none, 0, by omega, rfl, F0.out, by simp⟩
    case round =>
      rename World => wo
      obtain ⟨j, bs, t, p', c', hj, rfl, F, hlen⟩ := hrel
      clear F0
      by_cases hlt : j < n
      · have r1 : (j : Int) < (n : Int) := by omega
        obtain ⟨g, off, rfl, hgl, e0, e1, e2, e3, e4, e5⟩ := acs_at HR.out F.fr.pair.below hlt
        have hOj := HO.out j hlt
        obtain ⟨oj, hoj⟩ : ∃ x, o j = x := ⟨_, rfl⟩
        rw [hoj] at e0 e1 e2 e3 e4 e5 hOj
        obtain ⟨k', a', d', s', m', q', K', cq', ks'⟩ := oj
        simp only at e0 e1 e2 e3 e4 e5
        have hk0' := hOj.h0
        have hk1' := hOj.h1
        simp only at hk0' hk1'
        have hKm := hOj.row.cap
        have hKm2 := hOj.row.max
        simp only [iv, List.length_map, hOj.hK] at hKm hKm2
        have r0 : (K' : Int) ≤ 9223372036854775807 := by unfold maxLen at hKm2; omega
        have HF := Lib.hid F
        have HOj := Lib.hid hOj
        clear F hOj hoj hKm hKm2
        by_cases hall : (s'.size : Int) ≤ 100 ∧ (a'.size : Int) ≤ 100 ∧ (d'.size : Int) ≤ 100 ∧ (K' : Int) ≤ 20 ∧ k' % 8 < 7
        · obtain ⟨p1, p2, p3, p4, p5⟩ := hall
          obtain ⟨N, hN⟩ : ∃ x, t.L.length = x := ⟨_, rfl⟩
          obtain ⟨M, hM⟩ : ∃ x, t.most = x := ⟨_, rfl⟩
          obtain ⟨Bd, hBd⟩ : ∃ x, max 0 t.bad = x := ⟨_, rfl⟩
          have hb := HF.out.fr.box
          rw [hN, hM, hBd] at hb
          have n0 := (at_cell hb 0 : _ = some _)
          have n1 := (at_cell hb 1 : _ = some _)
          have n2 := (at_cell hb 2 : _ = some _)
          have hAct : Hid (∀ W, Below wo.heap.size wo W → Calls Tryd.prog 13 #[pb b, rv p' N c' M Bd, .agg #[.int .u8 k', .string a', .string d', .string s', .int .i64 m', .slice q' K' cq']] W (DoPost W bs b p' (stepA t ⟨k', a', d', s', m', q', K', cq', ks'⟩))) := Lib.hid fun W hW => by
            rw [← hN, ← hM, ← hBd]
            exact do_act (HF.out.same hW).fr.pair HT0.out HOj.out ⟨by simp only; omega, by simp only; omega, by simp only; omega⟩ _ rfl (by omega)
          obtain ⟨T, hTe⟩ : ∃ T, stepA t ⟨k', a', d', s', m', q', K', cq', ks'⟩ = T := ⟨_, rfl⟩
          have hTl : Hid (T.L.length ≤ j + 1) := Lib.hid (by rw [← hTe]; have := step_len t ⟨k', a', d', s', m', q', K', cq', ks'⟩; omega)
          rw [hTe] at hAct
          clear hN hM hBd hTe hb
          go_wp2_with fail
          go_region_with (go_at_call 13; have hd : Below wo.heap.size wo wo.drew := ⟨rfl, rfl, rfl, Nat.le_refl _, fun _ _ => rfl⟩; refine (hAct.out _ (by first | exact hd | exact below_drew hd | exact Below.refl _ _)).mono ?_; intro e w5 hD; obtain ⟨bs', p2', c2', rfl, hbx, F3⟩ := (HF.out.same (by first | exact hd | exact below_drew hd | exact Below.refl _ _)).next hD; replace F3 := Lib.hid F3; have n0 := (at_cell hbx 0 : _ = some _); have n1 := (at_cell hbx 1 : _ = some _); have n2 := (at_cell hbx 2 : _ = some _); have f0 := at_frozen hbx 0; have f1 := at_frozen hbx 1; have f2 := at_frozen hbx 2; clear hD hbx hd)
          all_goals
            go_wp2_with fail
            go_roundw
            case rel => exact ⟨j + 1, bs', T, p2', c2', by omega, by go_num, F3.out, hTl.out⟩
            case measure => simp [intOf]; omega
        · rcases (show (¬ (s'.size : Int) ≤ 100) ∨ ((s'.size : Int) ≤ 100 ∧ ¬ (a'.size : Int) ≤ 100) ∨ ((s'.size : Int) ≤ 100 ∧ (a'.size : Int) ≤ 100 ∧ ¬ (d'.size : Int) ≤ 100) ∨ ((s'.size : Int) ≤ 100 ∧ (a'.size : Int) ≤ 100 ∧ (d'.size : Int) ≤ 100 ∧ ¬ (K' : Int) ≤ 20) ∨ ((s'.size : Int) ≤ 100 ∧ (a'.size : Int) ≤ 100 ∧ (d'.size : Int) ≤ 100 ∧ (K' : Int) ≤ 20 ∧ ¬ k' % 8 < 7) by omega) with p1 | ⟨p1, p2⟩ | ⟨p1, p2, p3⟩ | ⟨p1, p2, p3, p4⟩ | ⟨p1, p2, p3, p4, p5⟩
          all_goals
            clear hall
            go_wp2_with fail
            go_roundw
            case rel => exact ⟨j + 1, bs, t, p', c', by omega, by go_num, HF.out, by omega⟩
            case measure => simp [intOf]; omega
      · have r1 : ¬ (j : Int) < (n : Int) := by omega
        obtain ⟨N, hN⟩ : ∃ x, t.L.length = x := ⟨_, rfl⟩
        obtain ⟨M, hM⟩ : ∃ x, t.most = x := ⟨_, rfl⟩
        have hNn : N ≤ 40 := by omega
        have hFl := Lib.hid (sto_fail F.fr.pair.sto 1 (by omega))
        have HF := Lib.hid F
        have ne := F.ne
        have ne2 := F.ne.symm
        clear F
        go_wp2_with fail
        refine hFl.out.mono ?_
        rintro e w2 ⟨rfl, S2, O2⟩
        obtain ⟨hbx, F2⟩ := HF.out.fail S2 O2
        have zb2 : w2.heap[w0.heap.size]? = some (.cells #[.int .u8 k, .string a, .string d, .string s, .int .i64 m, .slice q K cq] 36 (0, 0)) := (O2.block _ (at_lt HF.out.zb) HF.out.nZ).trans HF.out.zb
        rw [hN, hM] at hbx
        have n0 := (at_cell hbx 0 : _ = some _)
        have n1 := (at_cell hbx 1 : _ = some _)
        have n2 := (at_cell hbx 2 : _ = some _)
        have f2 := at_frozen hbx 2
        have e0 := (at_cell zb2 0 : _ = some _)
        have e1 := (at_cell zb2 1 : _ = some _)
        have e2 := (at_cell zb2 2 : _ = some _)
        have e3 := (at_cell zb2 3 : _ = some _)
        have e4 := (at_cell zb2 4 : _ = some _)
        have e5 := (at_cell zb2 5 : _ = some _)
        have HF2 := Lib.hid F2
        have hAct : Hid (Calls Tryd.prog 13 #[pb b, rv p' N c' M 1, .agg #[.int .u8 k, .string a, .string d, .string s, .int .i64 m, .slice q K cq]] (w2.setCell ⟨X, 2, none⟩ (.int .i64 1)) (DoPost (w2.setCell ⟨X, 2, none⟩ (.int .i64 1)) bs b p' (stepA ⟨t.L, t.most, 1⟩ ⟨k, a, d, s, m, q, K, cq, ks⟩))) := Lib.hid (by
          have := do_act F2.fr.pair HT0.out HZ.out hfit.out N hN (by omega)
          rw [← hM]
          exact this)
        have hst := step_fail (t := ⟨t.L, t.most, 1⟩) (o := ⟨k, a, d, s, m, q, K, cq, ks⟩) hk4.out (by
          cases hnm : isNm a.data.toList with
          | false => rw [(begC_arg hnm).1]; decide
          | true => rw [(begC_io hnm (by show (0 : Int) < 1; omega)).1]; decide)
        rw [hst] at hAct
        clear hst hFl S2 O2 F2 zb2 hbx
        go_wp2_with fail
        refine hAct.out.mono ?_
        rintro e w4 ⟨bs4, p4, c4, rfl, s4, o4, n4, f4, far4, hp4⟩
        obtain ⟨P4, hb4, nX4, pX4, Fo4, fo4⟩ := HF2.out.fr.act s4 o4 n4 f4 far4 hp4
        have zb4 : w4.heap[w0.heap.size]? = some (.cells #[.int .u8 k, .string a, .string d, .string s, .int .i64 m, .slice q K cq] 36 (0, 0)) := (o4.block _ (at_lt HF2.out.zb) HF2.out.nZ).trans HF2.out.zb
        have hL4 : (begT ⟨t.L, t.most, 1⟩ a.data.toList).L = t.L := beg_L _ _
        obtain ⟨r, hr⟩ : ∃ r, begT ⟨t.L, t.most, 1⟩ a.data.toList = r := ⟨_, rfl⟩
        simp only [hr] at P4 hL4 s4 f4 ⊢
        have hN4 : r.L.length = N := by rw [hL4, hN]
        rw [hN4]
        obtain ⟨M4, hM4⟩ : ∃ x, r.most = x := ⟨_, rfl⟩
        obtain ⟨B4, hB4⟩ : ∃ x, max 0 r.bad = x := ⟨_, rfl⟩
        rw [hM4, hB4]
        have hSame : Hid (∀ W most bad, Below w4.heap.size w4 W → Calls Tryd.prog 14 #[pb b, rv p' N c' most bad] W fun e w' => e = .returned (.bool true) ∧ Below W.heap.size W w') := Lib.hid fun W most bad hW =>
          same_calls (P4.sto.below hW) p' c' N hN4 (by omega) most bad (by rw [hL4]; exact Fo4.below hW)
        have HT4 : Hid (∀ W, Below w4.heap.size w4 W → Tab W ∧ Below w0.heap.size w0 W) := Lib.hid fun W hW => by
          have := P4.below.trans (hW.mono P4.below.size)
          exact ⟨HT.out _ this, this⟩
        have hDo : Hid (∀ W, Below w4.heap.size w4 W → Calls Tryd.prog 13 #[pb b, rv p4 N c4 M4 B4, .agg #[.int .u8 k, .string a, .string d, .string s, .int .i64 m, .slice q K cq]] W (DoPost W bs4 b p4 (stepA r ⟨k, a, d, s, m, q, K, cq, ks⟩))) := Lib.hid fun W hW => by
          have := do_act (P4.same hW) HT0.out HZ.out hfit.out N hN4 (by omega)
          rw [hM4, hB4] at this
          exact this
        have HP4 := Lib.hid P4
        have x0 := Lib.hid hb4
        have x1 := Lib.hid zb4
        simp only [hN, hM] at x0
        clear P4 s4 f4 Fo4 fo4 hb4 zb4 n0 n1 n2 f2 e0 e1 e2 e3 e4 e5 hAct o4 n4 far4 hp4
        have hY : Hid (∀ W, Below (w4.alloc (.cells #[.slice p4 N c4, .int .i64 M4, .int .i64 B4] 33 (0, 0))).heap.size (w4.alloc (.cells #[.slice p4 N c4, .int .i64 M4, .int .i64 B4] 33 (0, 0))) W → Below w4.heap.size w4 W ∧ W.heap[w4.heap.size]? = some (.cells #[.slice p4 N c4, .int .i64 M4, .int .i64 B4] 33 (0, 0)) ∧ W.heap[X]? = some (.cells #[.slice p' N c', .int .i64 M, .int .i64 (max 0 1)] 33 (0, 0)) ∧ W.heap[w0.heap.size]? = some (.cells #[.int .u8 k, .string a, .string d, .string s, .int .i64 m, .slice q K cq] 36 (0, 0))) := Lib.hid fun W hW => by
          have h0 := (Below.refl w4.heap.size w4).alloc (Nat.le_refl _) (.cells #[.slice p4 N c4, .int .i64 M4, .int .i64 B4] 33 (0, 0))
          have h1 := h0.trans (hW.mono h0.size)
          refine ⟨h1, (hW.block _ (by simp)).trans (at_new _ _), (h1.block _ (at_lt x0.out)).trans x0.out, (h1.block _ (at_lt x1.out)).trans x1.out⟩
        obtain ⟨W5, hW5⟩ : ∃ W, w4.alloc (.cells #[.slice p4 N c4, .int .i64 M4, .int .i64 B4] 33 (0, 0)) = W := ⟨_, rfl⟩
        rw [hW5] at hY
        have lX4 := at_lt x1.out
        obtain ⟨h5, y5, x5, z5⟩ := hY.out W5 (Below.refl _ _)
        have d1 := (at_cell z5 1 : _ = some _)
        have d7 := (at_cell x5 0 : _ = some _)
        have d8 := (at_cell x5 1 : _ = some _)
        have d9 := (at_cell x5 2 : _ = some _)
        have hnam := rnamed_calls a (by have := hfit.out; omega) W5
        clear y5 x5 z5
        cases hnm : isNm a.data.toList with
        | false =>
          rw [hnm] at hnam
          clear hnm
          go_wp2_with (first
            | (go_at_call 19; refine hnam.mono ?_; rintro e w' ⟨rfl, rfl⟩)
            | (go_at_call 14; refine (hSame.out _ _ _ h5).mono ?_; rintro e w6 ⟨rfl, hb6⟩; replace hb6 := Lib.hid (h5.trans (hb6.mono h5.size)))
            | (go_at_call 7; refine (works_walk _ (HT4.out _ hb6.out).1).mono ?_; rintro e w7 ⟨rfl, hb7⟩; replace hb7 := Lib.hid hb7))
          go_ret
          have := (HT4.out _ hb6.out).2
          exact ⟨rfl, this.trans (hb7.out.mono this.size)⟩
        | true =>
          rw [hnm] at hnam
          clear hnm
          go_wp2_with (first
            | (go_at_call 19; refine hnam.mono ?_; rintro e w' ⟨rfl, rfl⟩)
            | fail)
          refine (hSame.out _ _ _ h5).mono ?_
          rintro e w6 ⟨rfl, hb6⟩
          obtain ⟨h6, y6, x6, z6⟩ := hY.out w6 hb6
          clear d1 d7 d8 d9 x6 hb6 h5
          have d0 := (at_cell y6 0 : _ = some _)
          have d1 := (at_cell y6 1 : _ = some _)
          have d2 := (at_cell y6 2 : _ = some _)
          have e0 := (at_cell z6 0 : _ = some _)
          have e1 := (at_cell z6 1 : _ = some _)
          have e2 := (at_cell z6 2 : _ = some _)
          have e3 := (at_cell z6 3 : _ = some _)
          have e4 := (at_cell z6 4 : _ = some _)
          have e5 := (at_cell z6 5 : _ = some _)
          clear y6 z6
          go_wp2_with fail
          refine (hDo.out _ h6).mono ?_
          rintro e w7 ⟨bs7, p7, c7, rfl, s7, o7, n7, f7, far7, -⟩
          have P7 := (HP4.out.same h6).next s7 o7 n7 f7 far7
          have hl7 := step_len r ⟨k, a, d, s, m, q, K, cq, ks⟩
          obtain ⟨r3, hr3⟩ : ∃ x, stepA r ⟨k, a, d, s, m, q, K, cq, ks⟩ = x := ⟨_, rfl⟩
          simp only [hr3] at P7 hl7 ⊢
          obtain ⟨N7, hN7⟩ : ∃ x, r3.L.length = x := ⟨_, rfl⟩
          obtain ⟨M7, hM7⟩ : ∃ x, r3.most = x := ⟨_, rfl⟩
          obtain ⟨B7, hB7⟩ : ∃ x, max 0 r3.bad = x := ⟨_, rfl⟩
          rw [hN7, hM7, hB7]
          have h8 := (Below.refl w7.heap.size w7).alloc (Nat.le_refl _) (.cells #[.slice p7 N7 c7, .int .i64 M7, .int .i64 B7] 33 (0, 0))
          have hSame7 := Lib.hid (same_calls (P7.sto.below h8) p7 c7 N7 hN7 (by omega) M7 B7 (P7.fs.below h8))
          have HT7 : Hid (∀ W, Below w7.heap.size w7 W → Tab W ∧ Below w0.heap.size w0 W) := Lib.hid fun W hW => by
            have := P7.below.trans (hW.mono P7.below.size)
            exact ⟨HT.out _ this, this⟩
          replace h8 := Lib.hid h8
          clear P7 s7 o7 n7 f7 far7 hr3 hN7 hM7 hB7 hl7 d0 d1 d2 e0 e1 e2 e3 e4 e5
          go_wp2_with (first
            | (go_at_call 14; refine hSame7.out.mono ?_; rintro e w9 ⟨rfl, hb9⟩; replace hb9 := Lib.hid (h8.out.trans (hb9.mono h8.out.size)))
            | (go_at_call 7; refine (works_walk _ (HT7.out _ hb9.out).1).mono ?_; rintro e w10 ⟨rfl, hb10⟩; replace hb10 := Lib.hid hb10))
          go_ret
          have := (HT7.out _ hb9.out).2
          exact ⟨rfl, this.trans (hb10.out.mono this.size)⟩
end Go.Proofs.YtejhggjehmioaaaDoor.Sto

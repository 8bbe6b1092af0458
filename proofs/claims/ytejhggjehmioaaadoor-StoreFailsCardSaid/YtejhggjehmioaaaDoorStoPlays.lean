/-
  Layer 11 (store): the law that plays acts.
-/
import Derived.Test.YtejhggjehmioaaaDoorStoFails
import Derived.Test.YtejhggjehmioaaaDoorStoNone
namespace Go.Proofs.YtejhggjehmioaaaDoor.Sto
open Go.RowKit Go.Proofs.YtejhggjehmioaaaDoor.Own Go.Proofs.YtejhggjehmioaaaDoor.KM Go.Proofs.YtejhggjehmioaaaDoor.Flt
open Go.Proofs.YtejhggjehmioaaaDoor.Rw (str strs Row1 below_drew)

/-- a copy takes a store's place, whatever is done to that -/
theorem Fr.copy {w0 w w2 w4 : World} {bs bs2 : Nat → Prop} {b b2 c X : Nat} {t : St} {p : Option Addr} (h : Fr w0 w bs b t p c X) (S2 : Sto w2 bs2 b2 t) (hn2 : ∀ k, bs2 k → w.heap.size ≤ k) (hb2 : Below w.heap.size w w2) (O : Out (fun k => bs k ∨ w2.heap.size ≤ k) w2 w4) : Fr w0 w4 bs2 b2 t p c X := by
  have hsz := hb2.size
  have hlX := at_lt h.box
  have hp := h.pair
  have hall := hp.sto.all
  refine ⟨⟨?_, ?_, fun k hk => Nat.le_trans hp.below.size (hn2 k hk), ?_, fun g o e => ⟨fun hk => ?_, ?_⟩⟩, ?_, h.hX, fun hk => ?_, h.pX⟩
  · refine (hp.below.trans (hb2.mono hp.below.size)).trans (O.below (Nat.le_trans hp.below.size hsz) fun i hi => ?_)
    rcases hi with hi | hi
    · exact hp.mine i hi
    · have := hp.below.size; omega
  · refine S2.out O fun k hk hi => ?_
    have h1 := hn2 k hk
    have h2 := S2.all k hk
    rcases hi with hi | hi
    · have := hall k hi; omega
    · omega
  · refine (hp.fs.below hb2).out O fun g o e hi => ?_
    obtain ⟨a1, a2⟩ := hp.far g o e
    rcases hi with hi | hi
    · exact a1 hi
    · omega
  · have := hn2 g hk
    have := (hp.far g o e).2
    omega
  · have := (hp.far g o e).2
    have := O.size
    omega
  · refine (O.block X (by omega) fun hi => ?_).trans ((hb2.block X hlX).trans h.box)
    rcases hi with hi | hi
    · exact h.nX hi
    · omega
  · have := hn2 X hk
    omega
theorem keep_none (w : World) (bs : Nat → Prop) : Keep w bs none 0 [] := ⟨⟨Nat.le_refl _, by unfold maxLen; omega, .inl rfl⟩, fun k hk => by simp at hk, .inl rfl⟩

set_option maxRecDepth 100000 in
set_option maxHeartbeats 16000000 in
theorem plays_walk (most : Int) (p : Option Addr) (n cap : Nat) (o : Nat → Ac) (w0 : World) (hR : Row w0 (.slice p n cap) n 6 (fun i j => (o i).cells.getD j undef)) (hO : ∀ i, i < n → OkA w0 (o i)) (hT : Tab w0) :
    Calls Tryd.prog 3 #[.int .i64 most, .slice p n cap] w0 fun e w' => e = .returned (.bool true) ∧ Below w0.heap.size w0 w' := by
  have HR := Lib.hid hR
  have HO := Lib.hid hO
  have HT := Lib.hid (fun W (hb : Below w0.heap.size w0 W) => hT.below hb)
  have HT0 := Lib.hid hT
  have hncap : n ≤ cap ∧ cap ≤ maxLen := by obtain ⟨_, _, e, h1, h2, _⟩ := hR; cases e; exact ⟨h1, h2⟩
  have hzn : (n : Int) ≤ 9223372036854775807 := by have := hncap.2; unfold maxLen at this; omega
  by_cases hbig : 60 < n
  · have q1 : 60 < (n : Int) := by omega
    have hw := Lib.hid (works_walk w0 hT)
    clear hR hO hT hbig
    go_enter Tryd.func3, Tryd.ntmps3
    go_wp2_with (go_at_call 7; refine hw.out.mono ?_; rintro e w5 ⟨rfl, hb5⟩; replace hb5 := Lib.hid hb5)
    go_ret
    exact ⟨rfl, hb5.out⟩
  have q1 : ¬ 60 < (n : Int) := by omega
  by_cases hmo : most < 1 ∨ 16777216 < most
  · have hN := Lib.hid (new_out most hmo w0)
    have hOf := Lib.hid (of_told (told_new w0 2 (by decide)) (tab_alloc hT (fblk 2)))
    have hB := Lib.hid ((Below.refl w0.heap.size w0).alloc (Nat.le_refl _) (fblk 2))
    clear hR hO hT hbig
    rcases (show most < 1 ∨ (¬ most < 1 ∧ 16777216 < most) by omega) with q2 | ⟨q2, q3⟩
    all_goals
      clear hmo
      go_enter Tryd.func3, Tryd.ntmps3
      go_wp2_with (first
        | (go_at_call 8; refine hN.out.mono ?_; rintro e w1 ⟨rfl, rfl⟩)
        | (go_at_call 9; refine hOf.out.mono ?_; rintro e w2 ⟨rfl, hb2⟩; replace hb2 := Lib.hid (hB.out.trans (hb2.mono hB.out.size)))
        | (go_at_call 7; refine (works_walk _ (HT.out _ hb2.out)).mono ?_; rintro e w3 ⟨rfl, hb3⟩; replace hb3 := Lib.hid hb3))
      go_ret
      exact ⟨rfl, hb2.out.trans (hb3.out.mono hb2.out.size)⟩
  have q2 : ¬ most < 1 := by omega
  have q3 : ¬ 16777216 < most := by omega
  have hn60 : n ≤ 60 := by omega
  have hN := Lib.hid (new_in most (by omega) (by omega) w0)
  clear hR hO hT hbig hmo
  go_enter Tryd.func3, Tryd.ntmps3
  go_wp2_with fail
  refine hN.out.mono ?_
  rintro e w1 ⟨b, rfl, bs1, S1, hb1, hn1⟩
  have F0 : Hid (Fr w0 (w1.alloc (.cells #[.slice none 0 0, .int .i64 most, .int .i64 0] 33 (0, 0))) bs1 b ⟨[], most, 0⟩ none 0 w1.heap.size) := Lib.hid (Fr.start S1 hb1 hn1 rfl rfl)
  clear S1 hb1 hn1 hN
  go_wp2_with fail
  obtain ⟨X, hX⟩ : ∃ X, w1.heap.size = X := ⟨_, rfl⟩
  rw [hX] at F0 ⊢
  obtain ⟨W1, hW1⟩ : ∃ W, w1.alloc (.cells #[.slice none 0 0, .int .i64 most, .int .i64 0] 33 (0, 0)) = W := ⟨_, rfl⟩
  rw [hW1] at F0 ⊢
  clear hW1 hX
  go_loopw [5, 8, 9, 10, 11, 12] (fun s i _ _ _ _ wr => ∃ (j : Nat) (bs : Nat → Prop) (b : Nat) (t : St) (p' : Option Addr) (c' : Nat), j ≤ n ∧ s = .pointer (some ⟨b, 0, none⟩) ∧ i = .int .i64 j ∧ Fr w0 wr bs b t p' c' X ∧ t.L.length ≤ j) (fun _ i _ _ _ _ _ => n - (intOf i).toNat)
  case atStart => exact ⟨0, bs1, b, ⟨[], most, 0⟩, none, 0, by omega, rfl, rfl, F0.out, by simp⟩
  case round =>
    rename World => wo
    obtain ⟨j, bs, b, t, p', c', hj, rfl, rfl, F, hlen⟩ := hrel
    clear F0
    by_cases hlt : j < n
    · have r1 : (j : Int) < (n : Int) := by omega
      obtain ⟨g, off, rfl, hgl, e0, e1, e2, e3, e4, e5⟩ := acs_at HR.out F.pair.below hlt
      have hOj := HO.out j hlt
      obtain ⟨oj, hoj⟩ : ∃ x, o j = x := ⟨_, rfl⟩
      rw [hoj] at e0 e1 e2 e3 e4 e5 hOj
      obtain ⟨k', a', d', s', m', q', K', cq', ks'⟩ := oj
      simp only at e0 e1 e2 e3 e4 e5
      have hk0' := hOj.h0
      have hk1' := hOj.h1
      simp only at hk0' hk1'
      have hKm := hOj.row.cap
      have hKm2 := hOj.row.max
      simp only [iv, List.length_map, hOj.hK] at hKm hKm2
      have r0 : (K' : Int) ≤ 9223372036854775807 := by unfold maxLen at hKm2; omega
      have hbA := (Below.refl wo.heap.size wo).alloc (Nat.le_refl _) (.cells #[.int .u8 k', .string a', .string d', .string s', .int .i64 m', .slice q' K' cq'] 36 (0, 0))
      have HF := Lib.hid F
      have HF1 := Lib.hid (F.same hbA)
      have HbA := Lib.hid hbA
      have HOj := Lib.hid hOj
      clear F hOj hoj hKm hKm2 hbA
      by_cases hall : ¬ 100 < (s'.size : Int) ∧ ¬ 100 < (a'.size : Int) ∧ ¬ 100 < (d'.size : Int) ∧ ¬ 20 < (K' : Int)
      · obtain ⟨p1, p2, p3, p4⟩ := hall
        obtain ⟨N, hN⟩ : ∃ x, t.L.length = x := ⟨_, rfl⟩
        obtain ⟨M, hM⟩ : ∃ x, t.most = x := ⟨_, rfl⟩
        obtain ⟨Bd, hBd⟩ : ∃ x, max 0 t.bad = x := ⟨_, rfl⟩
        have hb := HF1.out.box
        rw [hN, hM, hBd] at hb
        have hSN : N ≤ 60 := by omega
        obtain ⟨κ, hκ⟩ : ∃ κ, k' % 8 = κ := ⟨_, rfl⟩
        by_cases h7 : κ = 7
        · have g7 : (κ == 7) = true := by simpa using h7
          subst h7
          have hCo := Lib.hid (sto_copy HF1.out.pair.sto (by omega))
          have HBx := Lib.hid (And.intro hN (And.intro hM hBd))
          clear hb hN hM hBd
          go_wp2_with fail
          refine hCo.out.mono ?_
          rintro e w2 ⟨b2, rfl, bs2, S2, hn2, hb2⟩
          have hAp := Lib.hid (fun a s (hs : ByteArray.size s ≤ 4611686018427387904) => sto_app (HF1.out.pair.sto.below hb2) a s hs)
          go_wp2_with fail
          refine (hAp.out _ _ (by decide)).mono ?_
          rintro e w3 ⟨v3, k3, bs3, rfl, -, -, S3, O3, N3⟩
          have hl3 := S3.ok
          have hCr := Lib.hid (sto_crash S3 (by
            have hp : ∀ L x, (fpt L x).length ≤ L.length + 1 := fun L x => pt_len L x
            unfold appT
            split
            · split
              · omega
              · exact Nat.le_trans (hp _ _) (by omega)
            · rw [beg_L]; omega) (keep_none w3 bs3))
          go_wp2_with fail
          refine hCr.out.mono ?_
          rintro e w4 ⟨rfl, bs4, S4, O4, N4⟩
          have F4 := HF1.out.copy S2 hn2 hb2 ((O3.mono (S' := fun k => bs k ∨ w2.heap.size ≤ k) fun _ _ h => .inl h).trans O4 fun i hi h => N3 i h)
          obtain ⟨e1, e2, e3⟩ := HBx.out
          have hb := F4.box
          rw [e1, e2, e3] at hb
          have n0 := (at_cell hb 0 : _ = some _)
          have n1 := (at_cell hb 1 : _ = some _)
          have n2 := (at_cell hb 2 : _ = some _)
          have hSm := Lib.hid (same_calls F4.pair.sto p' c' N e1 (by omega) M Bd F4.pair.fs)
          have HF4 := Lib.hid F4
          clear hCo hAp hCr S2 hn2 hb2 S3 O3 N3 S4 O4 N4 F4 hb hl3
          go_wp2_with (go_at_call 14; refine hSm.out.mono ?_; rintro e w9 ⟨rfl, hb9⟩; replace hb9 := Lib.hid hb9)
          go_roundw
          case rel => exact ⟨j + 1, bs2, b2, t, p', c', by omega, rfl, by go_num, HF4.out.same hb9.out, by omega⟩
          case measure => simp [intOf]; omega
        · have g7 : (κ == 7) = false := by simpa using h7
          have n0 := (at_cell hb 0 : _ = some _)
          have n1 := (at_cell hb 1 : _ = some _)
          have n2 := (at_cell hb 2 : _ = some _)
          have hAct : Hid (∀ W, Below (wo.alloc (.cells #[.int .u8 k', .string a', .string d', .string s', .int .i64 m', .slice q' K' cq'] 36 (0, 0))).heap.size (wo.alloc (.cells #[.int .u8 k', .string a', .string d', .string s', .int .i64 m', .slice q' K' cq'] 36 (0, 0))) W → Calls Tryd.prog 13 #[pb b, rv p' N c' M Bd, .agg #[.int .u8 k', .string a', .string d', .string s', .int .i64 m', .slice q' K' cq']] W (DoPost W bs b p' (stepA t ⟨k', a', d', s', m', q', K', cq', ks'⟩))) := Lib.hid fun W hW => by
            rw [← hN, ← hM, ← hBd]
            exact do_act (HF1.out.same hW).pair HT0.out HOj.out ⟨by simp only; omega, by simp only; omega, by simp only; omega⟩ _ rfl (by omega)
          obtain ⟨T, hTe⟩ : ∃ T, stepA t ⟨k', a', d', s', m', q', K', cq', ks'⟩ = T := ⟨_, rfl⟩
          have hTl : T.L.length ≤ j + 1 := by rw [← hTe]; have := step_len t ⟨k', a', d', s', m', q', K', cq', ks'⟩; omega
          rw [hTe] at hAct
          obtain ⟨N2, hN2⟩ : ∃ x, T.L.length = x := ⟨_, rfl⟩
          obtain ⟨M2, hM2⟩ : ∃ x, T.most = x := ⟨_, rfl⟩
          obtain ⟨B2, hB2⟩ : ∃ x, max 0 T.bad = x := ⟨_, rfl⟩
          have HTl := Lib.hid (And.intro hTl hN2)
          clear hTe hb hN hM hBd
          go_wp2_with fail
          refine (hAct.out _ (Below.refl _ _)).mono ?_
          intro e w5 hD
          obtain ⟨bs', p2', c2', rfl, -, hbx, F3⟩ := HF1.out.next hD
          rw [hN2, hM2, hB2] at F3 ⊢
          have n0 := (at_cell hbx 0 : _ = some _)
          have n1 := (at_cell hbx 1 : _ = some _)
          have n2 := (at_cell hbx 2 : _ = some _)
          have f0 := at_frozen hbx 0
          have f1 := at_frozen hbx 1
          have f2 := at_frozen hbx 2
          have lX := at_lt hbx
          have hF3 := Lib.hid F3
          have hSm : Hid (∀ W, Below (((w5.setCell ⟨X, 0, none⟩ (.slice p2' N2 c2')).setCell ⟨X, 1, none⟩ (.int .i64 M2)).setCell ⟨X, 2, none⟩ (.int .i64 B2)).heap.size (((w5.setCell ⟨X, 0, none⟩ (.slice p2' N2 c2')).setCell ⟨X, 1, none⟩ (.int .i64 M2)).setCell ⟨X, 2, none⟩ (.int .i64 B2)) W → Calls Tryd.prog 14 #[pb b, rv p2' N2 c2' M2 B2] W fun e w' => e = .returned (.bool true) ∧ Below W.heap.size W w' ∧ Fr w0 w' bs' b T p2' c2' X) := Lib.hid fun W hW => by
            have F5 := F3.same hW
            exact (same_calls F5.pair.sto p2' c2' N2 hN2 (by omega) M2 B2 F5.pair.fs).mono fun e w' ⟨h1, h2⟩ => ⟨h1, h2, F5.same h2⟩
          clear hD hbx F3 hAct hTl hN2 hM2 hB2 e0 e1 e2 e3 e4 e5
          go_wp2_with fail
          refine (hSm.out _ ((Below.refl _ _).alloc (Nat.le_refl _) _)).mono ?_
          rintro e w9 ⟨rfl, hb9, F9⟩
          have HF9 := Lib.hid F9
          clear hb9 F9 n0 n1 n2 f0 f1 f2
          go_wp2_with fail
          go_roundw
          case rel => exact ⟨j + 1, bs', b, T, p2', c2', by omega, rfl, by go_num, HF9.out, HTl.out.1⟩
          case measure => simp [intOf]; omega
      · rcases (show (100 < (s'.size : Int)) ∨ (¬ 100 < (s'.size : Int) ∧ 100 < (a'.size : Int)) ∨ (¬ 100 < (s'.size : Int) ∧ ¬ 100 < (a'.size : Int) ∧ 100 < (d'.size : Int)) ∨ (¬ 100 < (s'.size : Int) ∧ ¬ 100 < (a'.size : Int) ∧ ¬ 100 < (d'.size : Int) ∧ 20 < (K' : Int)) by omega) with p1 | ⟨p1, p2⟩ | ⟨p1, p2, p3⟩ | ⟨p1, p2, p3, p4⟩
        all_goals
          clear hall
          go_wp2_with fail
          go_roundw
          case rel => exact ⟨j + 1, bs, b, t, p', c', by omega, rfl, by go_num, HF1.out, by omega⟩
          case measure => simp [intOf]; omega
    · have r1 : ¬ (j : Int) < (n : Int) := by omega
      have HF := Lib.hid F.pair.below
      clear F
      go_wp2_with (go_at_call 7; refine (works_walk _ (HT.out _ HF.out)).mono ?_; rintro e u9 ⟨rfl, hu9⟩; replace hu9 := Lib.hid hu9)
      go_ret
      exact ⟨rfl, HF.out.trans (hu9.out.mono HF.out.size)⟩
end Go.Proofs.YtejhggjehmioaaaDoor.Sto

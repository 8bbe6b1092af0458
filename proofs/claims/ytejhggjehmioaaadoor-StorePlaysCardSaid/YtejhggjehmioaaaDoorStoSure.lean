/-
  Layer 11 (store): the law that what is sure stays.
-/
import Derived.Test.YtejhggjehmioaaaDoorStoFails
namespace Go.Proofs.YtejhggjehmioaaaDoor.Sto
open Go.RowKit Go.Proofs.YtejhggjehmioaaaDoor.Own Go.Proofs.YtejhggjehmioaaaDoor.KM Go.Proofs.YtejhggjehmioaaaDoor.Flt
open Go.Proofs.YtejhggjehmioaaaDoor.Rw (str strs Row1 below_drew)

/-- two names' rows, and two stores behind them -/
structure Two (w0 w : World) (bs2 bs3 : Nat → Prop) (b b2 : Nat) (t : St) (ks : List Int) (pa pb' : Option Addr) : Prop where
  below : Below w0.heap.size w0 w
  was : Sto w bs2 b2 t
  now : Sto w bs3 b (crs t ks)
  na : ∀ i (hi : i < t.L.length), ∃ g, pa = some ⟨g, 0, none⟩ ∧ g < w.heap.size ∧ w.cell? ⟨g, i, none⟩ = some (str t.L[i].nm)
  nb : ∀ i (hi : i < t.L.length), ∃ g, pb' = some ⟨g, 0, none⟩ ∧ g < w.heap.size ∧ w.cell? ⟨g, i, none⟩ = some (str t.L[i].nm)
theorem Two.same {w0 w w' : World} {bs2 bs3 : Nat → Prop} {b b2 : Nat} {t : St} {ks : List Int} {pa pb' : Option Addr} (h : Two w0 w bs2 bs3 b b2 t ks pa pb') (hb : Below w.heap.size w w') : Two w0 w' bs2 bs3 b b2 t ks pa pb' := by
  refine ⟨h.below.trans (hb.mono h.below.size), h.was.below hb, h.now.below hb, fun i hi => ?_, fun i hi => ?_⟩
  · obtain ⟨g, e, hl, hc⟩ := h.na i hi
    exact ⟨g, e, Nat.lt_of_lt_of_le hl hb.size, (hb.cell (p := ⟨g, i, none⟩) hl).trans hc⟩
  · obtain ⟨g, e, hl, hc⟩ := h.nb i hi
    exact ⟨g, e, Nat.lt_of_lt_of_le hl hb.size, (hb.cell (p := ⟨g, i, none⟩) hl).trans hc⟩
theorem names_row {w w' : World} {L : List Fl} {p : Option Addr} {n c : Nat} (h : w'.ownsRow w.heap.size 9 1 (.slice p n c) n (strs (L.map Fl.nm))) (hn : L.length = n) : ∀ i (hi : i < L.length), ∃ g, p = some ⟨g, 0, none⟩ ∧ g < w'.heap.size ∧ w'.cell? ⟨g, i, none⟩ = some (str L[i].nm) := by
  intro i hi
  obtain ⟨g, c', e, hg1, hg2, _, _⟩ := Rw.own_shape h (by omega)
  cases e
  refine ⟨g, rfl, hg2, ?_⟩
  refine Rw.own_cell h rfl ?_
  rw [Rw.strs_at (by simpa using hi)]
  simp only [List.getElem_map]

set_option maxRecDepth 100000 in
set_option maxHeartbeats 16000000 in
theorem sure_walk (p : Option Addr) (n cap : Nat) (o : Nat → Ac) (q : Option Addr) (Kq cq : Nat) (ks : List Int) (w0 : World) (hR : Row w0 (.slice p n cap) n 6 (fun i j => (o i).cells.getD j undef)) (hO : ∀ i, i < n → OkA w0 (o i)) (hq : Row1 w0 q cq (iv ks)) (hKq : ks.length = Kq) (hrng : ∀ k ∈ ks, -9223372036854775808 ≤ k ∧ k ≤ 9223372036854775807) (hT : Tab w0) :
    Calls Tryd.prog 4 #[.slice p n cap, .slice q Kq cq] w0 fun e w' => e = .returned (.bool true) ∧ Below w0.heap.size w0 w' := by
  have HR := Lib.hid hR
  have HO := Lib.hid hO
  have HQ := Lib.hid (And.intro hq hrng)
  have HT := Lib.hid (fun W (hb : Below w0.heap.size w0 W) => hT.below hb)
  have HT0 := Lib.hid hT
  have HK := Lib.hid hKq
  have hncap : n ≤ cap ∧ cap ≤ maxLen := by obtain ⟨_, _, e, h1, h2, _⟩ := hR; cases e; exact ⟨h1, h2⟩
  have hzn : (n : Int) ≤ 9223372036854775807 := by have := hncap.2; unfold maxLen at this; omega
  have hqc := hq.cap
  have hqm := hq.max
  simp only [iv, List.length_map, hKq] at hqc
  have hzq : (Kq : Int) ≤ 9223372036854775807 := by unfold maxLen at hqm; omega
  have hw := Lib.hid (works_walk w0 hT)
  by_cases hbig : 40 < n ∨ 20 < Kq
  · clear hR hO hq hrng hT hKq
    rcases (show (40 < (n : Int)) ∨ (¬ 40 < (n : Int) ∧ 20 < (Kq : Int)) by omega) with q1 | ⟨q1, q2⟩
    all_goals
      clear hbig
      go_enter Tryd.func4, Tryd.ntmps4
      go_wp2_with (go_at_call 7; refine hw.out.mono ?_; rintro e w5 ⟨rfl, hb5⟩; replace hb5 := Lib.hid hb5)
      go_ret
      exact ⟨rfl, hb5.out⟩
  · have hn40 : n ≤ 40 := by omega
    have q1 : ¬ 40 < (n : Int) := by omega
    have q2 : ¬ 20 < (Kq : Int) := by omega
    clear hbig hR hO hq hrng hT hw hKq hqc hqm
    go_enter Tryd.func4, Tryd.ntmps4
    go_wp2_with fail
    refine (new_in 2000 (by omega) (by omega) _).mono ?_
    rintro e w1 ⟨b, rfl, bs1, S1, hb1, hn1⟩
    have F0 : Hid (Fr w0 (w1.alloc (.cells #[.slice none 0 0, .int .i64 2000, .int .i64 0] 33 (0, 0))) bs1 b ⟨[], 2000, 0⟩ none 0 w1.heap.size) := Lib.hid (Fr.start S1 hb1 hn1 rfl rfl)
    clear S1 hb1 hn1 q2
    go_wp2_with fail
    obtain ⟨X, hX⟩ : ∃ X, w1.heap.size = X := ⟨_, rfl⟩
    rw [hX] at F0 ⊢
    obtain ⟨W1, hW1⟩ : ∃ W, w1.alloc (.cells #[.slice none 0 0, .int .i64 2000, .int .i64 0] 33 (0, 0)) = W := ⟨_, rfl⟩
    rw [hW1] at F0 ⊢
    clear hW1 hX
    go_loopw [8] (fun i wr => ∃ (j : Nat) (bs : Nat → Prop) (t : St) (p' : Option Addr) (c' : Nat), j ≤ n ∧ i = .int .i64 j ∧ Fr w0 wr bs b t p' c' X ∧ t.L.length ≤ j) (fun i _ => n - (intOf i).toNat)
    case atStart => exact ⟨0, bs1, ⟨[], 2000, 0⟩, none, 0, by omega, rfl, F0.out, by simp⟩
    case round =>
      rename World => wo
      obtain ⟨j, bs, t, p', c', hj, rfl, F, hlen⟩ := hrel
      clear F0
      by_cases hlt : j < n
      · have r1 : (j : Int) < (n : Int) := by omega
        obtain ⟨g, off, rfl, hgl, e0, e1, e2, e3, e4, e5⟩ := acs_at HR.out F.pair.below hlt
        have hOj := HO.out j hlt
        obtain ⟨oj, hoj⟩ : ∃ x, o j = x := ⟨_, rfl⟩
        rw [hoj] at e0 e1 e2 e3 e4 e5 hOj
        obtain ⟨k', a', d', s', m', q', K', cq', ks'⟩ := oj
        simp only at e0 e1 e2 e3 e4 e5
        have hk0' := hOj.h0
        have hk1' := hOj.h1
        simp only at hk0' hk1'
        have hKm := hOj.row.cap
        have hKm2 := hOj.row.max
        simp only [iv, List.length_map, hOj.hK] at hKm hKm2
        have r0 : (K' : Int) ≤ 9223372036854775807 := by unfold maxLen at hKm2; omega
        have HF := Lib.hid F
        have HOj := Lib.hid hOj
        clear F hOj hoj hKm hKm2
        by_cases hall : (s'.size : Int) ≤ 100 ∧ (a'.size : Int) ≤ 100 ∧ (d'.size : Int) ≤ 100 ∧ (K' : Int) ≤ 20
        · obtain ⟨p1, p2, p3, p4⟩ := hall
          obtain ⟨N, hN⟩ : ∃ x, t.L.length = x := ⟨_, rfl⟩
          obtain ⟨M, hM⟩ : ∃ x, t.most = x := ⟨_, rfl⟩
          obtain ⟨Bd, hBd⟩ : ∃ x, max 0 t.bad = x := ⟨_, rfl⟩
          have hb := HF.out.box
          rw [hN, hM, hBd] at hb
          have n0 := (at_cell hb 0 : _ = some _)
          have n1 := (at_cell hb 1 : _ = some _)
          have n2 := (at_cell hb 2 : _ = some _)
          have hAct : Hid (∀ W, Below wo.heap.size wo W → Calls Tryd.prog 13 #[pb b, rv p' N c' M Bd, .agg #[.int .u8 k', .string a', .string d', .string s', .int .i64 m', .slice q' K' cq']] W (DoPost W bs b p' (stepA t ⟨k', a', d', s', m', q', K', cq', ks'⟩))) := Lib.hid fun W hW => by
            rw [← hN, ← hM, ← hBd]
            exact do_act (HF.out.same hW).pair HT0.out HOj.out ⟨by simp only; omega, by simp only; omega, by simp only; omega⟩ _ rfl (by omega)
          obtain ⟨T, hTe⟩ : ∃ T, stepA t ⟨k', a', d', s', m', q', K', cq', ks'⟩ = T := ⟨_, rfl⟩
          have hTl : Hid (T.L.length ≤ j + 1) := Lib.hid (by rw [← hTe]; have := step_len t ⟨k', a', d', s', m', q', K', cq', ks'⟩; omega)
          rw [hTe] at hAct
          clear hN hM hBd hTe hb
          go_wp2_with fail
          go_region_with (go_at_call 13; have hd : Below wo.heap.size wo wo.drew := ⟨rfl, rfl, rfl, Nat.le_refl _, fun _ _ => rfl⟩; refine (hAct.out _ (by first | exact hd | exact below_drew hd | exact Below.refl _ _)).mono ?_; intro e w5 hD; obtain ⟨bs', p2', c2', rfl, -, hbx, F3⟩ := (HF.out.same (by first | exact hd | exact below_drew hd | exact Below.refl _ _)).next hD; replace F3 := Lib.hid F3; have n0 := (at_cell hbx 0 : _ = some _); have n1 := (at_cell hbx 1 : _ = some _); have n2 := (at_cell hbx 2 : _ = some _); have f0 := at_frozen hbx 0; have f1 := at_frozen hbx 1; have f2 := at_frozen hbx 2; clear hD hbx hd)
          all_goals
            go_wp2_with fail
            go_roundw
            case rel => exact ⟨j + 1, bs', T, p2', c2', by omega, by go_num, F3.out, hTl.out⟩
            case measure => simp [intOf]; omega
        · rcases (show (¬ (s'.size : Int) ≤ 100) ∨ ((s'.size : Int) ≤ 100 ∧ ¬ (a'.size : Int) ≤ 100) ∨ ((s'.size : Int) ≤ 100 ∧ (a'.size : Int) ≤ 100 ∧ ¬ (d'.size : Int) ≤ 100) ∨ ((s'.size : Int) ≤ 100 ∧ (a'.size : Int) ≤ 100 ∧ (d'.size : Int) ≤ 100 ∧ ¬ (K' : Int) ≤ 20) by omega) with p1 | ⟨p1, p2⟩ | ⟨p1, p2, p3⟩ | ⟨p1, p2, p3, p4⟩
          all_goals
            clear hall
            go_wp2_with fail
            go_roundw
            case rel => exact ⟨j + 1, bs, t, p', c', by omega, by go_num, HF.out, by omega⟩
            case measure => simp [intOf]; omega
      · have r1 : ¬ (j : Int) < (n : Int) := by omega
        obtain ⟨N, hN⟩ : ∃ x, t.L.length = x := ⟨_, rfl⟩
        have hNn : N ≤ 40 := by omega
        have hCo := Lib.hid (sto_copy F.pair.sto (by omega))
        have HF := Lib.hid F
        clear F
        go_wp2_with fail
        refine hCo.out.mono ?_
        rintro e w2 ⟨b2, rfl, bs2, S2, hn2, hb2⟩
        have F2 := HF.out.same hb2
        have hCr := sto_crash F2.pair.sto (by omega) (F2.pair.keep HQ.out.1 HQ.out.2)
        rw [HK.out] at hCr
        have hNC : (crs t ks).L.length = N := (crs_len t.L ks).trans hN
        go_wp2_with fail
        refine hCr.mono ?_
        rintro e w3 ⟨rfl, bs3, S3, O3, N3⟩
        have S2' := S2.out O3 (fun k hk hk2 => by have := HF.out.pair.sto.all k hk2; have := hn2 k hk; omega)
        have hB3 : Below w0.heap.size w0 w3 := F2.pair.below.trans (O3.below F2.pair.below.size fun i hi => F2.pair.mine i hi)
        have hNa := sto_names S2' (by omega)
        rw [hN] at hNa
        clear hCr hCo S2 hn2 hb2 F2
        go_wp2_with fail
        refine hNa.mono ?_
        rintro e w4 ⟨va, rfl, hra, hb4⟩
        have S3' := S3.below hb4
        have S2'' := S2'.below hb4
        have hNb := sto_names S3' (by omega)
        rw [hNC] at hNb
        obtain ⟨pa, ca, rfl, hTa⟩ := Rw.owns_row hra (by have := hra.1; omega)
        have hca := hTa.cap
        have hma := hTa.max
        clear hNa S2' S3 hTa
        go_wp2_with fail
        refine hNb.mono ?_
        rintro e w5 ⟨vb, rfl, hrb, hb5⟩
        obtain ⟨pb', cb, rfl, hTb⟩ := Rw.owns_row hrb (by have := hrb.1; omega)
        have hcb := hTb.cap
        have hmb := hTb.max
        have H2 : Hid (Two w0 w5 bs2 bs3 b b2 t ks pa pb') := Lib.hid (by
          refine ⟨hB3.trans ((hb4.trans (hb5.mono hb4.size)).mono hB3.size), S2''.below hb5, S3'.below hb5, fun i hi => ?_, ?_⟩
          · obtain ⟨g, e, hl, hc⟩ := names_row hra hN i hi
            exact ⟨g, e, Nat.lt_of_lt_of_le hl hb5.size, (hb5.cell (p := ⟨g, i, none⟩) hl).trans hc⟩
          · have hrb' := hrb
            have em : (crs t ks).L.map Fl.nm = t.L.map Fl.nm := crs_names t.L ks
            rw [em] at hrb'
            exact names_row hrb' hN)
        have HN := Lib.hid hN
        clear hra hb4 S3' S2'' hNb hTb hrb hb5 hB3 HF O3 N3 hN hNC hlen
        have q3 : (N : Int) ≤ 9223372036854775807 := by omega
        go_wp2_with fail
        go_loopw [12, 13, 14, 15, 16, 17, 18, 19, 20] (fun i _ _ _ _ _ _ _ _ wr => ∃ k : Nat, k ≤ N ∧ i = .int .i64 k ∧ Two w0 wr bs2 bs3 b b2 t ks pa pb') (fun i _ _ _ _ _ _ _ _ _ => N - (intOf i).toNat)
        case atStart => exact ⟨0, by omega, rfl, H2.out⟩
        case round =>
          rename World => wp
          obtain ⟨k, hk, rfl, C⟩ := hrel
          clear H2
          have HC := Lib.hid C
          by_cases hlt : k < N
          · have hkL : k < t.L.length := by rw [HN.out]; exact hlt
            obtain ⟨ga, rfl, hga, hca1⟩ := C.na k hkL
            obtain ⟨gb, rfl, hgb, hcb1⟩ := C.nb k hkL
            obtain ⟨x, hx⟩ : ∃ s : ByteArray, s = ⟨(t.L[k].nm).toArray⟩ := ⟨_, rfl⟩
            obtain ⟨y, hy⟩ : ∃ s : ByteArray, s = ⟨(t.L[k].bs).toArray⟩ := ⟨_, rfl⟩
            obtain ⟨S, hS⟩ : ∃ S, t.L[k].sure = S := ⟨_, rfl⟩
            obtain ⟨kk, hkk⟩ : ∃ kk, ks.getD k 0 = kk := ⟨_, rfl⟩
            obtain ⟨N9, hN9⟩ : ∃ N9, cutN t.L[k] kk = N9 := ⟨_, rfl⟩
            have hmem := List.getElem_mem hkL
            have hok := C.was.ok
            obtain ⟨u1, u2⟩ := cutN_le (hok.sures _ hmem) kk
            rw [hN9, hS] at u1
            rw [hN9] at u2
            have hys : y.size = t.L[k].bs.length := by rw [hy]; rfl
            rw [← hys] at u2
            have hyl : y.size ≤ 16777216 := by rw [hys]; have := len_tot hmem; have := tot_top hok; omega
            obtain ⟨z, hz⟩ : ∃ z, y.extract 0 N9 = z := ⟨_, rfl⟩
            have hcut := fun W => to_cut (P := Tryd.prog) 9 Tryd.underlying9 y N9 (by omega) (by omega) W
            rw [Int.toNat_natCast, hz] at hcut
            have hzl := ext_list y N9
            rw [hz] at hzl
            have hze : (cutF t.L[k] kk).bs.toArray = z.data := by
              apply Array.toList_inj.1
              rw [hzl, hy]
              simp [cutF, hN9]
            have hzs : (cutF t.L[k] kk).bs.length = N9 := by
              simp only [cutF, List.length_take, hN9]; omega
            have hxn : x.data.toList = t.L[k].nm := by rw [hx]
            have hxs : x.size ≤ maxLen := by
              have := isNm_len (hok.names _ hmem)
              rw [← hxn] at this
              have e : x.data.toList.length = x.size := rfl
              unfold maxLen; omega
            have hlk : flk t.L x.data.toList = some t.L[k] := hok.rise.lk.2 ⟨hmem, hxn.symm⟩
            have hlk2 : flk (crs t ks).L x.data.toList = some (cutF t.L[k] kk) := by
              refine C.now.ok.rise.lk.2 ⟨?_, hxn.symm⟩
              show cutF t.L[k] kk ∈ crsL t.L ks
              rw [← hkk, ← crs_at t.L ks k hkL]
              exact List.getElem_mem _
            have hR1 : Hid (∀ W, Below wp.heap.size wp W → Calls Tryd.prog 16 #[pb b2, .string x] W fun e w' => e = .returned (.tuple #[.string y, .bool true]) ∧ Below W.heap.size W w') := Lib.hid fun W hW => by
              have := sto_read (HC.out.was.below hW) x hxs
              rwa [hlk, got_some hlk, ← hy] at this
            have hR2 : Hid (∀ W, Below wp.heap.size wp W → Calls Tryd.prog 16 #[pb b, .string x] W fun e w' => e = .returned (.tuple #[.string z, .bool true]) ∧ Below W.heap.size W w') := Lib.hid fun W hW => by
              have := sto_read (HC.out.now.below hW) x hxs
              rwa [hlk2, got_some hlk2, hze] at this
            have hZ1 : Hid (∀ W, Below wp.heap.size wp W → Calls Tryd.prog 17 #[pb b2, .string x] W fun e w' => e = .returned (.tuple #[.int .i64 (y.size : Int), .int .i64 (S : Int)]) ∧ Below W.heap.size W w') := Lib.hid fun W hW => by
              have := sto_size (HC.out.was.below hW) x hxs
              rwa [got_some hlk, hS, ← hys] at this
            have hZ2 : Hid (∀ W, Below wp.heap.size wp W → Calls Tryd.prog 17 #[pb b, .string x] W fun e w' => e = .returned (.tuple #[.int .i64 (N9 : Int), .int .i64 (N9 : Int)]) ∧ Below W.heap.size W w') := Lib.hid fun W hW => by
              have := sto_size (HC.out.now.below hW) x hxs
              rw [got_some hlk2, hzs] at this
              have e : (cutF t.L[k] kk).sure = N9 := hN9
              rw [e] at this
              exact this
            have hCells : Hid (∀ W, Below wp.heap.size wp W → W.cell? ⟨ga, k, none⟩ = some (.string x) ∧ W.cell? ⟨gb, k, none⟩ = some (.string x)) := Lib.hid fun W hW =>
              ⟨(hW.cell (p := ⟨ga, k, none⟩) hga).trans (by rw [hca1, hx]; rfl), (hW.cell (p := ⟨gb, k, none⟩) hgb).trans (by rw [hcb1, hx]; rfl)⟩
            obtain ⟨d0, d1⟩ := hCells.out wp (Below.refl _ _)
            have v1 : (k : Int) < (N : Int) := by omega
            have v2 : (y.size : Int) ≤ 9223372036854775807 := by omega
            have v3 : ¬ (N9 : Int) < (S : Int) := by omega
            have v4 : ¬ (y.size : Int) < (N9 : Int) := by omega
            have v6 : decide ((N9 : Int) < (S : Int)) = false := by simpa using v3
            have v7 : decide ((y.size : Int) < (N9 : Int)) = false := by simpa using v4
            have z1 : (x.toList == x.toList) = true := text_same rfl
            have z2 : (z.toList == z.toList) = true := text_same rfl
            clear C hy hx hS hkk hN9 hmem hok hys hz hzl hze hzs hxn hlk hlk2 hca1 hcb1
            go_wp2_with fail
            refine (hR1.out _ (Below.refl _ _)).mono ?_
            rintro e u6 ⟨rfl, hu6⟩
            have U6 := Lib.hid hu6
            clear d0 d1 hu6
            obtain ⟨d0, d1⟩ := hCells.out u6 U6.out
            go_wp2_with fail
            refine (hR2.out _ U6.out).mono ?_
            rintro e u7 ⟨rfl, hu7⟩
            have U7 := Lib.hid (U6.out.trans (hu7.mono U6.out.size))
            clear d0 d1 hu7
            obtain ⟨d0, d1⟩ := hCells.out u7 U7.out
            go_wp2_with fail
            refine (hZ1.out _ U7.out).mono ?_
            rintro e u8 ⟨rfl, hu8⟩
            have U8 := Lib.hid (U7.out.trans (hu8.mono U7.out.size))
            clear d0 d1 hu8
            obtain ⟨d0, d1⟩ := hCells.out u8 U8.out
            go_wp2_with fail
            refine (hZ2.out _ U8.out).mono ?_
            rintro e u9 ⟨rfl, hu9⟩
            have U9 := Lib.hid (U8.out.trans (hu9.mono U8.out.size))
            clear d0 d1 hu9
            obtain ⟨d0, d1⟩ := hCells.out u9 U9.out
            clear hR1 hR2 hZ1 hZ2 hCells
            go_wp2_with fail
            go_quiet (fail)
            go_wp2_with fail
            go_roundw
            case rel => exact ⟨k + 1, by omega, by go_num, HC.out.same (below_drew U9.out)⟩
            case measure => simp [intOf]; omega
          · have v1 : ¬ (k : Int) < (N : Int) := by omega
            clear C
            go_wp2_with (go_at_call 7; refine (works_walk _ (HT.out _ HC.out.below)).mono ?_; rintro e u9 ⟨rfl, hu9⟩; replace hu9 := Lib.hid hu9)
            go_ret
            exact ⟨rfl, HC.out.below.trans (hu9.out.mono HC.out.below.size)⟩
end Go.Proofs.YtejhggjehmioaaaDoor.Sto

/-
  Layer 21 (gens): the law's Made, walked. Written by gen_genmade.py.
-/
import Derived.Test.YtememmgnhnldaaaDoorGenMadeL
import Derived.Test.YtememmgnhnldaaaDoorStoRefApp
import Derived.Deep.RegionHeld3
namespace Go.Proofs.YtememmgnhnldaaaDoor.Gen
open Go.RowKit Go.Proofs.YtememmgnhnldaaaDoor.Own Go.Proofs.YtememmgnhnldaaaDoor.Sto
open Go.Proofs.YtememmgnhnldaaaDoor.Rw (str strs Row1 below_drew)

theorem made_drew {w W : World} {e : Ending} (h : MadePost w e W) : MadePost w e W.drew := by
  obtain ⟨bs, b, t, p, c, n, he, hb, hs, hm, hg⟩ := h
  exact ⟨bs, b, t, p, c, n, he, hb.drew, hs.below ⟨rfl, rfl, rfl, Nat.le_refl _, fun _ _ => rfl⟩, hm, hg⟩
set_option maxRecDepth 100000 in
set_option maxHeartbeats 16000000 in
theorem made_calls (p0 : Option Addr) (c0 n0 : Nat) (f : Nat → Fi) (w : World) (hF : FRow w p0 c0 n0 f) : Calls Tryd.prog 5 #[.slice p0 n0 c0] w (MadePost w) := by
  have HF := Lib.hid hF
  have hcap := hF.cap
  have hmax := hF.max
  unfold maxLen at hmax
  have qn : (n0 : Int) ≤ 9223372036854775807 := by omega
  clear hF
  go_enter Tryd.func5, Tryd.ntmps5
  go_wp2_with fail
  refine (new_in 10000 (by omega) (by omega) _).mono ?_
  rintro e w1 ⟨b, rfl, bs1, s1, hb1, hn1⟩
  go_wp2_with fail
  obtain ⟨R, hR⟩ : ∃ R, w.heap.size = R := ⟨_, rfl⟩
  obtain ⟨X, hX⟩ : ∃ X, w1.heap.size = X := ⟨_, rfl⟩
  have hsz1 : w.heap.size + 1 ≤ w1.heap.size := by have := hb1.size; simpa using this
  have A1 := Lib.hid (show MdAt w (w1.alloc (.cells #[.slice none 0 0, .int .i64 10000, .int .i64 0] 26 (0, 0))) bs1 b R X ⟨[], 10000, 0⟩ ⟨[], 10000, 0⟩ none 0 0 from by
    refine ⟨(((Below.refl _ w).alloc (Nat.le_refl _) (.cells #[.slice none 0 0, .int .i64 0, .int .i64 0] 26 (0, 0))).trans (hb1.mono (by simp))).alloc (by omega) _, s1.below ((Below.refl _ _).alloc (Nat.le_refl _) _), fun k hk => by have := hn1 k hk; simp at this; omega, ?_, at_newk _ _ hX.symm, Fs.empty _, rfl, rfl, rfl, fun h => ?_, fun h => ?_, by omega, by omega, by omega, fun g o e => by cases e⟩
    · refine at_old _ _ ((hb1.block R (by simp; omega)).trans ?_)
      exact at_newk _ _ hR.symm
    · have := hn1 R h; simp at this; omega
    · have := s1.all X h; omega)
  rw [hR, hX]
  generalize w1.alloc (.cells #[.slice none 0 0, .int .i64 10000, .int .i64 0] 26 (0, 0)) = W1 at *
  clear s1 hb1 hn1 hR hX hsz1
  have HOK0 := Lib.hid A1.out.sto.ok
  refine (sto_app A1.out.sto ⟨#[111, 116, 104, 101, 114]⟩ ⟨#[111]⟩ (by decide)).mono ?_
  intro e W2 hd
  obtain ⟨v2, bs2, rfl, hv2, hA2⟩ := A1.out.prog hd
  have A2 := Lib.hid hA2
  clear hd hA2 hv2
  have d0 : W2.cell? ⟨X, 0, none⟩ = some (.slice none 0 0) := at_cell A2.out.box 0
  have d1 : W2.cell? ⟨X, 1, none⟩ = some (.int .i64 10000) := at_cell A2.out.box 1
  have d2 : W2.cell? ⟨X, 2, none⟩ = some (.int .i64 0) := at_cell A2.out.box 2
  have HRA := Lib.hid (rapp_calls ⟨[], 10000, 0⟩ none 0 0 rfl ⟨#[111, 116, 104, 101, 114]⟩ ⟨#[111]⟩ (by decide) (by decide) W2 A2.out.fs HOK0.out.rise (by decide) (by decide) (by decide))
  go_wp2_with fail
  refine HRA.out.mono ?_
  intro e W3 hp
  obtain ⟨p3, c3, n3, rfl, hbx, hA3⟩ := A2.out.refs hp rfl rfl
  unfold set3 at hA3
  have e0 : W3.cell? ⟨X, 0, none⟩ = some (.slice none 0 0) := at_cell hbx 0
  have e1 : W3.cell? ⟨X, 1, none⟩ = some (.int .i64 10000) := at_cell hbx 1
  have e2 : W3.cell? ⟨X, 2, none⟩ = some (.int .i64 0) := at_cell hbx 2
  have g0 := at_frozen hbx 0
  have g1 := at_frozen hbx 1
  have g2 := at_frozen hbx 2
  have gl := at_lt hbx
  have A3 := Lib.hid hA3
  have HG := Lib.hid gd_new
  change Hid (Gd (appT ⟨[], 10000, 0⟩ [111, 116, 104, 101, 114] [111]) 1) at HG
  clear hp hA3 hbx d0 d1 d2 A1 A2 HRA HOK0
  go_wp2_with fail
  generalize (((W3.setCell ⟨X, 0, none⟩ (.slice p3 n3 c3)).setCell ⟨X, 1, none⟩ (.int .i64 10000)).setCell ⟨X, 2, none⟩ (.int .i64 0)) = W4 at *
  clear e0 e1 e2 g0 g1 g2 gl
  generalize appC ⟨[], 10000, 0⟩ [111, 116, 104, 101, 114] [111] = cz at *
  generalize appT ⟨[], 10000, 0⟩ [111, 116, 104, 101, 114] [111] = t3 at *
  go_loopw [7] (fun i wr => ∃ (k : Nat) (t : St) (bs : Nat → Prop) (p : Option Addr) (c n : Nat), k ≤ n0 ∧ k ≤ 20 ∧ i = .int .i64 k ∧ MdAt w wr bs b R X t t p c n ∧ Hid (Gd t (k + 1))) (fun i _ => n0 - (intOf i).toNat)
  case atStart => exact ⟨0, _, _, _, _, _, Nat.zero_le _, by omega, rfl, A3.out, HG⟩
  case round =>
    obtain ⟨k, t, bs, p, c, n, hk, hk2, rfl, hA, HGD⟩ := hrel
    rename World => wr
    have A := Lib.hid hA
    clear hA A3 HG
    by_cases hlt : k < n0
    · by_cases hlt2 : k < 20
      · have q1 : (k : Int) < (n0 : Int) := by omega
        have q2 : (k : Int) < 20 := by omega
        have HC : Hid (∃ g o, p0 = some ⟨g, o, none⟩ ∧ ∀ W, Below w.heap.size w W → W.cell? ⟨g, o + k * 3, none⟩ = some (.int .u8 (f k).k) ∧ W.cell? ⟨g, o + k * 3 + 1, none⟩ = some (.string (f k).s) ∧ W.cell? ⟨g, o + k * 3 + 2, none⟩ = some (.bool (f k).q)) := Lib.hid (by
          rcases HF.out.cells with h0 | ⟨g, o, e, hl, hc⟩
          · omega
          · exact ⟨g, o, e, fun W hb => ⟨(hb.cell (p := ⟨g, _, none⟩) hl).trans (hc k hlt).1, (hb.cell (p := ⟨g, _, none⟩) hl).trans (hc k hlt).2.1, (hb.cell (p := ⟨g, _, none⟩) hl).trans (hc k hlt).2.2⟩⟩)
        obtain ⟨g, o, rfl, hc⟩ := HC.out
        replace HC := Lib.hid hc
        have hfk := HF.out.ok k hlt
        obtain ⟨⟨fk, fs, fq⟩, hfe⟩ : ∃ z, f k = z := ⟨_, rfl⟩
        simp only [hfe] at HC hfk
        clear hc hfe
        obtain ⟨z0, z1, -⟩ := HC.out _ A.out.below
        by_cases h100 : 100 < fs.size
        · have q3 : (100 : Int) < (fs.size : Int) := by omega
          have HG2 := Lib.hid (HGD.out.more (Nat.le_succ _))
          go_wp2_with fail
          go_roundw
          case rel => exact ⟨k + 1, _, _, _, _, _, by omega, by omega, by go_num, A.out, HG2⟩
          case measure => simp [intOf]; omega
        · have q3 : ¬ (100 : Int) < (fs.size : Int) := by omega
          obtain ⟨m, hm⟩ : ∃ m : Nat, fk % 18 = (m : Int) := ⟨(fk % 18).toNat, by omega⟩
          have hm18 : m < 18 := by omega
          have HN := Lib.hid (fun W => rname_calls lg (m : Nat) (by decide) (by omega) (by omega) W)
          have HNE : Hid (oth ≠ nm lg (m : Nat)) := Lib.hid fun e => lg_oth _ e.symm
          have hal := lg_size hm18
          unfold lg at HN
          obtain ⟨a, ha⟩ : ∃ a, nm lg (m : Nat) = a := ⟨_, rfl⟩
          rw [ha] at HNE hal
          unfold lg at ha
          rw [ha] at HN
          have hw18 : IntKind.u8.wrap (fk.tmod 18) = m := by
            rw [Int.tmod_eq_emod_of_nonneg hfk.1, hm]
            exact Int.emod_eq_of_lt (by omega) (by show (m : Int) < 256; omega)
          clear h100 ha hlt hlt2
          have hfs : fs.size ≤ 100 := by omega
          go_wp2_with fail
          refine (HN.out _).mono ?_
          rintro e w' ⟨rfl, rfl⟩
          clear hm hw18
          have HAP := Lib.hid (sto_app A.out.sto ⟨a.toArray⟩ fs (by omega))
          rw [show (⟨a.toArray⟩ : ByteArray).data.toList = a from rfl] at HAP
          go_wp2_with fail
          refine HAP.out.mono ?_
          intro e W5 hd
          obtain ⟨v5, bs5, rfl, hv5, hA5⟩ := A.out.prog hd
          have A5 := Lib.hid hA5
          clear hd hA5 hv5 HAP z0 z1
          obtain ⟨-, z1, -⟩ := HC.out _ A5.out.below
          have d0 : W5.cell? ⟨X, 0, none⟩ = some (.slice p n c) := at_cell A5.out.box 0
          have d1 : W5.cell? ⟨X, 1, none⟩ = some (.int .i64 10000) := at_cell A5.out.box 1
          have d2 : W5.cell? ⟨X, 2, none⟩ = some (.int .i64 0) := at_cell A5.out.box 2
          have HOK := Lib.hid A.out.sto.ok
          have HRA : Hid (∀ W', Below W5.heap.size W5 W' → Calls Tryd.prog 16 #[.agg #[.slice p n c, .int .i64 10000, .int .i64 0], .string ⟨a.toArray⟩, .string fs] W' (RPost W' p (appT t a fs.data.toList) (appC t a fs.data.toList))) := Lib.hid (by
            intro W' hbw
            have hl := A5.out.len
            have hl2 := HGD.out.len
            have ht := (tot_top HOK.out).2
            have := rapp_calls t p c n hl ⟨a.toArray⟩ fs (by rw [size_of]; omega) (by rw [A5.out.rbad]; decide) W' (A5.out.fs.below hbw) HOK.out.rise (by omega) (by omega) (by omega)
            rw [A5.out.rmost, A5.out.rbad] at this
            exact this)
          have HT5 := Lib.hid (app_same HGD.out.bad a fs.data.toList)
          have HG5 := Lib.hid (HGD.out.app HOK.out (s := fs.data.toList) HNE.out)
          have HRF := Lib.hid (fun W' hb e W6 hp => (A5.out.same (W' := W') hb).refs (e := e) (W' := W6) (r' := appT t a fs.data.toList) (C := appC t a fs.data.toList) hp (HT5.out.2.1.trans HGD.out.most) HT5.out.1)
          generalize appC t a fs.data.toList = c5 at *
          generalize appT t a fs.data.toList = t5 at *
          have hzl : X < W5.heap.size := at_lt A5.out.box
          clear A HT5 HOK
          have hd5 : Below W5.heap.size W5 W5 := Below.refl _ _
          go_wp2_with fail
          go_region_with (first
            | (go_at_call 16; refine (HRA.out _ (by first | exact hd5 | exact below_drew hd5 | exact hd5.drew)).mono ?_; intro e w6 hp
               obtain ⟨p6, c6, n6, rfl, hbx, hA6⟩ := HRF.out _ (by first | exact hd5 | exact below_drew hd5 | exact hd5.drew) _ _ hp
               have y0 : w6.cell? ⟨X, 0, none⟩ = some (.slice p n c) := at_cell hbx 0
               have y1 : w6.cell? ⟨X, 1, none⟩ = some (.int .i64 10000) := at_cell hbx 1
               have y2 : w6.cell? ⟨X, 2, none⟩ = some (.int .i64 0) := at_cell hbx 2
               have g0 := at_frozen hbx 0
               have g1 := at_frozen hbx 1
               have g2 := at_frozen hbx 2
               have gl := at_lt hbx
               unfold set3 at hA6
               have A6 := Lib.hid hA6
               have z2 := (HC.out _ A6.out.below).2.2
               clear hp hA6 hbx d0 d1 d2 z1))
          all_goals
            clear HRA HRF A5 hd5 hzl
            generalize ((w6.setCell ⟨X, 0, none⟩ (.slice p6 n6 c6)).setCell ⟨X, 1, none⟩ (.int .i64 10000)).setCell ⟨X, 2, none⟩ (.int .i64 0) = W6 at *
            clear y0 y1 y2 g0 g1 g2 gl
            cases fq with
            | false =>
              go_wp2_with fail
              go_roundw
              case rel => exact ⟨k + 1, _, _, _, _, _, by omega, by omega, by go_num, A6.out, HG5⟩
              case measure => simp [intOf]; omega
            | true =>
              go_wp2_with fail
              clear z2
              have HSY := Lib.hid (sto_syn A6.out.sto ⟨a.toArray⟩)
              rw [show (⟨a.toArray⟩ : ByteArray).data.toList = a from rfl] at HSY
              refine HSY.out.mono ?_
              intro e W7 hd
              obtain ⟨v7, bs7, rfl, hv7, hA7⟩ := A6.out.prog hd
              have A7 := Lib.hid hA7
              clear hd hA7 hv7 HSY
              have d0 : W7.cell? ⟨X, 0, none⟩ = some (.slice p6 n6 c6) := at_cell A7.out.box 0
              have d1 : W7.cell? ⟨X, 1, none⟩ = some (.int .i64 10000) := at_cell A7.out.box 1
              have d2 : W7.cell? ⟨X, 2, none⟩ = some (.int .i64 0) := at_cell A7.out.box 2
              have HOK := Lib.hid A6.out.sto.ok
              have HRS : Hid (Calls Tryd.prog 18 #[.agg #[.slice p6 n6 c6, .int .i64 10000, .int .i64 0], .string ⟨a.toArray⟩] W7 (RPost W7 p6 (synT t5 a) (synC t5 a))) := Lib.hid (by
                have hl := A7.out.len
                have hl2 := HG5.out.len
                have ht := (tot_top HOK.out).2
                have := rsyn_calls t5 p6 c6 n6 hl ⟨a.toArray⟩ (by rw [size_of]; omega) (by rw [A7.out.rbad]; decide) W7 A7.out.fs HOK.out.rise (by omega) (by omega)
                rw [A7.out.rmost, A7.out.rbad] at this
                exact this)
              have HT7 := Lib.hid (syn_same HG5.out.bad a)
              have HG7 := Lib.hid (HG5.out.syn HOK.out HNE.out)
              have HRF := Lib.hid (fun e W6 hp => A7.out.refs (e := e) (W' := W6) (r' := synT t5 a) (C := synC t5 a) hp (HT7.out.2.1.trans HG5.out.most) HT7.out.1)
              generalize synC t5 a = c7 at *
              generalize synT t5 a = t7 at *
              clear A6 HT7 HOK
              go_wp2_with fail
              refine HRS.out.mono ?_
              intro e w8 hp
              obtain ⟨p8, c8, n8, rfl, hbx, hA8⟩ := HRF.out _ _ hp
              have y0 : w8.cell? ⟨X, 0, none⟩ = some (.slice p6 n6 c6) := at_cell hbx 0
              have y1 : w8.cell? ⟨X, 1, none⟩ = some (.int .i64 10000) := at_cell hbx 1
              have y2 : w8.cell? ⟨X, 2, none⟩ = some (.int .i64 0) := at_cell hbx 2
              have g0 := at_frozen hbx 0
              have g1 := at_frozen hbx 1
              have g2 := at_frozen hbx 2
              have gl := at_lt hbx
              unfold set3 at hA8
              have A8 := Lib.hid hA8
              clear hp hA8 hbx d0 d1 d2 HRS HRF A7
              go_wp2_with fail
              go_roundw
              case rel => exact ⟨k + 1, _, _, _, _, _, by omega, by omega, by go_num, A8.out, HG7⟩
              case measure => simp [intOf]; omega
      · have q1 : (k : Int) < (n0 : Int) := by omega
        have q2 : ¬ (k : Int) < 20 := by omega
        clear HF hlt
        have d0 : wr.cell? ⟨X, 0, none⟩ = some (.slice p n c) := at_cell A.out.box 0
        have d1 : wr.cell? ⟨X, 1, none⟩ = some (.int .i64 10000) := at_cell A.out.box 1
        have d2 : wr.cell? ⟨X, 2, none⟩ = some (.int .i64 0) := at_cell A.out.box 2
        have r0 : wr.cell? ⟨R, 0, none⟩ = some (.slice none 0 0) := at_cell A.out.res 0
        have r1 : wr.cell? ⟨R, 1, none⟩ = some (.int .i64 0) := at_cell A.out.res 1
        have r2 : wr.cell? ⟨R, 2, none⟩ = some (.int .i64 0) := at_cell A.out.res 2
        have f0 := at_frozen A.out.res 0
        have f1 := at_frozen A.out.res 1
        have f2 := at_frozen A.out.res 2
        have rl := at_lt A.out.res
        have HE := Lib.hid (A.out.ends HGD.out (by omega))
        go_wp2_with fail
        go_region
        all_goals
          go_wp2_with fail
          refine bodyPost_ret (v := .tuple #[pb b, .agg #[.slice p n c, .int .i64 10000, .int .i64 0]]) ?_ rfl ?_
          · have e := set3_at (x := .slice p n c) (y := .int .i64 10000) (z := .int .i64 0) A.out.res
            unfold set3 at e
            generalize ((wr.setCell ⟨R, 0, none⟩ (.slice p n c)).setCell ⟨R, 1, none⟩ (.int .i64 10000)).setCell ⟨R, 2, none⟩ (.int .i64 0) = WE at *
            have h0 : WE.drew.cell? ⟨R, 0, none⟩ = some (.slice p n c) := at_cell (w := WE.drew) e 0
            have h1 : WE.drew.cell? ⟨R, 1, none⟩ = some (.int .i64 10000) := at_cell (w := WE.drew) e 1
            have h2 : WE.drew.cell? ⟨R, 2, none⟩ = some (.int .i64 0) := at_cell (w := WE.drew) e 2
            simp [results, Tryd.results5, go_sem, h0, h1, h2]
          · exact made_drew HE.out
    · have q1 : ¬ (k : Int) < (n0 : Int) := by omega
      clear HF hlt
      have d0 : wr.cell? ⟨X, 0, none⟩ = some (.slice p n c) := at_cell A.out.box 0
      have d1 : wr.cell? ⟨X, 1, none⟩ = some (.int .i64 10000) := at_cell A.out.box 1
      have d2 : wr.cell? ⟨X, 2, none⟩ = some (.int .i64 0) := at_cell A.out.box 2
      have r0 : wr.cell? ⟨R, 0, none⟩ = some (.slice none 0 0) := at_cell A.out.res 0
      have r1 : wr.cell? ⟨R, 1, none⟩ = some (.int .i64 0) := at_cell A.out.res 1
      have r2 : wr.cell? ⟨R, 2, none⟩ = some (.int .i64 0) := at_cell A.out.res 2
      have f0 := at_frozen A.out.res 0
      have f1 := at_frozen A.out.res 1
      have f2 := at_frozen A.out.res 2
      have rl := at_lt A.out.res
      have HE := Lib.hid (A.out.ends HGD.out (by omega))
      go_wp2_with fail
      go_region
      all_goals
        go_wp2_with fail
        refine bodyPost_ret (v := .tuple #[pb b, .agg #[.slice p n c, .int .i64 10000, .int .i64 0]]) ?_ rfl ?_
        · have e := set3_at (x := .slice p n c) (y := .int .i64 10000) (z := .int .i64 0) A.out.res
          unfold set3 at e
          generalize ((wr.setCell ⟨R, 0, none⟩ (.slice p n c)).setCell ⟨R, 1, none⟩ (.int .i64 10000)).setCell ⟨R, 2, none⟩ (.int .i64 0) = WE at *
          have h0 : WE.drew.cell? ⟨R, 0, none⟩ = some (.slice p n c) := at_cell (w := WE.drew) e 0
          have h1 : WE.drew.cell? ⟨R, 1, none⟩ = some (.int .i64 10000) := at_cell (w := WE.drew) e 1
          have h2 : WE.drew.cell? ⟨R, 2, none⟩ = some (.int .i64 0) := at_cell (w := WE.drew) e 2
          simp [results, Tryd.results5, go_sem, h0, h1, h2]
        · exact made_drew HE.out
end Go.Proofs.YtememmgnhnldaaaDoor.Gen

/-
Layer 19 (line): LineRetries, walked.
Layer 19 (line): a console that came in, out of its reading.
-/
import Derived.Test.YtnkhdpenmekhdaaPack7
section
namespace Go.Proofs.Ytnkhdpenmekhdaa.Lin
open Go.RowKit Go.Proofs.Ytnkhdpenmekhdaa.Own Go.Proofs.Ytnkhdpenmekhdaa.Brk Go.Proofs.Ytnkhdpenmekhdaa.Calc Go.Proofs.Ytnkhdpenmekhdaa.Tree Go.Proofs.Ytnkhdpenmekhdaa.Run Go.Proofs.Ytnkhdpenmekhdaa.Bkf

theorem rc_len {s : List UInt8} (h : rC s = 0) : s.length ≤ 255 := by
  rcases Nat.lt_or_ge 255 s.length with hb | hb
  · rw [(r_big hb).1] at h; omega
  · exact hb
theorem out_one {w : World} {z : Ou} {p : Option Addr} {c : Nat} (h : Outs w [z] p c) : ∃ b o, p = some ⟨b, o, none⟩ ∧ w.cell? ⟨b, o, none⟩ = some (.int .i64 z.1) := by
  rcases h.cells with h0 | ⟨b, o, e, _, hc⟩
  · cases h0
  · exact ⟨b, o, e, by simpa using (hc 0 (by simp)).1⟩
/-- the relation at the head of the first loop -/
structure RetA (WA wr : World) (k : Nat) (b c j : Int) (F : List Op) (po : Option Addr) (co q : Nat) (nw : Int) (p : Option Addr) (cp : Nat) : Prop where
  ex : ∃ S, Wk WA wr k S (lnQ b c j F q) ∧ ∀ V, Out S wr V → Ops V F po co
  out : Outs wr [(1, [])] p cp
  rng : 0 ≤ nw ∧ nw ≤ 4294967295 + 90000 * (q : Int)
structure RetB (WA wr : World) (k : Nat) (b c j : Int) (F : List Op) (po : Option Addr) (co : Nat) (n0 was : Int) (kk : Nat) (sent : List UInt8) : Prop where
  ex : ∃ S, Wk WA wr k S (lnX b c j F (dues n0 F) (ends n0 F) was) ∧ ∀ V, Out S wr V → Ops V F po co
  sent_ : sent = sentB (dues n0 F) (n0 - 1) was
  rng : n0 ≤ was ∧ was ≤ ends n0 F
  few : was < ends n0 F → kk + (rest (dues n0 F) was).length ≤ 255
  kk : kk ≤ 256
set_option maxRecDepth 100000 in
set_option maxHeartbeats 16000000 in
theorem retries_walk (v0 v1 v2 v3 v4 v5 : Value) (b c j : Int) (s : List UInt8) (hs : s.length ≤ 9223372036854775807) (g r st : Int) (hg0 : 0 ≤ g) (hg1 : g ≤ 255) (hs0 : 0 ≤ st) (hs1 : st ≤ 4294967295) (w : World) :
    Calls Try.prog 3 #[.agg #[v0, v1, v2, v3, v4, v5, .int .i64 b, .int .i64 c, .int .i64 j, .string ⟨s.toArray⟩], .int .u8 g, .int .i64 r, .int .u32 st] w fun e w' => e = .returned (.bool true) ∧ Below w.heap.size w w' := by
  have hA := (Below.refl w.heap.size w).alloc (Nat.le_refl _) (.cells #[v0, v1, v2, v3, v4, v5, .int .i64 b, .int .i64 c, .int .i64 j, .string ⟨s.toArray⟩] 23 (0, 0))
  have HR := Lib.hid (at_new w (.cells #[v0, v1, v2, v3, v4, v5, .int .i64 b, .int .i64 c, .int .i64 j, .string ⟨s.toArray⟩] 23 (0, 0)))
  have HA := Lib.hid hA
  have hsz : (w.alloc (.cells #[v0, v1, v2, v3, v4, v5, .int .i64 b, .int .i64 c, .int .i64 j, .string ⟨s.toArray⟩] 23 (0, 0))).heap.size = w.heap.size + 1 := by simp
  have HSZ := Lib.hid hsz
  have hg30 : 0 ≤ g % 30 ∧ g % 30 < 30 := by omega
  clear hA hsz
  go_enter Try.func3, Try.ntmps3
  go_wp2_with fail
  generalize w.alloc (.cells #[v0, v1, v2, v3, v4, v5, .int .i64 b, .int .i64 c, .int .i64 j, .string ⟨s.toArray⟩] 23) = WA at *
  refine (new_line v0 v1 v2 v3 v4 v5 b c j s hs WA).mono ?_
  rintro e w1 (⟨h, rfl, hB⟩ | ⟨hC, k, S, rfl, hM, hS, hB⟩)
  · have HB := Lib.hid (HA.out.trans (hB.mono (by have := HSZ.out; omega)))
    clear h hB
    go_wp2_with (go_at_call 6; refine (works_calls _).mono ?_; rintro e w' ⟨rfl, hw⟩)
    go_ret
    exact ⟨rfl, HB.out.trans (hw.mono HB.out.size)⟩
  have hok : okR b c j := by
    by_cases h : okR b c j
    · exact h
    · unfold newC at hC; rw [if_neg h] at hC; omega
  have hrc : rC s = 0 := by unfold newC at hC; rwa [if_pos hok] at hC
  have hl := rc_len hrc
  have HRC := Lib.hid hrc
  have HOK := Lib.hid hok
  have W1 : Hid (Wk WA w1 k S (mk b c j (rV s))) := Lib.hid ⟨hM, hS, hB⟩
  have HWA := Lib.hid (show ∀ W, Below WA.heap.size WA W → W.heap[w.heap.size]? = _ from fun W hW => (hW.block _ (at_lt HR.out)).trans HR.out)
  obtain ⟨F, hF⟩ : ∃ F, rV s = F := ⟨_, rfl⟩
  have HF := Lib.hid hF
  have HFG := Lib.hid (first_good hrc)
  have HFB := Lib.hid (r_bd s)
  rw [hF] at W1 HFG HFB
  clear hM hS hB hC hok hrc hF
  have hl2 : ¬ (255 : Int) < (s.length : Int) := by omega
  have c9 : w1.cell? ⟨w.heap.size, 9, none⟩ = some (.string ⟨s.toArray⟩) := at_cell (HWA.out _ W1.out.below) 9
  go_wp2_with fail
  refine (rread_calls s (by omega) w1).mono ?_
  rintro e w2 ⟨vo, rfl, hM, hB⟩
  rw [HF.out] at hM
  rw [HRC.out]
  have hlt1 := W1.out.mem.lt
  obtain ⟨po, co, rfl, hO⟩ := mine_keeps (S := S) hM (fun g hg hs => by
    have := own_lt hM hg
    have := hlt1 g hs
    omega)
  have W2 := Lib.hid (W1.out.keep hB)
  have HO2 := Lib.hid hO
  obtain ⟨fl, hfl⟩ : ∃ fl, F.length = fl := ⟨_, rfl⟩
  have HFL := Lib.hid hfl
  rw [hfl]
  clear hM hB hlt1 W1 hO hfl c9
  go_wp2_with fail
  refine (start_calls W2.out.mem).mono ?_
  rintro e w3 hG
  obtain ⟨S3, p3, c3, rfl, hW, hT, hO⟩ := W2.out.gives hG (y' := lnQ b c j F 0) (O' := [(1, [])]) rfl rfl
  have hR : RetA WA w3 k b c j F po co 0 st p3 c3 := ⟨⟨S3, hW, hT.stays HO2.out⟩, hO _ (Out.refl _ _), by omega, by omega⟩
  have HRA := Lib.hid hR
  clear hG hW hT hO hR W2 HO2
  obtain ⟨n, hn⟩ : ∃ n : Nat, g % 30 = (n : Int) := ⟨(g % 30).toNat, by omega⟩
  rw [hn] at hg30 ⊢
  have hn30 : n ≤ 29 := by omega
  clear hg30 hn
  go_wp2_with fail
  go_loopw [14, 15, 16] (fun nv ov iv wr => ∃ (q : Nat) (nw : Int) (p : Option Addr) (cp : Nat), q ≤ n ∧ iv = .int .i64 q ∧ nv = .int .i64 nw ∧ ov = .slice p 1 cp ∧ Hid (RetA WA wr k b c j F po co q nw p cp)) (fun _ _ iv _ => n - (Go.RowKit.intOf iv).toNat)
  case atStart => exact ⟨0, st, p3, c3, Nat.zero_le _, rfl, rfl, rfl, HRA⟩
  case round =>
    obtain ⟨q, nw, p, cp, hq, rfl, rfl, rfl, HA1⟩ := hrel
    obtain ⟨⟨SX, hWX, hOX⟩, hout, hrng⟩ := HA1.out
    have WX := Lib.hid hWX
    have HOX := Lib.hid hOX
    have hbf : bef nw = true := bef_iff.2 (by omega)
    have HBF := Lib.hid hbf
    clear hWX hOX HA1 HRA hbf
    rcases Nat.lt_or_eq_of_le hq with hlt | rfl
    · have q0 : (q : Int) < (n : Int) := by omega
      obtain ⟨bo, oo, rfl, d0⟩ := out_one hout
      have hrg := at_rng HOK.out q nw r
      have hlw := low_rng HOK.out q
      have hbase := HOK.out.1
      have hcap := HOK.out.2.2.2.1
      have hjit := HOK.out.2.2.2.2
      obtain ⟨a, ha⟩ : ∃ a, atR b c j q nw r = a := ⟨_, rfl⟩
      obtain ⟨lv, hlv⟩ : ∃ lv, lowR b c q = lv := ⟨_, rfl⟩
      rw [ha, hlv] at hrg
      rw [hlv] at hlw
      have HLV := Lib.hid hlv
      have hT : isT a = true := isT_iff.2 (by omega)
      have HQ := Lib.hid (q_fail (b := b) (c := c) (j := j) (F := F) (q := q) HBF.out ha hT)
      have HBA : Hid (bef a = true) := Lib.hid (bef_iff.2 (by omega))
      have q1 : ¬ a < nw + lv := by omega
      have q2 : ¬ nw + lv + j < a := by omega
      have HOUT := Lib.hid hout
      clear ha hlv hT hout
      go_wp2_with fail
      refine (state_calls WX.out.mem).mono ?_
      rintro e w' ⟨rfl, rfl⟩
      rw [show (lnQ b c j F q).st = 2 from rfl]
      clear HOUT d0
      go_wp2_with fail
      refine (opened_calls nw r false (by show q < 1000000000000000000; omega) WX.out.mem).mono ?_
      rintro e w4 hG
      obtain ⟨S4, p4, c4, rfl, hW, hT4, -⟩ := WX.out.gives hG HQ.out.1 HQ.out.2
      have W4 := Lib.hid hW
      have HO4 := Lib.hid (hT4.stays HOX.out)
      clear hG hW hT4 WX HOX HQ
      go_wp2_with fail
      refine (next_calls W4.out.mem).mono ?_
      rintro e w' ⟨rfl, rfl⟩
      rw [w_next.1, w_next.2]
      have x6 : w4.cell? ⟨w.heap.size, 6, none⟩ = some (.int .i64 b) := at_cell (HWA.out _ W4.out.below) 6
      have x7 : w4.cell? ⟨w.heap.size, 7, none⟩ = some (.int .i64 c) := at_cell (HWA.out _ W4.out.below) 7
      have x8 : w4.cell? ⟨w.heap.size, 8, none⟩ = some (.int .i64 j) := at_cell (HWA.out _ W4.out.below) 8
      go_wp2_with (go_at_call 12; refine (rlow_calls b c j HOK.out q _).mono ?_; rw [HLV.out]; rintro e w'' ⟨rfl, rfl⟩)
      refine (tick_calls (a - 1) W4.out.mem).mono ?_
      rintro e w5 hG
      obtain ⟨S5, p5, c5, rfl, hW, hT5, -⟩ := W4.out.gives hG w_early.1 w_early.2
      have W5 := Lib.hid hW
      have HO5 := Lib.hid (hT5.stays HO4.out)
      clear hG hW hT5 W4 HO4 x6 x7 x8
      go_wp2_with fail
      refine (tick_calls a W5.out.mem).mono ?_
      rintro e w6 hG
      obtain ⟨S6, p6, c6, rfl, hW, hT6, hO6⟩ := W5.out.gives hG (w_tick HBA.out).1 (w_tick HBA.out).2
      have HR6 : Hid (RetA WA w6 k b c j F po co (q + 1) a p6 c6) := Lib.hid ⟨⟨S6, hW, hT6.stays HO5.out⟩, hO6 _ (Out.refl _ _), by omega, by omega⟩
      clear hG hW hT6 W5 HO5 hO6
      go_wp2_with fail
      go_roundw
      case rel => exact ⟨q + 1, a, p6, c6, hlt, by go_num, rfl, rfl, HR6⟩
      case measure => simp [Go.RowKit.intOf]; omega
    · have hcf := HFG.out.2 nw HBF.out
      have HCF := Lib.hid hcf
      have HQ := Lib.hid (q_open (b := b) (c := c) (j := j) (q := q) (r := r) HBF.out hcf)
      have hP := plan_of hcf (by have := HFG.out.1; omega)
      have HP := Lib.hid hP
      have hE := ends_ge (chk_inv hcf).2
      have hE2 := ends_cst F nw
      have hcst := HFB.out.cst
      have HBY : Hid ((byt F).length ≤ 255) := Lib.hid (by have := HFB.out.byt; omega)
      clear hout hcf hP
      go_wp2_with fail
      refine (opened_calls nw r true (by show q < 1000000000000000000; omega) WX.out.mem).mono ?_
      rintro e w4 hG
      obtain ⟨S4, p4, c4, rfl, hW, hT4, hO4⟩ := WX.out.gives hG HQ.out.1 HQ.out.2
      have W4 := Lib.hid hW
      have HO4 := Lib.hid (hT4.stays HOX.out)
      have HU4 := Lib.hid (hO4 _ (Out.refl _ _))
      have hbt : (sentB (dues nw F) (nw - 1) nw).length ≤ 255 := by
        have h2 := sentB_two (a := nw - 1) (b := nw) (c := ends nw F) HP.out (by omega) hE
        rw [sent_all HCF.out (Int.le_refl _)] at h2
        have := congrArg List.length h2
        rw [List.length_append] at this
        have := HBY.out
        omega
      obtain ⟨TO, hTO⟩ : ∃ TO, (told (dues nw F) (nw - 1) nw).map oF = TO := ⟨_, rfl⟩
      have HTO := Lib.hid hTO
      rw [hTO] at HU4
      have hbt2 : (wb TO).length ≤ 255 := by rw [← hTO]; exact hbt
      rw [hTO]
      clear hG hW hT4 hO4 WX HOX HQ hTO hbt
      go_wp2_with fail
      refine (wrt_calls TO p4 c4 _ rfl w4 HU4.out (by omega)).mono ?_
      rintro e w' ⟨rfl, rfl⟩
      have hRB : RetB WA w' k b c j F po co nw nw 0 (wb TO) := ⟨⟨S4, W4.out, HO4.out⟩, by rw [← HTO.out]; rfl, ⟨Int.le_refl _, hE⟩, fun _ => by
        have := rest_len (dues nw F) nw
        have := dues_len nw F
        have := HFG.out.1
        omega, by omega⟩
      have HRB := Lib.hid hRB
      obtain ⟨sb, hsb⟩ : ∃ sb, wb TO = sb := ⟨_, rfl⟩
      rw [hsb] at HRB ⊢
      clear W4 HO4 HU4 hRB hsb hbt2 HTO
      go_wp2_with fail
      go_loopw [14, 20, 21] (fun nv sv kv wr => ∃ (kk : Nat) (was : Int) (sb : List UInt8), kv = .int .i64 kk ∧ nv = .int .i64 was ∧ sv = .string ⟨sb.toArray⟩ ∧ Hid (RetB WA wr k b c j F po co nw was kk sb)) (fun _ _ kv _ => 300 - (Go.RowKit.intOf kv).toNat)
      case atStart => exact ⟨0, nw, sb, rfl, rfl, rfl, HRB⟩
      case round =>
        obtain ⟨kk, was, sb2, rfl, rfl, rfl, HB1⟩ := hrel
        obtain ⟨⟨SX, hWX, hOX⟩, hsent, hrng, hfew, hkk⟩ := HB1.out
        have WX := Lib.hid hWX
        have HOX := Lib.hid hOX
        have HSE := Lib.hid hsent
        have k0 : (kk : Int) < 300 := by omega
        have k0' : decide ((kk : Int) < 300) = true := by simpa using k0
        clear hWX hOX HB1 HRB hsent
        by_cases hon : was < ends nw F
        · rw [x_on hon] at WX
          have hfw := hfew hon
          have hgt := nx_gt (D := dues nw F) hon
          have hle := nx_le HP.out hon
          have hls := nx_less (D := dues nw F) hon
          have htw := sentB_two (a := nw - 1) (b := was) (c := nxV (dues nw F) (ends nw F) was) HP.out (by omega) (by omega)
          have hbf2 : bef (nxV (dues nw F) (ends nw F) was) = true := bef_iff.2 (by omega)
          have HIT := Lib.hid (i_tick (b := b) (c := c) (j := j) (F := F) hbf2)
          have htot : (sentB (dues nw F) (nw - 1) (nxV (dues nw F) (ends nw F) was)).length ≤ 255 := by
            have h2 := sentB_two (a := nw - 1) (b := nxV (dues nw F) (ends nw F) was) (c := ends nw F) HP.out (by omega) hle
            rw [sent_all HCF.out (Int.le_refl _)] at h2
            have := congrArg List.length h2
            rw [List.length_append] at this
            have := HBY.out
            omega
          rw [← htw, List.length_append] at htot
          have HIN := Lib.hid (i_next (b := b) (c := c) (j := j) (F := F) (D := dues nw F) (E := ends nw F) (was := was))
          obtain ⟨nx, hnx⟩ : ∃ nx, nxV (dues nw F) (ends nw F) was = nx := ⟨_, rfl⟩
          rw [hnx] at hgt hle hls htw htot HIT HIN
          obtain ⟨TO2, hTO2⟩ : ∃ TO2, (told (dues nw F) was nx).map oF = TO2 := ⟨_, rfl⟩
          rw [hTO2] at HIT htot htw
          rw [← HSE.out] at htot htw
          have HTW := Lib.hid htw
          have HLS := Lib.hid hls
          have q1 : ¬ nx < was := by omega
          clear hfew hnx hbf2 htw hTO2 hls
          go_wp2_with fail
          refine (state_calls WX.out.mem).mono ?_
          rintro e w5 ⟨rfl, rfl⟩
          rw [show (lnI b c j F (dues nw F) (ends nw F) was).st = 3 from rfl]
          go_wp2_with fail
          refine (next_calls WX.out.mem).mono ?_
          rintro e w5 ⟨rfl, rfl⟩
          rw [HIN.out.1, HIN.out.2]
          go_wp2_with fail
          refine (tick_calls nx WX.out.mem).mono ?_
          rintro e w6 hG
          obtain ⟨S6, p6, c6, rfl, hW, hT6, hO6⟩ := WX.out.gives hG HIT.out.1 HIT.out.2
          have W6 := Lib.hid hW
          have HO6 := Lib.hid (hT6.stays HOX.out)
          have HU6 := Lib.hid (hO6 _ (Out.refl _ _))
          clear hG hW hT6 hO6 WX HOX HIT
          go_wp2_with fail
          refine (wrt_calls TO2 p6 c6 _ rfl w6 HU6.out (by omega)).mono ?_
          rintro e w7 ⟨rfl, rfl⟩
          have hR7 : RetB WA w7 k b c j F po co nw nx (kk + 1) (sb2 ++ wb TO2) := ⟨⟨S6, W6.out, HO6.out⟩, HTW.out, ⟨by omega, hle⟩, fun h => by have := HLS.out h; omega, by omega⟩
          have HR7 := Lib.hid hR7
          have hcat : sb2.length + (wb TO2).length ≤ 255 := htot
          obtain ⟨wt, hwt⟩ : ∃ wt, wb TO2 = wt := ⟨_, rfl⟩
          rw [hwt] at HR7 hcat ⊢
          clear hR7 W6 HO6 HU6 HLS HTW htot hwt
          go_wp2_with fail
          go_roundw
          case rel => exact ⟨kk + 1, nx, sb2 ++ wt, by go_num, rfl, by rw [← Go.Proofs.Ytnkhdpenmekhdaa.Digit.bytes_add], HR7⟩
          case measure => simp [Go.RowKit.intOf]; omega
        · rw [x_off hon] at WX
          have hall := sent_all (was := was) HCF.out (by omega)
          rw [← HSE.out] at hall
          have HALL := Lib.hid hall
          clear hfew hall
          go_wp2_with fail
          refine (state_calls WX.out.mem).mono ?_
          rintro e w5 ⟨rfl, rfl⟩
          rw [show (lnU b c j F).st = 4 from rfl]
          go_wp2_with fail
          refine (state_calls WX.out.mem).mono ?_
          rintro e w5 ⟨rfl, rfl⟩
          rw [show (lnU b c j F).st = 4 from rfl]
          go_wp2_with fail
          refine (rbytes_calls F po co fl HFL.out _ (HOX.out _ (Out.refl _ _)) (by have := HBY.out; omega)).mono ?_
          rintro e w6 ⟨rfl, rfl⟩
          rw [← HALL.out]
          obtain ⟨kw, pF2, cF2, sv2, hMA⟩ := WX.out.mem
          have c0 : w6.cell? ⟨k, 0, none⟩ = some (.pointer (some ⟨kw, 0, none⟩)) := at_cell hMA.row 0
          have HTR := Lib.hid (tries_calls (n := 0) (by omega) hMA.wait)
          clear hMA
          go_wp2_with fail
          refine HTR.out.mono ?_
          rintro e w7 ⟨rfl, m7, rfl⟩
          go_wp2_with (go_at_call 6; refine (works_calls _).mono ?_; rintro e w' ⟨rfl, hw⟩)
          go_ret
          exact ⟨rfl, HA.out.trans ((WX.out.below.trans ((Run.below_drew (Below.refl _ _)).trans (hw.mono (Nat.le_refl _)) |>.mono WX.out.below.size)).mono (by have := HSZ.out; omega))⟩
end Go.Proofs.Ytnkhdpenmekhdaa.Lin
end

section
namespace Go.Proofs.Ytnkhdpenmekhdaa.Lin
open Go.RowKit Go.ChangeShapes Go.WideShapes Go.Deep Go.Proofs.Ytnkhdpenmekhdaa.Own

theorem ba_list (s : ByteArray) : ∃ l : List UInt8, s = ⟨l.toArray⟩ ∧ l.length = s.size := ⟨s.data.toList, by simp, by simp⟩
section
variable {H : Type} {enc : TypeId × Value → H} {w : World} {base : Nat} {spare : Nat → Bool} {held : Bool}
set_option maxRecDepth 100000 in
theorem con_arg {v : Value} {r : Reach} (t : ∃ d p, DataW.Trod enc Try.prog w base spare held 23 v d p) (o : ∃ b0, Value.okWide Try.prog w r b0 23 v) :
    ∃ (v0 v1 v2 v3 v4 v5 : Value) (b c j : Int) (s : List UInt8), v = .agg #[v0, v1, v2, v3, v4, v5, .int .i64 b, .int .i64 c, .int .i64 j, .string ⟨s.toArray⟩] ∧ s.length ≤ 9223372036854775807 := by
  obtain ⟨d, p, h⟩ := t
  obtain ⟨b0, ho⟩ := o
  obtain ⟨cs, rfl, hsz⟩ := okWide_struct Try.underlying23 ho
  have hs10 : cs.size = 10 := hsz.trans (by kernel_rfl)
  obtain ⟨l⟩ := cs
  match l, hs10, h with
  | [c0, c1, c2, c3, c4, c5, c6, c7, c8, c9], _, h =>
    obtain ⟨fuel, hf⟩ := h
    have hf' : DataW.trod enc Try.prog w base spare held fuel 23 ((List.range 10).map fun i => [c0, c1, c2, c3, c4, c5, c6, c7, c8, c9].getD i undef) = some (d, p) := hf
    obtain ⟨_, _, h6⟩ := leaf_field Try.underlying23 hf' 6 _ rfl 6 1 rfl (by kernel_rfl) (by omega)
    obtain ⟨_, _, h7⟩ := leaf_field Try.underlying23 hf' 7 _ rfl 7 1 rfl (by kernel_rfl) (by omega)
    obtain ⟨_, _, h8⟩ := leaf_field Try.underlying23 hf' 8 _ rfl 8 1 rfl (by kernel_rfl) (by omega)
    obtain ⟨_, _, h9⟩ := leaf_field Try.underlying23 hf' 9 _ rfl 9 1 rfl (by kernel_rfl) (by omega)
    obtain ⟨n6, e6, _⟩ := leaf_int Try.underlying3 h6
    obtain ⟨n7, e7, _⟩ := leaf_int Try.underlying3 h7
    obtain ⟨n8, e8, _⟩ := leaf_int Try.underlying3 h8
    obtain ⟨s9, e9, hs⟩ := leaf_string Try.underlying9 h9
    have e6 : c6 = .int .i64 n6 := e6
    have e7 : c7 = .int .i64 n7 := e7
    have e8 : c8 = .int .i64 n8 := e8
    have e9 : c9 = .string s9 := e9
    subst e6 e7 e8 e9
    unfold maxLen at hs
    obtain ⟨l9, rfl, hl⟩ := ba_list s9
    exact ⟨c0, c1, c2, c3, c4, c5, n6, n7, n8, l9, rfl, by omega⟩
end
end Go.Proofs.Ytnkhdpenmekhdaa.Lin
end


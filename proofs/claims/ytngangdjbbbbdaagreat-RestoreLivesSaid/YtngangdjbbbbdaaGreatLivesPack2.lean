/-
Layer 23 (restore): the law RestoreLives, walked. Written by gen_rstlives.py.
-/
import Derived.Test.YtngangdjbbbbdaaGreatLivesPack1
section
namespace Go.Proofs.YtngangdjbbbbdaaGreat.Rst
open Go.RowKit Go.Proofs.YtngangdjbbbbdaaGreat.Own Go.Proofs.YtngangdjbbbbdaaGreat.Sto Go.Proofs.YtngangdjbbbbdaaGreat.Gen Go.Proofs.YtngangdjbbbbdaaGreat.Flt
open Go.Proofs.YtngangdjbbbbdaaGreat.Rec (Itm Its chk bytesOf flat cv cv_len cv_app)
open Go.Proofs.YtngangdjbbbbdaaGreat.Rw (str strs Row1 Texts)
open Go.Proofs.YtngangdjbbbbdaaGreat.Jrn (Gs cat Hist Hs TnS Sz Oc ORow Wj)

set_option maxRecDepth 100000 in
set_option maxHeartbeats 64000000 in
theorem lives_walk (p0 : Option Addr) (c0 n0 : Nat) (f : Nat → Lf) (nb sz : Int) (w : World) (hF : LRow w p0 c0 n0 f) (hz : 0 ≤ sz ∧ sz ≤ 255) (hb : 0 ≤ nb ∧ nb ≤ 255) :
    Calls Tryz.prog 5 #[.int .u8 nb, .int .u8 sz, .slice p0 n0 c0] w fun e w' => e = .returned (.bool true) ∧ Below w.heap.size w w' := by
  have hcap := hF.cap
  have hmax := hF.max
  unfold maxLen at hmax
  have HF := Lib.hid hF
  clear hF
  obtain ⟨hz0, hz1⟩ := hz
  by_cases h5 : 5 < n0
  · have q1 : (5 : Int) < (n0 : Int) := by omega
    go_enter Tryz.func5, Tryz.ntmps5
    go_wp2_with fail
    refine (works_walk _).mono ?_
    rintro e w1 ⟨rfl, hb⟩
    replace hb := Lib.hid hb
    go_wp2_with fail
    go_ret
    exact ⟨rfl, hb.out⟩
  have q1 : ¬ (5 : Int) < (n0 : Int) := by omega
  obtain ⟨q, hq⟩ : ∃ q : Int, nb % 5 = q := ⟨_, rfl⟩
  have hqw : IntKind.u8.wrap (nb.tmod 5) = q := by
    rw [Int.tmod_eq_emod_of_nonneg hb.1, hq]
    exact Int.emod_eq_of_lt (by omega) (by show q < 256; omega)
  have hqt : nb.tmod 5 = q := by rw [Int.tmod_eq_emod_of_nonneg hb.1, hq]
  have hqb : 0 ≤ q ∧ q ≤ 4 := by omega
  obtain ⟨K, hK⟩ : ∃ K : Nat, q + 2 = (K : Int) := ⟨(q + 2).toNat, by omega⟩
  obtain ⟨hq0, hq5⟩ := hqb
  have hK1 : 1 ≤ K := by omega
  have hK6 : K ≤ 16 := by omega
  clear hq hb
  obtain ⟨size, hsize⟩ : ∃ size : Int, 64 + sz = size := ⟨_, rfl⟩
  have hs0 : 64 ≤ size := by omega
  have hs1 : size ≤ 1048576 := by omega
  have HZ : Hid (Sz K size) := Lib.hid ⟨hK1, hK6, hs0, hs1⟩
  have HH := Lib.hid HZ.out.held
  have HS : Hid (0 ≤ q ∧ q ≤ 4 ∧ q + 2 = (K : Int)) := Lib.hid ⟨hq0, hq5, hK⟩
  go_enter Tryz.func5, Tryz.ntmps5
  go_wp2_with fail
  refine (Sto.new_in 8000 (by omega) (by omega) _).mono ?_
  rintro e V1 ⟨b, rfl, bs1, s1, hb1, hn1⟩
  have L0 := Lib.hid (show LvAt w V1 bs1 b ⟨[], 8000, 0⟩ [] none 0 0 from ⟨⟨hb1, s1, hn1⟩, World.ownsRow_nil _ _ _ _, (fun g hg => by cases hg), rfl⟩)
  have A0 := Lib.hid (aft_new K 8000 0)
  clear s1 hb1 hn1
  go_wp2_with fail
  go_loopw [10, 11] (fun av i wr => ∃ (k : Nat) (bs : Nat → Prop) (t : St) (A : List Itm) (G : Gs) (na ca : Nat) (pa : Option Addr), k ≤ n0 ∧ i = .int .i64 k ∧ av = .slice pa na ca ∧ na ≤ 30 * k ∧ t.bad = 0 ∧ t.L.length ≤ 16 ∧ Hid (LvAt w wr bs b t A pa na ca) ∧ Hid (Aft t K G ∧ A = cat G K)) (fun _ i _ => n0 - (intOf i).toNat)
  case atStart => exact ⟨0, bs1, _, [], _, 0, 0, none, Nat.zero_le _, rfl, rfl, Nat.zero_le _, rfl, by decide, L0, A0⟩
  case round =>
    obtain ⟨k, bs, t, A, G, na, ca, pa, hk, rfl, rfl, hna, hbad, htl, C, HG⟩ := hrel
    rename World => wr
    clear L0 A0
    rcases Nat.lt_or_eq_of_le hk with hlt | rfl
    · have q2 : (k : Int) < (n0 : Int) := by omega
      obtain ⟨g, o, rfl, hcell⟩ := HF.out.at_ hlt
      have HC := Lib.hid hcell
      have HO := Lib.hid (HF.out.ok k hlt)
      clear hcell
      generalize f k = x at *
      obtain ⟨lp, ln, lc, lf, kp, kn, kc, ks⟩ := x
      simp only at HC
      obtain ⟨d0, d1⟩ := HC.out wr C.out.ws.below
      have hkcap : kn ≤ kc ∧ kc ≤ 9223372036854775807 := by
        have h1 := HO.out.row.cap
        have h2 := HO.out.row.max
        have h3 := HO.out.len
        simp only [iv, List.length_map] at h1
        simp only at h1 h2 h3
        unfold maxLen at h2
        omega
      by_cases h20 : 20 < kn
      · have q3 : (20 : Int) < (kn : Int) := by omega
        have HB := Lib.hid C.out.ws.below
        clear C HG HC HO
        go_wp2_with fail
        refine (works_walk _).mono ?_
        rintro e w1 ⟨rfl, hb⟩
        have HB2 := Lib.hid (HB.out.trans (hb.mono HB.out.size))
        clear hb
        go_wp2_with fail
        go_ret
        exact ⟨rfl, HB2.out⟩
      have q3 : ¬ (20 : Int) < (kn : Int) := by omega
      have HBG := Lib.hid (lv_begin C.out HG.out.1 HG.out.2 hbad hK1 hK6 HH.out)
      clear HG C
      go_wp2_with fail
      refine HBG.out.mono ?_
      rintro e V2 ⟨rfl, bs2, t2, hC2, hist2⟩
      have C2 := Lib.hid hC2
      have H2 := Lib.hid hist2
      have HLD := Lib.hid (lv_load (K := K) hC2.ws.sto HH.out)
      clear hC2 hist2 HBG hbad htl d0 d1
      obtain ⟨pre, hpre, -⟩ := H2.out.all hK1
      have HN2 := Lib.hid C2.out.num
      generalize Jrn.load ((fnd t2 (ser lg K)).map Fl.bs) = X at *
      have HX := Lib.hid hpre
      clear hpre
      go_wp2_with fail
      refine HLD.out.mono ?_
      rintro e V3 ⟨xp, xc, nx, xd, xz, rfl, hxn, hxo, hb3⟩ 
      have C3 := Lib.hid (C2.out.same hb3)
      have I3 := Lib.hid (Rec.owns_its hxo hxn)
      have XN := Lib.hid hxn
      have hxc : nx ≤ xc ∧ xc ≤ 9223372036854775807 := by
        have h1 := I3.out.cap
        have h2 := I3.out.max
        rw [← XN.out] at h1
        unfold maxLen at h2
        omega
      have hac : na ≤ ca ∧ ca ≤ 9223372036854775807 := by
        have h1 := C3.out.its.cap
        have h2 := C3.out.its.max
        rw [← C3.out.num] at h1
        unfold maxLen at h2
        omega
      have hle : pre.length + nx = na := by
        have h1 := congrArg List.length HX.out
        rw [List.length_append, ← XN.out, ← HN2.out] at h1
        omega
      have HWI := Lib.hid (Jrn.within_calls X A nx na XN.out HN2.out na (by omega) (by omega) (by omega) pre.length (by omega) (by omega) (by rw [HX.out, List.drop_left, XN.out, List.take_length]) xp pa xc ca V3 I3.out C3.out.its)
      have hfld := log_field xp nx xc xd xz
      clear hb3 hxo hxn HLD C2 hle I3 HX XN
      go_wp2_with fail
      refine HWI.out.mono ?_
      rintro e V4 ⟨rfl, hb4⟩
      have C4 := Lib.hid (C3.out.same hb4)
      clear hb4 C3 HWI hxc
      go_wp2_with fail
      refine (Jrn.new_some b lg (K : Nat) size (by omega) ⟨hs0, hs1⟩ _).mono ?_
      rintro e V5 ⟨rfl, hj5, hb5⟩
      have T5 := Lib.hid (C4.out.tn H2.out hj5 hb5)
      generalize V4.heap.size = j at *
      clear hj5 hb5 C4 H2
      obtain ⟨d0, d1⟩ := HC.out V5 T5.out.hs.wj.below
      have HLV := Lib.hid (Jrn.lived_walk w V5 bs2 j b t2 K size A pa ca na T5.out HN2.out (by omega) HZ.out lp lc ln lf HO.out.ops)
      go_wp2_with fail
      refine HLV.out.mono ?_
      rintro e V6 ⟨bs6, t6, r6, l6, A6, u6, na6, ca6, pa6, rfl, hna6, hna62, hT6⟩
      have T6 := Lib.hid hT6
      have N6 := Lib.hid hna6
      have hfl := hT6.hs.hist.files hT6.hs.ok
      obtain ⟨d0, d1⟩ := HC.out V6 T6.out.hs.below
      have HCR := Lib.hid (sto_crash hT6.hs.wj.jat.sto (by omega) (Jrn.keep_of HO.out.row HO.out.rng hT6.hs.below hT6.hs.wj.mine))
      rw [HO.out.len] at HCR
      simp only at HCR
      obtain ⟨k0, hw1, hw2, hw3⟩ := hT6.torn hK1 ks
      obtain ⟨G6, hG6⟩ := hist_aft hT6.hs.hist hT6.hs.ok hK1 ks
      have hul := hT6.hs.ule
      rw [← hna6] at hul hw1
      have hcl : (crs t6 ks).L.length ≤ 16 := by
        show (crsL t6.L ks).length ≤ 16
        rw [crs_len]; omega
      clear hT6 hna6 T5 HLV HN2
      go_wp2_with fail
      refine HCR.out.mono ?_
      rintro e V7 ⟨rfl, bs7, hs7, ho7, hn7⟩
      have C7 := Lib.hid (show LvAt w V7 bs7 b (crs t6 ks) A6 pa6 na6 ca6 from LvAt.go ⟨⟨T6.out.hs.below, T6.out.hs.wj.jat.sto, T6.out.hs.wj.mine⟩, by have h1 := T6.out.own; rw [← N6.out] at h1; exact h1, fun g hg => (T6.out.far g hg).1, N6.out⟩ hs7 ho7 hn7)
      have HLD := Lib.hid (lv_load (K := K) hs7 HH.out)
      have HAL := Lib.hid hG6.load
      have HG6 := Lib.hid hG6
      generalize Jrn.load ((fnd (crs t6 ks) (ser lg K)).map Fl.bs) = X at *
      have hbad : (crs t6 ks).bad = 0 := rfl
      generalize crs t6 ks = t7 at *
      have HW1 := Lib.hid hw1
      have HW2 := Lib.hid hw2
      have HW3 := Lib.hid hw3
      clear hs7 ho7 hn7 T6 HCR hw1 hw2 hw3 hG6 d0 d1
      go_wp2_with fail
      refine HLD.out.mono ?_
      rintro e V8 ⟨xp, xc, nx, xd, xz, rfl, hxn, hxo, hb8⟩
      have hba := hb8.alloc hb8.size (.cells #[.slice xp nx xc, .int .i64 xd, .int .i64 xz] 31 (0, 0))
      have C8 := Lib.hid (C7.out.same hba)
      have O8 := Lib.hid (World.ownsRow.alloc hxo (.cells #[.slice xp nx xc, .int .i64 xd, .int .i64 xz] 31 (0, 0)))
      have I8 := Lib.hid (Rec.owns_its O8.out hxn)
      have B8 := Lib.hid (at_new V8 (.cells #[.slice xp nx xc, .int .i64 xd, .int .i64 xz] 31 (0, 0)))
      have XN := Lib.hid hxn
      have e0 := at_cell B8.out 0
      have hxc : nx ≤ xc ∧ xc ≤ 9223372036854775807 := by
        have h1 := I8.out.cap
        have h2 := I8.out.max
        rw [← XN.out] at h1
        unfold maxLen at h2
        omega
      have hac : na6 ≤ ca6 ∧ ca6 ≤ 9223372036854775807 := by
        have h1 := C8.out.its.cap
        have h2 := C8.out.its.max
        rw [← C8.out.num] at h1
        unfold maxLen at h2
        omega
      rw [← hxn] at HW1 HW2 HW3
      have hw1 := HW1.out
      have hw2 := HW2.out
      have h7 : ∀ g, (Value.slice xp nx xc).ownBlock = some g → ¬ bs7 g := fun g hg hb => by
        have h1 := (Tree.own_lt O8.out hg).1
        have h2 := C7.out.ws.sto.all g hb
        omega
      have F8 := Lib.hid h7
      have h9 : w.heap.size ≤ V7.heap.size := C7.out.ws.below.size
      have O9 := Lib.hid (Rw.own_base O8.out h9)
      clear hxn hxo hb8 hba HLD C7 h7 h9
      go_wp2_with fail
      generalize V8.alloc (.cells #[.slice xp nx xc, .int .i64 xd, .int .i64 xz] 31 (0, 0)) = W8 at *
      generalize V8.heap.size = kb at *
      have HWI := Lib.hid (Jrn.within_calls X A6 nx na6 XN.out N6.out u6 (by omega) (by omega) (by omega) k0 hw1 (by omega) HW3.out xp pa6 xc ca6 W8 I8.out C8.out.its)
      refine HWI.out.mono ?_
      rintro e V9 ⟨rfl, hb9⟩
      have C9 := Lib.hid (C8.out.same hb9)
      have O9b := Lib.hid (own_below O9.out hb9)
      have e9 := at_cell ((hb9.block _ (at_lt B8.out)).trans B8.out) 0
      clear hb9 C8 HWI O8 I8 B8 O9 e0
      go_wp2_with fail
      have CN := Lib.hid (show LvAt w V9 bs7 b t7 X xp nx xc from ⟨C9.out.ws, O9b.out, F8.out, XN.out⟩)
      go_roundw
      case rel => exact ⟨k + 1, bs7, t7, X, G6, nx, xc, xp, by omega, by go_num, rfl, by omega, hbad, hcl, CN, Lib.hid ⟨HG6.out, HAL.out⟩⟩
      case measure => simp [intOf]; omega
    · have HB := Lib.hid C.out.ws.below
      clear C HG HF
      go_wp2_with fail
      refine (works_walk _).mono ?_
      rintro e w1 ⟨rfl, hb⟩
      have HB2 := Lib.hid (HB.out.trans (hb.mono HB.out.size))
      clear hb
      go_wp2_with fail
      go_ret
      exact ⟨rfl, HB2.out⟩
end Go.Proofs.YtngangdjbbbbdaaGreat.Rst
end


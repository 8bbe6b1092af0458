/-
  Layer 21 (gens): the law GensKeeps, walked. Written by gen_genkeeps.py.
-/
import Derived.Test.YtememmgnhnldaaaDoorGenMade
import Derived.Test.YtememmgnhnldaaaDoorGenWorks
import Derived.Test.YtememmgnhnldaaaDoorErrTable
namespace Go.Proofs.YtememmgnhnldaaaDoor.Gen
open Go.RowKit Go.Proofs.YtememmgnhnldaaaDoor.Own Go.Proofs.YtememmgnhnldaaaDoor.Sto Go.Proofs.YtememmgnhnldaaaDoor.Flt
open Go.Proofs.YtememmgnhnldaaaDoor.Rw (str strs Row1 Texts)

/-- texts behind the first -/
theorem tail_tx {w : World} {g n c r c2 : Nat} {p : Option Addr} {x : Bs} {L : List Bs} (h : Texts w (some ⟨g, 0, none⟩) c (x :: L)) (hT : Tail g n c p r c2) (hr : r = L.length) : Texts w p c2 L := by
  subst hr
  refine ⟨⟨by rw [Rw.strs_len]; exact hT.cap.1, by have := hT.cap.2; unfold maxLen; omega, ?_⟩⟩
  cases L with
  | nil => exact .inl rfl
  | cons y L =>
    obtain rfl := hT.some_ (by simp)
    rcases h.row.cells with h0 | ⟨b, o, e, hl, hc⟩
    · simp [strs] at h0
    · cases e
      refine .inr ⟨g, 1, rfl, hl, fun i v hv => ?_⟩
      have := hc (i + 1) v (by simpa [strs] using hv)
      rwa [show 0 + (i + 1) = 1 + i by omega] at this
section
variable {w : World} {bs : Nat → Prop} {b : Nat} {t : St}
theorem lg_all (h : Sto w bs b t) (K : Nat) (hh : held (K : Nat) = K) : Calls Tryd.prog 6 #[pb b, .string ⟨#[108, 111, 103]⟩, .int .i64 (K : Nat)] w (ListPost ((fnd t (ser lg K)).map Fl.bs) w) := by
  have := all_calls h lg (by decide) (K : Nat)
  rw [hh] at this
  exact this
theorem lg_turn (h : Sto w bs b t) (K : Nat) (hh : held (K : Nat) = K) : Calls Tryd.prog 10 #[pb b, .string ⟨#[108, 111, 103]⟩, .int .i64 (K : Nat)] w fun e w' => DoesE w bs e w' b (trT t (ser lg K)) (trC t (ser lg K)) := by
  have := turn_calls h lg (by decide) (K : Nat)
  rw [hh] at this
  exact this
theorem lg_name (i : Int) (h1 : -9223372036854775808 ≤ i) (h2 : i ≤ 9223372036854775807) (w : World) : Calls Tryd.prog 8 #[.string ⟨#[108, 111, 103]⟩, .int .i64 i] w fun e w' => e = .returned (.string ⟨(nm lg i).toArray⟩) ∧ Below w.heap.size w w' :=
  name_calls lg i (by decide) h1 h2 w
theorem lg_read (h : Sto w bs b t) (hf : (flk t.L lg).isSome = false) : Calls Tryd.prog 7 #[pb b, .string ⟨#[108, 111, 103]⟩] w fun e w' => e = .returned (.tuple #[.string ⟨(got t.L lg).bs.toArray⟩, .bool false]) ∧ Below w.heap.size w w' := by
  have := sto_read h ⟨#[108, 111, 103]⟩ (by decide)
  rw [show (⟨#[108, 111, 103]⟩ : ByteArray).data.toList = lg from rfl, hf] at this
  exact this
theorem oth_read (h : Sto w bs b t) (hf : has t oth = some [111]) : Calls Tryd.prog 7 #[pb b, .string ⟨#[111, 116, 104, 101, 114]⟩] w fun e w' => e = .returned (.tuple #[.string ⟨#[111]⟩, .bool true]) ∧ Below w.heap.size w w' := by
  have := sto_read h ⟨#[111, 116, 104, 101, 114]⟩ (by decide)
  rw [show (⟨#[111, 116, 104, 101, 114]⟩ : ByteArray).data.toList = oth from rfl, (has_read hf).1, (has_read hf).2] at this
  exact this
end

set_option maxRecDepth 100000 in
set_option maxHeartbeats 16000000 in
theorem keeps_walk (p0 : Option Addr) (c0 n0 : Nat) (f : Nat → Fi) (n : Int) (fail : Bool) (w : World) (hT : Tab w) (hF : FRow w p0 c0 n0 f) (hn : 0 ≤ n ∧ n ≤ 255) :
    Calls Tryd.prog 3 #[.slice p0 n0 c0, .int .u8 n, .bool fail] w fun e w' => e = .returned (.bool true) ∧ Below w.heap.size w w' := by
  have HT := Lib.hid (fun W (hb : Below w.heap.size w W) => hT.below hb)
  have HM := Lib.hid (made_calls p0 c0 n0 f w hF)
  clear hT hF
  go_enter Tryd.func3, Tryd.ntmps3
  go_wp2_with fail
  refine HM.out.mono ?_
  rintro e w1 ⟨bs1, b, t, p1, c1, n1, rfl, hb1, s1, hm1, hg1⟩
  obtain ⟨K, hK⟩ : ∃ K : Nat, n % 16 + 1 = (K : Int) := ⟨(n % 16 + 1).toNat, by omega⟩
  have hK1 : 1 ≤ K ∧ K ≤ 16 := by omega
  have hh : held (K : Nat) = K := by unfold held; omega
  obtain ⟨m, hmod⟩ : ∃ m : Int, n % 16 = m := ⟨_, rfl⟩
  have hmK : m = (K : Int) - 1 := by omega
  have W1 := Lib.hid (show Ex w w1 bs1 b t [] [] from ⟨⟨hb1, s1, hm1, fun x hx => by cases hx⟩, fun x hx => by cases hx⟩)
  have HG := Lib.hid hg1
  have hw16 : IntKind.u8.wrap (n.tmod 16) = (K : Int) - 1 := by
    rw [Int.tmod_eq_emod_of_nonneg hn.1, hmod, hmK]
    exact Int.emod_eq_of_lt (by omega) (by show (K : Int) - 1 < 256; omega)
  clear s1 hb1 hm1 hg1 HM
  have hmod2 : n % 16 = (K : Int) - 1 := by omega
  clear hmod hK hmK
  go_wp2_with fail
  have W2 := Lib.hid (W1.out.same ((Below.refl _ w1).alloc (Nat.le_refl _) (.cells #[.slice p1 n1 c1, .int .i64 10000, .int .i64 0] 26 (0, 0))))
  generalize w1.alloc (.cells #[.slice p1 n1 c1, .int .i64 10000, .int .i64 0] 26 (0, 0)) = V2 at *
  clear W1
  have HA := Lib.hid (lg_all W2.out.sto K hh)
  obtain ⟨L1, hL1⟩ : ∃ L, (fnd t (ser lg K)).map Fl.bs = L := ⟨_, rfl⟩
  rw [hL1] at HA
  refine HA.out.mono ?_
  intro e V3 hp
  obtain ⟨pa, ca, na, rfl, hna, hx⟩ := W2.out.list hp
  have W3 := Lib.hid hx
  have HL1 := Lib.hid hL1
  have HNA := Lib.hid hna
  clear hp hx W2 HA hL1 hna
  have hcap := (W3.out.txs _ (List.mem_cons_self ..)).1.cap
  simp only at hcap
  rw [← HNA.out] at hcap
  obtain ⟨hca1, hca2⟩ := hcap
  unfold maxLen at hca2
  have HNM := Lib.hid (fun W => lg_name ((K : Int) - 1) (by omega) (by omega) W)
  obtain ⟨z, hz⟩ : ∃ z, nm lg ((K : Int) - 1) = z := ⟨_, rfl⟩
  have hzl : z.length ≤ 30 := by rw [← hz]; exact Nat.le_trans (nm_len lg (by omega) (by omega)) (by decide)
  rw [hz] at HNM
  have HZ := Lib.hid hz
  clear hz
  go_wp2_with fail
  refine (HNM.out _).mono ?_
  rintro e V4 ⟨rfl, hb⟩
  have W4 := Lib.hid (W3.out.same hb)
  clear hb W3 HNM
  have HRD := Lib.hid (sto_read W4.out.sto ⟨z.toArray⟩ (by rw [size_of]; unfold maxLen; omega))
  rw [show (⟨z.toArray⟩ : ByteArray).data.toList = z from rfl] at HRD
  obtain ⟨old, hold⟩ : ∃ o, (flk t.L z).isSome = o := ⟨_, rfl⟩
  rw [hold] at HRD
  generalize (got t.L z).bs = zb at *
  have HOLD := Lib.hid hold
  clear hold
  go_wp2_with fail
  refine HRD.out.mono ?_
  rintro e V5 ⟨rfl, hb⟩
  have W5 := Lib.hid (W4.out.same hb)
  clear hb W4 HRD hzl
  cases fail with
  | true =>
    go_wp2_with fail
    refine (sto_fail W5.out.sto 1 (by omega)).mono ?_
    rintro e V6 ⟨rfl, hs, ho⟩
    have W6 := Lib.hid (W5.out.go hs ho (fun k hk => .inl hk))
    clear hs ho W5
    have HTN := Lib.hid (lg_turn W6.out.sto K hh)
    have HKP := Lib.hid (keeps_fail HG.out K hK1.1 hK1.2)
    obtain ⟨T, hT⟩ : ∃ T, trT ⟨t.L, t.most, 1⟩ (ser lg K) = T := ⟨_, rfl⟩
    obtain ⟨C, hC⟩ : ∃ C, trC ⟨t.L, t.most, 1⟩ (ser lg K) = C := ⟨_, rfl⟩
    rw [hT, hC] at HTN HKP
    clear hT hC
    go_wp2_with fail
    rcases HKP.out.way with ⟨hfl, hc, he1, he2⟩ | ⟨hc, hfr, hw⟩
    · refine HTN.out.mono ?_
      intro e V7 hd
      rw [hc] at hd
      obtain ⟨kf, bs7, rfl, hx⟩ := W6.out.err (by decide) hd
      have W7 := Lib.hid hx
      clear hd hx W6 hc HTN
      have HAL := Lib.hid (lg_all W7.out.sto K hh)
      go_wp2_with fail
      refine HAL.out.mono ?_
      intro e V8 hp
      obtain ⟨pb2, cb, nb, rfl, hnb, hx⟩ := W7.out.list hp
      have W8 := Lib.hid hx
      have HNB := Lib.hid hnb
      clear hp hx W7 HAL hnb
      go_wp2_with fail
      have HRX := Lib.hid (oth_read W8.out.sto HKP.out.hoth)
      refine HRX.out.mono ?_
      rintro e V9 ⟨rfl, hb⟩
      have W9 := Lib.hid (W8.out.same hb)
      clear hb W8 HRX
      have HTA := Lib.hid (W9.out.txs _ (List.mem_cons_of_mem _ (List.mem_cons_self ..))).1
      have HTB := Lib.hid (W9.out.txs _ (List.mem_cons_self ..)).1
      simp only at HTA HTB
      rw [he1, HL1.out] at HTB
      rw [he1, HL1.out] at HNB
      obtain rfl : nb = na := HNB.out.trans HNA.out.symm
      have hpos : (0 : Int) < (nb : Int) := by
        have := HNA.out
        rw [← HL1.out, List.length_map] at this
        omega
      have hn1 : nb ≤ 16 := by
        have h1 := HNA.out
        rw [← HL1.out, List.length_map] at h1
        have h2 := fnd_len t (ser lg K)
        rw [ser_len] at h2
        omega
      clear he1 he2 HKP
      go_wp2_with fail
      refine (Word.same_at L1 nb HNA.out.symm _ _ _ _ _ HTB.out HTA.out (by omega)).mono ?_
      rintro e V10 ⟨rfl, hb⟩
      have W10 := Lib.hid (W9.out.same hb)
      clear hb
      go_wp2_with fail
      refine (works_walk _ (HT.out _ W10.out.below)).mono ?_
      rintro e V11 ⟨rfl, hb⟩
      have W11 := Lib.hid (W10.out.same hb)
      clear hb
      go_wp2_with fail
      go_ret
      exact ⟨rfl, W11.out.below⟩
    · refine HTN.out.mono ?_
      intro e V7 hd
      rw [hc] at hd
      obtain ⟨rfl, bs7, hx⟩ := W6.out.ok hd
      have W7 := Lib.hid hx
      clear hd hx W6 hc HTN
      have HAL := Lib.hid (lg_all W7.out.sto K hh)
      go_wp2_with fail
      refine HAL.out.mono ?_
      intro e V8 hp
      obtain ⟨pb2, cb, nb, rfl, hnb, hx⟩ := W7.out.list hp
      have W8 := Lib.hid hx
      have HNB := Lib.hid hnb
      clear hp hx W7 HAL hnb
      go_wp2_with fail
      have HRX := Lib.hid (oth_read W8.out.sto HKP.out.hoth)
      refine HRX.out.mono ?_
      rintro e V9 ⟨rfl, hb⟩
      have W9 := Lib.hid (W8.out.same hb)
      clear hb W8 HRX
      obtain ⟨L2, hL2⟩ : ∃ L, (fnd T (ser lg K)).map Fl.bs = L := ⟨_, rfl⟩
      rw [HL1.out, HZ.out, HOLD.out, hL2] at hw
      have HTA := Lib.hid (W9.out.txs _ (List.mem_cons_of_mem _ (List.mem_cons_self ..)))
      have HTB := Lib.hid (W9.out.txs _ (List.mem_cons_self ..)).1
      simp only at HTA HTB
      rw [hL2] at HTB HNB
      have hn1 : nb ≤ 16 := by
        have h1 := HNB.out
        rw [← hL2, List.length_map] at h1
        have h2 := fnd_len T (ser lg K)
        rw [ser_len] at h2
        omega
      clear hL2 HKP
      rcases hw with ⟨rfl, x, hx⟩ | ⟨rfl, hx⟩
      · have hna : na = nb + 1 := by rw [HNA.out, hx, HNB.out]; rfl
        obtain ⟨g, rfl⟩ : ∃ g, pa = some ⟨g, 0, none⟩ := by
          cases hpa : pa with
          | none => have := HTA.out.2.1 hpa; omega
          | some a => obtain ⟨g, e, _⟩ := HTA.out.2.2 a hpa; exact ⟨g, by rw [e]⟩
        obtain ⟨pt2, ct, hTL⟩ := tail_of g na ca nb hna hca1 (by unfold maxLen; omega)
        have hsl := hTL.run
        have HTW := Lib.hid (tail_tx (x := x) (L := L2) (by rw [← hx]; exact HTA.out.1) hTL HNB.out)
        clear hTL hx HTA hna
        have W10 := W9
        have HRL := Lib.hid (lg_read W10.out.sto hfr)
        generalize (got T.L lg).bs = lb at *
        go_wp2_with fail
        refine HRL.out.mono ?_
        rintro e V11 ⟨rfl, hb⟩
        have hbb := hb
        have W11 := Lib.hid (W10.out.same hb)
        clear hb HRL
        go_wp2_with fail
        refine (Word.same_at L2 nb HNB.out.symm _ _ _ _ _ (HTB.out.below hbb) (HTW.out.below hbb) (by omega)).mono ?_
        rintro e V12 ⟨rfl, hb⟩
        have W12 := Lib.hid (W11.out.same hb)
        clear hb
        go_wp2_with fail
        refine (works_walk _ (HT.out _ W12.out.below)).mono ?_
        rintro e V13 ⟨rfl, hb⟩
        have W13 := Lib.hid (W12.out.same hb)
        clear hb
        go_wp2_with fail
        go_ret
        exact ⟨rfl, W13.out.below⟩
      · have hna : na = nb := by rw [HNA.out, hx, HNB.out]
        subst hna
        have HTW := Lib.hid HTA.out.1
        rw [hx] at HTW
        clear hx HTA
        have W10 := W9
        have HRL := Lib.hid (lg_read W10.out.sto hfr)
        generalize (got T.L lg).bs = lb at *
        go_wp2_with fail
        refine HRL.out.mono ?_
        rintro e V11 ⟨rfl, hb⟩
        have hbb := hb
        have W11 := Lib.hid (W10.out.same hb)
        clear hb HRL
        go_wp2_with fail
        refine (Word.same_at L2 na HNB.out.symm _ _ _ _ _ (HTB.out.below hbb) (HTW.out.below hbb) (by omega)).mono ?_
        rintro e V12 ⟨rfl, hb⟩
        have W12 := Lib.hid (W11.out.same hb)
        clear hb
        go_wp2_with fail
        refine (works_walk _ (HT.out _ W12.out.below)).mono ?_
        rintro e V13 ⟨rfl, hb⟩
        have W13 := Lib.hid (W12.out.same hb)
        clear hb
        go_wp2_with fail
        go_ret
        exact ⟨rfl, W13.out.below⟩
  | false =>
    have W6 := W5
    clear W5
    have HTN := Lib.hid (lg_turn W6.out.sto K hh)
    have HKP := Lib.hid (keeps_ok W6.out.sto.ok HG.out K hK1.1 hK1.2)
    obtain ⟨T, hT⟩ : ∃ T, trT t (ser lg K) = T := ⟨_, rfl⟩
    obtain ⟨C, hC⟩ : ∃ C, trC t (ser lg K) = C := ⟨_, rfl⟩
    rw [hT, hC] at HTN HKP
    clear hT hC
    go_wp2_with fail
    rcases HKP.out.way with ⟨hfl, hc, he1, he2⟩ | ⟨hc, hfr, hw⟩
    · cases hfl
    · refine HTN.out.mono ?_
      intro e V7 hd
      rw [hc] at hd
      obtain ⟨rfl, bs7, hx⟩ := W6.out.ok hd
      have W7 := Lib.hid hx
      clear hd hx W6 hc HTN
      have HAL := Lib.hid (lg_all W7.out.sto K hh)
      go_wp2_with fail
      refine HAL.out.mono ?_
      intro e V8 hp
      obtain ⟨pb2, cb, nb, rfl, hnb, hx⟩ := W7.out.list hp
      have W8 := Lib.hid hx
      have HNB := Lib.hid hnb
      clear hp hx W7 HAL hnb
      go_wp2_with fail
      have HRX := Lib.hid (oth_read W8.out.sto HKP.out.hoth)
      refine HRX.out.mono ?_
      rintro e V9 ⟨rfl, hb⟩
      have W9 := Lib.hid (W8.out.same hb)
      clear hb W8 HRX
      obtain ⟨L2, hL2⟩ : ∃ L, (fnd T (ser lg K)).map Fl.bs = L := ⟨_, rfl⟩
      rw [HL1.out, HZ.out, HOLD.out, hL2] at hw
      have HTA := Lib.hid (W9.out.txs _ (List.mem_cons_of_mem _ (List.mem_cons_self ..)))
      have HTB := Lib.hid (W9.out.txs _ (List.mem_cons_self ..)).1
      simp only at HTA HTB
      rw [hL2] at HTB HNB
      have hn1 : nb ≤ 16 := by
        have h1 := HNB.out
        rw [← hL2, List.length_map] at h1
        have h2 := fnd_len T (ser lg K)
        rw [ser_len] at h2
        omega
      clear hL2 HKP
      rcases hw with ⟨rfl, x, hx⟩ | ⟨rfl, hx⟩
      · have hna : na = nb + 1 := by rw [HNA.out, hx, HNB.out]; rfl
        obtain ⟨g, rfl⟩ : ∃ g, pa = some ⟨g, 0, none⟩ := by
          cases hpa : pa with
          | none => have := HTA.out.2.1 hpa; omega
          | some a => obtain ⟨g, e, _⟩ := HTA.out.2.2 a hpa; exact ⟨g, by rw [e]⟩
        obtain ⟨pt2, ct, hTL⟩ := tail_of g na ca nb hna hca1 (by unfold maxLen; omega)
        have hsl := hTL.run
        have HTW := Lib.hid (tail_tx (x := x) (L := L2) (by rw [← hx]; exact HTA.out.1) hTL HNB.out)
        clear hTL hx HTA hna
        have W10 := W9
        have HRL := Lib.hid (lg_read W10.out.sto hfr)
        generalize (got T.L lg).bs = lb at *
        go_wp2_with fail
        refine HRL.out.mono ?_
        rintro e V11 ⟨rfl, hb⟩
        have hbb := hb
        have W11 := Lib.hid (W10.out.same hb)
        clear hb HRL
        go_wp2_with fail
        refine (Word.same_at L2 nb HNB.out.symm _ _ _ _ _ (HTB.out.below hbb) (HTW.out.below hbb) (by omega)).mono ?_
        rintro e V12 ⟨rfl, hb⟩
        have W12 := Lib.hid (W11.out.same hb)
        clear hb
        go_wp2_with fail
        refine (works_walk _ (HT.out _ W12.out.below)).mono ?_
        rintro e V13 ⟨rfl, hb⟩
        have W13 := Lib.hid (W12.out.same hb)
        clear hb
        go_wp2_with fail
        go_ret
        exact ⟨rfl, W13.out.below⟩
      · have hna : na = nb := by rw [HNA.out, hx, HNB.out]
        subst hna
        have HTW := Lib.hid HTA.out.1
        rw [hx] at HTW
        clear hx HTA
        have W10 := W9
        have HRL := Lib.hid (lg_read W10.out.sto hfr)
        generalize (got T.L lg).bs = lb at *
        go_wp2_with fail
        refine HRL.out.mono ?_
        rintro e V11 ⟨rfl, hb⟩
        have hbb := hb
        have W11 := Lib.hid (W10.out.same hb)
        clear hb HRL
        go_wp2_with fail
        refine (Word.same_at L2 na HNB.out.symm _ _ _ _ _ (HTB.out.below hbb) (HTW.out.below hbb) (by omega)).mono ?_
        rintro e V12 ⟨rfl, hb⟩
        have W12 := Lib.hid (W11.out.same hb)
        clear hb
        go_wp2_with fail
        refine (works_walk _ (HT.out _ W12.out.below)).mono ?_
        rintro e V13 ⟨rfl, hb⟩
        have W13 := Lib.hid (W12.out.same hb)
        clear hb
        go_wp2_with fail
        go_ret
        exact ⟨rfl, W13.out.below⟩
end Go.Proofs.YtememmgnhnldaaaDoor.Gen

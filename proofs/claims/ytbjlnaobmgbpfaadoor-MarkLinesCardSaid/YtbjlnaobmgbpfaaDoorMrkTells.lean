/-
  Layer 20 (mark): MarkTells, walked.
-/
import Derived.Test.YtbjlnaobmgbpfaaDoorMrkWorks
namespace Go.Proofs.YtbjlnaobmgbpfaaDoor.Mark
open Go.RowKit Go.Proofs.YtbjlnaobmgbpfaaDoor.Own Go.Proofs.YtbjlnaobmgbpfaaDoor.Rw Go.Proofs.YtbjlnaobmgbpfaaDoor.Rec Go.Proofs.YtbjlnaobmgbpfaaDoor.Bld Go.Proofs.YtbjlnaobmgbpfaaDoor.Digit Go.Proofs.YtbjlnaobmgbpfaaDoor.Clock

structure TAt (M : Nat) (o : Bool) (w wr : World) : Prop where
  mkr : Mk M o wr
  below : Below w.heap.size w wr
theorem Mark.empty_of {S : ByteArray} (h : S.size = 0) : S = ⟨#[]⟩ := opn_empty S h
theorem full_list {S : ByteArray} (h : ¬ S.size = 0) : S.toList.isEmpty = false := by
  cases e : S.toList with
  | nil => exfalso; rw [ByteArray.toList_eq] at e; apply h; show S.data.size = 0; rw [← Array.length_toList, e]; rfl
  | cons a b => rfl

set_option maxRecDepth 100000 in
set_option maxHeartbeats 4000000 in
theorem tells_walk (ys : List Itm) (p : Option Addr) (c n : Nat) (hn : ys.length = n) (w : World) (hM : Months w) (h : Its w ys p c) :
    Calls Tryd.prog 3 #[.slice p n c] w fun e w' => e = .returned (.bool true) ∧ Below w.heap.size w w' := by
  have HF := Lib.hid (few_calls ys p c n hn w h)
  have HM := Lib.hid hM
  clear h hM hn
  go_enter Tryd.func3, Tryd.ntmps3
  go_wp2_with fail
  refine HF.out.mono ?_
  rintro e w1 ⟨xs, n, p, c, rfl, hn, h16, hI, h80, hb1⟩
  have hs1 := hb1.size
  have hb2 := hb1.alloc hs1 (.cells #[.bool false] 25 (0, 0))
  have hbb : Below w1.heap.size w1 (w1.alloc (.cells #[.bool false] 25 (0, 0))) := (Below.refl _ _).alloc (Nat.le_refl _) _
  have C0 := Lib.hid (show TAt w1.heap.size (fin false (xs.take 0)) w1 (w1.alloc (.cells #[.bool false] 25 (0, 0))) from ⟨at_new w1 _, hbb⟩)
  have HI := Lib.hid hI
  have HN := Lib.hid hn
  have H8 := Lib.hid h80
  have HT := Lib.hid (few_tot hn h16 h80)
  have B1 := Lib.hid hb1
  have q2 : (n : Int) ≤ 16 := by omega
  clear hb1 hb2 hbb hI hn h80 HF
  go_wp2_with fail
  go_loopw [4, 5] (fun sv i wr => ∃ k : Nat, k ≤ n ∧ i = .int .i64 k ∧ sv = .string ⟨(txt false (xs.take k)).toArray⟩ ∧ TAt w1.heap.size (fin false (xs.take k)) w1 wr) (fun _ i _ => n - (intOf i).toNat)
  case atStart => exact ⟨0, Nat.zero_le _, rfl, rfl, C0.out⟩
  case round =>
    obtain ⟨k, hkn, rfl, rfl, C⟩ := hrel
    have HC := Lib.hid C
    have hBw := C.below
    have hsz := hBw.size
    clear C C0
    rcases Nat.lt_or_eq_of_le hkn with hlt | rfl
    · have q1 : (k : Int) < (n : Int) := by omega
      have hk : k < xs.length := by rw [HN.out]; exact hlt
      obtain ⟨b, o, rfl, hb, c0, c1, c2⟩ := Its.at_ HI.out hk
      rw [← hBw.cell (p := ⟨b, _, none⟩) hb] at c0 c1 c2
      have hbw : b < wr.heap.size := Nat.lt_of_lt_of_le hb hsz
      have HX1 := H8.out xs[k] (List.getElem_mem hk)
      have HL := Nat.le_trans (txt_take_le false xs (k + 1)) HT.out
      have NT := txt_next false hk
      have OT := opn_txt false (xs.take (k + 1))
      have NF := Lib.hid (fin_next false hk)
      have HAD := Lib.hid (add_calls w1.heap.size (fin false (xs.take k)) xs[k] wr ((HM.out.below B1.out).below hBw) HC.out.mkr (by omega))
      generalize hxx : xs[k] = x at *
      obtain ⟨xk, xa, xb⟩ := x
      simp only at c0 c1 c2 HX1 HAD
      rw [NT, List.length_append] at HL
      rw [NT] at OT
      obtain ⟨U, hU⟩ : ∃ U, itT (fin false (xs.take k)) ⟨xk, xa, xb⟩ = U := ⟨_, rfl⟩
      rw [hU] at HL OT NT
      have HNT := Lib.hid NT
      have HU := Lib.hid hU
      generalize txt false (xs.take k) = T at *
      have HOT := Lib.hid OT
      clear hxx HX1 NT OT hU
      go_wp2_with fail
      refine HAD.out.mono ?_
      rintro e w5 ⟨rfl, h7, h8⟩
      rw [HU.out]
      have q5 := HNT.out
      obtain ⟨q, hq⟩ : ∃ q, opn false (T ++ U) = q := ⟨_, rfl⟩
      rw [← NF.out, ← HOT.out, hq] at h7
      have C1 := Lib.hid (show TAt w1.heap.size (fin false (xs.take (k + 1))) w1 w5 by
        rw [← HOT.out, hq]
        exact ⟨h7, hBw.trans (h8.below hsz fun i e => by omega)⟩)
      have H7 := Lib.hid h7
      have TU : (⟨T.toArray⟩ : ByteArray) ++ ⟨U.toArray⟩ = ⟨(T ++ U).toArray⟩ := cat_text T U
      obtain ⟨S, hS⟩ : ∃ S : ByteArray, S = ⟨(T ++ U).toArray⟩ := ⟨_, rfl⟩
      have hSl : S.data.toList = T ++ U := by rw [hS]
      have hSn : S.size = T.length + U.length := by rw [hS]; show (T ++ U).toArray.size = _; simp
      rw [← hSl] at hq
      have HTU := Lib.hid (TU.trans hS.symm)
      have HS := Lib.hid hS
      have HQ := Lib.hid hq
      have HNT2 := Lib.hid q5
      clear h7 h8 q5 hS TU hSl hq c0 c1 c2 hBw
      by_cases h0 : S.size = 0
      · obtain rfl := opn_empty S h0
        obtain rfl : false = q := HQ.out
        go_wp2_with fail
        refine (open_calls _ _ _ H7.out).mono ?_
        rintro e w8 ⟨rfl, rfl⟩
        rw [HTU.out]
        go_wp2_with fail
        go_roundw
        case rel => exact ⟨k + 1, by omega, by go_num, by rw [HNT2.out, HS.out], C1.out⟩
        case measure => simp [intOf]; omega
      · obtain ⟨m, hm⟩ : ∃ m, S.size = m + 1 := ⟨S.size - 1, by omega⟩
        have hltm : m < S.size := by omega
        have hne := full_list h0
        have hO := opn_last S m hm hltm
        rw [HQ.out, ne10] at hO
        have e1 : (S.size : Int) - 1 = (m : Int) := by omega
        have hSm : (S.size : Int) ≤ 1000000000000 := by omega
        go_wp2_with fail
        refine (open_calls _ _ _ H7.out).mono ?_
        rintro e w8 ⟨rfl, rfl⟩
        rw [HTU.out]
        clear hSn
        cases q with
        | true =>
          have b1 : ((S[m].toNat : Int) != 10) = true := hO.symm
          clear hO
          go_wp2_with fail
          all_goals first
            | (exfalso; rename_i hz; rw [hz] at hne; cases hne)
            | (go_roundw
               case rel => exact ⟨k + 1, by omega, by go_num, by rw [HNT2.out, HS.out], C1.out⟩
               case measure => simp [intOf]; omega)
        | false =>
          have b1 : ((S[m].toNat : Int) != 10) = false := hO.symm
          clear hO
          go_wp2_with fail
          all_goals first
            | (exfalso; rename_i hz; rw [hz] at hne; cases hne)
            | (go_roundw
               case rel => exact ⟨k + 1, by omega, by go_num, by rw [HNT2.out, HS.out], C1.out⟩
               case measure => simp [intOf]; omega)
    · rw [List.take_of_length_le (Nat.le_of_eq HN.out)]
      have HL := Nat.le_trans (txt_le false xs) HT.out
      have HI2 := Lib.hid (HI.out.kept hBw)
      have HM2 := Lib.hid ((HM.out.below B1.out).below hBw)
      have HB2 := Lib.hid (B1.out.trans (hBw.mono hs1))
      have HX := Lib.hid fun x hx => Nat.le_trans (H8.out x hx) (show 80 ≤ 100000 by omega)
      clear hBw
      go_wp2_with fail
      refine (rall_calls xs p c _ HN.out _ HI2.out HX.out HT.out).mono ?_
      rintro e w5 ⟨rfl, hb⟩
      have HI3 := Lib.hid (HI2.out.kept hb)
      have HM3 := Lib.hid (HM2.out.below hb)
      have HB3 := Lib.hid (HB2.out.trans (hb.mono HB2.out.size))
      clear hb
      go_wp2_with fail
      refine (all_calls xs p c _ HN.out _ HI3.out HM3.out HX.out HT.out).mono ?_
      rintro e w6 ⟨rfl, hb⟩
      have HI4 := Lib.hid (HI3.out.kept hb)
      have HM4 := Lib.hid (HM3.out.below hb)
      have HB4 := Lib.hid (HB3.out.trans (hb.mono HB3.out.size))
      clear hb
      go_wp2_with fail
      refine (data_calls xs p c _ HN.out _ HI4.out HT.out).mono ?_
      rintro e w7 ⟨rfl, hb⟩
      have HI5 := Lib.hid (HI4.out.kept hb)
      have HM5 := Lib.hid (HM4.out.below hb)
      have HB5 := Lib.hid (HB4.out.trans (hb.mono HB4.out.size))
      clear hb
      go_wp2_with fail
      refine (rdata_calls xs p c _ HN.out _ HI5.out HT.out).mono ?_
      rintro e w8 ⟨rfl, rfl⟩
      go_wp2_with fail
      refine (works_calls _ HM5.out).mono ?_
      rintro e w9 ⟨rfl, hb⟩
      have HB6 := Lib.hid (HB5.out.trans (hb.mono HB5.out.size))
      clear hb
      go_wp2_with fail
      go_ret
      exact ⟨rfl, HB6.out⟩
end Go.Proofs.YtbjlnaobmgbpfaaDoor.Mark

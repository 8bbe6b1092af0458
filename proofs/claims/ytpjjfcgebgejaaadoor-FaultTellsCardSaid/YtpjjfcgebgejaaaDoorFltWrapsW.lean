/-
  Layer 9 (fault): the law on what is wrapped, walked.
-/
import Derived.Test.YtpjjfcgebgejaaaDoorFltWraps
namespace Go.Proofs.YtpjjfcgebgejaaaDoor.Flt
open Go.RowKit Go.Proofs.YtpjjfcgebgejaaaDoor.Own Go.Proofs.YtpjjfcgebgejaaaDoor.Digit

theorem line2 (m n : Int) : lineOf [⟨0, m, []⟩, ⟨0, n, []⟩] = if 0 < m then m else if 0 < n then n else 0 := rfl
theorem has_self {c : Int} (h : c ≠ 0) : hasB c c = true := by simp [hasB, h]
theorem ext_suf (P T : List UInt8) : (⟨(P ++ T).toArray⟩ : ByteArray).extract P.length (⟨(P ++ T).toArray⟩ : ByteArray).size = ⟨T.toArray⟩ := by
  apply ByteArray.ext
  rw [ByteArray.data_extract]
  show (P ++ T).toArray.extract P.length (P ++ T).length = T.toArray
  simp
/-- the text's two parts -/
theorem cut_suf (c n m : Int) (s q : ByteArray) : ∃ P : List UInt8, (tB c n m s q).length = P.length + (tA c n s).length ∧
    ((⟨(tB c n m s q).toArray⟩ : ByteArray).extract P.length (P.length + (tA c n s).length)).toList = tA c n s := by
  obtain ⟨P, hP⟩ := text_suf ⟨0, m, q.data.toList⟩ [⟨0, n, s.data.toList⟩] c
  have hl : (tB c n m s q).length = P.length + (tA c n s).length := by
    have := congrArg List.length hP
    rw [List.length_append] at this
    exact this
  refine ⟨P, hl, ?_⟩
  have hP' : tB c n m s q = P ++ tA c n s := hP
  have e := ext_suf P (tA c n s)
  rw [← hP'] at e
  have hz : (⟨(tB c n m s q).toArray⟩ : ByteArray).size = P.length + (tA c n s).length := hl
  rw [hz] at e
  rw [e, ByteArray.toList_eq]

set_option maxRecDepth 100000 in
set_option maxHeartbeats 4000000 in
theorem wraps_walk (c n m : Int) (s q : ByteArray) (c1 : -9223372036854775808 ≤ c) (c2 : c ≤ 9223372036854775807) (n1 : -9223372036854775808 ≤ n) (n2 : n ≤ 9223372036854775807) (m1 : -9223372036854775808 ≤ m) (m2 : m ≤ 9223372036854775807) (w : World) (hT : Tab w) :
    Calls Tryd.prog 4 #[.int .i64 c, .int .i64 n, .string s, .string q, .int .i64 m] w fun e w' => e = .returned (.bool true) ∧ Below w.heap.size w w' := by
  by_cases hs : s.size ≤ 100
  · by_cases hq : q.size ≤ 100
    · by_cases hc : c = 0
      · subst hc
        have HT := Lib.hid hT
        clear hT
        go_enter Tryd.func4, Tryd.ntmps4
        go_wp2_with (go_at_call 6; refine (works_calls _ HT.out).mono ?_; rintro e w' ⟨rfl, hb⟩; replace hb := Lib.hid hb)
        go_ret
        exact ⟨rfl, hb.out⟩
      · have hlB := lenB c1 c2 n1 n2 m1 m2 hs hq
        have hlA := lenA c1 c2 n1 n2 hs
        obtain ⟨P, hP, hcut⟩ := cut_suf c n m s q
        have hX := wr_start w hT c n m s q
        have HLN := Lib.hid (line2 m n)
        have HZ := Lib.hid hc
        have HH := Lib.hid (has_self hc)
        have b1 : (c == 0) = false := by simpa using hc
        obtain ⟨TA, hTA⟩ : ∃ t, tA c n s = t := ⟨_, rfl⟩
        obtain ⟨TB, hTB⟩ : ∃ t, tB c n m s q = t := ⟨_, rfl⟩
        have HTA := Lib.hid hTA
        have HTB := Lib.hid hTB
        rw [hTA, hTB] at hcut hP
        rw [hTB] at hlB
        rw [hTA] at hlA
        have hw0 : IntKind.i64.wrap ((TB.length : Int) - (TA.length : Int)) = (TB.length : Int) - (TA.length : Int) := IntWalk.i64_in _ (by omega)
        have hge : (TA.length : Int) ≤ (TB.length : Int) := by omega
        have HX := Lib.hid hX
        clear hX hTA hTB hT hc
        go_enter Tryd.func4, Tryd.ntmps4
        go_wp2_with fail
        refine (new_some _ _ _ HZ.out _).mono ?_
        rintro e w' ⟨rfl, rfl⟩
        go_wp2_with fail
        refine (wrap_some _ _ _ _ _).mono ?_
        rintro e w' ⟨rfl, rfl⟩
        go_wp2_with fail
        refine (wr_texta c1 c2 n1 n2 hs HX.out).mono ?_
        rw [HTA.out]
        rintro e w2 ⟨rfl, h2⟩
        replace HX := Lib.hid h2
        clear h2
        go_wp2_with fail
        refine (wr_textb c1 c2 n1 n2 m1 m2 hs hq HX.out).mono ?_
        rw [HTB.out]
        rintro e w3 ⟨rfl, h2⟩
        replace HX := Lib.hid (Wr0.box h2)
        clear h2
        by_cases hm : 0 < m
        · have HW := Lib.hid (show lineOf [⟨0, m, []⟩, ⟨0, n, []⟩] = m by rw [line2, if_pos hm])
          go_wp2_with fail
          refine (wr_unwrap HX.out).mono ?_
          rintro e w' ⟨rfl, rfl⟩
          go_wp2_with fail
          refine (wr_unwrap HX.out).mono ?_
          rintro e w' ⟨rfl, rfl⟩
          go_wp2_with fail
          refine (wr_ofa HX.out).mono ?_
          rintro e w4 ⟨rfl, h2⟩
          replace HX := Lib.hid h2
          clear h2
          go_wp2_with fail
          refine (wr_error c1 c2 n1 n2 hs HX.out).mono ?_
          rintro e w5 ⟨rfl, h2⟩
          replace HX := Lib.hid h2
          clear h2
          go_wp2_with fail
          have HY := Lib.hid (wr_wrap HX.out)
          refine (wrap_some _ _ _ _ _).mono ?_
          rintro e w' ⟨rfl, rfl⟩
          replace HX := HY
          clear HY
          go_wp2_with fail
          refine (wr_textf c1 c2 n1 n2 hs HX.out).mono ?_
          rintro e w6 ⟨rfl, h2⟩
          replace HX := Lib.hid h2
          clear h2
          go_wp2_with fail
          refine (wr_kind c1 c2 HX.out).mono ?_
          rintro e w7 ⟨rfl, h2⟩
          replace HX := Lib.hid h2
          clear h2
          go_wp2_with fail
          refine (wr_word c1 c2 HX.out).mono ?_
          rintro e w8 ⟨rfl, h2⟩
          replace HX := Lib.hid h2
          clear h2
          go_wp2_with fail
          refine (wr_ofb HX.out).mono ?_
          rintro e w9 ⟨rfl, h2⟩
          replace HX := Lib.hid h2
          clear h2
          go_wp2_with fail
          refine (wr_ofa HX.out).mono ?_
          rintro e w10 ⟨rfl, h2⟩
          replace HX := Lib.hid h2
          clear h2
          go_wp2_with fail
          refine (wr_ofa HX.out).mono ?_
          rintro e w11 ⟨rfl, h2⟩
          replace HX := Lib.hid h2
          clear h2
          go_wp2_with fail
          refine (wr_has HX.out c).mono ?_
          rw [HH.out]
          rintro e w' ⟨rfl, rfl⟩
          go_wp2_with fail
          refine (wr_line HX.out).mono ?_
          rw [HW.out]
          rintro e w12 ⟨rfl, h2⟩
          replace HX := Lib.hid h2
          clear h2
          go_wp2_with fail
          refine (wr_works HX.out).mono ?_
          rintro e w13 ⟨rfl, h2⟩
          replace HX := Lib.hid h2
          clear h2
          go_wp2_with fail
          go_ret
          exact ⟨rfl, HX.out.below⟩
        · have HW := Lib.hid (show lineOf [⟨0, m, []⟩, ⟨0, n, []⟩] = max 0 n by rw [line2, if_neg hm]; split <;> omega)
          have hm' : m ≤ 0 := by omega
          clear hm
          go_wp2_with fail
          refine (wr_unwrap HX.out).mono ?_
          rintro e w' ⟨rfl, rfl⟩
          go_wp2_with fail
          refine (wr_unwrap HX.out).mono ?_
          rintro e w' ⟨rfl, rfl⟩
          go_wp2_with fail
          refine (wr_ofa HX.out).mono ?_
          rintro e w4 ⟨rfl, h2⟩
          replace HX := Lib.hid h2
          clear h2
          go_wp2_with fail
          refine (wr_error c1 c2 n1 n2 hs HX.out).mono ?_
          rintro e w5 ⟨rfl, h2⟩
          replace HX := Lib.hid h2
          clear h2
          go_wp2_with fail
          have HY := Lib.hid (wr_wrap HX.out)
          refine (wrap_some _ _ _ _ _).mono ?_
          rintro e w' ⟨rfl, rfl⟩
          replace HX := HY
          clear HY
          go_wp2_with fail
          refine (wr_textf c1 c2 n1 n2 hs HX.out).mono ?_
          rintro e w6 ⟨rfl, h2⟩
          replace HX := Lib.hid h2
          clear h2
          go_wp2_with fail
          refine (wr_kind c1 c2 HX.out).mono ?_
          rintro e w7 ⟨rfl, h2⟩
          replace HX := Lib.hid h2
          clear h2
          go_wp2_with fail
          refine (wr_word c1 c2 HX.out).mono ?_
          rintro e w8 ⟨rfl, h2⟩
          replace HX := Lib.hid h2
          clear h2
          go_wp2_with fail
          refine (wr_ofb HX.out).mono ?_
          rintro e w9 ⟨rfl, h2⟩
          replace HX := Lib.hid h2
          clear h2
          go_wp2_with fail
          refine (wr_ofa HX.out).mono ?_
          rintro e w10 ⟨rfl, h2⟩
          replace HX := Lib.hid h2
          clear h2
          go_wp2_with fail
          refine (wr_ofa HX.out).mono ?_
          rintro e w11 ⟨rfl, h2⟩
          replace HX := Lib.hid h2
          clear h2
          go_wp2_with fail
          refine (wr_has HX.out c).mono ?_
          rw [HH.out]
          rintro e w' ⟨rfl, rfl⟩
          go_wp2_with fail
          refine (wr_line HX.out).mono ?_
          rw [HW.out]
          rintro e w12 ⟨rfl, h2⟩
          replace HX := Lib.hid h2
          clear h2
          go_wp2_with fail
          refine (wr_works HX.out).mono ?_
          rintro e w13 ⟨rfl, h2⟩
          replace HX := Lib.hid h2
          clear h2
          go_wp2_with fail
          go_ret
          exact ⟨rfl, HX.out.below⟩
    · have hq' : 100 < q.size := by omega
      clear hq
      have HT := Lib.hid hT
      clear hT
      go_enter Tryd.func4, Tryd.ntmps4
      go_wp2_with (go_at_call 6; refine (works_calls _ HT.out).mono ?_; rintro e w' ⟨rfl, hb⟩; replace hb := Lib.hid hb)
      go_ret
      exact ⟨rfl, hb.out⟩
  · have hs' : 100 < s.size := by omega
    clear hs
    have HT := Lib.hid hT
    clear hT
    go_enter Tryd.func4, Tryd.ntmps4
    go_wp2_with (go_at_call 6; refine (works_calls _ HT.out).mono ?_; rintro e w' ⟨rfl, hb⟩; replace hb := Lib.hid hb)
    go_ret
    exact ⟨rfl, hb.out⟩
end Go.Proofs.YtpjjfcgebgejaaaDoor.Flt

/-
  Layer 8 (record): the walk of RecordTurned.
-/
import Derived.Test.YtfdpmbnjjnmdiaaRecFew
import Derived.Test.YtfdpmbnjjnmdiaaBytes
namespace Go.Proofs.Ytfdpmbnjjnmdiaa.Rec
open Go.RowKit Go.Proofs.Ytfdpmbnjjnmdiaa.Sum Go.Proofs.Ytfdpmbnjjnmdiaa.Own

set_option maxRecDepth 100000 in
set_option maxHeartbeats 4000000 in
theorem turned_walk (k a : Int) (b : ByteArray) (at0 y : Int) (h0 : 0 ≤ at0) (h1 : at0 < 65536) (y0 : 0 ≤ y) (y1 : y < 256) (w : World) :
    Calls Try.prog 6 #[.agg #[.int .i64 k, .int .i64 a, .string b], .int .u16 at0, .int .u8 y] w fun e w' => e = .returned (.bool true) ∧ Below w.heap.size w w' := by
  have HB0 : Hid (Below w.heap.size w (w.alloc (.cells #[.int .i64 k, .int .i64 a, .string b] 23 (0, 0)))) := Lib.hid ((Below.refl _ _).alloc (Nat.le_refl _) _)
  have HX0 : Hid ((w.alloc (.cells #[.int .i64 k, .int .i64 a, .string b] 23 (0, 0))).heap[w.heap.size]? = some (.cells #[.int .i64 k, .int .i64 a, .string b] 23 (0, 0))) := Lib.hid (at_new _ _)
  obtain ⟨S, hS⟩ : ∃ S : ByteArray, S = ⟨(putV ⟨k, a, b⟩).toArray⟩ := ⟨_, rfl⟩
  obtain ⟨c, hc⟩ : ∃ c, chk ⟨k, a, b⟩ = c := ⟨_, rfl⟩
  have HP : Hid (∀ W, Calls Try.prog 8 #[.agg #[.int .i64 k, .int .i64 a, .string b]] W fun e w' => e = .returned (.tuple #[.string S, .int .i64 c]) ∧ Below W.heap.size W w') := Lib.hid fun W => (put_calls k a b W).mono fun e w' h => by
    obtain ⟨rfl, hb⟩ := h
    rw [hc, hS]; exact ⟨rfl, hb⟩
  by_cases hg : b.size ≤ 300 ∧ c = 0 ∧ y ≠ 0
  · obtain ⟨hb3, hc0, hy⟩ := hg
    have hchk : chk ⟨k, a, b⟩ = 0 := hc.trans hc0
    have hl : S.data.toList = bytesOf ⟨k, a, b⟩ := by rw [hS, putV_ok hchk]
    have hsz : S.size = 14 + b.size := by rw [← size_list, hl, bytes_len]
    have e1 : (S.toList == []) = false := by
      rw [beq_eq_false_iff_ne, ByteArray.toList_eq, hl]
      intro e
      have := congrArg List.length e
      rw [bytes_len] at this; simp at this
    have e2 : (y == 0) = false := by simpa using hy
    have HL := Lib.hid hl
    have HZ := Lib.hid hsz
    have HK := Lib.hid hchk
    have s0 : (0 : Int) < (S.size : Int) := by omega
    have s1 : (S.size : Int) ≤ 314 := by omega
    obtain ⟨i, hi⟩ : ∃ i : Nat, at0 % (S.size : Int) = i := ⟨(at0 % (S.size : Int)).toNat, by have := Int.emod_nonneg at0 (b := (S.size : Int)) (by omega); omega⟩
    have hil : i < S.size := by have := Int.emod_lt_of_pos at0 (b := (S.size : Int)) (by omega); omega
    obtain ⟨v, rfl⟩ : ∃ v : UInt8, (v.toNat : Int) = y := ⟨byteI y, byteI_back y0 y1⟩
    have hil2 : i < S.data.toList.length := hil
    obtain ⟨d, hd⟩ : ∃ d, S.data.toList[i] = d := ⟨_, rfl⟩
    obtain ⟨u, hu⟩ : ∃ u, d ^^^ v = u := ⟨_, rfl⟩
    have hxor := xor_byte d v
    rw [hu] at hxor
    have hne : u ≠ S.data.toList[i] := by
      rw [← hu, hd]
      intro e
      have := xor_same.1 e
      rw [this] at hy
      exact hy rfl
    subst hc0
    clear hS hc hl hsz hchk hy
    go_enter Try.func6, Try.ntmps6
    go_wp2_with fail
    generalize w.alloc (.cells #[.int .i64 k, .int .i64 a, .string b] 23 (0, 0)) = W at HB0 HX0 ⊢
    refine (HP.out _).mono ?_
    rintro e w1 ⟨rfl, hb⟩
    have hX := (hb.block w.heap.size (at_lt HX0.out)).trans HX0.out
    have hB := HB0.out.trans (hb.mono HB0.out.size)
    obtain ⟨w2, cap, hr2, H2, B2⟩ := bytes_new S w1
    have c2 := H2.cell i hil2
    have f2 := H2.free i hil2
    have H3 := H2.set i u
    obtain ⟨q, hq⟩ : ∃ q, w1.heap.size = q := ⟨_, rfl⟩
    have hbq : w.heap.size < q := by rw [← hq]; exact at_lt hX
    rw [hq] at hr2 H2 B2 c2 f2 H3
    rw [hd] at c2
    have hll : (S.data.toList.set i u).length = S.size := by rw [List.length_set]; rfl
    have hcv := H3.text cap
    rw [hll] at hcv
    have hX3 : (w2.setCell ⟨q, i, none⟩ (.int .u8 (u.toNat : Int))).heap[w.heap.size]? = some (.cells #[.int .i64 k, .int .i64 a, .string b] 23 (0, 0)) := by
      rw [at_set_other _ (by omega), B2.block w.heap.size hbq]; exact hX
    have HX3 := Lib.hid hX3
    have HB3 := Lib.hid ((hB.trans (B2.mono (by omega))).setCell (p := ⟨q, i, none⟩) (by show w.heap.size ≤ q; omega) (.int .u8 (u.toNat : Int)))
    have k1 : (i : Int) < (S.size : Int) := by omega
    obtain ⟨T, hT⟩ : ∃ T : ByteArray, T = ⟨(S.data.toList.set i u).toArray⟩ := ⟨_, rfl⟩
    rw [← hT] at hcv
    have hTl : T.data.toList = (bytesOf ⟨k, a, b⟩).set i u := by rw [hT, ← HL.out]
    have hTs : T.size ≤ 4611686018427387904 := by rw [← size_list, hTl, List.length_set, bytes_len]; show 14 + b.size ≤ _; omega
    have hib : i < (bytesOf ⟨k, a, b⟩).length := by rw [bytes_len]; show i < 14 + b.size; rw [← HZ.out]; exact hil
    have hne2 : u ≠ (bytesOf ⟨k, a, b⟩)[i] := by simpa [HL.out] using hne
    have HFar : Hid (i ≠ 8 → i ≠ 9 → rdC T.data.toList ≠ 0) := Lib.hid fun h8 h9 => by rw [hTl]; exact turned_far HK.out hib hne2 h8 h9
    have HNear : Hid ((i = 8 ∨ i = 9) → rdC T.data.toList = 0 → (rdX T.data.toList).b.size < b.size ∧ rdN T.data.toList < 14 + (b.size : Int)) := Lib.hid fun h89 h0 => by
      rw [hTl] at h0 ⊢; exact turned_near HK.out hib hne2 h89 h0
    have s2 : (S.size : Int) = 14 + (b.size : Int) := by rw [HZ.out]; omega
    have HS2 := Lib.hid s2
    obtain ⟨x0, x1, x2⟩ := box3 hX
    clear hd hne2 hX hB H2 B2 H3 hq hll hX3 hu hne hT hTl hib hb HB0 HX0 hbq HL s2
    go_wp2_with fail
    generalize w2.setCell ⟨q, i, none⟩ (.int .u8 (u.toNat : Int)) = W3 at *
    rw [hi]
    clear hr2 c2 f2 hcv hxor x0 x1 x2
    by_cases h8 : i = 8
    · have h89 : i = 8 ∨ i = 9 := .inl h8
      have t8 : ((i : Int) == 8) = true := by rw [h8]; rfl
      clear h8
      by_cases hr : rdC T.data.toList = 0
      · obtain ⟨g1, g2⟩ := HNear.out h89 hr
        obtain ⟨n, hn⟩ : ∃ n, rdN T.data.toList = n := ⟨_, rfl⟩
        obtain ⟨z, hzz⟩ : ∃ z, rdX T.data.toList = z := ⟨_, rfl⟩
        rw [hn] at g2
        rw [hzz] at g1
        rw [← HS2.out] at g2
        have HY := Lib.hid (read_yes T hTs hr z n hzz hn)
        obtain ⟨zk, za, zb⟩ := z
        change zb.size < b.size at g1
        have hnb2 : (zb.toList == b.toList) = false := by
          rw [beq_eq_false_iff_ne, ByteArray.toList_eq, ByteArray.toList_eq]
          intro e
          have := congrArg List.length e
          rw [size_list, size_list] at this; omega
        clear hn hzz hr
        refine (HY.out _).mono ?_
        rintro e w4 ⟨rfl, hb⟩
        have hX5 := at_old w4 (.cells #[.int .i64 zk, .int .i64 za, .string zb] 23 (0, 0)) ((hb.block w.heap.size (at_lt HX3.out)).trans HX3.out)
        have hY5 := at_new w4 (.cells #[.int .i64 zk, .int .i64 za, .string zb] 23 (0, 0))
        replace HB3 := Lib.hid ((HB3.out.trans (hb.mono HB3.out.size)).alloc (HB3.out.trans (hb.mono HB3.out.size)).size (.cells #[.int .i64 zk, .int .i64 za, .string zb] 23 (0, 0)))
        clear hb
        obtain ⟨x0, x1, x2⟩ := box3 hX5
        obtain ⟨z0, z1, z2⟩ := box3 hY5
        clear hX5 hY5
        go_wp2_with fail
        generalize w4.alloc (.cells #[.int .i64 zk, .int .i64 za, .string zb] 23 (0, 0)) = W4 at HB3 ⊢
        refine (works_calls _).mono ?_
        rintro e w6 ⟨rfl, hb⟩
        replace HB3 := Lib.hid (HB3.out.trans (hb.mono HB3.out.size))
        clear hb
        go_wp2_with fail
        go_ret
        exact ⟨rfl, HB3.out⟩
      · refine (read_no T hTs hr _).mono ?_
        rintro e w4 ⟨rfl, hb⟩
        replace HB3 := Lib.hid ((HB3.out.trans (hb.mono HB3.out.size)).alloc (HB3.out.trans (hb.mono HB3.out.size)).size (.cells #[.int .i64 0, .int .i64 0, .string ⟨#[]⟩] 23 (0, 0)))
        clear hb
        obtain ⟨cc, hcc⟩ : ∃ cc, rdC T.data.toList = cc := ⟨_, rfl⟩
        rw [hcc] at hr ⊢
        have b3 : (cc != 0) = true := by simpa using hr
        have b4 : (cc == 0) = false := by simpa using hr
        clear hcc hr
        go_wp2_with fail
        generalize w4.alloc (.cells #[.int .i64 0, .int .i64 0, .string ⟨#[]⟩] 23 (0, 0)) = W4 at HB3 ⊢
        refine (works_calls _).mono ?_
        rintro e w6 ⟨rfl, hb⟩
        replace HB3 := Lib.hid (HB3.out.trans (hb.mono HB3.out.size))
        clear hb
        go_wp2_with fail
        go_ret
        exact ⟨rfl, HB3.out⟩
    · by_cases h9 : i = 9
      · have h89 : i = 8 ∨ i = 9 := .inr h9
        have t8 : ((i : Int) == 8) = false := by rw [h9]; rfl
        have t9 : ((i : Int) == 9) = true := by rw [h9]; rfl
        clear h8 h9
        by_cases hr : rdC T.data.toList = 0
        · obtain ⟨g1, g2⟩ := HNear.out h89 hr
          obtain ⟨n, hn⟩ : ∃ n, rdN T.data.toList = n := ⟨_, rfl⟩
          obtain ⟨z, hzz⟩ : ∃ z, rdX T.data.toList = z := ⟨_, rfl⟩
          rw [hn] at g2
          rw [hzz] at g1
          rw [← HS2.out] at g2
          have HY := Lib.hid (read_yes T hTs hr z n hzz hn)
          obtain ⟨zk, za, zb⟩ := z
          change zb.size < b.size at g1
          have hnb2 : (zb.toList == b.toList) = false := by
            rw [beq_eq_false_iff_ne, ByteArray.toList_eq, ByteArray.toList_eq]
            intro e
            have := congrArg List.length e
            rw [size_list, size_list] at this; omega
          clear hn hzz hr
          refine (HY.out _).mono ?_
          rintro e w4 ⟨rfl, hb⟩
          have hX5 := at_old w4 (.cells #[.int .i64 zk, .int .i64 za, .string zb] 23 (0, 0)) ((hb.block w.heap.size (at_lt HX3.out)).trans HX3.out)
          have hY5 := at_new w4 (.cells #[.int .i64 zk, .int .i64 za, .string zb] 23 (0, 0))
          replace HB3 := Lib.hid ((HB3.out.trans (hb.mono HB3.out.size)).alloc (HB3.out.trans (hb.mono HB3.out.size)).size (.cells #[.int .i64 zk, .int .i64 za, .string zb] 23 (0, 0)))
          clear hb
          obtain ⟨x0, x1, x2⟩ := box3 hX5
          obtain ⟨z0, z1, z2⟩ := box3 hY5
          clear hX5 hY5
          go_wp2_with fail
          generalize w4.alloc (.cells #[.int .i64 zk, .int .i64 za, .string zb] 23 (0, 0)) = W4 at HB3 ⊢
          refine (works_calls _).mono ?_
          rintro e w6 ⟨rfl, hb⟩
          replace HB3 := Lib.hid (HB3.out.trans (hb.mono HB3.out.size))
          clear hb
          go_wp2_with fail
          go_ret
          exact ⟨rfl, HB3.out⟩
        · refine (read_no T hTs hr _).mono ?_
          rintro e w4 ⟨rfl, hb⟩
          replace HB3 := Lib.hid ((HB3.out.trans (hb.mono HB3.out.size)).alloc (HB3.out.trans (hb.mono HB3.out.size)).size (.cells #[.int .i64 0, .int .i64 0, .string ⟨#[]⟩] 23 (0, 0)))
          clear hb
          obtain ⟨cc, hcc⟩ : ∃ cc, rdC T.data.toList = cc := ⟨_, rfl⟩
          rw [hcc] at hr ⊢
          have b3 : (cc != 0) = true := by simpa using hr
          have b4 : (cc == 0) = false := by simpa using hr
          clear hcc hr
          go_wp2_with fail
          generalize w4.alloc (.cells #[.int .i64 0, .int .i64 0, .string ⟨#[]⟩] 23 (0, 0)) = W4 at HB3 ⊢
          refine (works_calls _).mono ?_
          rintro e w6 ⟨rfl, hb⟩
          replace HB3 := Lib.hid (HB3.out.trans (hb.mono HB3.out.size))
          clear hb
          go_wp2_with fail
          go_ret
          exact ⟨rfl, HB3.out⟩
      · have hr := HFar.out h8 h9
        have t8 : ((i : Int) == 8) = false := by rw [beq_eq_false_iff_ne]; omega
        have t9 : ((i : Int) == 9) = false := by rw [beq_eq_false_iff_ne]; omega
        clear h8 h9
        refine (read_no T hTs hr _).mono ?_
        rintro e w4 ⟨rfl, hb⟩
        replace HB3 := Lib.hid ((HB3.out.trans (hb.mono HB3.out.size)).alloc (HB3.out.trans (hb.mono HB3.out.size)).size (.cells #[.int .i64 0, .int .i64 0, .string ⟨#[]⟩] 23 (0, 0)))
        clear hb
        obtain ⟨cc, hcc⟩ : ∃ cc, rdC T.data.toList = cc := ⟨_, rfl⟩
        rw [hcc] at hr ⊢
        have b3 : (cc != 0) = true := by simpa using hr
        have b4 : (cc == 0) = false := by simpa using hr
        clear hcc hr
        go_wp2_with fail
        generalize w4.alloc (.cells #[.int .i64 0, .int .i64 0, .string ⟨#[]⟩] 23 (0, 0)) = W4 at HB3 ⊢
        refine (works_calls _).mono ?_
        rintro e w6 ⟨rfl, hb⟩
        replace HB3 := Lib.hid (HB3.out.trans (hb.mono HB3.out.size))
        clear hb
        go_wp2_with fail
        go_ret
        exact ⟨rfl, HB3.out⟩
  · have hh : 300 < b.size ∨ (b.size ≤ 300 ∧ (c != 0) = true) ∨ (b.size ≤ 300 ∧ (c != 0) = false ∧ (y == 0) = true) := by
      by_cases q1 : b.size ≤ 300
      · by_cases q2 : c = 0
        · exact .inr (.inr ⟨q1, by simpa using q2, by rw [beq_iff_eq]; by_cases q3 : y = 0; exact q3; exact absurd ⟨q1, q2, q3⟩ hg⟩)
        · exact .inr (.inl ⟨q1, by simpa using q2⟩)
      · exact .inl (by omega)
    clear hg hS hc
    rcases hh with g1 | ⟨g1, g2⟩ | ⟨g1, g2, g3⟩
    all_goals
      go_enter Try.func6, Try.ntmps6
      go_wp2_with fail
      refine (HP.out _).mono ?_
      rintro e w1 ⟨rfl, hb⟩
      have hX := (hb.block w.heap.size (at_lt HX0.out)).trans HX0.out
      have HB3 := Lib.hid (HB0.out.trans (hb.mono HB0.out.size))
      clear hb
      obtain ⟨x0, x1, x2⟩ := box3 hX
      clear hX
      go_wp2_with fail
      refine (works_calls _).mono ?_
      rintro e w6 ⟨rfl, hb⟩
      replace HB3 := Lib.hid (HB3.out.trans (hb.mono HB3.out.size))
      clear hb
      go_wp2_with fail
      go_ret
      exact ⟨rfl, HB3.out⟩

end Go.Proofs.Ytfdpmbnjjnmdiaa.Rec

/-
Layer 8 (record): the document's Read, walked.
Layer 8 (record): the document's Scan and Same, walked.
Layer 22 (journal): the document's Load; the law's fine.
Layer 22 (journal): a journal of one's own; the law's example, walked. Written by gen_jrnworks.py.
Layer 22 (journal): a slice of acts that came in.
Layer 22 (journal): a journal of the call's own with the history of what it took; each act in one form.
Layer 8 (record): the document's Same.
Layer 22 (journal): the document's Same of any items, and Within.
Layer 11 (store): Names.
-/
import Derived.Test.YtpaeemkdjgbejaaGreatPack6
import Derived.Deep.RegionHeld3
import Derived.Test.YtpaeemkdjgbejaaGreatIter
import Derived.Sort.KeysCollected
import Derived.Maps.RangeWalk
import Derived.Maps.Ext
section
namespace Go.Proofs.YtpaeemkdjgbejaaGreat.Rec
open Go.RowKit Go.Proofs.YtpaeemkdjgbejaaGreat.Sum

theorem texts_same {p : ByteArray} {l : List UInt8} {c : Bool} (h : p.data.toList = l ↔ c = true) : (p.toList == l) = c := by
  rw [ByteArray.toList_eq, Bool.eq_iff_iff, beq_iff_eq, h]

set_option maxRecDepth 100000 in
set_option maxHeartbeats 2000000 in
theorem rread_calls (s : ByteArray) (hs : s.size ≤ 4611686018427387904) (w : World) :
    Calls Tryz.prog 50 #[.string s] w (ReadPost s w) := by
  rcases head_ways s with rfl | ⟨hz, hp, ⟨h1, e⟩ | ⟨h1, h2, e⟩ | ⟨h1, h10, hk, hx⟩⟩
  · have HE : Hid (rdC ByteArray.empty.data.toList = 13) := Lib.hid (rd_hd (by decide))
    go_enter Tryz.func50, Tryz.ntmps50
    go_wp2_with fail
    refine bodyPost_ret (v := .tuple #[.agg #[.int .i64 0, .int .i64 0, .string ⟨#[]⟩], .int .i64 0, .int .i64 13]) ?_ rfl (read_none HE.out (by decide) ((Below.refl _ _).alloc (Nat.le_refl _) _))
    simp [results, Tryz.results50, go_sem, *]
  · have HE := Lib.hid ((rd_hd (by rw [e]; decide)).trans e); clear e
    have b1 : ((s[0].toNat : Int) != 87) = true := by rw [bne, h1]; rfl
    go_enter Tryz.func50, Tryz.ntmps50
    go_wp2_with fail
    refine bodyPost_ret (v := .tuple #[.agg #[.int .i64 0, .int .i64 0, .string ⟨#[]⟩], .int .i64 0, .int .i64 3]) ?_ rfl (read_none HE.out (by decide) ((Below.refl _ _).alloc (Nat.le_refl _) _))
    simp [results, Tryz.results50, go_sem, *]
  · have HE := Lib.hid ((rd_hd (by rw [e]; decide)).trans e); clear e
    have b1 : ((s[0].toNat : Int) != 87) = false := by rw [bne, h1]; rfl
    go_enter Tryz.func50, Tryz.ntmps50
    go_wp2_with fail
    refine bodyPost_ret (v := .tuple #[.agg #[.int .i64 0, .int .i64 0, .string ⟨#[]⟩], .int .i64 0, .int .i64 13]) ?_ rfl (read_none HE.out (by decide) ((Below.refl _ _).alloc (Nat.le_refl _) _))
    simp [results, Tryz.results50, go_sem, *]
  · obtain ⟨⟨p, hp6, hpa, hpw⟩, q, hq6, hqn, hqw⟩ := parts_of s h10
    obtain ⟨c, hc⟩ : ∃ c, chk (hdI s.data.toList) = c := ⟨_, rfl⟩
    rw [hc] at hx
    unfold hdI at hc
    rw [hk, ← hpa] at hc
    have HC : Hid (chk ⟨(s[1].toNat : Int), be p.data.toList, ⟨#[]⟩⟩ = c) := Lib.hid hc
    have HN := Lib.hid hqn
    have HP := Lib.hid hpa
    have HK := Lib.hid hk
    have k1 : (1 : Int) < (s.size : Int) := by omega
    have k2 : (s[1].toNat : Int) < 256 := by have := s[1].toNat_lt; omega
    have b1 : ((s[0].toNat : Int) != 87) = false := by rw [bne, h1]; rfl
    have b2 : decide ((s.size : Int) < 10) = false := decide_eq_false (by omega)
    have kw : IntKind.i64.wrap (s[1].toNat : Int) = (s[1].toNat : Int) := IntWalk.i64_in _ (by omega)
    clear hc hqn hpa hk
    go_enter Tryz.func50, Tryz.ntmps50
    go_upto_region 7 with (fail)
    go_cut [5] (fun s5 wx => s5 = .pointer (some ⟨w.heap.size + 1, 0, none⟩) ∧ wx = ((w.alloc (.cells #[.int .i64 0, .int .i64 0, .string ⟨#[]⟩] 36)).alloc (.cells #[.int .i64 (s[1].toNat : Int), .int .i64 (be p.data.toList), .string ⟨#[]⟩] 36)).drew)
    case first =>
      go_region_held3 (fun w' => True)
        (first | trivial)
        (first
          | (go_at_call 62; refine (rnumber_calls _ hp6 _).mono ?_; rintro e w5 ⟨rfl, rfl⟩))
      all_goals (go_wp2_with fail; go_meet; exact ⟨rfl, rfl⟩)
    case rest =>
      obtain ⟨rfl, rfl⟩ := hcut
      go_wp2_with fail
      refine (rcheck_calls _ _ _ _).mono ?_
      rintro e w5 ⟨rfl, hb5⟩
      rw [HC.out]
      have hr : w5.heap[w.heap.size]? = some (.cells #[.int .i64 0, .int .i64 0, .string ⟨#[]⟩] 36 (0, 0)) := by
        rw [hb5.block w.heap.size (by simp; omega)]; show ((w.alloc _).alloc _).heap[_]? = _; exact Own.at_old _ _ (Own.at_new _ _)
      have hq : w5.heap[w.heap.size + 1]? = some (.cells #[.int .i64 (s[1].toNat : Int), .int .i64 (be p.data.toList), .string ⟨#[]⟩] 36 (0, 0)) := by
        rw [hb5.block (w.heap.size + 1) (by simp)]; show ((w.alloc _).alloc _).heap[_]? = _; exact Own.at_newk _ _ (by simp)
      have hB : Below w.heap.size w w5 := ((((Below.refl _ _).alloc (Nat.le_refl _) _).alloc (by simp) _).drew).trans (hb5.mono (by simp; omega))
      clear hb5
      obtain ⟨c0, c1, c2, f0, f1, f2⟩ := row3 hr
      obtain ⟨d0, d1, d2, g0, g1, g2⟩ := row3 hq
      have hl5 := Own.at_lt hq
      have HR := Lib.hid hr
      have HQ := Lib.hid hq
      clear hr hq
      rcases hx with ⟨hc0, e⟩ | ⟨hc0, hn, e⟩ | ⟨hc0, hn, e⟩
      · have HE := Lib.hid ((rd_hd (by rw [e]; exact hc0)).trans e); clear e
        have b3 : (c != 0) = true := by simpa using hc0
        have b4 : (c == 0) = false := by simpa using hc0
        go_wp2_with fail
        refine bodyPost_ret (v := .tuple #[.agg #[.int .i64 0, .int .i64 0, .string ⟨#[]⟩], .int .i64 0, .int .i64 c]) ?_ rfl (read_none HE.out hc0 (((hB.setCell (p := ⟨_, _, _⟩) (Nat.le_refl _) _).setCell (p := ⟨_, _, _⟩) (Nat.le_refl _) _).setCell (p := ⟨_, _, _⟩) (Nat.le_refl _) _))
        simp [results, Tryz.results50, go_sem, *]
      · have HE := Lib.hid ((rd_hd (by rw [e]; decide)).trans e); clear e
        subst hc0
        rw [← HN.out] at hn
        go_wp2_with (go_at_call 62; refine (rnumber_calls _ hq6 _).mono ?_; rintro e w' ⟨rfl, rfl⟩)
        refine bodyPost_ret (v := .tuple #[.agg #[.int .i64 0, .int .i64 0, .string ⟨#[]⟩], .int .i64 0, .int .i64 5]) ?_ rfl (read_none HE.out (by decide) (((hB.setCell (p := ⟨_, _, _⟩) (Nat.le_refl _) _).setCell (p := ⟨_, _, _⟩) (Nat.le_refl _) _).setCell (p := ⟨_, _, _⟩) (Nat.le_refl _) _))
        simp [results, Tryz.results50, go_sem, *]
      · subst hc0
        have hn0 := (ln_range s.data.toList).1
        by_cases h3 : 14 + ln s.data.toList ≤ (s.size : Int)
        · obtain ⟨⟨r, hrs, hrl, hrw⟩, b, hbl, hbw⟩ := rest_of s _ hn0 h3
          have hbI : rdI s.data.toList = ⟨(s[1].toNat : Int), be p.data.toList, b⟩ := by
            unfold rdI; rw [HK.out, HP.out, ba_of_list hbl]; rfl
          have hchk : chk ⟨(s[1].toNat : Int), be p.data.toList, b⟩ = 0 := by rw [← hbI]; exact chk_rdI e
          have hcmp : (r.toList == bytesOf ⟨(s[1].toNat : Int), be p.data.toList, b⟩) = fits r.data.toList := by
            have := put_back e h3
            rw [hbI] at this
            rw [← hrl] at this
            exact texts_same this
          have HPut := Lib.hid (putV_ok hchk)
          have HChk := Lib.hid hchk
          clear hchk hbI
          obtain ⟨f, hf⟩ : ∃ f, fits r.data.toList = f := ⟨_, rfl⟩
          rw [hf] at hcmp
          have HF := Lib.hid (show rdC s.data.toList = if f = true then 0 else 4 by
            cases f
            · rw [if_neg (by simp)]; exact rd_sum e h3 (by rw [← hrl]; exact hf)
            · rw [if_pos rfl]; exact rd_ok e h3 (by rw [← hrl]; exact hf))
          have HL : Hid (b = ⟨(bodyL s.data.toList).toArray⟩) := Lib.hid (ba_of_list hbl)
          clear e hrl hbl hf
          rw [← HN.out] at hn h3 hn0 hrw hbw
          have hcmp2 : (r.toList != bytesOf ⟨(s[1].toNat : Int), be p.data.toList, b⟩) = !f := by rw [bne, hcmp]
          cases f
          · have HE : Hid (rdC s.data.toList = 4) := Lib.hid (by rw [HF.out]; rfl)
            go_wp2_with (go_at_call 62; refine (rnumber_calls _ hq6 _).mono ?_; rintro e w' ⟨rfl, rfl⟩)
            refine (rput_calls _ _ _ _).mono ?_
            rintro e w6 ⟨rfl, hb6⟩
            rw [HPut.out]
            have hr6 : w6.heap[w.heap.size]? = some (.cells #[.int .i64 0, .int .i64 0, .string ⟨#[]⟩] 36 (0, 0)) := by
              rw [hb6.block w.heap.size (by simp [World.setCell]; omega)]; exact (Own.at_set_other _ (by omega) _ _).trans HR.out
            have hq6 : w6.heap[w.heap.size + 1]? = some (.cells #[.int .i64 (s[1].toNat : Int), .int .i64 (be p.data.toList), .string b] 36 (0, 0)) := by
              rw [hb6.block (w.heap.size + 1) (by simp [World.setCell]; omega), Own.at_set HQ.out]; rfl
            replace hB : Below w.heap.size w w6 := (hB.setCell (p := ⟨w.heap.size + 1, 2, none⟩) (Nat.le_succ _) (.string b)).trans (hb6.mono (by simp [World.setCell]; omega))
            clear hb6 c0 c1 c2 f0 f1 f2 d0 d1 d2 g0 g1 g2
            obtain ⟨c0, c1, c2, f0, f1, f2⟩ := row3 hr6
            obtain ⟨d0, d1, d2, g0, g1, g2⟩ := row3 hq6
            clear hr6 hq6
            go_wp2_with fail
            refine bodyPost_ret (v := .tuple #[.agg #[.int .i64 0, .int .i64 0, .string ⟨#[]⟩], .int .i64 0, .int .i64 4]) ?_ rfl (read_none HE.out (by decide) (((hB.setCell (p := ⟨_, _, _⟩) (Nat.le_refl _) _).setCell (p := ⟨_, _, _⟩) (Nat.le_refl _) _).setCell (p := ⟨_, _, _⟩) (Nat.le_refl _) _))
            simp [results, Tryz.results50, go_sem, *]
          · have HE : Hid (rdC s.data.toList = 0) := Lib.hid (by rw [HF.out]; rfl)
            go_wp2_with (go_at_call 62; refine (rnumber_calls _ hq6 _).mono ?_; rintro e w' ⟨rfl, rfl⟩)
            refine (rput_calls _ _ _ _).mono ?_
            rintro e w6 ⟨rfl, hb6⟩
            rw [HPut.out]
            have hr6 : w6.heap[w.heap.size]? = some (.cells #[.int .i64 0, .int .i64 0, .string ⟨#[]⟩] 36 (0, 0)) := by
              rw [hb6.block w.heap.size (by simp [World.setCell]; omega)]; exact (Own.at_set_other _ (by omega) _ _).trans HR.out
            have hq6 : w6.heap[w.heap.size + 1]? = some (.cells #[.int .i64 (s[1].toNat : Int), .int .i64 (be p.data.toList), .string b] 36 (0, 0)) := by
              rw [hb6.block (w.heap.size + 1) (by simp [World.setCell]; omega), Own.at_set HQ.out]; rfl
            replace hB : Below w.heap.size w w6 := (hB.setCell (p := ⟨w.heap.size + 1, 2, none⟩) (Nat.le_succ _) (.string b)).trans (hb6.mono (by simp [World.setCell]; omega))
            clear hb6 c0 c1 c2 f0 f1 f2 d0 d1 d2 g0 g1 g2
            obtain ⟨c0, c1, c2, f0, f1, f2⟩ := row3 hr6
            obtain ⟨d0, d1, d2, g0, g1, g2⟩ := row3 hq6
            clear hr6 hq6
            go_wp2_with fail
            refine bodyPost_ret (v := .tuple #[.agg #[.int .i64 (kd s.data.toList), .int .i64 (Rec.at_ s.data.toList), .string b], .int .i64 (14 + ln s.data.toList), .int .i64 0]) ?_ rfl (read_some HE.out HL.out (((hB.setCell (p := ⟨_, _, _⟩) (Nat.le_refl _) _).setCell (p := ⟨_, _, _⟩) (Nat.le_refl _) _).setCell (p := ⟨_, _, _⟩) (Nat.le_refl _) _))
            rw [HK.out, ← HP.out, ← HN.out]
            simp [results, Tryz.results50, go_sem, *]
        · have HE := Lib.hid (rd_cut e (show (s.data.toList.length : Int) < _ by rw [size_list]; omega)); clear e
          have h4 : (s.size : Int) < 14 + ln s.data.toList := by omega
          clear h3
          rw [← HN.out] at hn h4 hn0
          go_wp2_with (go_at_call 62; refine (rnumber_calls _ hq6 _).mono ?_; rintro e w' ⟨rfl, rfl⟩)
          refine bodyPost_ret (v := .tuple #[.agg #[.int .i64 0, .int .i64 0, .string ⟨#[]⟩], .int .i64 0, .int .i64 13]) ?_ rfl (read_none HE.out (by decide) (((hB.setCell (p := ⟨_, _, _⟩) (Nat.le_refl _) _).setCell (p := ⟨_, _, _⟩) (Nat.le_refl _) _).setCell (p := ⟨_, _, _⟩) (Nat.le_refl _) _))
          simp [results, Tryz.results50, go_sem, *]

end Go.Proofs.YtpaeemkdjgbejaaGreat.Rec
end

section
namespace Go.Proofs.YtpaeemkdjgbejaaGreat.Rec
open Go.RowKit Go.Proofs.YtpaeemkdjgbejaaGreat.Sum Go.Proofs.YtpaeemkdjgbejaaGreat.Own

theorem rread_no (s : ByteArray) (hs : s.size ≤ 4611686018427387904) (h : rdC s.data.toList ≠ 0) (w : World) :
    Calls Tryz.prog 50 #[.string s] w fun e w' => e = .returned (.tuple #[.agg #[.int .i64 0, .int .i64 0, .string ⟨#[]⟩], .int .i64 0, .int .i64 (rdC s.data.toList)]) ∧ Below w.heap.size w w' :=
  (rread_calls s hs w).mono fun e w' hp => by
    obtain ⟨rfl, hb⟩ := hp
    obtain ⟨e1, e2⟩ := rd_none h
    rw [e1, e2]; exact ⟨rfl, hb⟩
theorem rread_yes (s : ByteArray) (hs : s.size ≤ 4611686018427387904) (h : rdC s.data.toList = 0) (x : Itm) (n : Int) (hx : rdX s.data.toList = x) (hn : rdN s.data.toList = n) (w : World) :
    Calls Tryz.prog 50 #[.string s] w fun e w' => e = .returned (.tuple #[.agg #[.int .i64 x.k, .int .i64 x.a, .string x.b], .int .i64 n, .int .i64 0]) ∧ Below w.heap.size w w' :=
  (rread_calls s hs w).mono fun e w' hp => by
    obtain ⟨rfl, hb⟩ := hp
    rw [hx, hn, h]; exact ⟨rfl, hb⟩

set_option maxRecDepth 100000 in
set_option maxHeartbeats 1000000 in
theorem rscan_calls (s : ByteArray) (hs : s.size ≤ 1099511627776) (w : World) :
    Calls Tryz.prog 33 #[.string s] w (ScanPost s w) := by
  obtain ⟨i0, hi, hz0, hz1, hz2⟩ := info_parts info_item
  go_enter Tryz.func33, Tryz.ntmps33
  go_wp2_with fail
  go_loopw [4, 5] (fun v a wr => ∃ (L : List Itm) (k : Nat), a = .int .i64 k ∧ ScanAt s w wr L k v) (fun _ a _ => s.size - (intOf a).toNat)
  case atStart => exact ⟨[], 0, rfl, World.ownsRow_nil _ _ _ _, Below.refl _ _, by simp, by omega, by simp⟩
  case round =>
    obtain ⟨L, k, rfl, C⟩ := hrel
    have hle := C.le
    have hlen := C.len
    have hown := C.own
    have hsz := C.below.size
    obtain ⟨p, hps, hpl, hpw⟩ := from_of s k hle
    have k0 : (k : Int) ≤ 1099511627776 := by omega
    rcases Nat.lt_or_eq_of_le hle with hlt | heq
    · have q1 : (k : Int) < (s.size : Int) := by omega
      by_cases hr : rdC (s.data.toList.drop k) = 0
      · obtain ⟨_, hn⟩ := rd_some hr
        have hn0 := ln_range (s.data.toList.drop k)
        obtain ⟨n, hnn⟩ : ∃ n, rdN (s.data.toList.drop k) = n := ⟨_, rfl⟩
        obtain ⟨x, hxx⟩ : ∃ x, rdX (s.data.toList.drop k) = x := ⟨_, rfl⟩
        have HY := Lib.hid (rread_yes p (by omega) (by rw [hpl]; exact hr) x n (by rw [hpl]; exact hxx) (by rw [hpl]; exact hnn))
        have hl := (rd_inv hr).2.1
        rw [List.length_drop, size_list] at hl
        have n0 : 0 ≤ n := by omega
        have n3 : n + k ≤ (s.size : Int) := by omega
        have n1 : n + k ≤ 1099511627776 := by omega
        have n2 : 14 ≤ n := by omega
        have HC := Lib.hid C
        have HR := Lib.hid hr
        have HN := Lib.hid hnn
        have HX := Lib.hid hxx
        have HO := Lib.hid hown
        clear C hr hnn hxx hown hl hn hn0 hpl
        go_wp2_with fail
        refine (HY.out _).mono ?_
        rintro e w5 ⟨rfl, hb5⟩
        have HB5 := Lib.hid hb5
        have h5 := hb5.size
        have ho5 := Own.own_below HO.out hb5
        clear hb5
        go_wp2_with (at_builtin; refine Own.append_any rfl (.tmp 25) (.tmp 27) 34 rfl w.heap.size 36 i0 _ 3 32 Tryz.underlying34 hi hz0 hz1 hz2 rfl (by decide) _ _ _ rfl (World.ownsRow.alloc (World.ownsRow.alloc ho5 _) _) _ 1 1 [.int .i64 x.k, .int .i64 x.a, .string x.b] rfl (fun h => nomatch h) rfl (Own.three_new _ _ _ _ _ _ (by simp)) (by simp [Value.oneCell']) (by unfold maxLen; omega) (by omega) (by simp; omega) ?_; intro v' w1 hown1 hgrow1)
        have C1 := HC.out.step HR.out ((HB5.out.alloc h5 _).alloc (by simp; omega) _) (by rw [HX.out]; exact hown1) hgrow1
        rw [HX.out, HN.out] at C1
        have HC1 := Lib.hid C1
        clear C1 hown1 hgrow1 ho5
        go_wp2_with fail
        go_roundw
        case rel => exact ⟨_, _, by rw [show (k : Int) + n = ((k + n.toNat : Nat) : Int) by omega], HC1.out⟩
        case measure => simp [intOf]; omega
      · have HY := Lib.hid (rread_no p (by omega) (by rw [hpl]; exact hr))
        rw [hpl] at HY
        have HC := Lib.hid C
        have HR := Lib.hid hr
        obtain ⟨c, hc⟩ : ∃ c, rdC (s.data.toList.drop k) = c := ⟨_, rfl⟩
        rw [hc] at HY hr
        have b3 : (c == 0) = false := by simpa using hr
        have b4 : (c != 0) = true := by simpa using hr
        clear C hc hown hpl hr
        go_wp2_with fail
        refine (HY.out _).mono ?_
        rintro e w5 ⟨rfl, hb5⟩
        have HB5 := Lib.hid hb5
        clear hb5
        go_wp2_with fail
        go_ret2
        exact HC.out.end_ HR.out (HB5.out.alloc HB5.out.size _)
    · have HC := Lib.hid C
      have HR : Hid (rdC (s.data.toList.drop k) ≠ 0) := Lib.hid (by rw [heq, List.drop_of_length_le (by rw [size_list]; exact Nat.le_refl _)]; decide)
      have q1 : (s.size : Int) ≤ (k : Int) := by omega
      clear C heq hown hpl
      go_wp2_with fail
      go_ret2
      exact HC.out.end_ HR.out (Below.refl _ _)

end Go.Proofs.YtpaeemkdjgbejaaGreat.Rec
end

section
namespace Go.Proofs.YtpaeemkdjgbejaaGreat.Jrn
open Go.RowKit Go.Proofs.YtpaeemkdjgbejaaGreat.Own Go.Proofs.YtpaeemkdjgbejaaGreat.Sto Go.Proofs.YtpaeemkdjgbejaaGreat.Gen Go.Proofs.YtpaeemkdjgbejaaGreat.Flt
open Go.Proofs.YtpaeemkdjgbejaaGreat.Rec (Itm chk bytesOf flat cv cv_len cv_app)
open Go.Proofs.YtpaeemkdjgbejaaGreat.Rw (str strs Row1 Texts)
open Go.Proofs.YtpaeemkdjgbejaaGreat.Tree (own_slice own_lt)

/-! ### Load -/
theorem load_snoc (L : List Bs) (s : Bs) : load (L ++ [s]) = load L ++ (Rec.scan s).1 := by simp [load]
def LdPost (L : List Bs) (w : World) (e : Ending) (w' : World) : Prop :=
  ∃ v, e = .returned v ∧ w'.ownsRow w.heap.size 36 3 v (load L).length (cv (load L)) ∧ Below w.heap.size w w'
structure LdAt (w wr : World) (v : Value) (D : List Itm) : Prop where
  own : wr.ownsRow w.heap.size 36 3 v D.length (cv D)
  below : Below w.heap.size w wr
theorem LdAt.step {w wr w5 w1 : World} {v v' : Value} {D N : List Itm} {m : Nat} (hm : m = N.length) (h : LdAt w wr v D) (hb : Below wr.heap.size wr w5)
    (ho : w1.ownsRow w.heap.size 36 3 v' (D.length + m) (cv D ++ cv N)) (hg : w5.grownBy w1 v.ownBlock) : LdAt w w1 v' (D ++ N) := by
  subst hm
  have hs := h.below.size
  have hs5 := hb.size
  refine ⟨?_, (h.below.trans (hb.mono hs)).grown hg (by omega) (fun k hk => (World.ownsRow.lt h.own k hk).1)⟩
  rw [List.length_append, cv_app]; exact ho
/-- the new items, wherever they lie -/
theorem news_of {w : World} {B n : Nat} {v : Value} {N : List Itm} (h : w.ownsRow B 36 3 v n (cv N)) : ∃ ao c, v = .slice ao n c ∧ (ao = none → n = 0 ∧ c = 0) ∧ ∀ ad, ao = some ad → ∀ j u, (cv N)[j]? = some u → w.cell? (ad.add j) = some u := by
  have hc := @World.ownsRow.cells _ _ _ _ _ _ _ h
  rcases h.2 with ⟨rfl, h0⟩ | ⟨g, cap, cur, rfl, _, hh, h3, h4, _⟩
  · exact ⟨none, 0, by rw [show n = 0 from h0], fun _ => ⟨h0, rfl⟩, fun _ e => by cases e⟩
  · exact ⟨_, _, rfl, (fun e => nomatch e), fun ad e j u hj => by cases e; exact hc (g := g) rfl _ _ hj⟩

set_option maxRecDepth 100000 in
set_option maxHeartbeats 4000000 in
theorem load_calls (p : Option Addr) (c n : Nat) (L : List Bs) (w : World) (h : Texts w p c L) (hn : n = L.length) (hs : ∀ s ∈ L, s.length ≤ 16777216) (hm : (load L).length ≤ 1000000) :
    Calls Tryz.prog 15 #[.slice p n c] w (LdPost L w) := by
  obtain ⟨i0, hi, hz0, hz1, hz2⟩ := info_parts Rec.info_item
  have hcap := h.cap
  rw [← hn] at hcap
  obtain ⟨hc1, hc2⟩ := hcap
  unfold maxLen at hc2
  have HT := Lib.hid h
  have HN := Lib.hid hn
  have HS := Lib.hid hs
  have HM := Lib.hid hm
  clear h hn hs hm
  go_enter Tryz.func15, Tryz.ntmps15
  go_wp2_with fail
  go_loopw [3, 4] (fun v i wr => ∃ k : Nat, k ≤ n ∧ i = .int .i64 k ∧ LdAt w wr v (load (L.take k))) (fun _ i _ => n - (intOf i).toNat)
  case atStart => exact ⟨0, Nat.zero_le _, rfl, World.ownsRow_nil _ _ _ _, Below.refl _ _⟩
  case round =>
    obtain ⟨k, hk, rfl, C⟩ := hrel
    rename World => wr
    have HC := Lib.hid C
    clear C
    rcases Nat.lt_or_eq_of_le hk with hlt | rfl
    · have q1 : (k : Int) < (n : Int) := by omega
      have hlt2 : k < L.length := by rw [← HN.out]; exact hlt
      have HTx := HT.out.below HC.out.below
      rcases HTx.cells with h0 | ⟨g, o, rfl, hg, hcell⟩
      · rw [h0] at hlt2; simp at hlt2
      have c0 := hcell k hlt2
      rw [str] at c0
      have HX := Lib.hid (show L.take (k + 1) = L.take k ++ [L[k]] from List.take_succ_eq_append_getElem hlt2)
      have hsz := HS.out _ (List.getElem_mem hlt2)
      have HQ := Lib.hid (show (load (L.take (k + 1))).length ≤ 1000000 from by
        have e : load L = load (L.take (k + 1)) ++ load (L.drop (k + 1)) := by rw [load, load, load, ← List.flatMap_append, List.take_append_drop]
        have := HM.out
        rw [e, List.length_append] at this
        omega)
      generalize L[k] = s at *
      rw [HX.out, load_snoc, List.length_append] at HQ
      have hq := HQ.out
      have HSC := Lib.hid fun W => Rec.rscan_calls ⟨s.toArray⟩ (by rw [size_b]; omega) W
      clear HTx hcell hsz HQ
      go_wp2_with fail
      refine (HSC.out _).mono ?_
      rintro e w5 ⟨v5, rfl, ho5, hb5⟩
      rw [show (⟨s.toArray⟩ : ByteArray).data.toList = s from rfl] at ho5 ⊢
      obtain ⟨m, hm⟩ : ∃ m, (Rec.scan s).1.length = m := ⟨_, rfl⟩
      obtain ⟨D, hD⟩ : ∃ D, load (L.take k) = D := ⟨_, rfl⟩
      obtain ⟨N, hN⟩ : ∃ N, (Rec.scan s).1 = N := ⟨_, rfl⟩
      rw [hm] at ho5 hq
      rw [hN] at ho5 hm
      rw [hD] at HC hq
      have HXX := Lib.hid (show load (L.take (k + 1)) = D ++ N from by rw [HX.out, load_snoc, hD, hN])
      generalize (Rec.scan s).2 = z5
      have HB5 := Lib.hid hb5
      have hown := Own.own_below HC.out.own hb5
      have hw5 := HC.out.below.size
      have hw6 := hb5.size
      obtain ⟨ao, ac, rfl, hnone, hnews⟩ := news_of ho5
      have HM2 := Lib.hid hm.symm
      have hlen : (cv N).length = m * 3 := by rw [cv_len, hm]
      have h1 := Rec.cv_one N
      clear hb5 hD hN ho5 HX hm HSC c0
      go_wp2_with (at_builtin; refine Own.append_any rfl (.tmp 21) (.tmp 22) 34 rfl w.heap.size 36 i0 _ 3 32 Tryz.underlying34 hi hz0 hz1 hz2 rfl (by decide) _ _ _ rfl hown _ m _ (cv N) rfl hnone hlen hnews h1 (by unfold maxLen; omega) (by omega) (by omega) ?_; intro v' w1 hown1 hgrow1)
      have C1 := Lib.hid (HC.out.step HM2.out HB5.out hown1 hgrow1)
      clear hown1 hgrow1 hown hnews hnone
      rw [← HXX.out] at C1
      go_wp2_with fail
      go_roundw
      case rel => exact ⟨k + 1, by omega, by go_num, C1.out⟩
      case measure => simp [intOf]; omega
    · have HE : Hid (L.take k = L) := Lib.hid (List.take_of_length_le (by rw [← HN.out]; exact Nat.le_refl _))
      have HP : Hid (LdAt w wr _ (load L)) := Lib.hid (by rw [← HE.out]; exact HC.out)
      go_wp2_with fail
      go_ret
      exact ⟨_, rfl, HP.out.own, HP.out.below⟩

/-! ### fine -/
/-- the greater, the smaller of two -/
def hiI (x y : Int) : Int := if x < y then y else x
def loI (x y : Int) : Int := if y < x then y else x
def fineI (k a : Int) (b : ByteArray) : Itm := ⟨1 + hiI 0 (k.tmod 2), hiI 0 (loI a 1099511627776), b.extract 0 (loI (b.size : Int) 60).toNat⟩
theorem fine_ok (k a : Int) (b : ByteArray) : chk (fineI k a b) = 0 ∧ ((fineI k a b).k = 1 ∨ (fineI k a b).k = 2) := by
  have h1 : (fineI k a b).k = 1 ∨ (fineI k a b).k = 2 := by
    have h : k.tmod 2 = -1 ∨ k.tmod 2 = 0 ∨ k.tmod 2 = 1 := by
      rcases Int.lt_or_le k 0 with h | h
      · rw [show k = -(-k) by omega, Int.neg_tmod, Int.tmod_eq_emod_of_nonneg (by omega)]; omega
      · rw [Int.tmod_eq_emod_of_nonneg h]; omega
    unfold fineI hiI
    simp only
    split <;> omega
  refine ⟨Rec.chk_ok.2 ?_, h1⟩
  have h2 : (fineI k a b).b.size ≤ 60 := by unfold fineI loI; simp only [ByteArray.size_extract]; split <;> omega
  have h3 : 0 ≤ (fineI k a b).a ∧ (fineI k a b).a ≤ 1099511627776 := by unfold fineI hiI loI; simp only; (repeat' split) <;> omega
  omega
def set3 (W : World) (X : Nat) (x y z : Value) : World := ((W.drew.setCell ⟨X, 0, none⟩ x).setCell ⟨X, 1, none⟩ y).setCell ⟨X, 2, none⟩ z
theorem set3_out (W : World) (X : Nat) (x y z : Value) : Out (fun k => k = X) W (set3 W X x y z) :=
  ((((Out.refl (fun k => k = X) W).drew).setCell (p := ⟨X, 0, none⟩) (fun _ => rfl) _).setCell (p := ⟨X, 1, none⟩) (fun _ => rfl) _).setCell (p := ⟨X, 2, none⟩) (fun _ => rfl) _
theorem set3_at {W : World} {X : Nat} {x0 y0 z0 x y z : Value} {T : TypeId} (h : W.heap[X]? = some (.cells #[x0, y0, z0] T (0, 0))) : (set3 W X x y z).heap[X]? = some (.cells #[x, y, z] T (0, 0)) := by
  have e1 := at_set (w := W.drew) h 0 x
  have e2 := at_set e1 1 y
  have e3 := at_set e2 2 z
  unfold set3
  simpa using e3
set_option maxRecDepth 100000 in
set_option maxHeartbeats 4000000 in
theorem fine_calls (k a : Int) (b : ByteArray) (hb : b.size ≤ maxLen) (w : World) :
    Calls Tryz.prog 7 #[.agg #[.int .i64 k, .int .i64 a, .string b]] w fun e w' => e = .returned (.agg #[.int .i64 (fineI k a b).k, .int .i64 (fineI k a b).a, .string (fineI k a b).b]) ∧ Below w.heap.size w w' := by
  unfold maxLen at hb
  have HX := Lib.hid (at_new w (.cells #[.int .i64 k, .int .i64 a, .string b] 36 (0, 0)))
  go_enter Tryz.func7, Tryz.ntmps7
  go_wp2_with fail
  have HB := Lib.hid (((Below.refl w.heap.size w).alloc (Nat.le_refl _) (.cells #[.int .i64 k, .int .i64 a, .string b] 36 (0, 0))).alloc (by simp) (.cells #[.int .i64 0, .int .i64 0, .string ⟨#[]⟩] 36 (0, 0)))
  have HZ : Hid (((w.alloc (.cells #[.int .i64 k, .int .i64 a, .string b] 36 (0, 0))).alloc (.cells #[.int .i64 0, .int .i64 0, .string ⟨#[]⟩] 36 (0, 0))).heap[w.heap.size + 1]? = some (.cells #[.int .i64 0, .int .i64 0, .string ⟨#[]⟩] 36 (0, 0))) := Lib.hid (by have := at_new (w.alloc (.cells #[.int .i64 k, .int .i64 a, .string b] 36 (0, 0))) (.cells #[.int .i64 0, .int .i64 0, .string ⟨#[]⟩] 36 (0, 0)); simpa using this)
  have HX2 := Lib.hid (at_old _ (.cells #[.int .i64 0, .int .i64 0, .string ⟨#[]⟩] 36 (0, 0)) HX.out)
  generalize (w.alloc (.cells #[.int .i64 k, .int .i64 a, .string b] 36 (0, 0))).alloc (.cells #[.int .i64 0, .int .i64 0, .string ⟨#[]⟩] 36 (0, 0)) = W at *
  obtain ⟨g1, hg1⟩ : ∃ g1, w.heap.size = g1 := ⟨_, rfl⟩
  rw [hg1] at HX HB HZ HX2 ⊢
  have HG := Lib.hid hg1
  obtain ⟨x0, x1, x2⟩ := Rec.box3 HX2.out
  have z0 := at_cell HZ.out 0
  have z1 := at_cell HZ.out 1
  have z2 := at_cell HZ.out 2
  have f0 := at_frozen HZ.out 0
  have f1 := at_frozen HZ.out 1
  have f2 := at_frozen HZ.out 2
  have lt := at_lt HZ.out
  have hcut : ∀ W, (Instr.sliceAt 9 (.string b) none (some (.int .i64 (if 60 < (b.size : Int) then 60 else (b.size : Int)))) none).run Tryz.prog W = .ok (.string (fineI k a b).b) W := fun W => Sum.cut_to 9 Tryz.underlying9 b (loI (b.size : Int) 60) (by unfold loI; split <;> omega) (by unfold loI; split <;> omega) W
  have hk : IntKind.i64.wrap (1 + if 0 < k.tmod 2 then k.tmod 2 else 0) = (fineI k a b).k := by
    have h1 := (fine_ok k a b).2
    show IntKind.i64.wrap (fineI k a b).k = _
    exact IntWalk.i64_in _ (by omega)
  have ha : (if 0 < (if 1099511627776 < a then 1099511627776 else a) then (if 1099511627776 < a then 1099511627776 else a) else 0) = (fineI k a b).a := rfl
  have hcut2 : ∀ W, (Instr.sliceAt 9 (.string b) none (some (.int .i64 (min (b.size : Int) 60))) none).run Tryz.prog W = .ok (.string (fineI k a b).b) W := fun W => by
    have := hcut W
    rwa [show (if 60 < (b.size : Int) then (60 : Int) else (b.size : Int)) = min (b.size : Int) 60 by split <;> omega] at this
  have hk2 : IntKind.i64.wrap (1 + max 0 (k.tmod 2)) = (fineI k a b).k := by
    rw [← hk, show max 0 (k.tmod 2) = (if 0 < k.tmod 2 then k.tmod 2 else 0) by split <;> omega]
  have ha2 : max 0 (min a 1099511627776) = (fineI k a b).a := by
    show _ = hiI 0 (loI a 1099511627776)
    unfold hiI loI
    (repeat' split) <;> omega
  obtain ⟨fi, hfi⟩ : ∃ fi, fineI k a b = fi := ⟨_, rfl⟩
  rw [hfi] at hk ha hcut hcut2 hk2 ha2
  have HFI := Lib.hid hfi
  have HROW := Lib.hid (set3_at (x := .int .i64 fi.k) (y := .int .i64 fi.a) (z := .string fi.b) HZ.out)
  have HOUT := Lib.hid (set3_out W (g1 + 1) (.int .i64 fi.k) (.int .i64 fi.a) (.string fi.b))
  have HGL := Lib.hid (show g1 ≤ W.heap.size from by have := HB.out.size; omega)
  clear hfi hg1
  go_still_tail 17, (by kernel_rfl)
  try rw [ha]
  try rw [ha2]
  change wpList _ _ _ _ _ W.drew
  go_wp2_with fail
  all_goals
    refine bodyPost_ret (results_cell_row rfl _ _ (g1 + 1) _ #[.int .i64 fi.k, .int .i64 fi.a, .string fi.b] _ _ rfl HROW.out Tryz.underlying36 rfl (by kernel_rfl)) rfl ?_
    refine ⟨by rw [HFI.out], ?_⟩
    rw [HG.out]
    exact HB.out.trans (HOUT.out.below HGL.out (fun i hi => by omega))
end Go.Proofs.YtpaeemkdjgbejaaGreat.Jrn
end

section
namespace Go.Proofs.YtpaeemkdjgbejaaGreat.Jrn
open Go.RowKit Go.Proofs.YtpaeemkdjgbejaaGreat.Own Go.Proofs.YtpaeemkdjgbejaaGreat.Sto Go.Proofs.YtpaeemkdjgbejaaGreat.Gen Go.Proofs.YtpaeemkdjgbejaaGreat.Flt
open Go.Proofs.YtpaeemkdjgbejaaGreat.Rec (Itm chk bytesOf flat cv cv_len cv_app)

/-- a journal and a store of the call's own -/
structure Wj (w0 w : World) (bs : Nat → Prop) (j b : Nat) (t : St) (base : Bs) (n size : Int) (r : Bool) (l : Int) : Prop where
  below : Below w0.heap.size w0 w
  jat : Jat w bs j b t base n size r l
  mine : ∀ k, bs k → w0.heap.size ≤ k
  jm : w0.heap.size ≤ j
section
variable {w0 w w' : World} {bs bs' : Nat → Prop} {j b : Nat} {t t' : St} {base : Bs} {n size : Int} {r r' q : Bool} {l l' : Int} {e : Ending}
theorem Wj.same (h : Wj w0 w bs j b t base n size r l) (hb : Below w.heap.size w w') : Wj w0 w' bs j b t base n size r l :=
  ⟨h.below.trans (hb.mono h.below.size), h.jat.below hb, h.mine, h.jm⟩
theorem Wj.post (h : Wj w0 w bs j b t base n size r l) (hp : JPost w bs j b base n size t' r' l' q e w') : e = .returned (.bool q) ∧ ∃ bs', Wj w0 w' bs' j b t' base n size r' l' := by
  obtain ⟨he, bs', h1, h2, h3⟩ := hp
  have hs := h.below.size
  refine ⟨he, bs', h.below.trans (h2.below hs fun i hi => ?_), h1, fun k hk => ?_, h.jm⟩
  · rcases hi with hi | rfl
    · exact h.mine i hi
    · exact h.jm
  · rcases h3 k hk with h4 | h4
    · exact h.mine k h4
    · omega
theorem Wj.go (h : Wj w0 w bs j b t base n size r l) (hs : Sto w' bs' b t') (ho : Out bs w w') (hn : ∀ k, bs' k → bs k ∨ w.heap.size ≤ k) : Wj w0 w' bs' j b t' base n size r l := by
  have hsz := h.below.size
  refine ⟨h.below.trans (ho.below hsz fun i hi => h.mine i hi), h.jat.pt (bs1 := bs') (t1 := t') ⟨hs, ho, hn⟩, fun k hk => ?_, h.jm⟩
  rcases hn k hk with h4 | h4
  · exact h.mine k h4
  · omega
theorem Wj.new (h1 : Below w0.heap.size w0 w) (h2 : Sto w bs b t) (h3 : ∀ k, bs k → w0.heap.size ≤ k) (h4 : Jb w' w.heap.size b base n size r l) (h5 : Below w.heap.size w w') : Wj w0 w' bs w.heap.size b t base n size r l :=
  ⟨h1.trans (h5.mono h1.size), ⟨h2.below h5, h4, fun h => by have := h2.all _ h; omega⟩, h3, h1.size⟩
end

theorem nm_1 : nm lg 1 = [108, 111, 103, 46, 49] := by rw [nm_more _ (by decide), Digit.dec_lt (by omega) (by omega)]; rfl
theorem ser_2 : ser lg (held 2) = [[108, 111, 103, 46, 49], [108, 111, 103]] := by
  show [nm lg 1, nm lg 0] = _
  rw [nm_1, nm_zero lg (by omega)]; rfl
theorem b_ten : bytesOf ⟨1, 0, ⟨#[48, 49, 50, 51, 52, 53, 54, 55, 56, 57]⟩⟩ = [87, 1, 0, 0, 0, 0, 0, 0, 0, 10, 48, 49, 50, 51, 52, 53, 54, 55, 56, 57, 51, 247, 58, 247] := by decide +kernel
theorem b_x : bytesOf ⟨1, 0, ⟨#[120]⟩⟩ = [87, 1, 0, 0, 0, 0, 0, 0, 0, 1, 120, 44, 46, 34, 88] := by decide +kernel
theorem b_gap : bytesOf ⟨3, 9, ⟨#[50]⟩⟩ = [87, 3, 0, 0, 0, 0, 0, 9, 0, 1, 50, 110, 227, 81, 95] := by decide +kernel
theorem dec_2 : Digit.dec 2 = [50] := by rw [Digit.dec_lt (by omega) (by omega)]; rfl
theorem eq_p1 : putT ⟨[], 1000, 0⟩ [108, 111, 103] (held 2) 64 [87, 1, 0, 0, 0, 0, 0, 0, 0, 10, 48, 49, 50, 51, 52, 53, 54, 55, 56, 57, 51, 247, 58, 247] = ⟨[⟨[108, 111, 103], [87, 1, 0, 0, 0, 0, 0, 0, 0, 10, 48, 49, 50, 51, 52, 53, 54, 55, 56, 57, 51, 247, 58, 247], 0⟩], 1000, 0⟩ ∧ putC ⟨[], 1000, 0⟩ [108, 111, 103] (held 2) 64 [87, 1, 0, 0, 0, 0, 0, 0, 0, 10, 48, 49, 50, 51, 52, 53, 54, 55, 56, 57, 51, 247, 58, 247] = 0 := by
  unfold putT putC
  rw [show ser [108, 111, 103] (held 2) = _ from ser_2]
  constructor <;> rfl
theorem eq_p2 : putT ⟨[⟨[108, 111, 103], [87, 1, 0, 0, 0, 0, 0, 0, 0, 10, 48, 49, 50, 51, 52, 53, 54, 55, 56, 57, 51, 247, 58, 247], 0⟩], 1000, 0⟩ [108, 111, 103] (held 2) 64 [87, 1, 0, 0, 0, 0, 0, 0, 0, 10, 48, 49, 50, 51, 52, 53, 54, 55, 56, 57, 51, 247, 58, 247] = ⟨[⟨[108, 111, 103], [87, 1, 0, 0, 0, 0, 0, 0, 0, 10, 48, 49, 50, 51, 52, 53, 54, 55, 56, 57, 51, 247, 58, 247, 87, 1, 0, 0, 0, 0, 0, 0, 0, 10, 48, 49, 50, 51, 52, 53, 54, 55, 56, 57, 51, 247, 58, 247], 0⟩], 1000, 0⟩ ∧ putC ⟨[⟨[108, 111, 103], [87, 1, 0, 0, 0, 0, 0, 0, 0, 10, 48, 49, 50, 51, 52, 53, 54, 55, 56, 57, 51, 247, 58, 247], 0⟩], 1000, 0⟩ [108, 111, 103] (held 2) 64 [87, 1, 0, 0, 0, 0, 0, 0, 0, 10, 48, 49, 50, 51, 52, 53, 54, 55, 56, 57, 51, 247, 58, 247] = 0 := by
  unfold putT putC
  rw [show ser [108, 111, 103] (held 2) = _ from ser_2]
  constructor <;> rfl
theorem eq_p3 : putT ⟨[⟨[108, 111, 103], [87, 1, 0, 0, 0, 0, 0, 0, 0, 10, 48, 49, 50, 51, 52, 53, 54, 55, 56, 57, 51, 247, 58, 247, 87, 1, 0, 0, 0, 0, 0, 0, 0, 10, 48, 49, 50, 51, 52, 53, 54, 55, 56, 57, 51, 247, 58, 247], 0⟩], 1000, 0⟩ [108, 111, 103] (held 2) 64 [87, 1, 0, 0, 0, 0, 0, 0, 0, 10, 48, 49, 50, 51, 52, 53, 54, 55, 56, 57, 51, 247, 58, 247] = ⟨[⟨[108, 111, 103], [87, 1, 0, 0, 0, 0, 0, 0, 0, 10, 48, 49, 50, 51, 52, 53, 54, 55, 56, 57, 51, 247, 58, 247], 0⟩, ⟨[108, 111, 103, 46, 49], [87, 1, 0, 0, 0, 0, 0, 0, 0, 10, 48, 49, 50, 51, 52, 53, 54, 55, 56, 57, 51, 247, 58, 247, 87, 1, 0, 0, 0, 0, 0, 0, 0, 10, 48, 49, 50, 51, 52, 53, 54, 55, 56, 57, 51, 247, 58, 247], 48⟩], 1000, 0⟩ ∧ putC ⟨[⟨[108, 111, 103], [87, 1, 0, 0, 0, 0, 0, 0, 0, 10, 48, 49, 50, 51, 52, 53, 54, 55, 56, 57, 51, 247, 58, 247, 87, 1, 0, 0, 0, 0, 0, 0, 0, 10, 48, 49, 50, 51, 52, 53, 54, 55, 56, 57, 51, 247, 58, 247], 0⟩], 1000, 0⟩ [108, 111, 103] (held 2) 64 [87, 1, 0, 0, 0, 0, 0, 0, 0, 10, 48, 49, 50, 51, 52, 53, 54, 55, 56, 57, 51, 247, 58, 247] = 0 := by
  unfold putT putC
  rw [show ser [108, 111, 103] (held 2) = _ from ser_2]
  constructor <;> rfl
theorem eq_p4 : putT ⟨[⟨[108, 111, 103], [87, 1, 0, 0, 0, 0, 0, 0, 0, 10, 48, 49, 50, 51, 52, 53, 54, 55, 56, 57, 51, 247, 58, 247], 0⟩, ⟨[108, 111, 103, 46, 49], [87, 1, 0, 0, 0, 0, 0, 0, 0, 10, 48, 49, 50, 51, 52, 53, 54, 55, 56, 57, 51, 247, 58, 247, 87, 1, 0, 0, 0, 0, 0, 0, 0, 10, 48, 49, 50, 51, 52, 53, 54, 55, 56, 57, 51, 247, 58, 247], 48⟩], 1000, 1⟩ [108, 111, 103] (held 2) 64 [87, 1, 0, 0, 0, 0, 0, 0, 0, 1, 120, 44, 46, 34, 88] = ⟨[⟨[108, 111, 103], [87, 1, 0, 0, 0, 0, 0, 0, 0, 10, 48, 49, 50, 51, 52, 53, 54, 55, 56, 57, 51, 247, 58, 247], 0⟩, ⟨[108, 111, 103, 46, 49], [87, 1, 0, 0, 0, 0, 0, 0, 0, 10, 48, 49, 50, 51, 52, 53, 54, 55, 56, 57, 51, 247, 58, 247, 87, 1, 0, 0, 0, 0, 0, 0, 0, 10, 48, 49, 50, 51, 52, 53, 54, 55, 56, 57, 51, 247, 58, 247], 48⟩], 1000, 0⟩ ∧ putC ⟨[⟨[108, 111, 103], [87, 1, 0, 0, 0, 0, 0, 0, 0, 10, 48, 49, 50, 51, 52, 53, 54, 55, 56, 57, 51, 247, 58, 247], 0⟩, ⟨[108, 111, 103, 46, 49], [87, 1, 0, 0, 0, 0, 0, 0, 0, 10, 48, 49, 50, 51, 52, 53, 54, 55, 56, 57, 51, 247, 58, 247, 87, 1, 0, 0, 0, 0, 0, 0, 0, 10, 48, 49, 50, 51, 52, 53, 54, 55, 56, 57, 51, 247, 58, 247], 48⟩], 1000, 1⟩ [108, 111, 103] (held 2) 64 [87, 1, 0, 0, 0, 0, 0, 0, 0, 1, 120, 44, 46, 34, 88] = 12 := by
  unfold putT putC
  rw [show ser [108, 111, 103] (held 2) = _ from ser_2]
  constructor <;> rfl
theorem eq_p5 : putT ⟨[⟨[108, 111, 103], [87, 1, 0, 0, 0, 0, 0, 0, 0, 10, 48, 49, 50, 51, 52, 53, 54, 55, 56, 57, 51, 247, 58, 247], 0⟩, ⟨[108, 111, 103, 46, 49], [87, 1, 0, 0, 0, 0, 0, 0, 0, 10, 48, 49, 50, 51, 52, 53, 54, 55, 56, 57, 51, 247, 58, 247, 87, 1, 0, 0, 0, 0, 0, 0, 0, 10, 48, 49, 50, 51, 52, 53, 54, 55, 56, 57, 51, 247, 58, 247], 48⟩], 1000, 0⟩ [108, 111, 103] (held 2) 64 [87, 3, 0, 0, 0, 0, 0, 9, 0, 1, 50, 110, 227, 81, 95] = ⟨[⟨[108, 111, 103], [87, 1, 0, 0, 0, 0, 0, 0, 0, 10, 48, 49, 50, 51, 52, 53, 54, 55, 56, 57, 51, 247, 58, 247, 87, 3, 0, 0, 0, 0, 0, 9, 0, 1, 50, 110, 227, 81, 95], 0⟩, ⟨[108, 111, 103, 46, 49], [87, 1, 0, 0, 0, 0, 0, 0, 0, 10, 48, 49, 50, 51, 52, 53, 54, 55, 56, 57, 51, 247, 58, 247, 87, 1, 0, 0, 0, 0, 0, 0, 0, 10, 48, 49, 50, 51, 52, 53, 54, 55, 56, 57, 51, 247, 58, 247], 48⟩], 1000, 0⟩ ∧ putC ⟨[⟨[108, 111, 103], [87, 1, 0, 0, 0, 0, 0, 0, 0, 10, 48, 49, 50, 51, 52, 53, 54, 55, 56, 57, 51, 247, 58, 247], 0⟩, ⟨[108, 111, 103, 46, 49], [87, 1, 0, 0, 0, 0, 0, 0, 0, 10, 48, 49, 50, 51, 52, 53, 54, 55, 56, 57, 51, 247, 58, 247, 87, 1, 0, 0, 0, 0, 0, 0, 0, 10, 48, 49, 50, 51, 52, 53, 54, 55, 56, 57, 51, 247, 58, 247], 48⟩], 1000, 0⟩ [108, 111, 103] (held 2) 64 [87, 3, 0, 0, 0, 0, 0, 9, 0, 1, 50, 110, 227, 81, 95] = 0 := by
  unfold putT putC
  rw [show ser [108, 111, 103] (held 2) = _ from ser_2]
  constructor <;> rfl
theorem eq_s : synT ⟨[⟨[108, 111, 103], [87, 1, 0, 0, 0, 0, 0, 0, 0, 10, 48, 49, 50, 51, 52, 53, 54, 55, 56, 57, 51, 247, 58, 247, 87, 3, 0, 0, 0, 0, 0, 9, 0, 1, 50, 110, 227, 81, 95], 0⟩, ⟨[108, 111, 103, 46, 49], [87, 1, 0, 0, 0, 0, 0, 0, 0, 10, 48, 49, 50, 51, 52, 53, 54, 55, 56, 57, 51, 247, 58, 247, 87, 1, 0, 0, 0, 0, 0, 0, 0, 10, 48, 49, 50, 51, 52, 53, 54, 55, 56, 57, 51, 247, 58, 247], 48⟩], 1000, 0⟩ [108, 111, 103] = ⟨[⟨[108, 111, 103], [87, 1, 0, 0, 0, 0, 0, 0, 0, 10, 48, 49, 50, 51, 52, 53, 54, 55, 56, 57, 51, 247, 58, 247, 87, 3, 0, 0, 0, 0, 0, 9, 0, 1, 50, 110, 227, 81, 95], 39⟩, ⟨[108, 111, 103, 46, 49], [87, 1, 0, 0, 0, 0, 0, 0, 0, 10, 48, 49, 50, 51, 52, 53, 54, 55, 56, 57, 51, 247, 58, 247, 87, 1, 0, 0, 0, 0, 0, 0, 0, 10, 48, 49, 50, 51, 52, 53, 54, 55, 56, 57, 51, 247, 58, 247], 48⟩], 1000, 0⟩ ∧ synC ⟨[⟨[108, 111, 103], [87, 1, 0, 0, 0, 0, 0, 0, 0, 10, 48, 49, 50, 51, 52, 53, 54, 55, 56, 57, 51, 247, 58, 247, 87, 3, 0, 0, 0, 0, 0, 9, 0, 1, 50, 110, 227, 81, 95], 0⟩, ⟨[108, 111, 103, 46, 49], [87, 1, 0, 0, 0, 0, 0, 0, 0, 10, 48, 49, 50, 51, 52, 53, 54, 55, 56, 57, 51, 247, 58, 247, 87, 1, 0, 0, 0, 0, 0, 0, 0, 10, 48, 49, 50, 51, 52, 53, 54, 55, 56, 57, 51, 247, 58, 247], 48⟩], 1000, 0⟩ [108, 111, 103] = 0 := by constructor <;> rfl
theorem scan_2 : Rec.scan [87, 1, 0, 0, 0, 0, 0, 0, 0, 10, 48, 49, 50, 51, 52, 53, 54, 55, 56, 57, 51, 247, 58, 247, 87, 3, 0, 0, 0, 0, 0, 9, 0, 1, 50, 110, 227, 81, 95] = ([⟨1, 0, ⟨#[48, 49, 50, 51, 52, 53, 54, 55, 56, 57]⟩⟩, ⟨3, 9, ⟨#[50]⟩⟩], 39) := by
  have h := Rec.scan_torn (l := [⟨1, 0, ⟨#[48, 49, 50, 51, 52, 53, 54, 55, 56, 57]⟩⟩, ⟨3, 9, ⟨#[50]⟩⟩]) (fun x hx => by simp at hx; rcases hx with rfl | rfl <;> decide) 39
  have e : (flat [⟨1, 0, ⟨#[48, 49, 50, 51, 52, 53, 54, 55, 56, 57]⟩⟩, ⟨3, 9, ⟨#[50]⟩⟩]).take 39 = [87, 1, 0, 0, 0, 0, 0, 0, 0, 10, 48, 49, 50, 51, 52, 53, 54, 55, 56, 57, 51, 247, 58, 247, 87, 3, 0, 0, 0, 0, 0, 9, 0, 1, 50, 110, 227, 81, 95] := by
    rw [Rec.flat_cons, Rec.flat_cons, b_ten, b_gap]; rfl
  rw [e] at h
  exact h
theorem chk1 (s : ByteArray) (hs : s.size ≤ 4096) : chk ⟨1, 0, s⟩ = 0 := Rec.chk_ok.2 ⟨by show (1 : Int) ≤ 1; omega, by show (1 : Int) ≤ 15; omega, by show (0 : Int) ≤ 0; omega, by show (0 : Int) ≤ 1099511627776; omega, hs⟩
section
variable {w0 w : World} {bs : Nat → Prop} {j b : Nat} {t t' : St} {r : Bool} {l : Int}
theorem w_add (h : Wj w0 w bs j b t lg 2 64 false l) (l0 : 0 ≤ l) (l1 : l ≤ 1000000) (s : ByteArray) (hs : s.size ≤ 4096) (d : Bs) (hd : bytesOf ⟨1, 0, s⟩ = d) (he : putT t lg (held 2) 64 d = t' ∧ putC t lg (held 2) 64 d = 0) :
    Calls Tryz.prog 13 #[pb j, .agg #[.int .i64 1, .int .i64 0, .string s]] w (JPost w bs j b lg 2 64 t' false l true) := by
  have := add_ok h.jat (by decide) (by omega) (by omega) l0 l1 1 0 s (chk1 s hs) (by rw [hd]; exact he.2)
  rwa [hd, he.1] at this
theorem w_no (h : Wj w0 w bs j b t lg 2 64 false l) (l0 : 0 ≤ l) (l1 : l ≤ 1000000) (s : ByteArray) (hs : s.size ≤ 4096) (d : Bs) (hd : bytesOf ⟨1, 0, s⟩ = d) (he : putT t lg (held 2) 64 d = t' ∧ putC t lg (held 2) 64 d = 12) :
    Calls Tryz.prog 13 #[pb j, .agg #[.int .i64 1, .int .i64 0, .string s]] w (JPost w bs j b lg 2 64 t' true (l + 1) false) := by
  have := add_no h.jat (by decide) (by omega) (by omega) l0 l1 1 0 s (chk1 s hs) (by rw [hd, he.2]; decide)
  rwa [hd, he.1] at this
theorem w_rest (h : Wj w0 w bs j b t lg 2 64 true l) (l0 : 0 ≤ l) (l1 : l ≤ 1000000) (s : ByteArray) (hs : s.size ≤ 4096) :
    Calls Tryz.prog 13 #[pb j, .agg #[.int .i64 1, .int .i64 0, .string s]] w (JPost w bs j b lg 2 64 t true (l + 1) false) :=
  add_rest h.jat l0 l1 1 0 s (chk1 s hs)
theorem w_reopen (h : Wj w0 w bs j b ⟨[⟨[108, 111, 103], [87, 1, 0, 0, 0, 0, 0, 0, 0, 10, 48, 49, 50, 51, 52, 53, 54, 55, 56, 57, 51, 247, 58, 247], 0⟩, ⟨[108, 111, 103, 46, 49], [87, 1, 0, 0, 0, 0, 0, 0, 0, 10, 48, 49, 50, 51, 52, 53, 54, 55, 56, 57, 51, 247, 58, 247, 87, 1, 0, 0, 0, 0, 0, 0, 0, 10, 48, 49, 50, 51, 52, 53, 54, 55, 56, 57, 51, 247, 58, 247], 48⟩], 1000, 0⟩ lg 2 64 true 2) :
    Calls Tryz.prog 10 #[pb j, .int .i64 9] w (JPost w bs j b lg 2 64 ⟨[⟨[108, 111, 103], [87, 1, 0, 0, 0, 0, 0, 0, 0, 10, 48, 49, 50, 51, 52, 53, 54, 55, 56, 57, 51, 247, 58, 247, 87, 3, 0, 0, 0, 0, 0, 9, 0, 1, 50, 110, 227, 81, 95], 0⟩, ⟨[108, 111, 103, 46, 49], [87, 1, 0, 0, 0, 0, 0, 0, 0, 10, 48, 49, 50, 51, 52, 53, 54, 55, 56, 57, 51, 247, 58, 247, 87, 1, 0, 0, 0, 0, 0, 0, 0, 10, 48, 49, 50, 51, 52, 53, 54, 55, 56, 57, 51, 247, 58, 247], 48⟩], 1000, 0⟩ false 0 true) := by
  have hg : jpT ⟨[⟨[108, 111, 103], [87, 1, 0, 0, 0, 0, 0, 0, 0, 10, 48, 49, 50, 51, 52, 53, 54, 55, 56, 57, 51, 247, 58, 247], 0⟩, ⟨[108, 111, 103, 46, 49], [87, 1, 0, 0, 0, 0, 0, 0, 0, 10, 48, 49, 50, 51, 52, 53, 54, 55, 56, 57, 51, 247, 58, 247, 87, 1, 0, 0, 0, 0, 0, 0, 0, 10, 48, 49, 50, 51, 52, 53, 54, 55, 56, 57, 51, 247, 58, 247], 48⟩], 1000, 0⟩ lg (held 2) 64 ⟨3, 9, ⟨(Digit.dec 2).toArray⟩⟩ = ⟨[⟨[108, 111, 103], [87, 1, 0, 0, 0, 0, 0, 0, 0, 10, 48, 49, 50, 51, 52, 53, 54, 55, 56, 57, 51, 247, 58, 247, 87, 3, 0, 0, 0, 0, 0, 9, 0, 1, 50, 110, 227, 81, 95], 0⟩, ⟨[108, 111, 103, 46, 49], [87, 1, 0, 0, 0, 0, 0, 0, 0, 10, 48, 49, 50, 51, 52, 53, 54, 55, 56, 57, 51, 247, 58, 247, 87, 1, 0, 0, 0, 0, 0, 0, 0, 10, 48, 49, 50, 51, 52, 53, 54, 55, 56, 57, 51, 247, 58, 247], 48⟩], 1000, 0⟩ ∧ jpC ⟨[⟨[108, 111, 103], [87, 1, 0, 0, 0, 0, 0, 0, 0, 10, 48, 49, 50, 51, 52, 53, 54, 55, 56, 57, 51, 247, 58, 247], 0⟩, ⟨[108, 111, 103, 46, 49], [87, 1, 0, 0, 0, 0, 0, 0, 0, 10, 48, 49, 50, 51, 52, 53, 54, 55, 56, 57, 51, 247, 58, 247, 87, 1, 0, 0, 0, 0, 0, 0, 0, 10, 48, 49, 50, 51, 52, 53, 54, 55, 56, 57, 51, 247, 58, 247], 48⟩], 1000, 0⟩ lg (held 2) 64 ⟨3, 9, ⟨(Digit.dec 2).toArray⟩⟩ = 0 := by
    rw [dec_2]
    have hc : chk ⟨3, 9, ⟨#[50]⟩⟩ = 0 := by decide
    refine ⟨(if_pos hc).trans ?_, (if_pos hc).trans ?_⟩
    · rw [b_gap]; exact eq_p5.1
    · rw [b_gap]; exact eq_p5.2
  have := reopen_ok h.jat (by decide) (by omega) (by omega) (by omega) (by omega) 9 hg.2
  rwa [hg.1] at this
theorem w_sync (h : Wj w0 w bs j b t lg 2 64 false l) (he : synT t lg = t' ∧ synC t lg = 0) : Calls Tryz.prog 8 #[pb j] w (JPost w bs j b lg 2 64 t' false l true) := by
  have := sync_ok h.jat he.2
  rwa [he.1] at this
theorem w_size (h : Wj w0 w bs j b t lg 2 64 r l) (a : ByteArray) (ha : a.size ≤ 1000) (x : Fl) (hx : got t.L a.data.toList = x) : Calls Tryz.prog 18 #[pb b, .string a] w fun e w' => e = .returned (.tuple #[.int .i64 x.bs.length, .int .i64 x.sure]) ∧ Below w.heap.size w w' := by
  have := sto_size h.jat.sto a (by unfold maxLen; omega)
  rwa [hx] at this
end

/-- two items in a row of the call's own: the second -/
theorem two_its {w : World} {B : Nat} {v : Value} {x y : Itm} (h : w.ownsRow B 36 3 v [x, y].length (cv [x, y])) : ∃ g c, v = .slice (some ⟨g, 0, none⟩) 2 c ∧ w.cell? ⟨g, 3, none⟩ = some (.int .i64 y.k) ∧ w.cell? ⟨g, 4, none⟩ = some (.int .i64 y.a) ∧ w.cell? ⟨g, 5, none⟩ = some (.string y.b) ∧ 2 ≤ c ∧ c ≤ 9223372036854775807 := by
  have hc := @World.ownsRow.cells _ _ _ _ _ _ _ h
  rcases h.2 with ⟨_, h0⟩ | ⟨g, cap, cur, rfl, _, hh, h3, h4, _⟩
  · cases h0
  · have r0 := hc (g := g) rfl 3 (.int .i64 y.k) rfl
    have r1 := hc (g := g) rfl 4 (.int .i64 y.a) rfl
    have r2 := hc (g := g) rfl 5 (.string y.b) rfl
    rw [add0] at r0 r1 r2
    exact ⟨g, cap, rfl, r0, r1, r2, h3, by unfold maxLen at h4; omega⟩
set_option maxRecDepth 100000 in
set_option maxHeartbeats 16000000 in
theorem works_walk (w : World) : Calls Tryz.prog 4 #[] w fun e w' => e = .returned (.bool true) ∧ Below w.heap.size w w' := by
  go_enter Tryz.func4, Tryz.ntmps4
  go_wp2_with fail
  refine (Sto.new_in 1000 (by omega) (by omega) _).mono ?_
  rintro e V1 ⟨b, rfl, bs1, s1, hb1, hn1⟩
  have S1 := Lib.hid s1
  have B1 := Lib.hid hb1
  have N1 := Lib.hid hn1
  clear s1 hb1 hn1
  go_wp2_with fail
  refine (new_some b lg 2 64 (by omega) (by omega) _).mono ?_
  rintro e V2 ⟨rfl, hj2, hb2⟩
  have W2 := Lib.hid (Wj.new B1.out S1.out N1.out hj2 hb2)
  generalize V1.heap.size = j at *
  clear hj2 hb2 S1 B1 N1
  go_wp2_with fail
  refine (new_low b _ 64 _).mono ?_
  rintro e w' ⟨rfl, rfl⟩
  go_wp2_with fail
  refine (new_nil _ 1 64 _).mono ?_
  rintro e w' ⟨rfl, rfl⟩
  go_wp2_with fail
  refine (w_add W2.out (by omega) (by omega) ⟨#[48, 49, 50, 51, 52, 53, 54, 55, 56, 57]⟩ (by decide) [87, 1, 0, 0, 0, 0, 0, 0, 0, 10, 48, 49, 50, 51, 52, 53, 54, 55, 56, 57, 51, 247, 58, 247] b_ten eq_p1).mono ?_
  intro e V3 hd
  obtain ⟨rfl, bs2, hw⟩ := W2.out.post hd
  have W3 := Lib.hid hw
  clear hd hw W2
  go_wp2_with fail
  refine (w_add W3.out (by omega) (by omega) ⟨#[48, 49, 50, 51, 52, 53, 54, 55, 56, 57]⟩ (by decide) [87, 1, 0, 0, 0, 0, 0, 0, 0, 10, 48, 49, 50, 51, 52, 53, 54, 55, 56, 57, 51, 247, 58, 247] b_ten eq_p2).mono ?_
  intro e V4 hd
  obtain ⟨rfl, bs3, hw⟩ := W3.out.post hd
  have W4 := Lib.hid hw
  clear hd hw W3
  go_wp2_with fail
  refine (w_size W4.out ⟨#[108, 111, 103]⟩ (by decide) ⟨[108, 111, 103], [87, 1, 0, 0, 0, 0, 0, 0, 0, 10, 48, 49, 50, 51, 52, 53, 54, 55, 56, 57, 51, 247, 58, 247, 87, 1, 0, 0, 0, 0, 0, 0, 0, 10, 48, 49, 50, 51, 52, 53, 54, 55, 56, 57, 51, 247, 58, 247], 0⟩ rfl).mono ?_
  rintro e V5 ⟨rfl, hb⟩
  have W5 := Lib.hid (W4.out.same hb)
  clear hb W4
  go_wp2_with fail
  refine (w_add W5.out (by omega) (by omega) ⟨#[48, 49, 50, 51, 52, 53, 54, 55, 56, 57]⟩ (by decide) [87, 1, 0, 0, 0, 0, 0, 0, 0, 10, 48, 49, 50, 51, 52, 53, 54, 55, 56, 57, 51, 247, 58, 247] b_ten eq_p3).mono ?_
  intro e V6 hd
  obtain ⟨rfl, bs5, hw⟩ := W5.out.post hd
  have W6 := Lib.hid hw
  clear hd hw W5
  go_wp2_with fail
  refine (w_size W6.out ⟨#[108, 111, 103, 46, 49]⟩ (by decide) ⟨[108, 111, 103, 46, 49], [87, 1, 0, 0, 0, 0, 0, 0, 0, 10, 48, 49, 50, 51, 52, 53, 54, 55, 56, 57, 51, 247, 58, 247, 87, 1, 0, 0, 0, 0, 0, 0, 0, 10, 48, 49, 50, 51, 52, 53, 54, 55, 56, 57, 51, 247, 58, 247], 48⟩ rfl).mono ?_
  rintro e V7 ⟨rfl, hb⟩
  have W7 := Lib.hid (W6.out.same hb)
  clear hb W6
  go_wp2_with fail
  refine (sto_fail W7.out.jat.sto 1 (by omega)).mono ?_
  rintro e V8 ⟨rfl, hs, ho⟩
  have W8 := Lib.hid (W7.out.go hs ho (fun k hk => .inl hk))
  clear hs ho W7
  go_wp2_with fail
  refine (w_no W8.out (by omega) (by omega) ⟨#[120]⟩ (by decide) [87, 1, 0, 0, 0, 0, 0, 0, 0, 1, 120, 44, 46, 34, 88] b_x eq_p4).mono ?_
  intro e V9 hd
  obtain ⟨rfl, bs8, hw⟩ := W8.out.post hd
  have W9 := Lib.hid hw
  clear hd hw W8
  go_wp2_with fail
  refine (rests_calls W9.out.jat.jb).mono ?_
  rintro e V10 ⟨rfl, rfl⟩
  have W10 := W9
  clear W9
  go_wp2_with fail
  refine (w_rest W10.out (by omega) (by omega) ⟨#[121]⟩ (by decide)).mono ?_
  intro e V11 hd
  obtain ⟨rfl, bs10, hw⟩ := W10.out.post hd
  have W11 := Lib.hid hw
  clear hd hw W10
  go_wp2_with fail
  refine (lost_calls W11.out.jat.jb).mono ?_
  rintro e V12 ⟨rfl, rfl⟩
  have W12 := W11
  clear W11
  go_wp2_with fail
  refine (w_reopen W12.out).mono ?_
  intro e V13 hd
  obtain ⟨rfl, bs12, hw⟩ := W12.out.post hd
  have W13 := Lib.hid hw
  clear hd hw W12
  go_wp2_with fail
  refine (sto_read W13.out.jat.sto ⟨#[108, 111, 103]⟩ (by decide)).mono ?_
  rintro e V14 ⟨rfl, hb⟩
  have W14 := Lib.hid (W13.out.same hb)
  clear hb W13
  rw [show (got (St.mk _ _ _).L _).bs = [87, 1, 0, 0, 0, 0, 0, 0, 0, 10, 48, 49, 50, 51, 52, 53, 54, 55, 56, 57, 51, 247, 58, 247, 87, 3, 0, 0, 0, 0, 0, 9, 0, 1, 50, 110, 227, 81, 95] from rfl]
  go_wp2_with fail
  refine (Rec.scan_calls ⟨#[87, 1, 0, 0, 0, 0, 0, 0, 0, 10, 48, 49, 50, 51, 52, 53, 54, 55, 56, 57, 51, 247, 58, 247, 87, 3, 0, 0, 0, 0, 0, 9, 0, 1, 50, 110, 227, 81, 95]⟩ (by decide) _).mono ?_
  rintro e V15 ⟨v, rfl, ho, hb⟩
  have W15 := Lib.hid (W14.out.same hb)
  clear hb W14
  rw [show (⟨#[87, 1, 0, 0, 0, 0, 0, 0, 0, 10, 48, 49, 50, 51, 52, 53, 54, 55, 56, 57, 51, 247, 58, 247, 87, 3, 0, 0, 0, 0, 0, 9, 0, 1, 50, 110, 227, 81, 95]⟩ : ByteArray).data.toList = [87, 1, 0, 0, 0, 0, 0, 0, 0, 10, 48, 49, 50, 51, 52, 53, 54, 55, 56, 57, 51, 247, 58, 247, 87, 3, 0, 0, 0, 0, 0, 9, 0, 1, 50, 110, 227, 81, 95] from rfl, scan_2] at ho ⊢
  obtain ⟨g, cc, rfl, k3, k4, k5, hc2⟩ := two_its ho
  clear ho
  have HSY := Lib.hid (w_sync W15.out eq_s)
  go_wp2_with fail
  refine (rests_calls W15.out.jat.jb).mono ?_
  rintro e w' ⟨rfl, rfl⟩
  go_wp2_with fail
  refine HSY.out.mono ?_
  intro e V16 hd
  obtain ⟨rfl, bs16, hw⟩ := W15.out.post hd
  have W16 := Lib.hid hw
  clear hd hw W15
  go_wp2_with fail
  go_ret
  exact ⟨rfl, W16.out.below⟩
end Go.Proofs.YtpaeemkdjgbejaaGreat.Jrn
end

section
namespace Go.Proofs.YtpaeemkdjgbejaaGreat.Jrn
open Go.RowKit Go.Proofs.YtpaeemkdjgbejaaGreat.Own

structure Oc where
  k : Int
  xk : Int
  xa : Int
  xb : ByteArray
  n : Int
structure OkO (o : Oc) : Prop where
  k0 : 0 ≤ o.k
  k1 : o.k ≤ 255
  n0 : 0 ≤ o.n
  n1 : o.n ≤ 255
  size : o.xb.size ≤ maxLen
/-- a slice of acts, as it lies in memory -/
structure ORow (w : World) (p : Option Addr) (c n : Nat) (f : Nat → Oc) : Prop where
  cap : n ≤ c
  max : c ≤ maxLen
  cells : n = 0 ∨ ∃ g o, p = some ⟨g, o, none⟩ ∧ g < w.heap.size ∧ ∀ i, i < n → w.cell? ⟨g, o + i * 5, none⟩ = some (.int .u8 (f i).k) ∧ w.cell? ⟨g, o + i * 5 + 1, none⟩ = some (.int .i64 (f i).xk) ∧ w.cell? ⟨g, o + i * 5 + 2, none⟩ = some (.int .i64 (f i).xa) ∧ w.cell? ⟨g, o + i * 5 + 3, none⟩ = some (.string (f i).xb) ∧ w.cell? ⟨g, o + i * 5 + 4, none⟩ = some (.int .u8 (f i).n)
  ok : ∀ i, i < n → OkO (f i)
theorem ORow.below {w w' : World} {p : Option Addr} {cap n : Nat} {f : Nat → Oc} (h : ORow w p cap n f) (hb : Below w.heap.size w w') : ORow w' p cap n f :=
  ⟨h.cap, h.max, h.cells.imp id fun ⟨g, o, e, hl, k⟩ => ⟨g, o, e, Nat.lt_of_lt_of_le hl hb.size, fun i hi => by
    obtain ⟨k0, k1, k2, k3, k4⟩ := k i hi
    exact ⟨(hb.cell (p := ⟨g, _, none⟩) hl).trans k0, (hb.cell (p := ⟨g, _, none⟩) hl).trans k1, (hb.cell (p := ⟨g, _, none⟩) hl).trans k2, (hb.cell (p := ⟨g, _, none⟩) hl).trans k3, (hb.cell (p := ⟨g, _, none⟩) hl).trans k4⟩⟩, h.ok⟩
section
open Go.ChangeShapes Go.WideShapes Go.Deep
variable {H : Type} {enc : TypeId × Value → H} {w : World} {spare : Nat → Bool} {held : Bool}
theorem cInt : Tryz.prog.cellsOf 3 = 1 := by kernel_rfl
theorem cU8 : Tryz.prog.cellsOf 5 = 1 := by kernel_rfl
theorem cStr : Tryz.prog.cellsOf 9 = 1 := by kernel_rfl
theorem cItm : Tryz.prog.cellsOf 36 = 3 := by kernel_rfl
theorem cOp : Tryz.prog.cellsOf 39 = 5 := by kernel_rfl
theorem oc_leaf {m base : Nat} {y : DataW H × List MemPlace} {E : Nat → Value} (hy : DataW.trod enc Tryz.prog w base spare held m 39 ((List.range 5).map E) = some y) : ∃ o : Oc, OkO o ∧ E 0 = .int .u8 o.k ∧ E 1 = .int .i64 o.xk ∧ E 2 = .int .i64 o.xa ∧ E 3 = .string o.xb ∧ E 4 = .int .u8 o.n := by
  obtain ⟨m0, y0, h0⟩ := leaf_field Tryz.underlying39 hy 0 _ rfl 0 1 rfl cU8 (by omega)
  obtain ⟨m1, y1, h1⟩ := leaf_field Tryz.underlying39 hy 1 _ rfl 1 3 rfl cItm (by omega)
  obtain ⟨m2, y2, h2⟩ := leaf_field Tryz.underlying39 hy 2 _ rfl 4 1 rfl cU8 (by omega)
  obtain ⟨m3, y3, h3⟩ := leaf_field (E := fun k => E (1 + k)) Tryz.underlying36 h1 0 _ rfl 0 1 rfl cInt (by omega)
  obtain ⟨m4, y4, h4⟩ := leaf_field (E := fun k => E (1 + k)) Tryz.underlying36 h1 1 _ rfl 1 1 rfl cInt (by omega)
  obtain ⟨m5, y5, h5⟩ := leaf_field (E := fun k => E (1 + k)) Tryz.underlying36 h1 2 _ rfl 2 1 rfl cStr (by omega)
  obtain ⟨k, e0, w8⟩ := leaf_int Tryz.underlying5 h0
  obtain ⟨n, e4, w8n⟩ := leaf_int Tryz.underlying5 h2
  obtain ⟨xk, e1, _⟩ := leaf_int Tryz.underlying3 h3
  obtain ⟨xa, e2, _⟩ := leaf_int Tryz.underlying3 h4
  obtain ⟨xb, e3, ws⟩ := leaf_string Tryz.underlying9 h5
  exact ⟨⟨k, xk, xa, xb, n⟩, ⟨(wf8 w8).1, (wf8 w8).2, (wf8 w8n).1, (wf8 w8n).2, ws⟩, by simpa using e0, by simpa using e1, by simpa using e2, by simpa using e3, by simpa using e4⟩
set_option maxRecDepth 100000 in
theorem ocs_open {v : Value} {d : DataW H} {p : List MemPlace} {base b0 : Nat} {r : Reach} (ho : Value.okWide Tryz.prog w r b0 22 v) (h : DataW.Trod enc Tryz.prog w base spare held 22 v d p) :
    ∃ q n c f, v = .slice q n c ∧ ORow w q c n f := by
  obtain ⟨a, len, cap, rfl⟩ := okWide_slice Tryz.underlying22 ho
  obtain ⟨n, E, hrow, mm, hE⟩ := Own.args_slice Tryz.underlying22 (size := 5) cOp (by omega) h ⟨_, _, _, rfl⟩
  have hz : ∀ i, ∃ o : Oc, i < n → OkO o ∧ E i 0 = .int .u8 o.k ∧ E i 1 = .int .i64 o.xk ∧ E i 2 = .int .i64 o.xa ∧ E i 3 = .string o.xb ∧ E i 4 = .int .u8 o.n := fun i => by
    by_cases hi : i < n
    · obtain ⟨y, hy⟩ := hE i hi
      obtain ⟨o, ho⟩ := oc_leaf hy
      exact ⟨o, fun _ => ho⟩
    · exact ⟨⟨0, 0, 0, ByteArray.empty, 0⟩, fun h => absurd h hi⟩
  obtain ⟨a2, cap2, e, h1, h2, h3⟩ := hrow
  cases e
  refine ⟨a, len, cap, fun i => (hz i).choose, rfl, h1, h2, ?_, fun i hi => ((hz i).choose_spec hi).1⟩
  refine h3.imp id ?_
  rintro ⟨g, off, e, hl, hc⟩
  refine ⟨g, off, e, hl, fun i hi => ?_⟩
  obtain ⟨_, e0, e1, e2, e3, e4⟩ := (hz i).choose_spec hi
  have c0 := hc i 0 hi (by omega)
  have c1 := hc i 1 hi (by omega)
  have c2 := hc i 2 hi (by omega)
  have c3 := hc i 3 hi (by omega)
  have c4 := hc i 4 hi (by omega)
  rw [e0] at c0
  rw [e1] at c1
  rw [e2] at c2
  rw [e3] at c3
  rw [e4] at c4
  exact ⟨by simpa using c0, c1, c2, c3, c4⟩
end
end Go.Proofs.YtpaeemkdjgbejaaGreat.Jrn
end

section
namespace Go.Proofs.YtpaeemkdjgbejaaGreat.Jrn
open Go.RowKit Go.Proofs.YtpaeemkdjgbejaaGreat.Own Go.Proofs.YtpaeemkdjgbejaaGreat.Sto Go.Proofs.YtpaeemkdjgbejaaGreat.Gen Go.Proofs.YtpaeemkdjgbejaaGreat.Flt
open Go.Proofs.YtpaeemkdjgbejaaGreat.Rec (Itm chk bytesOf flat cv cv_len cv_app)
open Go.Proofs.YtpaeemkdjgbejaaGreat.Rw (str strs Row1 Texts)

structure Hs (w0 w : World) (bs : Nat → Prop) (j b : Nat) (t : St) (K : Nat) (size : Int) (r : Bool) (l : Int) (A : List Itm) (u : Nat) : Prop where
  wj : Wj w0 w bs j b t lg (K : Nat) size r l
  hist : Hist t K A u
  ule : u ≤ A.length
def gapI (l now : Int) : Itm := ⟨3, now, ⟨(Digit.dec l).toArray⟩⟩
/-- what is taken as it is opened again -/
def gapL (l now : Int) : List Itm := if 0 < l then [gapI l now] else []
theorem gap_ok {l now : Int} (h1 : 0 ≤ l) (h2 : l ≤ 1000000) (h3 : 0 ≤ now) (h4 : now ≤ 1099511627776) : chk (gapI l now) = 0 := by
  have := Digit.dec_len (n := l) (by omega) (by omega)
  exact Rec.chk_ok.2 ⟨by show (1 : Int) ≤ 3; omega, by show (3 : Int) ≤ 15; omega, h3, h4, by show (Digit.dec l).length ≤ 4096; omega⟩
structure Sz (K : Nat) (size : Int) : Prop where
  k0 : 1 ≤ K
  k1 : K ≤ 16
  s0 : 64 ≤ size
  s1 : size ≤ 1048576
theorem Sz.held {K : Nat} {size : Int} (h : Sz K size) : held (K : Nat) = K := by have := h.k0; have := h.k1; unfold Gen.held; omega
section
variable {w0 w w' : World} {bs : Nat → Prop} {j b K : Nat} {t : St} {size : Int} {r : Bool} {l : Int} {A : List Itm} {u : Nat}
theorem Hs.same (h : Hs w0 w bs j b t K size r l A u) (hb : Below w.heap.size w w') : Hs w0 w' bs j b t K size r l A u := ⟨h.wj.same hb, h.hist, h.ule⟩
theorem Hs.below (h : Hs w0 w bs j b t K size r l A u) : Below w0.heap.size w0 w := h.wj.below
theorem Hs.ok (h : Hs w0 w bs j b t K size r l A u) : Ok t := h.wj.jat.sto.ok
def AddP (w0 : World) (j b K : Nat) (size : Int) (r : Bool) (l : Int) (A : List Itm) (u : Nat) (x : Itm) (e : Ending) (w' : World) : Prop :=
  ∃ q bs' t', e = .returned (.bool q) ∧ ((q = true ∧ r = false ∧ Hs w0 w' bs' j b t' K size false l (A ++ [x]) u) ∨ (q = false ∧ Hs w0 w' bs' j b t' K size true (l + 1) A u))
theorem add_hs (h : Hs w0 w bs j b t K size r l A u) (hz : Sz K size) (l0 : 0 ≤ l) (l1 : l ≤ 1000000) (k a : Int) (s : ByteArray) (hx : chk ⟨k, a, s⟩ = 0) :
    Calls Tryz.prog 13 #[pb j, .agg #[.int .i64 k, .int .i64 a, .string s]] w (AddP w0 j b K size r l A u ⟨k, a, s⟩) := by
  have hput := h.hist.put h.ule h.ok hz.k0 hz.k1 hx size
  cases r with
  | true =>
    refine (add_rest h.wj.jat l0 l1 k a s hx).mono fun e w' hp => ?_
    obtain ⟨he, bs', hw⟩ := h.wj.post hp
    exact ⟨false, bs', t, he, .inr ⟨rfl, hw, h.hist, h.ule⟩⟩
  | false =>
    by_cases hc : putC t lg K size (bytesOf ⟨k, a, s⟩) = 0
    · refine (add_ok h.wj.jat (by decide) hz.s0 hz.s1 l0 l1 k a s hx (by rw [hz.held]; exact hc)).mono fun e w' hp => ?_
      rw [hz.held] at hp
      obtain ⟨he, bs', hw⟩ := h.wj.post hp
      exact ⟨true, bs', _, he, .inl ⟨rfl, rfl, hw, hput.1 hc, by have := h.ule; rw [List.length_append]; omega⟩⟩
    · refine (add_no h.wj.jat (by decide) hz.s0 hz.s1 l0 l1 k a s hx (by rw [hz.held]; exact hc)).mono fun e w' hp => ?_
      rw [hz.held] at hp
      obtain ⟨he, bs', hw⟩ := h.wj.post hp
      exact ⟨false, bs', _, he, .inr ⟨rfl, hw, hput.2 hc, h.ule⟩⟩
def SyncP (w0 : World) (j b K : Nat) (size : Int) (r : Bool) (l : Int) (A : List Itm) (u : Nat) (e : Ending) (w' : World) : Prop :=
  ∃ q bs' t', e = .returned (.bool q) ∧ ((q = true ∧ r = false ∧ Hs w0 w' bs' j b t' K size false l A A.length) ∨ (q = false ∧ Hs w0 w' bs' j b t' K size true l A u))
theorem sync_hs (h : Hs w0 w bs j b t K size r l A u) (hz : Sz K size) :
    Calls Tryz.prog 8 #[pb j] w (SyncP w0 j b K size r l A u) := by
  cases r with
  | true =>
    refine (sync_rest h.wj.jat).mono fun e w' hp => ?_
    obtain ⟨he, bs', hw⟩ := h.wj.post hp
    exact ⟨false, bs', t, he, .inr ⟨rfl, hw, h.hist, h.ule⟩⟩
  | false =>
    by_cases hc : synC t lg = 0
    · refine (sync_ok h.wj.jat hc).mono fun e w' hp => ?_
      obtain ⟨he, bs', hw⟩ := h.wj.post hp
      exact ⟨true, bs', _, he, .inl ⟨rfl, rfl, hw, h.hist.syn h.ok hz.k0 hc, Nat.le_refl _⟩⟩
    · by_cases hc7 : synC t lg = 7
      · refine (sync_none h.wj.jat hc7).mono fun e w' hp => ?_
        obtain ⟨he, bs', hw⟩ := h.wj.post hp
        exact ⟨true, bs', _, he, .inl ⟨rfl, rfl, hw, h.hist.gone hc7, Nat.le_refl _⟩⟩
      · refine (sync_no h.wj.jat ⟨hc, hc7⟩).mono fun e w' hp => ?_
        obtain ⟨he, bs', hw⟩ := h.wj.post hp
        exact ⟨false, bs', _, he, .inr ⟨rfl, hw, h.hist.same (syn_no hc), h.ule⟩⟩
def ReopP (w0 : World) (j b K : Nat) (size : Int) (r : Bool) (l : Int) (A : List Itm) (u : Nat) (now : Int) (e : Ending) (w' : World) : Prop :=
  ∃ q bs' t', e = .returned (.bool q) ∧ ((q = true ∧ Hs w0 w' bs' j b t' K size false 0 (A ++ gapL l now) u) ∨ (q = false ∧ 0 < l ∧ Hs w0 w' bs' j b t' K size r l A u))
theorem reopen_hs (h : Hs w0 w bs j b t K size r l A u) (hz : Sz K size) (l0 : 0 ≤ l) (l1 : l ≤ 1000000) (now : Int) (h3 : 0 ≤ now) (h4 : now ≤ 1099511627776) :
    Calls Tryz.prog 10 #[pb j, .int .i64 now] w (ReopP w0 j b K size r l A u now) := by
  by_cases hl : 0 < l
  · have hx := gap_ok l0 l1 h3 h4
    have hput := h.hist.put h.ule h.ok hz.k0 hz.k1 hx size
    have eT : jpT t lg (held (K : Nat)) size ⟨3, now, ⟨(Digit.dec l).toArray⟩⟩ = putT t lg K size (bytesOf (gapI l now)) := by rw [hz.held]; exact if_pos hx
    have eC : jpC t lg (held (K : Nat)) size ⟨3, now, ⟨(Digit.dec l).toArray⟩⟩ = putC t lg K size (bytesOf (gapI l now)) := by rw [hz.held]; exact if_pos hx
    have eg : gapL l now = [gapI l now] := if_pos hl
    by_cases hc : putC t lg K size (bytesOf (gapI l now)) = 0
    · refine (reopen_ok h.wj.jat (by decide) hz.s0 hz.s1 hl l1 now (by rw [eC]; exact hc)).mono fun e w' hp => ?_
      rw [eT] at hp
      obtain ⟨he, bs', hw⟩ := h.wj.post hp
      exact ⟨true, bs', _, he, .inl ⟨rfl, hw, by rw [eg]; exact hput.1 hc, by have := h.ule; rw [List.length_append]; omega⟩⟩
    · refine (reopen_no h.wj.jat (by decide) hz.s0 hz.s1 hl l1 now (by rw [eC]; exact hc)).mono fun e w' hp => ?_
      rw [eT] at hp
      obtain ⟨he, bs', hw⟩ := h.wj.post hp
      exact ⟨false, bs', _, he, .inr ⟨rfl, hl, hw, hput.2 hc, h.ule⟩⟩
  · have eg : gapL l now = [] := if_neg hl
    refine (reopen_none h.wj.jat (by omega) now).mono fun e w' hp => ?_
    obtain ⟨he, bs', hw⟩ := h.wj.post hp
    exact ⟨true, bs', _, he, .inl ⟨rfl, hw, by rw [eg, List.append_nil]; exact h.hist, by rw [eg, List.append_nil]; exact h.ule⟩⟩
def FailP (w0 : World) (j b K : Nat) (size : Int) (r : Bool) (l : Int) (A : List Itm) (u : Nat) (e : Ending) (w' : World) : Prop :=
  e = .returned (.tuple #[]) ∧ ∃ bs' t', Hs w0 w' bs' j b t' K size r l A u
theorem fail_hs (h : Hs w0 w bs j b t K size r l A u) (n : Int) (hn : -9223372036854775808 ≤ n ∧ n ≤ 9223372036854775807) :
    Calls Tryz.prog 12 #[pb b, .int .i64 n] w (FailP w0 j b K size r l A u) :=
  (sto_fail h.wj.jat.sto n hn).mono fun _ _ ⟨he, hs, ho⟩ => ⟨he, bs, _, h.wj.go hs ho (fun _ hk => .inl hk), h.hist.same rfl, h.ule⟩
theorem all_hs (h : Hs w0 w bs j b t K size r l A u) (hz : Sz K size) : Calls Tryz.prog 16 #[pb b, .string ⟨#[108, 111, 103]⟩, .int .i64 (K : Nat)] w (ListPost ((fnd t (ser lg K)).map Fl.bs) w) := by
  have := all_calls h.wj.jat.sto lg (by decide) (K : Nat)
  rw [hz.held] at this
  exact this
theorem fnd_size {t : St} (h : Ok t) (ns : List Bs) : ∀ s ∈ (fnd t ns).map Fl.bs, s.length ≤ 16777216 := by
  intro s hs
  obtain ⟨x, hx, rfl⟩ := List.mem_map.1 hs
  unfold fnd at hx
  obtain ⟨a, _, ha⟩ := List.mem_filterMap.1 hx
  have h1 := len_tot (lk_some ha).1
  have := (tot_top h).2
  omega
theorem fnd_16 (t : St) (K : Nat) (hK : K ≤ 16) : ((fnd t (ser lg K)).map Fl.bs).length ≤ 16 := by
  rw [List.length_map]
  have := fnd_len t (ser lg K)
  rw [ser_len] at this
  omega
end
end Go.Proofs.YtpaeemkdjgbejaaGreat.Jrn
end

section
namespace Go.Proofs.YtpaeemkdjgbejaaGreat.Rec
open Go.RowKit Go.Proofs.YtpaeemkdjgbejaaGreat.Sum Go.Proofs.YtpaeemkdjgbejaaGreat.Own

set_option maxRecDepth 100000 in
set_option maxHeartbeats 1000000 in
/-- two slices that hold the same items -/
theorem rsame_calls (xs : List Itm) (p q : Option Addr) (c d : Nat) (w : World) (h1 : Its w xs p c) (h2 : Its w xs q d) :
    Calls Tryz.prog 32 #[.slice p xs.length c, .slice q xs.length d] w fun e w' => e = .returned (.bool true) ∧ Below w.heap.size w w' := by
  have hc1 := h1.cap
  have hm1 := h1.max
  unfold maxLen at hm1
  have q2 : (xs.length : Int) ≤ 9223372036854775807 := by omega
  have H1 := Lib.hid h1
  have H2 := Lib.hid h2
  clear h1 h2
  go_enter Tryz.func32, Tryz.ntmps32
  go_wp2_with fail
  go_loopw [5] (fun i wr => ∃ k m : Nat, k ≤ xs.length ∧ i = .int .i64 k ∧ wr = w.drewN m) (fun i _ => xs.length - (intOf i).toNat)
  case atStart => exact ⟨0, 0, by omega, rfl, rfl⟩
  case round =>
    obtain ⟨k, m, hk, rfl, rfl⟩ := hrel
    rcases Nat.lt_or_eq_of_le hk with hlt | rfl
    · rcases H1.out.cells with h0 | ⟨b, o, rfl, hb, hc⟩
      · rw [h0] at hlt; simp at hlt
      · rcases H2.out.cells with h0 | ⟨b', o', rfl, hb', hc'⟩
        · rw [h0] at hlt; simp at hlt
        · obtain ⟨c0, c1, c2⟩ := hc k hlt
          obtain ⟨d0, d1, d2⟩ := hc' k hlt
          have q1 : (k : Int) < (xs.length : Int) := by omega
          generalize xs[k] = x at *
          clear hc hc'
          go_wp2_with fail
          go_quiet (fail)
          go_wp2_with fail
          go_roundw
          case rel => exact ⟨k + 1, _, by omega, by go_num, rfl⟩
          case measure => simp [intOf]; omega
    · go_wp2_with fail
      go_ret
      exact ⟨rfl, below_drewN (Below.refl _ _) _⟩
end Go.Proofs.YtpaeemkdjgbejaaGreat.Rec
end

section
namespace Go.Proofs.YtpaeemkdjgbejaaGreat.Jrn
open Go.RowKit Go.Proofs.YtpaeemkdjgbejaaGreat.Own Go.Proofs.YtpaeemkdjgbejaaGreat.Sto Go.Proofs.YtpaeemkdjgbejaaGreat.Gen Go.Proofs.YtpaeemkdjgbejaaGreat.Flt
open Go.Proofs.YtpaeemkdjgbejaaGreat.Rec (Itm chk bytesOf flat cv cv_len cv_app Its)

def eqIt (x y : Itm) : Bool := x.k == y.k && (x.a == y.a && x.b.toList == y.b.toList)
theorem itm_neq (x y : Itm) : ∀ W, (binOp .neq 36 (.agg #[.int .i64 x.k, .int .i64 x.a, .string x.b]) (.agg #[.int .i64 y.k, .int .i64 y.a, .string y.b])).run Tryz.prog W = .ok (.bool (!eqIt x y)) W := by
  intro W
  unfold eqIt
  simp [go_sem]
  repeat' split
  all_goals simp [*]
def SmPost (xs ys : List Itm) (w : World) (e : Ending) (w' : World) : Prop := ∃ v, e = .returned (.bool v) ∧ (xs = ys → v = true) ∧ Below w.heap.size w w'
set_option maxRecDepth 100000 in
set_option maxHeartbeats 4000000 in
/-- as many items, of which some differ -/
theorem rsame_no (xs ys : List Itm) (n : Nat) (hx : xs.length = n) (hy : ys.length = n) (hne : xs ≠ ys) (p q : Option Addr) (c d : Nat) (w : World) (h1 : Its w xs p c) (h2 : Its w ys q d) :
    Calls Tryz.prog 32 #[.slice p n c, .slice q n d] w (SmPost xs ys w) := by
  have hc1 := h1.cap
  have hm1 := h1.max
  unfold maxLen at hm1
  have q2 : (n : Int) ≤ 9223372036854775807 := by omega
  have H1 := Lib.hid h1
  have H2 := Lib.hid h2
  have HX := Lib.hid hx
  have HY := Lib.hid hy
  have HF := Lib.hid (show ∀ (v : Bool) (W : World), Below w.heap.size w W → SmPost xs ys w (.returned (.bool v)) W from fun v W hb => ⟨v, rfl, fun e => absurd e hne, hb⟩)
  clear h1 h2 hx hy hne
  go_enter Tryz.func32, Tryz.ntmps32
  go_wp2_with fail
  go_loopw [5] (fun i wr => ∃ k m : Nat, k ≤ n ∧ i = .int .i64 k ∧ wr = w.drewN m) (fun i _ => n - (intOf i).toNat)
  case atStart => exact ⟨0, 0, by omega, rfl, rfl⟩
  case round =>
    obtain ⟨k, m, hk, rfl, rfl⟩ := hrel
    rcases Nat.lt_or_eq_of_le hk with hlt | rfl
    · rcases H1.out.cells with h0 | ⟨b, o, rfl, hb, hc⟩
      · rw [← HX.out, h0] at hlt; simp at hlt
      · rcases H2.out.cells with h0 | ⟨b', o', rfl, hb', hc'⟩
        · rw [← HY.out, h0] at hlt; simp at hlt
        · obtain ⟨c0, c1, c2⟩ := hc k (by rw [HX.out]; exact hlt)
          obtain ⟨d0, d1, d2⟩ := hc' k (by rw [HY.out]; exact hlt)
          have q1 : (k : Int) < (n : Int) := by omega
          generalize xs[k]'(by rw [HX.out]; exact hlt) = x at *
          generalize ys[k]'(by rw [HY.out]; exact hlt) = y at *
          have hq := itm_neq x y
          generalize eqIt x y = q at *
          clear hc hc'
          cases q with
          | true =>
            rw [Bool.not_true] at hq
            go_wp2_with fail
            go_quiet (fail)
            go_wp2_with fail
            go_roundw
            case rel => exact ⟨k + 1, _, by omega, by go_num, rfl⟩
            case measure => simp [intOf]; omega
          | false =>
            rw [Bool.not_false] at hq
            go_wp2_with fail
            go_quiet (fail)
            go_wp2_with fail
            go_ret
            exact HF.out _ _ ⟨rfl, rfl, rfl, Nat.le_refl _, fun _ _ => rfl⟩
    · go_wp2_with fail
      go_ret
      exact HF.out _ _ ⟨rfl, rfl, rfl, Nat.le_refl _, fun _ _ => rfl⟩
theorem same_any (xs ys : List Itm) (n : Nat) (hx : xs.length = n) (hy : ys.length = n) (p q : Option Addr) (c d : Nat) (w : World) (h1 : Its w xs p c) (h2 : Its w ys q d) :
    Calls Tryz.prog 32 #[.slice p n c, .slice q n d] w (SmPost xs ys w) := by
  by_cases he : xs = ys
  · subst he hx
    exact (Rec.rsame_calls xs p q c d w h1 h2).mono fun e w' h => ⟨true, h.1, fun _ => rfl, h.2⟩
  · exact rsame_no xs ys n hx hy he p q c d w h1 h2
/-- items out of the middle -/
theorem cut_mid (p : Option Addr) (xs : List Itm) (c k m : Nat) (hk : k + m ≤ xs.length) (hc : xs.length ≤ c) (W : World) :
    (Instr.sliceAt 34 (.slice p xs.length c) (some (.int .i64 (k : Int))) (some (.int .i64 ((k + m : Nat) : Int))) none).run Tryz.prog W = .ok (sliced p k (k + m) c 3) W := by
  have ht : Tryz.prog.underlying 34 = some (.slice (Tryz.prog.elem 34)) := by kernel_rfl
  have he : Tryz.prog.elem 34 = 36 := by kernel_rfl
  obtain ⟨i0, hi, hz0, hz1, hz2⟩ := info_parts Rec.info_item
  rw [run_sliceAt_slice W _ _ _ _ _ ht, run_slice_lh W _ _ _ _ ht .i64 .i64 _ _ (by omega) (by omega) (by omega), he]
  have hs : (sizeOf 36).run Tryz.prog W = .ok 3 W := by simp [sizeOf, typeInfo, hi, hz1]
  rw [hs]
  simp only [Result.andThen, Int.toNat_natCast]
theorem its_mid {w : World} {xs : List Itm} {p : Option Addr} {c k m : Nat} (h : Its w xs p c) (hk : k + m ≤ xs.length) : ∃ q d, sliced p k (k + m) c 3 = .slice q m d ∧ Its w ((xs.drop k).take m) q d := by
  have hcap := h.cap
  have hmax := h.max
  have hl : ((xs.drop k).take m).length = m := by rw [List.length_take, List.length_drop]; omega
  refine ⟨if c = k then p else p.map (·.add (k * 3)), c - k, by unfold sliced; rw [show k + m - k = m by omega], by rw [hl]; omega, by omega, ?_⟩
  by_cases hm : m = 0
  · left; subst hm; simp
  · rcases h.cells with rfl | ⟨b, o, rfl, hb, hc⟩
    · simp at hk; omega
    · refine .inr ⟨b, o + k * 3, by rw [if_neg (by omega)]; simp [Addr.add], hb, fun i hi => ?_⟩
      rw [hl] at hi
      have := hc (k + i) (by omega)
      have e : ((xs.drop k).take m)[i]'(by rw [hl]; exact hi) = xs[k + i]'(by omega) := by simp
      rw [e, show o + k * 3 + i * 3 = o + (k + i) * 3 by omega]
      exact this

set_option maxRecDepth 100000 in
set_option maxHeartbeats 4000000 in
theorem within_calls (l row : List Itm) (nl nr : Nat) (hl : nl = l.length) (hr : nr = row.length) (n : Int) (n0 : 0 ≤ n) (n1 : n ≤ 1000) (hn : nr ≤ 1000) (k0 : Nat) (h1 : k0 + nl ≤ nr) (h2 : n ≤ k0 + nl) (h3 : (row.drop k0).take nl = l)
    (p q : Option Addr) (c d : Nat) (w : World) (hI : Its w l p c) (hR : Its w row q d) :
    Calls Tryz.prog 14 #[.slice p nl c, .slice q nr d, .int .i64 n] w fun e w' => e = .returned (.bool true) ∧ Below w.heap.size w w' := by
  have HI := Lib.hid hI
  have HR := Lib.hid hR
  have HL := Lib.hid hl
  have HN := Lib.hid hr
  have H3 := Lib.hid h3
  have hc1 := hI.cap
  have hc2 := hR.cap
  have hm1 := hI.max
  have hm2 := hR.max
  rw [← hl] at hc1
  rw [← hr] at hc2
  unfold maxLen at hm1 hm2
  clear hI hR hl hr h3
  go_enter Tryz.func14, Tryz.ntmps14
  go_wp2_with fail
  go_loopw [7] (fun i wr => ∃ k : Nat, k ≤ k0 ∧ i = .int .i64 k ∧ Below w.heap.size w wr) (fun i _ => k0 + 1 - (intOf i).toNat)
  case atStart => exact ⟨0, Nat.zero_le _, rfl, Below.refl _ _⟩
  case round =>
    obtain ⟨k, hk, rfl, hb⟩ := hrel
    rename World => wr
    have HB := Lib.hid hb
    have HIr := Lib.hid (HI.out.kept hb)
    have HRr := Lib.hid (HR.out.kept hb)
    clear hb
    have q1 : (k : Int) ≤ (nr : Int) - (nl : Int) := by omega
    have q3 : k + nl ≤ nr := by omega
    by_cases hge : n ≤ (k : Int) + (nl : Int)
    · have hcm := fun W => cut_mid q row d k nl (by rw [← HN.out]; exact q3) (by rw [← HN.out]; exact hc2) W
      obtain ⟨q2, d2, e2, hI2⟩ := its_mid HRr.out (k := k) (m := nl) (by rw [← HN.out]; exact q3)
      rw [e2, ← HN.out] at hcm
      have hcm2 : ∀ W, (Instr.sliceAt 34 (.slice q nr d) (some (.int .i64 (k : Int))) (some (.int .i64 ((k : Int) + (nl : Int)))) none).run Tryz.prog W = .ok (.slice q2 nl d2) W := fun W => by have := hcm W; rwa [Int.natCast_add] at this
      have HSA := Lib.hid (same_any l _ nl HL.out.symm (by rw [List.length_take, List.length_drop, ← HN.out]; omega) p q2 c d2 wr HIr.out hI2)
      clear hcm e2 hI2
      go_wp2_with fail
      refine HSA.out.mono ?_
      rintro e w5 ⟨v, rfl, hv, hb5⟩
      have HB5 := Lib.hid (HB.out.trans (hb5.mono HB.out.size))
      clear hb5
      cases v with
      | true =>
        clear hv
        go_wp2_with fail
        go_ret
        exact ⟨rfl, HB5.out⟩
      | false =>
        have hne : k ≠ k0 := fun e => by
          subst e
          exact absurd (hv H3.out.symm) (by decide)
        clear hv
        go_wp2_with fail
        go_roundw
        case rel => exact ⟨k + 1, by omega, by go_num, HB5.out⟩
        case measure => simp [intOf]; omega
    · have hne : k ≠ k0 := fun e => by omega
      go_wp2_with fail
      go_roundw
      case rel => exact ⟨k + 1, by omega, by go_num, HB.out⟩
      case measure => simp [intOf]; omega
end Go.Proofs.YtpaeemkdjgbejaaGreat.Jrn
end

section
namespace Go.Proofs.YtpaeemkdjgbejaaGreat.Sto
open Go.RowKit Go.Proofs.YtpaeemkdjgbejaaGreat.Own Go.Proofs.YtpaeemkdjgbejaaGreat.KM Go.Proofs.YtpaeemkdjgbejaaGreat.Flt
open Go.Proofs.YtpaeemkdjgbejaaGreat.Rw (str strs)
open Go.Sort Go.WideElems

/-- a map's value as it stands -/
def hold (v : Value) : Option (DataW Value × List MemPlace) := some (.held v, [])

section
variable {w : World} {bs : Nat → Prop} {b m : Nat} {V : List En} {most total bad : Int}
theorem key_of {kv : Value} {l : Lit} (h : keyOf Tryz.prog 9 kv = some l) {a : Bs} (e : kv = str a) : l = .string a := by
  subst e
  simp only [keyOf, Tryz.underlying9, str, mapKey] at h
  split at h
  · cases h; rfl
  · cases h
theorem hold_rd {x : MapEntry} {l : Lit} (h : keyOf Tryz.prog 9 x.key = some l) : WideElems.rd Tryz.prog 9 hold x = some (l, .held x.val) := by
  unfold WideElems.rd hold
  rw [h]; rfl
theorem KMap.count {w : World} {b n : Nat} {V : List En} (h : KMap Tryz.prog 9 str w b (look V) n) (hr : Rise enm V) : n = V.length := by
  obtain ⟨es, clock, hb, hn, hst, hks, h1, h2⟩ := h.is
  let f : MapEntry → Bs := fun x => match x.key with | .string s => s.data.toList | _ => []
  have hf : ∀ x ∈ es.toList, x.key = str (f x) := by
    intro x hx
    obtain ⟨a, ha, _⟩ := h1 x hx
    show x.key = str (match x.key with | .string s => s.data.toList | _ => [])
    rw [ha]; rfl
  have hp : (es.toList.map f).Perm (V.map enm) := by
    refine (List.perm_ext_iff_of_nodup ?_ ?_).2 fun y => ?_
    · have hk := hst.2.2
      unfold List.Nodup at hk ⊢
      rw [List.pairwise_map] at hk ⊢
      refine hk.imp_of_mem fun {x y} hx hy hne e => hne ?_
      rw [hf x hx, hf y hy, e]
    · unfold List.Nodup
      rw [List.pairwise_map]
      exact hr.imp fun hlt e => by
        rw [e] at hlt
        exact List.lt_irrefl _ hlt
    · rw [List.mem_map, List.mem_map]
      constructor
      · rintro ⟨x, hx, rfl⟩
        obtain ⟨a, ha, hv⟩ := h1 x hx
        obtain rfl : f x = a := str_inj _ _ ((hf x hx).symm.trans ha)
        unfold look at hv
        cases hl : lk enm V (f x) with
        | none => rw [hl] at hv; cases hv
        | some z => exact ⟨z, (lk_some hl).1, (lk_some hl).2⟩
      · rintro ⟨z, hz, rfl⟩
        obtain ⟨x, hx, hk, _⟩ := h2 (enm z) z.val (by unfold look; rw [(hr.lk).2 ⟨hz, rfl⟩]; rfl)
        exact ⟨x, hx, str_inj _ _ ((hf x hx).symm.trans hk)⟩
  have := hp.length_eq
  rw [List.length_map, List.length_map, Array.length_toList] at this
  omega
theorem Base.owns (h : Base w bs b m V most total bad) (hV : V.length ≤ maxLen) : ∃ D : DataW Value, w.ownsMap Tryz.prog 9 hold m V.length D ∧ (strKeys D).Perm (V.map enm) ∧ Maps.size D = V.length ∧
    (∀ a, Maps.has D (.string a) = (look V a).isSome) ∧ ∀ a v, (∀ zd, D.atKey (.string a) zd = .held v) → look V a = some v := by
  obtain ⟨es, clock, hb, hn, hst, hks, h1, h2⟩ := h.map.is
  have F : Fit Tryz.prog 9 hold es clock := ⟨by omega, hst, fun x hx => by obtain ⟨l, hl⟩ := hks x hx; exact ⟨_, hold_rd hl⟩⟩
  have hO : w.ownsMap Tryz.prog 9 hold m V.length (.map ((es.toList.map (rg Tryz.prog 9 hold)).foldr DataW.insert [])) := ⟨es, clock, hb, F, by omega, rfl⟩
  have hrg : ∀ x ∈ es.toList, ∃ a, x.key = str a ∧ look V a = some x.val ∧ rg Tryz.prog 9 hold x = (.string a, .held x.val) := by
    intro x hx
    obtain ⟨a, ha, hv⟩ := h1 x hx
    obtain ⟨l, hl⟩ := hks x hx
    refine ⟨a, ha, hv, ?_⟩
    rw [rg_of (hold_rd hl), key_of hl ha]
  have hf : ∀ x ∈ es.toList, x.key = str (strOf (rg Tryz.prog 9 hold x).1) := by
    intro x hx
    obtain ⟨a, ha, _, e⟩ := hrg x hx
    rw [e]; exact ha
  have hp : (es.toList.map (fun x => strOf (rg Tryz.prog 9 hold x).1)).Perm (V.map enm) := by
    refine (List.perm_ext_iff_of_nodup ?_ ?_).2 fun y => ?_
    · have hk := hst.2.2
      unfold List.Nodup at hk ⊢
      rw [List.pairwise_map] at hk ⊢
      refine hk.imp_of_mem fun {x y} hx hy hne e => hne ?_
      rw [hf x hx, hf y hy, e]
    · unfold List.Nodup
      rw [List.pairwise_map]
      exact h.rise.imp fun hlt e => by
        rw [e] at hlt
        exact List.lt_irrefl _ hlt
    · rw [List.mem_map, List.mem_map]
      constructor
      · rintro ⟨x, hx, rfl⟩
        obtain ⟨a, ha, hv, e⟩ := hrg x hx
        rw [e]
        unfold look at hv
        cases hl : lk enm V a with
        | none => rw [hl] at hv; cases hv
        | some z => exact ⟨z, (lk_some hl).1, (lk_some hl).2⟩
      · rintro ⟨z, hz, rfl⟩
        obtain ⟨x, hx, hk, _⟩ := h2 (enm z) z.val (by unfold look; rw [(h.rise.lk).2 ⟨hz, rfl⟩]; rfl)
        refine ⟨x, hx, ?_⟩
        obtain ⟨a, ha, _, e⟩ := hrg x hx
        rw [e]
        exact (str_inj _ _ (ha.symm.trans hk))
  have hin : ∀ a, Maps.has (.map ((es.toList.map (rg Tryz.prog 9 hold)).foldr DataW.insert [])) (.string a) = true → ∃ v, look V a = some v ∧ (Lit.string a, DataW.held v) ∈ (es.toList.map (rg Tryz.prog 9 hold)).foldr DataW.insert [] := by
    intro a hhas
    obtain ⟨p, hp1, hp2⟩ := List.any_eq_true.1 hhas
    have hp3 := mem_sorted.1 hp1
    obtain ⟨x, hx, rfl⟩ := List.mem_map.1 hp3
    obtain ⟨a', ha, hv, e⟩ := hrg x hx
    rw [e] at hp2 hp1
    have e2 : a' = a := by simpa [Lit.sameKey] using hp2
    subst e2
    exact ⟨_, hv, hp1⟩
  refine ⟨_, hO, ?_, ?_, fun a => ?_, fun a v hat => ?_⟩
  · refine List.Perm.trans ?_ hp
    have := (WideShapes.sorted_perm (es.toList.map (rg Tryz.prog 9 hold))).map (fun p => strOf p.1)
    rw [List.map_map] at this
    simp only [Function.comp_def] at this
    unfold strKeys
    exact this
  · show (List.foldr DataW.insert [] _).length = _
    rw [(WideShapes.sorted_perm _).length_eq, List.length_map, Array.length_toList, hn]
  · cases hl : look V a with
    | none =>
      cases hh : Maps.has (.map ((es.toList.map (rg Tryz.prog 9 hold)).foldr DataW.insert [])) (.string a) with
      | false => rfl
      | true => obtain ⟨v, hv, _⟩ := hin a hh; rw [hl] at hv; cases hv
    | some v =>
      obtain ⟨x, hx, hk, _⟩ := h2 a v hl
      obtain ⟨a', ha, _, e⟩ := hrg x hx
      obtain rfl : a' = a := str_inj _ _ (ha.symm.trans hk)
      exact List.any_eq_true.2 ⟨_, mem_sorted.2 (List.mem_map.2 ⟨x, hx, e⟩), by simp [Lit.sameKey]⟩
  · have hhas := Maps.has_true_of_atKey hat
    obtain ⟨v', hv, hm⟩ := hin a hhas
    have e1 := hat .nil
    obtain ⟨es', he', hs, hk⟩ := hO.canon keyed
    cases he'
    rw [WideAt.atKey_mem .nil (hk _ hm) (Maps.apart_of_rising hs) hm] at e1
    cases e1
    exact hv
theorem sort_of {ss N : List Bs} (h : ss.Perm N) (hN : N.Pairwise (· < ·)) : ss.mergeSort (fun x y => decide (x ≤ y)) = N := by
  have h1 : (ss.mergeSort (fun x y => decide (x ≤ y))).Perm N := (List.mergeSort_perm _ _).trans h
  have h2 := List.pairwise_mergeSort (le := fun x y : Bs => decide (x ≤ y)) (fun a b c h k => by simp at h k ⊢; exact List.le_trans h k) (fun a b => by simp; exact List.le_total a b) ss
  refine List.Perm.eq_of_pairwise (le := fun x y => x ≤ y) (fun x y _ _ h1 h2 => List.le_antisymm h1 h2) (h2.imp fun h => by simpa using h) (hN.imp fun h => List.le_of_lt h) h1

set_option maxRecDepth 100000 in
set_option maxHeartbeats 1000000 in
theorem names_calls (h : Base w bs b m V most total bad) (hV : V.length ≤ 1000000) :
    Calls Tryz.prog 37 #[.pointer (some ⟨b, 0, none⟩)] w fun e w' => ∃ v, e = .returned v ∧ w'.ownsRow w.heap.size 9 1 v V.length (strs (V.map enm)) ∧ Below w.heap.size w w' := by
  obtain ⟨D, hO, hP, hS, _⟩ := h.owns (by unfold maxLen; omega)
  have c0 := (at_cell h.box 0 : _ = some _)
  have hK := fun W => callsIn_wide.1 (Tryz.maps_Keys_52 (some m) W)
  have hR := Lib.hid (callsIn_wide.1 (Tryz.slices_Sorted_keys_51_52 m V.length D hold w hO (by rw [hS]; unfold maxLen; omega) (by rw [hS]; omega)))
  have hN := Lib.hid (show (V.map enm).Pairwise (· < ·) by rw [List.pairwise_map]; exact h.rise)
  have HP := Lib.hid hP
  clear h hO hS hP
  go_enter Tryz.func37, Tryz.ntmps37
  go_wp2_with (first
    | (go_at_call 30; refine (made_some _ _ _ c0).mono ?_; rintro e w' ⟨rfl, rfl⟩)
    | (go_at_call 52; refine (hK _).mono ?_; rintro e w' ⟨rfl, rfl⟩)
    | (go_at_call 51; refine hR.out.mono ?_; rintro e w2 ⟨v, ss, rfl, p1, p2, -, p3⟩; replace p1 := Lib.hid p1; replace p2 := Lib.hid p2; replace p3 := Lib.hid p3))
  go_ret
  have e1 := p1.out.trans HP.out
  have e2 := p2.out
  rw [sort_of e1 hN.out, show ss.length = V.length by rw [e1.length_eq, List.length_map]] at e2
  exact ⟨_, rfl, Rw.own_base e2 (by simp), ((Below.refl _ w).alloc (Nat.le_refl _) _).trans (p3.out.mono (by simp))⟩
end
end Go.Proofs.YtpaeemkdjgbejaaGreat.Sto
end


/-
  Layer 8 (record): the document's Read, walked.
-/
import Derived.Test.YtfdpmbnjjnmdiaaRecPuts
namespace Go.Proofs.Ytfdpmbnjjnmdiaa.Rec
open Go.RowKit Go.Proofs.Ytfdpmbnjjnmdiaa.Sum

theorem texts_same {p : ByteArray} {l : List UInt8} {c : Bool} (h : p.data.toList = l ↔ c = true) : (p.toList == l) = c := by
  rw [ByteArray.toList_eq, Bool.eq_iff_iff, beq_iff_eq, h]

set_option maxRecDepth 100000 in
set_option maxHeartbeats 2000000 in
theorem rread_calls (s : ByteArray) (hs : s.size ≤ 4611686018427387904) (w : World) :
    Calls Try.prog 13 #[.string s] w (ReadPost s w) := by
  rcases head_ways s with rfl | ⟨hz, hp, ⟨h1, e⟩ | ⟨h1, h2, e⟩ | ⟨h1, h10, hk, hx⟩⟩
  · have HE : Hid (rdC ByteArray.empty.data.toList = 13) := Lib.hid (rd_hd (by decide))
    go_enter Try.func13, Try.ntmps13
    go_wp2_with fail
    refine bodyPost_ret (v := .tuple #[.agg #[.int .i64 0, .int .i64 0, .string ⟨#[]⟩], .int .i64 0, .int .i64 13]) ?_ rfl (read_none HE.out (by decide) ((Below.refl _ _).alloc (Nat.le_refl _) _))
    simp [results, Try.results13, go_sem, *]
  · have HE := Lib.hid ((rd_hd (by rw [e]; decide)).trans e); clear e
    have b1 : ((s[0].toNat : Int) != 87) = true := by rw [bne, h1]; rfl
    go_enter Try.func13, Try.ntmps13
    go_wp2_with fail
    refine bodyPost_ret (v := .tuple #[.agg #[.int .i64 0, .int .i64 0, .string ⟨#[]⟩], .int .i64 0, .int .i64 3]) ?_ rfl (read_none HE.out (by decide) ((Below.refl _ _).alloc (Nat.le_refl _) _))
    simp [results, Try.results13, go_sem, *]
  · have HE := Lib.hid ((rd_hd (by rw [e]; decide)).trans e); clear e
    have b1 : ((s[0].toNat : Int) != 87) = false := by rw [bne, h1]; rfl
    go_enter Try.func13, Try.ntmps13
    go_wp2_with fail
    refine bodyPost_ret (v := .tuple #[.agg #[.int .i64 0, .int .i64 0, .string ⟨#[]⟩], .int .i64 0, .int .i64 13]) ?_ rfl (read_none HE.out (by decide) ((Below.refl _ _).alloc (Nat.le_refl _) _))
    simp [results, Try.results13, go_sem, *]
  · obtain ⟨⟨p, hp6, hpa, hpw⟩, q, hq6, hqn, hqw⟩ := parts_of s h10
    obtain ⟨c, hc⟩ : ∃ c, chk (hdI s.data.toList) = c := ⟨_, rfl⟩
    rw [hc] at hx
    unfold hdI at hc
    rw [hk, ← hpa] at hc
    have HC : Hid (chk ⟨(s[1].toNat : Int), be p.data.toList, ⟨#[]⟩⟩ = c) := Lib.hid hc
    have HN := Lib.hid hqn
    have HP := Lib.hid hpa
    have HK := Lib.hid hk
    have k1 : (1 : Int) < (s.size : Int) := by omega
    have k2 : (s[1].toNat : Int) < 256 := by have := s[1].toNat_lt; omega
    have b1 : ((s[0].toNat : Int) != 87) = false := by rw [bne, h1]; rfl
    have b2 : decide ((s.size : Int) < 10) = false := decide_eq_false (by omega)
    have kw : IntKind.i64.wrap (s[1].toNat : Int) = (s[1].toNat : Int) := IntWalk.i64_in _ (by omega)
    clear hc hqn hpa hk
    go_enter Try.func13, Try.ntmps13
    go_upto_region 7 with (fail)
    go_cut [5] (fun s5 wx => s5 = .pointer (some ⟨w.heap.size + 1, 0, none⟩) ∧ wx = ((w.alloc (.cells #[.int .i64 0, .int .i64 0, .string ⟨#[]⟩] 23)).alloc (.cells #[.int .i64 (s[1].toNat : Int), .int .i64 (be p.data.toList), .string ⟨#[]⟩] 23)).drew)
    case first =>
      go_region_held3 (fun w' => True)
        (first | trivial)
        (first
          | (go_at_call 26; refine (rnumber_calls _ hp6 _).mono ?_; rintro e w5 ⟨rfl, rfl⟩))
      all_goals (go_wp2_with fail; go_meet; exact ⟨rfl, rfl⟩)
    case rest =>
      obtain ⟨rfl, rfl⟩ := hcut
      go_wp2_with fail
      refine (rcheck_calls _ _ _ _).mono ?_
      rintro e w5 ⟨rfl, hb5⟩
      rw [HC.out]
      have hr : w5.heap[w.heap.size]? = some (.cells #[.int .i64 0, .int .i64 0, .string ⟨#[]⟩] 23 (0, 0)) := by
        rw [hb5.block w.heap.size (by simp; omega)]; show ((w.alloc _).alloc _).heap[_]? = _; exact Own.at_old _ _ (Own.at_new _ _)
      have hq : w5.heap[w.heap.size + 1]? = some (.cells #[.int .i64 (s[1].toNat : Int), .int .i64 (be p.data.toList), .string ⟨#[]⟩] 23 (0, 0)) := by
        rw [hb5.block (w.heap.size + 1) (by simp)]; show ((w.alloc _).alloc _).heap[_]? = _; exact Own.at_newk _ _ (by simp)
      have hB : Below w.heap.size w w5 := ((((Below.refl _ _).alloc (Nat.le_refl _) _).alloc (by simp) _).drew).trans (hb5.mono (by simp; omega))
      clear hb5
      obtain ⟨c0, c1, c2, f0, f1, f2⟩ := row3 hr
      obtain ⟨d0, d1, d2, g0, g1, g2⟩ := row3 hq
      have hl5 := Own.at_lt hq
      have HR := Lib.hid hr
      have HQ := Lib.hid hq
      clear hr hq
      rcases hx with ⟨hc0, e⟩ | ⟨hc0, hn, e⟩ | ⟨hc0, hn, e⟩
      · have HE := Lib.hid ((rd_hd (by rw [e]; exact hc0)).trans e); clear e
        have b3 : (c != 0) = true := by simpa using hc0
        have b4 : (c == 0) = false := by simpa using hc0
        go_wp2_with fail
        refine bodyPost_ret (v := .tuple #[.agg #[.int .i64 0, .int .i64 0, .string ⟨#[]⟩], .int .i64 0, .int .i64 c]) ?_ rfl (read_none HE.out hc0 (((hB.setCell (p := ⟨_, _, _⟩) (Nat.le_refl _) _).setCell (p := ⟨_, _, _⟩) (Nat.le_refl _) _).setCell (p := ⟨_, _, _⟩) (Nat.le_refl _) _))
        simp [results, Try.results13, go_sem, *]
      · have HE := Lib.hid ((rd_hd (by rw [e]; decide)).trans e); clear e
        subst hc0
        rw [← HN.out] at hn
        go_wp2_with (go_at_call 26; refine (rnumber_calls _ hq6 _).mono ?_; rintro e w' ⟨rfl, rfl⟩)
        refine bodyPost_ret (v := .tuple #[.agg #[.int .i64 0, .int .i64 0, .string ⟨#[]⟩], .int .i64 0, .int .i64 5]) ?_ rfl (read_none HE.out (by decide) (((hB.setCell (p := ⟨_, _, _⟩) (Nat.le_refl _) _).setCell (p := ⟨_, _, _⟩) (Nat.le_refl _) _).setCell (p := ⟨_, _, _⟩) (Nat.le_refl _) _))
        simp [results, Try.results13, go_sem, *]
      · subst hc0
        have hn0 := (ln_range s.data.toList).1
        by_cases h3 : 14 + ln s.data.toList ≤ (s.size : Int)
        · obtain ⟨⟨r, hrs, hrl, hrw⟩, b, hbl, hbw⟩ := rest_of s _ hn0 h3
          have hbI : rdI s.data.toList = ⟨(s[1].toNat : Int), be p.data.toList, b⟩ := by
            unfold rdI; rw [HK.out, HP.out, ba_of_list hbl]; rfl
          have hchk : chk ⟨(s[1].toNat : Int), be p.data.toList, b⟩ = 0 := by rw [← hbI]; exact chk_rdI e
          have hcmp : (r.toList == bytesOf ⟨(s[1].toNat : Int), be p.data.toList, b⟩) = fits r.data.toList := by
            have := put_back e h3
            rw [hbI] at this
            rw [← hrl] at this
            exact texts_same this
          have HPut := Lib.hid (putV_ok hchk)
          have HChk := Lib.hid hchk
          clear hchk hbI
          obtain ⟨f, hf⟩ : ∃ f, fits r.data.toList = f := ⟨_, rfl⟩
          rw [hf] at hcmp
          have HF := Lib.hid (show rdC s.data.toList = if f = true then 0 else 4 by
            cases f
            · rw [if_neg (by simp)]; exact rd_sum e h3 (by rw [← hrl]; exact hf)
            · rw [if_pos rfl]; exact rd_ok e h3 (by rw [← hrl]; exact hf))
          have HL : Hid (b = ⟨(bodyL s.data.toList).toArray⟩) := Lib.hid (ba_of_list hbl)
          clear e hrl hbl hf
          rw [← HN.out] at hn h3 hn0 hrw hbw
          have hcmp2 : (r.toList != bytesOf ⟨(s[1].toNat : Int), be p.data.toList, b⟩) = !f := by rw [bne, hcmp]
          cases f
          · have HE : Hid (rdC s.data.toList = 4) := Lib.hid (by rw [HF.out]; rfl)
            go_wp2_with (go_at_call 26; refine (rnumber_calls _ hq6 _).mono ?_; rintro e w' ⟨rfl, rfl⟩)
            refine (rput_calls _ _ _ _).mono ?_
            rintro e w6 ⟨rfl, hb6⟩
            rw [HPut.out]
            have hr6 : w6.heap[w.heap.size]? = some (.cells #[.int .i64 0, .int .i64 0, .string ⟨#[]⟩] 23 (0, 0)) := by
              rw [hb6.block w.heap.size (by simp [World.setCell]; omega)]; exact (Own.at_set_other _ (by omega) _ _).trans HR.out
            have hq6 : w6.heap[w.heap.size + 1]? = some (.cells #[.int .i64 (s[1].toNat : Int), .int .i64 (be p.data.toList), .string b] 23 (0, 0)) := by
              rw [hb6.block (w.heap.size + 1) (by simp [World.setCell]; omega), Own.at_set HQ.out]; rfl
            replace hB : Below w.heap.size w w6 := (hB.setCell (p := ⟨w.heap.size + 1, 2, none⟩) (Nat.le_succ _) (.string b)).trans (hb6.mono (by simp [World.setCell]; omega))
            clear hb6 c0 c1 c2 f0 f1 f2 d0 d1 d2 g0 g1 g2
            obtain ⟨c0, c1, c2, f0, f1, f2⟩ := row3 hr6
            obtain ⟨d0, d1, d2, g0, g1, g2⟩ := row3 hq6
            clear hr6 hq6
            go_wp2_with fail
            refine bodyPost_ret (v := .tuple #[.agg #[.int .i64 0, .int .i64 0, .string ⟨#[]⟩], .int .i64 0, .int .i64 4]) ?_ rfl (read_none HE.out (by decide) (((hB.setCell (p := ⟨_, _, _⟩) (Nat.le_refl _) _).setCell (p := ⟨_, _, _⟩) (Nat.le_refl _) _).setCell (p := ⟨_, _, _⟩) (Nat.le_refl _) _))
            simp [results, Try.results13, go_sem, *]
          · have HE : Hid (rdC s.data.toList = 0) := Lib.hid (by rw [HF.out]; rfl)
            go_wp2_with (go_at_call 26; refine (rnumber_calls _ hq6 _).mono ?_; rintro e w' ⟨rfl, rfl⟩)
            refine (rput_calls _ _ _ _).mono ?_
            rintro e w6 ⟨rfl, hb6⟩
            rw [HPut.out]
            have hr6 : w6.heap[w.heap.size]? = some (.cells #[.int .i64 0, .int .i64 0, .string ⟨#[]⟩] 23 (0, 0)) := by
              rw [hb6.block w.heap.size (by simp [World.setCell]; omega)]; exact (Own.at_set_other _ (by omega) _ _).trans HR.out
            have hq6 : w6.heap[w.heap.size + 1]? = some (.cells #[.int .i64 (s[1].toNat : Int), .int .i64 (be p.data.toList), .string b] 23 (0, 0)) := by
              rw [hb6.block (w.heap.size + 1) (by simp [World.setCell]; omega), Own.at_set HQ.out]; rfl
            replace hB : Below w.heap.size w w6 := (hB.setCell (p := ⟨w.heap.size + 1, 2, none⟩) (Nat.le_succ _) (.string b)).trans (hb6.mono (by simp [World.setCell]; omega))
            clear hb6 c0 c1 c2 f0 f1 f2 d0 d1 d2 g0 g1 g2
            obtain ⟨c0, c1, c2, f0, f1, f2⟩ := row3 hr6
            obtain ⟨d0, d1, d2, g0, g1, g2⟩ := row3 hq6
            clear hr6 hq6
            go_wp2_with fail
            refine bodyPost_ret (v := .tuple #[.agg #[.int .i64 (kd s.data.toList), .int .i64 (Rec.at_ s.data.toList), .string b], .int .i64 (14 + ln s.data.toList), .int .i64 0]) ?_ rfl (read_some HE.out HL.out (((hB.setCell (p := ⟨_, _, _⟩) (Nat.le_refl _) _).setCell (p := ⟨_, _, _⟩) (Nat.le_refl _) _).setCell (p := ⟨_, _, _⟩) (Nat.le_refl _) _))
            rw [HK.out, ← HP.out, ← HN.out]
            simp [results, Try.results13, go_sem, *]
        · have HE := Lib.hid (rd_cut e (show (s.data.toList.length : Int) < _ by rw [size_list]; omega)); clear e
          have h4 : (s.size : Int) < 14 + ln s.data.toList := by omega
          clear h3
          rw [← HN.out] at hn h4 hn0
          go_wp2_with (go_at_call 26; refine (rnumber_calls _ hq6 _).mono ?_; rintro e w' ⟨rfl, rfl⟩)
          refine bodyPost_ret (v := .tuple #[.agg #[.int .i64 0, .int .i64 0, .string ⟨#[]⟩], .int .i64 0, .int .i64 13]) ?_ rfl (read_none HE.out (by decide) (((hB.setCell (p := ⟨_, _, _⟩) (Nat.le_refl _) _).setCell (p := ⟨_, _, _⟩) (Nat.le_refl _) _).setCell (p := ⟨_, _, _⟩) (Nat.le_refl _) _))
          simp [results, Try.results13, go_sem, *]

end Go.Proofs.Ytfdpmbnjjnmdiaa.Rec

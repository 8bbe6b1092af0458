/-
  Layer 8 (record): Read, walked.
-/
import Derived.Test.YtfdpmbnjjnmdiaaRecHead
namespace Go.Proofs.Ytfdpmbnjjnmdiaa.Rec
open Go.RowKit Go.Proofs.Ytfdpmbnjjnmdiaa.Sum

theorem head_no (s : ByteArray) (hs : s.size ≤ 4611686018427387904) (h : hdC s.data.toList ≠ 0) (w : World) :
    Calls Try.prog 24 #[.string s] w fun e w' => e = .returned (.tuple #[.agg #[.int .i64 0, .int .i64 0, .string ⟨#[]⟩], .int .i64 0, .int .i64 (hdC s.data.toList)]) ∧ Below w.heap.size w w' :=
  (head_calls s hs w).mono fun e w' hp => by
    obtain ⟨rfl, hb⟩ := hp
    obtain ⟨e1, e2⟩ := hd_none h
    rw [e1, e2]; exact ⟨rfl, hb⟩
theorem head_yes (s : ByteArray) (hs : s.size ≤ 4611686018427387904) (h : hdC s.data.toList = 0) (w : World) :
    Calls Try.prog 24 #[.string s] w fun e w' => e = .returned (.tuple #[.agg #[.int .i64 (kd s.data.toList), .int .i64 (Rec.at_ s.data.toList), .string ⟨#[]⟩], .int .i64 (ln s.data.toList), .int .i64 0]) ∧ Below w.heap.size w w' :=
  (head_calls s hs w).mono fun e w' hp => by
    obtain ⟨rfl, hb⟩ := hp
    obtain ⟨e1, e2⟩ := hd_some h
    rw [e1, e2, h]; exact ⟨rfl, hb⟩

def ReadPost (s : ByteArray) (w : World) (e : Ending) (w' : World) : Prop :=
  e = .returned (.tuple #[.agg #[.int .i64 (rdX s.data.toList).k, .int .i64 (rdX s.data.toList).a, .string (rdX s.data.toList).b], .int .i64 (rdN s.data.toList), .int .i64 (rdC s.data.toList)]) ∧ Below w.heap.size w w'
theorem read_none {s : ByteArray} {w w' : World} {c : Int} (h : rdC s.data.toList = c) (hc : c ≠ 0) (hb : Below w.heap.size w w') : ReadPost s w (.returned (.tuple #[.agg #[.int .i64 0, .int .i64 0, .string ⟨#[]⟩], .int .i64 0, .int .i64 c])) w' := by
  obtain ⟨e1, e2⟩ := rd_none (l := s.data.toList) (by rw [h]; exact hc)
  exact ⟨by rw [e1, e2, h]; rfl, hb⟩
theorem read_some {s b : ByteArray} {w w' : World} (h : rdC s.data.toList = 0) (hbd : b = ⟨(bodyL s.data.toList).toArray⟩) (hb : Below w.heap.size w w') : ReadPost s w (.returned (.tuple #[.agg #[.int .i64 (kd s.data.toList), .int .i64 (Rec.at_ s.data.toList), .string b], .int .i64 (14 + ln s.data.toList), .int .i64 0])) w' := by
  obtain ⟨e1, e2⟩ := rd_some h
  exact ⟨by rw [e1, e2, h, hbd]; rfl, hb⟩

/-- what follows an item's head -/
structure Rest (s : ByteArray) (n : Int) : Prop where
  all : ∃ p : ByteArray, p.size ≤ s.size ∧ p.data.toList = s.data.toList.take (14 + n.toNat) ∧ ∀ W, (Instr.sliceAt 9 (.string s) none (some (.int .i64 (14 + n))) none).run Try.prog W = .ok (.string p) W
  body : ∃ b : ByteArray, b.data.toList = (s.data.toList.drop 10).take n.toNat ∧ ∀ W, (Instr.sliceAt 9 (.string s) (some (.int .i64 10)) (some (.int .i64 (10 + n))) none).run Try.prog W = .ok (.string b) W
theorem rest_of (s : ByteArray) (n : Int) (h0 : 0 ≤ n) (h : 14 + n ≤ s.size) : Rest s n :=
  ⟨⟨s.extract 0 (14 + n).toNat, by simp [ByteArray.size_extract]; omega, by rw [extract_list, List.drop_zero, show (14 + n).toNat = 14 + n.toNat by omega], fun W => cut_to 9 Try.underlying9 s _ (by omega) h W⟩,
   ⟨s.extract 10 (10 + n).toNat, by rw [mid_list, show (10 + n).toNat - 10 = n.toNat by omega], fun W => cut_mid 9 Try.underlying9 s 10 _ (by omega) (by omega) (by omega) W⟩⟩
theorem ba_of_list {b : ByteArray} {l : List UInt8} (h : b.data.toList = l) : b = ⟨l.toArray⟩ := by
  subst h; rw [Array.toArray_toList]

set_option maxRecDepth 100000 in
set_option maxHeartbeats 1000000 in
theorem read_calls (s : ByteArray) (hs : s.size ≤ 4611686018427387904) (w : World) :
    Calls Try.prog 12 #[.string s] w (ReadPost s w) := by
  by_cases h0 : hdC s.data.toList = 0
  · have hn0 := (ln_range s.data.toList).1
    have hn1 := (ln_range s.data.toList).2
    have HY := Lib.hid (head_yes s hs h0)
    by_cases h1 : 14 + ln s.data.toList ≤ (s.size : Int)
    · obtain ⟨⟨p, hps, hpl, hpw⟩, b, hbl, hbw⟩ := rest_of s _ hn0 h1
      cases hf : fits p.data.toList
      · have HE := Lib.hid (rd_sum h0 h1 (by rw [← hpl]; exact hf))
        clear h0 hbl hpl
        generalize ln s.data.toList = n at *
        go_enter Try.func12, Try.ntmps12
        go_wp2_with fail
        refine (HY.out _).mono ?_
        rintro e w5 ⟨rfl, hb5⟩
        have hr : w5.heap[w.heap.size]? = some (.cells #[.int .i64 0, .int .i64 0, .string ⟨#[]⟩] 23 (0, 0)) := by
          rw [hb5.block w.heap.size (by simp)]; exact Own.at_new _ _
        have hB : Below w.heap.size w w5 := ((Below.refl _ _).alloc (Nat.le_refl _) _).trans (hb5.mono (by simp))
        have n1 : w.heap.size < w5.heap.size := Own.at_lt hr
        clear hb5
        go_wp2_with (go_at_call 23; refine (whole_calls _ (by omega) (by omega) _).mono ?_; rintro e w' ⟨rfl, rfl⟩)
        refine (fits_calls p (by omega) _).mono ?_
        rintro e w6 ⟨rfl, hb6⟩
        rw [hf]
        have hr6 : w6.heap[w.heap.size]? = some (.cells #[.int .i64 0, .int .i64 0, .string ⟨#[]⟩] 23 (0, 0)) := by
          rw [hb6.block w.heap.size (by simp; omega)]; exact Own.at_old _ _ hr
        have hq6 : w6.heap[w5.heap.size]? = some (.cells #[.int .i64 (kd s.data.toList), .int .i64 (Rec.at_ s.data.toList), .string ⟨#[]⟩] 23 (0, 0)) := by
          rw [hb6.block w5.heap.size (by simp)]; exact Own.at_new _ _
        replace hB : Below w.heap.size w w6 := (hB.alloc (by omega) _).trans (hb6.mono (by simp; omega))
        clear hb6 hr
        obtain ⟨c0, c1, c2, f0, f1, f2⟩ := row3 hr6
        obtain ⟨d0, d1, d2, g0, g1, g2⟩ := row3 hq6
        have hlt6 : w5.heap.size < w6.heap.size := Own.at_lt hq6
        clear hr6 hq6
        generalize w5.heap.size = g at *
        have n2 : g ≠ w.heap.size := by omega
        have n3 : w.heap.size ≠ g := by omega
        go_wp2_with fail
        refine bodyPost_ret (v := .tuple #[.agg #[.int .i64 0, .int .i64 0, .string ⟨#[]⟩], .int .i64 0, .int .i64 4]) ?_ rfl (read_none HE.out (by decide) (((hB.setCell (p := ⟨_, _, _⟩) (Nat.le_refl _) _).setCell (p := ⟨_, _, _⟩) (Nat.le_refl _) _).setCell (p := ⟨_, _, _⟩) (Nat.le_refl _) _))
        simp [results, Try.results12, go_sem, *]
      · have HE := Lib.hid (rd_ok h0 h1 (by rw [← hpl]; exact hf))
        have HL : Hid (b = ⟨(bodyL s.data.toList).toArray⟩) := Lib.hid (ba_of_list hbl)
        obtain ⟨n, hn⟩ : ∃ n, ln s.data.toList = n := ⟨_, rfl⟩
        rw [hn] at hn0 hn1 HY h1 hpw hbw
        have HN := Lib.hid hn
        clear h0 hbl hpl hn
        go_enter Try.func12, Try.ntmps12
        go_wp2_with fail
        refine (HY.out _).mono ?_
        rintro e w5 ⟨rfl, hb5⟩
        have hr : w5.heap[w.heap.size]? = some (.cells #[.int .i64 0, .int .i64 0, .string ⟨#[]⟩] 23 (0, 0)) := by
          rw [hb5.block w.heap.size (by simp)]; exact Own.at_new _ _
        have hB : Below w.heap.size w w5 := ((Below.refl _ _).alloc (Nat.le_refl _) _).trans (hb5.mono (by simp))
        have n1 : w.heap.size < w5.heap.size := Own.at_lt hr
        clear hb5
        go_wp2_with (go_at_call 23; refine (whole_calls _ (by omega) (by omega) _).mono ?_; rintro e w' ⟨rfl, rfl⟩)
        refine (fits_calls p (by omega) _).mono ?_
        rintro e w6 ⟨rfl, hb6⟩
        rw [hf]
        have hr6 : w6.heap[w.heap.size]? = some (.cells #[.int .i64 0, .int .i64 0, .string ⟨#[]⟩] 23 (0, 0)) := by
          rw [hb6.block w.heap.size (by simp; omega)]; exact Own.at_old _ _ hr
        have hq6 : w6.heap[w5.heap.size]? = some (.cells #[.int .i64 (kd s.data.toList), .int .i64 (Rec.at_ s.data.toList), .string ⟨#[]⟩] 23 (0, 0)) := by
          rw [hb6.block w5.heap.size (by simp)]; exact Own.at_new _ _
        replace hB : Below w.heap.size w w6 := (hB.alloc (by omega) _).trans (hb6.mono (by simp; omega))
        clear hb6 hr
        obtain ⟨c0, c1, c2, f0, f1, f2⟩ := row3 hr6
        obtain ⟨d0, d1, d2, g0, g1, g2⟩ := row3 hq6
        have hlt6 : w5.heap.size < w6.heap.size := Own.at_lt hq6
        clear hr6 hq6
        generalize w5.heap.size = g at *
        have n2 : g ≠ w.heap.size := by omega
        have n3 : w.heap.size ≠ g := by omega
        go_wp2_with fail
        refine bodyPost_ret (v := .tuple #[.agg #[.int .i64 (kd s.data.toList), .int .i64 (Rec.at_ s.data.toList), .string b], .int .i64 (14 + ln s.data.toList), .int .i64 0]) ?_ rfl (read_some HE.out HL.out (by first | exact hB | exact ((((hB.setCell (p := ⟨_, _, _⟩) (by simp; omega) _).setCell (p := ⟨_, _, _⟩) (Nat.le_refl _) _).setCell (p := ⟨_, _, _⟩) (Nat.le_refl _) _).setCell (p := ⟨_, _, _⟩) (Nat.le_refl _) _)))
        rw [HN.out]
        simp [results, Try.results12, go_sem, *]
    · have HE := Lib.hid (rd_cut h0 (show (s.data.toList.length : Int) < _ by rw [size_list]; omega))
      have h2 : (s.size : Int) < 14 + ln s.data.toList := by omega
      clear h0 h1
      generalize ln s.data.toList = n at *
      go_enter Try.func12, Try.ntmps12
      go_wp2_with fail
      refine (HY.out _).mono ?_
      rintro e w5 ⟨rfl, hb5⟩
      have hr : w5.heap[w.heap.size]? = some (.cells #[.int .i64 0, .int .i64 0, .string ⟨#[]⟩] 23 (0, 0)) := by
        rw [hb5.block w.heap.size (by simp)]; exact Own.at_new _ _
      have hB : Below w.heap.size w w5 := ((Below.refl _ _).alloc (Nat.le_refl _) _).trans (hb5.mono (by simp))
      have n1 : w.heap.size < w5.heap.size := Own.at_lt hr
      clear hb5
      obtain ⟨c0, c1, c2, f0, f1, f2⟩ := row3 hr
      clear hr
      go_wp2_with (go_at_call 23; refine (whole_calls _ (by omega) (by omega) _).mono ?_; rintro e w' ⟨rfl, rfl⟩)
      refine bodyPost_ret (v := .tuple #[.agg #[.int .i64 0, .int .i64 0, .string ⟨#[]⟩], .int .i64 0, .int .i64 13]) ?_ rfl (read_none HE.out (by decide) ((((hB.setCell (p := ⟨_, _, _⟩) (Nat.le_refl _) _).setCell (p := ⟨_, _, _⟩) (Nat.le_refl _) _).setCell (p := ⟨_, _, _⟩) (Nat.le_refl _) _).alloc (by simp; omega) _))
      simp [results, Try.results12, go_sem, *]
  · have HE := Lib.hid (rd_hd h0)
    have HY := Lib.hid (head_no s hs h0)
    generalize hdC s.data.toList = c at h0 HE HY
    have b3 : (c != 0) = true := by simpa using h0
    go_enter Try.func12, Try.ntmps12
    go_wp2_with fail
    refine (HY.out _).mono ?_
    rintro e w5 ⟨rfl, hb5⟩
    have hr : w5.heap[w.heap.size]? = some (.cells #[.int .i64 0, .int .i64 0, .string ⟨#[]⟩] 23 (0, 0)) := by
      rw [hb5.block w.heap.size (by simp)]; exact Own.at_new _ _
    have hB : Below w.heap.size w w5 := ((Below.refl _ _).alloc (Nat.le_refl _) _).trans (hb5.mono (by simp))
    have n1 : w.heap.size < w5.heap.size := Own.at_lt hr
    clear hb5
    obtain ⟨c0, c1, c2, f0, f1, f2⟩ := row3 hr
    clear hr
    go_wp2_with fail
    refine bodyPost_ret (v := .tuple #[.agg #[.int .i64 0, .int .i64 0, .string ⟨#[]⟩], .int .i64 0, .int .i64 c]) ?_ rfl (read_none HE.out h0 ((((hB.setCell (p := ⟨_, _, _⟩) (Nat.le_refl _) _).setCell (p := ⟨_, _, _⟩) (Nat.le_refl _) _).setCell (p := ⟨_, _, _⟩) (Nat.le_refl _) _).alloc (by simp; omega) _))
    simp [results, Try.results12, go_sem, *]

end Go.Proofs.Ytfdpmbnjjnmdiaa.Rec

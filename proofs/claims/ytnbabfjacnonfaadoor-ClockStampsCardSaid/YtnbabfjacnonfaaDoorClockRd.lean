/-
  Layer 3 (clock): the program's Read, walked.
-/
import Derived.Test.YtnbabfjacnonfaaDoorClockNumber
import Derived.Deep.QuietTactic
import Derived.BigQuiet
import Derived.WalkSmall
namespace Go.Proofs.YtnbabfjacnonfaaDoor.Clock
open Go.RowKit Go.Proofs.YtnbabfjacnonfaaDoor.Digit

theorem read_short (s : ByteArray) (h : ¬ s.size = 19) (w : World) :
    Calls Tryd.prog 16 #[.string s] w fun e w' => e = .returned (.tuple #[.int .i64 0, .int .i64 3]) ∧ Below w.heap.size w w' := by
  have e1 : ((s.size : Int) != 19) = true := by simp; omega
  have e2 : ((s.size : Int) == 19) = false := by simp; omega
  clear h
  go_enter Tryd.func16, Tryd.ntmps16
  go_wp2_with fail
  go_ret2
  exact ⟨rfl, Below.refl _ _⟩

theorem cut_to {P : Program} (t : TypeId) (ht : P.underlying t = some .string) (s : ByteArray) (j : Int) (h0 : 0 ≤ j) (h : j ≤ s.size) (W : World) :
    (Instr.sliceAt t (.string s) none (some (.int .i64 j)) none).run P W = .ok (.string (s.extract 0 j.toNat)) W := by
  rw [run_sliceAt_string W t _ _ _ _ ht, run_slice_string_to_if W t s .i64 j ht, if_pos ⟨h0, h⟩]
theorem cut_from {P : Program} (t : TypeId) (ht : P.underlying t = some .string) (s : ByteArray) (i : Int) (h0 : 0 ≤ i) (h : i ≤ s.size) (W : World) :
    (Instr.sliceAt t (.string s) (some (.int .i64 i)) none none).run P W = .ok (.string (s.extract i.toNat s.size)) W := by
  rw [run_sliceAt_string W t _ _ _ _ ht, run_slice_string_from_if W t s .i64 i ht, if_pos ⟨h0, h⟩]
theorem cut_mid {P : Program} (t : TypeId) (ht : P.underlying t = some .string) (s : ByteArray) (i j : Int) (h0 : 0 ≤ i) (h1 : i ≤ j) (h : j ≤ s.size) (W : World) :
    (Instr.sliceAt t (.string s) (some (.int .i64 i)) (some (.int .i64 j)) none).run P W = .ok (.string (s.extract i.toNat j.toNat)) W := by
  rw [run_sliceAt_string W t _ _ _ _ ht, run_slice_string W t s .i64 .i64 i j ht h0 h1 h]

/-- the pieces of a text of 19 signs -/
structure Cuts (s p1 p2 p3 p4 p5 p6 : ByteArray) : Prop where
  c1 : ∀ W, (Instr.sliceAt 9 (.string s) none (some (.int .i64 4)) none).run Tryd.prog W = .ok (.string p1) W
  c2 : ∀ W, (Instr.sliceAt 9 (.string s) (some (.int .i64 5)) (some (.int .i64 7)) none).run Tryd.prog W = .ok (.string p2) W
  c3 : ∀ W, (Instr.sliceAt 9 (.string s) (some (.int .i64 8)) (some (.int .i64 10)) none).run Tryd.prog W = .ok (.string p3) W
  c4 : ∀ W, (Instr.sliceAt 9 (.string s) (some (.int .i64 11)) (some (.int .i64 13)) none).run Tryd.prog W = .ok (.string p4) W
  c5 : ∀ W, (Instr.sliceAt 9 (.string s) (some (.int .i64 14)) (some (.int .i64 16)) none).run Tryd.prog W = .ok (.string p5) W
  c6 : ∀ W, (Instr.sliceAt 9 (.string s) (some (.int .i64 17)) none none).run Tryd.prog W = .ok (.string p6) W
  s1 : p1.size ≤ 4
  s2 : p2.size ≤ 2
  s3 : p3.size ≤ 2
  s4 : p4.size ≤ 2
  s5 : p5.size ≤ 2
  s6 : p6.size ≤ 2
  l1 : p1.data.toList = s.data.toList.take 4
  l2 : p2.data.toList = (s.data.toList.drop 5).take 2
  l3 : p3.data.toList = (s.data.toList.drop 8).take 2
  l4 : p4.data.toList = (s.data.toList.drop 11).take 2
  l5 : p5.data.toList = (s.data.toList.drop 14).take 2
  l6 : p6.data.toList = (s.data.toList.drop 17).take 2

theorem extract_list (s : ByteArray) (a b : Nat) : (s.extract a b).data.toList = (s.data.toList.drop a).take (b - a) := by
  obtain ⟨l, rfl⟩ : ∃ l : List UInt8, s = ⟨l.toArray⟩ := ⟨s.data.toList, by cases s; simp⟩
  rw [ByteArray.extract_mk]
theorem cuts_of (s : ByteArray) (h : s.size = 19) : Cuts s (s.extract 0 4) (s.extract 5 7) (s.extract 8 10) (s.extract 11 13) (s.extract 14 16) (s.extract 17 19) where
  c1 W := cut_to 9 Tryd.underlying9 s 4 (by omega) (by omega) W
  c2 W := cut_mid 9 Tryd.underlying9 s 5 7 (by omega) (by omega) (by omega) W
  c3 W := cut_mid 9 Tryd.underlying9 s 8 10 (by omega) (by omega) (by omega) W
  c4 W := cut_mid 9 Tryd.underlying9 s 11 13 (by omega) (by omega) (by omega) W
  c5 W := cut_mid 9 Tryd.underlying9 s 14 16 (by omega) (by omega) (by omega) W
  c6 W := by rw [← h]; exact cut_from 9 Tryd.underlying9 s 17 (by omega) (by omega) W
  s1 := by simp [ByteArray.size_extract]; omega
  s2 := by simp [ByteArray.size_extract]; omega
  s3 := by simp [ByteArray.size_extract]; omega
  s4 := by simp [ByteArray.size_extract]; omega
  s5 := by simp [ByteArray.size_extract]; omega
  s6 := by simp [ByteArray.size_extract]; omega
  l1 := extract_list s 0 4
  l2 := extract_list s 5 7
  l3 := extract_list s 8 10
  l4 := extract_list s 11 13
  l5 := extract_list s 14 16
  l6 := extract_list s 17 19

set_option maxRecDepth 100000 in
set_option maxHeartbeats 1000000 in
theorem read_bad (s p1 p2 p3 p4 p5 p6 : ByteArray) (h19 : s.size = 19) (hc : Cuts s p1 p2 p3 p4 p5 p6) (h : ¬ (1 ≤ numV 0 p2.data.toList ∧ numV 0 p2.data.toList ≤ 12)) (w : World) (hM : Months w) :
    Calls Tryd.prog 16 #[.string s] w fun e w' => e = .returned (.tuple #[.int .i64 0, .int .i64 3]) ∧ Below w.heap.size w w' := by
  have e1 : ((s.size : Int) != 19) = false := by simp; omega
  have e2 : ((s.size : Int) == 19) = true := by simp; omega
  obtain ⟨c1, c2, c3, c4, c5, c6, s1, s2, s3, s4, s5, s6, -, -, -, -, -, -⟩ := hc
  clear h19
  have h : numV 0 p2.data.toList < 1 ∨ (1 ≤ numV 0 p2.data.toList ∧ 12 < numV 0 p2.data.toList) := by omega
  rcases h with h | ⟨h, h1⟩
  all_goals
    replace hM := Lib.hid hM
    go_enter Tryd.func16, Tryd.ntmps16
    go_wp2_with fail
    go_quiet ((go_at_call 28; exact Calls.quiet_of_same ((number_calls _ (by omega) _).mono fun _ _ h => ⟨h.1, h.2.symm⟩)))
    replace hM := Lib.hid (hM.out.below (below_drewN (Below.refl w.heap.size w) nq))
    have hB : Below w.heap.size w (w.drewN nq) := below_drewN (Below.refl _ _) nq
    generalize w.drewN nq = w1 at hM hB ⊢
    go_wp2_with fail
    go_quiet ((go_at_call 28; exact Calls.quiet_of_same ((number_calls _ (by omega) _).mono fun _ _ h => ⟨h.1, h.2.symm⟩)))
    replace hM := Lib.hid (hM.out.below (below_drewN (Below.refl w1.heap.size w1) nq))
    replace hB := hB.trans (below_drewN (Below.refl _ _) nq)
    generalize w1.drewN nq = w2 at hM hB ⊢
    go_wp2_with fail
    go_ret2
    exact ⟨rfl, hB⟩

def NotIt (s : ByteArray) (w : World) (e : Ending) (w' : World) : Prop := ∃ x : ByteArray, e = .returned (.string x) ∧ (x.toList == s.toList) = false ∧ Below w.heap.size w w'
theorem stamp_not (s : ByteArray) (hno : ∀ t, ¬ stmp t = s.data.toList) (n : Int) (w : World) (hM : Months w) :
    Calls Tryd.prog 13 #[.int .i64 n] w (NotIt s w) :=
  (stamp_calls n w hM).mono fun e w' ⟨he, hb⟩ => ⟨_, he, by rw [beq_eq_false_iff_ne, ByteArray.toList_eq, ByteArray.toList_eq]; exact hno n, hb⟩
theorem stamp_at (t n : Int) (h : n = t) (w : World) (hM : Months w) :
    Calls Tryd.prog 13 #[.int .i64 n] w fun e w' => e = .returned (.string ⟨(stmp t).toArray⟩) ∧ Below w.heap.size w w' := by
  subst h; exact stamp_calls n w hM

set_option maxRecDepth 100000 in
set_option maxHeartbeats 1000000 in
theorem read_miss (s p1 p2 p3 p4 p5 p6 : ByteArray) (h19 : s.size = 19) (hc : Cuts s p1 p2 p3 p4 p5 p6) (m1 : 1 ≤ numV 0 p2.data.toList) (m2 : numV 0 p2.data.toList ≤ 12) (hno : ∀ t, ¬ stmp t = s.data.toList) (w : World) (hM : Months w) :
    Calls Tryd.prog 16 #[.string s] w fun e w' => e = .returned (.tuple #[.int .i64 0, .int .i64 3]) ∧ Below w.heap.size w w' := by
  have e1 : ((s.size : Int) != 19) = false := by simp; omega
  have e2 : ((s.size : Int) == 19) = true := by simp; omega
  obtain ⟨c1, c2, c3, c4, c5, c6, s1, s2, s3, s4, s5, s6, -, -, -, -, -, -⟩ := hc
  obtain ⟨n1, n1'⟩ := numV_4 p1.data.toList s1
  obtain ⟨n3, n3'⟩ := numV_2 p3.data.toList s3
  obtain ⟨n4, n4'⟩ := numV_2 p4.data.toList s4
  obtain ⟨n5, n5'⟩ := numV_2 p5.data.toList s5
  obtain ⟨n6, n6'⟩ := numV_2 p6.data.toList s6
  have hdy := dty_bd (y := numV 0 p1.data.toList) (by omega) (by omega)
  clear h19
  have HN := Lib.hid hno
  clear hno
  replace hM := Lib.hid hM
  go_enter Tryd.func16, Tryd.ntmps16
  go_wp2_with fail
  go_quiet ((go_at_call 28; exact Calls.quiet_of_same ((number_calls _ (by omega) _).mono fun _ _ h => ⟨h.1, h.2.symm⟩)))
  replace hM := Lib.hid (hM.out.below (below_drewN (Below.refl w.heap.size w) nq))
  have hB : Below w.heap.size w (w.drewN nq) := below_drewN (Below.refl _ _) nq
  generalize w.drewN nq = w1 at hM hB ⊢
  go_wp2_with fail
  go_quiet ((go_at_call 28; exact Calls.quiet_of_same ((number_calls _ (by omega) _).mono fun _ _ h => ⟨h.1, h.2.symm⟩)))
  replace hM := Lib.hid (hM.out.below (below_drewN (Below.refl w1.heap.size w1) nq))
  replace hB := hB.trans (below_drewN (Below.refl _ _) nq)
  generalize w1.drewN nq = w2 at hM hB ⊢
  clear c1 c2 c3 c4 c5 c6
  go_wp2_with (go_at_call 21; refine (dty_calls _ (by omega) (by omega) _).mono ?_; rintro e w' ⟨rfl, rfl⟩)
  go_loop [10, 11] (fun x i => ∃ j D : Int, 1 ≤ j ∧ j ≤ numV 0 p2.data.toList ∧ -900000 ≤ D ∧ D ≤ 111000000 + 31 * j ∧ i = .int .i64 j ∧ x = .int .i64 D) (fun _ i => (12 - intOf i).toNat)
  case atStart => exact ⟨1, _, by omega, m1, by omega, by omega, rfl, rfl⟩
  case round =>
    obtain ⟨j, D, hj1, hj2, d1, d2, rfl, rfl⟩ := hrel
    have hdf := dof_bd (y := numV 0 p1.data.toList) (m := j) n1
    by_cases hjm : j < numV 0 p2.data.toList
    · go_wp2_with (go_at_call 22; refine (daysOf_any _ _ (by omega) (by omega) (by omega) (by omega) _ hM.out).mono ?_; rintro e w' ⟨rfl, rfl⟩)
      go_round
      case rel => exact ⟨j + 1, _, by omega, by omega, by omega, by omega, rfl, rfl⟩
      case measure => simp [intOf]; omega
    · go_wp2_with (go_at_call 13; refine (stamp_not s HN.out _ _ hM.out).mono ?_; rintro e w' ⟨x, rfl, hx, hb⟩; replace hB := hB.trans (hb.mono hB.size); clear hb)
      go_ret2
      exact ⟨rfl, hB⟩

set_option maxRecDepth 100000 in
set_option maxHeartbeats 1000000 in
theorem read_hit (s p1 p2 p3 p4 p5 p6 : ByteArray) (h19 : s.size = 19) (hc : Cuts s p1 p2 p3 p4 p5 p6) (y1 : 2000 ≤ numV 0 p1.data.toList) (m1 : 1 ≤ numV 0 p2.data.toList) (m2 : numV 0 p2.data.toList ≤ 12)
    (T : Int) (hT : T = tickOf (numV 0 p1.data.toList) (numV 0 p2.data.toList) (numV 0 p3.data.toList) (numV 0 p4.data.toList) (numV 0 p5.data.toList) (numV 0 p6.data.toList)) (hb : (stmp T == s.toList) = true) (w : World) (hM : Months w) :
    Calls Tryd.prog 16 #[.string s] w fun e w' => e = .returned (.tuple #[.int .i64 T, .int .i64 0]) ∧ Below w.heap.size w w' := by
  have e1 : ((s.size : Int) != 19) = false := by simp; omega
  have e2 : ((s.size : Int) == 19) = true := by simp; omega
  obtain ⟨c1, c2, c3, c4, c5, c6, s1, s2, s3, s4, s5, s6, -, -, -, -, -, -⟩ := hc
  obtain ⟨n1, n1'⟩ := numV_4 p1.data.toList s1
  obtain ⟨n3, n3'⟩ := numV_2 p3.data.toList s3
  obtain ⟨n4, n4'⟩ := numV_2 p4.data.toList s4
  obtain ⟨n5, n5'⟩ := numV_2 p5.data.toList s5
  obtain ⟨n6, n6'⟩ := numV_2 p6.data.toList s6
  have hdy := dty_bd (y := numV 0 p1.data.toList) (by omega) (by omega)
  have hly := leap_bd (numV 0 p1.data.toList)
  have hcp := cum_pos (numV 0 p1.data.toList) (numV 0 p2.data.toList)
  have hcl := cum_lng (y := numV 0 p1.data.toList) m1 m2
  have hl5 := lng_bd (y := numV 0 p1.data.toList) (m := numV 0 p2.data.toList)
  have HT : Hid (T = (numV 0 p3.data.toList - 1 + dty (numV 0 p1.data.toList) + cum (numV 0 p1.data.toList) (numV 0 p2.data.toList)) * 86400 + numV 0 p4.data.toList * 3600 + numV 0 p5.data.toList * 60 + numV 0 p6.data.toList) := Lib.hid hT
  clear h19 hT
  replace hM := Lib.hid hM
  go_enter Tryd.func16, Tryd.ntmps16
  go_wp2_with fail
  go_quiet ((go_at_call 28; exact Calls.quiet_of_same ((number_calls _ (by omega) _).mono fun _ _ h => ⟨h.1, h.2.symm⟩)))
  replace hM := Lib.hid (hM.out.below (below_drewN (Below.refl w.heap.size w) nq))
  have hB : Below w.heap.size w (w.drewN nq) := below_drewN (Below.refl _ _) nq
  generalize w.drewN nq = w1 at hM hB ⊢
  go_wp2_with fail
  go_quiet ((go_at_call 28; exact Calls.quiet_of_same ((number_calls _ (by omega) _).mono fun _ _ h => ⟨h.1, h.2.symm⟩)))
  replace hM := Lib.hid (hM.out.below (below_drewN (Below.refl w1.heap.size w1) nq))
  replace hB := hB.trans (below_drewN (Below.refl _ _) nq)
  generalize w1.drewN nq = w2 at hM hB ⊢
  clear c1 c2 c3 c4 c5 c6
  go_wp2_with (go_at_call 21; refine (dty_calls _ (by omega) (by omega) _).mono ?_; rintro e w' ⟨rfl, rfl⟩)
  go_loop [10, 11] (fun x i => ∃ j : Int, 1 ≤ j ∧ j ≤ numV 0 p2.data.toList ∧ i = .int .i64 j ∧ x = .int .i64 (dty (numV 0 p1.data.toList) + numV 0 p3.data.toList - 1 + cum (numV 0 p1.data.toList) j)) (fun _ i => (12 - intOf i).toNat)
  case atStart => exact ⟨1, by omega, m1, rfl, by rw [cum_1]; go_num⟩
  case round =>
    obtain ⟨j, hj1, hj2, rfl, rfl⟩ := hrel
    have hl3 := lng_bd (y := numV 0 p1.data.toList) (m := j)
    have hcp' := cum_pos (numV 0 p1.data.toList) j
    have hcl' := cum_lng (y := numV 0 p1.data.toList) hj1 (by omega)
    by_cases hjm : j < numV 0 p2.data.toList
    · have HS := Lib.hid (cum_step (y := numV 0 p1.data.toList) hj1 (by omega))
      go_wp2_with (go_at_call 22; refine (daysOf_calls _ _ (by omega) (by omega) (by omega) (by omega) _ hM.out).mono ?_; rintro e w' ⟨rfl, rfl⟩)
      go_round
      case rel => exact ⟨j + 1, by omega, by omega, rfl, by rw [HS.out]; go_num⟩
      case measure => simp [intOf]; omega
    · obtain rfl : j = numV 0 p2.data.toList := by omega
      go_wp2_with (go_at_call 13; refine (stamp_at T _ (by have := HT.out; omega) _ hM.out).mono ?_; rintro e w' ⟨rfl, hb⟩; replace hB := hB.trans (hb.mono hB.size); clear hb)
      go_ret2
      exact ⟨ret_num (by have := HT.out; omega) rfl, hB⟩

theorem read_stamp (s : ByteArray) (t : Int) (h : IsStamp s.data.toList t) (w : World) (hM : Months w) :
    Calls Tryd.prog 16 #[.string s] w fun e w' => e = .returned (.tuple #[.int .i64 t, .int .i64 0]) ∧ Below w.heap.size w w' := by
  have h19 := stamp_size h
  have hc := cuts_of s h19
  obtain ⟨y, m, d, hd, hy, hd31, e⟩ := stamp_parts h
  obtain ⟨h1, h2, h3, h4, -, -⟩ := id hd
  obtain ⟨e1, e2, e3, e4, e5, e6⟩ := stm_num (y := y) (m := m) (d := d) (r := t % 86400) (by omega) hy (by omega) (by omega) (by omega) (by omega) (by omega) (by omega)
  rw [← e, ← hc.l1] at e1
  rw [← e, ← hc.l2] at e2
  rw [← e, ← hc.l3] at e3
  rw [← e, ← hc.l4] at e4
  rw [← e, ← hc.l5] at e5
  rw [← e, ← hc.l6] at e6
  exact read_hit s _ _ _ _ _ _ h19 hc (by rw [e1]; exact h1) (by rw [e2]; exact h2) (by rw [e2]; exact h3) t (by rw [e1, e2, e3, e4, e5, e6, tickOf_day hd]) (by rw [h.2.2, ByteArray.toList_eq]; simp) w hM
theorem read_none (s : ByteArray) (h : ¬ ∃ t, IsStamp s.data.toList t) (w : World) (hM : Months w) :
    Calls Tryd.prog 16 #[.string s] w fun e w' => e = .returned (.tuple #[.int .i64 0, .int .i64 3]) ∧ Below w.heap.size w w' := by
  by_cases h19 : s.size = 19
  · have hc := cuts_of s h19
    by_cases hm : 1 ≤ numV 0 (s.extract 5 7).data.toList ∧ numV 0 (s.extract 5 7).data.toList ≤ 12
    · exact read_miss s _ _ _ _ _ _ h19 hc hm.1 hm.2 (fun t e => h ⟨t, stamp_of h19 e⟩) w hM
    · exact read_bad s _ _ _ _ _ _ h19 hc hm w hM
  · exact read_short s h19 w

end Go.Proofs.YtnbabfjacnonfaaDoor.Clock

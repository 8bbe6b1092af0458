/-
  Layer 3 (clock): the document's own Read, walked.
-/
import Derived.Test.YtnbabfjacnonfaaDoorClockTwo
namespace Go.Proofs.YtnbabfjacnonfaaDoor.Clock
open Go.RowKit Go.Proofs.YtnbabfjacnonfaaDoor.Digit

set_option maxRecDepth 100000 in
set_option maxHeartbeats 1000000 in
theorem rread_short (s : ByteArray) (h : ¬ s.size = 19) (w : World) :
    Calls Tryd.prog 17 #[.string s] w fun e w' => e = .returned (.tuple #[.int .i64 0, .int .i64 3]) ∧ Below w.heap.size w w' := by
  have hB := Below.refl w.heap.size w
  obtain ⟨a0, b0⟩ := twoI_bd s.data.toList 0
  obtain ⟨a2, b2⟩ := twoI_bd s.data.toList 2
  have e1 : ((s.size : Int) != 19) = true := by simp; omega
  have e2 : ((s.size : Int) == 19) = false := by simp; omega
  clear h
  go_enter Tryd.func17, Tryd.ntmps17
  go_wp2_with (go_at_call 29; refine (rtwo_calls _ _ (by omega) (by omega) _).mono ?_; rintro e w' ⟨rfl, hb⟩; replace hB := hB.trans (hb.mono hB.size); clear hb)
  go_ret2
  exact ⟨rfl, hB⟩

def GoodDate (s : List UInt8) : Prop := 2000 ≤ 100 * twoI s 0 + twoI s 2 ∧ 1 ≤ twoI s 5 ∧ twoI s 5 ≤ 12

set_option maxRecDepth 100000 in
set_option maxHeartbeats 1000000 in
theorem rread_bad (s : ByteArray) (h19 : s.size = 19) (h : ¬ GoodDate s.data.toList) (w : World) :
    Calls Tryd.prog 17 #[.string s] w fun e w' => e = .returned (.tuple #[.int .i64 0, .int .i64 3]) ∧ Below w.heap.size w w' := by
  have hB := Below.refl w.heap.size w
  obtain ⟨a0, b0⟩ := twoI_bd s.data.toList 0
  obtain ⟨a2, b2⟩ := twoI_bd s.data.toList 2
  have e1 : ((s.size : Int) != 19) = false := by simp; omega
  have e2 : ((s.size : Int) == 19) = true := by simp; omega
  have h : 100 * twoI s.data.toList 0 + twoI s.data.toList 2 < 2000 ∨ (2000 ≤ 100 * twoI s.data.toList 0 + twoI s.data.toList 2 ∧ twoI s.data.toList 5 < 1) ∨ (2000 ≤ 100 * twoI s.data.toList 0 + twoI s.data.toList 2 ∧ 1 ≤ twoI s.data.toList 5 ∧ 12 < twoI s.data.toList 5) := by
    unfold GoodDate at h; omega
  clear h19
  rcases h with h | ⟨h, h2⟩ | ⟨h, h2, h3⟩
  all_goals
    go_enter Tryd.func17, Tryd.ntmps17
    go_wp2_with (go_at_call 29; refine (rtwo_calls _ _ (by omega) (by omega) _).mono ?_; rintro e w' ⟨rfl, hb⟩; replace hB := hB.trans (hb.mono hB.size); clear hb)
    go_ret2
    exact ⟨rfl, hB⟩

/-- the tick that a text's signs tell, by the document's own way -/
def tickR (s : List UInt8) : Int := tickOf (100 * twoI s 0 + twoI s 2) (twoI s 5) (twoI s 8) (twoI s 11) (twoI s 14) (twoI s 17)

set_option maxRecDepth 100000 in
set_option maxHeartbeats 2000000 in
theorem rread_good (s : ByteArray) (h19 : s.size = 19) (h : GoodDate s.data.toList) (b : Bool) (hb : (stmp (tickR s.data.toList) == s.toList) = b) (w : World) :
    Calls Tryd.prog 17 #[.string s] w fun e w' => e = .returned (.tuple #[.int .i64 (bif b then tickR s.data.toList else 0), .int .i64 (bif b then 0 else 3)]) ∧ Below w.heap.size w w' := by
  have hB := Below.refl w.heap.size w
  obtain ⟨a0, b0⟩ := twoI_bd s.data.toList 0
  obtain ⟨a2, b2⟩ := twoI_bd s.data.toList 2
  obtain ⟨a8, b8⟩ := twoI_bd s.data.toList 8
  obtain ⟨a11, b11⟩ := twoI_bd s.data.toList 11
  obtain ⟨a14, b14⟩ := twoI_bd s.data.toList 14
  obtain ⟨a17, b17⟩ := twoI_bd s.data.toList 17
  have e1 : ((s.size : Int) != 19) = false := by simp; omega
  have e2 : ((s.size : Int) == 19) = true := by simp; omega
  obtain ⟨h2000, m1, m2⟩ := h
  have HT : Hid (tickR s.data.toList = (twoI s.data.toList 8 - 1 + dty (100 * twoI s.data.toList 0 + twoI s.data.toList 2) + cum (100 * twoI s.data.toList 0 + twoI s.data.toList 2) (twoI s.data.toList 5)) * 86400 + twoI s.data.toList 11 * 3600 + twoI s.data.toList 14 * 60 + twoI s.data.toList 17) := Lib.hid rfl
  have hdy := dty_bd (y := 100 * twoI s.data.toList 0 + twoI s.data.toList 2) (by omega) (by omega)
  have hly := leap_bd (100 * twoI s.data.toList 0 + twoI s.data.toList 2)
  have hcp := cum_pos (100 * twoI s.data.toList 0 + twoI s.data.toList 2) (twoI s.data.toList 5)
  have hcl := cum_lng (y := 100 * twoI s.data.toList 0 + twoI s.data.toList 2) m1 m2
  have hl5 := lng_bd (y := 100 * twoI s.data.toList 0 + twoI s.data.toList 2) (m := twoI s.data.toList 5)
  clear h19
  generalize tickR s.data.toList = T at HT hb ⊢
  go_enter Tryd.func17, Tryd.ntmps17
  go_wp2_with (go_at_call 29; refine (rtwo_calls _ _ (by omega) (by omega) _).mono ?_; rintro e w' ⟨rfl, hb⟩; replace hB := hB.trans (hb.mono hB.size); clear hb)
  go_loop [7, 8] (fun x i => ∃ c : Int, 2000 ≤ c ∧ c ≤ 100 * twoI s.data.toList 0 + twoI s.data.toList 2 ∧ i = .int .i64 c ∧ x = .int .i64 (twoI s.data.toList 8 - 1 + dty c)) (fun _ i => (10000 - intOf i).toNat)
  case atStart => exact ⟨2000, by omega, by omega, rfl, by rw [dty_2000]; go_num⟩
  case round =>
    obtain ⟨c, hc1, hc2, rfl, rfl⟩ := hrel
    have hdc := dty_bd (y := c) (by omega) (by omega)
    have hl2 := lng_bd (y := c) (m := 2)
    have HN := Lib.hid (year_next (y := c) (by omega))
    by_cases hlt : c < 100 * twoI s.data.toList 0 + twoI s.data.toList 2
    · go_wp2_with (go_at_call 23; refine (rlong_calls _ _ (by omega) (by omega) (by omega) (by omega) _).mono ?_; rintro e w' ⟨rfl, rfl⟩)
      go_round
      case rel => exact ⟨c + 1, by omega, by omega, rfl, by rw [HN.out]; go_num⟩
      case measure => simp [intOf]; omega
    · obtain rfl : c = 100 * twoI s.data.toList 0 + twoI s.data.toList 2 := by omega
      go_wp2_with fail
      go_loop [7, 9] (fun x i => ∃ j : Int, 1 ≤ j ∧ j ≤ twoI s.data.toList 5 ∧ i = .int .i64 j ∧ x = .int .i64 (twoI s.data.toList 8 - 1 + dty (100 * twoI s.data.toList 0 + twoI s.data.toList 2) + cum (100 * twoI s.data.toList 0 + twoI s.data.toList 2) j)) (fun _ i => (12 - intOf i).toNat)
      case atStart => exact ⟨1, by omega, m1, rfl, by rw [cum_1]; go_num⟩
      case round =>
        obtain ⟨j, hj1, hj2, rfl, rfl⟩ := hrel
        have hl3 := lng_bd (y := 100 * twoI s.data.toList 0 + twoI s.data.toList 2) (m := j)
        have hcp' := cum_pos (100 * twoI s.data.toList 0 + twoI s.data.toList 2) j
        have hcl' := cum_lng (y := 100 * twoI s.data.toList 0 + twoI s.data.toList 2) hj1 (by omega)
        by_cases hjm : j < twoI s.data.toList 5
        · have HS := Lib.hid (cum_step (y := 100 * twoI s.data.toList 0 + twoI s.data.toList 2) hj1 (by omega))
          go_wp2_with (go_at_call 23; refine (rlong_calls _ _ (by omega) (by omega) (by omega) (by omega) _).mono ?_; rintro e w' ⟨rfl, rfl⟩)
          go_round
          case rel => exact ⟨j + 1, by omega, by omega, rfl, by rw [HS.out]; go_num⟩
          case measure => simp [intOf]; omega
        · obtain rfl : j = twoI s.data.toList 5 := by omega
          cases b
          all_goals
            go_wp2_with (first | (go_at_call 29; refine (rtwo_calls _ _ (by omega) (by omega) _).mono ?_; rintro e w' ⟨rfl, hb⟩; replace hB := hB.trans (hb.mono hB.size); clear hb) | (go_at_call 14; refine (rstamp_at T _ (by have := HT.out; omega) _).mono ?_; rintro e w' ⟨rfl, rfl⟩))
            go_ret2
            exact ⟨ret_num (by first | rfl | exact HT.out.symm) rfl, hB⟩

theorem tickR_stamp {s : List UInt8} {t : Int} (h : IsStamp s t) : GoodDate s ∧ tickR s = t := by
  obtain ⟨y, m, d, hd, hy, hd31, rfl⟩ := stamp_parts h
  obtain ⟨h1, h2, h3, h4, -, -⟩ := id hd
  obtain ⟨e0, e5, e8, e11, e14, e17⟩ := stm_two (y := y) (m := m) (d := d) (r := t % 86400) (by omega) hy (by omega) (by omega) (by omega) (by omega) (by omega) (by omega)
  exact ⟨⟨by omega, by omega, by omega⟩, by rw [tickR, e0, e5, e8, e11, e14, e17, tickOf_day hd]⟩

theorem rread_stamp (s : ByteArray) (t : Int) (h : IsStamp s.data.toList t) (w : World) :
    Calls Tryd.prog 17 #[.string s] w fun e w' => e = .returned (.tuple #[.int .i64 t, .int .i64 0]) ∧ Below w.heap.size w w' := by
  obtain ⟨hg, ht⟩ := tickR_stamp h
  have := rread_good s (stamp_size h) hg true (by rw [ht, h.2.2, ByteArray.toList_eq]; simp) w
  rwa [ht] at this
theorem rread_none (s : ByteArray) (h : ¬ ∃ t, IsStamp s.data.toList t) (w : World) :
    Calls Tryd.prog 17 #[.string s] w fun e w' => e = .returned (.tuple #[.int .i64 0, .int .i64 3]) ∧ Below w.heap.size w w' := by
  by_cases h19 : s.size = 19
  · by_cases hg : GoodDate s.data.toList
    · exact rread_good s h19 hg false (by rw [beq_eq_false_iff_ne, ByteArray.toList_eq]; exact fun e => h ⟨_, stamp_of h19 e⟩) w
    · exact rread_bad s h19 hg w
  · exact rread_short s h19 w

end Go.Proofs.YtnbabfjacnonfaaDoor.Clock

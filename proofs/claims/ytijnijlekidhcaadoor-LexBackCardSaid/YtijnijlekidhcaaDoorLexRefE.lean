/-
  Layer 12 (lex): the document's Put, walked.
-/
import Derived.Test.YtijnijlekidhcaaDoorLexRefB
namespace Go.Proofs.YtijnijlekidhcaaDoor.Lex
open Go.RowKit Go.Proofs.YtijnijlekidhcaaDoor.Own

theorem conv_one (W : World) (c : UInt8) : (convert 69 9 (.slice (some ⟨W.heap.size, 0, none⟩) 1 1)).run Tryd.prog (W.alloc (.cells #[.int .u8 c.toNat] 5 (0, 0))) = .ok (.string ⟨#[c]⟩) (W.alloc (.cells #[.int .u8 c.toNat] 5 (0, 0))) := by
  refine run_convert_bytes_back _ 69 9 5 ⟨W.heap.size, 0, none⟩ 1 [c] Tryd.underlying69 Tryd.underlying5 Tryd.underlying9 (fun j hj => ?_)
  match j, hj with
  | 0, _ => rw [add0, at_cell (at_new W _)]; rfl
  | j + 1, hj => simp at hj

set_option maxRecDepth 100000 in
set_option maxHeartbeats 4000000 in
theorem rput_calls (k : Int) (t : ByteArray) (hs : t.size ≤ 1099511627776) (w : World) :
    Calls Tryd.prog 13 #[.int .i64 k, .string t] w fun e w' => e = .returned (.tuple #[.string ⟨(ptT k t.data.toList).toArray⟩, .int .i64 (ptC k t.data.toList)]) ∧ Below w.heap.size w w' := by
  by_cases hout : k < 1 ∨ 5 < k
  · obtain ⟨e1, e2⟩ := ptC_out hout t.data.toList
    rw [e1, e2]
    clear e1 e2
    rcases (show k < 1 ∨ (1 ≤ k ∧ 5 < k) by omega) with h | ⟨h1, h⟩
    all_goals
      clear hout
      go_enter Tryd.func13, Tryd.ntmps13
      go_wp2_with fail
      go_ret2
      exact ⟨rfl, Below.refl _ _⟩
  · have hk : k = 1 ∨ k = 2 ∨ k = 3 ∨ k = 4 ∨ k = 5 := by omega
    clear hout
    rcases hk with rfl | rfl | hk
    · have HW := Lib.hid (rwordy_calls t hs)
      cases hb : isW t.data.toList
      · obtain ⟨e1, e2⟩ := (ptC_word t.data.toList).2 hb
        rw [hb] at HW
        rw [e1, e2]
        clear hb e1 e2
        go_enter Tryd.func13, Tryd.ntmps13
        go_wp2_with (go_at_call 15; refine (HW.out _).mono ?_; rintro e w5 ⟨rfl, rfl⟩)
        go_ret2
        exact ⟨rfl, Below.refl _ _⟩
      · obtain ⟨e1, e2⟩ := (ptC_word t.data.toList).1 hb
        rw [hb] at HW
        rw [e1, e2]
        clear hb e1 e2
        go_enter Tryd.func13, Tryd.ntmps13
        go_wp2_with (go_at_call 15; refine (HW.out _).mono ?_; rintro e w5 ⟨rfl, rfl⟩)
        go_ret2
        exact ⟨rfl, Below.refl _ _⟩
    · have HY := Lib.hid (fun h => (ptC_quote t.data.toList).1 h)
      have HZ := Lib.hid (fun h => (ptC_quote t.data.toList).2 h)
      have hcv34 := fun W => conv_one W 34
      have hcv92 := fun W => conv_one W 92
      simp only [show ((34 : UInt8).toNat : Int) = 34 from rfl, show ((92 : UInt8).toNat : Int) = 92 from rfl] at hcv34 hcv92
      go_enter Tryd.func13, Tryd.ntmps13
      go_wp2_with fail
      go_loopw [6, 7] (fun o i wr => ∃ (k : Nat) (acc : List UInt8), o = .string ⟨acc.toArray⟩ ∧ i = .int .i64 k ∧ k ≤ t.size ∧ acc.length ≤ 2 * k + 1 ∧ Below w.heap.size w wr ∧ Hid (acc = 34 :: esc (t.data.toList.take k)) ∧ Hid (allq (t.data.toList.take k) = true)) (fun _ i _ => t.size - (intOf i).toNat)
      case atStart => exact ⟨0, [34], rfl, rfl, Nat.zero_le _, Nat.le_refl _, (Below.refl _ _).alloc (Nat.le_refl _) _, Lib.hid rfl, Lib.hid rfl⟩
      case round =>
        obtain ⟨k, acc, rfl, rfl, hk, hal, hB, HE, HA⟩ := hrel
        rename World => wr
        have k1 : (k : Int) ≤ 1099511627776 := by omega
        have hsa := size_mk acc
        have hbs := hB.size
        have HB := Lib.hid hB
        clear hB
        by_cases hlt : k < t.size
        · have q1 : (k : Int) < (t.size : Int) := by omega
          have HT := Lib.hid (take_at t k hlt)
          have HBad := Lib.hid (fun h => allq_bad (s := t) hlt h)
          have HX := Lib.hid (extract_one t k hlt)
          have hcut := cut_one t k hlt
          obtain ⟨c, hc⟩ : ∃ c, t[k] = c := ⟨_, rfl⟩
          obtain ⟨n, hn⟩ : ∃ n, c.toNat = n := ⟨_, rfl⟩
          have HN := Lib.hid hn
          rw [hc] at HT HBad HX
          cases hq : qb n
          · have hnq : n < 32 ∨ (32 ≤ n ∧ 126 < n) := by
              have := mt (qb_iff n).2 (by simp [hq]); omega
            have HZZ := Lib.hid (HZ.out (HBad.out (by rw [HN.out]; exact hq)))
            clear HBad hcut
            rcases hnq with hx | ⟨hx, hy⟩
            · have q3 : (n : Int) < 32 := by omega
              go_wp2_with fail
              go_ret2
              exact ⟨by rw [HZZ.out.1, HZZ.out.2]; rfl, HB.out⟩
            · have q3 : (32 : Int) ≤ n := by omega
              have q4 : (126 : Int) < n := by omega
              go_wp2_with fail
              go_ret2
              exact ⟨by rw [HZZ.out.1, HZZ.out.2]; rfl, HB.out⟩
          · have hq2 := (qb_iff n).1 hq
            have q3 : (32 : Int) ≤ n := by omega
            have q4 : (n : Int) ≤ 126 := by omega
            have HA2 := Lib.hid (show allq (t.data.toList.take (k + 1)) = true by rw [HT.out, allq_app, HA.out, allq_cons, HN.out, hq]; rfl)
            clear hq2 HBad
            cases he : eb n
            · have hne : n ≠ 34 ∧ n ≠ 92 := by
                have := mt (eb_iff n).2 (by simp [he]); omega
              have b1 : ((n : Int) == 34) = false := by simp; omega
              have b2 : ((n : Int) == 92) = false := by simp; omega
              have HE2 := Lib.hid (show acc ++ [c] = 34 :: esc (t.data.toList.take (k + 1)) by rw [HT.out, esc_app, esc_no (by rw [HN.out]; exact he), HE.out]; rfl)
              have HC := Lib.hid (bytes_add acc [c])
              clear hne
              go_wp2_with fail
              go_roundw
              case rel => exact ⟨k + 1, acc ++ [c], by rw [← HC.out], by go_num, by omega, by simp <;> omega, HB.out, HE2, HA2⟩
              case measure => simp [intOf]; omega
            · have HE2 := Lib.hid (show (acc ++ [92]) ++ [c] = 34 :: esc (t.data.toList.take (k + 1)) by rw [HT.out, esc_app, esc_yes (by rw [HN.out]; exact he), HE.out]; simp)
              have HC := Lib.hid (bytes_add acc [92])
              have HC2 := Lib.hid (bytes_add (acc ++ [92]) [c])
              have hsz2 : ((⟨acc.toArray⟩ : ByteArray) ++ ⟨#[92]⟩).size = acc.length + 1 := by rw [show (⟨#[92]⟩ : ByteArray) = ⟨[92].toArray⟩ from rfl, bytes_add, size_mk]; simp
              rw [eb_iff] at he
              rcases he with rfl | rfl
              all_goals
                go_wp2_with fail
                go_roundw
                case rel => exact ⟨k + 1, (acc ++ [92]) ++ [c], by rw [← HC2.out, ← HC.out], by go_num, by omega, by simp <;> omega, HB.out.alloc (by omega) _, HE2, HA2⟩
                case measure => simp [intOf]; omega
        · obtain rfl : k = t.size := by omega
          have HAA := Lib.hid (show allq t.data.toList = true by have := HA.out; rwa [List.take_of_length_le (by rw [list_size]; omega)] at this)
          have HEE := Lib.hid (show acc ++ [34] = 34 :: esc t.data.toList ++ [34] by have := HE.out; rw [List.take_of_length_le (by rw [list_size]; omega)] at this; rw [this])
          have HYY := Lib.hid (HY.out HAA.out)
          have HC := Lib.hid (bytes_add acc [34])
          clear hlt HE
          go_wp2_with fail
          go_ret2
          exact ⟨by rw [HYY.out.1, HYY.out.2, ← HEE.out, ← HC.out]; rfl, HB.out.alloc (by omega) _⟩
    · by_cases h0 : t.size = 0
      · obtain rfl := empty_of h0
        rcases hk with rfl | rfl | rfl
        all_goals
          go_enter Tryd.func13, Tryd.ntmps13
          go_wp2_with fail
          go_ret2
          exact ⟨rfl, Below.refl _ _⟩
      · have hne : t.toList.isEmpty = false := by
          rw [ByteArray.toList_eq]
          cases h : t.data.toList with
          | nil => exact absurd h (full_of h0)
          | cons a r => rfl
        have hne2 : (t.toList != []) = true := by
          cases h : t.toList with
          | nil => rw [h] at hne; cases hne
          | cons a r => rfl
        have HP := Lib.hid (ptC_mark (k := k) (by omega) (by omega) (full_of h0))
        clear h0
        rcases hk with rfl | rfl | rfl
        all_goals
          rw [HP.out.1, HP.out.2]
          go_enter Tryd.func13, Tryd.ntmps13
          go_wp2_with fail
          go_ret2
          exact ⟨rfl, Below.refl _ _⟩
end Go.Proofs.YtijnijlekidhcaaDoor.Lex

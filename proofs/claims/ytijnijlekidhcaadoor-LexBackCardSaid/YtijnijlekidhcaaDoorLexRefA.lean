/-
  Layer 12 (lex): the document's plain, Wordy, Skip, quote, walked.
-/
import Derived.Test.YtijnijlekidhcaaDoorLexPut
namespace Go.Proofs.YtijnijlekidhcaaDoor.Lex
open Go.RowKit Go.Proofs.YtijnijlekidhcaaDoor.Own

set_option maxRecDepth 100000 in
set_option maxHeartbeats 1000000 in
theorem rplain_calls (n : Nat) (w : World) : Calls Tryd.prog 28 #[.int .u8 n] w fun e w' => e = .returned (.bool (wb n)) ∧ w' = w := by
  cases hw : wb n
  · have h : n < 33 ∨ (33 ≤ n ∧ 126 < n) ∨ n = 123 ∨ n = 125 ∨ n = 59 ∨ n = 34 ∨ n = 35 ∨ n = 92 := by
      have := mt (wb_iff n).2 (by simp [hw]); omega
    rcases h with h | ⟨h1, h⟩ | rfl | rfl | rfl | rfl | rfl | rfl
    · have q1 : ¬ (33 : Int) ≤ n := by omega
      clear h hw
      go_enter Tryd.func28, Tryd.ntmps28
      go_wp2_with fail
      go_ret
      exact ⟨rfl, rfl⟩
    · have q1 : (33 : Int) ≤ n := by omega
      have q2 : ¬ (n : Int) ≤ 126 := by omega
      clear h hw h1
      go_enter Tryd.func28, Tryd.ntmps28
      go_wp2_with fail
      go_ret
      exact ⟨rfl, rfl⟩
    all_goals
      clear hw
      go_enter Tryd.func28, Tryd.ntmps28
      go_wp2_with fail
      go_ret
      exact ⟨rfl, rfl⟩
  · have h := (wb_iff n).1 hw
    have q1 : (33 : Int) ≤ n := by omega
    have q2 : (n : Int) ≤ 126 := by omega
    have b1 : ((n : Int) != 123) = true := by simp; omega
    have b2 : ((n : Int) != 125) = true := by simp; omega
    have b3 : ((n : Int) != 59) = true := by simp; omega
    have b4 : ((n : Int) != 34) = true := by simp; omega
    have b5 : ((n : Int) != 35) = true := by simp; omega
    have b6 : ((n : Int) != 92) = true := by simp; omega
    clear h hw
    go_enter Tryd.func28, Tryd.ntmps28
    go_wp2_with fail
    go_ret
    exact ⟨rfl, rfl⟩

def allw (l : List UInt8) : Bool := l.all fun c => wb c.toNat
theorem allw_isW (l : List UInt8) : isW l = (allw l && !l.isEmpty) := by
  have h : ∀ l : List UInt8, (wlen l == l.length) = allw l := by
    intro l
    induction l with
    | nil => rfl
    | cons c r ih =>
      cases hc : wb c.toNat
      · rw [wlen_no hc]; simp [allw, hc]
      · rw [wlen_yes hc, List.length_cons]
        have : (wlen r + 1 == r.length + 1) = (wlen r == r.length) := by rw [Bool.eq_iff_iff]; simp
        rw [this, ih]; simp [allw, hc]
  rw [isW, h, Bool.and_comm]
theorem allw_app (l m : List UInt8) : allw (l ++ m) = (allw l && allw m) := by simp [allw]
theorem allw_bad {s : ByteArray} {pos : Nat} (h : pos < s.size) (hq : wb (s[pos]'h).toNat = false) : allw s.data.toList = false := by
  rw [allw, List.all_eq_false]
  exact ⟨s[pos], Array.mem_toList_iff.2 (Array.getElem_mem (xs := s.data) h), by simp [hq]⟩

set_option maxRecDepth 100000 in
set_option maxHeartbeats 1000000 in
theorem rwordy_calls (s : ByteArray) (hs : s.size ≤ 1099511627776) (w : World) : Calls Tryd.prog 15 #[.string s] w fun e w' => e = .returned (.bool (isW s.data.toList)) ∧ w' = w := by
  have HI := Lib.hid (allw_isW s.data.toList)
  go_enter Tryd.func15, Tryd.ntmps15
  go_wp2_with fail
  go_loop [3] (fun i => ∃ k : Nat, k ≤ s.size ∧ i = .int .i64 k ∧ Hid (allw (s.data.toList.take k) = true)) (fun i => s.size - (intOf i).toNat)
  case atStart => exact ⟨0, Nat.zero_le _, rfl, Lib.hid rfl⟩
  case round =>
    obtain ⟨k, hk, rfl, HA⟩ := hrel
    by_cases hlt : k < s.size
    · have q1 : (k : Int) < (s.size : Int) := by omega
      have HT := Lib.hid (take_at s k hlt)
      have HB := Lib.hid (fun h => allw_bad (s := s) hlt h)
      obtain ⟨n, hn⟩ : ∃ n, s[k].toNat = n := ⟨_, rfl⟩
      cases hw : wb n
      · have HN := Lib.hid (HB.out (by rw [hn]; exact hw))
        clear HB
        go_wp2_with (go_at_call 28; refine (rplain_calls n _).mono ?_; rintro e w' ⟨rfl, rfl⟩; rw [hw])
        go_ret
        exact ⟨by rw [HI.out, HN.out]; rfl, rfl⟩
      · have HN := Lib.hid (show allw (s.data.toList.take (k + 1)) = true by rw [HT.out, allw_app, HA.out]; simp [allw, hn, hw])
        clear HB HT HA
        go_wp2_with (go_at_call 28; refine (rplain_calls n _).mono ?_; rintro e w' ⟨rfl, rfl⟩; rw [hw])
        go_round
        case rel => exact ⟨k + 1, by omega, by go_num, HN⟩
        case measure => simp [intOf]; omega
    · obtain rfl : k = s.size := by omega
      have HN := Lib.hid (show allw s.data.toList = true by have := HA.out; rwa [List.take_of_length_le (by rw [list_size]; omega)] at this)
      clear HA hlt
      by_cases h0 : s.size = 0
      · obtain rfl := empty_of h0
        go_wp2_with fail
        go_ret
        exact ⟨by rw [HI.out]; rfl, rfl⟩
      · have hne : s.toList.isEmpty = false := by
          rw [ByteArray.toList_eq]
          cases h : s.data.toList with
          | nil => exact absurd h (full_of h0)
          | cons a r => rfl
        have hne2 : (s.toList != []) = true := by
          cases h : s.toList with
          | nil => rw [h] at hne; cases hne
          | cons a r => rfl
        have HE := Lib.hid (show s.data.toList.isEmpty = false by rw [← ByteArray.toList_eq]; exact hne)
        go_wp2_with fail
        go_ret
        exact ⟨by rw [HI.out, HN.out, HE.out]; rfl, rfl⟩

set_option maxRecDepth 100000 in
set_option maxHeartbeats 4000000 in
theorem rskip_calls (s : ByteArray) (hs : s.size ≤ 1099511627776) (a : Nat) (ha : a ≤ s.size) (ln : Int) (h0 : 0 ≤ ln) (h1 : ln ≤ 1099511627776) (A : Nat) (L : Int) (hA : a + skip false (s.data.toList.drop a) = A) (hL : ln + skn false (s.data.toList.drop a) = L) (w : World) :
    Calls Tryd.prog 21 #[.string s, .int .i64 a, .int .i64 ln] w fun e w' => e = .returned (.tuple #[.int .i64 A, .int .i64 L]) ∧ w' = w := by
  have HA := Lib.hid hA
  have HL := Lib.hid hL
  clear hA hL
  go_enter Tryd.func21, Tryd.ntmps21
  go_wp2_with fail
  go_loop [1, 2] (fun i l => ∃ (k : Nat) (g : Int), k ≤ s.size ∧ i = .int .i64 k ∧ l = .int .i64 g ∧ 0 ≤ g ∧ g ≤ ln + k ∧ Hid (k + skip false (s.data.toList.drop k) = A) ∧ Hid (g + skn false (s.data.toList.drop k) = L)) (fun i _ => s.size - (intOf i).toNat)
  case atStart => exact ⟨a, ln, ha, rfl, rfl, h0, by omega, HA, HL⟩
  case round =>
    obtain ⟨k, g, hk, rfl, rfl, hg0, hg1, HK, HG⟩ := hrel
    clear HA HL
    have k1 : (k : Int) ≤ 1099511627776 := by omega
    have g1 : g ≤ 2199023255552 := by omega
    by_cases hlt : k < s.size
    · have q1 : (k : Int) < (s.size : Int) := by omega
      have HD := Lib.hid (drop_at s k hlt)
      obtain ⟨n, hn⟩ : ∃ n, s[k].toNat = n := ⟨_, rfl⟩
      have HN := Lib.hid hn
      by_cases h35 : n = 35
      · subst h35
        have HK2 := Lib.hid (show skip false (s.data.toList.drop k) = skip true (s.data.toList.drop k) by
          rw [HD.out, skip_note HN.out, skip_go (by rw [HN.out]; decide) rfl])
        have HG2 := Lib.hid (show skn false (s.data.toList.drop k) = skn true (s.data.toList.drop k) by
          rw [HD.out, skn_note HN.out, skn_go (by rw [HN.out]; decide) rfl])
        go_wp2_with fail
        go_loop [1] (fun i => ∃ j : Nat, k ≤ j ∧ j ≤ s.size ∧ i = .int .i64 j ∧ Hid (k + skip true (s.data.toList.drop k) = j + skip true (s.data.toList.drop j)) ∧ Hid (skn true (s.data.toList.drop k) = skn true (s.data.toList.drop j))) (fun i => s.size - (intOf i).toNat)
        case atStart => exact ⟨k, Nat.le_refl _, hk, rfl, Lib.hid rfl, Lib.hid rfl⟩
        case round =>
          obtain ⟨j, hkj, hj, rfl, HJ, HM⟩ := hrel
          have j1 : (j : Int) ≤ 1099511627776 := by omega
          by_cases hjl : j < s.size
          · have q2 : (j : Int) < (s.size : Int) := by omega
            have HD2 := Lib.hid (drop_at s j hjl)
            obtain ⟨m, hm⟩ : ∃ m, s[j].toNat = m := ⟨_, rfl⟩
            have HMM := Lib.hid hm
            by_cases h10 : m = 10
            · subst h10
              have hlt2 : k < j := by
                by_cases e : j = k
                · subst e; rw [hm] at hn; cases hn
                · omega
              have HR := Lib.hid (show skip true (s.data.toList.drop j) = skip false (s.data.toList.drop j) by rw [HD2.out, skip_line HMM.out, skip_line HMM.out])
              have HR2 := Lib.hid (show skn true (s.data.toList.drop j) = skn false (s.data.toList.drop j) by rw [HD2.out, skn_line HMM.out, skn_line HMM.out])
              clear HD2
              go_wp2_with fail
              go_round
              case rel => exact ⟨j, g, hj, rfl, rfl, hg0, by omega, Lib.hid (by rw [← HK.out, HK2.out, HJ.out, HR.out]), Lib.hid (by rw [← HG.out, HG2.out, HM.out, HR2.out])⟩
              case measure => simp [intOf]; omega
            · have b10 : ((m : Int) != 10) = true := by simp; omega
              have HR := Lib.hid (show skip true (s.data.toList.drop j) = skip true (s.data.toList.drop (j + 1)) + 1 by rw [HD2.out, skip_go (by rw [HMM.out]; exact h10) rfl])
              have HR2 := Lib.hid (show skn true (s.data.toList.drop j) = skn true (s.data.toList.drop (j + 1)) by rw [HD2.out, skn_go (by rw [HMM.out]; exact h10) rfl])
              clear HD2 h10
              go_wp2_with fail
              go_round
              case rel => exact ⟨j + 1, by omega, by omega, by go_num, Lib.hid (by rw [HJ.out, HR.out]; omega), Lib.hid (by rw [HM.out, HR2.out])⟩
              case measure => simp [intOf]; omega
          · obtain rfl : j = s.size := by omega
            clear hjl
            go_wp2_with fail
            go_round
            case rel => exact ⟨s.size, g, hj, rfl, rfl, hg0, by omega, Lib.hid (by rw [← HK.out, HK2.out, HJ.out, drop_all s (Nat.le_refl _), skip_nil, skip_nil]), Lib.hid (by rw [← HG.out, HG2.out, HM.out, drop_all s (Nat.le_refl _), skn_nil, skn_nil])⟩
            case measure => simp [intOf]; omega
      · have b35 : ((n : Int) == 35) = false := by simp; omega
        by_cases h10 : n = 10
        · subst h10
          have HR := Lib.hid (skip_line HN.out false (s.data.toList.drop (k + 1)))
          have HR2 := Lib.hid (skn_line HN.out false (s.data.toList.drop (k + 1)))
          go_wp2_with fail
          go_round
          case rel => exact ⟨k + 1, g + 1, by omega, by go_num, by go_num, by omega, by omega, Lib.hid (by rw [← HK.out, HD.out, HR.out]; omega), Lib.hid (by rw [← HG.out, HD.out, HR2.out]; omega)⟩
          case measure => simp [intOf]; omega
        · have b10 : ((n : Int) == 10) = false := by simp; omega
          have b10' : ((n : Int) != 10) = true := by simp; omega
          by_cases hbb : bb n = true
          · have HR := Lib.hid (skip_go (b := false) (by rw [HN.out]; exact h10) (by rw [HN.out, hbb]; rfl) (s.data.toList.drop (k + 1)))
            have HR2 := Lib.hid (skn_go (b := false) (by rw [HN.out]; exact h10) (by rw [HN.out, hbb]; rfl) (s.data.toList.drop (k + 1)))
            rw [bb_iff] at hbb
            clear h10 h35
            rcases hbb with rfl | rfl | rfl
            all_goals
              go_wp2_with fail
              go_round
              case rel => exact ⟨k + 1, g, by omega, by go_num, rfl, hg0, by omega, Lib.hid (by rw [← HK.out, HD.out, HR.out]; omega), Lib.hid (by rw [← HG.out, HD.out, HR2.out])⟩
              case measure => simp [intOf]; omega
          · have hb' : bb n = false := by simpa using hbb
            have hnn : n ≠ 32 ∧ n ≠ 9 ∧ n ≠ 13 := by
              have := mt (bb_iff n).2 (by simp [hb']); omega
            have b1 : ((n : Int) != 32) = true := by simp; omega
            have b2 : ((n : Int) != 9) = true := by simp; omega
            have b3 : ((n : Int) != 13) = true := by simp; omega
            have e1 : k = A := by
              have := HK.out
              rw [HD.out, skip_end (by rw [HN.out]; exact h10) (by rw [HN.out]; exact hb') (by rw [HN.out]; exact h35)] at this; exact this
            have e2 : g = L := by
              have := HG.out
              rw [HD.out, skn_end (by rw [HN.out]; exact h10) (by rw [HN.out]; exact hb') (by rw [HN.out]; exact h35)] at this; simpa using this
            subst e1 e2
            clear hbb hb' hnn h10 h35
            go_wp2_with fail
            go_ret2
            exact ⟨rfl, rfl⟩
    · obtain rfl : k = s.size := by omega
      have e1 : s.size = A := by have := HK.out; rw [drop_all s (Nat.le_refl _), skip_nil] at this; exact this
      have e2 : g = L := by have := HG.out; rw [drop_all s (Nat.le_refl _), skn_nil] at this; simpa using this
      subst e1 e2
      clear hlt
      go_wp2_with fail
      go_ret2
      exact ⟨rfl, rfl⟩
end Go.Proofs.YtijnijlekidhcaaDoor.Lex

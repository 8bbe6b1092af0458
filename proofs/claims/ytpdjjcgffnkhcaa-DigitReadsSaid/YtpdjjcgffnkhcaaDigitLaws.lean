/-
  Layer 2 (digit): the walks of the four laws.
-/
import Derived.Test.YtpdjjcgffnkhcaaDigitWorks
namespace Go.Proofs.Ytpdjjcgffnkhcaa.Digit
open Go.RowKit

theorem wf_i64 {n : Int} (h : (Lit.int .i64 n).wf = true) : -9223372036854775808 ≤ n ∧ n ≤ 9223372036854775807 := by
  simpa [Lit.wf, IntKind.min, IntKind.max, IntKind.bits, IntKind.signed] using h
theorem wf_u8 {n : Int} (h : (Lit.int .u8 n).wf = true) : 0 ≤ n ∧ n < 256 := by
  have : 0 ≤ n ∧ n ≤ 255 := by simpa [Lit.wf, IntKind.min, IntKind.max, IntKind.bits, IntKind.signed] using h
  omega

set_option maxHeartbeats 400000 in
theorem puts_walk (n width : Int) (h1 : -9223372036854775808 ≤ n) (h2 : n ≤ 9223372036854775807) (w : World) :
    Calls Try.prog 3 #[.int .i64 n, .int .i64 width] w fun e w' => e = .returned (.bool true) ∧ Below w.heap.size w w' := by
  have hB := Below.refl w.heap.size w
  go_enter Try.func3, Try.ntmps3
  go_wp2_with (first | (go_at_call 7; refine (put_calls _ (by omega) (by omega) _).mono ?_; rintro e w' ⟨rfl, hb⟩; replace hB := hB.trans (hb.mono hB.size); clear hb) | (go_at_call 9; refine (pad_calls _ _ (by omega) (by omega) _).mono ?_; rintro e w' ⟨rfl, hb⟩; replace hB := hB.trans (hb.mono hB.size); clear hb) | (go_at_call 8; refine (rput_calls _ (by omega) (by omega) _).mono ?_; rintro e w' ⟨rfl, rfl⟩) | (go_at_call 10; refine (rpad_calls _ _ (by omega) (by omega) _).mono ?_; rintro e w' ⟨rfl, rfl⟩) | (go_at_call 11; refine (works_calls _).mono ?_; rintro e w' ⟨rfl, hb⟩; replace hB := hB.trans (hb.mono hB.size); clear hb))
  go_ret
  exact ⟨rfl, hB⟩

set_option maxRecDepth 100000 in
set_option maxHeartbeats 400000 in
theorem hex_walk (c : Int) (h0 : 0 ≤ c) (h1 : c < 256) (s : ByteArray) (w : World) :
    Calls Try.prog 5 #[.int .u8 c, .string s] w fun e w' => e = .returned (.bool true) ∧ Below w.heap.size w w' := by
  have hB := Below.refl w.heap.size w
  obtain ⟨f1, f2⟩ := rh_some (c := c.toNat) (by omega)
  rw [show (c.toNat : Int) = c by omega] at f1
  go_enter Try.func5, Try.ntmps5
  go_wp2_with (first | (go_at_call 14; refine (readhex_calls _ _).mono ?_; rintro e w' ⟨rfl, rfl⟩) | (go_at_call 15; refine (rreadhex_calls s.data.toList _).mono ?_; rintro e w' ⟨rfl, rfl⟩) | (go_at_call 16; refine (hex_calls _ (by omega) (by omega) _).mono ?_; rintro e w' ⟨rfl, hb⟩; replace hB := hB.trans (hb.mono hB.size); clear hb) | (go_at_call 17; refine (rhex_calls _ (by omega) (by omega) _).mono ?_; rintro e w' ⟨rfl, rfl⟩) | (go_at_call 11; refine (works_calls _).mono ?_; rintro e w' ⟨rfl, hb⟩; replace hB := hB.trans (hb.mono hB.size); clear hb))
  go_ret
  exact ⟨rfl, hB⟩

theorem rd_dec (n : Int) : (rdC (dec n) = 0 ∧ rdV (dec n) = n ∧ 0 ≤ n ∧ n ≤ 1099511627776) ∨ (rdC (dec n) = 3 ∧ n < 0) ∨ (rdC (dec n) = 3 ∧ 0 ≤ n ∧ 1099511627776 < n ∧ decide (n ≤ 1099511627776) = false) := by
  by_cases h : 0 ≤ n ∧ n ≤ 1099511627776
  · obtain ⟨h1, h2⟩ := rd_some (s := dec n) ⟨h.1, h.2, rfl⟩
    exact .inl ⟨h2, h1, h.1, h.2⟩
  · have h3 : rdC (dec n) = 3 := (rd_none (s := dec n) (by
      rintro ⟨t, ht⟩
      have := dec_inj ht.2.2
      subst this
      exact h ⟨ht.1, ht.2.1⟩)).2
    by_cases h0 : n < 0
    · exact .inr (.inl ⟨h3, h0⟩)
    · exact .inr (.inr ⟨h3, by omega, by omega, decide_eq_false (by omega)⟩)
theorem rd_back (s : ByteArray) : (rdC s.data.toList = 0 ∧ (dec (rdV s.data.toList) == s.toList) = true ∧ 0 ≤ rdV s.data.toList ∧ rdV s.data.toList ≤ 1099511627776) ∨ rdC s.data.toList = 3 := by
  by_cases h : ∃ t, IsTick s.data.toList t
  · obtain ⟨t, ht⟩ := h
    obtain ⟨h1, h2⟩ := rd_some ht
    rw [h1, h2, ht.2.2, ByteArray.toList_eq]
    exact .inl ⟨rfl, by simp, ht.1, ht.2.1⟩
  · exact .inr (rd_none h).2

set_option maxRecDepth 100000 in
set_option maxHeartbeats 1000000 in
theorem reads_walk (s : ByteArray) (n : Int) (h1 : -9223372036854775808 ≤ n) (h2 : n ≤ 9223372036854775807) (hs : s.size ≤ 9223372036854775807) (w : World) :
    Calls Try.prog 4 #[.string s, .int .i64 n] w fun e w' => e = .returned (.bool true) ∧ Below w.heap.size w w' := by
  have hB := Below.refl w.heap.size w
  by_cases h100 : s.size ≤ 100
  · have L := dec_len h1 h2
    rcases rd_back s with ⟨b1, b2, b3, b4⟩ | b1
    all_goals
      rcases rd_dec n with ⟨c1, c2, c3, c4⟩ | ⟨c1, c2⟩ | ⟨c1, c2, c3, c4⟩
      all_goals
        go_enter Try.func4, Try.ntmps4
        go_wp2_with (first | (go_at_call 12; refine (read_calls _ (by first | omega | (rw [size_mk]; omega)) _).mono ?_; rintro e w' ⟨rfl, hb⟩; replace hB := hB.trans (hb.mono hB.size); clear hb) | (go_at_call 13; refine (rread_calls _ (by omega) _).mono ?_; rintro e w' ⟨rfl, rfl⟩) | (go_at_call 7; refine (put_calls _ (by omega) (by omega) _).mono ?_; rintro e w' ⟨rfl, hb⟩; replace hB := hB.trans (hb.mono hB.size); clear hb) | (go_at_call 11; refine (works_calls _).mono ?_; rintro e w' ⟨rfl, hb⟩; replace hB := hB.trans (hb.mono hB.size); clear hb))
        go_ret
        exact ⟨rfl, hB⟩
  · go_enter Try.func4, Try.ntmps4
    go_wp2_with (go_at_call 11; refine (works_calls _).mono ?_; rintro e w' ⟨rfl, hb⟩; replace hB := hB.trans (hb.mono hB.size); clear hb)
    go_ret
    exact ⟨rfl, hB⟩

theorem shw_seen (l : List UInt8) : ∀ c ∈ shw l, 32 ≤ c.toNat ∧ c.toNat ≤ 126 := by
  have hh : ∀ d, d < 16 → 32 ≤ (hexd d).toNat ∧ (hexd d).toNat ≤ 126 := by
    have : ∀ d : Fin 16, 32 ≤ (hexd d.val).toNat ∧ (hexd d.val).toNat ≤ 126 := by decide
    exact fun d hd => this ⟨d, hd⟩
  induction l with
  | nil => intro c hc; simp [shw] at hc
  | cons a l ih =>
    rw [shw_cons]
    intro c hc
    rcases List.mem_append.1 hc with hc | hc
    · have ha := a.toNat_lt
      unfold sgn at hc
      split at hc
      · simp at hc; subst hc; decide
      split at hc
      · simp at hc; rcases hc with rfl | rfl <;> decide
      split at hc
      · simp at hc; rcases hc with rfl | rfl <;> decide
      split at hc
      · simp at hc; rcases hc with rfl | rfl <;> decide
      split at hc
      · simp [hexS] at hc
        rcases hc with rfl | rfl | rfl | rfl
        · decide
        · decide
        · exact hh _ (by omega)
        · exact hh _ (by omega)
      · simp at hc; subst hc; omega
    · exact ih c hc

theorem un_shw (l : List UInt8) : unV (shw l) = l ∧ unC (shw l) = 0 := by
  rw [unV, unC, uns_shw]; exact ⟨rfl, rfl⟩
theorem shw_un (t : ByteArray) : (unC t.data.toList = 0 ∧ (shw (unV t.data.toList) == t.toList) = true ∧ (unV t.data.toList).length ≤ t.size) ∨ unC t.data.toList = 3 := by
  cases h : uns t.data.toList with
  | none => right; rw [unC, h]; rfl
  | some r =>
    left
    have hr := shw_uns _ r h
    rw [unC, unV, h]
    refine ⟨rfl, by simp [hr, ByteArray.toList_eq], ?_⟩
    show r.length ≤ _
    rw [← size_list, ← hr]
    clear hr h
    induction r with
    | nil => simp
    | cons c r ih => rw [shw_cons, List.length_append, List.length_cons]; have := (sgn_len c.toNat).1; omega

theorem show_at (s a : ByteArray) (ha : a = ⟨(shw s.data.toList).toArray⟩) (hs : s.size ≤ 100000) (w : World) :
    Calls Try.prog 18 #[.string s] w fun e w' => e = .returned (.string a) ∧ Below w.heap.size w w' := by
  subst ha; exact show_calls s hs w
theorem show_back (r : List UInt8) (hs : r.length ≤ 100000) (w : World) :
    Calls Try.prog 18 #[.string ⟨r.toArray⟩] w fun e w' => e = .returned (.string ⟨(shw r).toArray⟩) ∧ Below w.heap.size w w' := show_calls ⟨r.toArray⟩ hs w
theorem runshow_at (s : ByteArray) (hs : s.size ≤ 100000) (w : World) :
    Calls Try.prog 20 #[.string s] w fun e w' => e = .returned (.tuple #[.string ⟨(unV s.data.toList).toArray⟩, .int .i64 (unC s.data.toList)]) ∧ Below w.heap.size w w' := runshow_calls s.data.toList hs w

set_option maxRecDepth 100000 in
set_option maxHeartbeats 1000000 in
theorem shows_walk (s t : ByteArray) (w : World) :
    Calls Try.prog 6 #[.string s, .string t] w fun e w' => e = .returned (.bool true) ∧ Below w.heap.size w w' := by
  have hB := Below.refl w.heap.size w
  by_cases hs : s.size ≤ 300
  · by_cases ht : t.size ≤ 300
    · obtain ⟨a, ha⟩ : ∃ a : ByteArray, a = ⟨(shw s.data.toList).toArray⟩ := ⟨_, rfl⟩
      have hal : a.data.toList = shw s.data.toList := by rw [ha]
      have hsz : a.size ≤ 1200 := by have := shw_len s.data.toList; rw [← hal, size_list, size_list] at this; omega
      have hseen : ∀ k (h : k < a.size), 32 ≤ (a[k].toNat : Int) ∧ (a[k].toNat : Int) ≤ 126 := fun k h => by
        have := shw_seen s.data.toList a[k] (by rw [← hal]; show a.data[k] ∈ _; simp)
        omega
      have HG := Lib.hid hseen
      obtain ⟨f1, f2⟩ := un_shw s.data.toList
      rw [← hal] at f1 f2
      have f3 : (a.toList == shw s.data.toList) = true := by rw [ByteArray.toList_eq, hal]; simp
      have f4 : (s.data.toList == s.toList) = true := by rw [ByteArray.toList_eq]; simp
      have HA := Lib.hid ha
      clear ha hal hseen
      rcases shw_un t with ⟨g1, g2, g3⟩ | g1
      all_goals
        go_enter Try.func6, Try.ntmps6
        go_wp2_with (first | (go_at_call 18; refine (show_at _ a HA.out (by omega) _).mono ?_; rintro e w' ⟨rfl, hb⟩; replace hB := hB.trans (hb.mono hB.size); clear hb) | (go_at_call 19; refine (unshow_calls _ (by omega) _).mono ?_; rintro e w' ⟨rfl, hb⟩; replace hB := hB.trans (hb.mono hB.size); clear hb) | (go_at_call 20; refine (runshow_at _ (by omega) _).mono ?_; rintro e w' ⟨rfl, hb⟩; replace hB := hB.trans (hb.mono hB.size); clear hb))
        go_loop [12] (fun i => ∃ k : Nat, k ≤ a.size ∧ i = .int .i64 k) (fun i => a.size - (intOf i).toNat)
        case atStart => exact ⟨0, Nat.zero_le _, rfl⟩
        case round =>
          obtain ⟨k, hk, rfl⟩ := hrel
          by_cases hlt : k < a.size
          · obtain ⟨d0, d1⟩ := HG.out k hlt
            go_wp2_with fail
            go_round
            case rel => exact ⟨k + 1, by omega, by go_num⟩
            case measure => simp [intOf]; omega
          · go_wp2_with (first | (go_at_call 21; refine (rshow_calls _ (by omega) _).mono ?_; rintro e w' ⟨rfl, hb⟩; replace hB := hB.trans (hb.mono hB.size); clear hb) | (go_at_call 18; refine (show_back _ (by omega) _).mono ?_; rintro e w' ⟨rfl, hb⟩; replace hB := hB.trans (hb.mono hB.size); clear hb) | (go_at_call 11; refine (works_calls _).mono ?_; rintro e w' ⟨rfl, hb⟩; replace hB := hB.trans (hb.mono hB.size); clear hb))
            go_ret
            exact ⟨rfl, hB⟩
    · go_enter Try.func6, Try.ntmps6
      go_wp2_with (go_at_call 11; refine (works_calls _).mono ?_; rintro e w' ⟨rfl, hb⟩; replace hB := hB.trans (hb.mono hB.size); clear hb)
      go_ret
      exact ⟨rfl, hB⟩
  · go_enter Try.func6, Try.ntmps6
    go_wp2_with (go_at_call 11; refine (works_calls _).mono ?_; rintro e w' ⟨rfl, hb⟩; replace hB := hB.trans (hb.mono hB.size); clear hb)
    go_ret
    exact ⟨rfl, hB⟩

end Go.Proofs.Ytpdjjcgffnkhcaa.Digit

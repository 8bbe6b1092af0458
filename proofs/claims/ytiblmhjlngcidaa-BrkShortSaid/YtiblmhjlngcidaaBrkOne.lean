/-
  Layer 14 (brk): waitSign, readTicks, escaped, first.
-/
import Derived.Test.YtiblmhjlngcidaaBrkPlain
import Derived.Test.YtiblmhjlngcidaaNumPut
import Derived.Test.YtiblmhjlngcidaaDigitTick
import Derived.Test.YtiblmhjlngcidaaDigitReadHex
namespace Go.Proofs.Ytiblmhjlngcidaa.Brk
open Go.RowKit Go.Proofs.Ytiblmhjlngcidaa.Digit

theorem trim_calls (s p : ByteArray) (w : World) :
    Calls Try.prog 39 #[.string s, .string p] w fun e w' => e = .returned (.string ⟨(Lib.trimPrefix s.data.toList p.data.toList).toArray⟩) ∧ w = w' :=
  (Try.strings_TrimPrefix s p w).mono fun _ _ ⟨h1, h2⟩ => ⟨h1, h2.symm⟩

set_option maxHeartbeats 400000 in
theorem sign_wait (n : Nat) (h1 : 1 ≤ n) (h2 : n ≤ 99) (w : World) :
    Calls Try.prog 77 #[.int .i64 n] w fun e w' => e = .returned (.string ⟨(wsg n).toArray⟩) ∧ Below w.heap.size w w' := by
  by_cases e : n = 1
  · subst e
    go_enter Try.func77, Try.ntmps77
    go_wp2_with fail
    go_ret
    exact ⟨rfl, Below.refl _ _⟩
  · have HW := Lib.hid (show wsg n = [92, 119] ++ two n from if_neg e)
    have HP := Lib.hid (pad_two h2)
    have b : ((n : Int) == 1) = false := by simp; omega
    have hl : (two n).length = 2 := rfl
    go_enter Try.func77, Try.ntmps77
    go_wp2_with (go_at_call 40; refine (pad_calls _ _ (by omega) (by omega) _).mono ?_; rintro e w' ⟨rfl, hb⟩; rw [HP.out])
    go_ret
    exact ⟨ret_string (by rw [HW.out, ← bytes_add]), hb⟩

theorem rdV_bd (l : List UInt8) : 0 ≤ rdV l ∧ rdV l ≤ 1099511627776 := by
  by_cases h : ∃ n, IsTick l n
  · obtain ⟨n, h⟩ := h
    rw [(rd_some h).1]; exact ⟨h.1, h.2.1⟩
  · rw [(rd_none h).1]; omega
theorem hexd_zero {n : Nat} (h : n < 16) (e : hexd n = 48) : n = 0 := hexd_inj h (by omega) (e.trans (by decide))
theorem trim_two {n : Nat} (h1 : 1 ≤ n) (h2 : n ≤ 99) : rdV (Lib.trimPrefix (two n) [48]) = n := by
  refine (rd_some ⟨by omega, by omega, ?_⟩).1
  by_cases h : n < 10
  · have e : two n = [48, hexd n] := by rw [two, show n / 10 = 0 by omega, show n % 10 = n by omega]; rfl
    rw [e, dec_lt (by omega) (by omega)]
    rfl
  · have e : dec (n : Int) = two n := by
      rw [dec_ge (by omega), dec_lt (by omega) (by omega), two, show ((n : Int) / 10).toNat = n / 10 by omega, show ((n : Int) % 10).toNat = n % 10 by omega]; rfl
    rw [e, Lib.trimPrefix, if_neg]
    intro hp
    have : (48 : UInt8) = hexd (n / 10) := by
      simp [Lib.hasPrefix, two] at hp; exact hp
    have := hexd_zero (by omega) this.symm
    omega
theorem tick_two {l : List UInt8} (hl : l.length ≤ 2) : (padI (rdV (Lib.trimPrefix l [48])) 2 = l → rdV (Lib.trimPrefix l [48]) = tk l) ∧ (padI (rdV (Lib.trimPrefix l [48])) 2 ≠ l → tk l = 0) := by
  obtain ⟨r0, r1⟩ := rdV_bd (Lib.trimPrefix l [48])
  constructor
  · intro h
    obtain ⟨N, hN⟩ : ∃ N : Nat, rdV (Lib.trimPrefix l [48]) = N := ⟨_, (Int.toNat_of_nonneg r0).symm⟩
    rw [hN] at h ⊢
    by_cases h9 : N ≤ 99
    · rw [pad_two h9] at h
      by_cases h0 : N = 0
      · subst h0
        rw [tk_none]
        rintro ⟨n, n1, n2, e⟩
        have := two_inj n2 (by omega) (e.trans h.symm)
        omega
      · rw [← h, tk_some (by omega) h9]
    · rw [pad_long (by omega)] at h
      have := dec_long (n := N) (by omega)
      rw [h] at this
      omega
  · intro h
    refine tk_none ?_
    rintro ⟨n, n1, n2, rfl⟩
    rw [trim_two n1 n2, pad_two n2] at h
    exact h rfl

set_option maxRecDepth 100000 in
set_option maxHeartbeats 400000 in
theorem ticks_calls (s : ByteArray) (hs : s.size ≤ 2) (w : World) :
    Calls Try.prog 32 #[.string s] w fun e w' => e = .returned (.int .i64 (tk s.data.toList)) ∧ Below w.heap.size w w' := by
  obtain ⟨t1, t2⟩ := tick_two (l := s.data.toList) hs
  obtain ⟨r0, r1⟩ := rdV_bd (Lib.trimPrefix s.data.toList [48])
  have hz : (Lib.trimPrefix s.data.toList [48]).length ≤ 2 := by
    unfold Lib.trimPrefix
    split
    · rw [List.length_drop, size_list]; omega
    · rw [size_list]; omega
  obtain ⟨u, hu⟩ : ∃ u : ByteArray, u = ⟨(Lib.trimPrefix s.data.toList [48]).toArray⟩ := ⟨_, rfl⟩
  have hul : u.data.toList = Lib.trimPrefix s.data.toList [48] := by rw [hu]
  have hus : u.size ≤ 2 := by rw [← size_list, hul]; exact hz
  have HC := Lib.hid (fun w => (trim_calls s ⟨#[48]⟩ w))
  rw [show (⟨#[48]⟩ : ByteArray).data.toList = [48] from rfl, ← hu] at HC
  have HR := Lib.hid (read_calls u (by omega))
  rw [← hul] at t1 t2 r0 r1
  generalize rdV u.data.toList = N at *
  generalize rdC u.data.toList = C at *
  have HT1 := Lib.hid t1
  have HT2 := Lib.hid t2
  clear t1 t2 hul hu hz hus
  by_cases h : padI N 2 = s.data.toList
  · have hx : (padI N 2 == s.toList) = true := by rw [h, ByteArray.toList_eq]; simp
    have hy : (padI N 2 != s.toList) = false := by rw [bne, hx]; rfl
    have HE := Lib.hid (HT1.out h)
    clear h
    go_enter Try.func32, Try.ntmps32
    go_wp2_with (first
      | (go_at_call 39; refine (HC.out _).mono ?_; rintro e w' ⟨rfl, rfl⟩)
      | (go_at_call 38; refine (HR.out _).mono ?_; rintro e w' ⟨rfl, hb⟩)
      | (go_at_call 40; refine (pad_calls _ _ (by omega) (by omega) _).mono ?_; rintro e w' ⟨rfl, hb2⟩))
    go_ret
    exact ⟨by rw [HE.out]; rfl, hb.trans (hb2.mono hb.size)⟩
  · have hx : (padI N 2 == s.toList) = false := by rw [beq_eq_false_iff_ne, ByteArray.toList_eq]; exact h
    have hy : (padI N 2 != s.toList) = true := by rw [bne, hx]; rfl
    have HE := Lib.hid (HT2.out h)
    clear h
    go_enter Try.func32, Try.ntmps32
    go_wp2_with (first
      | (go_at_call 39; refine (HC.out _).mono ?_; rintro e w' ⟨rfl, rfl⟩)
      | (go_at_call 38; refine (HR.out _).mono ?_; rintro e w' ⟨rfl, hb⟩)
      | (go_at_call 40; refine (pad_calls _ _ (by omega) (by omega) _).mono ?_; rintro e w' ⟨rfl, hb2⟩))
    go_ret
    exact ⟨by rw [HE.out]; rfl, hb.trans (hb2.mono hb.size)⟩

/-- a step as a value of its interface -/
def stV (x : Op) : Value := if x.k = 1 then .iface 58 (.string ⟨x.s.toArray⟩) else if x.k = 2 then .iface 59 (.int .i64 x.n) else if x.k = 3 then .iface 61 (.agg #[]) else .nilIface
def oneV (r : Op × Nat) : Ending := .returned (.tuple #[stV r.1, .int .i64 r.2])

theorem cut_rest (s : ByteArray) (h : 2 ≤ s.size) : ∃ p : ByteArray, p.size ≤ 2 ∧ p.data.toList = (s.data.toList.drop 2).take 2 ∧ s.extract 2 (min 4 (s.size : Int)).toNat = p := by
  refine ⟨s.extract 2 (min 4 (s.size : Int)).toNat, ?_, ?_, rfl⟩
  · rw [ByteArray.size_extract]; omega
  · by_cases h4 : 4 ≤ s.size
    · simp [ByteArray.data_extract, show (min 4 (s.size : Int)).toNat = 4 by omega, List.extract_eq_take_drop]
    · have hl : (s.data.toList.drop 2).length = s.size - 2 := by rw [List.length_drop, size_list]
      rw [List.take_of_length_le (by omega)]
      simp [ByteArray.data_extract, show (min 4 (s.size : Int)).toNat = s.size by omega, List.extract_eq_take_drop]
      rw [List.take_of_length_le (by rw [hl]; omega)]

set_option maxRecDepth 100000 in
set_option maxHeartbeats 1000000 in
theorem escaped_calls (s : ByteArray) (h2 : 2 ≤ s.size) (hs : s.size ≤ 100000) (w : World) :
    Calls Try.prog 25 #[.string s] w fun e w' => e = oneV (esc s[1] (s.data.toList.drop 2)) ∧ Below w.heap.size w w' := by
  obtain ⟨p, hp, hpl, hpe⟩ := cut_rest s h2
  have e4 : ∀ n : Nat, n < 256 → ((s[1].toNat : Int) = n) → s[1] = n.toUInt8 := fun n hn h => eq_byte h
  have e5 : ∀ n : Nat, n < 256 → ¬ ((s[1].toNat : Int) = n) → s[1] ≠ n.toUInt8 := fun n hn h => ne_byte h hn
  have HE := Lib.hid e4
  have HN := Lib.hid e5
  clear e4 e5
  by_cases c1 : (s[1].toNat : Int) = 92
  · have H := Lib.hid (show esc s[1] (s.data.toList.drop 2) = (⟨1, [92], 0⟩, 2) by rw [HE.out 92 (by omega) c1]; rfl)
    go_enter Try.func25, Try.ntmps25
    go_wp2_with fail
    go_ret2
    exact ⟨by rw [H.out]; rfl, Below.refl _ _⟩
  by_cases c2 : (s[1].toNat : Int) = 114
  · have H := Lib.hid (show esc s[1] (s.data.toList.drop 2) = (⟨1, [13], 0⟩, 2) by rw [HE.out 114 (by omega) c2]; rfl)
    go_enter Try.func25, Try.ntmps25
    go_wp2_with fail
    go_ret2
    exact ⟨by rw [H.out]; rfl, Below.refl _ _⟩
  by_cases c3 : (s[1].toNat : Int) = 110
  · have H := Lib.hid (show esc s[1] (s.data.toList.drop 2) = (⟨1, [10], 0⟩, 2) by rw [HE.out 110 (by omega) c3]; rfl)
    go_enter Try.func25, Try.ntmps25
    go_wp2_with fail
    go_ret2
    exact ⟨by rw [H.out]; rfl, Below.refl _ _⟩
  by_cases c4 : (s[1].toNat : Int) = 116
  · have H := Lib.hid (show esc s[1] (s.data.toList.drop 2) = (⟨1, [9], 0⟩, 2) by rw [HE.out 116 (by omega) c4]; rfl)
    go_enter Try.func25, Try.ntmps25
    go_wp2_with fail
    go_ret2
    exact ⟨by rw [H.out]; rfl, Below.refl _ _⟩
  by_cases c5 : (s[1].toNat : Int) = 100
  · have H := Lib.hid (show esc s[1] (s.data.toList.drop 2) = (⟨2, [], 1⟩, 2) by rw [HE.out 100 (by omega) c5]; rfl)
    go_enter Try.func25, Try.ntmps25
    go_wp2_with fail
    go_ret2
    exact ⟨by rw [H.out]; rfl, Below.refl _ _⟩
  by_cases c6 : (s[1].toNat : Int) = 122
  · have H := Lib.hid (show esc s[1] (s.data.toList.drop 2) = (⟨3, [], 0⟩, 2) by rw [HE.out 122 (by omega) c6]; rfl)
    go_enter Try.func25, Try.ntmps25
    go_wp2_with fail
    go_ret2
    exact ⟨by rw [H.out]; rfl, Below.refl _ _⟩
  by_cases c7 : (s[1].toNat : Int) = 120
  · have H0 : esc s[1] (s.data.toList.drop 2) = if rhC p.data.toList = 0 then (⟨1, [(rhV p.data.toList).toNat.toUInt8], 0⟩, 4) else no := by rw [HE.out 120 (by omega) c7, hpl]; rfl
    have HR := Lib.hid (readhex_calls p)
    obtain ⟨v0, v1⟩ := rhV_bd p.data.toList
    generalize rhV p.data.toList = v at *
    generalize rhC p.data.toList = c at *
    by_cases hc : c = 0
    · have H := Lib.hid (H0.trans (if_pos hc))
      subst hc
      have hcv := fun (W : World) => run_byte_string W v 45 58 5 Try.underlying45 Try.underlying5 Try.underlying58
      clear H0 hpl
      go_enter Try.func25, Try.ntmps25
      go_wp2_with (go_at_call 31; refine (HR.out _).mono ?_; rintro e w' ⟨rfl, rfl⟩)
      go_ret2
      exact ⟨by rw [H.out]; rfl, (Below.refl _ _).alloc (Nat.le_refl _) _⟩
    · have H := Lib.hid (H0.trans (if_neg hc))
      have b : (c == 0) = false := by simpa using hc
      clear H0 hpl hc
      go_enter Try.func25, Try.ntmps25
      go_wp2_with (go_at_call 31; refine (HR.out _).mono ?_; rintro e w' ⟨rfl, rfl⟩)
      go_ret2
      exact ⟨by rw [H.out]; rfl, Below.refl _ _⟩
  by_cases c8 : (s[1].toNat : Int) = 119
  · have H0 : esc s[1] (s.data.toList.drop 2) = if tk p.data.toList = 0 then no else (⟨2, [], tk p.data.toList⟩, 4) := by rw [HE.out 119 (by omega) c8, hpl]; rfl
    have HR := Lib.hid (ticks_calls p hp)
    have hk : tk p.data.toList = 0 ∨ tk p.data.toList ≤ 99 := by
      by_cases h : tk p.data.toList = 0
      · exact .inl h
      · exact .inr (tk_is h).2.1
    generalize tk p.data.toList = v at *
    by_cases hc : v = 0
    · have H := Lib.hid (H0.trans (if_pos hc))
      subst hc
      clear H0 hpl hk
      go_enter Try.func25, Try.ntmps25
      go_wp2_with (go_at_call 32; refine (HR.out _).mono ?_; rintro e w' ⟨rfl, hb⟩)
      go_ret2
      exact ⟨by rw [H.out]; rfl, hb⟩
    · have H := Lib.hid (H0.trans (if_neg hc))
      have b : (0 : Int) < (v : Int) := by omega
      clear H0 hpl
      go_enter Try.func25, Try.ntmps25
      go_wp2_with (go_at_call 32; refine (HR.out _).mono ?_; rintro e w' ⟨rfl, hb⟩)
      go_ret2
      exact ⟨by rw [H.out]; rfl, hb⟩
  · have H := Lib.hid (show esc s[1] (s.data.toList.drop 2) = no by
      unfold esc
      rw [if_neg (show ¬ s[1] = 92 from HN.out 92 (by omega) c1), if_neg (show ¬ s[1] = 114 from HN.out 114 (by omega) c2), if_neg (show ¬ s[1] = 110 from HN.out 110 (by omega) c3), if_neg (show ¬ s[1] = 116 from HN.out 116 (by omega) c4), if_neg (show ¬ s[1] = 100 from HN.out 100 (by omega) c5), if_neg (show ¬ s[1] = 122 from HN.out 122 (by omega) c6), if_neg (show ¬ s[1] = 120 from HN.out 120 (by omega) c7), if_neg (show ¬ s[1] = 119 from HN.out 119 (by omega) c8)])
    go_enter Try.func25, Try.ntmps25
    go_wp2_with fail
    go_ret2
    exact ⟨by rw [H.out]; rfl, Below.refl _ _⟩

set_option maxRecDepth 100000 in
theorem escaped_short (s : ByteArray) (h2 : s.size < 2) (w : World) :
    Calls Try.prog 25 #[.string s] w fun e w' => e = .returned (.tuple #[.nilIface, .int .i64 0]) ∧ w = w' := by
  have q : (s.size : Int) < 2 := by omega
  go_enter Try.func25, Try.ntmps25
  go_wp2_with fail
  go_ret2
  exact ⟨rfl, rfl⟩
theorem list_three (s : ByteArray) (h : 1 < s.size) : s.data.toList = s[0] :: s[1] :: s.data.toList.drop 2 := by
  obtain ⟨u, e⟩ := list_two s h
  rw [e]; rfl

set_option maxRecDepth 100000 in
set_option maxHeartbeats 1000000 in
theorem first_calls (s : ByteArray) (h1 : 0 < s.size) (hs : s.size ≤ 100000) (w : World) :
    Calls Try.prog 16 #[.string s] w fun e w' => e = oneV (one s.data.toList) ∧ Below w.heap.size w w' := by
  by_cases c0 : (s[0].toNat : Int) = 92
  · have e0 : s[0] = 92 := eq_byte (n := 92) c0
    by_cases hz : s.size = 1
    · have H := Lib.hid (show one s.data.toList = no by
        obtain ⟨t, e⟩ := list_one s h1
        have hl := congrArg List.length e
        rw [size_list, List.length_cons] at hl
        obtain rfl : t = [] := List.eq_nil_of_length_eq_zero (by omega)
        rw [e, e0, one_lone])
      go_enter Try.func16, Try.ntmps16
      go_wp2_with (go_at_call 25; refine (escaped_short s (by omega) _).mono ?_; rintro e w' ⟨rfl, rfl⟩)
      go_ret2
      exact ⟨by rw [H.out]; rfl, Below.refl _ _⟩
    · have H := Lib.hid (show one s.data.toList = esc s[1] (s.data.toList.drop 2) by rw [list_three s (by omega), e0, one_esc]; rfl)
      have HC := Lib.hid (escaped_calls s (by omega) hs)
      unfold oneV at HC
      generalize esc s[1] (s.data.toList.drop 2) = r at *
      clear e0
      go_enter Try.func16, Try.ntmps16
      go_wp2_with (go_at_call 25; refine (HC.out _).mono ?_; rintro e w' ⟨rfl, hb⟩)
      go_ret2
      exact ⟨by rw [H.out]; rfl, hb⟩
  · have e0 : s[0] ≠ 92 := ne_byte (n := 92) c0 (by omega)
    obtain ⟨t, e⟩ := list_one s h1
    by_cases hc : 32 ≤ (s[0].toNat : Int) ∧ (s[0].toNat : Int) ≤ 126
    · obtain ⟨q1, q2⟩ := hc
      have H := Lib.hid (show one s.data.toList = (⟨1, [s[0]], 0⟩, 1) by rw [e]; exact one_plain t (by omega) (by omega) e0)
      have HX := Lib.hid (show s.extract 0 1 = ⟨#[s[0]]⟩ by
        apply ByteArray.ext
        apply Array.toList_inj.1
        simp [ByteArray.data_extract, List.extract_eq_take_drop, e])
      clear e0 e
      go_enter Try.func16, Try.ntmps16
      go_wp2_with fail
      go_ret2
      exact ⟨by rw [H.out, HX.out]; rfl, Below.refl _ _⟩
    · have H := Lib.hid (show one s.data.toList = no by rw [e]; exact one_bad t (fun g => hc ⟨by omega, by omega⟩) e0)
      clear e0 e
      rcases (show (s[0].toNat : Int) < 32 ∨ (32 ≤ (s[0].toNat : Int) ∧ 126 < (s[0].toNat : Int)) by omega) with q | ⟨q, q2⟩
      all_goals
        clear hc
        go_enter Try.func16, Try.ntmps16
        go_wp2_with fail
        go_ret2
        exact ⟨by rw [H.out]; rfl, Below.refl _ _⟩
end Go.Proofs.Ytiblmhjlngcidaa.Brk

/-
Layer 14 (brk): waitSign, readTicks, escaped, first.
Layer 14 (brk): kind, op, isOne, stepOf.
Layer 14 (brk): op; a step's text.
Layer 14 (brk): ops in memory.
Layer 14 (brk): behind.
Layer 14 (brk): Read.
Layer 15 (conf): settings: kind, retry, init, like.
Layer 15 (conf): settings: retry, like.
Layer 15 (conf): settings: like.
-/
import Derived.Test.YtajfdachpdkbcaaGreatDoorPack9
import Derived.Deep.RegionHeld3
import Derived.Laws.OwnMore
import Derived.Deep.QuietTactic
import Derived.BigQuiet
section
namespace Go.Proofs.YtajfdachpdkbcaaGreatDoor.Brk
open Go.RowKit Go.Proofs.YtajfdachpdkbcaaGreatDoor.Digit

theorem trim_calls (s p : ByteArray) (w : World) :
    Calls Tryz.prog 182 #[.string s, .string p] w fun e w' => e = .returned (.string ⟨(Lib.trimPrefix s.data.toList p.data.toList).toArray⟩) ∧ w = w' :=
  (Tryz.strings_TrimPrefix s p w).mono fun _ _ ⟨h1, h2⟩ => ⟨h1, h2.symm⟩

theorem rdV_bd (l : List UInt8) : 0 ≤ rdV l ∧ rdV l ≤ 1099511627776 := by
  by_cases h : ∃ n, IsTick l n
  · obtain ⟨n, h⟩ := h
    rw [(rd_some h).1]; exact ⟨h.1, h.2.1⟩
  · rw [(rd_none h).1]; omega
theorem hexd_zero {n : Nat} (h : n < 16) (e : hexd n = 48) : n = 0 := hexd_inj h (by omega) (e.trans (by decide))
theorem trim_two {n : Nat} (h1 : 1 ≤ n) (h2 : n ≤ 99) : rdV (Lib.trimPrefix (two n) [48]) = n := by
  refine (rd_some ⟨by omega, by omega, ?_⟩).1
  by_cases h : n < 10
  · have e : two n = [48, hexd n] := by rw [two, show n / 10 = 0 by omega, show n % 10 = n by omega]; rfl
    rw [e, dec_lt (by omega) (by omega)]
    rfl
  · have e : dec (n : Int) = two n := by
      rw [dec_ge (by omega), dec_lt (by omega) (by omega), two, show ((n : Int) / 10).toNat = n / 10 by omega, show ((n : Int) % 10).toNat = n % 10 by omega]; rfl
    rw [e, Lib.trimPrefix, if_neg]
    intro hp
    have : (48 : UInt8) = hexd (n / 10) := by
      simp [Lib.hasPrefix, two] at hp; exact hp
    have := hexd_zero (by omega) this.symm
    omega
theorem tick_two {l : List UInt8} (hl : l.length ≤ 2) : (padI (rdV (Lib.trimPrefix l [48])) 2 = l → rdV (Lib.trimPrefix l [48]) = tk l) ∧ (padI (rdV (Lib.trimPrefix l [48])) 2 ≠ l → tk l = 0) := by
  obtain ⟨r0, r1⟩ := rdV_bd (Lib.trimPrefix l [48])
  constructor
  · intro h
    obtain ⟨N, hN⟩ : ∃ N : Nat, rdV (Lib.trimPrefix l [48]) = N := ⟨_, (Int.toNat_of_nonneg r0).symm⟩
    rw [hN] at h ⊢
    by_cases h9 : N ≤ 99
    · rw [pad_two h9] at h
      by_cases h0 : N = 0
      · subst h0
        rw [tk_none]
        rintro ⟨n, n1, n2, e⟩
        have := two_inj n2 (by omega) (e.trans h.symm)
        omega
      · rw [← h, tk_some (by omega) h9]
    · rw [pad_long (by omega)] at h
      have := dec_long (n := N) (by omega)
      rw [h] at this
      omega
  · intro h
    refine tk_none ?_
    rintro ⟨n, n1, n2, rfl⟩
    rw [trim_two n1 n2, pad_two n2] at h
    exact h rfl

set_option maxRecDepth 100000 in
set_option maxHeartbeats 400000 in
theorem ticks_calls (s : ByteArray) (hs : s.size ≤ 2) (w : World) :
    Calls Tryz.prog 181 #[.string s] w fun e w' => e = .returned (.int .i64 (tk s.data.toList)) ∧ Below w.heap.size w w' := by
  obtain ⟨t1, t2⟩ := tick_two (l := s.data.toList) hs
  obtain ⟨r0, r1⟩ := rdV_bd (Lib.trimPrefix s.data.toList [48])
  have hz : (Lib.trimPrefix s.data.toList [48]).length ≤ 2 := by
    unfold Lib.trimPrefix
    split
    · rw [List.length_drop, size_list]; omega
    · rw [size_list]; omega
  obtain ⟨u, hu⟩ : ∃ u : ByteArray, u = ⟨(Lib.trimPrefix s.data.toList [48]).toArray⟩ := ⟨_, rfl⟩
  have hul : u.data.toList = Lib.trimPrefix s.data.toList [48] := by rw [hu]
  have hus : u.size ≤ 2 := by rw [← size_list, hul]; exact hz
  have HC := Lib.hid (fun w => (trim_calls s ⟨#[48]⟩ w))
  rw [show (⟨#[48]⟩ : ByteArray).data.toList = [48] from rfl, ← hu] at HC
  have HR := Lib.hid (read_calls u (by omega))
  rw [← hul] at t1 t2 r0 r1
  generalize rdV u.data.toList = N at *
  generalize rdC u.data.toList = C at *
  have HT1 := Lib.hid t1
  have HT2 := Lib.hid t2
  clear t1 t2 hul hu hz hus
  by_cases h : padI N 2 = s.data.toList
  · have hx : (padI N 2 == s.toList) = true := by rw [h, ByteArray.toList_eq]; simp
    have hy : (padI N 2 != s.toList) = false := by rw [bne, hx]; rfl
    have HE := Lib.hid (HT1.out h)
    clear h
    go_enter Tryz.func181, Tryz.ntmps181
    go_wp2_with (first
      | (go_at_call 182; refine (HC.out _).mono ?_; rintro e w' ⟨rfl, rfl⟩)
      | (go_at_call 149; refine (HR.out _).mono ?_; rintro e w' ⟨rfl, hb⟩)
      | (go_at_call 183; refine (pad_calls _ _ (by omega) (by omega) _).mono ?_; rintro e w' ⟨rfl, hb2⟩))
    go_ret
    exact ⟨by rw [HE.out]; rfl, hb.trans (hb2.mono hb.size)⟩
  · have hx : (padI N 2 == s.toList) = false := by rw [beq_eq_false_iff_ne, ByteArray.toList_eq]; exact h
    have hy : (padI N 2 != s.toList) = true := by rw [bne, hx]; rfl
    have HE := Lib.hid (HT2.out h)
    clear h
    go_enter Tryz.func181, Tryz.ntmps181
    go_wp2_with (first
      | (go_at_call 182; refine (HC.out _).mono ?_; rintro e w' ⟨rfl, rfl⟩)
      | (go_at_call 149; refine (HR.out _).mono ?_; rintro e w' ⟨rfl, hb⟩)
      | (go_at_call 183; refine (pad_calls _ _ (by omega) (by omega) _).mono ?_; rintro e w' ⟨rfl, hb2⟩))
    go_ret
    exact ⟨by rw [HE.out]; rfl, hb.trans (hb2.mono hb.size)⟩

/-- a step as a value of its interface -/
def stV (x : Op) : Value := if x.k = 1 then .iface 246 (.string ⟨x.s.toArray⟩) else if x.k = 2 then .iface 248 (.int .i64 x.n) else if x.k = 3 then .iface 249 (.agg #[]) else .nilIface
def oneV (r : Op × Nat) : Ending := .returned (.tuple #[stV r.1, .int .i64 r.2])

theorem cut_rest (s : ByteArray) (h : 2 ≤ s.size) : ∃ p : ByteArray, p.size ≤ 2 ∧ p.data.toList = (s.data.toList.drop 2).take 2 ∧ s.extract 2 (min 4 (s.size : Int)).toNat = p := by
  refine ⟨s.extract 2 (min 4 (s.size : Int)).toNat, ?_, ?_, rfl⟩
  · rw [ByteArray.size_extract]; omega
  · by_cases h4 : 4 ≤ s.size
    · simp [ByteArray.data_extract, show (min 4 (s.size : Int)).toNat = 4 by omega, List.extract_eq_take_drop]
    · have hl : (s.data.toList.drop 2).length = s.size - 2 := by rw [List.length_drop, size_list]
      rw [List.take_of_length_le (by omega)]
      simp [ByteArray.data_extract, show (min 4 (s.size : Int)).toNat = s.size by omega, List.extract_eq_take_drop]
      rw [List.take_of_length_le (by rw [hl]; omega)]

set_option maxRecDepth 100000 in
set_option maxHeartbeats 1000000 in
theorem escaped_calls (s : ByteArray) (h2 : 2 ≤ s.size) (hs : s.size ≤ 100000) (w : World) :
    Calls Tryz.prog 171 #[.string s] w fun e w' => e = oneV (esc s[1] (s.data.toList.drop 2)) ∧ Below w.heap.size w w' := by
  obtain ⟨p, hp, hpl, hpe⟩ := cut_rest s h2
  have e4 : ∀ n : Nat, n < 256 → ((s[1].toNat : Int) = n) → s[1] = n.toUInt8 := fun n hn h => eq_byte h
  have e5 : ∀ n : Nat, n < 256 → ¬ ((s[1].toNat : Int) = n) → s[1] ≠ n.toUInt8 := fun n hn h => ne_byte h hn
  have HE := Lib.hid e4
  have HN := Lib.hid e5
  clear e4 e5
  by_cases c1 : (s[1].toNat : Int) = 92
  · have H := Lib.hid (show esc s[1] (s.data.toList.drop 2) = (⟨1, [92], 0⟩, 2) by rw [HE.out 92 (by omega) c1]; rfl)
    go_enter Tryz.func171, Tryz.ntmps171
    go_wp2_with fail
    go_ret2
    exact ⟨by rw [H.out]; rfl, Below.refl _ _⟩
  by_cases c2 : (s[1].toNat : Int) = 114
  · have H := Lib.hid (show esc s[1] (s.data.toList.drop 2) = (⟨1, [13], 0⟩, 2) by rw [HE.out 114 (by omega) c2]; rfl)
    go_enter Tryz.func171, Tryz.ntmps171
    go_wp2_with fail
    go_ret2
    exact ⟨by rw [H.out]; rfl, Below.refl _ _⟩
  by_cases c3 : (s[1].toNat : Int) = 110
  · have H := Lib.hid (show esc s[1] (s.data.toList.drop 2) = (⟨1, [10], 0⟩, 2) by rw [HE.out 110 (by omega) c3]; rfl)
    go_enter Tryz.func171, Tryz.ntmps171
    go_wp2_with fail
    go_ret2
    exact ⟨by rw [H.out]; rfl, Below.refl _ _⟩
  by_cases c4 : (s[1].toNat : Int) = 116
  · have H := Lib.hid (show esc s[1] (s.data.toList.drop 2) = (⟨1, [9], 0⟩, 2) by rw [HE.out 116 (by omega) c4]; rfl)
    go_enter Tryz.func171, Tryz.ntmps171
    go_wp2_with fail
    go_ret2
    exact ⟨by rw [H.out]; rfl, Below.refl _ _⟩
  by_cases c5 : (s[1].toNat : Int) = 100
  · have H := Lib.hid (show esc s[1] (s.data.toList.drop 2) = (⟨2, [], 1⟩, 2) by rw [HE.out 100 (by omega) c5]; rfl)
    go_enter Tryz.func171, Tryz.ntmps171
    go_wp2_with fail
    go_ret2
    exact ⟨by rw [H.out]; rfl, Below.refl _ _⟩
  by_cases c6 : (s[1].toNat : Int) = 122
  · have H := Lib.hid (show esc s[1] (s.data.toList.drop 2) = (⟨3, [], 0⟩, 2) by rw [HE.out 122 (by omega) c6]; rfl)
    go_enter Tryz.func171, Tryz.ntmps171
    go_wp2_with fail
    go_ret2
    exact ⟨by rw [H.out]; rfl, Below.refl _ _⟩
  by_cases c7 : (s[1].toNat : Int) = 120
  · have H0 : esc s[1] (s.data.toList.drop 2) = if rhC p.data.toList = 0 then (⟨1, [(rhV p.data.toList).toNat.toUInt8], 0⟩, 4) else no := by rw [HE.out 120 (by omega) c7, hpl]; rfl
    have HR := Lib.hid (readhex_calls p)
    obtain ⟨v0, v1⟩ := rhV_bd p.data.toList
    generalize rhV p.data.toList = v at *
    generalize rhC p.data.toList = c at *
    by_cases hc : c = 0
    · have H := Lib.hid (H0.trans (if_pos hc))
      subst hc
      have hcv := fun (W : World) => run_byte_string W v 91 246 5 Tryz.underlying91 Tryz.underlying5 Tryz.underlying246
      clear H0 hpl
      go_enter Tryz.func171, Tryz.ntmps171
      go_wp2_with (go_at_call 180; refine (HR.out _).mono ?_; rintro e w' ⟨rfl, rfl⟩)
      go_ret2
      exact ⟨by rw [H.out]; rfl, (Below.refl _ _).alloc (Nat.le_refl _) _⟩
    · have H := Lib.hid (H0.trans (if_neg hc))
      have b : (c == 0) = false := by simpa using hc
      clear H0 hpl hc
      go_enter Tryz.func171, Tryz.ntmps171
      go_wp2_with (go_at_call 180; refine (HR.out _).mono ?_; rintro e w' ⟨rfl, rfl⟩)
      go_ret2
      exact ⟨by rw [H.out]; rfl, Below.refl _ _⟩
  by_cases c8 : (s[1].toNat : Int) = 119
  · have H0 : esc s[1] (s.data.toList.drop 2) = if tk p.data.toList = 0 then no else (⟨2, [], tk p.data.toList⟩, 4) := by rw [HE.out 119 (by omega) c8, hpl]; rfl
    have HR := Lib.hid (ticks_calls p hp)
    have hk : tk p.data.toList = 0 ∨ tk p.data.toList ≤ 99 := by
      by_cases h : tk p.data.toList = 0
      · exact .inl h
      · exact .inr (tk_is h).2.1
    generalize tk p.data.toList = v at *
    by_cases hc : v = 0
    · have H := Lib.hid (H0.trans (if_pos hc))
      subst hc
      clear H0 hpl hk
      go_enter Tryz.func171, Tryz.ntmps171
      go_wp2_with (go_at_call 181; refine (HR.out _).mono ?_; rintro e w' ⟨rfl, hb⟩)
      go_ret2
      exact ⟨by rw [H.out]; rfl, hb⟩
    · have H := Lib.hid (H0.trans (if_neg hc))
      have b : (0 : Int) < (v : Int) := by omega
      clear H0 hpl
      go_enter Tryz.func171, Tryz.ntmps171
      go_wp2_with (go_at_call 181; refine (HR.out _).mono ?_; rintro e w' ⟨rfl, hb⟩)
      go_ret2
      exact ⟨by rw [H.out]; rfl, hb⟩
  · have H := Lib.hid (show esc s[1] (s.data.toList.drop 2) = no by
      unfold esc
      rw [if_neg (show ¬ s[1] = 92 from HN.out 92 (by omega) c1), if_neg (show ¬ s[1] = 114 from HN.out 114 (by omega) c2), if_neg (show ¬ s[1] = 110 from HN.out 110 (by omega) c3), if_neg (show ¬ s[1] = 116 from HN.out 116 (by omega) c4), if_neg (show ¬ s[1] = 100 from HN.out 100 (by omega) c5), if_neg (show ¬ s[1] = 122 from HN.out 122 (by omega) c6), if_neg (show ¬ s[1] = 120 from HN.out 120 (by omega) c7), if_neg (show ¬ s[1] = 119 from HN.out 119 (by omega) c8)])
    go_enter Tryz.func171, Tryz.ntmps171
    go_wp2_with fail
    go_ret2
    exact ⟨by rw [H.out]; rfl, Below.refl _ _⟩

set_option maxRecDepth 100000 in
theorem escaped_short (s : ByteArray) (h2 : s.size < 2) (w : World) :
    Calls Tryz.prog 171 #[.string s] w fun e w' => e = .returned (.tuple #[.nilIface, .int .i64 0]) ∧ w = w' := by
  have q : (s.size : Int) < 2 := by omega
  go_enter Tryz.func171, Tryz.ntmps171
  go_wp2_with fail
  go_ret2
  exact ⟨rfl, rfl⟩
theorem list_three (s : ByteArray) (h : 1 < s.size) : s.data.toList = s[0] :: s[1] :: s.data.toList.drop 2 := by
  obtain ⟨u, e⟩ := list_two s h
  rw [e]; rfl

set_option maxRecDepth 100000 in
set_option maxHeartbeats 1000000 in
theorem first_calls (s : ByteArray) (h1 : 0 < s.size) (hs : s.size ≤ 100000) (w : World) :
    Calls Tryz.prog 151 #[.string s] w fun e w' => e = oneV (one s.data.toList) ∧ Below w.heap.size w w' := by
  by_cases c0 : (s[0].toNat : Int) = 92
  · have e0 : s[0] = 92 := eq_byte (n := 92) c0
    by_cases hz : s.size = 1
    · have H := Lib.hid (show one s.data.toList = no by
        obtain ⟨t, e⟩ := list_one s h1
        have hl := congrArg List.length e
        rw [size_list, List.length_cons] at hl
        obtain rfl : t = [] := List.eq_nil_of_length_eq_zero (by omega)
        rw [e, e0, one_lone])
      go_enter Tryz.func151, Tryz.ntmps151
      go_wp2_with (go_at_call 171; refine (escaped_short s (by omega) _).mono ?_; rintro e w' ⟨rfl, rfl⟩)
      go_ret2
      exact ⟨by rw [H.out]; rfl, Below.refl _ _⟩
    · have H := Lib.hid (show one s.data.toList = esc s[1] (s.data.toList.drop 2) by rw [list_three s (by omega), e0, one_esc]; rfl)
      have HC := Lib.hid (escaped_calls s (by omega) hs)
      unfold oneV at HC
      generalize esc s[1] (s.data.toList.drop 2) = r at *
      clear e0
      go_enter Tryz.func151, Tryz.ntmps151
      go_wp2_with (go_at_call 171; refine (HC.out _).mono ?_; rintro e w' ⟨rfl, hb⟩)
      go_ret2
      exact ⟨by rw [H.out]; rfl, hb⟩
  · have e0 : s[0] ≠ 92 := ne_byte (n := 92) c0 (by omega)
    obtain ⟨t, e⟩ := list_one s h1
    by_cases hc : 32 ≤ (s[0].toNat : Int) ∧ (s[0].toNat : Int) ≤ 126
    · obtain ⟨q1, q2⟩ := hc
      have H := Lib.hid (show one s.data.toList = (⟨1, [s[0]], 0⟩, 1) by rw [e]; exact one_plain t (by omega) (by omega) e0)
      have HX := Lib.hid (show s.extract 0 1 = ⟨#[s[0]]⟩ by
        apply ByteArray.ext
        apply Array.toList_inj.1
        simp [ByteArray.data_extract, List.extract_eq_take_drop, e])
      clear e0 e
      go_enter Tryz.func151, Tryz.ntmps151
      go_wp2_with fail
      go_ret2
      exact ⟨by rw [H.out, HX.out]; rfl, Below.refl _ _⟩
    · have H := Lib.hid (show one s.data.toList = no by rw [e]; exact one_bad t (fun g => hc ⟨by omega, by omega⟩) e0)
      clear e0 e
      rcases (show (s[0].toNat : Int) < 32 ∨ (32 ≤ (s[0].toNat : Int) ∧ 126 < (s[0].toNat : Int)) by omega) with q | ⟨q, q2⟩
      all_goals
        clear hc
        go_enter Tryz.func151, Tryz.ntmps151
        go_wp2_with fail
        go_ret2
        exact ⟨by rw [H.out]; rfl, Below.refl _ _⟩
end Go.Proofs.YtajfdachpdkbcaaGreatDoor.Brk
end

section
namespace Go.Proofs.YtajfdachpdkbcaaGreatDoor.Brk
open Go.RowKit Go.Proofs.YtajfdachpdkbcaaGreatDoor.Digit Go.Proofs.YtajfdachpdkbcaaGreatDoor.Own

/-- an op -/
def opV (x : Op) : Value := .agg #[.int .i64 x.k, .string ⟨x.s.toArray⟩, .int .i64 x.n]
def opC (x : Op) : Array Value := #[.int .i64 x.k, .string ⟨x.s.toArray⟩, .int .i64 x.n]
def kd (x : Op) : Int := if x.s = [] then (if x.n = 0 then 3 else if 0 < x.n then 2 else 0) else if x.n = 0 then 1 else 0
theorem Ok.kd {x : Op} (h : Ok x) : kd x = x.k := by
  obtain ⟨k, s, n⟩ := x
  rcases h with ⟨a, b, c⟩ | ⟨a, b, c⟩ | ⟨a, b, c⟩
  · simp only at a b c; subst a c; simp [Brk.kd, b]
  · simp only at a b c; subst a b; simp [Brk.kd]; omega
  · simp only at a b c; subst a b c; simp [Brk.kd]
theorem ok_kd {x : Op} (h : x.k = kd x) (h0 : x.k ≠ 0) : Ok x := by
  obtain ⟨k, s, n⟩ := x
  simp only [Brk.kd] at h h0
  by_cases hs : s = []
  · rw [if_pos hs] at h
    by_cases hn : n = 0
    · rw [if_pos hn] at h; exact .inr (.inr ⟨h, hs, hn⟩)
    · rw [if_neg hn] at h
      by_cases hp : 0 < n
      · rw [if_pos hp] at h; exact .inr (.inl ⟨h, hs, hp⟩)
      · rw [if_neg hp] at h; exact absurd h h0
  · rw [if_neg hs] at h
    by_cases hn : n = 0
    · rw [if_pos hn] at h; exact .inl ⟨h, hs, hn⟩
    · rw [if_neg hn] at h; exact absurd h h0

set_option maxRecDepth 100000 in
set_option maxHeartbeats 1000000 in
theorem kind_calls (k : Int) (s : List UInt8) (n : Int) (w : World) :
    Calls Tryz.prog 173 #[.agg #[.int .i64 k, .string ⟨s.toArray⟩, .int .i64 n]] w fun e w' => e = .returned (.int .i64 (kd ⟨k, s, n⟩)) ∧ Below w.heap.size w w' := by
  by_cases hs : s = []
  · by_cases hn : n = 0
    · have H := Lib.hid (show kd ⟨k, s, n⟩ = 3 by rw [kd, if_pos hs, if_pos hn])
      subst hs hn
      go_enter Tryz.func173, Tryz.ntmps173
      go_wp2_with fail
      go_ret
      exact ⟨by rw [H.out]; rfl, (Below.refl _ _).alloc (Nat.le_refl _) _⟩
    · by_cases hp : 0 < n
      · have H := Lib.hid (show kd ⟨k, s, n⟩ = 2 by rw [kd, if_pos hs, if_neg hn, if_pos hp])
        have b : (n == 0) = false := by simpa using hn
        subst hs
        clear hn
        go_enter Tryz.func173, Tryz.ntmps173
        go_wp2_with fail
        go_ret
        exact ⟨by rw [H.out]; rfl, (Below.refl _ _).alloc (Nat.le_refl _) _⟩
      · have H := Lib.hid (show kd ⟨k, s, n⟩ = 0 by rw [kd, if_pos hs, if_neg hn, if_neg hp])
        have b : (n == 0) = false := by simpa using hn
        subst hs
        clear hn
        go_enter Tryz.func173, Tryz.ntmps173
        go_wp2_with fail
        go_ret
        exact ⟨by rw [H.out]; rfl, (Below.refl _ _).alloc (Nat.le_refl _) _⟩
  · have b0 : s.isEmpty = false := by simpa using hs
    by_cases hn : n = 0
    · have H := Lib.hid (show kd ⟨k, s, n⟩ = 1 by rw [kd, if_neg hs, if_pos hn])
      subst hn
      clear hs
      go_enter Tryz.func173, Tryz.ntmps173
      go_wp2_with fail
      go_ret
      exact ⟨by rw [H.out]; rfl, (Below.refl _ _).alloc (Nat.le_refl _) _⟩
    · have H := Lib.hid (show kd ⟨k, s, n⟩ = 0 by rw [kd, if_neg hs, if_neg hn])
      have b : (n == 0) = false := by simpa using hn
      clear hs hn
      go_enter Tryz.func173, Tryz.ntmps173
      go_wp2_with fail
      go_ret
      exact ⟨by rw [H.out]; rfl, (Below.refl _ _).alloc (Nat.le_refl _) _⟩
theorem isOne_iff (x y : Op) : isOne x y = true ↔ x.k = y.k ∧ x.k ≠ 3 := by simp [isOne]
set_option maxRecDepth 100000 in
set_option maxHeartbeats 1000000 in
theorem one_calls (x y : Op) (w : World) :
    Calls Tryz.prog 172 #[.agg #[.int .i64 x.k, .string ⟨x.s.toArray⟩, .int .i64 x.n], .agg #[.int .i64 y.k, .string ⟨y.s.toArray⟩, .int .i64 y.n]] w fun e w' => e = .returned (.bool (isOne x y)) ∧ Below w.heap.size w w' := by
  have HB := Lib.hid (((Below.refl w.heap.size w).alloc (Nat.le_refl _) (.cells #[.int .i64 x.k, .string ⟨x.s.toArray⟩, .int .i64 x.n] 215 (0, 0))).alloc (by simp) (.cells #[.int .i64 y.k, .string ⟨y.s.toArray⟩, .int .i64 y.n] 215 (0, 0)))
  by_cases h : x.k = y.k
  · have b : (x.k == y.k) = true := by simpa using h
    by_cases h3 : x.k = 3
    · have H := Lib.hid (show isOne x y = false by rw [isOne, b, h3]; rfl)
      have b3 : (x.k != 3) = false := by simp [h3]
      have b4 : (x.k == 3) = true := by simp [h3]
      clear h h3
      go_enter Tryz.func172, Tryz.ntmps172
      go_wp2_with fail
      go_ret
      exact ⟨by rw [H.out]; rfl, HB.out⟩
    · have b3 : (x.k != 3) = true := by simp [h3]
      have b4 : (x.k == 3) = false := by simp [h3]
      have H := Lib.hid (show isOne x y = true by rw [isOne, b, b3]; rfl)
      clear h h3
      go_enter Tryz.func172, Tryz.ntmps172
      go_wp2_with fail
      go_ret
      exact ⟨by rw [H.out]; rfl, HB.out⟩
  · have b : (x.k == y.k) = false := by simpa using h
    have H := Lib.hid (show isOne x y = false by rw [isOne, b]; rfl)
    clear h
    go_enter Tryz.func172, Tryz.ntmps172
    go_wp2_with fail
    go_ret
    exact ⟨by rw [H.out]; rfl, HB.out⟩

/-- the step that an op tells, if any -/
def stepV (x : Op) : Value := if x.k = kd x then stV x else .nilIface
def stepB (x : Op) : Bool := x.k == kd x && x.k != 0
theorem stepB_iff (x : Op) : stepB x = true ↔ Ok x := by
  constructor
  · intro h
    simp only [stepB, Bool.and_eq_true, beq_iff_eq, bne_iff_ne] at h
    exact ok_kd h.1 h.2
  · intro h
    have e := h.kd
    simp only [stepB, Bool.and_eq_true, beq_iff_eq, bne_iff_ne]
    refine ⟨e.symm, ?_⟩
    rcases h with ⟨a, _⟩ | ⟨a, _⟩ | ⟨a, _⟩ <;> omega
theorem kd_bd (x : Op) : kd x = 0 ∨ kd x = 1 ∨ kd x = 2 ∨ kd x = 3 := by
  unfold kd
  split
  · split
    · simp
    · split <;> simp
  · split <;> simp
theorem below_drew {B : Nat} {w w' : World} {m : Nat} (h : Below B w w') : Below B w (w'.drewN m) := ⟨h.os, h.tape, h.output, h.size, h.block⟩
theorem held3 {w w' : World} {g o : Nat} {x y z : Value} (hb : Below w.heap.size w w') (hl : g < w.heap.size) (h0 : w.cell? ⟨g, o, none⟩ = some x) (h1 : w.cell? ⟨g, o + 1, none⟩ = some y) (h2 : w.cell? ⟨g, o + 2, none⟩ = some z) :
    Below w.heap.size w w' ∧ w'.cell? ⟨g, o, none⟩ = some x ∧ w'.cell? ⟨g, o + 1, none⟩ = some y ∧ w'.cell? ⟨g, o + 2, none⟩ = some z :=
  ⟨hb, (hb.cell (p := ⟨g, o, none⟩) hl).trans h0, (hb.cell (p := ⟨g, o + 1, none⟩) hl).trans h1, (hb.cell (p := ⟨g, o + 2, none⟩) hl).trans h2⟩

end Go.Proofs.YtajfdachpdkbcaaGreatDoor.Brk
end

section
namespace Go.Proofs.YtajfdachpdkbcaaGreatDoor.Brk
open Go.RowKit Go.Proofs.YtajfdachpdkbcaaGreatDoor.Digit Go.Proofs.YtajfdachpdkbcaaGreatDoor.Own

theorem as_send (v : Value) (w : World) : (Instr.typeAssert (.iface 246 v) 225 246 true).run Tryz.prog w = .ok (.tuple #[v, .bool true]) w := by kernel_rfl
theorem as_wait (v : Value) (w : World) : (Instr.typeAssert (.iface 248 v) 225 248 true).run Tryz.prog w = .ok (.tuple #[v, .bool true]) w := by kernel_rfl
theorem as_pulse (v : Value) (w : World) : (Instr.typeAssert (.iface 249 v) 225 249 true).run Tryz.prog w = .ok (.tuple #[v, .bool true]) w := by kernel_rfl
theorem wait_send (v : Value) (w : World) : (Instr.typeAssert (.iface 248 v) 225 246 true).run Tryz.prog w = .ok (.tuple #[.string ⟨#[]⟩, .bool false]) w := by kernel_rfl
theorem pulse_send (v : Value) (w : World) : (Instr.typeAssert (.iface 249 v) 225 246 true).run Tryz.prog w = .ok (.tuple #[.string ⟨#[]⟩, .bool false]) w := by kernel_rfl
theorem pulse_wait (v : Value) (w : World) : (Instr.typeAssert (.iface 249 v) 225 248 true).run Tryz.prog w = .ok (.tuple #[.int .i64 0, .bool false]) w := by kernel_rfl

theorem row3 {w : World} {b : Nat} {x y z : Value} {T : TypeId} {fr : Nat × Nat} (h : w.heap[b]? = some (.cells #[x, y, z] T fr)) :
    w.cell? ⟨b, 0, none⟩ = some x ∧ w.cell? ⟨b, 1, none⟩ = some y ∧ w.cell? ⟨b, 2, none⟩ = some z := ⟨at_cell h 0, at_cell h 1, at_cell h 2⟩
theorem frz3 {w : World} {b : Nat} {c : Array Value} {T : TypeId} (h : w.heap[b]? = some (.cells c T (0, 0))) :
    w.frozen? ⟨b, 0, none⟩ = false ∧ w.frozen? ⟨b, 1, none⟩ = false ∧ w.frozen? ⟨b, 2, none⟩ = false := ⟨at_frozen h 0, at_frozen h 1, at_frozen h 2⟩

set_option maxRecDepth 100000 in
set_option maxHeartbeats 2000000 in
theorem op_send (s : List UInt8) (hs : s ≠ []) (w : World) :
    Calls Tryz.prog 153 #[.iface 246 (.string ⟨s.toArray⟩)] w fun e w' => e = .returned (.agg #[.int .i64 1, .string ⟨s.toArray⟩, .int .i64 0]) ∧ Below w.heap.size w w' := by
  have HC := Lib.hid (kind_calls 0 s 0)
  rw [show kd ⟨0, s, 0⟩ = 1 by simp [kd, hs]] at HC
  have f1 := as_send (.string ⟨s.toArray⟩)
  clear hs
  go_enter Tryz.func153, Tryz.ntmps153
  go_wp2_with fail
  refine (HC.out _).mono ?_
  rintro e w1 ⟨rfl, hb1⟩
  have r0 := (hb1.block w.heap.size (by simp; omega)).trans (at_old (w.alloc _) _ (at_new w _))
  have r1 := (hb1.block (w.heap.size + 1) (by simp)).trans (at_newk (w.alloc _) _ (by simp))
  have B1 := Lib.hid ((((Below.refl w.heap.size w).alloc (Nat.le_refl _) _).alloc (by simp) _).trans (hb1.mono (by simp; omega)))
  clear hb1
  obtain ⟨a0, a1, a2⟩ := row3 r0
  obtain ⟨c0, c1, c2⟩ := row3 r1
  obtain ⟨d0, d1, d2⟩ := frz3 r0
  obtain ⟨e0, e1, e2⟩ := frz3 r1
  have l0 := at_lt r0
  have l1 := at_lt r1
  have R0 := Lib.hid r0
  clear r0 r1
  go_wp2_with fail
  have hrow := at_set (at_set (at_set ((at_set_other w1 (b := w.heap.size + 1) (k := w.heap.size) (by omega) 0 (.int .i64 1)).trans R0.out) 0 (.int .i64 1)) 1 (.string ⟨s.toArray⟩)) 2 (.int .i64 0)
  refine bodyPost_ret (results_cell_row rfl _ _ w.heap.size _ #[.int .i64 1, .string ⟨s.toArray⟩, .int .i64 0] _ _ rfl hrow Tryz.underlying215 rfl (by kernel_rfl)) rfl ?_
  exact ⟨rfl, (((B1.out.setCell (by simp) _).setCell (by simp) _).setCell (by simp) _).setCell (by simp) _⟩
set_option maxRecDepth 100000 in
set_option maxHeartbeats 2000000 in
theorem op_wait (n : Int) (hn : 0 < n) (w : World) :
    Calls Tryz.prog 153 #[.iface 248 (.int .i64 n)] w fun e w' => e = .returned (.agg #[.int .i64 2, .string ⟨#[]⟩, .int .i64 n]) ∧ Below w.heap.size w w' := by
  have HC := Lib.hid (kind_calls 0 [] n)
  rw [show kd ⟨0, [], n⟩ = 2 by rw [kd, if_pos rfl, if_neg (by show ¬ n = 0; omega), if_pos hn]] at HC
  have f1 := as_wait (.int .i64 n)
  have f2 := wait_send (.int .i64 n)
  go_enter Tryz.func153, Tryz.ntmps153
  go_wp2_with fail
  refine (HC.out _).mono ?_
  rintro e w1 ⟨rfl, hb1⟩
  have r0 := (hb1.block w.heap.size (by simp; omega)).trans (at_old (w.alloc _) _ (at_new w _))
  have r1 := (hb1.block (w.heap.size + 1) (by simp)).trans (at_newk (w.alloc _) _ (by simp))
  have B1 := Lib.hid ((((Below.refl w.heap.size w).alloc (Nat.le_refl _) _).alloc (by simp) _).trans (hb1.mono (by simp; omega)))
  clear hb1
  obtain ⟨a0, a1, a2⟩ := row3 r0
  obtain ⟨c0, c1, c2⟩ := row3 r1
  obtain ⟨d0, d1, d2⟩ := frz3 r0
  obtain ⟨e0, e1, e2⟩ := frz3 r1
  have l0 := at_lt r0
  have l1 := at_lt r1
  have R0 := Lib.hid r0
  clear r0 r1
  go_wp2_with fail
  have hrow := at_set (at_set (at_set ((at_set_other w1 (b := w.heap.size + 1) (k := w.heap.size) (by omega) 0 (.int .i64 2)).trans R0.out) 0 (.int .i64 2)) 1 (.string ⟨#[]⟩)) 2 (.int .i64 n)
  refine bodyPost_ret (results_cell_row rfl _ _ w.heap.size _ #[.int .i64 2, .string ⟨#[]⟩, .int .i64 n] _ _ rfl hrow Tryz.underlying215 rfl (by kernel_rfl)) rfl ?_
  exact ⟨rfl, (((B1.out.setCell (by simp) _).setCell (by simp) _).setCell (by simp) _).setCell (by simp) _⟩
set_option maxRecDepth 100000 in
set_option maxHeartbeats 2000000 in
theorem op_pulse (w : World) :
    Calls Tryz.prog 153 #[.iface 249 (.agg #[])] w fun e w' => e = .returned (.agg #[.int .i64 3, .string ⟨#[]⟩, .int .i64 0]) ∧ Below w.heap.size w w' := by
  have HC := Lib.hid (kind_calls 0 [] 0)
  rw [show kd ⟨0, [], 0⟩ = 3 by rfl] at HC
  have f1 := as_pulse (.agg #[])
  have f2 := pulse_send (.agg #[])
  have f3 := pulse_wait (.agg #[])
  go_enter Tryz.func153, Tryz.ntmps153
  go_wp2_with fail
  refine (HC.out _).mono ?_
  rintro e w1 ⟨rfl, hb1⟩
  have r0 := (hb1.block w.heap.size (by simp; omega)).trans (at_old ((w.alloc _).alloc _) _ (at_old (w.alloc _) _ (at_new w _)))
  have r1 := (hb1.block (w.heap.size + 1) (by simp)).trans (at_old ((w.alloc _).alloc _) _ (at_newk (w.alloc _) _ (by simp)))
  have B1 := Lib.hid (((((Below.refl w.heap.size w).alloc (Nat.le_refl _) _).alloc (by simp) _).alloc (by simp; omega) _).trans (hb1.mono (by simp; omega)))
  clear hb1
  obtain ⟨a0, a1, a2⟩ := row3 r0
  obtain ⟨c0, c1, c2⟩ := row3 r1
  obtain ⟨d0, d1, d2⟩ := frz3 r0
  obtain ⟨e0, e1, e2⟩ := frz3 r1
  have l0 := at_lt r0
  have l1 := at_lt r1
  have R0 := Lib.hid r0
  clear r0 r1
  go_wp2_with fail
  have hrow := at_set (at_set (at_set ((at_set_other w1 (b := w.heap.size + 1) (k := w.heap.size) (by omega) 0 (.int .i64 3)).trans R0.out) 0 (.int .i64 3)) 1 (.string ⟨#[]⟩)) 2 (.int .i64 0)
  refine bodyPost_ret (results_cell_row rfl _ _ w.heap.size _ #[.int .i64 3, .string ⟨#[]⟩, .int .i64 0] _ _ rfl hrow Tryz.underlying215 rfl (by kernel_rfl)) rfl ?_
  exact ⟨rfl, (((B1.out.setCell (by simp) _).setCell (by simp) _).setCell (by simp) _).setCell (by simp) _⟩
theorem op_calls (x : Op) (h : Ok x) (w : World) :
    Calls Tryz.prog 153 #[stV x] w fun e w' => e = .returned (.agg #[.int .i64 x.k, .string ⟨x.s.toArray⟩, .int .i64 x.n]) ∧ Below w.heap.size w w' := by
  obtain ⟨k, s, n⟩ := x
  rcases h with ⟨a, b, c⟩ | ⟨a, b, c⟩ | ⟨a, b, c⟩
  · simp only at a b c; subst a c; exact op_send s b w
  · simp only at a b c; subst a b; exact op_wait n (by omega) w
  · simp only at a b c; subst a b c; exact op_pulse w
end Go.Proofs.YtajfdachpdkbcaaGreatDoor.Brk
end

section
namespace Go.Proofs.YtajfdachpdkbcaaGreatDoor.Brk
open Go.RowKit Go.Proofs.YtajfdachpdkbcaaGreatDoor.Digit Go.Proofs.YtajfdachpdkbcaaGreatDoor.Own

def ov1 (x : Op) : List Value := [.int .i64 x.k, .string ⟨x.s.toArray⟩, .int .i64 x.n]
def ov (L : List Op) : List Value := L.flatMap ov1
theorem ov_len (L : List Op) : (ov L).length = L.length * 3 := by
  induction L with
  | nil => rfl
  | cons x r ih =>
    have : ov (x :: r) = ov1 x ++ ov r := rfl
    rw [this, List.length_append, ih]
    simp [ov1]; omega
theorem ov_app (L M : List Op) : ov (L ++ M) = ov L ++ ov M := by simp [ov]
theorem ov_one (x : Op) : ov [x] = ov1 x := by simp [ov]
theorem ov_get {L : List Op} {i : Nat} (h : i < L.length) (j : Nat) (hj : j < 3) : (ov L)[i * 3 + j]? = (ov1 L[i])[j]? := by
  induction L generalizing i with
  | nil => simp at h
  | cons x r ih =>
    have e : ov (x :: r) = ov1 x ++ ov r := rfl
    have l3 : (ov1 x).length = 3 := rfl
    rw [e]
    cases i with
    | zero => rw [List.getElem?_append_left (by omega)]; simp
    | succ i =>
      rw [List.getElem?_append_right (by omega), show (i + 1) * 3 + j - (ov1 x).length = i * 3 + j by omega]
      exact ih (by simpa using h)
theorem ov_last (L : List Op) (y : Op) : (ov (L ++ [y]))[L.length * 3]? = some (.int .i64 y.k) ∧ (ov (L ++ [y]))[L.length * 3 + 1]? = some (.string ⟨y.s.toArray⟩) ∧ (ov (L ++ [y]))[L.length * 3 + 2]? = some (.int .i64 y.n) := by
  have h : L.length < (L ++ [y]).length := by simp
  have e : (L ++ [y])[L.length] = y := by simp
  have h0 := ov_get h 0 (by omega)
  have h1 := ov_get h 1 (by omega)
  have h2 := ov_get h 2 (by omega)
  rw [e] at h0 h1 h2
  exact ⟨h0, h1, h2⟩
theorem ov_set1 (L : List Op) (y : Op) (s : List UInt8) : (ov (L ++ [y])).set (L.length * 3 + 1) (.string ⟨s.toArray⟩) = ov (L ++ [⟨y.k, s, y.n⟩]) := by
  rw [ov_app, ov_app, ov_one, ov_one, List.set_append_right _ _ (by rw [ov_len]; omega), ov_len, show L.length * 3 + 1 - L.length * 3 = 1 by omega]
  rfl
theorem ov_set2 (L : List Op) (y : Op) (n : Int) : (ov (L ++ [y])).set (L.length * 3 + 2) (.int .i64 n) = ov (L ++ [⟨y.k, y.s, n⟩]) := by
  rw [ov_app, ov_app, ov_one, ov_one, List.set_append_right _ _ (by rw [ov_len]; omega), ov_len, show L.length * 3 + 2 - L.length * 3 = 2 by omega]
  rfl
theorem ov_set0 (L : List Op) (y : Op) (k : Int) : (ov (L ++ [y])).set (L.length * 3) (.int .i64 k) = ov (L ++ [⟨k, y.s, y.n⟩]) := by
  rw [ov_app, ov_app, ov_one, ov_one, List.set_append_right _ _ (by rw [ov_len]; omega), ov_len, show L.length * 3 - L.length * 3 = 0 by omega]
  rfl
theorem info_op : (Tryz.prog.info? 215).map (fun i => (i.zero, i.size, i.bytes)) = some (some (.agg #[.int .i64 0, .string ⟨#[]⟩, .int .i64 0]), 3, 32) := by kernel_rfl

/-- ops in an array of the call's own -/
abbrev Mine (w : World) (B : Nat) (v : Value) (L : List Op) : Prop := w.ownsRow B 215 3 v L.length (ov L)
theorem mine_form {w : World} {B : Nat} {v : Value} {L : List Op} (h : Mine w B v L) : ∃ p c, v = .slice p L.length c ∧ L.length ≤ c ∧ c ≤ maxLen := by
  rcases h.2 with ⟨rfl, h0⟩ | ⟨g, cap, cur, rfl, _, hh, h3, h4, _⟩
  · exact ⟨none, 0, by rw [h0], by omega, by unfold maxLen; omega⟩
  · exact ⟨_, cap, rfl, h3, h4⟩
theorem mine_last {w : World} {B : Nat} {v : Value} {L : List Op} {y : Op} (h : Mine w B v (L ++ [y])) :
    ∃ g c, v = .slice (some ⟨g, 0, none⟩) (L.length + 1) c ∧ B ≤ g ∧ g < w.heap.size ∧ L.length + 1 ≤ c ∧ c ≤ maxLen ∧
      w.cell? ⟨g, L.length * 3, none⟩ = some (.int .i64 y.k) ∧ w.cell? ⟨g, L.length * 3 + 1, none⟩ = some (.string ⟨y.s.toArray⟩) ∧ w.cell? ⟨g, L.length * 3 + 2, none⟩ = some (.int .i64 y.n) ∧
      w.frozen? ⟨g, L.length * 3, none⟩ = false ∧ w.frozen? ⟨g, L.length * 3 + 1, none⟩ = false ∧ w.frozen? ⟨g, L.length * 3 + 2, none⟩ = false := by
  have hl : (L ++ [y]).length = L.length + 1 := by simp
  obtain ⟨c0, c1, c2⟩ := ov_last L y
  have hc := @World.ownsRow.cells _ _ _ _ _ _ _ h
  rcases h.2 with ⟨rfl, h0⟩ | ⟨g, cap, cur, rfl, hB, hh, h3, h4, _⟩
  · rw [hl] at h0; omega
  · rw [hl] at h3
    have a0 := hc (g := g) rfl _ _ c0
    have a1 := hc (g := g) rfl _ _ c1
    have a2 := hc (g := g) rfl _ _ c2
    rw [add0] at a0 a1 a2
    exact ⟨g, cap, by rw [hl], hB, at_lt hh, h3, h4, a0, a1, a2, at_frozen hh _, at_frozen hh _, at_frozen hh _⟩
theorem mine_set {w : World} {B g c n : Nat} {L M : List Op} (h : Mine w B (.slice (some ⟨g, 0, none⟩) n c) L) (hn : n = L.length) (j : Nat) (u : Value) (e : (ov L).set j u = ov M) (hM : M.length = L.length) : Mine (w.setCell ⟨g, j, none⟩ u) B (.slice (some ⟨g, 0, none⟩) n c) M := by
  subst hn
  have := (World.ownsRow.stored h j u).1
  rw [e] at this
  unfold Mine
  rw [hM]
  exact this
theorem mine_below {w w' : World} {B : Nat} {v : Value} {L : List Op} (h : Mine w B v L) (hb : Below w.heap.size w w') : Mine w' B v L := own_below h hb
theorem mine_more {w : World} {B n : Nat} {v : Value} {L : List Op} {x : Op} (h : w.ownsRow B 215 3 v (n + 1) (ov L ++ [.int .i64 x.k, .string ⟨x.s.toArray⟩, .int .i64 x.n])) (hn : n = L.length) : Mine w B v (L ++ [x]) := by
  subst hn
  unfold Mine
  rw [List.length_append, ov_app, ov_one]
  exact h

/-- a slice that holds ops -/
structure Ops (w : World) (L : List Op) (p : Option Addr) (c : Nat) : Prop where
  cap : L.length ≤ c
  max : c ≤ maxLen
  cells : L = [] ∨ ∃ b o, p = some ⟨b, o, none⟩ ∧ b < w.heap.size ∧ ∀ i (hi : i < L.length), w.cell? ⟨b, o + i * 3, none⟩ = some (.int .i64 L[i].k) ∧ w.cell? ⟨b, o + i * 3 + 1, none⟩ = some (.string ⟨L[i].s.toArray⟩) ∧ w.cell? ⟨b, o + i * 3 + 2, none⟩ = some (.int .i64 L[i].n)
theorem Ops.below {w w' : World} {L : List Op} {p : Option Addr} {c : Nat} (h : Ops w L p c) (hb : Below w.heap.size w w') : Ops w' L p c :=
  ⟨h.cap, h.max, h.cells.imp id fun ⟨b, o, e, hl, k⟩ => ⟨b, o, e, Nat.lt_of_lt_of_le hl hb.size, fun i hi => by
    obtain ⟨k0, k1, k2⟩ := k i hi
    exact ⟨(hb.cell (p := ⟨b, _, none⟩) hl).trans k0, (hb.cell (p := ⟨b, _, none⟩) hl).trans k1, (hb.cell (p := ⟨b, _, none⟩) hl).trans k2⟩⟩⟩
theorem Mine.ops {w : World} {B : Nat} {v : Value} {L : List Op} (h : Mine w B v L) : ∃ p c, v = .slice p L.length c ∧ Ops w L p c := by
  have hc := @World.ownsRow.cells _ _ _ _ _ _ _ h
  rcases h.2 with ⟨rfl, h0⟩ | ⟨g, cap, cur, rfl, _, hh, h3, h4, _⟩
  · exact ⟨none, 0, by rw [h0], by omega, by unfold maxLen; omega, .inl (List.eq_nil_of_length_eq_zero h0)⟩
  · refine ⟨_, cap, rfl, h3, h4, .inr ⟨g, 0, rfl, at_lt hh, fun i hi => ?_⟩⟩
    have e0 := ov_get hi 0 (by omega)
    have e1 := ov_get hi 1 (by omega)
    have e2 := ov_get hi 2 (by omega)
    have a0 := hc (g := g) rfl _ _ (e0.trans rfl)
    have a1 := hc (g := g) rfl _ _ (e1.trans rfl)
    have a2 := hc (g := g) rfl _ _ (e2.trans rfl)
    rw [add0] at a0 a1 a2
    rw [Nat.zero_add]
    exact ⟨a0, a1, a2⟩
end Go.Proofs.YtajfdachpdkbcaaGreatDoor.Brk
end

section
namespace Go.Proofs.YtajfdachpdkbcaaGreatDoor.Brk
open Go.RowKit Go.Proofs.YtajfdachpdkbcaaGreatDoor.Digit Go.Proofs.YtajfdachpdkbcaaGreatDoor.Own

def BPost (w : World) (B : Nat) (acc : List Op) (x : Op) (e : Ending) (w' : World) : Prop := ∃ v, e = .returned v ∧ Mine w' B v (bhd acc x) ∧ Below B w w'

theorem cell_alloc' {w : World} {a : Addr} {x : Value} (h : w.cell? a = some x) (o : Obj) : (w.alloc o).cell? a = some x :=
  (World.cell?_of_block (Below.heap_alloc w o a.block (World.block_lt_of_cell? w a h))).trans h
theorem held6 {w w' : World} {g o b : Nat} {x y z x' y' z' : Value} (hb : Below w.heap.size w w') (hl : g < w.heap.size) (hl' : b < w.heap.size)
    (h0 : w.cell? ⟨g, o, none⟩ = some x) (h1 : w.cell? ⟨g, o + 1, none⟩ = some y) (h2 : w.cell? ⟨g, o + 2, none⟩ = some z)
    (k0 : w.cell? ⟨b, 0, none⟩ = some x') (k1 : w.cell? ⟨b, 1, none⟩ = some y') (k2 : w.cell? ⟨b, 2, none⟩ = some z') :
    Below w.heap.size w w' ∧ w'.cell? ⟨g, o, none⟩ = some x ∧ w'.cell? ⟨g, o + 1, none⟩ = some y ∧ w'.cell? ⟨g, o + 2, none⟩ = some z ∧ w'.cell? ⟨b, 0, none⟩ = some x' ∧ w'.cell? ⟨b, 1, none⟩ = some y' ∧ w'.cell? ⟨b, 2, none⟩ = some z' :=
  ⟨hb, (hb.cell (p := ⟨g, o, none⟩) hl).trans h0, (hb.cell (p := ⟨g, o + 1, none⟩) hl).trans h1, (hb.cell (p := ⟨g, o + 2, none⟩) hl).trans h2,
    (hb.cell (p := ⟨b, 0, none⟩) hl').trans k0, (hb.cell (p := ⟨b, 1, none⟩) hl').trans k1, (hb.cell (p := ⟨b, 2, none⟩) hl').trans k2⟩

set_option maxRecDepth 100000 in
set_option maxHeartbeats 4000000 in
theorem behind_nil (x : Op) (B : Nat) (v : Value) (w : World) (h : Mine w B v []) (hB : B ≤ w.heap.size) :
    Calls Tryz.prog 152 #[v, .agg #[.int .i64 x.k, .string ⟨x.s.toArray⟩, .int .i64 x.n]] w (BPost w B [] x) := by
  obtain ⟨i0, hi, hz0, hz1, hz2⟩ := info_parts info_op
  obtain ⟨p, c, rfl, hc, hm⟩ := mine_form h
  have HO := Lib.hid h
  unfold maxLen at hm
  have e0 : (([] : List Op).length) = 0 := rfl
  rw [e0] at hc ⊢
  clear h
  go_enter Tryz.func152, Tryz.ntmps152
  go_wp2_with fail
  go_quiet (fail)
  have hn0 : ((w.alloc (.cells #[.int .i64 x.k, .string ⟨x.s.toArray⟩, .int .i64 x.n] 215)).drewN nq).heap[w.heap.size]? = some (.cells #[.int .i64 x.k, .string ⟨x.s.toArray⟩, .int .i64 x.n] 215 (0, 0)) := at_new w _
  have HOW := Lib.hid (show ((w.alloc (.cells #[.int .i64 x.k, .string ⟨x.s.toArray⟩, .int .i64 x.n] 215)).drewN nq).ownsRow B 215 3 (.slice p 0 c) 0 [] from World.ownsRow.alloc HO.out _)
  have HBW := Lib.hid (show Below B w ((w.alloc (.cells #[.int .i64 x.k, .string ⟨x.s.toArray⟩, .int .i64 x.n] 215)).drewN nq) from below_drew ((Below.refl B w).alloc hB _))
  generalize (w.alloc (.cells #[.int .i64 x.k, .string ⟨x.s.toArray⟩, .int .i64 x.n] 215)).drewN nq = W at *
  generalize hbb : w.heap.size = b at hn0 ⊢
  clear hbb
  obtain ⟨d0, d1, d2⟩ := row3 hn0
  have hs5 := HBW.out.size
  have hBW : B ≤ W.heap.size := Nat.le_trans hB hs5
  have lb := at_lt hn0
  clear hn0
  go_wp2_with (at_builtin; refine Own.append_any rfl (.tmp 20) (.tmp 22) 174 rfl B 215 i0 _ 3 32 Tryz.underlying174 hi hz0 hz1 hz2 rfl (by decide) _ _ _ rfl (World.ownsRow.alloc HOW.out _) _ 1 1 [.int .i64 x.k, .string ⟨x.s.toArray⟩, .int .i64 x.n] rfl (fun h => nomatch h) rfl (Own.three_new _ _ _ _ _ _ (by simp)) (by simp [Value.oneCell']) (by unfold maxLen; omega) (by omega) (by simp; omega) ?_; intro v' w1 hown1 hgrow1)
  have M1 := Lib.hid (mine_more (L := []) hown1 rfl)
  have B1 := Lib.hid ((HBW.out.alloc hBW _).grown hgrow1 (by simp; omega) (fun k hk => (World.ownsRow.lt HOW.out k hk).1))
  clear hown1 hgrow1
  go_wp2_with fail
  go_ret
  exact ⟨_, rfl, M1.out, B1.out⟩
set_option maxRecDepth 100000 in
set_option maxHeartbeats 4000000 in
theorem behind_more (L : List Op) (y x : Op) (hL : L.length ≤ 1000000) (B : Nat) (v : Value) (w : World) (h : Mine w B v (L ++ [y])) (hB : B ≤ w.heap.size)
    (hs : y.s.length ≤ 1000000) (hs' : x.s.length ≤ 1000000) (hn : 0 ≤ y.n ∧ y.n ≤ 1099511627776) (hn' : 0 ≤ x.n ∧ x.n ≤ 1099511627776) :
    Calls Tryz.prog 152 #[v, .agg #[.int .i64 x.k, .string ⟨x.s.toArray⟩, .int .i64 x.n]] w (BPost w B (L ++ [y]) x) := by
  obtain ⟨i0, hi, hz0, hz1, hz2⟩ := info_parts info_op
  obtain ⟨g, c, rfl, hBg, hg, hc, hm, a0, a1, a2, f0, f1, f2⟩ := mine_last h
  have HO := Lib.hid h
  unfold maxLen at hm
  obtain ⟨m, hmm⟩ : ∃ m, L.length = m := ⟨_, rfl⟩
  rw [hmm] at hL hc a0 a1 a2 f0 f1 f2
  obtain ⟨n, hnn⟩ : ∃ n, n = m + 1 := ⟨_, rfl⟩
  have hln : (L ++ [y]).length = n := by rw [List.length_append, List.length_singleton]; omega
  rw [hmm, ← hnn] at HO
  unfold Mine at HO
  rw [hln] at HO
  rw [hmm, ← hnn]
  rw [← hnn] at hc
  have q1 : m < n := by omega
  have q2 : n ≤ 1000001 := by omega
  have q3 : ((n : Int) - 1) = (m : Int) := by omega
  have q4 : decide ((m : Int) < 0) = false := decide_eq_false (by omega)
  have HM := Lib.hid hmm
  have HNN := Lib.hid hnn
  have HLN := Lib.hid hln.symm
  obtain ⟨xk, xs, xn⟩ := x
  obtain ⟨yk, ys, yn⟩ := y
  simp only at a0 a1 a2 hs hs' hn hn'
  have HI := Lib.hid (one_calls ⟨yk, ys, yn⟩ ⟨xk, xs, xn⟩)
  show Calls Tryz.prog 152 #[.slice (some ⟨g, 0, none⟩) n c, .agg #[.int .i64 xk, .string ⟨xs.toArray⟩, .int .i64 xn]] w _
  obtain ⟨bo, hbo⟩ : ∃ bo, isOne ⟨yk, ys, yn⟩ ⟨xk, xs, xn⟩ = bo := ⟨_, rfl⟩
  rw [hbo] at HI
  have HBO := Lib.hid hbo
  clear hbo h hmm hnn hln
  have HN := Lib.hid (at_new w (.cells #[.int .i64 xk, .string ⟨xs.toArray⟩, .int .i64 xn] 215 (0, 0)))
  have HOB := Lib.hid (World.ownsRow.alloc HO.out (.cells #[.int .i64 xk, .string ⟨xs.toArray⟩, .int .i64 xn] 215 (0, 0)))
  have HBW := Lib.hid ((Below.refl B w).alloc hB (.cells #[.int .i64 xk, .string ⟨xs.toArray⟩, .int .i64 xn] 215 (0, 0)))
  replace a0 := cell_alloc' a0 (.cells #[.int .i64 xk, .string ⟨xs.toArray⟩, .int .i64 xn] 215 (0, 0))
  replace a1 := cell_alloc' a1 (.cells #[.int .i64 xk, .string ⟨xs.toArray⟩, .int .i64 xn] 215 (0, 0))
  replace a2 := cell_alloc' a2 (.cells #[.int .i64 xk, .string ⟨xs.toArray⟩, .int .i64 xn] 215 (0, 0))
  clear f0 f1 f2
  go_enter Tryz.func152, Tryz.ntmps152
  go_wp2_with fail
  generalize hW : w.alloc (.cells #[.int .i64 xk, .string ⟨xs.toArray⟩, .int .i64 xn] 215 (0, 0)) = W at HN HOB HBW a0 a1 a2 ⊢
  have hgW : g < W.heap.size := by rw [← hW]; simp; omega
  clear hW
  have hlb := at_lt HN.out
  obtain ⟨d0, d1, d2⟩ := row3 HN.out
  have hgb : g ≠ w.heap.size := by omega
  generalize hbb : w.heap.size = b at HN d0 d1 d2 hlb hgb ⊢
  have hs5 := HBW.out.size
  have hBW : B ≤ W.heap.size := by omega
  clear hbb hB hg
  go_region_held3 (fun w' => Below W.heap.size W w' ∧ w'.cell? ⟨g, m * 3, none⟩ = some (.int .i64 yk) ∧ w'.cell? ⟨g, m * 3 + 1, none⟩ = some (.string ⟨ys.toArray⟩) ∧ w'.cell? ⟨g, m * 3 + 2, none⟩ = some (.int .i64 yn) ∧ w'.cell? ⟨b, 0, none⟩ = some (.int .i64 xk) ∧ w'.cell? ⟨b, 1, none⟩ = some (.string ⟨xs.toArray⟩) ∧ w'.cell? ⟨b, 2, none⟩ = some (.int .i64 xn))
    (first
      | exact held6 (below_drew (Below.refl _ _)) hgW hlb a0 a1 a2 d0 d1 d2
      | exact held6 hb5 hgW hlb a0 a1 a2 d0 d1 d2)
    (first
      | (go_at_call 172; go_split_ands; refine (HI.out _).mono ?_; rintro e w5 ⟨rfl, hb5⟩; replace hb5 := Below.trans (by assumption) (hb5.mono (Below.size (by assumption)))))
  obtain ⟨-, c0, c1, c2, e0, e1, e2⟩ := held6 hb5 hgW hlb a0 a1 a2 d0 d1 d2
  have HOW := Lib.hid (own_below HOB.out hb5)
  have HB5 := Lib.hid (HBW.out.trans (hb5.mono (by omega)))
  have hs6 := hb5.size
  have hg5 : g < w5.heap.size := by omega
  have hb5l : b < w5.heap.size := by omega
  have hB5 : B ≤ w5.heap.size := by omega
  rename_i hH
  clear hH
  clear a0 a1 a2 d0 d1 d2 hb5 HN HOB HBW q4 HO
  cases bo with
  | false =>
    clear c0 c1 c2
    go_wp2_with (at_builtin; refine Own.append_any rfl (.tmp 20) (.tmp 22) 174 rfl B 215 i0 _ 3 32 Tryz.underlying174 hi hz0 hz1 hz2 rfl (by decide) _ _ _ rfl (World.ownsRow.alloc HOW.out _) _ 1 1 [.int .i64 xk, .string ⟨xs.toArray⟩, .int .i64 xn] rfl (fun h => nomatch h) rfl (Own.three_new _ _ _ _ _ _ (by simp)) (by simp [Value.oneCell']) (by unfold maxLen; omega) (by omega) (by simp; omega) ?_; intro v' w1 hown1 hgrow1)
    have M1 := Lib.hid (mine_more (x := ⟨xk, xs, xn⟩) hown1 HLN.out)
    have B1 := Lib.hid ((HB5.out.alloc hB5 _).grown hgrow1 (by simp; omega) (fun k hk => (World.ownsRow.lt HOW.out k hk).1))
    clear hown1 hgrow1
    go_wp2_with fail
    go_ret
    exact ⟨_, rfl, by rw [bhd_two HBO.out]; exact M1.out, B1.out⟩
  | true =>
    have f0 := World.ownsRow.frozenAt HOW.out (m * 3)
    have f1 := World.ownsRow.frozenAt HOW.out (m * 3 + 1)
    have f2 := World.ownsRow.frozenAt HOW.out (m * 3 + 2)
    have hz : ys.length + xs.length ≤ 2000000 := by omega
    go_wp2_with fail
    go_region
    go_wp2_with fail
    go_region
    go_wp2_with fail
    go_ret
    have s1 := (World.ownsRow.stored HOW.out (m * 3 + 1) (.string ⟨(ys ++ xs).toArray⟩)).1
    rw [← HM.out, ov_set1 L ⟨yk, ys, yn⟩ (ys ++ xs)] at s1
    have s2 := (World.ownsRow.stored s1 (L.length * 3 + 2) (.int .i64 (yn + xn))).1
    rw [ov_set2 L ⟨yk, ys ++ xs, yn⟩ (yn + xn)] at s2
    refine ⟨_, rfl, ?_, ?_⟩
    · rw [bhd_one HBO.out, bytes_add]
      unfold Mine
      rw [show (L ++ [glue ⟨yk, ys, yn⟩ ⟨xk, xs, xn⟩]).length = n by rw [HLN.out]; simp, ← HM.out]
      exact s2
    · exact ((HB5.out.setCell hBg _).setCell hBg _).drew.drew
theorem behind_calls (acc : List Op) (x : Op) (hL : acc.length ≤ 1000000) (B : Nat) (v : Value) (w : World) (h : Mine w B v acc) (hB : B ≤ w.heap.size)
    (hs : ∀ y ∈ acc, y.s.length ≤ 1000000 ∧ 0 ≤ y.n ∧ y.n ≤ 1099511627776) (hs' : x.s.length ≤ 1000000) (hn' : 0 ≤ x.n ∧ x.n ≤ 1099511627776) :
    Calls Tryz.prog 152 #[v, .agg #[.int .i64 x.k, .string ⟨x.s.toArray⟩, .int .i64 x.n]] w (BPost w B acc x) := by
  rcases snoc_cases acc with rfl | ⟨L, y, rfl⟩
  · exact behind_nil x B v w h hB
  · obtain ⟨a, b⟩ := hs y (by simp)
    exact behind_more L y x (by simp at hL; omega) B v w h hB a hs' b hn'
end Go.Proofs.YtajfdachpdkbcaaGreatDoor.Brk
end

section
namespace Go.Proofs.YtajfdachpdkbcaaGreatDoor.Brk
open Go.RowKit Go.Proofs.YtajfdachpdkbcaaGreatDoor.Digit Go.Proofs.YtajfdachpdkbcaaGreatDoor.Own

theorem mine_nil (w : World) (B : Nat) : Mine w B (.slice none 0 0) [] := World.ownsRow_nil _ _ _ _
theorem cut_drop (m : List UInt8) (k : Nat) (hk : k ≤ m.length) (W : World) :
    (Instr.sliceAt 9 (.string ⟨m.toArray⟩) (some (.int .i64 k)) none none).run Tryz.prog W = .ok (.string ⟨(m.drop k).toArray⟩) W := by
  have hz : (⟨m.toArray⟩ : ByteArray).size = m.length := List.size_toArray ..
  rw [run_sliceAt_string W 9 _ _ _ _ Tryz.underlying9, run_slice_string_from_if W 9 _ .i64 k Tryz.underlying9, if_pos ⟨by omega, by rw [hz]; omega⟩]
  have e : (⟨m.toArray⟩ : ByteArray).extract k m.length = ⟨(m.drop k).toArray⟩ := by
    apply ByteArray.ext; simp [List.extract_eq_take_drop]
    exact List.take_of_length_le (by simp)
  rw [hz, Int.toNat_natCast, e]
def RPost (s : List UInt8) (w : World) (e : Ending) (w' : World) : Prop := ∃ v, e = .returned (.tuple #[v, .int .i64 (rC s)]) ∧ Mine w' w.heap.size v (rV s) ∧ Below w.heap.size w w'
/-- steps read, and what is left -/
structure RdAt (S : List UInt8) (w wr : World) (acc : List Op) (m : List UInt8) (c : Nat) (v : Value) : Prop where
  own : Mine wr w.heap.size v acc
  below : Below w.heap.size w wr
  bd : Bd acc c
  len : c + m.length ≤ S.length
  fit : S.length ≤ 255
  left : rdF acc m = rdF [] S
theorem bd_each {acc : List Op} {c : Nat} (h : Bd acc c) (hc : c ≤ 255) : ∀ y ∈ acc, y.s.length ≤ 255 ∧ 0 ≤ y.n ∧ y.n ≤ 25245 := by
  obtain ⟨h1, h2, h3, h4⟩ := h
  have key : ∀ l : List Op, (∀ x ∈ l, Ok x) → 0 ≤ cst l ∧ ∀ y ∈ l, y.s.length ≤ (byt l).length ∧ y.n ≤ cst l := by
    intro l
    induction l with
    | nil => intro _; exact ⟨by simp [cst], fun y hy => by simp at hy⟩
    | cons x l ih =>
      intro hl
      obtain ⟨i1, i2⟩ := ih fun y hy => hl y (List.mem_cons_of_mem _ hy)
      have hx := (hl x (by simp)).pos
      refine ⟨by simp only [cst]; omega, fun y hy => ?_⟩
      simp only [cst, byt, List.length_append]
      rcases List.mem_cons.1 hy with rfl | hy
      · omega
      · have := i2 y hy; omega
  intro y hy
  have := (key acc h4).2 y hy
  have := (h4 y hy).pos
  omega
theorem RdAt.step {S : List UInt8} {w wr w5 : World} {acc : List Op} {m : List UInt8} {c : Nat} {v v' : Value} (h : RdAt S w wr acc m c v) (h0 : (one m).2 ≠ 0)
    (ho : Mine w5 w.heap.size v' (bhd acc (one m).1)) (hb : Below w.heap.size wr w5) : RdAt S w w5 (bhd acc (one m).1) (m.drop (one m).2) (c + (one m).2) v' := by
  obtain ⟨s1, s2, s3⟩ := one_yes h0
  have hl := h.len
  refine ⟨ho, h.below.trans hb, h.bd.step s1 s2, ?_, h.fit, ?_⟩
  · rw [List.length_drop]; omega
  · rw [← h.left, rdF_yes h0]
theorem RdAt.done {S : List UInt8} {w wr : World} {acc : List Op} {c : Nat} {v : Value} (h : RdAt S w wr acc [] c v) : RPost S w (.returned (.tuple #[v, .int .i64 0])) wr := by
  have e := h.left
  rw [rdF_nil] at e
  obtain ⟨e1, e2⟩ := r_some (by have := h.fit; omega) e.symm
  exact ⟨v, by rw [e1], by rw [e2]; exact h.own, h.below⟩
theorem RdAt.bad {S : List UInt8} {w wr w' : World} {acc : List Op} {m : List UInt8} {c : Nat} {v : Value} (h : RdAt S w wr acc m c v) (hm : m ≠ []) (h0 : (one m).2 = 0) (hb : Below w.heap.size w w') : RPost S w (.returned (.tuple #[.slice none 0 0, .int .i64 3])) w' := by
  have e := h.left
  rw [rdF_no hm h0] at e
  obtain ⟨e1, e2⟩ := r_none (by have := h.fit; omega) e.symm
  exact ⟨_, by rw [e1], by rw [e2]; exact mine_nil _ _, hb⟩

set_option maxRecDepth 100000 in
set_option maxHeartbeats 4000000 in
theorem read_calls (s : List UInt8) (hs : s.length ≤ 1099511627776) (w : World) :
    Calls Tryz.prog 120 #[.string ⟨s.toArray⟩] w (RPost s w) := by
  by_cases hbig : 255 < s.length
  · obtain ⟨e1, e2⟩ := r_big hbig
    have H := Lib.hid (And.intro e1 e2)
    have q : (255 : Int) < (s.length : Int) := by omega
    clear e1 e2 hbig
    go_enter Tryz.func120, Tryz.ntmps120
    go_wp2_with fail
    go_ret2
    exact ⟨_, by rw [H.out.1]; rfl, by rw [H.out.2]; exact mine_nil _ _, Below.refl _ _⟩
  · have q : ¬ (255 : Int) < (s.length : Int) := by omega
    have hs2 : s.length ≤ 255 := by omega
    clear hbig
    go_enter Tryz.func120, Tryz.ntmps120
    go_wp2_with fail
    go_loopw [0, 4] (fun s' v wr => ∃ (m : List UInt8) (acc : List Op) (c : Nat), s' = .string ⟨m.toArray⟩ ∧ RdAt s w wr acc m c v) (fun s' _ _ => lenOf s')
    case atStart => exact ⟨s, [], 0, rfl, mine_nil _ _, Below.refl _ _, Bd.nil, by omega, hs2, rfl⟩
    case round =>
      obtain ⟨m, acc, c, rfl, C⟩ := hrel
      by_cases h0 : m = []
      · subst h0
        have HC := Lib.hid C
        clear C
        go_wp2_with fail
        go_ret2
        exact HC.out.done
      · have hi : m.isEmpty = false := by simpa using h0
        have hpos : 0 < m.length := List.length_pos_iff.2 h0
        have hml : m.length ≤ 255 := by have := C.len; have := C.fit; omega
        have hz : (⟨m.toArray⟩ : ByteArray).size = m.length := List.size_toArray ..
        have HF := Lib.hid (first_calls ⟨m.toArray⟩ (by omega) (by omega))
        rw [show (⟨m.toArray⟩ : ByteArray).data.toList = m from rfl] at HF
        have HM := Lib.hid h0
        have HC := Lib.hid C
        have hbs := C.below.size
        clear hz h0 C
        obtain ⟨r, hr⟩ : ∃ r, one m = r := ⟨_, rfl⟩
        rw [hr] at HF
        obtain ⟨x, k⟩ := r
        have HR := Lib.hid hr
        unfold oneV at HF
        simp only at HF
        clear hr
        by_cases hk : k = 0
        · subst hk
          go_wp2_with (go_at_call 151; refine (HF.out _).mono ?_; rintro e w5 ⟨rfl, hb⟩)
          go_ret2
          exact HC.out.bad HM.out (by rw [HR.out]) (HC.out.below.trans (hb.mono hbs))
        · obtain ⟨s1, s2, s3⟩ := one_yes (l := m) (by rw [HR.out]; exact hk)
          rw [HR.out] at s1 s2 s3
          simp only at s1 s2 s3
          have hk0 : ((k : Int) == 0) = false := by simpa using hk
          have hcut := cut_drop m k s3
          have HO := Lib.hid (op_calls x s1.ok)
          have HS := Lib.hid s1
          clear s1
          go_wp2_with fail
          refine (HF.out _).mono ?_
          rintro e w5 ⟨rfl, hb5⟩
          have B5 := Lib.hid hb5
          have h5 := hb5.size
          clear hb5
          go_wp2_with fail
          refine (HO.out _).mono ?_
          rintro e w6 ⟨rfl, hb6⟩
          have B6 := Lib.hid (B5.out.trans (hb6.mono h5))
          clear hb6
          have h6 := B6.out.size
          go_wp2_with fail
          refine (behind_calls acc x (by have := HC.out.bd.len; have := HC.out.len; have := HC.out.fit; omega) w.heap.size _ w6 (mine_below HC.out.own B6.out) (by omega) (fun y hy => by
            have := bd_each HC.out.bd (by have := HC.out.len; have := HC.out.fit; omega) y hy; omega) (by have := HS.out.cst; omega) (by have := HS.out.cst; have := HS.out.ok.pos; omega)).mono ?_
          rintro e w7 ⟨v7, rfl, ho7, hb7⟩
          have C7 := Lib.hid (HC.out.step (by rw [HR.out]; exact hk) (by rw [HR.out]; exact ho7) ((B6.out.mono hbs).trans hb7))
          rw [HR.out] at C7
          clear ho7 hb7
          go_wp2_with fail
          go_roundw
          case rel => exact ⟨_, _, _, rfl, C7.out⟩
          case measure => show (m.drop k).toArray.size < m.toArray.size; rw [List.size_toArray, List.size_toArray, List.length_drop]; omega
end Go.Proofs.YtajfdachpdkbcaaGreatDoor.Brk
end

section
namespace Go.Proofs.YtajfdachpdkbcaaGreatDoor.Conf
open Go.RowKit Go.Proofs.YtajfdachpdkbcaaGreatDoor.Own Go.Proofs.YtajfdachpdkbcaaGreatDoor.Rw Go.Proofs.YtajfdachpdkbcaaGreatDoor.Tree
open Go.Proofs.YtajfdachpdkbcaaGreatDoor.Digit (rdV rdC IsTick rd_some rd_none)
open Go.Proofs.YtajfdachpdkbcaaGreatDoor.Brk (rC)

/-- a console that stands somewhere in a block -/
def Tgt (w : World) (b : Nat) (T : TypeId) (pre : List Value) (x : Cn) (post : List Value) : Prop := w.heap[b]? = some (.cells (pre ++ cnv x ++ post).toArray T (0, 0))
theorem tgt_get (pre : List Value) (x : Cn) (post : List Value) {j : Nat} (hj : j < 10) : (pre ++ cnv x ++ post)[pre.length + j]? = (cnv x)[j]? := by
  rw [List.append_assoc, List.getElem?_append_right (by omega), show pre.length + j - pre.length = j by omega, List.getElem?_append_left (by rw [cnv_len]; omega)]
theorem tgt_put (pre : List Value) (x x' : Cn) (post : List Value) {j : Nat} (hj : j < 10) (v : Value) (e : (cnv x).set j v = cnv x') : (pre ++ cnv x ++ post).set (pre.length + j) v = pre ++ cnv x' ++ post := by
  rw [List.append_assoc, List.set_append_right _ _ (by omega), show pre.length + j - pre.length = j by omega, List.set_append_left _ _ (by rw [cnv_len]; omega), e, List.append_assoc]
section
variable {w : World} {b : Nat} {T : TypeId} {pre post : List Value} {x x' : Cn}
theorem Tgt.cell (h : Tgt w b T pre x post) {o : Nat} (ho : o = pre.length) {j : Nat} {v : Value} (hj : j < 10) (e : (cnv x)[j]? = some v) : w.cell? ⟨b, o + j, none⟩ = some v := by
  subst ho
  rw [at_cell h, List.getElem?_toArray, tgt_get pre x post hj, e]
theorem Tgt.frozen (h : Tgt w b T pre x post) (j : Nat) : w.frozen? ⟨b, j, none⟩ = false := at_frozen h j
theorem Tgt.lt (h : Tgt w b T pre x post) : b < w.heap.size := at_lt h
theorem Tgt.at10 (h : Tgt w b T pre x post) {o : Nat} (ho : o = pre.length) : At10 w b o x :=
  ⟨h.cell ho (j := 0) (by omega) rfl, h.cell ho (j := 1) (by omega) rfl, h.cell ho (j := 2) (by omega) rfl, h.cell ho (j := 3) (by omega) rfl, h.cell ho (j := 4) (by omega) rfl, h.cell ho (j := 5) (by omega) rfl, h.cell ho (j := 6) (by omega) rfl, h.cell ho (j := 7) (by omega) rfl, h.cell ho (j := 8) (by omega) rfl, h.cell ho (j := 9) (by omega) rfl⟩
theorem Tgt.set (h : Tgt w b T pre x post) {o : Nat} (ho : o = pre.length) {j : Nat} (hj : j < 10) {v : Value} (e : (cnv x).set j v = cnv x') : Tgt (w.setCell ⟨b, o + j, none⟩ v) b T pre x' post := by
  subst ho
  unfold Tgt
  rw [at_set h, List.setIfInBounds_toArray, tgt_put pre x x' post hj v e]
theorem Tgt.below {w' : World} (h : Tgt w b T pre x post) (hb : Below w.heap.size w w') : Tgt w' b T pre x post := (hb.block b (at_lt h)).trans h
end
/-- what a setting leaves -/
def SetPost (b : Nat) (T : TypeId) (pre post : List Value) (r : Int × Cn) (w : World) (e : Ending) (w' : World) : Prop := e = .returned (.int .i64 r.1) ∧ Out (fun k => k = b) w w' ∧ (r.1 = 0 → Tgt w' b T pre r.2 post)
theorem out_one {w w1 : World} (hb : Below w.heap.size w w1) (b j : Nat) (v : Value) : Out (fun k => k = b) w (w1.setCell ⟨b, j, none⟩ v) := Out.setCell (S := fun k => k = b) (Out.ofNew hb) (p := ⟨b, j, none⟩) (fun _ => rfl) v
theorem post_stw {w w1 : World} {b : Nat} {T : TypeId} {pre post : List Value} {x x' : Cn} {c : Int} {v : Value} {o : Nat} (h : Tgt w b T pre x post) (hb : Below w.heap.size w w1) (ho : o = pre.length) {j : Nat} (hj : j < 10) (e : c = 0 → (cnv x).set j v = cnv x') :
    Out (fun k => k = b) w (stw c w1 ⟨b, o + j, none⟩ v) ∧ (c = 0 → Tgt (stw c w1 ⟨b, o + j, none⟩ v) b T pre x' post) := by
  unfold stw
  split
  · rename_i hc
    exact ⟨out_one hb _ _ _, fun _ => (h.below hb).set ho hj (e hc)⟩
  · rename_i hc
    exact ⟨Out.ofNew hb, fun h => absurd h hc⟩

set_option maxRecDepth 100000 in
set_option maxHeartbeats 1000000 in
theorem setKind_calls (a : Bs) (b o : Nat) (T : TypeId) (pre post : List Value) (x : Cn) (ho : o = pre.length) (w : World) (h : Tgt w b T pre x post) :
    Calls Tryz.prog 143 #[.pointer (some ⟨b, o, none⟩), .string ⟨a.toArray⟩] w (SetPost b T pre post (kindM x a) w) := by
  have HT := Lib.hid h
  have HO := Lib.hid ho
  clear ho
  have hlt := h.lt
  have HI := Lib.hid (kinds_idx a)
  have HK := Lib.hid (show ∀ r, kindM x a = r → r = if kIdx a = 0 then (0, { x with kind := 1 }) else if kIdx a = 1 then (0, { x with kind := 2 }) else (3, x) by
    rintro r rfl
    unfold kindM kIdx
    split
    · rfl
    · split <;> rfl)
  have hcs : kIdx a = 0 ∨ kIdx a = 1 ∨ kIdx a = -1 := by
    unfold kIdx
    split
    · exact .inl rfl
    · split
      · exact .inr (.inl rfl)
      · exact .inr (.inr rfl)
  clear h
  unfold SetPost
  generalize kindM x a = r at *
  have HK := Lib.hid (HK.out r rfl)
  generalize kIdx a = q at *
  have HB := Lib.hid (fun w1 : World => fun (hb : Below w.heap.size w w1) => HT.out.below hb)
  rcases hcs with rfl | rfl | rfl
  · have c1 := HT.out.cell HO.out (j := 1) (by omega) rfl
    go_enter Tryz.func143, Tryz.ntmps143
    go_wp2_with fail
    refine (kinds_calls w).mono ?_
    rintro e w1 ⟨rfl, rfl⟩
    go_wp2_with fail
    refine (HI.out _ _ (at_new w _)).mono ?_
    rintro e w1 ⟨rfl, rfl⟩
    have B1 : Below w.heap.size w (w.alloc (.cells kindArr 9)) := (Below.refl _ _).alloc (Nat.le_refl _) _
    have T1 := HB.out _ B1
    have y1 := T1.cell HO.out (j := 1) (by omega) rfl
    have f1 := T1.frozen (o + 1)
    have l1 := T1.lt
    have B1 := Lib.hid B1
    have T1 := Lib.hid T1
    generalize w.alloc (.cells kindArr 9) = w2 at *
    go_wp2_with fail
    go_ret
    have hr := HK.out
    rw [if_pos trivial] at hr
    subst hr
    exact ⟨rfl, out_one B1.out _ _ _, fun _ => T1.out.set HO.out (j := 1) (by omega) rfl⟩
  · have c1 := HT.out.cell HO.out (j := 1) (by omega) rfl
    go_enter Tryz.func143, Tryz.ntmps143
    go_wp2_with fail
    refine (kinds_calls w).mono ?_
    rintro e w1 ⟨rfl, rfl⟩
    go_wp2_with fail
    refine (HI.out _ _ (at_new w _)).mono ?_
    rintro e w1 ⟨rfl, rfl⟩
    have B1 : Below w.heap.size w (w.alloc (.cells kindArr 9)) := (Below.refl _ _).alloc (Nat.le_refl _) _
    have T1 := HB.out _ B1
    have y1 := T1.cell HO.out (j := 1) (by omega) rfl
    have f1 := T1.frozen (o + 1)
    have l1 := T1.lt
    have B1 := Lib.hid B1
    have T1 := Lib.hid T1
    generalize w.alloc (.cells kindArr 9) = w2 at *
    go_wp2_with fail
    go_ret
    have hr := HK.out
    rw [if_neg (by decide), if_pos trivial] at hr
    subst hr
    exact ⟨rfl, out_one B1.out _ _ _, fun _ => T1.out.set HO.out (j := 1) (by omega) rfl⟩
  · go_enter Tryz.func143, Tryz.ntmps143
    go_wp2_with fail
    refine (kinds_calls w).mono ?_
    rintro e w1 ⟨rfl, rfl⟩
    go_wp2_with fail
    refine (HI.out _ _ (at_new w _)).mono ?_
    rintro e w1 ⟨rfl, rfl⟩
    have B1 : Below w.heap.size w (w.alloc (.cells kindArr 9)) := (Below.refl _ _).alloc (Nat.le_refl _) _
    have B1 := Lib.hid B1
    generalize w.alloc (.cells kindArr 9) = w2 at *
    go_wp2_with fail
    go_ret
    have hr := HK.out
    rw [if_neg (by decide), if_neg (by decide)] at hr
    subst hr
    exact ⟨rfl, Out.ofNew B1.out, fun h => absurd (show (3 : Int) = 0 from h) (by decide)⟩

set_option maxRecDepth 100000 in
set_option maxHeartbeats 1000000 in
theorem setInit_calls (a : Bs) (ha : a.length ≤ 65536) (b o : Nat) (T : TypeId) (pre post : List Value) (x : Cn) (ho : o = pre.length) (w : World) (h : Tgt w b T pre x post) :
    Calls Tryz.prog 144 #[.pointer (some ⟨b, o, none⟩), .string ⟨a.toArray⟩] w (SetPost b T pre post (initM x a) w) := by
  have HT := Lib.hid h
  have HO := Lib.hid ho
  clear ho
  have HR := Lib.hid (Brk.read_calls a (by omega) w)
  unfold Brk.RPost at HR
  unfold SetPost
  clear h
  by_cases hc : rC a = 0
  · have HI := Lib.hid (show initM x a = (0, { x with init := a }) by unfold initM; rw [if_pos hc])
    rw [hc] at HR
    clear hc
    go_enter Tryz.func144, Tryz.ntmps144
    go_wp2_with fail
    refine HR.out.mono ?_
    rintro e w1 ⟨v, rfl, -, hb⟩
    have T1 := HT.out.below hb
    have y1 := T1.cell HO.out (j := 9) (by omega) rfl
    have f1 := T1.frozen (o + 9)
    have l1 := T1.lt
    have B1 := Lib.hid hb
    have T1 := Lib.hid T1
    clear hb
    go_wp2_with fail
    go_ret
    rw [HI.out]
    exact ⟨rfl, out_one B1.out _ _ _, fun _ => T1.out.set HO.out (j := 9) (by omega) rfl⟩
  · have HI := Lib.hid (show initM x a = (rC a, x) by unfold initM; rw [if_neg hc])
    have b1 : (rC a == 0) = false := by simpa using hc
    have HN := Lib.hid hc
    clear hc
    generalize rC a = c at *
    go_enter Tryz.func144, Tryz.ntmps144
    go_wp2_with fail
    refine HR.out.mono ?_
    rintro e w1 ⟨v, rfl, -, hb⟩
    have B1 := Lib.hid hb
    clear hb
    go_wp2_with fail
    go_ret
    rw [HI.out]
    exact ⟨rfl, Out.ofNew B1.out, fun h => absurd h HN.out⟩
end Go.Proofs.YtajfdachpdkbcaaGreatDoor.Conf
end

section
namespace Go.Proofs.YtajfdachpdkbcaaGreatDoor.Conf
open Go.RowKit Go.Proofs.YtajfdachpdkbcaaGreatDoor.Own Go.Proofs.YtajfdachpdkbcaaGreatDoor.Rw Go.Proofs.YtajfdachpdkbcaaGreatDoor.Tree
open Go.Proofs.YtajfdachpdkbcaaGreatDoor.Digit (rdV rdC IsTick rd_some rd_none)

theorem retry_form (x : Cn) (ts : List Bs) : (numsC ts = 3 → retryM x ts = (3, x)) ∧ (ts.length ≠ 3 → retryM x ts = (3, x)) := by
  constructor
  · intro h
    unfold retryM
    split
    · rename_i a b c
      have : ¬ ∀ t ∈ [a, b, c], rdC t = 0 := fun hh => by unfold numsC at h; rw [if_pos hh] at h; cases h
      rw [if_pos]
      by_cases ha : rdC a = 0
      · by_cases hb : rdC b = 0
        · refine .inr (.inr fun hc => this ?_)
          intro t ht
          simp at ht
          rcases ht with rfl | rfl | rfl <;> assumption
        · exact .inr (.inl hb)
      · exact .inl ha
    · rfl
  · intro h
    unfold retryM
    split
    · simp at h
    · rfl
theorem nums_cases (ts : List Bs) : (numsC ts = 0 ∧ ∀ t ∈ ts, rdC t = 0) ∨ numsC ts = 3 := by
  unfold numsC
  split
  · exact .inl ⟨rfl, by assumption⟩
  · exact .inr rfl
theorem retry_three (x : Cn) (a b c : Bs) (h : ∀ t ∈ [a, b, c], rdC t = 0) : retryM x [a, b, c] = if (1 ≤ rdV a ∧ rdV a ≤ 3600) ∧ (rdV a ≤ rdV b ∧ rdV b ≤ 86400) ∧ (0 ≤ rdV c ∧ rdV c ≤ 3600) then (0, { x with base := rdV a, cap := rdV b, jit := rdV c }) else (2, x) := by
  have hh : ¬ (rdC a ≠ 0 ∨ rdC b ≠ 0 ∨ rdC c ≠ 0) := by
    have h1 := h a (by simp)
    have h2 := h b (by simp)
    have h3 := h c (by simp)
    omega
  rw [retryM, if_neg hh]
theorem within_low (n lo hi : Int) (w : World) : Calls Tryz.prog 150 #[.int .i64 n, .int .i64 lo, .int .i64 hi] w fun e w' => e = .returned (.bool (inB n lo hi)) ∧ w' = w := (within_calls n lo hi w).mono fun _ _ ⟨h1, h2⟩ => ⟨h1, h2.symm⟩
theorem within_is {n lo hi : Int} {q : Bool} (h : inB n lo hi = q) (w : World) : Calls Tryz.prog 150 #[.int .i64 n, .int .i64 lo, .int .i64 hi] w fun e w' => e = .returned (.bool q) ∧ w' = w := by rw [← h]; exact within_low n lo hi w
theorem inB_iff {n lo hi : Int} : inB n lo hi = true ↔ lo ≤ n ∧ n ≤ hi := by simp [inB]
set_option maxRecDepth 100000 in
set_option maxHeartbeats 4000000 in
theorem setRetry_calls (ts : List Bs) (n : Nat) (hn : n = ts.length) (p : Option Addr) (k : Nat) (b o : Nat) (T : TypeId) (pre post : List Value) (x : Cn) (ho : o = pre.length) (w : World) (h : Tgt w b T pre x post)
    (ht : Texts w p k ts) (hs : ∀ t ∈ ts, t.length ≤ 65536) (hm : n ≤ 65536) :
    Calls Tryz.prog 142 #[.pointer (some ⟨b, o, none⟩), .slice p n k] w (SetPost b T pre post (retryM x ts) w) := by
  have HT := Lib.hid h
  have HO := Lib.hid ho
  have HR := Lib.hid (numbers_calls ts n hn p k w ht hs hm)
  have HN := Lib.hid hn
  clear ho h ht hs hm hn
  unfold NumsPost at HR
  unfold SetPost
  rcases nums_cases ts with ⟨h0, hall⟩ | h3
  · rw [h0] at HR
    clear h0
    by_cases hl : n = 3
    · subst hl
      obtain ⟨a1, a2, a3, rfl⟩ : ∃ a1 a2 a3, ts = [a1, a2, a3] := by
        have := HN.out
        match ts, this with
        | [a1, a2, a3], _ => exact ⟨a1, a2, a3, rfl⟩
      have HF := Lib.hid (retry_three x a1 a2 a3 hall)
      generalize retryM x [a1, a2, a3] = r at *
      clear hall
      simp only [List.map_cons, List.map_nil] at HR
      generalize rdV a1 = x1 at *
      generalize rdV a2 = x2 at *
      generalize rdV a3 = x3 at *
      rcases (show inB x1 1 3600 = false ∨ (inB x1 1 3600 = true ∧ inB x2 x1 86400 = false) ∨ (inB x1 1 3600 = true ∧ inB x2 x1 86400 = true ∧ inB x3 0 3600 = false) ∨ (inB x1 1 3600 = true ∧ inB x2 x1 86400 = true ∧ inB x3 0 3600 = true) by cases inB x1 1 3600 <;> cases inB x2 x1 86400 <;> cases inB x3 0 3600 <;> simp) with h1 | ⟨h1, h2⟩ | ⟨h1, h2, h3⟩ | ⟨h1, h2, h3⟩
      · have HFN := Lib.hid (show r = (2, x) by rw [HF.out, if_neg (by simp only [← inB_iff]; simp [h1])])
        clear HF
        go_enter Tryz.func142, Tryz.ntmps142
        go_wp2_with fail
        refine HR.out.mono ?_
        rintro e w1 ⟨v, rfl, hb, hown⟩
        have hown := hown trivial
        obtain ⟨g, c, rfl, hg1, hg2, hc1, hc2⟩ := own_shape (n := 3) hown (by omega)
        have c0 := own_cell (i := 0) hown rfl rfl
        have c1 := own_cell (i := 1) hown rfl rfl
        have c2 := own_cell (i := 2) hown rfl rfl
        have T1 := HT.out.below hb
        have B1 := Lib.hid hb
        have T1 := Lib.hid T1
        clear hb hown
        go_wp2_with fail
        go_big_quiet ((go_at_call 150; exact Calls.quiet_of_same (within_is (by assumption) _)))
        go_wp2_with fail
        go_ret
        rw [HFN.out]
        exact ⟨rfl, Out.ofNew (below_drew B1.out), fun h => absurd (show (2 : Int) = 0 from h) (by decide)⟩
      · have HFN := Lib.hid (show r = (2, x) by rw [HF.out, if_neg (by simp only [← inB_iff]; simp [h1, h2])])
        clear HF
        go_enter Tryz.func142, Tryz.ntmps142
        go_wp2_with fail
        refine HR.out.mono ?_
        rintro e w1 ⟨v, rfl, hb, hown⟩
        have hown := hown trivial
        obtain ⟨g, c, rfl, hg1, hg2, hc1, hc2⟩ := own_shape (n := 3) hown (by omega)
        have c0 := own_cell (i := 0) hown rfl rfl
        have c1 := own_cell (i := 1) hown rfl rfl
        have c2 := own_cell (i := 2) hown rfl rfl
        have T1 := HT.out.below hb
        have B1 := Lib.hid hb
        have T1 := Lib.hid T1
        clear hb hown
        go_wp2_with fail
        go_big_quiet ((go_at_call 150; exact Calls.quiet_of_same (within_is (by assumption) _)))
        go_wp2_with fail
        go_ret
        rw [HFN.out]
        exact ⟨rfl, Out.ofNew (below_drew B1.out), fun h => absurd (show (2 : Int) = 0 from h) (by decide)⟩
      · have HFN := Lib.hid (show r = (2, x) by rw [HF.out, if_neg (by simp only [← inB_iff]; simp [h1, h2, h3])])
        clear HF
        go_enter Tryz.func142, Tryz.ntmps142
        go_wp2_with fail
        refine HR.out.mono ?_
        rintro e w1 ⟨v, rfl, hb, hown⟩
        have hown := hown trivial
        obtain ⟨g, c, rfl, hg1, hg2, hc1, hc2⟩ := own_shape (n := 3) hown (by omega)
        have c0 := own_cell (i := 0) hown rfl rfl
        have c1 := own_cell (i := 1) hown rfl rfl
        have c2 := own_cell (i := 2) hown rfl rfl
        have T1 := HT.out.below hb
        have B1 := Lib.hid hb
        have T1 := Lib.hid T1
        clear hb hown
        go_wp2_with fail
        go_big_quiet ((go_at_call 150; exact Calls.quiet_of_same (within_is (by assumption) _)))
        go_wp2_with fail
        go_ret
        rw [HFN.out]
        exact ⟨rfl, Out.ofNew (below_drew B1.out), fun h => absurd (show (2 : Int) = 0 from h) (by decide)⟩
      · have HFN := Lib.hid (show r = (0, { x with base := x1, cap := x2, jit := x3 }) by rw [HF.out, if_pos (by simp only [← inB_iff]; exact ⟨h1, h2, h3⟩)])
        clear HF
        go_enter Tryz.func142, Tryz.ntmps142
        go_wp2_with fail
        refine HR.out.mono ?_
        rintro e w1 ⟨v, rfl, hb, hown⟩
        have hown := hown trivial
        obtain ⟨g, c, rfl, hg1, hg2, hc1, hc2⟩ := own_shape (n := 3) hown (by omega)
        have c0 := own_cell (i := 0) hown rfl rfl
        have c1 := own_cell (i := 1) hown rfl rfl
        have c2 := own_cell (i := 2) hown rfl rfl
        have T1 := HT.out.below hb
        have B1 := Lib.hid hb
        have T1 := Lib.hid T1
        clear hb hown
        go_wp2_with fail
        go_big_quiet ((go_at_call 150; exact Calls.quiet_of_same (within_is (by assumption) _)))
        have y6 := T1.out.cell HO.out (j := 6) (by omega) rfl
        have y7 := T1.out.cell HO.out (j := 7) (by omega) rfl
        have y8 := T1.out.cell HO.out (j := 8) (by omega) rfl
        have f6 := T1.out.frozen (o + 6)
        have f7 := T1.out.frozen (o + 7)
        have f8 := T1.out.frozen (o + 8)
        have l1 := T1.out.lt
        go_wp2_with fail
        go_region
        go_wp2_with fail
        go_ret
        rw [HFN.out]
        refine ⟨rfl, ?_, fun _ => ?_⟩
        · exact Own.Out.setCell (S := fun k => k = b) (Own.Out.setCell (S := fun k => k = b) (out_one (below_drew B1.out) _ _ _) (p := ⟨b, o + 7, none⟩) (fun _ => rfl) _) (p := ⟨b, o + 8, none⟩) (fun _ => rfl) _
        · exact (((T1.out.below (below_drew (Below.refl _ _))).set HO.out (j := 6) (by omega) (x' := { x with base := x1 }) rfl).set HO.out (j := 7) (by omega) (x' := { x with base := x1, cap := x2 }) rfl).set HO.out (j := 8) (by omega) rfl
    · have HF := Lib.hid ((retry_form x ts).2 (by rw [← HN.out]; exact hl))
      have b1 : ((n : Int) != 3) = true := by simp; omega
      clear hl hall
      generalize retryM x ts = r at *
      go_enter Tryz.func142, Tryz.ntmps142
      go_wp2_with fail
      refine HR.out.mono ?_
      rintro e w1 ⟨v, rfl, hb, hown⟩
      have hown := hown trivial
      rw [← HN.out] at hown
      obtain ⟨pv, cv, rfl, -⟩ := own_slice hown
      have B1 := Lib.hid hb
      clear hb hown
      go_wp2_with fail
      go_ret
      rw [HF.out]
      exact ⟨rfl, Out.ofNew B1.out, fun h => absurd (show (3 : Int) = 0 from h) (by decide)⟩
  · have HF := Lib.hid ((retry_form x ts).1 h3)
    rw [h3] at HR
    clear h3
    generalize retryM x ts = r at *
    go_enter Tryz.func142, Tryz.ntmps142
    go_wp2_with fail
    refine HR.out.mono ?_
    rintro e w1 ⟨v, rfl, hb, -⟩
    have B1 := Lib.hid hb
    clear hb
    go_wp2_with fail
    go_ret
    rw [HF.out]
    exact ⟨rfl, Out.ofNew B1.out, fun h => absurd (show (3 : Int) = 0 from h) (by decide)⟩
end Go.Proofs.YtajfdachpdkbcaaGreatDoor.Conf
end

section
namespace Go.Proofs.YtajfdachpdkbcaaGreatDoor.Conf
open Go.RowKit Go.Proofs.YtajfdachpdkbcaaGreatDoor.Own Go.Proofs.YtajfdachpdkbcaaGreatDoor.Rw Go.Proofs.YtajfdachpdkbcaaGreatDoor.Tree

/-- what a setting needs of the loader: its configuration's cells, and the consoles -/
structure LdK (w : World) (lb b : Nat) (pre : List Value) (p : Option Addr) (k : Nat) (v1 v2 v3 : Value) (bs : List Bs) (cs : List Cn) : Prop where
  lt : lb < w.heap.size
  cells : ∀ i x, (.slice p cs.length k :: v1 :: v2 :: v3 :: strs bs)[i]? = some x → w.cell? ⟨lb, i, none⟩ = some x
  row : Rd w 10 p k cs.length (cs.flatMap cnv)
  apart : ∀ a, p = some a → a.block ≠ b
  same : lb = b → pre = .slice p cs.length k :: v1 :: v2 :: v3 :: strs bs
  ten : bs.length = 10
theorem ten_of {bs : List Bs} (h : bs.length = 10) : ∃ b0 b1 b2 b3 b4 b5 b6 b7 b8 b9, bs = [b0, b1, b2, b3, b4, b5, b6, b7, b8, b9] := by
  match bs, h with
  | [b0, b1, b2, b3, b4, b5, b6, b7, b8, b9], _ => exact ⟨b0, b1, b2, b3, b4, b5, b6, b7, b8, b9, rfl⟩
theorem LdK.keep {w w' : World} {lb b : Nat} {T : TypeId} {pre post : List Value} {p : Option Addr} {k : Nat} {v1 v2 v3 : Value} {bs : List Bs} {cs : List Cn} {x : Cn}
    (h : LdK w lb b pre p k v1 v2 v3 bs cs) (ho : Out (fun k => k = b) w w') (ht : Tgt w' b T pre x post) : LdK w' lb b pre p k v1 v2 v3 bs cs := by
  refine ⟨Nat.lt_of_lt_of_le h.lt ho.size, fun i y hy => ?_, ⟨h.row.cap, h.row.max, h.row.len, ?_⟩, h.apart, h.same, h.ten⟩
  · by_cases hb : lb = b
    · have hp := h.same hb
      subst hb
      rw [at_cell ht, List.getElem?_toArray, List.append_assoc, List.getElem?_append_left, hp]
      · exact hy
      · rw [hp]; exact (List.getElem?_eq_some_iff.1 hy).1
    · exact (ho.cell (p := ⟨lb, i, none⟩) h.lt hb).trans (h.cells i y hy)
  · rcases h.row.cells with h0 | ⟨g, o, rfl, hg, hc⟩
    · exact .inl h0
    · exact .inr ⟨g, o, rfl, Nat.lt_of_lt_of_le hg ho.size, fun j y hy => (ho.cell (p := ⟨g, o + j, none⟩) hg (show ¬ g = b from h.apart ⟨g, o, none⟩ rfl)).trans (hc j y hy)⟩
theorem LdK.below {w w' : World} {lb b : Nat} {pre : List Value} {p : Option Addr} {k : Nat} {v1 v2 v3 : Value} {bs : List Bs} {cs : List Cn} (h : LdK w lb b pre p k v1 v2 v3 bs cs) (hb : Below w.heap.size w w') : LdK w' lb b pre p k v1 v2 v3 bs cs :=
  ⟨Nat.lt_of_lt_of_le h.lt hb.size, fun i y hy => (hb.cell (p := ⟨lb, i, none⟩) h.lt).trans (h.cells i y hy), h.row.below hb, h.apart, h.same, h.ten⟩
theorem like_cases (cs : List Cn) (x : Cn) (a : Bs) : (fIdx cs a = -1 ∧ likeM cs x a = (7, x)) ∨ ∃ (k : Nat) (hk : k < cs.length), fIdx cs a = k ∧ likeM cs x a = (0, { cs[k] with name := x.name }) := by
  cases e : cs.findIdx? fun y => y.name == a with
  | none =>
    have hn : ∀ y ∈ cs, y.name ≠ a := fun y hy => by simpa using List.findIdx?_eq_none_iff.1 e y hy
    obtain ⟨h1, h2⟩ := fIdx_none hn
    exact .inl ⟨h1, by unfold likeM; rw [h2]⟩
  | some k =>
    obtain ⟨hk, h1, h2⟩ := List.findIdx?_eq_some_iff_getElem.1 e
    obtain ⟨h3, h4⟩ := fIdx_at hk (by simpa using h1) (fun y hy => by
      obtain ⟨j, hj, rfl⟩ := List.mem_take_iff_getElem.1 hy
      simpa using h2 j (by omega))
    exact .inr ⟨k, hk, h3, by unfold likeM; rw [h4]⟩
/-- ten cells are written -/
theorem tgt_ten {w : World} {b o : Nat} {T : TypeId} {pre post : List Value} {x y : Cn} (h : Tgt w b T pre x post) (ho : o = pre.length) :
    Tgt ((((((((((w.setCell ⟨b, o, none⟩ (.string ⟨y.name.toArray⟩)).setCell ⟨b, o + 1, none⟩ (.int .i64 y.kind)).setCell ⟨b, o + 2, none⟩ (.int .i64 y.lines)).setCell ⟨b, o + 3, none⟩ (.int .i64 y.bytes)).setCell ⟨b, o + 4, none⟩ (.int .i64 y.gens)).setCell ⟨b, o + 5, none⟩ (.int .i64 y.size)).setCell ⟨b, o + 6, none⟩ (.int .i64 y.base)).setCell ⟨b, o + 7, none⟩ (.int .i64 y.cap)).setCell ⟨b, o + 8, none⟩ (.int .i64 y.jit)).setCell ⟨b, o + 9, none⟩ (.string ⟨y.init.toArray⟩)) b T pre y post := by
  have h0 := h.set ho (j := 0) (by omega) (x' := { x with name := y.name }) rfl
  have h1 := h0.set ho (j := 1) (by omega) (x' := { x with name := y.name, kind := y.kind }) rfl
  have h2 := h1.set ho (j := 2) (by omega) (x' := { x with name := y.name, kind := y.kind, lines := y.lines }) rfl
  have h3 := h2.set ho (j := 3) (by omega) (x' := { x with name := y.name, kind := y.kind, lines := y.lines, bytes := y.bytes }) rfl
  have h4 := h3.set ho (j := 4) (by omega) (x' := { x with name := y.name, kind := y.kind, lines := y.lines, bytes := y.bytes, gens := y.gens }) rfl
  have h5 := h4.set ho (j := 5) (by omega) (x' := { x with name := y.name, kind := y.kind, lines := y.lines, bytes := y.bytes, gens := y.gens, size := y.size }) rfl
  have h6 := h5.set ho (j := 6) (by omega) (x' := { y with cap := x.cap, jit := x.jit, init := x.init }) rfl
  have h7 := h6.set ho (j := 7) (by omega) (x' := { y with jit := x.jit, init := x.init }) rfl
  have h8 := h7.set ho (j := 8) (by omega) (x' := { y with init := x.init }) rfl
  exact h8.set ho (j := 9) (by omega) (x' := y) rfl
theorem out_ten {w w1 : World} {b : Nat} (h : Out (fun k => k = b) w w1) (o : Nat) (u0 u1 u2 u3 u4 u5 u6 u7 u8 u9 : Value) :
    Out (fun k => k = b) w ((((((((((w1.setCell ⟨b, o, none⟩ u0).setCell ⟨b, o + 1, none⟩ u1).setCell ⟨b, o + 2, none⟩ u2).setCell ⟨b, o + 3, none⟩ u3).setCell ⟨b, o + 4, none⟩ u4).setCell ⟨b, o + 5, none⟩ u5).setCell ⟨b, o + 6, none⟩ u6).setCell ⟨b, o + 7, none⟩ u7).setCell ⟨b, o + 8, none⟩ u8).setCell ⟨b, o + 9, none⟩ u9) := by
  have s : ∀ {a : World} (j : Nat) (u : Value), Out (fun k => k = b) w a → Out (fun k => k = b) w (a.setCell ⟨b, j, none⟩ u) := fun j u h => Own.Out.setCell (S := fun k => k = b) h (p := ⟨b, j, none⟩) (fun _ => rfl) u
  exact s _ _ (s _ _ (s _ _ (s _ _ (s _ _ (s _ _ (s _ _ (s _ _ (s _ _ (s _ _ h)))))))))
set_option maxRecDepth 100000 in
set_option maxHeartbeats 4000000 in
theorem setLike_calls (a : Bs) (lb b o : Nat) (T : TypeId) (pre post : List Value) (x : Cn) (ho : o = pre.length) (p : Option Addr) (k : Nat) (v1 v2 v3 : Value) (bs : List Bs) (cs : List Cn) (w : World) (h : Tgt w b T pre x post) (hK : LdK w lb b pre p k v1 v2 v3 bs cs) :
    Calls Tryz.prog 145 #[.pointer (some ⟨lb, 0, none⟩), .pointer (some ⟨b, o, none⟩), .string ⟨a.toArray⟩] w (SetPost b T pre post (likeM cs x a) w) := by
  have HT := Lib.hid h
  have HO := Lib.hid ho
  have HK := Lib.hid hK
  obtain ⟨b0, b1, b2, b3, b4, b5, b6, b7, b8, b9, rfl⟩ := ten_of hK.ten
  obtain ⟨n, hn⟩ : ∃ n, n = cs.length := ⟨_, rfl⟩
  have HFD := Lib.hid (find_calls cs a p k v1 v2 v3 b0 b1 b2 b3 b4 b5 b6 b7 b8 b9 n hn w (by rw [hn]; exact hK.row))
  unfold confV at HFD
  have hc := hK.cells
  have hmx := hK.row.max
  have hcp := hK.row.cap
  rw [← hn] at hc hcp
  have l0 : w.cell? ⟨lb, 0, none⟩ = some (.slice p n k) := hc 0 _ rfl
  have l1 : w.cell? ⟨lb, 1, none⟩ = some v1 := hc 1 _ rfl
  have l2 : w.cell? ⟨lb, 2, none⟩ = some v2 := hc 2 _ rfl
  have l3 : w.cell? ⟨lb, 3, none⟩ = some v3 := hc 3 _ rfl
  have l4 : w.cell? ⟨lb, 4, none⟩ = some (.string ⟨b0.toArray⟩) := hc 4 _ rfl
  have l5 : w.cell? ⟨lb, 5, none⟩ = some (.string ⟨b1.toArray⟩) := hc 5 _ rfl
  have l6 : w.cell? ⟨lb, 6, none⟩ = some (.string ⟨b2.toArray⟩) := hc 6 _ rfl
  have l7 : w.cell? ⟨lb, 7, none⟩ = some (.string ⟨b3.toArray⟩) := hc 7 _ rfl
  have l8 : w.cell? ⟨lb, 8, none⟩ = some (.string ⟨b4.toArray⟩) := hc 8 _ rfl
  have l9 : w.cell? ⟨lb, 9, none⟩ = some (.string ⟨b5.toArray⟩) := hc 9 _ rfl
  have l10 : w.cell? ⟨lb, 10, none⟩ = some (.string ⟨b6.toArray⟩) := hc 10 _ rfl
  have l11 : w.cell? ⟨lb, 11, none⟩ = some (.string ⟨b7.toArray⟩) := hc 11 _ rfl
  have l12 : w.cell? ⟨lb, 12, none⟩ = some (.string ⟨b8.toArray⟩) := hc 12 _ rfl
  have l13 : w.cell? ⟨lb, 13, none⟩ = some (.string ⟨b9.toArray⟩) := hc 13 _ rfl
  unfold maxLen at hmx
  unfold SetPost
  clear hc h hK ho
  have HN := Lib.hid hn
  rcases like_cases cs x a with ⟨e1, e2⟩ | ⟨i, hi, e1, e2⟩
  · rw [e1] at HFD
    have HF := Lib.hid e2
    generalize likeM cs x a = r at *
    clear e1 e2 hn
    go_enter Tryz.func145, Tryz.ntmps145
    go_wp2_with fail
    refine HFD.out.mono ?_
    rintro e w1 ⟨rfl, hb1⟩
    have B1 := Lib.hid hb1
    clear hb1
    go_wp2_with fail
    go_ret
    rw [HF.out]
    exact ⟨rfl, Out.ofNew B1.out, fun h => absurd (show (7 : Int) = 0 from h) (by decide)⟩
  · rw [e1] at HFD
    have HF := Lib.hid e2
    have HI := Lib.hid hi
    have hin : i < n := by omega
    generalize likeM cs x a = r at *
    clear e1 e2 hn
    go_enter Tryz.func145, Tryz.ntmps145
    go_wp2_with fail
    refine HFD.out.mono ?_
    rintro e w1 ⟨rfl, hb1⟩
    have B1 := Lib.hid hb1
    have T1 := HT.out.below hb1
    have K1 := HK.out.below hb1
    obtain ⟨g, og, rfl, hg, -, d0, d1, d2, d3, d4, d5, d6, d7, d8, d9⟩ := con_at K1.row HI.out
    obtain ⟨t0, t1, t2, t3, t4, t5, t6, t7, t8, t9⟩ := T1.at10 HO.out
    have m0 : w1.cell? ⟨lb, 0, none⟩ = some (.slice (some ⟨g, og, none⟩) n k) := by rw [HN.out]; exact K1.cells 0 _ rfl
    have f0 := T1.frozen o
    have f1 := T1.frozen (o + 1)
    have f2 := T1.frozen (o + 2)
    have f3 := T1.frozen (o + 3)
    have f4 := T1.frozen (o + 4)
    have f5 := T1.frozen (o + 5)
    have f6 := T1.frozen (o + 6)
    have f7 := T1.frozen (o + 7)
    have f8 := T1.frozen (o + 8)
    have f9 := T1.frozen (o + 9)
    have hlt := T1.lt
    have q1 : (i : Int) < (n : Int) := by omega
    have T1 := Lib.hid T1
    generalize cs[i] = y at *
    clear hb1 K1 l0 l1 l2 l3 l4 l5 l6 l7 l8 l9 l10 l11 l12 l13
    go_wp2_with fail
    go_ret
    rw [HF.out]
    refine ⟨rfl, ?_, fun _ => ?_⟩
    · exact Own.Out.setCell (S := fun k => k = b) (out_ten (Out.ofNew B1.out) _ _ _ _ _ _ _ _ _ _ _) (p := ⟨b, o, none⟩) (fun _ => rfl) _
    · exact (tgt_ten T1.out HO.out).set HO.out (j := 0) (by omega) rfl
end Go.Proofs.YtajfdachpdkbcaaGreatDoor.Conf
end


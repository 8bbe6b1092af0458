/-
  Layer 14 (brk): the document's own one at a backslash: number by number.
-/
import Derived.Test.YtiblmhjlngcidaaBrkRefOne
import Derived.Deep.QuietTactic
import Derived.BigQuiet
namespace Go.Proofs.Ytiblmhjlngcidaa.Brk
open Go.RowKit Go.Proofs.Ytiblmhjlngcidaa.Digit Go.Proofs.Ytiblmhjlngcidaa.Own

theorem row_kept {w w1 wr : World} {o : Obj} (h1 : w1 = w.alloc o) (hb : Below w1.heap.size w1 wr) : wr.heap[w.heap.size]? = some o := by
  subst h1
  exact (hb.block _ (by simp)).trans (at_new w o)
theorem base_kept {w w1 wr : World} {o : Obj} (h1 : w1 = w.alloc o) (hb : Below w1.heap.size w1 wr) : Below w.heap.size w wr := by
  subst h1
  exact ((Below.refl _ _).alloc (Nat.le_refl _) _).trans (hb.mono (by simp))
theorem list_of_size {s : ByteArray} (h1 : 0 < s.size) (h0 : s[0] = 92) : ∃ t, s.data.toList = 92 :: t := by
  obtain ⟨t, e⟩ := list_one s h1
  exact ⟨t, by rw [e, h0]⟩
theorem ways_n {L : List UInt8} (h : Ways L) : ∃ N, N ≤ 256 ∧ (∀ k, k < N → ¬ Am L k ∧ ¬ Bm L k) ∧ (N = 256 → one L = no) ∧
    (N < 256 → (Am L N ∧ one L = (⟨1, [N.toUInt8], 0⟩, 4)) ∨ (¬ Am L N ∧ Bm L N ∧ one L = (⟨1, [N.toUInt8], 0⟩, 2))) := by
  rcases h with ⟨M, h1, h2, h3⟩ | ⟨h1, h2⟩
  · exact ⟨M, by omega, h2, fun e => by omega, fun _ => h3⟩
  · exact ⟨256, Nat.le_refl _, h1, fun _ => h2, fun e => by omega⟩
theorem wait_n {L : List UInt8} (h : (∃ n, 1 ≤ n ∧ n ≤ 99 ∧ Wm L n ∧ (∀ k, k < n → ¬ Wm L k) ∧ one L = (⟨2, [], n⟩, 4)) ∨ ((∀ k, 1 ≤ k → k ≤ 99 → ¬ Wm L k) ∧ Ways L)) :
    ∃ M, 1 ≤ M ∧ M ≤ 100 ∧ (∀ k, 1 ≤ k → k < M → ¬ Wm L k) ∧ (M < 100 → Wm L M ∧ one L = (⟨2, [], M⟩, 4)) ∧ (M = 100 → Ways L) := by
  rcases h with ⟨n, h1, h2, h3, h4, h5⟩ | ⟨h1, h2⟩
  · exact ⟨n, h1, by omega, fun k _ hk => h4 k hk, fun _ => ⟨h3, h5⟩, fun e => by omega⟩
  · exact ⟨100, by omega, Nat.le_refl _, fun k k1 k2 => h1 k k1 (by omega), fun e => by omega, fun _ => h2⟩
theorem cat_list (a b : List UInt8) : ((⟨a.toArray⟩ : ByteArray) ++ ⟨b.toArray⟩).toList = a ++ b := by rw [bytes_add, ByteArray.toList_eq]
theorem no_start {s : ByteArray} (h : 2 ≤ s.size) {t : List UInt8} (et : s.data.toList = 92 :: t) {n : Nat} (hn : n < 256) (hq : ¬ (s[1].toNat : Int) = n) : ∀ r, t ≠ n.toUInt8 :: r := by
  intro r e
  rw [list_three s (by omega)] at et
  have := (List.cons.inj et).2
  rw [e] at this
  exact ne_byte hq hn (List.cons.inj this).1

set_option maxRecDepth 100000 in
set_option maxHeartbeats 8000000 in
theorem rone_short (s : ByteArray) (h1 : s.size = 1) (h0 : (s[0].toNat : Int) = 92) (w : World) :
    Calls Try.prog 19 #[.string s] w fun e w' => e = ropE (one s.data.toList) ∧ Below w.heap.size w w' := by
  have e0 : s[0] = 92 := eq_byte (n := 92) h0
  have b0 : ((s[0].toNat : Int) != 92) = false := by simp [h0]
  obtain ⟨t, et⟩ := list_of_size (by omega) e0
  have hls : s.data.toList.length = s.size := rfl
  have ht0 : t = [] := by rw [et, List.length_cons] at hls; exact List.eq_nil_of_length_eq_zero (by omega)
  have hw := ref_ways t (fun r e => by rw [ht0] at e; cases e) (fun r e => by rw [ht0] at e; cases e)
  clear hls ht0
  obtain ⟨L, hL⟩ : ∃ L, s.data.toList = L := ⟨_, rfl⟩
  have hLs : L.length = s.size := by rw [← hL]; rfl
  rw [← et, hL] at hw
  have HL := Lib.hid hL
  have HLS := Lib.hid hLs
  obtain ⟨w1, hw1⟩ : ∃ w1, w1 = w.alloc (.cells #[.int .i64 0, .string ⟨#[]⟩, .int .i64 0] 32 (0, 0)) := ⟨_, rfl⟩
  have HW1 := Lib.hid hw1
  have hW : Ways L := by
    rcases hw with ⟨n, _, _, h, _⟩ | ⟨_, h⟩
    · have := h.1; omega
    · exact h
  have q2 : ¬ (2 : Int) ≤ (s.size : Int) := by omega
  have q4 : ¬ (4 : Int) ≤ (s.size : Int) := by omega
  clear hw
  clear e0 et hL hLs
  go_enter Try.func19, Try.ntmps19
  go_wp2_with fail
  rw [← hw1]
  clear hw1
  go_loopw [4] (fun i wr => i = .int .i64 1 ∧ wr = w1) (fun i _ => 1)
  case atStart => exact ⟨rfl, rfl⟩
  case round =>
    obtain ⟨rfl, rfl⟩ := hrel
    have B1 := Lib.hid (Below.refl wr.heap.size wr)
    rename World => w1
    go_wp2_with fail
    obtain ⟨N, hN0, hNn, hNe, hNm⟩ := ways_n hW
    have HN := Lib.hid hNn
    have HEND := Lib.hid hNe
    have HM := Lib.hid hNm
    clear hNn hNe hNm hW
    go_loopw [5] (fun i wr => ∃ k : Nat, k ≤ N ∧ i = .int .i64 k ∧ Below w1.heap.size w1 wr) (fun i _ => 256 - (intOf i).toNat)
    case atStart => exact ⟨0, Nat.zero_le _, rfl, B1.out⟩
    case round =>
      obtain ⟨k, hk, rfl, hB⟩ := hrel
      have HB := Lib.hid hB
      have hbs := hB.size
      have hbw : w1.heap.size ≤ wr.heap.size := hbs
      by_cases hk2 : k < 256
      · have kw : IntKind.u8.wrap (k : Int) = (k : Int) := IntWalk.u8_in _ (by omega)
        have q1 : (k : Int) < 256 := by omega
        have hcv := fun (W : World) => run_byte_string W (k : Int) 45 9 5 Try.underlying45 Try.underlying5 Try.underlying9
        have HX := Lib.hid (rhex_one k hk2)
        have HS := Lib.hid (rshow_one k hk2)
        have hl4 := (sgn_len k).2
        have hlx : (hexS k).length = 2 := rfl
        clear hB
        by_cases hN : k < N
        · obtain ⟨na, nb⟩ := HN.out k hN
          rcases (show (((sgn k).length : Int) == 2) = true ∨ (((sgn k).length : Int) == 2) = false by cases (((sgn k).length : Int) == 2) <;> simp) with b2 | b2
          all_goals
            clear na nb
            go_wp2_with (first
              | (go_at_call 28; refine (HX.out _).mono ?_; rintro e w5 ⟨rfl, rfl⟩)
              | (go_at_call 29; refine (HS.out _).mono ?_; rintro e w6 ⟨rfl, hb6⟩))
            go_roundw
            case rel => exact ⟨k + 1, by omega, by go_num, (HB.out.alloc hbs _).trans (hb6.mono (by simp; omega))⟩
            case measure => simp [intOf]; omega
        · obtain rfl : k = N := by omega
          exfalso
          rcases HM.out hk2 with ⟨h, _⟩ | ⟨_, h, _⟩
          · have := h.1; rw [HLS.out] at this; omega
          · have := h.2.1; rw [HLS.out] at this; omega
      · obtain rfl : N = 256 := by omega
        obtain rfl : k = 256 := by omega
        have HE := Lib.hid (HEND.out rfl)
        have hr := row_kept HW1.out hB
        obtain ⟨c0, c1, c2⟩ := row3 hr
        obtain ⟨f0, f1, f2⟩ := frz3 hr
        have hlg := at_lt hr
        clear hr hB
        go_wp2_with fail
        refine bodyPost_ret (v := .tuple #[.agg #[.int .i64 0, .string ⟨#[]⟩, .int .i64 0], .int .i64 0]) ?_ rfl ⟨by rw [HL.out, HE.out]; rfl, (((base_kept HW1.out HB.out).setCell (p := ⟨_, _, _⟩) (Nat.le_refl _) _).setCell (p := ⟨_, _, _⟩) (Nat.le_refl _) _).setCell (p := ⟨_, _, _⟩) (Nat.le_refl _) _⟩
        simp [results, Try.results19, go_sem, *]

set_option maxRecDepth 100000 in
set_option maxHeartbeats 8000000 in
theorem rone_mid (s : ByteArray) (h1 : 2 ≤ s.size) (h4 : s.size < 4) (h0 : (s[0].toNat : Int) = 92)
    (hq1 : ¬ (s[1].toNat : Int) = 100) (hq2 : ¬ (s[1].toNat : Int) = 122) (w : World) :
    Calls Try.prog 19 #[.string s] w fun e w' => e = ropE (one s.data.toList) ∧ Below w.heap.size w w' := by
  have e0 : s[0] = 92 := eq_byte (n := 92) h0
  have b0 : ((s[0].toNat : Int) != 92) = false := by simp [h0]
  obtain ⟨t, et⟩ := list_of_size (by omega) e0
  have hw := ref_ways t (no_start (n := 100) h1 et (by omega) hq1) (no_start (n := 122) h1 et (by omega) hq2)
  obtain ⟨L, hL⟩ : ∃ L, s.data.toList = L := ⟨_, rfl⟩
  have hLs : L.length = s.size := by rw [← hL]; rfl
  rw [← et, hL] at hw
  have HL := Lib.hid hL
  have HLS := Lib.hid hLs
  obtain ⟨w1, hw1⟩ : ∃ w1, w1 = w.alloc (.cells #[.int .i64 0, .string ⟨#[]⟩, .int .i64 0] 32 (0, 0)) := ⟨_, rfl⟩
  have HW1 := Lib.hid hw1
  obtain ⟨T2, hT2⟩ : ∃ T, T = s.data.toList.take 2 := ⟨_, rfl⟩
  have hcut2 : ∀ W, (Instr.sliceAt 9 (.string s) none (some (.int .i64 2)) none).run Try.prog W = .ok (.string ⟨T2.toArray⟩) W := fun W => by rw [hT2]; exact cut_first s 2 (by omega) W
  rw [hL] at hT2
  have HT2 := Lib.hid hT2
  have d1 : ((s[1].toNat : Int) == 100) = false := by simpa using hq1
  have d2 : ((s[1].toNat : Int) == 122) = false := by simpa using hq2
  have hW : Ways L := by
    rcases hw with ⟨n, _, _, h, _⟩ | ⟨_, h⟩
    · have := h.1; omega
    · exact h
  have q2 : (2 : Int) ≤ (s.size : Int) := by omega
  have q4 : ¬ (4 : Int) ≤ (s.size : Int) := by omega
  clear hw hT2 hq1 hq2
  clear e0 et hL hLs
  go_enter Try.func19, Try.ntmps19
  go_wp2_with fail
  rw [← hw1]
  clear hw1
  go_loopw [4] (fun i wr => i = .int .i64 1 ∧ wr = w1) (fun i _ => 1)
  case atStart => exact ⟨rfl, rfl⟩
  case round =>
    obtain ⟨rfl, rfl⟩ := hrel
    have B1 := Lib.hid (Below.refl wr.heap.size wr)
    rename World => w1
    go_wp2_with fail
    obtain ⟨N, hN0, hNn, hNe, hNm⟩ := ways_n hW
    have HN := Lib.hid hNn
    have HEND := Lib.hid hNe
    have HM := Lib.hid hNm
    clear hNn hNe hNm hW
    go_loopw [5] (fun i wr => ∃ k : Nat, k ≤ N ∧ i = .int .i64 k ∧ Below w1.heap.size w1 wr) (fun i _ => 256 - (intOf i).toNat)
    case atStart => exact ⟨0, Nat.zero_le _, rfl, B1.out⟩
    case round =>
      obtain ⟨k, hk, rfl, hB⟩ := hrel
      have HB := Lib.hid hB
      have hbs := hB.size
      have hbw : w1.heap.size ≤ wr.heap.size := hbs
      by_cases hk2 : k < 256
      · have kw : IntKind.u8.wrap (k : Int) = (k : Int) := IntWalk.u8_in _ (by omega)
        have q1 : (k : Int) < 256 := by omega
        have hcv := fun (W : World) => run_byte_string W (k : Int) 45 9 5 Try.underlying45 Try.underlying5 Try.underlying9
        have HX := Lib.hid (rhex_one k hk2)
        have HS := Lib.hid (rshow_one k hk2)
        have hl4 := (sgn_len k).2
        have hlx : (hexS k).length = 2 := rfl
        clear hB
        by_cases hN : k < N
        · obtain ⟨na, nb⟩ := HN.out k hN
          by_cases hl : (sgn k).length = 2
          · have nl : (T2 == sgn k) = false := by
              rw [beq_eq_false_iff_ne]
              exact fun e => nb ⟨hl, by rw [HLS.out]; omega, by rw [← HT2.out]; exact e⟩
            have b2 : (((sgn k).length : Int) == 2) = true := by simp [hl]
            clear na nb
            go_wp2_with (first
              | (go_at_call 28; refine (HX.out _).mono ?_; rintro e w5 ⟨rfl, rfl⟩)
              | (go_at_call 29; refine (HS.out _).mono ?_; rintro e w6 ⟨rfl, hb6⟩))
            go_roundw
            case rel => exact ⟨k + 1, by omega, by go_num, (HB.out.alloc hbs _).trans (hb6.mono (by simp; omega))⟩
            case measure => simp [intOf]; omega
          · have b2 : (((sgn k).length : Int) == 2) = false := by simp; omega
            clear na nb
            go_wp2_with (first
              | (go_at_call 28; refine (HX.out _).mono ?_; rintro e w5 ⟨rfl, rfl⟩)
              | (go_at_call 29; refine (HS.out _).mono ?_; rintro e w6 ⟨rfl, hb6⟩))
            go_roundw
            case rel => exact ⟨k + 1, by omega, by go_num, (HB.out.alloc hbs _).trans (hb6.mono (by simp; omega))⟩
            case measure => simp [intOf]; omega
        · obtain rfl : k = N := by omega
          rcases HM.out hk2 with ⟨h, _⟩ | ⟨ha, hb, he⟩
          · exfalso; have := h.1; rw [HLS.out] at this; omega
          · have nl : (T2 == sgn k) = true := by rw [beq_iff_eq, HT2.out]; exact hb.2.2
            have b2 : (((sgn k).length : Int) == 2) = true := by simp [hb.1]
            have HE := Lib.hid he
            clear he ha hb
            go_wp2_with (first
              | (go_at_call 28; refine (HX.out _).mono ?_; rintro e w5 ⟨rfl, rfl⟩)
              | (go_at_call 29; refine (HS.out _).mono ?_; rintro e w6 ⟨rfl, hb6⟩; have HB6 := Lib.hid ((HB.out.alloc hbs _).trans (hb6.mono (by simp; omega))); obtain ⟨c0, c1, c2⟩ := row3 (row_kept HW1.out HB6.out); obtain ⟨f0, f1, f2⟩ := frz3 (row_kept HW1.out HB6.out); have hlg := at_lt (row_kept HW1.out HB6.out)))
            refine bodyPost_ret (v := .tuple #[.agg #[.int .i64 1, .string ⟨#[(k : Int).toNat.toUInt8]⟩, .int .i64 0], .int .i64 2]) ?_ rfl ⟨by rw [HL.out, HE.out]; rfl, (((base_kept HW1.out HB6.out).setCell (p := ⟨_, _, _⟩) (Nat.le_refl _) _).setCell (p := ⟨_, _, _⟩) (Nat.le_refl _) _).setCell (p := ⟨_, _, _⟩) (Nat.le_refl _) _⟩
            simp [results, Try.results19, go_sem, *]
      · obtain rfl : N = 256 := by omega
        obtain rfl : k = 256 := by omega
        have HE := Lib.hid (HEND.out rfl)
        have hr := row_kept HW1.out hB
        obtain ⟨c0, c1, c2⟩ := row3 hr
        obtain ⟨f0, f1, f2⟩ := frz3 hr
        have hlg := at_lt hr
        clear hr hB
        go_wp2_with fail
        refine bodyPost_ret (v := .tuple #[.agg #[.int .i64 0, .string ⟨#[]⟩, .int .i64 0], .int .i64 0]) ?_ rfl ⟨by rw [HL.out, HE.out]; rfl, (((base_kept HW1.out HB.out).setCell (p := ⟨_, _, _⟩) (Nat.le_refl _) _).setCell (p := ⟨_, _, _⟩) (Nat.le_refl _) _).setCell (p := ⟨_, _, _⟩) (Nat.le_refl _) _⟩
        simp [results, Try.results19, go_sem, *]

set_option maxRecDepth 100000 in
set_option maxHeartbeats 8000000 in
theorem rone_long (s : ByteArray) (h1 : 2 ≤ s.size) (h4 : 4 ≤ s.size) (h0 : (s[0].toNat : Int) = 92)
    (hq1 : ¬ (s[1].toNat : Int) = 100) (hq2 : ¬ (s[1].toNat : Int) = 122) (w : World) :
    Calls Try.prog 19 #[.string s] w fun e w' => e = ropE (one s.data.toList) ∧ Below w.heap.size w w' := by
  have e0 : s[0] = 92 := eq_byte (n := 92) h0
  have b0 : ((s[0].toNat : Int) != 92) = false := by simp [h0]
  obtain ⟨t, et⟩ := list_of_size (by omega) e0
  have hw := ref_ways t (no_start (n := 100) h1 et (by omega) hq1) (no_start (n := 122) h1 et (by omega) hq2)
  obtain ⟨L, hL⟩ : ∃ L, s.data.toList = L := ⟨_, rfl⟩
  have hLs : L.length = s.size := by rw [← hL]; rfl
  rw [← et, hL] at hw
  have HL := Lib.hid hL
  have HLS := Lib.hid hLs
  obtain ⟨w1, hw1⟩ : ∃ w1, w1 = w.alloc (.cells #[.int .i64 0, .string ⟨#[]⟩, .int .i64 0] 32 (0, 0)) := ⟨_, rfl⟩
  have HW1 := Lib.hid hw1
  obtain ⟨T2, hT2⟩ : ∃ T, T = s.data.toList.take 2 := ⟨_, rfl⟩
  have hcut2 : ∀ W, (Instr.sliceAt 9 (.string s) none (some (.int .i64 2)) none).run Try.prog W = .ok (.string ⟨T2.toArray⟩) W := fun W => by rw [hT2]; exact cut_first s 2 (by omega) W
  rw [hL] at hT2
  have HT2 := Lib.hid hT2
  obtain ⟨T4, hT4⟩ : ∃ T, T = s.data.toList.take 4 := ⟨_, rfl⟩
  have hcut4 : ∀ W, (Instr.sliceAt 9 (.string s) none (some (.int .i64 4)) none).run Try.prog W = .ok (.string ⟨T4.toArray⟩) W := fun W => by rw [hT4]; exact cut_first s 4 (by omega) W
  rw [hL] at hT4
  have HT4 := Lib.hid hT4
  have d1 : ((s[1].toNat : Int) == 100) = false := by simpa using hq1
  have d2 : ((s[1].toNat : Int) == 122) = false := by simpa using hq2
  obtain ⟨M1, m1, m2, hMn, hMw, hMe⟩ := wait_n hw
  have HMN := Lib.hid hMn
  have HMW := Lib.hid hMw
  have HME := Lib.hid hMe
  have q2 : (2 : Int) ≤ (s.size : Int) := by omega
  have q4 : (4 : Int) ≤ (s.size : Int) := by omega
  clear hw hT2 hT4 hq1 hq2 hMn hMw hMe
  clear e0 et hL hLs
  go_enter Try.func19, Try.ntmps19
  go_wp2_with fail
  rw [← hw1]
  clear hw1
  go_loopw [4] (fun i wr => ∃ k : Nat, 1 ≤ k ∧ k ≤ M1 ∧ i = .int .i64 k ∧ Below w1.heap.size w1 wr) (fun i _ => 100 - (intOf i).toNat)
  case atStart => exact ⟨1, by omega, m1, rfl, Below.refl _ _⟩
  case round =>
    obtain ⟨k, k1, hk, rfl, hB⟩ := hrel
    rename World => wo
    by_cases hk2 : k < 100
    · have HP := Lib.hid (rpad_two k (by omega))
      have hlw : (two k).length = 2 := rfl
      have q1 : (k : Int) < 100 := by omega
      by_cases hN : k < M1
      · have nw : (T4 == 92 :: 119 :: two k) = false := by
          rw [beq_eq_false_iff_ne]
          exact fun e => HMN.out k k1 hN ⟨by rw [HLS.out]; omega, by rw [← HT4.out]; exact e⟩
        have nw2 : (T4 == ((⟨#[92, 119]⟩ : ByteArray) ++ ⟨(two k).toArray⟩).toList) = false := by rw [cat_list [92, 119]]; exact nw
        go_wp2_with fail
        go_quiet ((go_at_call 27; exact Calls.quiet_of_same (HP.out _)))
        go_wp2_with fail
        go_roundw
        case rel => exact ⟨k + 1, by omega, by omega, by go_num, below_drew hB⟩
        case measure => simp [intOf]; omega
      · have hkN : k = M1 := by omega
        subst hkN
        obtain ⟨hy, he⟩ := HMW.out hk2
        have nw : (T4 == 92 :: 119 :: two k) = true := by rw [beq_iff_eq, HT4.out]; exact hy.2
        have nw2 : (T4 == ((⟨#[92, 119]⟩ : ByteArray) ++ ⟨(two k).toArray⟩).toList) = true := by rw [cat_list [92, 119]]; exact nw
        have HE := Lib.hid he
        have hr := row_kept HW1.out hB
        obtain ⟨c0, c1, c2⟩ := row3 hr
        obtain ⟨f0, f1, f2⟩ := frz3 hr
        have hlg := at_lt hr
        clear hr hy he
        go_wp2_with fail
        go_quiet ((go_at_call 27; exact Calls.quiet_of_same (HP.out _)))
        go_wp2_with fail
        refine bodyPost_ret (v := .tuple #[.agg #[.int .i64 2, .string ⟨#[]⟩, .int .i64 k], .int .i64 4]) ?_ rfl ⟨by rw [HL.out, HE.out]; rfl, (((base_kept HW1.out (below_drew hB)).setCell (p := ⟨_, _, _⟩) (Nat.le_refl _) _).setCell (p := ⟨_, _, _⟩) (Nat.le_refl _) _).setCell (p := ⟨_, _, _⟩) (Nat.le_refl _) _⟩
        simp [results, Try.results19, go_sem, *]
    · have hkN : k = M1 := by omega
      subst hkN
      have hk100 : k = 100 := by omega
      have hW := HME.out hk100
      subst hk100
      have B1 := Lib.hid hB
      clear hB
      go_wp2_with fail
      obtain ⟨N, hN0, hNn, hNe, hNm⟩ := ways_n hW
      have HN := Lib.hid hNn
      have HEND := Lib.hid hNe
      have HM := Lib.hid hNm
      clear hNn hNe hNm hW
      go_loopw [5] (fun i wr => ∃ k : Nat, k ≤ N ∧ i = .int .i64 k ∧ Below w1.heap.size w1 wr) (fun i _ => 256 - (intOf i).toNat)
      case atStart => exact ⟨0, Nat.zero_le _, rfl, B1.out⟩
      case round =>
        obtain ⟨k, hk, rfl, hB⟩ := hrel
        have HB := Lib.hid hB
        have hbs := hB.size
        have hbw : w1.heap.size ≤ wr.heap.size := hbs
        by_cases hk2 : k < 256
        · have kw : IntKind.u8.wrap (k : Int) = (k : Int) := IntWalk.u8_in _ (by omega)
          have q1 : (k : Int) < 256 := by omega
          have hcv := fun (W : World) => run_byte_string W (k : Int) 45 9 5 Try.underlying45 Try.underlying5 Try.underlying9
          have HX := Lib.hid (rhex_one k hk2)
          have HS := Lib.hid (rshow_one k hk2)
          have hl4 := (sgn_len k).2
          have hlx : (hexS k).length = 2 := rfl
          clear hB
          by_cases hN : k < N
          · obtain ⟨na, nb⟩ := HN.out k hN
            have n4 : (T4 == 92 :: 120 :: hexS k) = false := by
              rw [beq_eq_false_iff_ne]
              exact fun e => na ⟨by rw [HLS.out]; omega, by rw [← HT4.out]; exact e⟩
            have n4' : (T4 == ((⟨#[92, 120]⟩ : ByteArray) ++ ⟨(hexS k).toArray⟩).toList) = false := by rw [cat_list [92, 120]]; exact n4
            by_cases hl : (sgn k).length = 2
            · have nl : (T2 == sgn k) = false := by
                rw [beq_eq_false_iff_ne]
                exact fun e => nb ⟨hl, by rw [HLS.out]; omega, by rw [← HT2.out]; exact e⟩
              have b2 : (((sgn k).length : Int) == 2) = true := by simp [hl]
              clear na nb
              go_wp2_with (first
                | (go_at_call 28; refine (HX.out _).mono ?_; rintro e w5 ⟨rfl, rfl⟩)
                | (go_at_call 29; refine (HS.out _).mono ?_; rintro e w6 ⟨rfl, hb6⟩))
              go_roundw
              case rel => exact ⟨k + 1, by omega, by go_num, (HB.out.alloc hbs _).trans (hb6.mono (by simp; omega))⟩
              case measure => simp [intOf]; omega
            · have b2 : (((sgn k).length : Int) == 2) = false := by simp; omega
              clear na nb
              go_wp2_with (first
                | (go_at_call 28; refine (HX.out _).mono ?_; rintro e w5 ⟨rfl, rfl⟩)
                | (go_at_call 29; refine (HS.out _).mono ?_; rintro e w6 ⟨rfl, hb6⟩))
              go_roundw
              case rel => exact ⟨k + 1, by omega, by go_num, (HB.out.alloc hbs _).trans (hb6.mono (by simp; omega))⟩
              case measure => simp [intOf]; omega
          · obtain rfl : k = N := by omega
            rcases HM.out hk2 with ⟨h, he⟩ | ⟨ha, hb, he⟩
            · have n4 : (T4 == 92 :: 120 :: hexS k) = true := by rw [beq_iff_eq, HT4.out]; exact h.2
              have n4' : (T4 == ((⟨#[92, 120]⟩ : ByteArray) ++ ⟨(hexS k).toArray⟩).toList) = true := by rw [cat_list [92, 120]]; exact n4
              have HE := Lib.hid he
              clear he h
              go_wp2_with (first
                | (go_at_call 28; refine (HX.out _).mono ?_; rintro e w5 ⟨rfl, rfl⟩)
                | (go_at_call 29; refine (HS.out _).mono ?_; rintro e w6 ⟨rfl, hb6⟩; have HB6 := Lib.hid ((HB.out.alloc hbs _).trans (hb6.mono (by simp; omega))); obtain ⟨c0, c1, c2⟩ := row3 (row_kept HW1.out HB6.out); obtain ⟨f0, f1, f2⟩ := frz3 (row_kept HW1.out HB6.out); have hlg := at_lt (row_kept HW1.out HB6.out)))
              refine bodyPost_ret (v := .tuple #[.agg #[.int .i64 1, .string ⟨#[(k : Int).toNat.toUInt8]⟩, .int .i64 0], .int .i64 4]) ?_ rfl ⟨by rw [HL.out, HE.out]; rfl, (((base_kept HW1.out HB6.out).setCell (p := ⟨_, _, _⟩) (Nat.le_refl _) _).setCell (p := ⟨_, _, _⟩) (Nat.le_refl _) _).setCell (p := ⟨_, _, _⟩) (Nat.le_refl _) _⟩
              simp [results, Try.results19, go_sem, *]
            · have n4 : (T4 == 92 :: 120 :: hexS k) = false := by
                rw [beq_eq_false_iff_ne]
                exact fun e => ha ⟨by rw [HLS.out]; omega, by rw [← HT4.out]; exact e⟩
              have n4' : (T4 == ((⟨#[92, 120]⟩ : ByteArray) ++ ⟨(hexS k).toArray⟩).toList) = false := by rw [cat_list [92, 120]]; exact n4
              have nl : (T2 == sgn k) = true := by rw [beq_iff_eq, HT2.out]; exact hb.2.2
              have b2 : (((sgn k).length : Int) == 2) = true := by simp [hb.1]
              have HE := Lib.hid he
              clear he ha hb
              go_wp2_with (first
                | (go_at_call 28; refine (HX.out _).mono ?_; rintro e w5 ⟨rfl, rfl⟩)
                | (go_at_call 29; refine (HS.out _).mono ?_; rintro e w6 ⟨rfl, hb6⟩; have HB6 := Lib.hid ((HB.out.alloc hbs _).trans (hb6.mono (by simp; omega))); obtain ⟨c0, c1, c2⟩ := row3 (row_kept HW1.out HB6.out); obtain ⟨f0, f1, f2⟩ := frz3 (row_kept HW1.out HB6.out); have hlg := at_lt (row_kept HW1.out HB6.out)))
              refine bodyPost_ret (v := .tuple #[.agg #[.int .i64 1, .string ⟨#[(k : Int).toNat.toUInt8]⟩, .int .i64 0], .int .i64 2]) ?_ rfl ⟨by rw [HL.out, HE.out]; rfl, (((base_kept HW1.out HB6.out).setCell (p := ⟨_, _, _⟩) (Nat.le_refl _) _).setCell (p := ⟨_, _, _⟩) (Nat.le_refl _) _).setCell (p := ⟨_, _, _⟩) (Nat.le_refl _) _⟩
              simp [results, Try.results19, go_sem, *]
        · obtain rfl : N = 256 := by omega
          obtain rfl : k = 256 := by omega
          have HE := Lib.hid (HEND.out rfl)
          have hr := row_kept HW1.out hB
          obtain ⟨c0, c1, c2⟩ := row3 hr
          obtain ⟨f0, f1, f2⟩ := frz3 hr
          have hlg := at_lt hr
          clear hr hB
          go_wp2_with fail
          refine bodyPost_ret (v := .tuple #[.agg #[.int .i64 0, .string ⟨#[]⟩, .int .i64 0], .int .i64 0]) ?_ rfl ⟨by rw [HL.out, HE.out]; rfl, (((base_kept HW1.out HB.out).setCell (p := ⟨_, _, _⟩) (Nat.le_refl _) _).setCell (p := ⟨_, _, _⟩) (Nat.le_refl _) _).setCell (p := ⟨_, _, _⟩) (Nat.le_refl _) _⟩
          simp [results, Try.results19, go_sem, *]
theorem rone_calls (s : ByteArray) (h1 : 0 < s.size) (w : World) :
    Calls Try.prog 19 #[.string s] w fun e w' => e = ropE (one s.data.toList) ∧ Below w.heap.size w w' := by
  by_cases h0 : (s[0].toNat : Int) = 92
  · by_cases h2 : 2 ≤ s.size
    · by_cases hq1 : (s[1].toNat : Int) = 100
      · exact rone_quick s h2 h0 (.inl hq1) w
      by_cases hq2 : (s[1].toNat : Int) = 122
      · exact rone_quick s h2 h0 (.inr hq2) w
      by_cases h4 : 4 ≤ s.size
      · exact rone_long s h2 h4 h0 hq1 hq2 w
      · exact rone_mid s h2 (by omega) h0 hq1 hq2 w
    · exact rone_short s (by omega) h0 w
  · exact rone_plain s h1 h0 w
end Go.Proofs.Ytiblmhjlngcidaa.Brk

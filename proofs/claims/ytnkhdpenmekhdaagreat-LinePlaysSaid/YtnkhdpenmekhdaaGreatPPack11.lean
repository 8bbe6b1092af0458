/-
Layer 14 (brk): the document's own one at a backslash: number by number.
Layer 14 (brk): the document's own Read, walked.
Layer 19 (line): the document's New, walked. Written by gen_lindo.py.
Layer 19 (line): the laws' sample, walked.
Layer 19 (line): the law's acts: any of them; the frame of the loop. Written by gen_lindo.py.
What came in, with how much memory its reading takes at most (the form's own reach): slices of structs, fields, strings.
Layer 14 (brk): ops that came in, out of their readings.
-/
import Derived.Test.YtnkhdpenmekhdaaGreatPPack10
import Derived.Deep.QuietTactic
import Derived.BigQuiet
import Derived.SizedLaws
section
namespace Go.Proofs.YtnkhdpenmekhdaaGreat.Brk
open Go.RowKit Go.Proofs.YtnkhdpenmekhdaaGreat.Digit Go.Proofs.YtnkhdpenmekhdaaGreat.Own

theorem row_kept {w w1 wr : World} {o : Obj} (h1 : w1 = w.alloc o) (hb : Below w1.heap.size w1 wr) : wr.heap[w.heap.size]? = some o := by
  subst h1
  exact (hb.block _ (by simp)).trans (at_new w o)
theorem base_kept {w w1 wr : World} {o : Obj} (h1 : w1 = w.alloc o) (hb : Below w1.heap.size w1 wr) : Below w.heap.size w wr := by
  subst h1
  exact ((Below.refl _ _).alloc (Nat.le_refl _) _).trans (hb.mono (by simp))
theorem list_of_size {s : ByteArray} (h1 : 0 < s.size) (h0 : s[0] = 92) : ∃ t, s.data.toList = 92 :: t := by
  obtain ⟨t, e⟩ := list_one s h1
  exact ⟨t, by rw [e, h0]⟩
theorem ways_n {L : List UInt8} (h : Ways L) : ∃ N, N ≤ 256 ∧ (∀ k, k < N → ¬ Am L k ∧ ¬ Bm L k) ∧ (N = 256 → one L = no) ∧
    (N < 256 → (Am L N ∧ one L = (⟨1, [N.toUInt8], 0⟩, 4)) ∨ (¬ Am L N ∧ Bm L N ∧ one L = (⟨1, [N.toUInt8], 0⟩, 2))) := by
  rcases h with ⟨M, h1, h2, h3⟩ | ⟨h1, h2⟩
  · exact ⟨M, by omega, h2, fun e => by omega, fun _ => h3⟩
  · exact ⟨256, Nat.le_refl _, h1, fun _ => h2, fun e => by omega⟩
theorem wait_n {L : List UInt8} (h : (∃ n, 1 ≤ n ∧ n ≤ 99 ∧ Wm L n ∧ (∀ k, k < n → ¬ Wm L k) ∧ one L = (⟨2, [], n⟩, 4)) ∨ ((∀ k, 1 ≤ k → k ≤ 99 → ¬ Wm L k) ∧ Ways L)) :
    ∃ M, 1 ≤ M ∧ M ≤ 100 ∧ (∀ k, 1 ≤ k → k < M → ¬ Wm L k) ∧ (M < 100 → Wm L M ∧ one L = (⟨2, [], M⟩, 4)) ∧ (M = 100 → Ways L) := by
  rcases h with ⟨n, h1, h2, h3, h4, h5⟩ | ⟨h1, h2⟩
  · exact ⟨n, h1, by omega, fun k _ hk => h4 k hk, fun _ => ⟨h3, h5⟩, fun e => by omega⟩
  · exact ⟨100, by omega, Nat.le_refl _, fun k k1 k2 => h1 k k1 (by omega), fun e => by omega, fun _ => h2⟩
theorem cat_list (a b : List UInt8) : ((⟨a.toArray⟩ : ByteArray) ++ ⟨b.toArray⟩).toList = a ++ b := by rw [bytes_add, ByteArray.toList_eq]
theorem no_start {s : ByteArray} (h : 2 ≤ s.size) {t : List UInt8} (et : s.data.toList = 92 :: t) {n : Nat} (hn : n < 256) (hq : ¬ (s[1].toNat : Int) = n) : ∀ r, t ≠ n.toUInt8 :: r := by
  intro r e
  rw [list_three s (by omega)] at et
  have := (List.cons.inj et).2
  rw [e] at this
  exact ne_byte hq hn (List.cons.inj this).1

set_option maxRecDepth 100000 in
set_option maxHeartbeats 8000000 in
theorem rone_short (s : ByteArray) (h1 : s.size = 1) (h0 : (s[0].toNat : Int) = 92) (w : World) :
    Calls Tryz.prog 49 #[.string s] w fun e w' => e = ropE (one s.data.toList) ∧ Below w.heap.size w w' := by
  have e0 : s[0] = 92 := eq_byte (n := 92) h0
  have b0 : ((s[0].toNat : Int) != 92) = false := by simp [h0]
  obtain ⟨t, et⟩ := list_of_size (by omega) e0
  have hls : s.data.toList.length = s.size := rfl
  have ht0 : t = [] := by rw [et, List.length_cons] at hls; exact List.eq_nil_of_length_eq_zero (by omega)
  have hw := ref_ways t (fun r e => by rw [ht0] at e; cases e) (fun r e => by rw [ht0] at e; cases e)
  clear hls ht0
  obtain ⟨L, hL⟩ : ∃ L, s.data.toList = L := ⟨_, rfl⟩
  have hLs : L.length = s.size := by rw [← hL]; rfl
  rw [← et, hL] at hw
  have HL := Lib.hid hL
  have HLS := Lib.hid hLs
  obtain ⟨w1, hw1⟩ : ∃ w1, w1 = w.alloc (.cells #[.int .i64 0, .string ⟨#[]⟩, .int .i64 0] 58 (0, 0)) := ⟨_, rfl⟩
  have HW1 := Lib.hid hw1
  have hW : Ways L := by
    rcases hw with ⟨n, _, _, h, _⟩ | ⟨_, h⟩
    · have := h.1; omega
    · exact h
  have q2 : ¬ (2 : Int) ≤ (s.size : Int) := by omega
  have q4 : ¬ (4 : Int) ≤ (s.size : Int) := by omega
  clear hw
  clear e0 et hL hLs
  go_enter Tryz.func49, Tryz.ntmps49
  go_wp2_with fail
  rw [← hw1]
  clear hw1
  go_loopw [4] (fun i wr => i = .int .i64 1 ∧ wr = w1) (fun i _ => 1)
  case atStart => exact ⟨rfl, rfl⟩
  case round =>
    obtain ⟨rfl, rfl⟩ := hrel
    have B1 := Lib.hid (Below.refl wr.heap.size wr)
    rename World => w1
    go_wp2_with fail
    obtain ⟨N, hN0, hNn, hNe, hNm⟩ := ways_n hW
    have HN := Lib.hid hNn
    have HEND := Lib.hid hNe
    have HM := Lib.hid hNm
    clear hNn hNe hNm hW
    go_loopw [5] (fun i wr => ∃ k : Nat, k ≤ N ∧ i = .int .i64 k ∧ Below w1.heap.size w1 wr) (fun i _ => 256 - (intOf i).toNat)
    case atStart => exact ⟨0, Nat.zero_le _, rfl, B1.out⟩
    case round =>
      obtain ⟨k, hk, rfl, hB⟩ := hrel
      have HB := Lib.hid hB
      have hbs := hB.size
      have hbw : w1.heap.size ≤ wr.heap.size := hbs
      by_cases hk2 : k < 256
      · have kw : IntKind.u8.wrap (k : Int) = (k : Int) := IntWalk.u8_in _ (by omega)
        have q1 : (k : Int) < 256 := by omega
        have hcv := fun (W : World) => run_byte_string W (k : Int) 117 9 5 Tryz.underlying117 Tryz.underlying5 Tryz.underlying9
        have HX := Lib.hid (rhex_one k hk2)
        have HS := Lib.hid (rshow_one k hk2)
        have hl4 := (sgn_len k).2
        have hlx : (hexS k).length = 2 := rfl
        clear hB
        by_cases hN : k < N
        · obtain ⟨na, nb⟩ := HN.out k hN
          rcases (show (((sgn k).length : Int) == 2) = true ∨ (((sgn k).length : Int) == 2) = false by cases (((sgn k).length : Int) == 2) <;> simp) with b2 | b2
          all_goals
            clear na nb
            go_wp2_with (first
              | (go_at_call 64; refine (HX.out _).mono ?_; rintro e w5 ⟨rfl, rfl⟩)
              | (go_at_call 65; refine (HS.out _).mono ?_; rintro e w6 ⟨rfl, hb6⟩))
            go_roundw
            case rel => exact ⟨k + 1, by omega, by go_num, (HB.out.alloc hbs _).trans (hb6.mono (by simp; omega))⟩
            case measure => simp [intOf]; omega
        · obtain rfl : k = N := by omega
          exfalso
          rcases HM.out hk2 with ⟨h, _⟩ | ⟨_, h, _⟩
          · have := h.1; rw [HLS.out] at this; omega
          · have := h.2.1; rw [HLS.out] at this; omega
      · obtain rfl : N = 256 := by omega
        obtain rfl : k = 256 := by omega
        have HE := Lib.hid (HEND.out rfl)
        have hr := row_kept HW1.out hB
        obtain ⟨c0, c1, c2⟩ := row3 hr
        obtain ⟨f0, f1, f2⟩ := frz3 hr
        have hlg := at_lt hr
        clear hr hB
        go_wp2_with fail
        refine bodyPost_ret (v := .tuple #[.agg #[.int .i64 0, .string ⟨#[]⟩, .int .i64 0], .int .i64 0]) ?_ rfl ⟨by rw [HL.out, HE.out]; rfl, (((base_kept HW1.out HB.out).setCell (p := ⟨_, _, _⟩) (Nat.le_refl _) _).setCell (p := ⟨_, _, _⟩) (Nat.le_refl _) _).setCell (p := ⟨_, _, _⟩) (Nat.le_refl _) _⟩
        simp [results, Tryz.results49, go_sem, *]

set_option maxRecDepth 100000 in
set_option maxHeartbeats 8000000 in
theorem rone_mid (s : ByteArray) (h1 : 2 ≤ s.size) (h4 : s.size < 4) (h0 : (s[0].toNat : Int) = 92)
    (hq1 : ¬ (s[1].toNat : Int) = 100) (hq2 : ¬ (s[1].toNat : Int) = 122) (w : World) :
    Calls Tryz.prog 49 #[.string s] w fun e w' => e = ropE (one s.data.toList) ∧ Below w.heap.size w w' := by
  have e0 : s[0] = 92 := eq_byte (n := 92) h0
  have b0 : ((s[0].toNat : Int) != 92) = false := by simp [h0]
  obtain ⟨t, et⟩ := list_of_size (by omega) e0
  have hw := ref_ways t (no_start (n := 100) h1 et (by omega) hq1) (no_start (n := 122) h1 et (by omega) hq2)
  obtain ⟨L, hL⟩ : ∃ L, s.data.toList = L := ⟨_, rfl⟩
  have hLs : L.length = s.size := by rw [← hL]; rfl
  rw [← et, hL] at hw
  have HL := Lib.hid hL
  have HLS := Lib.hid hLs
  obtain ⟨w1, hw1⟩ : ∃ w1, w1 = w.alloc (.cells #[.int .i64 0, .string ⟨#[]⟩, .int .i64 0] 58 (0, 0)) := ⟨_, rfl⟩
  have HW1 := Lib.hid hw1
  obtain ⟨T2, hT2⟩ : ∃ T, T = s.data.toList.take 2 := ⟨_, rfl⟩
  have hcut2 : ∀ W, (Instr.sliceAt 9 (.string s) none (some (.int .i64 2)) none).run Tryz.prog W = .ok (.string ⟨T2.toArray⟩) W := fun W => by rw [hT2]; exact cut_first s 2 (by omega) W
  rw [hL] at hT2
  have HT2 := Lib.hid hT2
  have d1 : ((s[1].toNat : Int) == 100) = false := by simpa using hq1
  have d2 : ((s[1].toNat : Int) == 122) = false := by simpa using hq2
  have hW : Ways L := by
    rcases hw with ⟨n, _, _, h, _⟩ | ⟨_, h⟩
    · have := h.1; omega
    · exact h
  have q2 : (2 : Int) ≤ (s.size : Int) := by omega
  have q4 : ¬ (4 : Int) ≤ (s.size : Int) := by omega
  clear hw hT2 hq1 hq2
  clear e0 et hL hLs
  go_enter Tryz.func49, Tryz.ntmps49
  go_wp2_with fail
  rw [← hw1]
  clear hw1
  go_loopw [4] (fun i wr => i = .int .i64 1 ∧ wr = w1) (fun i _ => 1)
  case atStart => exact ⟨rfl, rfl⟩
  case round =>
    obtain ⟨rfl, rfl⟩ := hrel
    have B1 := Lib.hid (Below.refl wr.heap.size wr)
    rename World => w1
    go_wp2_with fail
    obtain ⟨N, hN0, hNn, hNe, hNm⟩ := ways_n hW
    have HN := Lib.hid hNn
    have HEND := Lib.hid hNe
    have HM := Lib.hid hNm
    clear hNn hNe hNm hW
    go_loopw [5] (fun i wr => ∃ k : Nat, k ≤ N ∧ i = .int .i64 k ∧ Below w1.heap.size w1 wr) (fun i _ => 256 - (intOf i).toNat)
    case atStart => exact ⟨0, Nat.zero_le _, rfl, B1.out⟩
    case round =>
      obtain ⟨k, hk, rfl, hB⟩ := hrel
      have HB := Lib.hid hB
      have hbs := hB.size
      have hbw : w1.heap.size ≤ wr.heap.size := hbs
      by_cases hk2 : k < 256
      · have kw : IntKind.u8.wrap (k : Int) = (k : Int) := IntWalk.u8_in _ (by omega)
        have q1 : (k : Int) < 256 := by omega
        have hcv := fun (W : World) => run_byte_string W (k : Int) 117 9 5 Tryz.underlying117 Tryz.underlying5 Tryz.underlying9
        have HX := Lib.hid (rhex_one k hk2)
        have HS := Lib.hid (rshow_one k hk2)
        have hl4 := (sgn_len k).2
        have hlx : (hexS k).length = 2 := rfl
        clear hB
        by_cases hN : k < N
        · obtain ⟨na, nb⟩ := HN.out k hN
          by_cases hl : (sgn k).length = 2
          · have nl : (T2 == sgn k) = false := by
              rw [beq_eq_false_iff_ne]
              exact fun e => nb ⟨hl, by rw [HLS.out]; omega, by rw [← HT2.out]; exact e⟩
            have b2 : (((sgn k).length : Int) == 2) = true := by simp [hl]
            clear na nb
            go_wp2_with (first
              | (go_at_call 64; refine (HX.out _).mono ?_; rintro e w5 ⟨rfl, rfl⟩)
              | (go_at_call 65; refine (HS.out _).mono ?_; rintro e w6 ⟨rfl, hb6⟩))
            go_roundw
            case rel => exact ⟨k + 1, by omega, by go_num, (HB.out.alloc hbs _).trans (hb6.mono (by simp; omega))⟩
            case measure => simp [intOf]; omega
          · have b2 : (((sgn k).length : Int) == 2) = false := by simp; omega
            clear na nb
            go_wp2_with (first
              | (go_at_call 64; refine (HX.out _).mono ?_; rintro e w5 ⟨rfl, rfl⟩)
              | (go_at_call 65; refine (HS.out _).mono ?_; rintro e w6 ⟨rfl, hb6⟩))
            go_roundw
            case rel => exact ⟨k + 1, by omega, by go_num, (HB.out.alloc hbs _).trans (hb6.mono (by simp; omega))⟩
            case measure => simp [intOf]; omega
        · obtain rfl : k = N := by omega
          rcases HM.out hk2 with ⟨h, _⟩ | ⟨ha, hb, he⟩
          · exfalso; have := h.1; rw [HLS.out] at this; omega
          · have nl : (T2 == sgn k) = true := by rw [beq_iff_eq, HT2.out]; exact hb.2.2
            have b2 : (((sgn k).length : Int) == 2) = true := by simp [hb.1]
            have HE := Lib.hid he
            clear he ha hb
            go_wp2_with (first
              | (go_at_call 64; refine (HX.out _).mono ?_; rintro e w5 ⟨rfl, rfl⟩)
              | (go_at_call 65; refine (HS.out _).mono ?_; rintro e w6 ⟨rfl, hb6⟩; have HB6 := Lib.hid ((HB.out.alloc hbs _).trans (hb6.mono (by simp; omega))); obtain ⟨c0, c1, c2⟩ := row3 (row_kept HW1.out HB6.out); obtain ⟨f0, f1, f2⟩ := frz3 (row_kept HW1.out HB6.out); have hlg := at_lt (row_kept HW1.out HB6.out)))
            refine bodyPost_ret (v := .tuple #[.agg #[.int .i64 1, .string ⟨#[(k : Int).toNat.toUInt8]⟩, .int .i64 0], .int .i64 2]) ?_ rfl ⟨by rw [HL.out, HE.out]; rfl, (((base_kept HW1.out HB6.out).setCell (p := ⟨_, _, _⟩) (Nat.le_refl _) _).setCell (p := ⟨_, _, _⟩) (Nat.le_refl _) _).setCell (p := ⟨_, _, _⟩) (Nat.le_refl _) _⟩
            simp [results, Tryz.results49, go_sem, *]
      · obtain rfl : N = 256 := by omega
        obtain rfl : k = 256 := by omega
        have HE := Lib.hid (HEND.out rfl)
        have hr := row_kept HW1.out hB
        obtain ⟨c0, c1, c2⟩ := row3 hr
        obtain ⟨f0, f1, f2⟩ := frz3 hr
        have hlg := at_lt hr
        clear hr hB
        go_wp2_with fail
        refine bodyPost_ret (v := .tuple #[.agg #[.int .i64 0, .string ⟨#[]⟩, .int .i64 0], .int .i64 0]) ?_ rfl ⟨by rw [HL.out, HE.out]; rfl, (((base_kept HW1.out HB.out).setCell (p := ⟨_, _, _⟩) (Nat.le_refl _) _).setCell (p := ⟨_, _, _⟩) (Nat.le_refl _) _).setCell (p := ⟨_, _, _⟩) (Nat.le_refl _) _⟩
        simp [results, Tryz.results49, go_sem, *]

set_option maxRecDepth 100000 in
set_option maxHeartbeats 8000000 in
theorem rone_long (s : ByteArray) (h1 : 2 ≤ s.size) (h4 : 4 ≤ s.size) (h0 : (s[0].toNat : Int) = 92)
    (hq1 : ¬ (s[1].toNat : Int) = 100) (hq2 : ¬ (s[1].toNat : Int) = 122) (w : World) :
    Calls Tryz.prog 49 #[.string s] w fun e w' => e = ropE (one s.data.toList) ∧ Below w.heap.size w w' := by
  have e0 : s[0] = 92 := eq_byte (n := 92) h0
  have b0 : ((s[0].toNat : Int) != 92) = false := by simp [h0]
  obtain ⟨t, et⟩ := list_of_size (by omega) e0
  have hw := ref_ways t (no_start (n := 100) h1 et (by omega) hq1) (no_start (n := 122) h1 et (by omega) hq2)
  obtain ⟨L, hL⟩ : ∃ L, s.data.toList = L := ⟨_, rfl⟩
  have hLs : L.length = s.size := by rw [← hL]; rfl
  rw [← et, hL] at hw
  have HL := Lib.hid hL
  have HLS := Lib.hid hLs
  obtain ⟨w1, hw1⟩ : ∃ w1, w1 = w.alloc (.cells #[.int .i64 0, .string ⟨#[]⟩, .int .i64 0] 58 (0, 0)) := ⟨_, rfl⟩
  have HW1 := Lib.hid hw1
  obtain ⟨T2, hT2⟩ : ∃ T, T = s.data.toList.take 2 := ⟨_, rfl⟩
  have hcut2 : ∀ W, (Instr.sliceAt 9 (.string s) none (some (.int .i64 2)) none).run Tryz.prog W = .ok (.string ⟨T2.toArray⟩) W := fun W => by rw [hT2]; exact cut_first s 2 (by omega) W
  rw [hL] at hT2
  have HT2 := Lib.hid hT2
  obtain ⟨T4, hT4⟩ : ∃ T, T = s.data.toList.take 4 := ⟨_, rfl⟩
  have hcut4 : ∀ W, (Instr.sliceAt 9 (.string s) none (some (.int .i64 4)) none).run Tryz.prog W = .ok (.string ⟨T4.toArray⟩) W := fun W => by rw [hT4]; exact cut_first s 4 (by omega) W
  rw [hL] at hT4
  have HT4 := Lib.hid hT4
  have d1 : ((s[1].toNat : Int) == 100) = false := by simpa using hq1
  have d2 : ((s[1].toNat : Int) == 122) = false := by simpa using hq2
  obtain ⟨M1, m1, m2, hMn, hMw, hMe⟩ := wait_n hw
  have HMN := Lib.hid hMn
  have HMW := Lib.hid hMw
  have HME := Lib.hid hMe
  have q2 : (2 : Int) ≤ (s.size : Int) := by omega
  have q4 : (4 : Int) ≤ (s.size : Int) := by omega
  clear hw hT2 hT4 hq1 hq2 hMn hMw hMe
  clear e0 et hL hLs
  go_enter Tryz.func49, Tryz.ntmps49
  go_wp2_with fail
  rw [← hw1]
  clear hw1
  go_loopw [4] (fun i wr => ∃ k : Nat, 1 ≤ k ∧ k ≤ M1 ∧ i = .int .i64 k ∧ Below w1.heap.size w1 wr) (fun i _ => 100 - (intOf i).toNat)
  case atStart => exact ⟨1, by omega, m1, rfl, Below.refl _ _⟩
  case round =>
    obtain ⟨k, k1, hk, rfl, hB⟩ := hrel
    rename World => wo
    by_cases hk2 : k < 100
    · have HP := Lib.hid (rpad_two k (by omega))
      have hlw : (two k).length = 2 := rfl
      have q1 : (k : Int) < 100 := by omega
      by_cases hN : k < M1
      · have nw : (T4 == 92 :: 119 :: two k) = false := by
          rw [beq_eq_false_iff_ne]
          exact fun e => HMN.out k k1 hN ⟨by rw [HLS.out]; omega, by rw [← HT4.out]; exact e⟩
        have nw2 : (T4 == ((⟨#[92, 119]⟩ : ByteArray) ++ ⟨(two k).toArray⟩).toList) = false := by rw [cat_list [92, 119]]; exact nw
        go_wp2_with fail
        go_quiet ((go_at_call 63; exact Calls.quiet_of_same (HP.out _)))
        go_wp2_with fail
        go_roundw
        case rel => exact ⟨k + 1, by omega, by omega, by go_num, below_drew hB⟩
        case measure => simp [intOf]; omega
      · have hkN : k = M1 := by omega
        subst hkN
        obtain ⟨hy, he⟩ := HMW.out hk2
        have nw : (T4 == 92 :: 119 :: two k) = true := by rw [beq_iff_eq, HT4.out]; exact hy.2
        have nw2 : (T4 == ((⟨#[92, 119]⟩ : ByteArray) ++ ⟨(two k).toArray⟩).toList) = true := by rw [cat_list [92, 119]]; exact nw
        have HE := Lib.hid he
        have hr := row_kept HW1.out hB
        obtain ⟨c0, c1, c2⟩ := row3 hr
        obtain ⟨f0, f1, f2⟩ := frz3 hr
        have hlg := at_lt hr
        clear hr hy he
        go_wp2_with fail
        go_quiet ((go_at_call 63; exact Calls.quiet_of_same (HP.out _)))
        go_wp2_with fail
        refine bodyPost_ret (v := .tuple #[.agg #[.int .i64 2, .string ⟨#[]⟩, .int .i64 k], .int .i64 4]) ?_ rfl ⟨by rw [HL.out, HE.out]; rfl, (((base_kept HW1.out (below_drew hB)).setCell (p := ⟨_, _, _⟩) (Nat.le_refl _) _).setCell (p := ⟨_, _, _⟩) (Nat.le_refl _) _).setCell (p := ⟨_, _, _⟩) (Nat.le_refl _) _⟩
        simp [results, Tryz.results49, go_sem, *]
    · have hkN : k = M1 := by omega
      subst hkN
      have hk100 : k = 100 := by omega
      have hW := HME.out hk100
      subst hk100
      have B1 := Lib.hid hB
      clear hB
      go_wp2_with fail
      obtain ⟨N, hN0, hNn, hNe, hNm⟩ := ways_n hW
      have HN := Lib.hid hNn
      have HEND := Lib.hid hNe
      have HM := Lib.hid hNm
      clear hNn hNe hNm hW
      go_loopw [5] (fun i wr => ∃ k : Nat, k ≤ N ∧ i = .int .i64 k ∧ Below w1.heap.size w1 wr) (fun i _ => 256 - (intOf i).toNat)
      case atStart => exact ⟨0, Nat.zero_le _, rfl, B1.out⟩
      case round =>
        obtain ⟨k, hk, rfl, hB⟩ := hrel
        have HB := Lib.hid hB
        have hbs := hB.size
        have hbw : w1.heap.size ≤ wr.heap.size := hbs
        by_cases hk2 : k < 256
        · have kw : IntKind.u8.wrap (k : Int) = (k : Int) := IntWalk.u8_in _ (by omega)
          have q1 : (k : Int) < 256 := by omega
          have hcv := fun (W : World) => run_byte_string W (k : Int) 117 9 5 Tryz.underlying117 Tryz.underlying5 Tryz.underlying9
          have HX := Lib.hid (rhex_one k hk2)
          have HS := Lib.hid (rshow_one k hk2)
          have hl4 := (sgn_len k).2
          have hlx : (hexS k).length = 2 := rfl
          clear hB
          by_cases hN : k < N
          · obtain ⟨na, nb⟩ := HN.out k hN
            have n4 : (T4 == 92 :: 120 :: hexS k) = false := by
              rw [beq_eq_false_iff_ne]
              exact fun e => na ⟨by rw [HLS.out]; omega, by rw [← HT4.out]; exact e⟩
            have n4' : (T4 == ((⟨#[92, 120]⟩ : ByteArray) ++ ⟨(hexS k).toArray⟩).toList) = false := by rw [cat_list [92, 120]]; exact n4
            by_cases hl : (sgn k).length = 2
            · have nl : (T2 == sgn k) = false := by
                rw [beq_eq_false_iff_ne]
                exact fun e => nb ⟨hl, by rw [HLS.out]; omega, by rw [← HT2.out]; exact e⟩
              have b2 : (((sgn k).length : Int) == 2) = true := by simp [hl]
              clear na nb
              go_wp2_with (first
                | (go_at_call 64; refine (HX.out _).mono ?_; rintro e w5 ⟨rfl, rfl⟩)
                | (go_at_call 65; refine (HS.out _).mono ?_; rintro e w6 ⟨rfl, hb6⟩))
              go_roundw
              case rel => exact ⟨k + 1, by omega, by go_num, (HB.out.alloc hbs _).trans (hb6.mono (by simp; omega))⟩
              case measure => simp [intOf]; omega
            · have b2 : (((sgn k).length : Int) == 2) = false := by simp; omega
              clear na nb
              go_wp2_with (first
                | (go_at_call 64; refine (HX.out _).mono ?_; rintro e w5 ⟨rfl, rfl⟩)
                | (go_at_call 65; refine (HS.out _).mono ?_; rintro e w6 ⟨rfl, hb6⟩))
              go_roundw
              case rel => exact ⟨k + 1, by omega, by go_num, (HB.out.alloc hbs _).trans (hb6.mono (by simp; omega))⟩
              case measure => simp [intOf]; omega
          · obtain rfl : k = N := by omega
            rcases HM.out hk2 with ⟨h, he⟩ | ⟨ha, hb, he⟩
            · have n4 : (T4 == 92 :: 120 :: hexS k) = true := by rw [beq_iff_eq, HT4.out]; exact h.2
              have n4' : (T4 == ((⟨#[92, 120]⟩ : ByteArray) ++ ⟨(hexS k).toArray⟩).toList) = true := by rw [cat_list [92, 120]]; exact n4
              have HE := Lib.hid he
              clear he h
              go_wp2_with (first
                | (go_at_call 64; refine (HX.out _).mono ?_; rintro e w5 ⟨rfl, rfl⟩)
                | (go_at_call 65; refine (HS.out _).mono ?_; rintro e w6 ⟨rfl, hb6⟩; have HB6 := Lib.hid ((HB.out.alloc hbs _).trans (hb6.mono (by simp; omega))); obtain ⟨c0, c1, c2⟩ := row3 (row_kept HW1.out HB6.out); obtain ⟨f0, f1, f2⟩ := frz3 (row_kept HW1.out HB6.out); have hlg := at_lt (row_kept HW1.out HB6.out)))
              refine bodyPost_ret (v := .tuple #[.agg #[.int .i64 1, .string ⟨#[(k : Int).toNat.toUInt8]⟩, .int .i64 0], .int .i64 4]) ?_ rfl ⟨by rw [HL.out, HE.out]; rfl, (((base_kept HW1.out HB6.out).setCell (p := ⟨_, _, _⟩) (Nat.le_refl _) _).setCell (p := ⟨_, _, _⟩) (Nat.le_refl _) _).setCell (p := ⟨_, _, _⟩) (Nat.le_refl _) _⟩
              simp [results, Tryz.results49, go_sem, *]
            · have n4 : (T4 == 92 :: 120 :: hexS k) = false := by
                rw [beq_eq_false_iff_ne]
                exact fun e => ha ⟨by rw [HLS.out]; omega, by rw [← HT4.out]; exact e⟩
              have n4' : (T4 == ((⟨#[92, 120]⟩ : ByteArray) ++ ⟨(hexS k).toArray⟩).toList) = false := by rw [cat_list [92, 120]]; exact n4
              have nl : (T2 == sgn k) = true := by rw [beq_iff_eq, HT2.out]; exact hb.2.2
              have b2 : (((sgn k).length : Int) == 2) = true := by simp [hb.1]
              have HE := Lib.hid he
              clear he ha hb
              go_wp2_with (first
                | (go_at_call 64; refine (HX.out _).mono ?_; rintro e w5 ⟨rfl, rfl⟩)
                | (go_at_call 65; refine (HS.out _).mono ?_; rintro e w6 ⟨rfl, hb6⟩; have HB6 := Lib.hid ((HB.out.alloc hbs _).trans (hb6.mono (by simp; omega))); obtain ⟨c0, c1, c2⟩ := row3 (row_kept HW1.out HB6.out); obtain ⟨f0, f1, f2⟩ := frz3 (row_kept HW1.out HB6.out); have hlg := at_lt (row_kept HW1.out HB6.out)))
              refine bodyPost_ret (v := .tuple #[.agg #[.int .i64 1, .string ⟨#[(k : Int).toNat.toUInt8]⟩, .int .i64 0], .int .i64 2]) ?_ rfl ⟨by rw [HL.out, HE.out]; rfl, (((base_kept HW1.out HB6.out).setCell (p := ⟨_, _, _⟩) (Nat.le_refl _) _).setCell (p := ⟨_, _, _⟩) (Nat.le_refl _) _).setCell (p := ⟨_, _, _⟩) (Nat.le_refl _) _⟩
              simp [results, Tryz.results49, go_sem, *]
        · obtain rfl : N = 256 := by omega
          obtain rfl : k = 256 := by omega
          have HE := Lib.hid (HEND.out rfl)
          have hr := row_kept HW1.out hB
          obtain ⟨c0, c1, c2⟩ := row3 hr
          obtain ⟨f0, f1, f2⟩ := frz3 hr
          have hlg := at_lt hr
          clear hr hB
          go_wp2_with fail
          refine bodyPost_ret (v := .tuple #[.agg #[.int .i64 0, .string ⟨#[]⟩, .int .i64 0], .int .i64 0]) ?_ rfl ⟨by rw [HL.out, HE.out]; rfl, (((base_kept HW1.out HB.out).setCell (p := ⟨_, _, _⟩) (Nat.le_refl _) _).setCell (p := ⟨_, _, _⟩) (Nat.le_refl _) _).setCell (p := ⟨_, _, _⟩) (Nat.le_refl _) _⟩
          simp [results, Tryz.results49, go_sem, *]
theorem rone_calls (s : ByteArray) (h1 : 0 < s.size) (w : World) :
    Calls Tryz.prog 49 #[.string s] w fun e w' => e = ropE (one s.data.toList) ∧ Below w.heap.size w w' := by
  by_cases h0 : (s[0].toNat : Int) = 92
  · by_cases h2 : 2 ≤ s.size
    · by_cases hq1 : (s[1].toNat : Int) = 100
      · exact rone_quick s h2 h0 (.inl hq1) w
      by_cases hq2 : (s[1].toNat : Int) = 122
      · exact rone_quick s h2 h0 (.inr hq2) w
      by_cases h4 : 4 ≤ s.size
      · exact rone_long s h2 h4 h0 hq1 hq2 w
      · exact rone_mid s h2 (by omega) h0 hq1 hq2 w
    · exact rone_short s (by omega) h0 w
  · exact rone_plain s h1 h0 w
end Go.Proofs.YtnkhdpenmekhdaaGreat.Brk
end

section
namespace Go.Proofs.YtnkhdpenmekhdaaGreat.Brk
open Go.RowKit Go.Proofs.YtnkhdpenmekhdaaGreat.Digit Go.Proofs.YtnkhdpenmekhdaaGreat.Own

theorem st_k {x : Op} (h : St x) : x.k = 1 ∨ x.k = 2 ∨ x.k = 3 := by
  rcases h with ⟨c, rfl⟩ | ⟨n, _, _, rfl⟩ | rfl
  · exact .inl rfl
  · exact .inr (.inl rfl)
  · exact .inr (.inr rfl)
/-- the row of ops as it stands behind one more -/
theorem mine_glue {w : World} {B g c n : Nat} {L : List Op} {y x : Op} (h : w.ownsRow B 58 3 (.slice (some ⟨g, 0, none⟩) n c) n (ov (L ++ [y]))) (hn : n = (L ++ [y]).length) (hk : y.k = x.k) :
    Mine (((w.setCell ⟨g, L.length * 3, none⟩ (.int .i64 x.k)).setCell ⟨g, L.length * 3 + 1, none⟩ (.string ⟨(y.s ++ x.s).toArray⟩)).setCell ⟨g, L.length * 3 + 2, none⟩ (.int .i64 (y.n + x.n))) B (.slice (some ⟨g, 0, none⟩) n c) (L ++ [glue y x]) := by
  have s0 := (World.ownsRow.stored h (L.length * 3) (.int .i64 x.k)).1
  rw [ov_set0 L y x.k] at s0
  have s1 := (World.ownsRow.stored s0 (L.length * 3 + 1) (.string ⟨(y.s ++ x.s).toArray⟩)).1
  rw [ov_set1 L ⟨x.k, y.s, y.n⟩ (y.s ++ x.s)] at s1
  have s2 := (World.ownsRow.stored s1 (L.length * 3 + 2) (.int .i64 (y.n + x.n))).1
  rw [ov_set2 L ⟨x.k, y.s ++ x.s, y.n⟩ (y.n + x.n)] at s2
  unfold Mine
  rw [show (L ++ [glue y x]).length = n by rw [hn]; simp]
  rw [show glue y x = ⟨x.k, y.s ++ x.s, y.n + x.n⟩ by rw [glue, hk]]
  exact s2

theorem own_len {w : World} {B n : Nat} {v : Value} {M : List Op} (h : Mine w B v M) (hn : n = M.length) : w.ownsRow B 58 3 v n (ov M) := by rw [hn]; exact h
theorem own_at {w : World} {B g c n q : Nat} {L : List Op} {y : Op} (h : w.ownsRow B 58 3 (.slice (some ⟨g, 0, none⟩) n c) n (ov (L ++ [y]))) (hq : L.length = q) (hn : n = q + 1) :
    w.cell? ⟨g, q * 3, none⟩ = some (.int .i64 y.k) ∧ w.cell? ⟨g, q * 3 + 1, none⟩ = some (.string ⟨y.s.toArray⟩) ∧ w.cell? ⟨g, q * 3 + 2, none⟩ = some (.int .i64 y.n) ∧
      w.frozen? ⟨g, q * 3, none⟩ = false ∧ w.frozen? ⟨g, q * 3 + 1, none⟩ = false ∧ w.frozen? ⟨g, q * 3 + 2, none⟩ = false := by
  obtain ⟨e0, e1, e2⟩ := ov_last L y
  rw [hq] at e0 e1 e2
  exact ⟨(World.ownsRow.cellAt h _ (by omega)).trans e0, (World.ownsRow.cellAt h _ (by omega)).trans e1, (World.ownsRow.cellAt h _ (by omega)).trans e2,
    World.ownsRow.frozenAt h _, World.ownsRow.frozenAt h _, World.ownsRow.frozenAt h _⟩
theorem RdAt.drew {S : List UInt8} {w wr : World} {acc : List Op} {m : List UInt8} {c : Nat} {v : Value} (h : RdAt S w wr acc m c v) : RdAt S w wr.drew acc m c v :=
  ⟨h.own, h.below.drew, h.bd, h.len, h.fit, h.left⟩

set_option maxRecDepth 100000 in
set_option maxHeartbeats 8000000 in
theorem rread_calls (s : List UInt8) (hs : s.length ≤ 1099511627776) (w : World) :
    Calls Tryz.prog 25 #[.string ⟨s.toArray⟩] w (RPost s w) := by
  obtain ⟨i0, hi, hz0, hz1, hz2⟩ := info_parts info_op
  by_cases hbig : 255 < s.length
  · obtain ⟨e1, e2⟩ := r_big hbig
    have H := Lib.hid (And.intro e1 e2)
    have q : (255 : Int) < (s.length : Int) := by omega
    clear e1 e2 hbig
    go_enter Tryz.func25, Tryz.ntmps25
    go_wp2_with fail
    go_ret2
    exact ⟨_, by rw [H.out.1]; rfl, by rw [H.out.2]; exact mine_nil _ _, Below.refl _ _⟩
  · have q : ¬ (255 : Int) < (s.length : Int) := by omega
    have hs2 : s.length ≤ 255 := by omega
    clear hbig
    go_enter Tryz.func25, Tryz.ntmps25
    go_wp2_with fail
    go_loopw [0, 4] (fun s' v wr => ∃ (m : List UInt8) (acc : List Op) (c : Nat), s' = .string ⟨m.toArray⟩ ∧ RdAt s w wr acc m c v) (fun s' _ _ => lenOf s')
    case atStart => exact ⟨s, [], 0, rfl, mine_nil _ _, Below.refl _ _, Bd.nil, by omega, hs2, rfl⟩
    case round =>
      obtain ⟨m, acc, c, rfl, C⟩ := hrel
      by_cases h0 : m = []
      · subst h0
        have HC := Lib.hid C
        clear C
        go_wp2_with fail
        go_ret2
        exact HC.out.done
      · have hem : m.isEmpty = false := by simpa using h0
        have hpos : 0 < m.length := List.length_pos_iff.2 h0
        have hml : m.length ≤ 255 := by have := C.len; have := C.fit; omega
        have hz : (⟨m.toArray⟩ : ByteArray).size = m.length := List.size_toArray ..
        have HF := Lib.hid (rone_calls ⟨m.toArray⟩ (by omega))
        rw [show (⟨m.toArray⟩ : ByteArray).data.toList = m from rfl] at HF
        have HM := Lib.hid h0
        have HC := Lib.hid C
        have hbs := C.below.size
        clear hz h0 C
        obtain ⟨r, hr⟩ : ∃ r, one m = r := ⟨_, rfl⟩
        rw [hr] at HF
        obtain ⟨x, k⟩ := r
        have HR := Lib.hid hr
        unfold ropE at HF
        simp only at HF
        clear hr
        by_cases hk : k = 0
        · subst hk
          go_wp2_with (go_at_call 49; refine (HF.out _).mono ?_; rintro e w5 ⟨rfl, hb⟩)
          go_ret2
          exact HC.out.bad HM.out (by rw [HR.out]) ((HC.out.below.trans (hb.mono hbs)).alloc (Nat.le_trans hbs hb.size) _)
        · obtain ⟨s1, s2, s3⟩ := one_yes (l := m) (by rw [HR.out]; exact hk)
          rw [HR.out] at s1 s2 s3
          simp only at s1 s2 s3
          have hk0 : ((k : Int) == 0) = false := by simpa using hk
          have hcut := cut_drop m k s3
          have hxk := st_k s1
          have HS := Lib.hid s1
          have HK := Lib.hid hk
          clear s1 hk
          obtain ⟨xk, xs, xn⟩ := x
          simp only at hxk
          rcases snoc_cases acc with rfl | ⟨L, y, rfl⟩
          · obtain ⟨p, pc, hpv, hpc, hpm⟩ := mine_form HC.out.own
            rw [show ([] : List Op).length = 0 from rfl] at hpv hpc
            subst hpv
            unfold maxLen at hpm
            have OWN := Lib.hid HC.out.own
            go_wp2_with fail
            refine (HF.out _).mono ?_
            rintro e w5 ⟨rfl, hb5⟩
            have hn0 := at_new w5 (.cells #[.int .i64 xk, .string ⟨xs.toArray⟩, .int .i64 xn] 58 (0, 0))
            have HOW := Lib.hid (World.ownsRow.alloc (own_below OWN.out hb5) (.cells #[.int .i64 xk, .string ⟨xs.toArray⟩, .int .i64 xn] 58 (0, 0)))
            have HWR := Lib.hid ((hb5.mono hbs).alloc (Nat.le_trans hbs hb5.size) (.cells #[.int .i64 xk, .string ⟨xs.toArray⟩, .int .i64 xn] 58 (0, 0)))
            have hs5 := hb5.size
            clear hb5
            go_wp2_with fail
            generalize w5.alloc (.cells #[.int .i64 xk, .string ⟨xs.toArray⟩, .int .i64 xn] 58 (0, 0)) = W at *
            generalize w5.heap.size = b at *
            obtain ⟨d0, d1, d2⟩ := row3 hn0
            have lb := at_lt hn0
            have HN0 := Lib.hid hn0
            have hsW := HWR.out.size
            have hBW : w.heap.size ≤ W.heap.size := by omega
            clear hn0
            go_quiet (fail)
            have HOQ := Lib.hid (show (W.drewN nq).ownsRow w.heap.size 58 3 (.slice p 0 pc) 0 (ov []) from HOW.out)
            have HWQ := Lib.hid (show Below w.heap.size wr (W.drewN nq) from below_drew HWR.out)
            have hQ : w.heap.size ≤ (W.drewN nq).heap.size := hBW
            have hd : (W.drewN nq).heap[b]? = some (.cells #[.int .i64 xk, .string ⟨xs.toArray⟩, .int .i64 xn] 58 (0, 0)) := HN0.out
            clear d0 d1 d2 lb HOW HWR HN0 hBW hsW
            generalize W.drewN nq = Q at HOQ HWQ hQ hd ⊢
            obtain ⟨d0, d1, d2⟩ := row3 hd
            have lb := at_lt hd
            clear hd
            go_wp2_with (at_builtin; refine Own.append_any rfl (.tmp 65) (.tmp 67) 30 rfl w.heap.size 58 i0 _ 3 32 Tryz.underlying30 hi hz0 hz1 hz2 rfl (by decide) _ _ _ rfl (World.ownsRow.alloc HOQ.out _) _ 1 1 [.int .i64 xk, .string ⟨xs.toArray⟩, .int .i64 xn] rfl (fun h => nomatch h) rfl (Own.three_new _ _ _ _ _ _ (by simp)) (by simp [Value.oneCell']) (by unfold maxLen; omega) (by omega) (by simp; omega) ?_; intro v' w1 hown1 hgrow1)
            have M1 := mine_more (x := ⟨xk, xs, xn⟩) hown1 rfl
            have C1 := Lib.hid (HC.out.step (by rw [HR.out]; exact HK.out) (v' := v') (w5 := w1) (by rw [HR.out]; rw [bhd_nil]; exact M1) ((HWQ.out.alloc hQ _).grown hgrow1 (by simp; omega) (fun k hk => (World.ownsRow.lt HOQ.out k hk).1)))
            rw [HR.out] at C1
            clear M1 hown1 hgrow1
            go_wp2_with fail
            go_roundw
            case rel => exact ⟨_, _, _, rfl, C1.out⟩
            case measure => show (m.drop k).toArray.size < m.toArray.size; rw [List.size_toArray, List.size_toArray, List.length_drop]; omega
          · have hbd := bd_each HC.out.bd (by have := HC.out.len; have := HC.out.fit; omega) y (by simp)
            have hLl : L.length ≤ 255 := by have h9 := HC.out.bd.len; have := HC.out.len; have := HC.out.fit; rw [List.length_append, List.length_singleton] at h9; omega
            obtain ⟨g, pc, hpv, hgB, hgl, hpc, hpm, a0, a1, a2, -, -, -⟩ := mine_last HC.out.own
            obtain ⟨q0, hmm⟩ : ∃ q0, L.length = q0 := ⟨_, rfl⟩
            rw [hmm] at hLl hpc a0 a1 a2 hpv
            obtain ⟨n, hnn⟩ : ∃ n, n = q0 + 1 := ⟨_, rfl⟩
            rw [← hnn] at hpc hpv
            subst hpv
            unfold maxLen at hpm
            have u1 : q0 < n := by omega
            have u2 : n ≤ 256 := by omega
            have u3 : ((n : Int) - 1) = (q0 : Int) := by omega
            have u4 : decide ((0 : Int) ≤ (q0 : Int)) = true := decide_eq_true (by omega)
            have u5 : (0 : Int) ≤ (q0 : Int) := by omega
            have HLN := Lib.hid (show n = (L ++ [y]).length by rw [List.length_append, List.length_singleton]; omega)
            have HLQ := Lib.hid hmm
            obtain ⟨yk, ys, yn⟩ := y
            simp only at a0 a1 a2 hbd
            obtain ⟨hys, hyn0, hyn1⟩ := hbd
            have hxs := HS.out.cst
            have hxp := HS.out.ok.pos
            simp only at hxs hxp
            clear hmm hnn
            have OWN := Lib.hid (own_len HC.out.own HLN.out)
            go_wp2_with fail
            refine (HF.out _).mono ?_
            rintro e w5 ⟨rfl, hb5⟩
            have hn0 := at_new w5 (.cells #[.int .i64 xk, .string ⟨xs.toArray⟩, .int .i64 xn] 58 (0, 0))
            have HOW := Lib.hid (World.ownsRow.alloc (own_below OWN.out hb5) (.cells #[.int .i64 xk, .string ⟨xs.toArray⟩, .int .i64 xn] 58 (0, 0)))
            have HWR := Lib.hid ((hb5.mono hbs).alloc (Nat.le_trans hbs hb5.size) (.cells #[.int .i64 xk, .string ⟨xs.toArray⟩, .int .i64 xn] 58 (0, 0)))
            have hs5 := hb5.size
            clear hb5
            go_wp2_with fail
            generalize w5.alloc (.cells #[.int .i64 xk, .string ⟨xs.toArray⟩, .int .i64 xn] 58 (0, 0)) = W at *
            generalize w5.heap.size = b at *
            obtain ⟨d0, d1, d2⟩ := row3 hn0
            have lb := at_lt hn0
            have HN0 := Lib.hid hn0
            have hsW := HWR.out.size
            have hBW : w.heap.size ≤ W.heap.size := by omega
            clear hn0
            obtain ⟨c0, c1, c2, f0, f1, f2⟩ := own_at HOW.out HLQ.out (by rw [HLN.out, List.length_append, List.length_singleton, HLQ.out])
            clear a0 a1 a2
            by_cases h3 : xk = 3
            · have v1 : decide (xk < 3) = false := decide_eq_false (by omega)
              have v2 : ¬ xk < 3 := by omega
              have HI := Lib.hid (show isOne ⟨yk, ys, yn⟩ ⟨xk, xs, xn⟩ = false by simp only [isOne]; rw [h3]; by_cases e : yk = 3 <;> simp [e])
              clear h3 hxk
              go_quiet (fail)
              have HOQ := Lib.hid (show (W.drewN nq).ownsRow w.heap.size 58 3 (.slice (some ⟨g, 0, none⟩) n pc) n (ov (L ++ [⟨yk, ys, yn⟩])) from HOW.out)
              have HWQ := Lib.hid (show Below w.heap.size wr (W.drewN nq) from below_drew HWR.out)
              have hQ : w.heap.size ≤ (W.drewN nq).heap.size := hBW
              have hd : (W.drewN nq).heap[b]? = some (.cells #[.int .i64 xk, .string ⟨xs.toArray⟩, .int .i64 xn] 58 (0, 0)) := HN0.out
              clear d0 d1 d2 lb HOW HWR HN0 hBW hsW c0 c1 c2 f0 f1 f2
              generalize W.drewN nq = Q at HOQ HWQ hQ hd ⊢
              obtain ⟨d0, d1, d2⟩ := row3 hd
              have lb := at_lt hd
              clear hd
              go_wp2_with (at_builtin; refine Own.append_any rfl (.tmp 65) (.tmp 67) 30 rfl w.heap.size 58 i0 _ 3 32 Tryz.underlying30 hi hz0 hz1 hz2 rfl (by decide) _ _ _ rfl (World.ownsRow.alloc HOQ.out _) _ 1 1 [.int .i64 xk, .string ⟨xs.toArray⟩, .int .i64 xn] rfl (fun h => nomatch h) rfl (Own.three_new _ _ _ _ _ _ (by simp)) (by simp [Value.oneCell']) (by unfold maxLen; omega) (by omega) (by simp; omega) ?_; intro v' w1 hown1 hgrow1)
              have M1 := mine_more (x := ⟨xk, xs, xn⟩) hown1 HLN.out
              have C1 := Lib.hid (HC.out.step (by rw [HR.out]; exact HK.out) (v' := v') (w5 := w1) (by rw [HR.out]; rw [bhd_two HI.out]; exact M1) ((HWQ.out.alloc hQ _).grown hgrow1 (by simp; omega) (fun k hk => (World.ownsRow.lt HOQ.out k hk).1)))
              rw [HR.out] at C1
              clear M1 hown1 hgrow1
              go_wp2_with fail
              go_roundw
              case rel => exact ⟨_, _, _, rfl, C1.out⟩
              case measure => show (m.drop k).toArray.size < m.toArray.size; rw [List.size_toArray, List.size_toArray, List.length_drop]; omega
            · have v1 : decide (xk < 3) = true := decide_eq_true (by omega)
              have v2 : xk < 3 := by omega
              by_cases he : yk = xk
              · have v3 : (yk == xk) = true := by simpa using he
                have HI := Lib.hid (show isOne ⟨yk, ys, yn⟩ ⟨xk, xs, xn⟩ = true by simp only [isOne]; simp [he, h3])
                have HE := Lib.hid he
                clear h3 hxk he
                go_quiet (fail)
                have HOQ := Lib.hid (show (W.drewN nq).ownsRow w.heap.size 58 3 (.slice (some ⟨g, 0, none⟩) n pc) n (ov (L ++ [⟨yk, ys, yn⟩])) from HOW.out)
                have HWQ := Lib.hid (show Below w.heap.size wr (W.drewN nq) from below_drew HWR.out)
                have hd : (W.drewN nq).heap[b]? = some (.cells #[.int .i64 xk, .string ⟨xs.toArray⟩, .int .i64 xn] 58 (0, 0)) := HN0.out
                clear d0 d1 d2 lb HOW HWR HN0 hBW hsW c0 c1 c2 f0 f1 f2
                generalize W.drewN nq = Q at HOQ HWQ hd ⊢
                obtain ⟨d0, d1, d2⟩ := row3 hd
                have lb := at_lt hd
                obtain ⟨c0, c1, c2, f0, f1, f2⟩ := own_at HOQ.out HLQ.out (by rw [HLN.out, List.length_append, List.length_singleton, HLQ.out])
                have hgQ := World.block_lt_of_cell? _ _ c0
                clear hd
                have hyx : ys.length + xs.length ≤ 1000 := by omega
                go_wp2_with fail
                go_region
                go_wp2_with fail
                have M1 := mine_glue (x := ⟨xk, xs, xn⟩) HOQ.out HLN.out HE.out
                rw [HLQ.out] at M1
                have C1 := Lib.hid (HC.out.step (by rw [HR.out]; exact HK.out) (by rw [HR.out]; rw [bhd_one HI.out]; exact M1) (((HWQ.out.setCell (p := ⟨_, _, _⟩) hgB _).setCell (p := ⟨_, _, _⟩) hgB _).setCell (p := ⟨_, _, _⟩) hgB _))
                rw [HR.out] at C1
                clear M1
                go_roundw
                case rel => exact ⟨_, _, _, rfl, by rw [bytes_add]; exact C1.out.drew⟩
                case measure => show (m.drop k).toArray.size < m.toArray.size; rw [List.size_toArray, List.size_toArray, List.length_drop]; omega
              · have v3 : (yk == xk) = false := by simpa using he
                have HI := Lib.hid (show isOne ⟨yk, ys, yn⟩ ⟨xk, xs, xn⟩ = false by simp only [isOne]; simp [he])
                clear h3 hxk he
                go_quiet (fail)
                have HOQ := Lib.hid (show (W.drewN nq).ownsRow w.heap.size 58 3 (.slice (some ⟨g, 0, none⟩) n pc) n (ov (L ++ [⟨yk, ys, yn⟩])) from HOW.out)
                have HWQ := Lib.hid (show Below w.heap.size wr (W.drewN nq) from below_drew HWR.out)
                have hQ : w.heap.size ≤ (W.drewN nq).heap.size := hBW
                have hd : (W.drewN nq).heap[b]? = some (.cells #[.int .i64 xk, .string ⟨xs.toArray⟩, .int .i64 xn] 58 (0, 0)) := HN0.out
                clear d0 d1 d2 lb HOW HWR HN0 hBW hsW c0 c1 c2 f0 f1 f2
                generalize W.drewN nq = Q at HOQ HWQ hQ hd ⊢
                obtain ⟨d0, d1, d2⟩ := row3 hd
                have lb := at_lt hd
                clear hd
                go_wp2_with (at_builtin; refine Own.append_any rfl (.tmp 65) (.tmp 67) 30 rfl w.heap.size 58 i0 _ 3 32 Tryz.underlying30 hi hz0 hz1 hz2 rfl (by decide) _ _ _ rfl (World.ownsRow.alloc HOQ.out _) _ 1 1 [.int .i64 xk, .string ⟨xs.toArray⟩, .int .i64 xn] rfl (fun h => nomatch h) rfl (Own.three_new _ _ _ _ _ _ (by simp)) (by simp [Value.oneCell']) (by unfold maxLen; omega) (by omega) (by simp; omega) ?_; intro v' w1 hown1 hgrow1)
                have M1 := mine_more (x := ⟨xk, xs, xn⟩) hown1 HLN.out
                have C1 := Lib.hid (HC.out.step (by rw [HR.out]; exact HK.out) (v' := v') (w5 := w1) (by rw [HR.out]; rw [bhd_two HI.out]; exact M1) ((HWQ.out.alloc hQ _).grown hgrow1 (by simp; omega) (fun k hk => (World.ownsRow.lt HOQ.out k hk).1)))
                rw [HR.out] at C1
                clear M1 hown1 hgrow1
                go_wp2_with fail
                go_roundw
                case rel => exact ⟨_, _, _, rfl, C1.out⟩
                case measure => show (m.drop k).toArray.size < m.toArray.size; rw [List.size_toArray, List.size_toArray, List.length_drop]; omega
end Go.Proofs.YtnkhdpenmekhdaaGreat.Brk
end

section
namespace Go.Proofs.YtnkhdpenmekhdaaGreat.Lin
open Go.RowKit Go.Proofs.YtnkhdpenmekhdaaGreat.Own Go.Proofs.YtnkhdpenmekhdaaGreat.Brk Go.Proofs.YtnkhdpenmekhdaaGreat.Calc Go.Proofs.YtnkhdpenmekhdaaGreat.Tree Go.Proofs.YtnkhdpenmekhdaaGreat.Run Go.Proofs.YtnkhdpenmekhdaaGreat.Bkf

/-- what the document's New answers -/
def NewR (b c j : Int) (s : List UInt8) (w : World) (e : Ending) (w' : World) : Prop :=
  ∃ z0 z1 z2 z3 z4 z5 zp6 zl6 zk6 zp7 zl7 zk7 z8 z9 z10, e = .returned (.tuple #[.agg #[.int .i64 z0, .int .i64 z1, .int .i64 z2, .int .i64 z3, .int .i64 z4, .int .i64 z5, .slice zp6 zl6 zk6, .slice zp7 zl7 zk7, .int .i64 z8, .int .i64 z9, .string z10], .int .i64 (newC b c j s)]) ∧ Below w.heap.size w w' ∧ (newC b c j s = 0 → ∀ S : Nat → Prop, (∀ i, S i → i < w.heap.size) → Rf (fun L p c => ∀ V, Out S w' V → Ops V L p c) (mk b c j (rV s)) (.agg #[.int .i64 z0, .int .i64 z1, .int .i64 z2, .int .i64 z3, .int .i64 z4, .int .i64 z5, .slice zp6 zl6 zk6, .slice zp7 zl7 zk7, .int .i64 z8, .int .i64 z9, .string z10]))
set_option maxRecDepth 100000 in
set_option maxHeartbeats 4000000 in
theorem rnew_line (v0 v1 v2 v3 v4 v5 : Value) (b c j : Int) (s : List UInt8) (hs : s.length ≤ 1099511627776) (w : World) :
    Calls Tryz.prog 6 #[conV v0 v1 v2 v3 v4 v5 b c j s] w (NewR b c j s w) := by
  unfold conV
  have HX := Lib.hid (at_old _ (.cells #[.int .i64 0, .int .i64 0, .int .i64 0, .int .i64 0, .int .i64 0, .int .i64 0, .slice none 0 0, .slice none 0 0, .int .i64 0, .int .i64 0, .string ⟨#[]⟩] 32 (0, 0)) (at_new w (.cells #[v0, v1, v2, v3, v4, v5, .int .i64 b, .int .i64 c, .int .i64 j, .string ⟨s.toArray⟩] 23 (0, 0))))
  have HZ := Lib.hid (at_newk (w.alloc (.cells #[v0, v1, v2, v3, v4, v5, .int .i64 b, .int .i64 c, .int .i64 j, .string ⟨s.toArray⟩] 23 (0, 0))) (.cells #[.int .i64 0, .int .i64 0, .int .i64 0, .int .i64 0, .int .i64 0, .int .i64 0, .slice none 0 0, .slice none 0 0, .int .i64 0, .int .i64 0, .string ⟨#[]⟩] 32 (0, 0)) (k := w.heap.size + 1) (by simp))
  have HA := Lib.hid (((Below.refl w.heap.size w).alloc (Nat.le_refl _) (.cells #[v0, v1, v2, v3, v4, v5, .int .i64 b, .int .i64 c, .int .i64 j, .string ⟨s.toArray⟩] 23 (0, 0))).alloc (by simp) (.cells #[.int .i64 0, .int .i64 0, .int .i64 0, .int .i64 0, .int .i64 0, .int .i64 0, .slice none 0 0, .slice none 0 0, .int .i64 0, .int .i64 0, .string ⟨#[]⟩] 32 (0, 0)))
  by_cases hok : okR b c j
  · have HCO : Hid (newC b c j s = rC s) := Lib.hid (by unfold newC; rw [if_pos hok])
    have HOK := Lib.hid hok
    have hk := chk_ok hok
    clear hok
    go_enter Tryz.func6, Tryz.ntmps6
    go_wp2_with fail
    refine (rcheck_calls b c j _).mono ?_
    rintro e w1 ⟨rfl, rfl⟩
    rw [hk]
    go_wp2_with fail
    refine (rread_calls s hs _).mono ?_
    rintro e w2 ⟨v, rfl, hM, hB2⟩
    have HM := Lib.hid hM
    have HB2 := Lib.hid hB2
    have hX2 := (hB2.block _ (at_lt HX.out)).trans HX.out
    have hZ2 := (hB2.block _ (at_lt HZ.out)).trans HZ.out
    have b6 : w2.cell? ⟨w.heap.size, 6, none⟩ = some (.int .i64 b) := at_cell hX2 6
    have b7 : w2.cell? ⟨w.heap.size, 7, none⟩ = some (.int .i64 c) := at_cell hX2 7
    have b8 : w2.cell? ⟨w.heap.size, 8, none⟩ = some (.int .i64 j) := at_cell hX2 8
    obtain ⟨m0, m1, m2, m3, m4, m5, m6, m7, m8, m9, m10⟩ := row11 hZ2
    obtain ⟨f0, f1, f2, f3, f4, f5, f6, f7, f8, f9, f10⟩ := frz11 hZ2
    have HZ2 := Lib.hid hZ2
    clear hX2 hZ2 hB2
    obtain ⟨cd, hcd⟩ : ∃ cd, rC s = cd := ⟨_, rfl⟩
    rw [hcd]
    have HCD := Lib.hid hcd
    clear hcd hk
    by_cases h0 : cd = 0
    · subst h0
      obtain ⟨p, cp, rfl, _⟩ := hM.ops
      obtain ⟨n, hn⟩ : ∃ n, (rV s).length = n := ⟨_, rfl⟩
      rw [hn] at HM ⊢
      have HN := Lib.hid hn
      clear hM hn
      go_wp2_with fail
      have hOUT : Out (fun i => i = w.heap.size + 1) w2 (((((((((((w2.setCell ⟨w.heap.size + 1, 0, none⟩ (.int .i64 b)).setCell ⟨w.heap.size + 1, 1, none⟩ (.int .i64 c)).setCell ⟨w.heap.size + 1, 2, none⟩ (.int .i64 j)).setCell ⟨w.heap.size + 1, 3, none⟩ (.int .i64 0)).setCell ⟨w.heap.size + 1, 4, none⟩ (.int .i64 0)).setCell ⟨w.heap.size + 1, 5, none⟩ (.int .i64 0)).setCell ⟨w.heap.size + 1, 6, none⟩ (.slice p n cp)).setCell ⟨w.heap.size + 1, 7, none⟩ (.slice none 0 0)).setCell ⟨w.heap.size + 1, 8, none⟩ (.int .i64 0)).setCell ⟨w.heap.size + 1, 9, none⟩ (.int .i64 0)).setCell ⟨w.heap.size + 1, 10, none⟩ (.string ⟨#[]⟩)) := out11 _ _ _ _ _ _ _ _ _ _ _ _ _
      have hROW : (((((((((((w2.setCell ⟨w.heap.size + 1, 0, none⟩ (.int .i64 b)).setCell ⟨w.heap.size + 1, 1, none⟩ (.int .i64 c)).setCell ⟨w.heap.size + 1, 2, none⟩ (.int .i64 j)).setCell ⟨w.heap.size + 1, 3, none⟩ (.int .i64 0)).setCell ⟨w.heap.size + 1, 4, none⟩ (.int .i64 0)).setCell ⟨w.heap.size + 1, 5, none⟩ (.int .i64 0)).setCell ⟨w.heap.size + 1, 6, none⟩ (.slice p n cp)).setCell ⟨w.heap.size + 1, 7, none⟩ (.slice none 0 0)).setCell ⟨w.heap.size + 1, 8, none⟩ (.int .i64 0)).setCell ⟨w.heap.size + 1, 9, none⟩ (.int .i64 0)).setCell ⟨w.heap.size + 1, 10, none⟩ (.string ⟨#[]⟩)).heap[w.heap.size + 1]? = some (.cells #[.int .i64 b, .int .i64 c, .int .i64 j, .int .i64 0, .int .i64 0, .int .i64 0, .slice p n cp, .slice none 0 0, .int .i64 0, .int .i64 0, .string ⟨#[]⟩] 32 (0, 0)) := set11 HZ2.out _ _ _ _ _ _ _ _ _ _ _
      clear m0 m1 m2 m3 m4 m5 m6 m7 m8 m9 m10 f0 f1 f2 f3 f4 f5 f6 f7 f8 f9 f10
      obtain ⟨m0, m1, m2, m3, m4, m5, m6, m7, m8, m9, m10⟩ := row11 hROW
      generalize (((((((((((w2.setCell ⟨w.heap.size + 1, 0, none⟩ (.int .i64 b)).setCell ⟨w.heap.size + 1, 1, none⟩ (.int .i64 c)).setCell ⟨w.heap.size + 1, 2, none⟩ (.int .i64 j)).setCell ⟨w.heap.size + 1, 3, none⟩ (.int .i64 0)).setCell ⟨w.heap.size + 1, 4, none⟩ (.int .i64 0)).setCell ⟨w.heap.size + 1, 5, none⟩ (.int .i64 0)).setCell ⟨w.heap.size + 1, 6, none⟩ (.slice p n cp)).setCell ⟨w.heap.size + 1, 7, none⟩ (.slice none 0 0)).setCell ⟨w.heap.size + 1, 8, none⟩ (.int .i64 0)).setCell ⟨w.heap.size + 1, 9, none⟩ (.int .i64 0)).setCell ⟨w.heap.size + 1, 10, none⟩ (.string ⟨#[]⟩)) = WF at *
      refine bodyPost_ret (v := .tuple #[.agg #[.int .i64 b, .int .i64 c, .int .i64 j, .int .i64 0, .int .i64 0, .int .i64 0, .slice p n cp, .slice none 0 0, .int .i64 0, .int .i64 0, .string ⟨#[]⟩], .int .i64 0]) ?_ rfl ⟨_, _, _, _, _, _, _, _, _, _, _, _, _, _, _, by rw [HCO.out, HCD.out], ?_, fun _ S hS => ?_⟩
      · simp [results, Tryz.results6, go_sem, m0, m1, m2, m3, m4, m5, m6, m7, m8, m9, m10]
      · have hb := HA.out.trans (HB2.out.mono HA.out.size)
        exact hb.trans (hOUT.below hb.size fun i e => by omega)
      · obtain ⟨p', cp', e, hF⟩ := mine_keeps (S := fun i => S i ∨ i = w.heap.size + 1) HM.out (fun g hg => by
          have h9 := (own_lt HM.out hg).1
          simp at h9
          rintro (e | e)
          · have := hS g e; omega
          · omega)
        injection e with e1 e2 e3
        subst e1 e3
        refine ⟨0, p, cp, none, 0, 0, 0, 0, by rw [← HN.out]; rfl, fun V hV => hF V ((hOUT.mono (S' := fun i => S i ∨ i = w.heap.size + 1) fun _ _ e => .inr e).trans hV fun _ _ h => .inl h), fun e => rfl, fun hg => by rcases hg with e | e <;> simp [mk] at e, good_mk HOK.out HCD.out, fun _ => rfl⟩
    · have h0b : (cd == 0) = false := by simpa using h0
      have H0 := Lib.hid h0
      clear h0 hM
      go_wp2_with fail
      have hROW : (((((((((((w2.setCell ⟨w.heap.size + 1, 0, none⟩ (.int .i64 0)).setCell ⟨w.heap.size + 1, 1, none⟩ (.int .i64 0)).setCell ⟨w.heap.size + 1, 2, none⟩ (.int .i64 0)).setCell ⟨w.heap.size + 1, 3, none⟩ (.int .i64 0)).setCell ⟨w.heap.size + 1, 4, none⟩ (.int .i64 0)).setCell ⟨w.heap.size + 1, 5, none⟩ (.int .i64 0)).setCell ⟨w.heap.size + 1, 6, none⟩ (.slice none 0 0)).setCell ⟨w.heap.size + 1, 7, none⟩ (.slice none 0 0)).setCell ⟨w.heap.size + 1, 8, none⟩ (.int .i64 0)).setCell ⟨w.heap.size + 1, 9, none⟩ (.int .i64 0)).setCell ⟨w.heap.size + 1, 10, none⟩ (.string ⟨#[]⟩)).heap[w.heap.size + 1]? = some (.cells #[.int .i64 0, .int .i64 0, .int .i64 0, .int .i64 0, .int .i64 0, .int .i64 0, .slice none 0 0, .slice none 0 0, .int .i64 0, .int .i64 0, .string ⟨#[]⟩] 32 (0, 0)) := set11 HZ2.out _ _ _ _ _ _ _ _ _ _ _
      have hOUT : Out (fun i => i = w.heap.size + 1) w2 (((((((((((w2.setCell ⟨w.heap.size + 1, 0, none⟩ (.int .i64 0)).setCell ⟨w.heap.size + 1, 1, none⟩ (.int .i64 0)).setCell ⟨w.heap.size + 1, 2, none⟩ (.int .i64 0)).setCell ⟨w.heap.size + 1, 3, none⟩ (.int .i64 0)).setCell ⟨w.heap.size + 1, 4, none⟩ (.int .i64 0)).setCell ⟨w.heap.size + 1, 5, none⟩ (.int .i64 0)).setCell ⟨w.heap.size + 1, 6, none⟩ (.slice none 0 0)).setCell ⟨w.heap.size + 1, 7, none⟩ (.slice none 0 0)).setCell ⟨w.heap.size + 1, 8, none⟩ (.int .i64 0)).setCell ⟨w.heap.size + 1, 9, none⟩ (.int .i64 0)).setCell ⟨w.heap.size + 1, 10, none⟩ (.string ⟨#[]⟩)) := out11 _ _ _ _ _ _ _ _ _ _ _ _ _
      clear m0 m1 m2 m3 m4 m5 m6 m7 m8 m9 m10 f0 f1 f2 f3 f4 f5 f6 f7 f8 f9 f10
      obtain ⟨m0, m1, m2, m3, m4, m5, m6, m7, m8, m9, m10⟩ := row11 hROW
      generalize (((((((((((w2.setCell ⟨w.heap.size + 1, 0, none⟩ (.int .i64 0)).setCell ⟨w.heap.size + 1, 1, none⟩ (.int .i64 0)).setCell ⟨w.heap.size + 1, 2, none⟩ (.int .i64 0)).setCell ⟨w.heap.size + 1, 3, none⟩ (.int .i64 0)).setCell ⟨w.heap.size + 1, 4, none⟩ (.int .i64 0)).setCell ⟨w.heap.size + 1, 5, none⟩ (.int .i64 0)).setCell ⟨w.heap.size + 1, 6, none⟩ (.slice none 0 0)).setCell ⟨w.heap.size + 1, 7, none⟩ (.slice none 0 0)).setCell ⟨w.heap.size + 1, 8, none⟩ (.int .i64 0)).setCell ⟨w.heap.size + 1, 9, none⟩ (.int .i64 0)).setCell ⟨w.heap.size + 1, 10, none⟩ (.string ⟨#[]⟩)) = WF at *
      refine bodyPost_ret (v := .tuple #[.agg #[.int .i64 0, .int .i64 0, .int .i64 0, .int .i64 0, .int .i64 0, .int .i64 0, .slice none 0 0, .slice none 0 0, .int .i64 0, .int .i64 0, .string ⟨#[]⟩], .int .i64 cd]) ?_ rfl ⟨_, _, _, _, _, _, _, _, _, _, _, _, _, _, _, by rw [HCO.out, HCD.out], ?_, fun h => absurd h (by rw [HCO.out, HCD.out]; exact H0.out)⟩
      · simp [results, Tryz.results6, go_sem, m0, m1, m2, m3, m4, m5, m6, m7, m8, m9, m10]
      · have hb := HA.out.trans (HB2.out.mono HA.out.size)
        exact hb.trans (hOUT.below hb.size fun i e => by omega)
  · have HNO : Hid (newC b c j s = 2) := Lib.hid (by unfold newC; rw [if_neg hok])
    have hk := chk_no hok
    clear hok
    go_enter Tryz.func6, Tryz.ntmps6
    go_wp2_with fail
    refine (rcheck_calls b c j _).mono ?_
    rintro e w1 ⟨rfl, rfl⟩
    rw [hk]
    go_wp2_with fail
    refine bodyPost_ret (v := .tuple #[.agg #[.int .i64 0, .int .i64 0, .int .i64 0, .int .i64 0, .int .i64 0, .int .i64 0, .slice none 0 0, .slice none 0 0, .int .i64 0, .int .i64 0, .string ⟨#[]⟩], .int .i64 2]) ?_ rfl ⟨_, _, _, _, _, _, _, _, _, _, _, _, _, _, _, by rw [HNO.out], HA.out, fun h => absurd h (by rw [HNO.out]; omega)⟩
    simp [results, Tryz.results6, go_sem]
end Go.Proofs.YtnkhdpenmekhdaaGreat.Lin
end

section
namespace Go.Proofs.YtnkhdpenmekhdaaGreat.Lin
open Go.RowKit Go.Proofs.YtnkhdpenmekhdaaGreat.Own Go.Proofs.YtnkhdpenmekhdaaGreat.Brk Go.Proofs.YtnkhdpenmekhdaaGreat.Calc Go.Proofs.YtnkhdpenmekhdaaGreat.Tree Go.Proofs.YtnkhdpenmekhdaaGreat.Run Go.Proofs.YtnkhdpenmekhdaaGreat.Bkf

def exF : List Op := [⟨1, [105], 0⟩, ⟨2, [], 1⟩]
theorem ex_is : rC [105, 92, 100] = 0 ∧ rV [105, 92, 100] = exF := by
  refine r_some (by decide) ?_
  have s1 : rdF [] [105, 92, 100] = rdF [⟨1, [105], 0⟩] [92, 100] := rdF_step (t := [105]) (one_plain _ (by decide) (by decide) (by decide)) (by simp)
  have s2 : rdF [⟨1, [105], 0⟩] [92, 100] = rdF exF [] := rdF_step (t := wsg 1) (one_wsg (by decide) (by decide) _) (wsg_ne _)
  rw [s1, s2, rdF_nil]
theorem ey_is : rC [92, 113] = 3 := by
  refine (r_none (by decide) (rdF_no (by simp) ?_)).1
  rw [one_esc]
  unfold esc
  rw [if_neg (by decide), if_neg (by decide), if_neg (by decide), if_neg (by decide), if_neg (by decide), if_neg (by decide), if_neg (by decide), if_neg (by decide)]
  rfl
/-- a line of the call's own, and the world -/
structure Wk (w W : World) (k : Nat) (S : Nat → Prop) (x : Ln) : Prop where
  mem : Mem W k S x
  base : ∀ i, S i → w.heap.size ≤ i
  below : Below w.heap.size w W
theorem Wk.keep {w W W' : World} {k : Nat} {S : Nat → Prop} {x : Ln} (h : Wk w W k S x) (hb : Below W.heap.size W W') : Wk w W' k S x := ⟨h.mem.below hb, h.base, h.below.trans (hb.mono h.below.size)⟩
theorem Wk.step {w W W' : World} {k : Nat} {S S' : Nat → Prop} {x y : Ln} (h : Wk w W k S x) (hm : Mem W' k S' y) (hs : Step S W S' W') : Wk w W' k S' y :=
  ⟨hm, fun i hi => by
    rcases hs.new i hi with h' | h'
    · exact h.base i h'
    · have := h.below.size; omega, h.below.trans (hs.base h.below.size h.base)⟩
theorem Wk.does {w W W' : World} {k : Nat} {S : Nat → Prop} {x y : Ln} (h : Wk w W k S x) (hd : Does W k S y W') : ∃ S', Wk w W' k S' y ∧ Step S W S' W' := by
  obtain ⟨S', h1, h2⟩ := hd
  exact ⟨S', h.step h1 h2, h2⟩
theorem Wk.gives {w W W' : World} {k : Nat} {S : Nat → Prop} {x y : Ln} {O : List Ou} {e : Ending} (h : Wk w W k S x) (hd : Gives W k S y O e W') {y' : Ln} {O' : List Ou} (hy : y = y') (hO : O = O') : ∃ S' p c, e = .returned (.slice p O'.length c) ∧ Wk w W' k S' y' ∧ Step S W S' W' ∧ ∀ V, Out S' W' V → Outs V O' p c := by
  subst hy; subst hO
  obtain ⟨S', p, c, rfl, h1, h2, h3⟩ := hd
  exact ⟨S', p, c, rfl, h.step h1 h2, h2, h3⟩
theorem ops_one (w : World) (x : Op) (g : Nat) (hg : g = w.heap.size) : Ops (w.alloc (.cells #[.int .i64 x.k, .string ⟨x.s.toArray⟩, .int .i64 x.n] 58 (0, 0))) [x] (some ⟨g, 0, none⟩) 1 := by
  subst hg
  have hn := at_new w (.cells #[.int .i64 x.k, .string ⟨x.s.toArray⟩, .int .i64 x.n] 58 (0, 0))
  refine ⟨by simp, by unfold maxLen; omega, .inr ⟨w.heap.size, 0, rfl, by simp, fun i hi => ?_⟩⟩
  obtain rfl : i = 0 := by simpa using hi
  exact ⟨at_cell hn 0, at_cell hn 1, at_cell hn 2⟩
theorem outs_one (w : World) (x : Ou) (g : Nat) (hg : g = w.heap.size) : Outs (w.alloc (.cells #[.int .i64 x.1, .string ⟨x.2.toArray⟩] 62 (0, 0))) [x] (some ⟨g, 0, none⟩) 1 := by
  subst hg
  have hn := at_new w (.cells #[.int .i64 x.1, .string ⟨x.2.toArray⟩] 62 (0, 0))
  refine ⟨by simp, by unfold maxLen; omega, .inr ⟨w.heap.size, 0, rfl, by simp, fun i hi => ?_⟩⟩
  obtain rfl : i = 0 := by simpa using hi
  exact ⟨at_cell hn 0, at_cell hn 1⟩
def s0 : Ln := mk 2 8 0 exF
def s1 : Ln := ⟨2, 8, 0, exF, 2, 0, 0, [], 0, 0, []⟩
def s2 : Ln := ⟨2, 8, 0, exF, 1, 1, 12, [], 0, 0, []⟩
def s3 : Ln := ⟨2, 8, 0, exF, 2, 1, 0, [], 0, 0, []⟩
def s4 : Ln := ⟨2, 8, 0, exF, 3, 0, 0, [(12, ⟨1, [105], 0⟩)], 13, 12, []⟩
def s5 : Ln := ⟨2, 8, 0, exF, 3, 0, 0, [(12, ⟨1, [105], 0⟩)], 13, 12, [97, 98, 99]⟩
def s6 : Ln := ⟨2, 8, 0, exF, 4, 0, 0, [], 0, 0, []⟩
def s7 : Ln := ⟨2, 8, 0, exF, 1, 1, 16, [], 0, 0, []⟩
def s8 : Ln := ⟨2, 8, 0, exF, 0, 1, 0, [], 0, 0, []⟩
theorem e1 : startL s0 = s1 ∧ startO s0 = [(1, [])] := ⟨rfl, rfl⟩
theorem e2 : openL s1 10 false 0 = s2 ∧ openO s1 10 false = [] := ⟨rfl, rfl⟩
theorem e2n : nextV s2 = 12 ∧ nextI s2 = true := ⟨rfl, rfl⟩
theorem e3 : tickL s2 12 = s3 ∧ tickO s2 12 = [(1, [])] := ⟨rfl, rfl⟩
theorem e4 : openL s3 12 true 0 = s4 ∧ openO s3 12 true = [(3, [105])] := ⟨rfl, rfl⟩
theorem e5 : sendB s4 [97, 98, 99] = true ∧ sendL s4 [97, 98, 99] = s5 ∧ sendO s4 [97, 98, 99] = [] := ⟨by decide, rfl, rfl⟩
theorem e6 : tickL s5 13 = s6 ∧ tickO s5 13 = [(3, [97, 98, 99])] := ⟨rfl, rfl⟩
theorem e7 : brkC s6 13 [⟨3, [], 0⟩] = 0 ∧ brkL s6 13 [⟨3, [], 0⟩] = s6 ∧ brkO s6 13 [⟨3, [], 0⟩] = [(4, [])] := ⟨by decide, rfl, rfl⟩
theorem e8 : lostB s6 14 = true ∧ lostL s6 14 0 = s7 := ⟨by decide, rfl⟩
theorem e9 : stopL s7 = s8 ∧ stopO s7 = [] := ⟨rfl, rfl⟩

set_option maxRecDepth 100000 in
set_option maxHeartbeats 16000000 in
theorem works_calls (w : World) : Calls Tryz.prog 4 #[] w fun e w' => e = .returned (.bool true) ∧ Below w.heap.size w w' := by
  have C1 : newC 2 8 0 [105, 92, 100] = 0 := by unfold newC; rw [if_pos (by decide), ex_is.1]
  have C2 : newC 0 0 0 [] = 2 := by unfold newC; rw [if_neg (by decide)]
  have C3 : newC 1 1 0 [92, 113] = 3 := by unfold newC; rw [if_pos (by decide), ey_is]
  have HC := Lib.hid (And.intro C1 (And.intro C2 C3))
  clear C1 C2 C3
  go_enter Tryz.func4, Tryz.ntmps4
  go_wp2_with fail
  refine (new_line (.string ⟨#[]⟩) (.int .i64 0) (.int .i64 0) (.int .i64 0) (.int .i64 0) (.int .i64 0) 2 8 0 [105, 92, 100] (by decide) w).mono ?_
  rintro e w1 (⟨h, _⟩ | ⟨_, k, S, rfl, hM, hS, hB⟩)
  · exact absurd HC.out.1 h
  rw [ex_is.2] at hM
  have W1 : Hid (Wk w w1 k S s0) := Lib.hid ⟨hM, hS, hB⟩
  clear hM hS hB
  go_wp2_with fail
  refine (new_line (.string ⟨#[]⟩) (.int .i64 0) (.int .i64 0) (.int .i64 0) (.int .i64 0) (.int .i64 0) 0 0 0 [] (by decide) w1).mono ?_
  rintro e w2 (⟨_, rfl, hB⟩ | ⟨h, _⟩)
  case inr => rw [HC.out.2.1] at h; cases h
  rw [HC.out.2.1]
  have W2 := Lib.hid (W1.out.keep hB)
  clear hB W1
  go_wp2_with fail
  refine (new_line (.string ⟨#[]⟩) (.int .i64 0) (.int .i64 0) (.int .i64 0) (.int .i64 0) (.int .i64 0) 1 1 0 [92, 113] (by decide) w2).mono ?_
  rintro e w3 (⟨_, rfl, hB⟩ | ⟨h, _⟩)
  case inr => rw [HC.out.2.2] at h; cases h
  rw [HC.out.2.2]
  have W3 := Lib.hid (W2.out.keep hB)
  clear hB W2
  go_wp2_with fail
  refine (start_calls W3.out.mem).mono ?_
  rintro e w4 hG
  obtain ⟨S4, pa, ca, rfl, hW, hT, hA⟩ := W3.out.gives hG e1.1 e1.2
  have W4 := Lib.hid hW
  have A4 := Lib.hid hA
  clear hW hT hA hG W3
  go_wp2_with fail
  refine (opened_calls 10 0 false (by decide) W4.out.mem).mono ?_
  rintro e w5 hG
  obtain ⟨S5, pb, cb, rfl, hW, hT, -⟩ := W4.out.gives hG e2.1 e2.2
  have W5 := Lib.hid hW
  have A5 := Lib.hid (hT.stays A4.out)
  clear hW hT hG W4 A4
  go_wp2_with fail
  refine (next_calls W5.out.mem).mono ?_
  rintro e w' ⟨rfl, rfl⟩
  rw [e2n.1, e2n.2]
  go_wp2_with fail
  refine (tick_calls 12 W5.out.mem).mono ?_
  rintro e w6 hG
  obtain ⟨S6, pc, cc, rfl, hW, hT, -⟩ := W5.out.gives hG e3.1 e3.2
  have W6 := Lib.hid hW
  have A6 := Lib.hid (hT.stays A5.out)
  clear hW hT hG W5 A5
  go_wp2_with fail
  refine (opened_calls 12 0 true (by decide) W6.out.mem).mono ?_
  rintro e w7 hG
  obtain ⟨S7, pd, cd, rfl, hW, hT, hD⟩ := W6.out.gives hG e4.1 e4.2
  have W7 := Lib.hid hW
  have A7 := Lib.hid (hT.stays A6.out)
  have D7 := Lib.hid hD
  clear hW hT hG W6 A6 hD
  go_wp2_with fail
  refine (send_calls [97, 98, 99] W7.out.mem).mono ?_
  rintro e w8 ⟨v, rfl, hG⟩
  obtain ⟨S8, pe, ce, e, hW, hT, -⟩ := W7.out.gives hG e5.2.1 e5.2.2
  cases e
  rw [e5.1]
  have W8 := Lib.hid hW
  have A8 := Lib.hid (hT.stays A7.out)
  have D8 := Lib.hid (hT.stays D7.out)
  clear hW hT hG W7 A7 D7
  go_wp2_with fail
  refine (held_calls W8.out.mem).mono ?_
  rintro e w' ⟨rfl, rfl⟩
  rw [show ((s5.H.length : Nat) : Int) = 3 from rfl]
  go_wp2_with fail
  refine (tick_calls 13 W8.out.mem).mono ?_
  rintro e w9 hG
  obtain ⟨S9, pi, ci, rfl, hW, hT, hI⟩ := W8.out.gives hG e6.1 e6.2
  have W9 := Lib.hid hW
  have A9 := Lib.hid (hT.stays A8.out)
  have D9 := Lib.hid (hT.stays D8.out)
  have I9 := Lib.hid hI
  clear hW hT hG W8 A8 D8 hI
  go_wp2_with fail
  refine (state_calls W9.out.mem).mono ?_
  rintro e w' ⟨rfl, rfl⟩
  rw [show s6.st = 4 from rfl]
  go_wp2_with fail
  have hb1 : Below w9.heap.size w9 (w9.alloc (.cells #[.int .i64 3, .string ⟨#[]⟩, .int .i64 0] 58 (0, 0))) := (Below.refl _ _).alloc (Nat.le_refl _) _
  have hO1 := ops_one w9 ⟨3, [], 0⟩ _ rfl
  have W10 := Lib.hid (W9.out.keep hb1)
  have A10 := Lib.hid ((Step.below hb1).stays A9.out)
  have D10 := Lib.hid ((Step.below hb1).stays D9.out)
  have I10 := Lib.hid ((Step.below hb1).stays I9.out)
  refine (break_calls 13 [⟨3, [], 0⟩] 1 rfl (by omega) _ 1 hO1 W10.out.mem).mono ?_
  rintro e w11 ⟨v, rfl, hG⟩
  obtain ⟨S11, pj, cj, e, hW, hT, hJ⟩ := W10.out.gives hG e7.2.1 e7.2.2
  cases e
  rw [e7.1]
  have W11 := Lib.hid hW
  have A11 := Lib.hid (hT.stays A10.out)
  have D11 := Lib.hid (hT.stays D10.out)
  have I11 := Lib.hid (hT.stays I10.out)
  have J11 := Lib.hid hJ
  clear hW hT hG W9 A9 D9 I9 W10 A10 D10 I10 hJ hb1 hO1
  go_wp2_with fail
  refine (lost_calls 14 0 (by decide) W11.out.mem).mono ?_
  rintro e w12 ⟨rfl, hG⟩
  rw [e8.1]
  rw [e8.2] at hG
  obtain ⟨S12, hW, hT⟩ := W11.out.does hG
  have W12 := Lib.hid hW
  have A12 := Lib.hid (hT.stays A11.out)
  have D12 := Lib.hid (hT.stays D11.out)
  have I12 := Lib.hid (hT.stays I11.out)
  have J12 := Lib.hid (hT.stays J11.out)
  clear hW hT hG W11 A11 D11 I11 J11
  go_wp2_with fail
  refine (stop_calls W12.out.mem).mono ?_
  rintro e w13 hG
  obtain ⟨S13, pm, cm, rfl, hW, hT, -⟩ := W12.out.gives hG e9.1 e9.2
  have W13 := Lib.hid hW
  have A13 := Lib.hid (hT.stays A12.out w13 (Out.refl _ _))
  have D13 := Lib.hid (hT.stays D12.out w13 (Out.refl _ _))
  have I13 := Lib.hid (hT.stays I12.out w13 (Out.refl _ _))
  have J13 := Lib.hid (hT.stays J12.out w13 (Out.refl _ _))
  clear hW hT hG W12 A12 D12 I12 J12
  go_wp2_with fail
  have hb1 : Below w13.heap.size w13 (w13.alloc (.cells #[.int .i64 1, .string ⟨#[]⟩] 62 (0, 0))) := (Below.refl _ _).alloc (Nat.le_refl _) _
  refine (same_outs [(1, [])] 1 rfl _ _ _ _ _ (A13.out.below hb1) (outs_one w13 (1, []) _ rfl)).mono ?_
  rintro e w14 ⟨rfl, hb⟩
  have B14 := Lib.hid (hb1.trans (hb.mono hb1.size))
  clear hb hb1
  go_wp2_with fail
  have hb1 : Below w14.heap.size w14 (w14.alloc (.cells #[.int .i64 3, .string ⟨#[105]⟩] 62 (0, 0))) := (Below.refl _ _).alloc (Nat.le_refl _) _
  refine (same_outs [(3, [105])] 1 rfl _ _ _ _ _ ((D13.out.below B14.out).below hb1) (outs_one w14 (3, [105]) _ rfl)).mono ?_
  rintro e w15 ⟨rfl, hb⟩
  have B15 := Lib.hid (B14.out.trans ((hb1.trans (hb.mono hb1.size)).mono B14.out.size))
  clear hb hb1 B14
  go_wp2_with fail
  have hb1 : Below w15.heap.size w15 (w15.alloc (.cells #[.int .i64 3, .string ⟨#[97, 98, 99]⟩] 62 (0, 0))) := (Below.refl _ _).alloc (Nat.le_refl _) _
  refine (same_outs [(3, [97, 98, 99])] 1 rfl _ _ _ _ _ ((I13.out.below B15.out).below hb1) (outs_one w15 (3, [97, 98, 99]) _ rfl)).mono ?_
  rintro e w16 ⟨rfl, hb⟩
  have B16 := Lib.hid (B15.out.trans ((hb1.trans (hb.mono hb1.size)).mono B15.out.size))
  clear hb hb1 B15
  go_wp2_with fail
  have hb1 : Below w16.heap.size w16 (w16.alloc (.cells #[.int .i64 4, .string ⟨#[]⟩] 62 (0, 0))) := (Below.refl _ _).alloc (Nat.le_refl _) _
  refine (same_outs [(4, [])] 1 rfl _ _ _ _ _ ((J13.out.below B16.out).below hb1) (outs_one w16 (4, []) _ rfl)).mono ?_
  rintro e w17 ⟨rfl, hb⟩
  have B17 := Lib.hid (B16.out.trans ((hb1.trans (hb.mono hb1.size)).mono B16.out.size))
  clear hb hb1 B16
  have W17 := Lib.hid (W13.out.keep B17.out)
  go_wp2_with fail
  refine (state_calls W17.out.mem).mono ?_
  rintro e w' ⟨rfl, rfl⟩
  rw [show s8.st = 0 from rfl]
  go_wp2_with fail
  go_ret
  exact ⟨rfl, W17.out.below⟩
end Go.Proofs.YtnkhdpenmekhdaaGreat.Lin
end

section
namespace Go.Proofs.YtnkhdpenmekhdaaGreat.Lin
open Go.RowKit Go.Proofs.YtnkhdpenmekhdaaGreat.Own Go.Proofs.YtnkhdpenmekhdaaGreat.Brk Go.Proofs.YtnkhdpenmekhdaaGreat.Calc Go.Proofs.YtnkhdpenmekhdaaGreat.Tree Go.Proofs.YtnkhdpenmekhdaaGreat.Run Go.Proofs.YtnkhdpenmekhdaaGreat.Bkf

theorem calm_n (x : Ln) (s : Int) : (calm x s).n = x.n := rfl
theorem goL_n (x : Ln) (now : Int) : (goL x now).n = x.n := by unfold goL; split <;> rfl
theorem begL_n (x : Ln) (s : Int) (ops : List Op) (now : Int) : (begL x s ops now).n = x.n := by
  unfold begL
  split
  · rw [goL_n]; rfl
  · rfl
theorem failL_n (x : Ln) (now r : Int) : (failL x now r).n ≤ x.n + 1 := by unfold failL; split <;> simp
theorem startL_n (x : Ln) : (startL x).n ≤ x.n + 1 := by unfold startL; split <;> simp [calm, zero]
theorem stopL_n (x : Ln) : (stopL x).n ≤ x.n + 1 := by unfold stopL; split <;> simp [calm]
theorem openL_n (x : Ln) (now : Int) (ok : Bool) (r : Int) : (openL x now ok r).n ≤ x.n + 1 := by
  unfold openL
  split
  · split
    · rw [begL_n]; simp [zero]
    · exact failL_n x now r
  · omega
theorem lostL_n (x : Ln) (now r : Int) : (lostL x now r).n ≤ x.n + 1 := by
  unfold lostL
  split
  · exact failL_n x now r
  · omega
theorem tickL_n (x : Ln) (now : Int) : (tickL x now).n ≤ x.n + 1 := by
  unfold tickL
  split
  · split
    · rw [calm_n]; omega
    · rw [goL_n]; omega
  · omega
theorem sendL_n (x : Ln) (s : List UInt8) : (sendL x s).n ≤ x.n + 1 := by unfold sendL; split <;> simp
theorem brkL_n (x : Ln) (now : Int) (L : List Op) : (brkL x now L).n ≤ x.n + 1 := by
  unfold brkL
  split
  · rw [goL_n]; simp [runs]
  · omega
/-- an act, any -/
theorem do_any {w : World} {S : Nat → Prop} {k : Nat} {x : Ln} {v : Value} (P : Pr w S k x v) (kk g r now : Int) (ok : Bool) (s : List UInt8) (q : Option Addr) (m cq : Nat) (h0 : 0 ≤ kk) (h1 : kk ≤ 255) (hb : x.n < 1000000000000000000) (hs : s.length ≤ 2000) (L : List Op) (hL : L.length = m) (hm : m ≤ 1000) (hops : OKS S w L q cq) :
    Calls Tryz.prog 7 #[.pointer (some ⟨k, 0, none⟩), v, .agg #[.int .u8 kk, .int .u8 g, .bool ok, .int .i64 r, .string ⟨s.toArray⟩, .slice q m cq], .int .i64 now] w fun e w' => ∃ y, y.n ≤ x.n + 1 ∧ DoPost w S k y e w' := by
  by_cases e3 : kk % 10 = 3
  · exact (do_start P kk g r now ok s q m cq h0 h1 e3).mono fun _ _ h => ⟨_, startL_n x, h⟩
  by_cases e4 : kk % 10 = 4
  · exact (do_stop P kk g r now ok s q m cq h0 h1 e4).mono fun _ _ h => ⟨_, stopL_n x, h⟩
  by_cases e5 : kk % 10 = 5
  · exact (do_opened P kk g r now ok s q m cq h0 h1 e5 hb).mono fun _ _ h => ⟨_, openL_n x now ok r, h⟩
  by_cases e6 : kk % 10 = 6
  · exact (do_lost P kk g r now ok s q m cq h0 h1 e6 hb).mono fun _ _ h => ⟨_, lostL_n x now r, h⟩
  by_cases e7 : kk % 10 = 7
  · exact (do_send7 P kk g r now ok s q m cq h0 h1 e7 hs).mono fun _ _ h => ⟨_, sendL_n x s, h⟩
  by_cases e8 : kk % 10 = 8
  · exact (do_send8 P kk g r now ok s q m cq h0 h1 e8 hs).mono fun _ _ h => ⟨_, sendL_n x s, h⟩
  by_cases e9 : kk % 10 = 9
  · exact (do_brk P kk g r now ok s q m cq h0 h1 e9 L hL hm hops).mono fun _ _ h => ⟨_, brkL_n x now L, h⟩
  · exact (do_tick P kk g r now ok s q m cq h0 h1 (kk % 10) rfl (by simpa using e3) (by simpa using e4) (by simpa using e5) (by simpa using e6) (by simpa using e7) (by simpa using e8) (by simpa using e9)).mono fun _ _ h => ⟨_, tickL_n x now, h⟩
theorem Rf.row {OK : List Op → Option Addr → Nat → Prop} {x : Ln} {v : Value} (h : Rf OK x v) : ∃ at_ pF cF pL lL cL start done, v = .agg #[.int .i64 x.b, .int .i64 x.c, .int .i64 x.j, .int .i64 x.st, .int .i64 x.n, .int .i64 at_, .slice pF x.F.length cF, .slice pL lL cL, .int .i64 start, .int .i64 done, .string ⟨x.H.toArray⟩] ∧ Rf OK x (.agg #[.int .i64 x.b, .int .i64 x.c, .int .i64 x.j, .int .i64 x.st, .int .i64 x.n, .int .i64 at_, .slice pF x.F.length cF, .slice pL lL cL, .int .i64 start, .int .i64 done, .string ⟨x.H.toArray⟩]) := by
  obtain ⟨at_, pF, cF, pL, lL, cL, start, done, h⟩ := h
  have e := h.val
  subst e
  exact ⟨at_, pF, cF, pL, lL, cL, start, done, rfl, at_, pF, cF, pL, lL, cL, start, done, h⟩
/-- the frame of the loop: the line, the document's in box X -/
structure PlAt (w wr : World) (k X q : Nat) (S : Nat → Prop) (x : Ln) (at_ : Int) (pF : Option Addr) (cF : Nat) (pL : Option Addr) (lL cL : Nat) (start done : Int) : Prop where
  mem : Mem wr k S x
  rf : Rf (OKS S wr) x (.agg #[.int .i64 x.b, .int .i64 x.c, .int .i64 x.j, .int .i64 x.st, .int .i64 x.n, .int .i64 at_, .slice pF x.F.length cF, .slice pL lL cL, .int .i64 start, .int .i64 done, .string ⟨x.H.toArray⟩])
  box : wr.heap[X]? = some (.cells #[.int .i64 x.b, .int .i64 x.c, .int .i64 x.j, .int .i64 x.st, .int .i64 x.n, .int .i64 at_, .slice pF x.F.length cF, .slice pL lL cL, .int .i64 start, .int .i64 done, .string ⟨x.H.toArray⟩] 32 (0, 0))
  nX : ¬ S X
  hX : w.heap.size ≤ X
  base : ∀ i, S i → w.heap.size ≤ i
  below : Below w.heap.size w wr
  n : x.n ≤ q
section
variable {w wr w' : World} {k X q q' : Nat} {S : Nat → Prop} {x : Ln} {at_ : Int} {pF : Option Addr} {cF : Nat} {pL : Option Addr} {lL cL : Nat} {start done : Int}
theorem PlAt.keep (h : PlAt w wr k X q S x at_ pF cF pL lL cL start done) (hb : Below wr.heap.size wr w') (hq : q ≤ q') : PlAt w w' k X q' S x at_ pF cF pL lL cL start done :=
  ⟨h.mem.below hb, h.rf.mono fun _ _ _ hk V hV => hk V ((Out.ofNew hb).trans hV fun _ _ h => h), (hb.block X (at_lt h.box)).trans h.box, h.nX, h.hX, h.base, h.below.trans (hb.mono h.below.size), Nat.le_trans h.n hq⟩
/-- an act was done, and the document's line stored -/
theorem PlAt.act {S' : Nat → Prop} {y : Ln} {at2 : Int} {pF2 : Option Addr} {cF2 : Nat} {pL2 : Option Addr} {lL2 cL2 : Nat} {start2 done2 : Int} {w5 w6 : World} (h : PlAt w wr k X q S x at_ pF cF pL lL cL start done)
    (hP : Pr w5 S' k y (.agg #[.int .i64 y.b, .int .i64 y.c, .int .i64 y.j, .int .i64 y.st, .int .i64 y.n, .int .i64 at2, .slice pF2 y.F.length cF2, .slice pL2 lL2 cL2, .int .i64 start2, .int .i64 done2, .string ⟨y.H.toArray⟩])) (hT : Step S wr S' w5) (ho : Out (fun i => i = X) w5 w6) (hr : w6.heap[X]? = some (.cells #[.int .i64 y.b, .int .i64 y.c, .int .i64 y.j, .int .i64 y.st, .int .i64 y.n, .int .i64 at2, .slice pF2 y.F.length cF2, .slice pL2 lL2 cL2, .int .i64 start2, .int .i64 done2, .string ⟨y.H.toArray⟩] 32 (0, 0))) (hn : y.n ≤ x.n + 1) : PlAt w w6 k X (q + 1) S' y at2 pF2 cF2 pL2 lL2 cL2 start2 done2 := by
  have hbx : w5.heap[X]? = some (.cells #[.int .i64 x.b, .int .i64 x.c, .int .i64 x.j, .int .i64 x.st, .int .i64 x.n, .int .i64 at_, .slice pF x.F.length cF, .slice pL lL cL, .int .i64 start, .int .i64 done, .string ⟨x.H.toArray⟩] 32 (0, 0)) := hT.out.at_ h.box h.nX
  have hNT : NoText #[.int .i64 x.b, .int .i64 x.c, .int .i64 x.j, .int .i64 x.st, .int .i64 x.n, .int .i64 at_, .slice pF x.F.length cF, .slice pL lL cL, .int .i64 start, .int .i64 done, .string ⟨x.H.toArray⟩] := no_text _ _ _ _ _ _ _ _ _ _ _ _ _ _ _ (by simp) (by simp) (by simp) (by simp) (by simp) (by simp)
  have hlx := at_lt h.box
  have nX' : ¬ S' X := fun hk => by
    rcases hT.new X hk with h' | h'
    · exact h.nX h'
    · omega
  have hb5 : Below w.heap.size w w5 := h.below.trans (hT.base h.below.size h.base)
  refine ⟨hP.mem.other hbx hNT nX' ho, hP.rf.mono fun _ _ _ hk => ops_still hk hbx hNT ho, hr, nX', h.hX, fun i hi => ?_, hb5.trans (ho.below hb5.size fun i e => by rw [e]; exact h.hX), by have := h.n; omega⟩
  rcases hT.new i hi with h' | h'
  · exact h.base i h'
  · have := h.below.size; omega
end
end Go.Proofs.YtnkhdpenmekhdaaGreat.Lin
end

section
namespace Go.Proofs.YtnkhdpenmekhdaaGreat.Own
open Go.RowKit Go.ChangeShapes Go.WideShapes Go.Deep

section
variable {H : Type} {enc : TypeId × Value → H} {P : Program} {w : World} {base : Nat} {spare : Nat → Bool} {held : Bool}
/-- each piece of a reading takes no more than the reach -/
def WOk (P : Program) (t : TypeId) (d : DataW H) : Prop := ∀ n ∈ DataW.weights P t d, n ≤ reachBytes
theorem weights_all {e : TypeId} {l : List (DataW H)} {d : DataW H} (hd : d ∈ l) {n : Nat} (hn : n ∈ DataW.weights P e d) : n ∈ DataW.weightsAll P e l := by
  induction l with
  | nil => cases hd
  | cons x r ih =>
    unfold DataW.weightsAll
    rcases List.mem_cons.1 hd with rfl | h
    · exact List.mem_append_left _ hn
    · exact List.mem_append_right _ (ih h)
theorem args_slice_w {t e : TypeId} {v : Value} {d : DataW H} {p : List MemPlace} {size : Nat} (ht : P.underlying t = some (.slice e)) (hC : P.cellsOf e = size) (h0 : 0 < size) (h : DataW.Trod enc P w base spare held t v d p) (hw : WOk P t d) (hv : ∃ a n cap, v = .slice a n cap) :
    ∃ n E, Row w v n size E ∧ ∃ m, ∀ i, i < n → ∃ y, DataW.trod enc P w base spare held m e ((List.range size).map (E i)) = some y ∧ WOk P e y.1 := by
  obtain ⟨a, n, cap, rfl⟩ := hv
  obtain ⟨fuel, hf⟩ := h
  rcases open_slice ht hf with ⟨hcs, _⟩ | ⟨x, l, c, m, k, D, Pl, hcs, hb, hl, hm, hmm, hx, hi⟩
  · simp [Value.cells] at hcs
    obtain ⟨rfl, rfl, rfl⟩ := hcs
    exact ⟨0, fun _ _ => undef, ⟨none, 0, rfl, Nat.le_refl _, Nat.zero_le _, .inl rfl⟩, 0, fun i hi => absurd hi (by omega)⟩
  · simp [Value.cells] at hcs
    obtain ⟨rfl, rfl, rfl⟩ := hcs
    rw [hC] at hi
    have hnm : n ≤ m := by rw [hmm]; split <;> omega
    refine ⟨n, fun i j => (w.cell? (x.add (i * size + j))).getD undef, ⟨some x, cap, rfl, hl, hm, ?_⟩, k, ?_⟩
    · by_cases hn : n = 0
      · exact .inl hn
      · right
        obtain ⟨b, off, spot⟩ := x
        obtain ⟨cs0, hc0, _⟩ := hi 0 (by omega)
        obtain ⟨_, _, hat0⟩ := World.cells?_some hc0
        have h00 := hat0 0 h0
        obtain ⟨_, hcl0, _⟩ := World.cells?_some hc0
        have hsp : spot = none := by
          have e : cs0[0]? = some (cs0[0]'(by omega)) := List.getElem?_eq_getElem (by omega)
          rw [e] at h00
          simpa [Addr.add] using World.cell?_spot h00
        subst hsp
        have hadd : ∀ o k, (⟨b, o, none⟩ : Addr).add k = ⟨b, o + k, none⟩ := fun o k => by unfold Addr.add; split <;> simp_all
        refine ⟨b, off, rfl, ?_, ?_⟩
        · have e : cs0[0]? = some (cs0[0]'(by omega)) := List.getElem?_eq_getElem (by omega)
          rw [e] at h00
          have := World.block_lt_of_cell? w _ h00
          simpa [hadd] using this
        · intro i j hin hj
          obtain ⟨cs, hc, _⟩ := hi i (by omega)
          obtain ⟨_, hcl, hat⟩ := World.cells?_some hc
          have hcell := hat j hj
          have e : cs[j]? = some (cs[j]'(by omega)) := List.getElem?_eq_getElem (by omega)
          rw [e] at hcell
          simp only [hadd] at hcell ⊢
          rw [← Nat.add_assoc, hcell]; simp
    · intro i hin
      obtain ⟨cs, hc, ht'⟩ := hi i (by omega)
      obtain ⟨_, hcl, hat⟩ := World.cells?_some hc
      refine ⟨(D i, Pl i), ?_, ?_⟩
      · rw [← ht']
        congr 1
        apply List.ext_getElem?
        intro j
        by_cases hj : j < size
        · have hcell := hat j hj
          have e : cs[j]? = some (cs[j]'(by omega)) := List.getElem?_eq_getElem (by omega)
          rw [Go.Deep.add_add] at hcell
          rw [List.getElem?_map, List.getElem?_range hj, e]
          rw [e] at hcell
          simp [hcell]
        · rw [List.getElem?_eq_none (by simp; omega), List.getElem?_eq_none (by omega)]
      · intro z hz
        have hd : d = .slice ((List.range n).map D) ((List.range (m - n)).map fun j => D (n + j)) := congrArg Prod.fst hx
        rw [hd] at hw
        refine hw z ?_
        unfold DataW.weights
        rw [ht]
        exact List.mem_cons_of_mem _ (List.mem_append_left _ (weights_all (List.mem_map.2 ⟨i, List.mem_range.2 hin, rfl⟩) hz))
variable {m : Nat} {y : DataW H × List MemPlace}
theorem leaf_field_w {e : TypeId} {fs : Array Field} {size : Nat} {E : Nat → Value} (he : P.underlying e = some (.struct fs)) (h : DataW.trod enc P w base spare held m e ((List.range size).map E) = some y) (hw : WOk P e y.1)
    (j : Nat) (f : Field) (hf : fs[j]? = some f) (o c : Nat) (ho : f.offset = o) (hc : P.cellsOf f.type = c) (hs : o + c ≤ size) : ∃ m' y', DataW.trod enc P w base spare held m' f.type ((List.range c).map fun k => E (o + k)) = some y' ∧ WOk P f.type y'.1 := by
  obtain ⟨xs, n, _, hy, _, hlen, hyl⟩ := DataW.trod_struct he h
  have hj : j < fs.size := (Array.getElem?_eq_some_iff.1 hf).1
  refine ⟨n, xs[j]'(by omega), ?_, ?_⟩
  · have := hyl j f hf
    rw [ho, hc, List.getElem?_eq_getElem (by omega)] at this
    rw [← this]
    congr 1
    apply List.ext_getElem?
    intro k
    by_cases hk : k < c
    · rw [List.getElem?_map, List.getElem?_range hk, List.getElem?_take, if_pos hk, List.getElem?_drop, List.getElem?_map, List.getElem?_range (by omega)]; rfl
    · rw [List.getElem?_eq_none (by simp; omega), List.getElem?_eq_none (by simp; omega)]
  · intro z hz
    rw [hy] at hw
    refine hw z ?_
    unfold DataW.weights
    rw [he]
    refine DataW.weights_mem_each (j := j) (t := f.type) ?_ ?_ z hz
    · rw [List.getElem?_map, show fs.toList[j]? = some f by simpa using hf]; rfl
    · rw [List.getElem?_map, List.getElem?_eq_getElem (by omega)]; rfl
theorem leaf_string_w {t : TypeId} {E : Nat → Value} (ht : P.underlying t = some .string) (h : DataW.trod enc P w base spare held m t ((List.range 1).map E) = some y) (hw : WOk P t y.1) : ∃ s, E 0 = .string s ∧ s.size ≤ reachBytes := by
  obtain ⟨s, hs, hy, _⟩ := DataW.trod_string ht h
  refine ⟨s, by simpa using hs, ?_⟩
  have := hw s.data.toList.length (by rw [hy]; simp [DataW.weights])
  rw [show s.data.toList.length = s.size by simp] at this
  exact this
end
end Go.Proofs.YtnkhdpenmekhdaaGreat.Own
end

section
namespace Go.Proofs.YtnkhdpenmekhdaaGreat.Brk
open Go.RowKit Go.ChangeShapes Go.WideShapes Go.Deep Go.Proofs.YtnkhdpenmekhdaaGreat.Own

section
variable {H : Type} {enc : TypeId × Value → H} {w : World} {base : Nat} {spare : Nat → Bool} {held : Bool}
theorem cOp : Tryz.prog.cellsOf 58 = 3 := by kernel_rfl
theorem op_leaf {E : Nat → Value} {m : Nat} {y : DataW H × List MemPlace} (h : DataW.trod enc Tryz.prog w base spare held m 58 ((List.range 3).map E) = some y) :
    ∃ x : Op, (x.n ≤ 9223372036854775807 ∧ x.s.length ≤ 9223372036854775807) ∧ E 0 = .int .i64 x.k ∧ E 1 = .string ⟨x.s.toArray⟩ ∧ E 2 = .int .i64 x.n := by
  obtain ⟨m0, y0, h0⟩ := leaf_field Tryz.underlying58 h 0 _ rfl 0 1 rfl (by kernel_rfl) (by omega)
  obtain ⟨m1, y1, h1⟩ := leaf_field Tryz.underlying58 h 1 _ rfl 1 1 rfl (by kernel_rfl) (by omega)
  obtain ⟨m2, y2, h2⟩ := leaf_field Tryz.underlying58 h 2 _ rfl 2 1 rfl (by kernel_rfl) (by omega)
  obtain ⟨k, e0, _⟩ := leaf_int Tryz.underlying3 h0
  obtain ⟨s, e1, hs⟩ := leaf_string Tryz.underlying9 h1
  obtain ⟨n, e2, wn⟩ := leaf_int Tryz.underlying3 h2
  obtain ⟨l, rfl, hl⟩ : ∃ l : List UInt8, s = ⟨l.toArray⟩ ∧ l.length = s.size := ⟨s.data.toList, by simp, by simp⟩
  have := wf64 wn
  unfold maxLen at hs
  refine ⟨⟨k, l, n⟩, ⟨this.2, ?_⟩, by simpa using e0, by simpa using e1, by simpa using e2⟩
  show l.length ≤ _
  omega
set_option maxRecDepth 100000 in
theorem ops_open {v : Value} (t : ∃ d p, DataW.Trod enc Tryz.prog w base spare held 30 v d p) {r : Reach} (o : ∃ base, Value.okWide Tryz.prog w r base 30 v) :
    ∃ L p n c, v = .slice p n c ∧ L.length = n ∧ Ops w L p c ∧ ∀ x ∈ L, x.n ≤ 9223372036854775807 ∧ x.s.length ≤ 9223372036854775807 := by
  obtain ⟨d, p, t⟩ := t
  obtain ⟨b0, o⟩ := o
  obtain ⟨a, len, cap, rfl⟩ := okWide_slice Tryz.underlying30 o
  obtain ⟨n, E, hrow, m, hE⟩ := args_slice Tryz.underlying30 (size := 3) cOp (by omega) t ⟨_, _, _, rfl⟩
  have hz : ∀ i, ∃ x : Op, i < n → (x.n ≤ 9223372036854775807 ∧ x.s.length ≤ 9223372036854775807) ∧ E i 0 = .int .i64 x.k ∧ E i 1 = .string ⟨x.s.toArray⟩ ∧ E i 2 = .int .i64 x.n := fun i => by
    by_cases hi : i < n
    · obtain ⟨y, hy⟩ := hE i hi
      obtain ⟨x, h⟩ := op_leaf hy
      exact ⟨x, fun _ => h⟩
    · exact ⟨⟨0, [], 0⟩, fun h => absurd h hi⟩
  obtain ⟨a2, cap2, e, h1, h2, h3⟩ := hrow
  cases e
  refine ⟨(List.range len).map fun i => (hz i).choose, a, len, cap, rfl, by simp, ⟨by simpa using h1, h2, ?_⟩, fun x hx => ?_⟩
  · rcases h3 with rfl | ⟨g, off, rfl, hl, hc⟩
    · exact .inl rfl
    · refine .inr ⟨g, off, rfl, hl, fun i hi => ?_⟩
      have hi' : i < len := by simpa using hi
      obtain ⟨_, e0, e1, e2⟩ := (hz i).choose_spec hi'
      have c0 := hc i 0 hi' (by omega)
      have c1 := hc i 1 hi' (by omega)
      have c2 := hc i 2 hi' (by omega)
      simp only [List.getElem_map, List.getElem_range]
      rw [e0] at c0
      rw [e1] at c1
      rw [e2] at c2
      exact ⟨c0, c1, c2⟩
  · simp only [List.mem_map, List.mem_range] at hx
    obtain ⟨i, hi, rfl⟩ := hx
    exact ((hz i).choose_spec hi).1
end
end Go.Proofs.YtnkhdpenmekhdaaGreat.Brk
end


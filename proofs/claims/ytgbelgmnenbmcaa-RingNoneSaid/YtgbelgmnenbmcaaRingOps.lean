/-
  Layer 4 (ring): the ring's calls, walked: New, Len, Room, Gone, Drop, Peek, Take, Text, At.
-/
import Derived.Test.YtgbelgmnenbmcaaRingExt
namespace Go.Proofs.Ytgbelgmnenbmcaa.Ring
open Go.RowKit Go.Proofs.Ytgbelgmnenbmcaa.Own

theorem ret_string {a b : ByteArray} (h : a = b) : Ending.returned (.string a) = .returned (.string b) := by rw [h]

section
variable {w : World} {b : Nat} {q : Option Nat} {most gone : Nat} {t : List UInt8}

theorem IsRing.out {w' : World} {S : Nat → Prop} (h : IsRing w b q most gone t) (ho : Out S w w') (hs : ∀ k, two b q k → ¬ S k) : IsRing w' b q most gone t := by
  obtain ⟨f, L, hr, hx⟩ := h
  exact ⟨f, L, hr.out ho (hs b (.inl rfl)) (fun p e => hs p (.inr e)), hx⟩
theorem IsRing.below {w' : World} (h : IsRing w b q most gone t) (hb : Below w.heap.size w w') : IsRing w' b q most gone t := h.out (S := fun _ => False) (Out.ofNew hb) (fun _ _ h => h)
theorem IsRing.drew {w' : World} (h : IsRing w b q most gone t) (hb : Drew w w') : IsRing w' b q most gone t := by
  obtain ⟨n, rfl⟩ := hb
  exact h.out (S := fun _ => False) ((Out.refl _ _).drewN n) (fun _ _ h => h)
theorem IsRing.lt (h : IsRing w b q most gone t) : ∀ k, two b q k → k < w.heap.size := by
  obtain ⟨f, L, hr, hx⟩ := h
  rintro k (rfl | e)
  · exact hr.lt
  · exact hr.ltq e
theorem IsRing.len (h : IsRing w b q most gone t) : t.length ≤ most ∧ most ≤ 1048576 ∧ 1 ≤ most := by
  obtain ⟨f, L, hr, hx⟩ := h
  exact ⟨Nat.le_trans hx.1 hr.lm, hr.m2, hr.m1⟩

theorem new_some (n : Int) (h0 : 1 ≤ n) (h1 : n ≤ 1048576) (w : World) :
    Calls Try.prog 7 #[.int .i64 n] w fun e w' => e = .returned (.tuple #[.pointer (some ⟨w.heap.size, 0, none⟩), .int .i64 0]) ∧ IsRing w' w.heap.size none n.toNat 0 [] ∧ Below w.heap.size w w' := by
  obtain ⟨m, rfl⟩ : ∃ m : Nat, n = m := ⟨n.toNat, by omega⟩
  go_enter Try.func7, Try.ntmps7
  go_wp2
  go_ret2
  refine ⟨rfl, ⟨0, [], ⟨?_, rfl, by simp, by omega, by omega, by simp, by omega⟩, reads_nil⟩, (Below.refl _ _).alloc (Nat.le_refl _) _⟩
  rw [at_new]; rfl

theorem new_none (n : Int) (h : n < 1 ∨ 1048576 < n) (w : World) :
    Calls Try.prog 7 #[.int .i64 n] w fun e w' => e = .returned (.tuple #[.pointer none, .int .i64 2]) ∧ w = w' := by
  rcases h with h | h
  · go_enter Try.func7, Try.ntmps7
    go_wp2
    go_ret2
    exact ⟨rfl, rfl⟩
  · have h' : ¬ n < 1 := by omega
    go_enter Try.func7, Try.ntmps7
    go_wp2
    go_ret2
    exact ⟨rfl, rfl⟩

theorem len_calls (h : IsRing w b q most gone t) :
    Calls Try.prog 19 #[.pointer (some ⟨b, 0, none⟩)] w fun e w' => e = .returned (.int .i64 t.length) ∧ w = w' := by
  obtain ⟨f, L, hr, hx⟩ := h
  exact len_raw hr
theorem gone_calls (h : IsRing w b q most gone t) :
    Calls Try.prog 18 #[.pointer (some ⟨b, 0, none⟩)] w fun e w' => e = .returned (.int .i64 gone) ∧ w = w' := by
  obtain ⟨f, L, hr, hx⟩ := h
  exact gone_raw hr
theorem room_calls (h : IsRing w b q most gone t) :
    Calls Try.prog 21 #[.pointer (some ⟨b, 0, none⟩)] w fun e w' => e = .returned (.int .i64 ((most : Int) - t.length)) ∧ Drew w w' := by
  have := h.len
  obtain ⟨f, L, hr, hx⟩ := h
  exact room_raw hr this.1

/-- the number that n stands for, of so many -/
def upto (n : Int) (t : List UInt8) : Nat := min n.toNat t.length

theorem within_calls (h : IsRing w b q most gone t) (n : Int) :
    Calls Try.prog 24 #[.pointer (some ⟨b, 0, none⟩), .int .i64 n] w fun e w' => e = .returned (.int .i64 (upto n t)) ∧ w = w' := by
  have := h.len
  obtain ⟨f, L, hr, hx⟩ := h
  exact within_raw hr n (by omega)

theorem drop_end {w : World} {b p f : Nat} {L : List UInt8} (hr : Raw w b (some p) most gone f t.length L) (hx : Reads L f t) (k : Nat) (h0 : 0 < k) (h1 : k ≤ t.length) (hg : gone + k ≤ 4611686018427387904) :
    IsRing (((w.setCell ⟨b, 2, none⟩ (.int .i64 (((f : Int) + k) % L.length))).setCell ⟨b, 3, none⟩ (.int .i64 ((t.length : Int) - k))).setCell ⟨b, 4, none⟩ (.int .i64 ((gone : Int) + k))) b (some p) most (gone + k) (t.drop k) := by
  refine ⟨(f + k) % L.length, L, ⟨?_, ?_, hr.ne, hr.m1, hr.m2, hr.lm, hg⟩, reads_drop hx h1 h0⟩
  · rw [at_set (at_set (at_set hr.blk 2 _) 3 _) 4 _]
    have e2 : ((f : Int) + k) % L.length = (((f + k) % L.length : Nat) : Int) := by simp
    rw [e2]
    have e : (((t.drop k).length : Nat) : Int) = (t.length : Int) - k := by simp; omega
    rw [e]
    simp
  · have hne : p ≠ b := fun e => hr.ne (by rw [e])
    exact ⟨by rw [at_set_other _ hne, at_set_other _ hne, at_set_other _ hne]; exact hr.row.1, hr.row.2⟩

theorem some_of {f : Nat} {L : List UInt8} (hr : Raw w b q most gone f t.length L) (hx : Reads L f t) (h : 0 < t.length) : ∃ p, q = some p := by
  cases q with
  | none => have := hr.row; simp only [Place] at this; subst this; have h1 := hx.1; simp at h1; subst h1; simp at h
  | some p => exact ⟨p, rfl⟩

theorem drop_calls (h : IsRing w b q most gone t) (n : Int) (hg : gone + t.length ≤ 4611686018427387904) :
    Calls Try.prog 15 #[.pointer (some ⟨b, 0, none⟩), .int .i64 n] w fun e w' => e = .returned (.int .i64 (upto n t)) ∧
      IsRing w' b q most (gone + upto n t) (t.drop (upto n t)) ∧ Out (fun k => k = b) w w' := by
  have HW := Lib.hid (within_calls h n)
  have hk : upto n t ≤ t.length := Nat.min_le_right _ _
  generalize upto n t = k at *
  by_cases h0 : k = 0
  · subst h0
    have HR := Lib.hid h; clear h
    go_enter Try.func15, Try.ntmps15
    go_wp2_with (go_at_call 24; refine HW.out.mono ?_; rintro e w' ⟨rfl, rfl⟩)
    go_ret
    exact ⟨rfl, HR.out, Out.refl _ _⟩
  · have hz : ((k : Int) == 0) = false := by rw [beq_eq_false_iff_ne]; omega
    have hl := h.len
    obtain ⟨f, L, hr, hx⟩ := h
    obtain ⟨p, rfl⟩ := some_of hr hx (by omega)
    have HA := Lib.hid (around_raw p hr k (by have := reads_pos hx (by omega); omega) (reads_pos hx (by omega)) (by omega) (by omega))
    obtain ⟨c0, c1, c2, c3, c4⟩ := hr.cells
    have z2 := hr.free 2
    have z3 := hr.free 3
    have z4 := hr.free 4
    have HR := Lib.hid hr; clear hr
    have HX := Lib.hid hx; clear hx
    go_enter Try.func15, Try.ntmps15
    go_wp2_with (first | (go_at_call 24; refine HW.out.mono ?_; rintro e w' ⟨rfl, rfl⟩) | (go_at_call 26; refine HA.out.mono ?_; rintro e w' ⟨rfl, nq, rfl⟩))
    go_ret
    refine ⟨rfl, ?_, ?_⟩
    · exact drop_end (w := w.drewN nq) (HR.out.move rfl fun _ _ => rfl) HX.out k (by omega) hk (by omega)
    · exact ((((Out.refl (fun k => k = b) w).drewN nq).setCell (p := ⟨b, 2, none⟩) (fun _ => rfl) _).setCell (p := ⟨b, 3, none⟩) (fun _ => rfl) _).setCell (p := ⟨b, 4, none⟩) (fun _ => rfl) _

theorem peek_calls (h : IsRing w b q most gone t) (n : Int) :
    Calls Try.prog 14 #[.pointer (some ⟨b, 0, none⟩), .int .i64 n] w fun e w' => e = .returned (.string ⟨(t.take (upto n t)).toArray⟩) ∧ Below w.heap.size w w' := by
  have HW := Lib.hid (within_calls h n)
  have hk : upto n t ≤ t.length := Nat.min_le_right _ _
  generalize upto n t = k at *
  by_cases h0 : k = 0
  · subst h0
    clear h
    go_enter Try.func14, Try.ntmps14
    go_wp2_with (go_at_call 24; refine HW.out.mono ?_; rintro e w' ⟨rfl, rfl⟩)
    go_ret
    exact ⟨rfl, Below.refl _ _⟩
  · have hz : ((k : Int) == 0) = false := by rw [beq_eq_false_iff_ne]; omega
    have hl := h.len
    have hlt := h.lt
    obtain ⟨f, L, hr, hx⟩ := h
    obtain ⟨p, rfl⟩ := some_of hr hx (by omega)
    have hf := reads_pos hx (by omega)
    have hp := hr.ltq rfl
    have hb := hr.lt
    have HL : Hid (f < L.length) := Lib.hid hf
    clear hf
    have hmk := fun W => make_bytes W k k rfl (by omega)
    have HR := Lib.hid hr; clear hr
    have HX := Lib.hid hx; clear hx
    have hl1 := hl.1
    have hl2 := hl.2.1
    clear hl hlt
    go_enter Try.func14, Try.ntmps14
    go_wp2_with (go_at_call 24; refine HW.out.mono ?_; rintro e w' ⟨rfl, rfl⟩)
    refine (fill_raw p (HR.out.out (S := fun _ => False) (by exact ((Out.refl _ _).alloc _)) (by simp) (by simp)) HX.out w.heap.size 0 k k (bv (List.replicate k 0)) 5 (by exact at_new _ _) (by omega) (by omega) (by rw [bv_len]; simp) hk HL.out (Nat.le_refl _) (by omega)).mono ?_
    rintro e w1 ⟨rfl, hg1, hO1⟩
    have hO2 : Out (fun k => k = w.heap.size) w w1 := ((Out.refl _ _).alloc _).trans hO1 (fun _ _ h => h)
    have hB : Below w.heap.size w w1 := hO2.below (Nat.le_refl _) (fun i e => by omega)
    have hcv := run_convert_bytes_back (P := Try.prog) w1 51 9 5 ⟨w.heap.size, 0, none⟩ k (t.take k) Try.underlying51 Try.underlying5 Try.underlying9 (fun j hj => by
      have : (⟨w.heap.size, 0, none⟩ : Addr).add j = ⟨w.heap.size, j, none⟩ := by unfold Addr.add; split <;> simp_all
      rw [this, at_cell hg1, List.getElem?_toArray, splice_get _ _ _ _ (by simp [bv_len]; omega), if_neg (by omega), if_pos (by rw [bv_len]; omega), bv_get, Nat.sub_zero, List.getElem?_eq_getElem hj]
      rfl)
    have hlk : (t.take k).length = k := by simp; omega
    rw [hlk] at hcv
    clear hO1 hmk hg1 hO2 hlk
    go_wp2_with fail
    go_ret
    exact ⟨rfl, hB⟩

theorem text_calls (h : IsRing w b q most gone t) :
    Calls Try.prog 17 #[.pointer (some ⟨b, 0, none⟩)] w fun e w' => e = .returned (.string ⟨t.toArray⟩) ∧ Below w.heap.size w w' := by
  have HL := Lib.hid (len_calls h)
  have HP := Lib.hid (peek_calls h t.length)
  have HU : Hid (t.take (upto t.length t) = t) := Lib.hid (by rw [upto, Int.toNat_natCast, Nat.min_self]; exact List.take_of_length_le (Nat.le_refl _))
  clear h
  go_enter Try.func17, Try.ntmps17
  go_wp2_with (first | (go_at_call 19; refine HL.out.mono ?_; rintro e w' ⟨rfl, rfl⟩) | (go_at_call 14; refine HP.out.mono ?_; rintro e w' ⟨rfl, hb⟩))
  go_ret
  exact ⟨ret_string (by rw [HU.out]), hb⟩

theorem take_calls (h : IsRing w b q most gone t) (n : Int) (hg : gone + t.length ≤ 4611686018427387904) :
    Calls Try.prog 13 #[.pointer (some ⟨b, 0, none⟩), .int .i64 n] w fun e w' => e = .returned (.string ⟨(t.take (upto n t)).toArray⟩) ∧
      IsRing w' b q most (gone + upto n t) (t.drop (upto n t)) ∧ Out (fun k => k = b) w w' := by
  have HP := Lib.hid (peek_calls h n)
  have HD : Hid (∀ w1, Below w.heap.size w w1 → Calls Try.prog 15 #[.pointer (some ⟨b, 0, none⟩), .int .i64 n] w1 fun e w' => e = .returned (.int .i64 (upto n t)) ∧
      IsRing w' b q most (gone + upto n t) (t.drop (upto n t)) ∧ Out (fun k => k = b) w1 w') := Lib.hid fun w1 hb => drop_calls (h.below hb) n hg
  clear h
  go_enter Try.func13, Try.ntmps13
  go_wp2_with (first | (go_at_call 14; refine HP.out.mono ?_; rintro e w1 ⟨rfl, hb⟩) | (go_at_call 15; refine (HD.out _ hb).mono ?_; rintro e w2 ⟨rfl, hr, ho⟩))
  go_ret
  exact ⟨rfl, hr, (Out.ofNew hb).trans ho fun _ _ h => h⟩

theorem at_some (h : IsRing w b q most gone t) (i : Nat) (hi : i < t.length) :
    Calls Try.prog 20 #[.pointer (some ⟨b, 0, none⟩), .int .i64 i] w fun e w' => e = .returned (.tuple #[.int .u8 (t[i].toNat : Int), .bool true]) ∧ Drew w w' := by
  have HL := Lib.hid (len_calls h)
  have hl := h.len
  have hl1 := hl.1
  have hl2 := hl.2.1
  clear hl
  obtain ⟨f, L, hr, hx⟩ := h
  obtain ⟨p, rfl⟩ := some_of hr hx (by omega)
  have hf := reads_pos hx (by omega)
  obtain ⟨c0, c1, c2, c3, c4⟩ := hr.cells
  unfold placeV at c1
  obtain ⟨x, hxe⟩ : ∃ x, x = (f + i) % L.length := ⟨_, rfl⟩
  have HA : Hid (∀ W, W.heap = w.heap → Calls Try.prog 26 #[.pointer (some ⟨b, 0, none⟩), .int .i64 (i : Int)] W fun e w' => e = .returned (.int .i64 (x : Int)) ∧ Drew W w') :=
    Lib.hid fun W hW => by
      have := around_raw p (hr.move (w' := W) (by rw [hW]) (fun k _ => by rw [hW])) i (by omega) hf (by omega) (by omega)
      rw [Int.toNat_natCast, ← hxe] at this
      exact this
  have hxl : x < L.length := by rw [hxe]; exact Nat.mod_lt _ (by omega)
  have hcell : w.cell? ⟨p, x, none⟩ = some (.int .u8 (t[i].toNat : Int)) := by
    rw [at_cell hr.row.1, List.getElem?_toArray, bv_get, hxe, reads_at hx hi]; rfl
  have i0 : (0 : Int) ≤ (i : Int) := by omega
  have i1 : (i : Int) < (t.length : Int) := by omega
  have x0 : (0 : Int) ≤ (x : Int) := by omega
  have x1 : (x : Int) < (L.length : Int) := by omega
  clear hr hx hxe hf
  generalize L.length = n at *
  generalize t[i] = c at *
  go_enter Try.func20, Try.ntmps20
  go_wp2_with (go_at_call 19; refine HL.out.mono ?_; rintro e w' ⟨rfl, rfl⟩)
  go_quiet ((go_at_call 26; exact Calls.quiet_of (HA.out _ rfl)))
  go_wp2
  go_ret2
  exact ⟨rfl, _, rfl⟩

theorem at_none (h : IsRing w b q most gone t) (i : Int) (hi : i < 0 ∨ t.length ≤ i) :
    Calls Try.prog 20 #[.pointer (some ⟨b, 0, none⟩), .int .i64 i] w fun e w' => e = .returned (.tuple #[.int .u8 0, .bool false]) ∧ w = w' := by
  have HL := Lib.hid (len_calls h)
  clear h
  by_cases h0 : i < 0
  · clear hi
    go_enter Try.func20, Try.ntmps20
    go_wp2_with (go_at_call 19; refine HL.out.mono ?_; rintro e w' ⟨rfl, rfl⟩)
    go_ret2
    exact ⟨rfl, rfl⟩
  · have h1 : (t.length : Int) ≤ i := by omega
    clear hi
    go_enter Try.func20, Try.ntmps20
    go_wp2_with (go_at_call 19; refine HL.out.mono ?_; rintro e w' ⟨rfl, rfl⟩)
    go_ret2
    exact ⟨rfl, rfl⟩
end
end Go.Proofs.Ytgbelgmnenbmcaa.Ring

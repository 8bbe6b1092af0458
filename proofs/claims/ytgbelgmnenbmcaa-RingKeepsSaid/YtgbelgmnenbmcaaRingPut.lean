/-
  Layer 4 (ring): the program's Put and Force, and the calls of a ring that is nil, walked.
-/
import Derived.Test.YtgbelgmnenbmcaaRingOps
import Derived.Lib.IndexBytes
namespace Go.Proofs.Ytgbelgmnenbmcaa.Ring
open Go.RowKit Go.Proofs.Ytgbelgmnenbmcaa.Own

section
variable {w : World} {b : Nat} {q : Option Nat} {most gone : Nat} {t : List UInt8}

/-- a ring behind a call: what it holds, where, and that nothing else has turned -/
def Now (b : Nat) (q : Option Nat) (most gone : Nat) (t : List UInt8) (w w' : World) : Prop :=
  ∃ q', IsRing w' b q' most gone t ∧ (q' = q ∨ ∀ p, q' = some p → w.heap.size ≤ p) ∧ Out (two b q) w w'

theorem put_some (h : IsRing w b q most gone t) (s : ByteArray) (hs : t.length + s.size ≤ most) :
    Calls Try.prog 9 #[.pointer (some ⟨b, 0, none⟩), .string s] w fun e w' => e = .returned (.bool true) ∧ Now b q most gone (t ++ s.data.toList) w w' := by
  have hl := h.len
  have hl1 := hl.1
  have hl2 := hl.2.1
  clear hl
  have HR := Lib.hid h
  have HM := Lib.hid (room_calls h)
  clear h
  go_enter Try.func9, Try.ntmps9
  go_wp2_with (first | (go_at_call 21; refine HM.out.mono ?_; rintro e w' ⟨rfl, nq, rfl⟩) | (go_at_call 23; refine (extend_calls (HR.out.drew ⟨nq, rfl⟩) s hs).mono ?_; rintro e w2 ⟨rfl, q', hr, hq, ho⟩))
  go_ret
  exact ⟨rfl, q', hr, hq, ho.ofDrewN⟩

theorem put_none (h : IsRing w b q most gone t) (s : ByteArray) (hs : most < t.length + s.size) :
    Calls Try.prog 9 #[.pointer (some ⟨b, 0, none⟩), .string s] w fun e w' => e = .returned (.bool false) ∧ Drew w w' := by
  have hl := h.len
  have hl1 := hl.1
  have hl2 := hl.2.1
  clear hl
  have HM := Lib.hid (room_calls h)
  clear h
  go_enter Try.func9, Try.ntmps9
  go_wp2_with (go_at_call 21; refine HM.out.mono ?_; rintro e w' ⟨rfl, nq, rfl⟩)
  go_ret
  exact ⟨rfl, nq, rfl⟩

theorem now_of {w1 w2 : World} {q' : Option Nat} (ho1 : Out (fun k => k = b) w w1) (hr : IsRing w2 b q' most gone t) (hq : q' = q ∨ ∀ p, q' = some p → w1.heap.size ≤ p) (ho : Out (two b q) w1 w2) : Now b q most gone t w w2 :=
  ⟨q', hr, hq.imp id fun h p e => Nat.le_trans ho1.size (h p e), (ho1.mono (S' := two b q) fun _ _ e => .inl e).trans ho fun _ _ h => h⟩
theorem IsRing.cell4 (h : IsRing w b q most gone t) : w.cell? ⟨b, 4, none⟩ = some (.int .i64 (gone : Int)) ∧ w.frozen? ⟨b, 4, none⟩ = false := by
  obtain ⟨f, L, hr, hx⟩ := h
  exact ⟨hr.cells.2.2.2.2, hr.free 4⟩
theorem IsRing.set4 (h : IsRing w b q most gone t) (g : Nat) (hg : g ≤ 4611686018427387904) : IsRing (w.setCell ⟨b, 4, none⟩ (.int .i64 (g : Int))) b q most g t := by
  obtain ⟨f, L, hr, hx⟩ := h
  refine ⟨f, L, ⟨?_, ?_, hr.ne, hr.m1, hr.m2, hr.lm, hg⟩, hx⟩
  · rw [at_set hr.blk 4 _]; rfl
  · have := hr.row
    have hne := hr.ne
    cases q with
    | none => exact this
    | some p => exact ⟨by rw [at_set_other _ (fun e => hne (by rw [e]))]; exact this.1, this.2⟩

set_option maxHeartbeats 400000 in
theorem force_a (h : IsRing w b q most gone t) (s : ByteArray) (hs : t.length + s.size ≤ most) (hg : gone + t.length ≤ 4611686018427387904) :
    Calls Try.prog 11 #[.pointer (some ⟨b, 0, none⟩), .string s] w fun e w' => e = .returned (.int .i64 0) ∧ Now b q most gone (t ++ s.data.toList) w w' := by
  have hl := h.len
  have hl1 := hl.1
  have hl2 := hl.2.1
  clear hl
  have HR := Lib.hid h
  have HM := Lib.hid (room_calls h)
  clear h
  have hov : ¬ (0 : Int) < (s.size : Int) - ((most : Int) - t.length) := by omega
  go_enter Try.func11, Try.ntmps11
  go_wp2_with (go_at_call 21; refine HM.out.mono ?_; rintro e w' ⟨rfl, nq, rfl⟩)
  refine (drop_calls (HR.out.drew ⟨nq, rfl⟩) (0 : Int) hg).mono ?_
  rintro e w1 ⟨rfl, hr1, ho1⟩
  obtain ⟨k, hk⟩ : ∃ k, k = upto (0 : Int) t := ⟨_, rfl⟩
  rw [← hk] at hr1 ⊢
  have hkl : k ≤ t.length := by rw [hk]; exact Nat.min_le_right _ _
  have hkn : k ≤ 0 := by rw [hk]; exact Nat.le_trans (Nat.min_le_left _ _) (by omega)
  have hke : k = t.length ∨ k = 0 := by rw [hk]; unfold upto; omega
  clear hk
  have HE := Lib.hid hke; clear hke
  obtain ⟨g4, z4⟩ := hr1.cell4
  have HR1 := Lib.hid hr1; clear hr1
  have HO1 := Lib.hid ho1.ofDrewN; clear ho1
  have p0 : (0 : Int) ≤ (0 : Int) - (k : Int) := by omega
  have p1 : (0 : Int) - (k : Int) ≤ (s.size : Int) := by omega
  have e0 : ((0 : Int) - (k : Int)) = 0 := by omega
  obtain rfl : k = 0 := by omega
  go_wp2_with fail
  go_still_tail 6, (by kernel_rfl)
  change wpList _ _ _ _ _ (World.drew _)
  have hr2 : IsRing (w1.setCell ⟨b, 4, none⟩ (.int .i64 (gone : Int))) b q most gone t := IsRing.set4 (t := t) HR1.out gone (by omega)
  have HR2 := Lib.hid hr2; clear hr2
  go_wp2_with fail
  refine (extend_calls (HR2.out.drew ⟨1, rfl⟩) s hs).mono ?_
  rintro e w2 ⟨rfl, q', hr, hq, ho⟩
  go_wp2_with fail
  go_ret
  exact ⟨rfl, now_of (HO1.out.setCell (p := ⟨b, 4, none⟩) (fun _ => rfl) _).drew hr hq ho⟩

set_option maxHeartbeats 400000 in
theorem force_b (h : IsRing w b q most gone t) (s : ByteArray) (o : Nat) (ho : t.length + s.size = most + o) (h0 : 0 < o) (hsz : s.size ≤ 9223372036854775807) (hg : gone + t.length + s.size ≤ 4611686018427387904) :
    Calls Try.prog 11 #[.pointer (some ⟨b, 0, none⟩), .string s] w fun e w' => e = .returned (.int .i64 (o : Int)) ∧ Now b q most (gone + o) ((t ++ s.data.toList).drop o) w w' := by
  have hl := h.len
  have hl1 := hl.1
  have hl2 := hl.2.1
  clear hl
  have HR := Lib.hid h
  have HM := Lib.hid (room_calls h)
  clear h
  have hov : (0 : Int) < (s.size : Int) - ((most : Int) - t.length) := by omega
  go_enter Try.func11, Try.ntmps11
  go_wp2_with (go_at_call 21; refine HM.out.mono ?_; rintro e w' ⟨rfl, nq, rfl⟩)
  rw [show (s.size : Int) - ((most : Int) - t.length) = (o : Int) by omega]
  refine (drop_calls (HR.out.drew ⟨nq, rfl⟩) (o : Int) (by omega)).mono ?_
  rintro e w1 ⟨rfl, hr1, ho1⟩
  obtain ⟨k, hk⟩ : ∃ k, k = upto (o : Int) t := ⟨_, rfl⟩
  rw [← hk] at hr1 ⊢
  have hkl : k ≤ t.length := by rw [hk]; exact Nat.min_le_right _ _
  have hkn : k ≤ o := by rw [hk]; exact Nat.le_trans (Nat.min_le_left _ _) (by omega)
  have hke : k = t.length ∨ k = o := by rw [hk]; unfold upto; omega
  clear hk
  have HE := Lib.hid hke; clear hke
  obtain ⟨g4, z4⟩ := hr1.cell4
  have HR1 := Lib.hid hr1; clear hr1
  have HO1 := Lib.hid ho1.ofDrewN; clear ho1
  have p0 : (0 : Int) ≤ (o : Int) - (k : Int) := by omega
  have p1 : (o : Int) - (k : Int) ≤ (s.size : Int) := by omega
  go_wp2_with fail
  go_still_tail 6, (by kernel_rfl)
  change wpList _ _ _ _ _ (World.drew _)
  have hr2 : IsRing (w1.setCell ⟨b, 4, none⟩ (.int .i64 ((gone + o : Nat) : Int))) b q most (gone + o) (t.drop k) := HR1.out.set4 (gone + o) (by omega)
  have HR2 := Lib.hid hr2; clear hr2
  have hx : t.drop k ++ (s.extract (o - k) s.size).data.toList = (t ++ s.data.toList).drop o := by
    rw [Lib.extract_to_end, List.drop_append]
    rcases HE.out with e | e
    · rw [show t.drop k = [] from List.drop_eq_nil_of_le (by omega), show t.drop o = [] from List.drop_eq_nil_of_le (by omega), e]
    · rw [e, Nat.sub_self, Nat.sub_eq_zero_of_le (show o ≤ t.length by omega)]
  have HX := Lib.hid hx; clear hx
  go_wp2_with fail
  rw [show ((gone : Int) + k + ((o : Int) - k)) = ((gone + o : Nat) : Int) by omega]
  refine (extend_calls (HR2.out.drew ⟨1, rfl⟩) (s.extract (o - k) s.size) (by simp; omega)).mono ?_
  rintro e w2 ⟨rfl, q', hr, hq, ho⟩
  rw [HX.out] at hr
  have HF := Lib.hid (now_of (HO1.out.setCell (p := ⟨b, 4, none⟩) (fun _ => rfl) _).drew hr hq ho)
  clear hr hq ho
  go_wp2_with fail
  go_ret
  exact ⟨rfl, HF.out⟩

theorem nil_len (w : World) : Calls Try.prog 19 #[.pointer none] w fun e w' => e = .returned (.int .i64 0) ∧ w = w' := by
  go_enter Try.func19, Try.ntmps19
  go_wp2_with fail
  go_ret
  exact ⟨rfl, rfl⟩
theorem nil_room (w : World) : Calls Try.prog 21 #[.pointer none] w fun e w' => e = .returned (.int .i64 0) ∧ w = w' := by
  go_enter Try.func21, Try.ntmps21
  go_wp2_with fail
  go_ret
  exact ⟨rfl, rfl⟩
theorem nil_gone (w : World) : Calls Try.prog 18 #[.pointer none] w fun e w' => e = .returned (.int .i64 0) ∧ w = w' := by
  go_enter Try.func18, Try.ntmps18
  go_wp2_with fail
  go_ret
  exact ⟨rfl, rfl⟩
theorem nil_within (n : Int) (w : World) : Calls Try.prog 24 #[.pointer none, .int .i64 n] w fun e w' => e = .returned (.int .i64 0) ∧ w = w' := by
  by_cases h : n < 0
  · go_enter Try.func24, Try.ntmps24
    go_wp2_with (go_at_call 19; refine (nil_len _).mono ?_; rintro e w' ⟨rfl, rfl⟩)
    all_goals (go_ret; exact ⟨ret_int (by first | omega | (split at * <;> omega)), rfl⟩)
  · go_enter Try.func24, Try.ntmps24
    go_wp2_with (go_at_call 19; refine (nil_len _).mono ?_; rintro e w' ⟨rfl, rfl⟩)
    all_goals (go_ret; exact ⟨ret_int (by first | omega | (split at * <;> omega)), rfl⟩)
theorem nil_peek (n : Int) (w : World) : Calls Try.prog 14 #[.pointer none, .int .i64 n] w fun e w' => e = .returned (.string ⟨#[]⟩) ∧ w = w' := by
  go_enter Try.func14, Try.ntmps14
  go_wp2_with (go_at_call 24; refine (nil_within _ _).mono ?_; rintro e w' ⟨rfl, rfl⟩)
  go_ret
  exact ⟨rfl, rfl⟩
theorem nil_drop (n : Int) (w : World) : Calls Try.prog 15 #[.pointer none, .int .i64 n] w fun e w' => e = .returned (.int .i64 0) ∧ w = w' := by
  go_enter Try.func15, Try.ntmps15
  go_wp2_with (go_at_call 24; refine (nil_within _ _).mono ?_; rintro e w' ⟨rfl, rfl⟩)
  go_ret
  exact ⟨rfl, rfl⟩
theorem nil_take (n : Int) (w : World) : Calls Try.prog 13 #[.pointer none, .int .i64 n] w fun e w' => e = .returned (.string ⟨#[]⟩) ∧ w = w' := by
  go_enter Try.func13, Try.ntmps13
  go_wp2_with (first | (go_at_call 14; refine (nil_peek _ _).mono ?_; rintro e w' ⟨rfl, rfl⟩) | (go_at_call 15; refine (nil_drop _ _).mono ?_; rintro e w' ⟨rfl, rfl⟩))
  go_ret
  exact ⟨rfl, rfl⟩
theorem nil_text (w : World) : Calls Try.prog 17 #[.pointer none] w fun e w' => e = .returned (.string ⟨#[]⟩) ∧ w = w' := by
  go_enter Try.func17, Try.ntmps17
  go_wp2_with (first | (go_at_call 19; refine (nil_len _).mono ?_; rintro e w' ⟨rfl, rfl⟩) | (go_at_call 14; refine (nil_peek _ _).mono ?_; rintro e w' ⟨rfl, rfl⟩))
  go_ret
  exact ⟨rfl, rfl⟩
theorem nil_put (s : ByteArray) (w : World) : Calls Try.prog 9 #[.pointer none, .string s] w fun e w' => e = .returned (.bool false) ∧ w = w' := by
  go_enter Try.func9, Try.ntmps9
  go_wp2_with fail
  go_ret
  exact ⟨rfl, rfl⟩
theorem nil_force (s : ByteArray) (w : World) : Calls Try.prog 11 #[.pointer none, .string s] w fun e w' => e = .returned (.int .i64 0) ∧ w = w' := by
  go_enter Try.func11, Try.ntmps11
  go_wp2_with fail
  go_ret
  exact ⟨rfl, rfl⟩
theorem nil_at (i : Int) (w : World) : Calls Try.prog 20 #[.pointer none, .int .i64 i] w fun e w' => e = .returned (.tuple #[.int .u8 0, .bool false]) ∧ w = w' := by
  by_cases h : i < 0
  · go_enter Try.func20, Try.ntmps20
    go_wp2_with (go_at_call 19; refine (nil_len _).mono ?_; rintro e w' ⟨rfl, rfl⟩)
    go_ret2
    exact ⟨rfl, rfl⟩
  · go_enter Try.func20, Try.ntmps20
    go_wp2_with (go_at_call 19; refine (nil_len _).mono ?_; rintro e w' ⟨rfl, rfl⟩)
    go_ret2
    exact ⟨rfl, rfl⟩
end
end Go.Proofs.Ytgbelgmnenbmcaa.Ring

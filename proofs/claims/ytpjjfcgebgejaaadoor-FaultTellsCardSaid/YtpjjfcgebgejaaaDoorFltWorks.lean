/-
  Layer 9 (fault): the law's example.
-/
import Derived.Test.YtpjjfcgebgejaaaDoorFltMade
namespace Go.Proofs.YtpjjfcgebgejaaaDoor.Flt
open Go.RowKit Go.Proofs.YtpjjfcgebgejaaaDoor.Own Go.Proofs.YtpjjfcgebgejaaaDoor.Digit

def layA (k : Nat) : Lay := ⟨k, 7, [108, 105, 110, 101, 115]⟩
def layB (k : Nat) : Lay := ⟨k, 0, [99, 111, 110, 115, 111, 108, 101, 32, 97]⟩
def layC (k : Nat) : Lay := ⟨k, 9, []⟩
theorem dec_7 : dec 7 = [55] := by simp [dec, decN, hexd]
theorem dec_99 : dec 99 = [57, 57] := by simp [dec, decN, hexd]
theorem text_b (i j : Nat) : textL [layB i, layA j] 2 = [99, 111, 110, 115, 111, 108, 101, 32, 97, 58, 32, 108, 105, 110, 101, 32, 55, 58, 32, 108, 105, 110, 101, 115, 58, 32, 114, 97, 110, 103, 101] := by
  simp [textL, pieces, full, layA, layB, placeL, wordL, wordsL, dec_7, Lib.join, List.intercalate, sep]
theorem text_none : textL [] 0 = [] := rfl
theorem word_12 : wordL 12 = [100, 101, 118, 105, 99, 101] := rfl
theorem word_99 : wordL 99 = [99, 111, 100, 101, 32, 57, 57] := by rw [wordL_out (.inr (by omega)), dec_99]; rfl
theorem line_b (i j : Nat) : lineOf [layB i, layA j] = 7 := rfl
theorem line_c (i j k : Nat) : lineOf [layC k, layB i, layA j] = 9 := rfl

/-- the example's errors -/
structure Ex (w W : World) (vb vc : Value) : Prop where
  below : Below w.heap.size w W
  tab : Tab W
  b : ∃ i j, Err W W.heap.size vb [layB i, layA j] 2
  c : ∃ i j k, Err W W.heap.size vc [layC k, layB i, layA j] 2
theorem Ex.below' {w W W' : World} {vb vc : Value} (h : Ex w W vb vc) (hb : Below W.heap.size W W') : Ex w W' vb vc := by
  obtain ⟨i, j, hB⟩ := h.b
  obtain ⟨i', j', k', hC⟩ := h.c
  exact ⟨h.below.trans (hb.mono h.below.size), h.tab.below hb, ⟨i, j, (hB.below hb (Nat.le_refl _)).more hb.size⟩, ⟨i', j', k', (hC.below hb (Nat.le_refl _)).more hb.size⟩⟩
section
variable {w W : World} {vb vc : Value} (h : Ex w W vb vc)
include h
theorem ex_of : Calls Tryd.prog 8 #[vc] W fun e w' => e = .returned (.int .i64 2) ∧ Ex w w' vb vc := by
  obtain ⟨i, j, k, hC⟩ := h.c
  exact (of_calls _ _ _ _ _ (.inr hC) (Nat.le_refl _) h.tab).mono fun e w' ⟨he, hb⟩ => ⟨he, h.below' hb⟩
theorem ex_lineb : Calls Tryd.prog 9 #[vb] W fun e w' => e = .returned (.int .i64 7) ∧ Ex w w' vb vc := by
  obtain ⟨i, j, hC⟩ := h.b
  exact (line_calls _ _ _ _ _ (.inr hC) (Nat.le_refl _) h.tab (by simp)).mono fun e w' ⟨he, hb⟩ => ⟨he, h.below' hb⟩
theorem ex_linec : Calls Tryd.prog 9 #[vc] W fun e w' => e = .returned (.int .i64 9) ∧ Ex w w' vb vc := by
  obtain ⟨i, j, k, hC⟩ := h.c
  exact (line_calls _ _ _ _ _ (.inr hC) (Nat.le_refl _) h.tab (by simp)).mono fun e w' ⟨he, hb⟩ => ⟨he, h.below' hb⟩
theorem ex_has (a : Int) : Calls Tryd.prog 11 #[vc, .int .i64 a] W fun e w' => e = .returned (.bool (hasB 2 a)) ∧ W = w' := by
  obtain ⟨i, j, k, hC⟩ := h.c
  exact has_calls _ _ _ a _ _ (.inr hC)
theorem ex_text : Calls Tryd.prog 10 #[vb] W fun e w' => e = .returned (.string ⟨#[99, 111, 110, 115, 111, 108, 101, 32, 97, 58, 32, 108, 105, 110, 101, 32, 55, 58, 32, 108, 105, 110, 101, 115, 58, 32, 114, 97, 110, 103, 101]⟩) ∧ Ex w w' vb vc := by
  obtain ⟨i, j, hC⟩ := h.b
  refine (text_calls _ _ _ _ _ (.inr hC) (Nat.le_refl _) h.tab (by simp) ?_ (by omega) (by omega) (by rw [text_b]; decide)).mono fun _ _ ⟨he, hb⟩ => ⟨by rw [he, text_b], h.below' hb⟩
  intro x hx
  simp only [List.mem_cons, List.not_mem_nil, or_false] at hx
  rcases hx with rfl | rfl <;> simp [layA, layB]
theorem ex_none : Calls Tryd.prog 10 #[.nilIface] W fun e w' => e = .returned (.string ⟨#[]⟩) ∧ Ex w w' vb vc :=
  (text_calls _ [] 0 0 _ (.inl ⟨rfl, rfl, rfl⟩) (Nat.zero_le _) h.tab (by simp) (by simp) (by omega) (by omega) (by rw [text_none]; decide)).mono fun e w' ⟨he, hb⟩ => ⟨he, h.below' hb⟩
theorem ex_ofnil : Calls Tryd.prog 8 #[.nilIface] W fun e w' => e = .returned (.int .i64 0) ∧ Ex w w' vb vc :=
  (of_calls _ [] 0 0 _ (.inl ⟨rfl, rfl, rfl⟩) (Nat.zero_le _) h.tab).mono fun _ _ ⟨he, hb⟩ => ⟨he, h.below' hb⟩
theorem ex_12 : Calls Tryd.prog 22 #[.int .i64 12] W fun e w' => e = .returned (.string ⟨#[100, 101, 118, 105, 99, 101]⟩) ∧ Ex w w' vb vc :=
  (word_calls 12 (by omega) (by omega) _ h.tab).mono fun e w' ⟨he, hb⟩ => ⟨he, h.below' hb⟩
theorem ex_99 : Calls Tryd.prog 22 #[.int .i64 99] W fun e w' => e = .returned (.string ⟨#[99, 111, 100, 101, 32, 57, 57]⟩) ∧ Ex w w' vb vc :=
  (word_calls 99 (by omega) (by omega) _ h.tab).mono fun e w' ⟨he, hb⟩ => ⟨by rw [he, word_99], h.below' hb⟩
end
/-- the example's start -/
theorem ex_start (w : World) (hT : Tab w) :
    Ex w (((w.alloc (.cells #[.int .i64 7, .string ⟨#[108, 105, 110, 101, 115]⟩, .iface 46 (.int .i64 2)] 43)).alloc (.cells #[.int .i64 0, .string ⟨#[99, 111, 110, 115, 111, 108, 101, 32, 97]⟩, .iface 41 (.pointer (some ⟨w.heap.size, 0, none⟩))] 43)).alloc
      (.cells #[.int .i64 9, .string ⟨#[]⟩, .iface 41 (.pointer (some ⟨w.heap.size + 1, 0, none⟩))] 43))
      (.iface 41 (.pointer (some ⟨w.heap.size + 1, 0, none⟩))) (.iface 41 (.pointer (some ⟨w.heap.size + 1 + 1, 0, none⟩))) := by
  have e1 := Err.wrap (w := w) (N := 0) (v := .iface 46 (.int .i64 2)) (l := []) (c := 2) rfl (Nat.zero_le _) 7 ⟨#[108, 105, 110, 101, 115]⟩
  generalize hw1 : w.alloc _ = w1 at e1 ⊢
  have s1 : w1.heap.size = w.heap.size + 1 := by rw [← hw1]; simp
  have b1 : Below w.heap.size w w1 := by rw [← hw1]; exact (Below.refl _ _).alloc (Nat.le_refl _) _
  have e2 := e1.wrap (by omega) 0 ⟨#[99, 111, 110, 115, 111, 108, 101, 32, 97]⟩
  generalize hw2 : w1.alloc _ = w2 at e2 ⊢
  have s2 : w2.heap.size = w.heap.size + 1 + 1 := by rw [← hw2]; simp [s1]
  have b2 : Below w1.heap.size w1 w2 := by rw [← hw2]; exact (Below.refl _ _).alloc (Nat.le_refl _) _
  rw [s1] at e2
  have e3 := e2.wrap (by omega) 9 ⟨#[]⟩
  generalize hw3 : w2.alloc _ = w3 at e3 ⊢
  have s3 : w3.heap.size = w.heap.size + 1 + 1 + 1 := by rw [← hw3]; simp [s2]
  have b3 : Below w2.heap.size w2 w3 := by rw [← hw3]; exact (Below.refl _ _).alloc (Nat.le_refl _) _
  rw [s2] at e3
  have b12 := b1.trans (b2.mono b1.size)
  have b13 := b12.trans (b3.mono b12.size)
  exact ⟨b13, hT.below b13, ⟨_, _, (e2.below b3 (by omega)).more (by omega)⟩, ⟨_, _, _, e3.more (by omega)⟩⟩
theorem has_2 : hasB 2 2 = true := rfl
theorem has_3 : hasB 2 3 = false := rfl

set_option maxRecDepth 100000 in
set_option maxHeartbeats 2000000 in
theorem works_calls (w : World) (hT : Tab w) :
    Calls Tryd.prog 6 #[] w fun e w' => e = .returned (.bool true) ∧ Below w.heap.size w w' := by
  have HX := Lib.hid (ex_start w hT)
  clear hT
  go_enter Tryd.func6, Tryd.ntmps6
  go_wp2_with fail
  refine (new_some _ _ _ (by omega) _).mono ?_
  rintro e w' ⟨rfl, rfl⟩
  go_wp2_with fail
  refine (wrap_some _ _ _ _ _).mono ?_
  rintro e w' ⟨rfl, rfl⟩
  go_wp2_with fail
  refine (wrap_some _ _ _ _ _).mono ?_
  rintro e w' ⟨rfl, rfl⟩
  go_wp2_with fail
  refine (ex_ofnil HX.out).mono ?_
  rintro e w2 ⟨rfl, h2⟩
  replace HX := Lib.hid h2
  clear h2
  go_wp2_with fail
  refine (new_nil _ _ _).mono ?_
  rintro e w' ⟨rfl, rfl⟩
  go_wp2_with fail
  refine (wrap_nil _ _ _).mono ?_
  rintro e w' ⟨rfl, rfl⟩
  go_wp2_with fail
  refine (ex_of HX.out).mono ?_
  rintro e w3 ⟨rfl, h2⟩
  replace HX := Lib.hid h2
  clear h2
  go_wp2_with fail
  refine (ex_linec HX.out).mono ?_
  rintro e w4 ⟨rfl, h2⟩
  replace HX := Lib.hid h2
  clear h2
  go_wp2_with fail
  refine (ex_lineb HX.out).mono ?_
  rintro e w5 ⟨rfl, h2⟩
  replace HX := Lib.hid h2
  clear h2
  go_wp2_with fail
  refine (ex_has HX.out 2).mono ?_
  rw [has_2]
  rintro e w' ⟨rfl, rfl⟩
  go_wp2_with fail
  refine (ex_has HX.out 3).mono ?_
  rw [has_3]
  rintro e w' ⟨rfl, rfl⟩
  go_wp2_with fail
  refine (ex_text HX.out).mono ?_
  rintro e w8 ⟨rfl, h2⟩
  replace HX := Lib.hid h2
  clear h2
  go_wp2_with fail
  refine (ex_none HX.out).mono ?_
  rintro e w9 ⟨rfl, h2⟩
  replace HX := Lib.hid h2
  clear h2
  go_wp2_with fail
  refine (ex_12 HX.out).mono ?_
  rintro e w10 ⟨rfl, h2⟩
  replace HX := Lib.hid h2
  clear h2
  go_wp2_with fail
  refine (ex_99 HX.out).mono ?_
  rintro e w11 ⟨rfl, h2⟩
  replace HX := Lib.hid h2
  clear h2
  go_wp2_with fail
  go_ret
  exact ⟨rfl, HX.out.below⟩
end Go.Proofs.YtpjjfcgebgejaaaDoor.Flt

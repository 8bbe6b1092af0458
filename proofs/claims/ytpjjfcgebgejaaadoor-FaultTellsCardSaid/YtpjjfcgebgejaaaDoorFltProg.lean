/-
  Layer 9 (fault): words, places, New, Wrap, Of, Has, walked.
-/
import Derived.Test.YtpjjfcgebgejaaaDoorFltAsC
import Derived.Test.YtpjjfcgebgejaaaDoorFltIs
import Derived.Test.YtpjjfcgebgejaaaDoorNumP
namespace Go.Proofs.YtpjjfcgebgejaaaDoor.Flt
open Go.RowKit Go.Proofs.YtpjjfcgebgejaaaDoor.Own Go.Proofs.YtpjjfcgebgejaaaDoor.Digit

set_option maxRecDepth 100000 in
set_option maxHeartbeats 1000000 in
theorem word_calls (c : Int) (h1 : -9223372036854775808 ≤ c) (h2 : c ≤ 9223372036854775807) (w : World) (hT : Tab w) :
    Calls Tryd.prog 22 #[.int .i64 c] w fun e w' => e = .returned (.string ⟨(wordL c).toArray⟩) ∧ Below w.heap.size w w' := by
  have hl := dec_len h1 h2
  by_cases hc : c < 0 ∨ 16 ≤ c
  · have HL := Lib.hid (wordL_out hc)
    rcases hc with hc | hc
    · go_enter Tryd.func22, Tryd.ntmps22
      go_wp2_with (go_at_call 31; refine (put_calls _ h1 h2 _).mono ?_; rintro e w' ⟨rfl, hb⟩; replace hb := Lib.hid hb)
      go_ret
      exact ⟨ret_string (by rw [HL.out, ← bytes_add]), hb.out⟩
    · have hc0 : ¬ c < 0 := by omega
      go_enter Tryd.func22, Tryd.ntmps22
      go_wp2_with (go_at_call 31; refine (put_calls _ h1 h2 _).mono ?_; rintro e w' ⟨rfl, hb⟩; replace hb := Lib.hid hb)
      go_ret
      exact ⟨ret_string (by rw [HL.out, ← bytes_add]), hb.out⟩
  · obtain ⟨k, rfl⟩ : ∃ k : Nat, c = k := ⟨c.toNat, by omega⟩
    have hk : k < 16 := by omega
    have HL := Lib.hid (wordL_in (c := k) (by omega) (by omega))
    have hcell := hT.words k hk
    obtain ⟨s, hs⟩ : ∃ s, wordsL.getD k [] = s := ⟨_, rfl⟩
    rw [hs] at hcell
    have HS := Lib.hid hs
    clear hs hT hc
    go_enter Tryd.func22, Tryd.ntmps22
    go_wp2_with fail
    go_ret
    exact ⟨ret_string (by rw [HL.out, Int.toNat_natCast, HS.out]), Below.refl _ _⟩

set_option maxHeartbeats 1000000 in
theorem kind_calls (c : Int) (h1 : -9223372036854775808 ≤ c) (h2 : c ≤ 9223372036854775807) (w : World) (hT : Tab w) :
    Calls Tryd.prog 20 #[.int .i64 c] w fun e w' => e = .returned (.string ⟨(wordL c).toArray⟩) ∧ Below w.heap.size w w' := by
  have HT := Lib.hid hT
  clear hT
  go_enter Tryd.func20, Tryd.ntmps20
  go_wp2_with (go_at_call 22; refine (word_calls _ h1 h2 _ HT.out).mono ?_; rintro e w' ⟨rfl, hb⟩; replace hb := Lib.hid hb)
  go_ret
  exact ⟨rfl, hb.out⟩

set_option maxRecDepth 100000 in
set_option maxHeartbeats 1000000 in
theorem place_calls (b : Nat) (n : Int) (x u : Value) (h1 : -9223372036854775808 ≤ n) (h2 : n ≤ 9223372036854775807) (w : World) (h : w.heap[b]? = some (.cells #[.int .i64 n, x, u] 43 (0, 0))) :
    Calls Tryd.prog 25 #[.pointer (some ⟨b, 0, none⟩)] w fun e w' => e = .returned (.string ⟨(placeL n).toArray⟩) ∧ Below w.heap.size w w' := by
  have hc : w.cell? ⟨b, 0, none⟩ = some (.int .i64 n) := by rw [at_cell h]; rfl
  clear h
  by_cases hn : n ≤ 0
  · have HL := Lib.hid (placeL_none hn)
    go_enter Tryd.func25, Tryd.ntmps25
    go_wp2_with fail
    go_ret
    exact ⟨ret_string (by rw [HL.out]), Below.refl _ _⟩
  · have hn' : 0 < n := by omega
    have hl := dec_len h1 h2
    have HL := Lib.hid (placeL_some hn')
    go_enter Tryd.func25, Tryd.ntmps25
    go_wp2_with (go_at_call 31; refine (put_calls _ h1 h2 _).mono ?_; rintro e w' ⟨rfl, hb⟩; replace hb := Lib.hid hb)
    go_ret
    exact ⟨ret_string (by rw [HL.out, ← bytes_add]), hb.out⟩

theorem about_calls (b : Nat) (n : Value) (s : ByteArray) (u : Value) (w : World) (h : w.heap[b]? = some (.cells #[n, .string s, u] 43 (0, 0))) :
    Calls Tryd.prog 26 #[.pointer (some ⟨b, 0, none⟩)] w fun e w' => e = .returned (.string s) ∧ w = w' := by
  have hc : w.cell? ⟨b, 1, none⟩ = some (.string s) := by rw [at_cell h]; rfl
  clear h
  go_enter Tryd.func26, Tryd.ntmps26
  go_wp2_with fail
  go_ret
  exact ⟨rfl, rfl⟩

theorem wrap_nil (n s : Value) (w : World) :
    Calls Tryd.prog 17 #[.nilIface, n, s] w fun e w' => e = .returned .nilIface ∧ w = w' := by
  go_enter Tryd.func17, Tryd.ntmps17
  go_wp2_with fail
  go_ret
  exact ⟨rfl, rfl⟩
theorem wrap_some (t : TypeId) (v : Value) (n : Int) (s : ByteArray) (w : World) :
    Calls Tryd.prog 17 #[.iface t v, .int .i64 n, .string s] w fun e w' => e = .returned (.iface 41 (.pointer (some ⟨w.heap.size, 0, none⟩))) ∧ w' = w.alloc (.cells #[.int .i64 n, .string s, .iface t v] 43) := by
  go_enter Tryd.func17, Tryd.ntmps17
  go_wp2_with fail
  go_ret
  exact ⟨rfl, rfl⟩
theorem new_nil (n s : Value) (w : World) :
    Calls Tryd.prog 16 #[.int .i64 0, n, s] w fun e w' => e = .returned .nilIface ∧ w = w' := by
  go_enter Tryd.func16, Tryd.ntmps16
  go_wp2_with fail
  go_ret
  exact ⟨rfl, rfl⟩
theorem new_some (c n : Int) (s : ByteArray) (hc : c ≠ 0) (w : World) :
    Calls Tryd.prog 16 #[.int .i64 c, .int .i64 n, .string s] w fun e w' => e = .returned (.iface 41 (.pointer (some ⟨w.heap.size, 0, none⟩))) ∧ w' = w.alloc (.cells #[.int .i64 n, .string s, .iface 46 (.int .i64 c)] 43) := by
  have hb : (c == 0) = false := by simpa using hc
  clear hc
  go_enter Tryd.func16, Tryd.ntmps16
  go_wp2_with (go_at_call 17; refine (wrap_some _ _ _ _ _).mono ?_; rintro e w' ⟨rfl, rfl⟩)
  go_ret
  exact ⟨rfl, rfl⟩
/-- what is wrapped -/
theorem Err.wrap {w : World} {N : Nat} {v : Value} {l : List Lay} {c : Int} (h : Err w N v l c) (hN : N ≤ w.heap.size) (n : Int) (s : ByteArray) :
    Err (w.alloc (.cells #[.int .i64 n, .string s, v] 43)) (w.heap.size + 1) (.iface 41 (.pointer (some ⟨w.heap.size, 0, none⟩))) (⟨w.heap.size, n, s.data.toList⟩ :: l) c :=
  ⟨rfl, Nat.lt_succ_self _, v, at_new w _, (h.below ((Below.refl _ _).alloc (Nat.le_refl _) _) hN).more hN⟩

/-- an error, or none -/
def ErrN (w : World) (N : Nat) (v : Value) (l : List Lay) (c : Int) : Prop := (v = .nilIface ∧ l = [] ∧ c = 0) ∨ Err w N v l c
theorem ErrN.same {w w' : World} {l : List Lay} {N : Nat} {v : Value} {c : Int} (h : ErrN w N v l c) (hs : ∀ k o, k < N → w.heap[k]? = some o → w'.heap[k]? = some o) : ErrN w' N v l c := h.imp id fun h => h.same hs
theorem ErrN.below {w w' : World} {B N : Nat} {v : Value} {l : List Lay} {c : Int} (h : ErrN w N v l c) (hb : Below B w w') (hN : N ≤ B) : ErrN w' N v l c := h.imp id fun h => h.below hb hN

set_option maxHeartbeats 1000000 in
theorem of_calls (v : Value) (l : List Lay) (c : Int) (N : Nat) (w : World) (h : ErrN w N v l c) (hN : N ≤ w.heap.size) (hT : Tab w) :
    Calls Tryd.prog 8 #[v] w fun e w' => e = .returned (.int .i64 c) ∧ Below w.heap.size w w' := by
  rcases h with ⟨rfl, rfl, rfl⟩ | h
  · go_enter Tryd.func8, Tryd.ntmps8
    go_wp2_with fail
    go_ret
    exact ⟨rfl, Below.refl _ _⟩
  · obtain ⟨ut, uv, rfl⟩ := err_nil h
    have hb0 : Below w.heap.size w (w.alloc (.cells #[.int .i64 0] 46)) := (Below.refl _ _).alloc (Nat.le_refl _) _
    have HE := Lib.hid (h.below hb0 hN)
    have HN := Lib.hid (show N ≤ (w.alloc (.cells #[.int .i64 0] 46)).heap.size by simp; omega)
    have HT := Lib.hid (hT.below hb0)
    have HK := Lib.hid (at_new w (.cells #[.int .i64 0] 46))
    have HB := Lib.hid hb0
    have HS := Lib.hid (show w.heap.size ≤ (w.alloc (.cells #[.int .i64 0] 46)).heap.size by simp)
    clear h hb0 hT
    go_enter Tryd.func8, Tryd.ntmps8
    go_wp2_with (go_at_call 23; refine (asKind_calls _ l c N _ HE.out HN.out w.heap.size _ HT.out HK.out).mono ?_; rintro e w' ⟨rfl, ho, hh⟩; have hc := (at_cell hh 0); replace ho := Lib.hid ho; clear hh; simp only [List.getElem?_toArray, List.getElem?_cons_zero] at hc)
    go_ret
    exact ⟨rfl, HB.out.trans (ho.out.below HS.out (fun i hi => by omega))⟩

set_option maxHeartbeats 1000000 in
theorem has_calls (v : Value) (l : List Lay) (c a : Int) (N : Nat) (w : World) (h : ErrN w N v l c) :
    Calls Tryd.prog 11 #[v, .int .i64 a] w fun e w' => e = .returned (.bool (hasB c a)) ∧ w = w' := by
  have hh : ∀ b, (c == a) = b → hasB c a = (a != 0 && b) := fun b e => by rw [hasB, e]
  by_cases ha : a = 0
  · subst ha
    rw [hh _ rfl]
    go_enter Tryd.func11, Tryd.ntmps11
    go_wp2_with fail
    go_ret
    exact ⟨rfl, rfl⟩
  · have hb : (a != 0) = true := by simpa using ha
    rcases h with ⟨rfl, rfl, rfl⟩ | h
    · have e : (0 == a) = false := by simp; omega
      rw [hh _ e, hb]
      clear hh ha e
      go_enter Tryd.func11, Tryd.ntmps11
      go_wp2_with (go_at_call 28; refine (isNil_calls _ _).mono ?_; rintro e w' ⟨rfl, rfl⟩)
      go_ret
      exact ⟨rfl, rfl⟩
    · obtain ⟨b, he⟩ : ∃ b, (c == a) = b := ⟨_, rfl⟩
      rw [hh _ he, hb, Bool.true_and]
      have HE := Lib.hid h
      have HQ := Lib.hid he
      clear hh ha h he
      go_enter Tryd.func11, Tryd.ntmps11
      go_wp2_with (go_at_call 28; refine (is_calls _ l c a N _ HE.out).mono ?_; rw [HQ.out]; rintro e w' ⟨rfl, rfl⟩)
      go_ret
      exact ⟨rfl, rfl⟩
end Go.Proofs.YtpjjfcgebgejaaaDoor.Flt

/-
  Layer 9 (fault): the document's own Text, walked.
-/
import Derived.Test.YtpjjfcgebgejaaaDoorFltRef
namespace Go.Proofs.YtpjjfcgebgejaaaDoor.Flt
open Go.RowKit Go.Proofs.YtpjjfcgebgejaaaDoor.Own Go.Proofs.YtpjjfcgebgejaaaDoor.Digit

theorem wth_len (s m : List UInt8) : (wth s m).length ≤ s.length + m.length + 2 := by
  by_cases h : s = [] ∨ m = []
  · rw [wth_none h, List.length_append]; omega
  · have h1 : s ≠ [] := fun e => h (.inl e)
    have h2 : m ≠ [] := fun e => h (.inr e)
    rw [wth_some h1 h2]; simp only [List.length_append]; show _ + 2 + _ ≤ _; omega
def OkT (t : Trp) : Prop := (-9223372036854775808 ≤ t.code ∧ t.code ≤ 9223372036854775807) ∧ (-9223372036854775808 ≤ t.line ∧ t.line ≤ 9223372036854775807) ∧ t.what.length ≤ 100
theorem place_len {n : Int} (h1 : -9223372036854775808 ≤ n) (h2 : n ≤ 9223372036854775807) : (placeL n).length ≤ 25 := by
  by_cases h : n ≤ 0
  · rw [placeL_none h]; exact Nat.zero_le _
  · rw [placeL_some (by omega)]; have := dec_len h1 h2; simp; omega
theorem word_len {n : Int} (h1 : -9223372036854775808 ≤ n) (h2 : n ≤ 9223372036854775807) : (wordL n).length ≤ 25 := by
  by_cases h : n < 0 ∨ 16 ≤ n
  · rw [wordL_out h]; have := dec_len h1 h2; simp; omega
  · rw [wordL_in (by omega) (by omega)]
    have : ∀ k, k < 16 → (wordsL.getD k []).length ≤ 25 := by decide
    exact this _ (by omega)
theorem rText_len : ∀ {T : List Trp} (_ : ∀ t ∈ T, OkT t) (k : Nat), k ≤ T.length → (rText (T.take k)).length ≤ 200 * k
  | _, _, 0, _ => Nat.le_refl _
  | T, h, k + 1, hk => by
    have ih := rText_len h k (by omega)
    rw [List.take_succ_eq_append_getElem (by omega), rText_app]
    obtain ⟨⟨a1, a2⟩, ⟨b1, b2⟩, c⟩ := h T[k] (List.getElem_mem _)
    have e1 := wth_len (rText (T.take k)) (placeL T[k].line)
    have e2 := wth_len (wth (rText (T.take k)) (placeL T[k].line)) T[k].what
    have e3 := wth_len (wth (wth (rText (T.take k)) (placeL T[k].line)) T[k].what) (wordL T[k].code)
    have e4 := place_len b1 b2
    have e5 := word_len a1 a2
    omega
theorem rwith_place (s : List UInt8) (n : Int) (hs : s.length ≤ 1000000) (h0 : 0 < n) (h1 : -9223372036854775808 ≤ n) (h2 : n ≤ 9223372036854775807) (w : World) :
    Calls Tryd.prog 29 #[.string ⟨s.toArray⟩, .string (⟨#[108, 105, 110, 101, 32]⟩ ++ ⟨(dec n).toArray⟩)] w fun e w' => e = .returned (.string ⟨(wth s (placeL n)).toArray⟩) ∧ w = w' := by
  have := rwith_calls s (placeL n) hs (by have := place_len h1 h2; omega) w
  rw [placeL_some h0, ← bytes_add] at this
  rw [placeL_some h0]
  exact this

set_option maxRecDepth 100000 in
set_option maxHeartbeats 2000000 in
theorem rtext_calls (T : List Trp) (p : Option Addr) (c : Nat) (w : World) (h : LAt w T p c) (hk : ∀ t ∈ T, OkT t) (hn : T.length ≤ 1000) :
    Calls Tryd.prog 14 #[.slice p T.length c] w fun e w' => e = .returned (.string ⟨(rText T).toArray⟩) ∧ Below w.heap.size w w' := by
  have hcap := h.cap
  have hmax := h.max
  unfold maxLen at hmax
  have HI := Lib.hid h
  have HK := Lib.hid hk
  clear h hk
  go_enter Tryd.func14, Tryd.ntmps14
  go_wp2_with fail
  go_loopw [3, 4] (fun s i wr => ∃ k : Nat, k ≤ T.length ∧ i = .int .i64 k ∧ s = .string ⟨(rText (T.take k)).toArray⟩ ∧ Below w.heap.size w wr) (fun _ i _ => T.length - (intOf i).toNat)
  case atStart => exact ⟨0, by omega, rfl, rfl, Below.refl _ _⟩
  case round =>
    obtain ⟨k, hk, rfl, rfl, hb⟩ := hrel
    by_cases hlt : k < T.length
    · have q1 : (k : Int) < (T.length : Int) := by omega
      rcases HI.out.cells with h0 | ⟨b, o, rfl, hbl, hc⟩
      · rw [h0] at hlt; simp at hlt
      · obtain ⟨c0, c1, c2⟩ := hc k hlt
        rw [← hb.cell (p := ⟨b, _, none⟩) hbl] at c0 c1 c2
        have hsz := hb.size
        have hbw : b < wr.heap.size := by omega
        have hs := rText_app (T.take k) T[k]
        rw [← List.take_succ_eq_append_getElem hlt] at hs
        have hSl := rText_len HK.out k hk
        obtain ⟨S, hS⟩ : ∃ S, rText (T.take k) = S := ⟨_, rfl⟩
        rw [hS] at hs hSl ⊢
        have hok := HK.out T[k] (List.getElem_mem hlt)
        obtain ⟨y, hy⟩ : ∃ y, T[k] = y := ⟨_, rfl⟩
        rw [hy] at c0 c1 c2 hs hok
        obtain ⟨yc, yl, yw⟩ := y
        obtain ⟨⟨a1, a2⟩, ⟨l1, l2⟩, hw⟩ := hok
        simp only at c0 c1 c2 hs a1 a2 l1 l2 hw
        have hpl := place_len l1 l2
        have hdl := dec_len l1 l2
        have hwl := word_len a1 a2
        have e1 := wth_len S (placeL yl)
        have e2 := wth_len (wth S (placeL yl)) yw
        have HB := Lib.hid hb
        clear hc hy hS hb
        by_cases hp : 0 < yl
        · by_cases hz : yc = 0
          · have b1 : (yc != 0) = false := by simpa using hz
            rw [show wordL yc = [] by rw [hz]; rfl, wth_nil'] at hs
            have HS := Lib.hid hs
            clear hs hz
            go_wp2_with (go_at_call 30; refine (rput_calls _ l1 l2 _).mono ?_; rintro e w' ⟨rfl, rfl⟩)
            refine (rwith_place S yl (by omega) hp l1 l2 _).mono ?_
            rintro e w' ⟨rfl, rfl⟩
            go_wp2_with fail
            refine (rwith_calls (wth S (placeL yl)) yw (by omega) (by omega) _).mono ?_
            rintro e w' ⟨rfl, rfl⟩
            go_wp2_with fail
            go_roundw
            case rel => exact ⟨k + 1, by omega, by go_num, by rw [HS.out], HB.out⟩
            case measure => simp [intOf]; omega
          · have b1 : (yc != 0) = true := by simpa using hz
            have HS := Lib.hid hs
            clear hs hz
            go_wp2_with (go_at_call 30; refine (rput_calls _ l1 l2 _).mono ?_; rintro e w' ⟨rfl, rfl⟩)
            refine (rwith_place S yl (by omega) hp l1 l2 _).mono ?_
            rintro e w' ⟨rfl, rfl⟩
            go_wp2_with fail
            refine (rwith_calls (wth S (placeL yl)) yw (by omega) (by omega) _).mono ?_
            rintro e w' ⟨rfl, rfl⟩
            go_wp2_with (go_at_call 21; refine (rword_calls _ a1 a2 _).mono ?_; rintro e w5 ⟨rfl, hb5⟩; replace hb5 := Lib.hid hb5)
            refine (rwith_calls (wth (wth S (placeL yl)) yw) (wordL yc) (by omega) (by omega) _).mono ?_
            rintro e w' ⟨rfl, rfl⟩
            go_wp2_with fail
            go_roundw
            case rel => exact ⟨k + 1, by omega, by go_num, by rw [HS.out], HB.out.trans (hb5.out.mono hsz)⟩
            case measure => simp [intOf]; omega
        · rw [placeL_none (by omega), wth_nil'] at hs e2
          have hp' : yl ≤ 0 := by omega
          by_cases hz : yc = 0
          · have b1 : (yc != 0) = false := by simpa using hz
            rw [show wordL yc = [] by rw [hz]; rfl, wth_nil'] at hs
            have HS := Lib.hid hs
            clear hs hz hp
            go_wp2_with fail
            refine (rwith_calls S yw (by omega) (by omega) _).mono ?_
            rintro e w' ⟨rfl, rfl⟩
            go_wp2_with fail
            go_roundw
            case rel => exact ⟨k + 1, by omega, by go_num, by rw [HS.out], HB.out⟩
            case measure => simp [intOf]; omega
          · have b1 : (yc != 0) = true := by simpa using hz
            have HS := Lib.hid hs
            clear hs hz hp
            go_wp2_with fail
            refine (rwith_calls S yw (by omega) (by omega) _).mono ?_
            rintro e w' ⟨rfl, rfl⟩
            go_wp2_with (go_at_call 21; refine (rword_calls _ a1 a2 _).mono ?_; rintro e w5 ⟨rfl, hb5⟩; replace hb5 := Lib.hid hb5)
            refine (rwith_calls (wth S yw) (wordL yc) (by omega) (by omega) _).mono ?_
            rintro e w' ⟨rfl, rfl⟩
            go_wp2_with fail
            go_roundw
            case rel => exact ⟨k + 1, by omega, by go_num, by rw [HS.out], HB.out.trans (hb5.out.mono hsz)⟩
            case measure => simp [intOf]; omega
    · obtain rfl : k = T.length := by omega
      rw [List.take_length]
      have HB := Lib.hid hb
      clear hb
      go_wp2_with fail
      go_ret
      exact ⟨rfl, HB.out⟩
end Go.Proofs.YtpjjfcgebgejaaaDoor.Flt

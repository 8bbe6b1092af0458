/-
  Layer 9 (fault): the document's own answers, walked.
-/
import Derived.Test.YtpjjfcgebgejaaaDoorFltPlain
import Derived.Test.YtpjjfcgebgejaaaDoorNumR
namespace Go.Proofs.YtpjjfcgebgejaaaDoor.Flt
open Go.RowKit Go.Proofs.YtpjjfcgebgejaaaDoor.Own Go.Proofs.YtpjjfcgebgejaaaDoor.Digit

theorem lit_at : ∀ k, k < 16 → (#[.string ⟨#[]⟩, .string ⟨#[97, 114, 103, 117, 109, 101, 110, 116]⟩, .string ⟨#[114, 97, 110, 103, 101]⟩, .string ⟨#[102, 111, 114, 109]⟩, .string ⟨#[115, 117, 109]⟩, .string ⟨#[115, 105, 122, 101]⟩, .string ⟨#[102, 117, 108, 108]⟩, .string ⟨#[110, 111, 110, 101]⟩, .string ⟨#[116, 119, 105, 99, 101]⟩, .string ⟨#[115, 116, 97, 116, 101]⟩, .string ⟨#[100, 101, 110, 105, 101, 100]⟩, .string ⟨#[98, 117, 115, 121]⟩, .string ⟨#[100, 101, 118, 105, 99, 101]⟩, .string ⟨#[99, 117, 116]⟩, .string ⟨#[110, 105, 108]⟩, .string ⟨#[108, 105, 109, 105, 116]⟩] : Array Value)[k]? = some (.string ⟨(wordsL.getD k []).toArray⟩) := by
  intro k hk
  iterate 16 (cases k with
    | zero => rfl
    | succ k => ?_)
  omega

set_option maxRecDepth 100000 in
set_option maxHeartbeats 1000000 in
theorem rword_calls (c : Int) (h1 : -9223372036854775808 ≤ c) (h2 : c ≤ 9223372036854775807) (w : World) :
    Calls Tryd.prog 21 #[.int .i64 c] w fun e w' => e = .returned (.string ⟨(wordL c).toArray⟩) ∧ Below w.heap.size w w' := by
  have hl := dec_len h1 h2
  by_cases hc : c < 0 ∨ 16 ≤ c
  · have HL := Lib.hid (wordL_out hc)
    rcases hc with hc | hc
    · go_enter Tryd.func21, Tryd.ntmps21
      go_wp2_with (go_at_call 30; refine (rput_calls _ h1 h2 _).mono ?_; rintro e w' ⟨rfl, rfl⟩)
      go_ret
      exact ⟨ret_string (by rw [HL.out, ← bytes_add]), (Below.refl _ _).alloc (Nat.le_refl _) _⟩
    · have hc0 : ¬ c < 0 := by omega
      go_enter Tryd.func21, Tryd.ntmps21
      go_wp2_with (go_at_call 30; refine (rput_calls _ h1 h2 _).mono ?_; rintro e w' ⟨rfl, rfl⟩)
      go_ret
      exact ⟨ret_string (by rw [HL.out, ← bytes_add]), (Below.refl _ _).alloc (Nat.le_refl _) _⟩
  · obtain ⟨k, rfl⟩ : ∃ k : Nat, c = k := ⟨c.toNat, by omega⟩
    have hk : k < 16 := by omega
    have HL := Lib.hid (wordL_in (c := k) (by omega) (by omega))
    have hcell : (w.alloc (.cells #[.string ⟨#[]⟩, .string ⟨#[97, 114, 103, 117, 109, 101, 110, 116]⟩, .string ⟨#[114, 97, 110, 103, 101]⟩, .string ⟨#[102, 111, 114, 109]⟩, .string ⟨#[115, 117, 109]⟩, .string ⟨#[115, 105, 122, 101]⟩, .string ⟨#[102, 117, 108, 108]⟩, .string ⟨#[110, 111, 110, 101]⟩, .string ⟨#[116, 119, 105, 99, 101]⟩, .string ⟨#[115, 116, 97, 116, 101]⟩, .string ⟨#[100, 101, 110, 105, 101, 100]⟩, .string ⟨#[98, 117, 115, 121]⟩, .string ⟨#[100, 101, 118, 105, 99, 101]⟩, .string ⟨#[99, 117, 116]⟩, .string ⟨#[110, 105, 108]⟩, .string ⟨#[108, 105, 109, 105, 116]⟩] 9)).cell? ⟨w.heap.size, k, none⟩ = _ := (at_cell (at_new w _) k).trans (lit_at k hk)
    obtain ⟨s, hs⟩ : ∃ s, wordsL.getD k [] = s := ⟨_, rfl⟩
    rw [hs] at hcell
    have HS := Lib.hid hs
    clear hs hc
    go_enter Tryd.func21, Tryd.ntmps21
    go_wp2_with fail
    go_ret
    exact ⟨ret_string (by rw [HL.out, Int.toNat_natCast, HS.out]), (Below.refl _ _).alloc (Nat.le_refl _) _⟩

set_option maxHeartbeats 1000000 in
theorem rwith_calls (s m : List UInt8) (hs : s.length ≤ 1000000) (hm : m.length ≤ 1000000) (w : World) :
    Calls Tryd.prog 29 #[.string ⟨s.toArray⟩, .string ⟨m.toArray⟩] w fun e w' => e = .returned (.string ⟨(wth s m).toArray⟩) ∧ w = w' := by
  by_cases h : s = []
  · have H := Lib.hid (wth_none (m := m) (.inl h))
    have b1 : s.isEmpty = true := by subst h; rfl
    clear h
    go_enter Tryd.func29, Tryd.ntmps29
    go_wp2_with fail
    go_ret
    exact ⟨ret_string (by rw [H.out, ← bytes_add]), rfl⟩
  · have b1 : s.isEmpty = false := by cases s <;> simp at h ⊢
    by_cases k : m = []
    · have H := Lib.hid (wth_none (s := s) (.inr k))
      have b2 : m.isEmpty = true := by subst k; rfl
      clear h k
      go_enter Tryd.func29, Tryd.ntmps29
      go_wp2_with fail
      go_ret
      exact ⟨ret_string (by rw [H.out, ← bytes_add]), rfl⟩
    · have H := Lib.hid (wth_some h k)
      have b2 : m.isEmpty = false := by cases m <;> simp at k ⊢
      clear h k
      go_enter Tryd.func29, Tryd.ntmps29
      go_wp2_with fail
      go_ret
      exact ⟨ret_string (by rw [H.out, ← bytes_add, ← bytes_add]; rfl), rfl⟩

/-- a slice that holds layers -/
structure LAt (w : World) (T : List Trp) (p : Option Addr) (c : Nat) : Prop where
  cap : T.length ≤ c
  max : c ≤ maxLen
  cells : T = [] ∨ ∃ b o, p = some ⟨b, o, none⟩ ∧ b < w.heap.size ∧ ∀ i (hi : i < T.length), w.cell? ⟨b, o + i * 3, none⟩ = some (.int .i64 T[i].code) ∧ w.cell? ⟨b, o + i * 3 + 1, none⟩ = some (.int .i64 T[i].line) ∧ w.cell? ⟨b, o + i * 3 + 2, none⟩ = some (.string ⟨T[i].what.toArray⟩)
theorem LAt.below {w w' : World} {T : List Trp} {p : Option Addr} {c : Nat} (h : LAt w T p c) (hb : Below w.heap.size w w') : LAt w' T p c :=
  ⟨h.cap, h.max, h.cells.imp id fun ⟨b, o, e, hl, k⟩ => ⟨b, o, e, Nat.lt_of_lt_of_le hl hb.size, fun i hi => ⟨(hb.cell (p := ⟨b, _, none⟩) hl).trans (k i hi).1, (hb.cell (p := ⟨b, _, none⟩) hl).trans (k i hi).2.1, (hb.cell (p := ⟨b, _, none⟩) hl).trans (k i hi).2.2⟩⟩⟩

theorem rof_at {T : List Trp} {k : Nat} (h : k < T.length) : rOf (T.drop k) = if T[k].code = 0 then rOf (T.drop (k + 1)) else T[k].code := by
  rw [List.drop_eq_getElem_cons h, rOf]
theorem rline_at {T : List Trp} {k : Nat} (h : k < T.length) : rLine (T.drop k) = if 0 < T[k].line then T[k].line else rLine (T.drop (k + 1)) := by
  rw [List.drop_eq_getElem_cons h, rLine]
theorem rhas_at {T : List Trp} {k : Nat} (h : k < T.length) (a : Int) : rHas (T.drop k) a = (T[k].code == a && a != 0 || rHas (T.drop (k + 1)) a) := by
  rw [List.drop_eq_getElem_cons h, rHas_cons]

set_option maxRecDepth 100000 in
set_option maxHeartbeats 2000000 in
theorem rof_calls (T : List Trp) (p : Option Addr) (c : Nat) (w : World) (h : LAt w T p c) :
    Calls Tryd.prog 12 #[.slice p T.length c] w fun e w' => e = .returned (.int .i64 (rOf T)) ∧ w = w' := by
  have hcap := h.cap
  have hmax := h.max
  unfold maxLen at hmax
  have q2 : (T.length : Int) ≤ 9223372036854775807 := by omega
  have HI := Lib.hid h
  clear h
  go_enter Tryd.func12, Tryd.ntmps12
  go_wp2_with fail
  go_loop [3] (fun i => ∃ k : Nat, k ≤ T.length ∧ i = .int .i64 k ∧ rOf T = rOf (T.drop k)) (fun i => T.length - (intOf i).toNat)
  case atStart => exact ⟨0, by omega, rfl, rfl⟩
  case round =>
    obtain ⟨k, hk, rfl, hd⟩ := hrel
    by_cases hlt : k < T.length
    · have q1 : (k : Int) < (T.length : Int) := by omega
      rcases HI.out.cells with h0 | ⟨b, o, rfl, hbl, hc⟩
      · rw [h0] at hlt; simp at hlt
      · obtain ⟨c0, c1, c2⟩ := hc k hlt
        have hs := rof_at hlt
        obtain ⟨y, hy⟩ : ∃ y, T[k] = y := ⟨_, rfl⟩
        rw [hy] at c0 c1 c2 hs
        obtain ⟨yc, yl, yw⟩ := y
        simp only at c0 c1 c2 hs
        have HD := Lib.hid hd
        clear hd hc hy
        by_cases hz : yc = 0
        · rw [if_pos hz] at hs
          have HS := Lib.hid hs
          have b1 : (yc != 0) = false := by simpa using hz
          clear hs
          go_wp2_with fail
          go_round
          case rel => exact ⟨k + 1, by omega, by go_num, by rw [HD.out, HS.out]⟩
          case measure => simp [intOf]; omega
        · rw [if_neg hz] at hs
          have HS := Lib.hid hs
          have b1 : (yc != 0) = true := by simpa using hz
          clear hs hz
          go_wp2_with fail
          go_ret
          exact ⟨by rw [HD.out, HS.out]; rfl, rfl⟩
    · obtain rfl : k = T.length := by omega
      have HD := Lib.hid hd
      clear hd
      go_wp2_with fail
      go_ret
      exact ⟨by rw [HD.out, List.drop_length]; rfl, rfl⟩

set_option maxRecDepth 100000 in
set_option maxHeartbeats 2000000 in
theorem rline_calls (T : List Trp) (p : Option Addr) (c : Nat) (w : World) (h : LAt w T p c) :
    Calls Tryd.prog 13 #[.slice p T.length c] w fun e w' => e = .returned (.int .i64 (rLine T)) ∧ w = w' := by
  have hcap := h.cap
  have hmax := h.max
  unfold maxLen at hmax
  have q2 : (T.length : Int) ≤ 9223372036854775807 := by omega
  have HI := Lib.hid h
  clear h
  go_enter Tryd.func13, Tryd.ntmps13
  go_wp2_with fail
  go_loop [3] (fun i => ∃ k : Nat, k ≤ T.length ∧ i = .int .i64 k ∧ rLine T = rLine (T.drop k)) (fun i => T.length - (intOf i).toNat)
  case atStart => exact ⟨0, by omega, rfl, rfl⟩
  case round =>
    obtain ⟨k, hk, rfl, hd⟩ := hrel
    by_cases hlt : k < T.length
    · have q1 : (k : Int) < (T.length : Int) := by omega
      rcases HI.out.cells with h0 | ⟨b, o, rfl, hbl, hc⟩
      · rw [h0] at hlt; simp at hlt
      · obtain ⟨c0, c1, c2⟩ := hc k hlt
        have hs := rline_at hlt
        obtain ⟨y, hy⟩ : ∃ y, T[k] = y := ⟨_, rfl⟩
        rw [hy] at c0 c1 c2 hs
        obtain ⟨yc, yl, yw⟩ := y
        simp only at c0 c1 c2 hs
        have HD := Lib.hid hd
        clear hd hc hy
        by_cases hz : 0 < yl
        · rw [if_pos hz] at hs
          have HS := Lib.hid hs
          clear hs
          go_wp2_with fail
          go_ret
          exact ⟨by rw [HD.out, HS.out]; rfl, rfl⟩
        · rw [if_neg hz] at hs
          have HS := Lib.hid hs
          have hz' : yl ≤ 0 := by omega
          clear hs hz
          go_wp2_with fail
          go_round
          case rel => exact ⟨k + 1, by omega, by go_num, by rw [HD.out, HS.out]⟩
          case measure => simp [intOf]; omega
    · obtain rfl : k = T.length := by omega
      have HD := Lib.hid hd
      clear hd
      go_wp2_with fail
      go_ret
      exact ⟨by rw [HD.out, List.drop_length]; rfl, rfl⟩

set_option maxRecDepth 100000 in
set_option maxHeartbeats 2000000 in
theorem rhas_calls (T : List Trp) (p : Option Addr) (c : Nat) (a : Int) (w : World) (h : LAt w T p c) :
    Calls Tryd.prog 15 #[.slice p T.length c, .int .i64 a] w fun e w' => e = .returned (.bool (rHas T a)) ∧ w = w' := by
  have hcap := h.cap
  have hmax := h.max
  unfold maxLen at hmax
  have q2 : (T.length : Int) ≤ 9223372036854775807 := by omega
  have HI := Lib.hid h
  clear h
  go_enter Tryd.func15, Tryd.ntmps15
  go_wp2_with fail
  go_loop [5] (fun i => ∃ k : Nat, k ≤ T.length ∧ i = .int .i64 k ∧ rHas T a = rHas (T.drop k) a) (fun i => T.length - (intOf i).toNat)
  case atStart => exact ⟨0, by omega, rfl, rfl⟩
  case round =>
    obtain ⟨k, hk, rfl, hd⟩ := hrel
    by_cases hlt : k < T.length
    · have q1 : (k : Int) < (T.length : Int) := by omega
      rcases HI.out.cells with h0 | ⟨b, o, rfl, hbl, hc⟩
      · rw [h0] at hlt; simp at hlt
      · obtain ⟨c0, c1, c2⟩ := hc k hlt
        have hs := rhas_at hlt a
        obtain ⟨y, hy⟩ : ∃ y, T[k] = y := ⟨_, rfl⟩
        rw [hy] at c0 c1 c2 hs
        obtain ⟨yc, yl, yw⟩ := y
        simp only at c0 c1 c2 hs
        have HD := Lib.hid hd
        clear hd hc hy
        by_cases hz : yc = a
        · by_cases ha : a = 0
          · have b1 : (yc == a) = true := by simpa using hz
            have b2 : (a != 0) = false := by simpa using ha
            rw [b1, b2] at hs
            have HS := Lib.hid hs
            clear hs hz ha
            go_wp2_with fail
            go_round
            case rel => exact ⟨k + 1, by omega, by go_num, by rw [HD.out, HS.out]; rfl⟩
            case measure => simp [intOf]; omega
          · have b1 : (yc == a) = true := by simpa using hz
            have b2 : (a != 0) = true := by simpa using ha
            rw [b1, b2] at hs
            have HS := Lib.hid hs
            clear hs hz ha
            go_wp2_with fail
            go_ret
            exact ⟨by rw [HD.out, HS.out]; rfl, rfl⟩
        · have b1 : (yc == a) = false := by simpa using hz
          rw [b1] at hs
          have HS := Lib.hid hs
          clear hs hz
          go_wp2_with fail
          go_round
          case rel => exact ⟨k + 1, by omega, by go_num, by rw [HD.out, HS.out]; rfl⟩
          case measure => simp [intOf]; omega
    · obtain rfl : k = T.length := by omega
      have HD := Lib.hid hd
      clear hd
      go_wp2_with fail
      go_ret
      exact ⟨by rw [HD.out, List.drop_length]; rfl, rfl⟩

end Go.Proofs.YtpjjfcgebgejaaaDoor.Flt

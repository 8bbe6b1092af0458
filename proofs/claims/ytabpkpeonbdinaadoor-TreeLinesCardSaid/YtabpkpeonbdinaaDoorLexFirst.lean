/-
  Layer 12 (lex): first, walked.
-/
import Derived.Test.YtabpkpeonbdinaaDoorLexQuote
namespace Go.Proofs.YtabpkpeonbdinaaDoor.Lex
open Go.RowKit Go.Proofs.YtabpkpeonbdinaaDoor.Own

def FirstPost (s : ByteArray) (w : World) (e : Ending) (w' : World) : Prop :=
  ∃ (k : Int) (t : List UInt8) (n : Nat), e = .returned (.tuple #[.agg #[.int .i64 k, .string ⟨t.toArray⟩, .int .i64 0], .int .i64 n]) ∧ Below w.heap.size w w' ∧ (first s.data.toList = none ∧ n = 0 ∨ first s.data.toList = some (k, t, n) ∧ 0 < n)
theorem drop_one (s : ByteArray) (h : 0 < s.size) : s.data.toList = s[0] :: s.data.toList.drop 1 := by
  have := drop_at s 0 h; rwa [List.drop_zero] at this

theorem row3 {w : World} {b : Nat} {x y z : Value} {T : TypeId} (h : w.heap[b]? = some (.cells #[x, y, z] T (0, 0))) :
    w.cell? ⟨b, 0, none⟩ = some x ∧ w.cell? ⟨b, 1, none⟩ = some y ∧ w.cell? ⟨b, 2, none⟩ = some z ∧ w.frozen? ⟨b, 0, none⟩ = false ∧ w.frozen? ⟨b, 1, none⟩ = false ∧ w.frozen? ⟨b, 2, none⟩ = false :=
  ⟨by rw [at_cell h]; rfl, by rw [at_cell h]; rfl, by rw [at_cell h]; rfl, at_frozen h _, at_frozen h _, at_frozen h _⟩

set_option maxRecDepth 100000 in
set_option maxHeartbeats 4000000 in
theorem first_calls (s : ByteArray) (h0 : 0 < s.size) (hs : s.size ≤ 1099511627776) (w : World) :
    Calls Tryd.prog 23 #[.string s] w (FirstPost s w) := by
  have HD := Lib.hid (drop_one s h0)
  have h256 := s[0].toNat_lt
  have HU := Lib.hid (unquote_calls s h0 hs)
  have HS := Lib.hid (size_calls s)
  obtain ⟨n, hn⟩ : ∃ n, s[0].toNat = n := ⟨_, rfl⟩
  have HN := Lib.hid hn
  rw [hn] at h256
  rcases (show n = 123 ∨ n = 125 ∨ n = 59 ∨ n = 34 ∨ (n ≠ 123 ∧ n ≠ 125 ∧ n ≠ 59 ∧ n ≠ 34) by omega) with hc | hc | hc | hc | hc
  · have HF := Lib.hid (show first s.data.toList = some (3, [], 1) by rw [HD.out]; exact first_open (by omega) _)
    subst hc
    go_enter Tryd.func23, Tryd.ntmps23
    go_wp2_with (go_at_call 38; refine (marks_calls 123 (by omega) _).mono ?_; rintro e w5 ⟨rfl, rfl⟩; rw [show mkI 123 = 0 from rfl])
    refine bodyPost_ret (v := .tuple #[.agg #[.int .i64 3, .string ⟨#[]⟩, .int .i64 0], .int .i64 1]) ?_ rfl ⟨3, [], 1, rfl, (Below.refl _ _).alloc (Nat.le_refl _) _, .inr ⟨HF.out, by omega⟩⟩
    simp [results, Tryd.results23, go_sem, *]
  · have HF := Lib.hid (show first s.data.toList = some (4, [], 1) by rw [HD.out]; exact first_close (by omega) _)
    subst hc
    go_enter Tryd.func23, Tryd.ntmps23
    go_wp2_with (go_at_call 38; refine (marks_calls 125 (by omega) _).mono ?_; rintro e w5 ⟨rfl, rfl⟩; rw [show mkI 125 = 1 from rfl])
    refine bodyPost_ret (v := .tuple #[.agg #[.int .i64 4, .string ⟨#[]⟩, .int .i64 0], .int .i64 1]) ?_ rfl ⟨4, [], 1, rfl, (Below.refl _ _).alloc (Nat.le_refl _) _, .inr ⟨HF.out, by omega⟩⟩
    simp [results, Tryd.results23, go_sem, *]
  · have HF := Lib.hid (show first s.data.toList = some (5, [], 1) by rw [HD.out]; exact first_semi (by omega) _)
    subst hc
    go_enter Tryd.func23, Tryd.ntmps23
    go_wp2_with (go_at_call 38; refine (marks_calls 59 (by omega) _).mono ?_; rintro e w5 ⟨rfl, rfl⟩; rw [show mkI 59 = 2 from rfl])
    refine bodyPost_ret (v := .tuple #[.agg #[.int .i64 5, .string ⟨#[]⟩, .int .i64 0], .int .i64 1]) ?_ rfl ⟨5, [], 1, rfl, (Below.refl _ _).alloc (Nat.le_refl _) _, .inr ⟨HF.out, by omega⟩⟩
    simp [results, Tryd.results23, go_sem, *]
  · have HF := Lib.hid (show first s.data.toList = (unq false (s.data.toList.drop 1)).map fun x => (2, x.1, x.2 + 1) by rw [HD.out]; exact first_quote (by omega) _)
    have HB := Lib.hid ((Below.refl w.heap.size w).alloc (Nat.le_refl _) (.cells #[.int .i64 0, .string ⟨#[]⟩, .int .i64 0] 67 (0, 0)))
    have HX := Lib.hid (at_new w (.cells #[.int .i64 0, .string ⟨#[]⟩, .int .i64 0] 67 (0, 0)))
    subst hc
    go_enter Tryd.func23, Tryd.ntmps23
    go_wp2_with (first
      | (go_at_call 38; refine (marks_calls 34 (by omega) _).mono ?_; rintro e w5 ⟨rfl, rfl⟩; rw [show mkI 34 = -1 from rfl])
      | (go_at_call 39; refine (HU.out _).mono ?_; rintro e w5 ⟨t, m, rfl, hb, hx⟩; have hr := (hb.block w.heap.size (by simp)).trans HX.out; obtain ⟨c0, c1, c2, f0, f1, f2⟩ := row3 hr; have HB5 := Lib.hid (HB.out.trans (hb.mono HB.out.size)); have HX5 := Lib.hid hx; have HR := Lib.hid hr; clear hb hx hr))
    refine bodyPost_ret (v := .tuple #[.agg #[.int .i64 2, .string ⟨t.toArray⟩, .int .i64 0], .int .i64 m]) ?_ rfl ⟨2, t, m, rfl, ((HB5.out.setCell (p := ⟨_, _, _⟩) (Nat.le_refl _) _).setCell (p := ⟨_, _, _⟩) (Nat.le_refl _) _).setCell (p := ⟨_, _, _⟩) (Nat.le_refl _) _, ?_⟩
    · simp [results, Tryd.results23, go_sem, *]
    · rcases HX5.out with ⟨h1, h2⟩ | ⟨m', h1, h2⟩
      · exact .inl ⟨by rw [HF.out, h1]; rfl, h2⟩
      · exact .inr ⟨by rw [HF.out, h1, h2]; rfl, by omega⟩
  · have HM : mkI n = -1 := by rw [mkI, if_neg hc.1, if_neg hc.2.1, if_neg hc.2.2.1]
    have b34 : ((n : Int) == 34) = false := by simp; omega
    obtain ⟨k, hk⟩ : ∃ k, wlen s.data.toList = k := ⟨_, rfl⟩
    rw [hk] at HS
    have hkl : k ≤ s.size := by rw [← hk]; exact Nat.le_trans (wlen_le _) (Nat.le_of_eq (list_size s))
    obtain ⟨p, hps, hpl, hpw⟩ := to_of s k hkl
    have HP := Lib.hid (show p = ⟨(s.data.toList.take k).toArray⟩ by rw [← hpl])
    have HF := Lib.hid (show first s.data.toList = none ∧ k = 0 ∨ first s.data.toList = some (1, s.data.toList.take k, k) ∧ 0 < k by
      cases hw : wb n
      · refine .inl ⟨by rw [HD.out]; exact first_none (by omega) (by omega) (by omega) (by omega) (by rw [HN.out]; exact hw) _, ?_⟩
        rw [← hk, HD.out, wlen_no (by rw [HN.out]; exact hw)]
      · refine .inr ⟨?_, ?_⟩
        · rw [← hk]
          have := first_word (c := s[0]) (by rw [HN.out]; exact hw) (s.data.toList.drop 1)
          rwa [← HD.out] at this
        · rw [← hk, HD.out, wlen_yes (by rw [HN.out]; exact hw)]; omega)
    have HB := Lib.hid ((Below.refl w.heap.size w).alloc (Nat.le_refl _) (.cells #[.int .i64 0, .string ⟨#[]⟩, .int .i64 0] 67 (0, 0)))
    have HX := Lib.hid (at_new w (.cells #[.int .i64 0, .string ⟨#[]⟩, .int .i64 0] 67 (0, 0)))
    clear hk hpl hc
    go_enter Tryd.func23, Tryd.ntmps23
    go_wp2_with (first
      | (go_at_call 38; refine (marks_calls n (by omega) _).mono ?_; rintro e w5 ⟨rfl, rfl⟩; rw [HM])
      | (go_at_call 40; refine (HS.out _).mono ?_; rintro e w5 ⟨rfl, hb⟩; have hr := (hb.block w.heap.size (by simp)).trans HX.out; obtain ⟨c0, c1, c2, f0, f1, f2⟩ := row3 hr; have HB5 := Lib.hid (HB.out.trans (hb.mono HB.out.size)); have HR := Lib.hid hr; clear hb hr))
    refine bodyPost_ret (v := .tuple #[.agg #[.int .i64 1, .string p, .int .i64 0], .int .i64 k]) ?_ rfl ⟨1, s.data.toList.take k, k, by rw [HP.out], ((HB5.out.setCell (p := ⟨_, _, _⟩) (Nat.le_refl _) _).setCell (p := ⟨_, _, _⟩) (Nat.le_refl _) _).setCell (p := ⟨_, _, _⟩) (Nat.le_refl _) _, HF.out⟩
    simp [results, Tryd.results23, go_sem, *]
end Go.Proofs.YtabpkpeonbdinaaDoor.Lex

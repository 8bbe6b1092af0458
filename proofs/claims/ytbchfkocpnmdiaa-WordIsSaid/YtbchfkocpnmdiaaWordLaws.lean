/-
  Layer 10 (word): the walks of the laws.
-/
import Derived.Test.YtbchfkocpnmdiaaWordWorks
namespace Go.Proofs.Ytbchfkocpnmdiaa.Word
open Go.RowKit Go.Proofs.Ytbchfkocpnmdiaa.Own Go.Proofs.Ytbchfkocpnmdiaa.Rw

set_option maxRecDepth 100000 in
set_option maxHeartbeats 2000000 in
theorem is_walk (s t : ByteArray) (hs : s.size ≤ 9223372036854775807) (ht : t.size ≤ 9223372036854775807) (w : World) :
    Calls Try.prog 3 #[.string s, .string t] w fun e w' => e = .returned (.bool true) ∧ Below w.heap.size w w' := by
  have hB := Below.refl w.heap.size w
  by_cases h1 : s.size ≤ 200
  · by_cases h2 : t.size ≤ 200
    · have hz : s.size ≤ 1000000 := by omega
      have hz2 : t.size ≤ 1000000 := by omega
      cases hn : isName s.data.toList with
      | false =>
        go_enter Try.func3, Try.ntmps3
        go_wp2_with (first
          | (go_at_call 7; refine (is_calls _ _).mono ?_; rintro e w' ⟨rfl, rfl⟩)
          | (go_at_call 8; refine (ris_calls _ hz _).mono ?_; rintro e w' ⟨rfl, rfl⟩)
          | (go_at_call 9; refine (fits_calls _ _).mono ?_; rintro e w' ⟨rfl, rfl⟩)
          | (go_at_call 10; refine (rfits_calls _ hz _).mono ?_; rintro e w' ⟨rfl, rfl⟩)
          | (go_at_call 6; refine (works_calls _).mono ?_; rintro e w' ⟨rfl, hb⟩; replace hB := hB.trans (hb.mono hB.size); clear hb))
        go_ret
        exact ⟨rfl, hB⟩
      | true =>
        have hp := name_pat hn
        have g1 : glob s.data.toList s.data.toList = true := by rw [name_self hn]; simp
        cases he : (s.data.toList == t.data.toList) with
        | true =>
          have g2 : glob s.data.toList t.data.toList = true := by rw [name_self hn]; exact he
          have g3 : (s.toList == t.toList) = true := by rw [ByteArray.toList_eq, ByteArray.toList_eq]; exact he
          replace he := Lib.hid he
          go_enter Try.func3, Try.ntmps3
          go_wp2_with (first
            | (go_at_call 7; refine (is_calls _ _).mono ?_; rintro e w' ⟨rfl, rfl⟩)
            | (go_at_call 8; refine (ris_calls _ hz _).mono ?_; rintro e w' ⟨rfl, rfl⟩)
            | (go_at_call 9; refine (fits_calls _ _).mono ?_; rintro e w' ⟨rfl, rfl⟩)
            | (go_at_call 10; refine (rfits_calls _ hz _).mono ?_; rintro e w' ⟨rfl, rfl⟩)
            | (go_at_call 11; refine (match_calls _ _ (by assumption) _).mono ?_; rintro e w' ⟨rfl, hb⟩; replace hB := hB.trans (hb.mono hB.size); clear hb)
            | (go_at_call 6; refine (works_calls _).mono ?_; rintro e w' ⟨rfl, hb⟩; replace hB := hB.trans (hb.mono hB.size); clear hb))
          go_ret
          exact ⟨rfl, hB⟩
        | false =>
          have g2 : glob s.data.toList t.data.toList = false := by rw [name_self hn]; exact he
          have g3 : (s.toList == t.toList) = false := by rw [ByteArray.toList_eq, ByteArray.toList_eq]; exact he
          replace he := Lib.hid he
          go_enter Try.func3, Try.ntmps3
          go_wp2_with (first
            | (go_at_call 7; refine (is_calls _ _).mono ?_; rintro e w' ⟨rfl, rfl⟩)
            | (go_at_call 8; refine (ris_calls _ hz _).mono ?_; rintro e w' ⟨rfl, rfl⟩)
            | (go_at_call 9; refine (fits_calls _ _).mono ?_; rintro e w' ⟨rfl, rfl⟩)
            | (go_at_call 10; refine (rfits_calls _ hz _).mono ?_; rintro e w' ⟨rfl, rfl⟩)
            | (go_at_call 11; refine (match_calls _ _ (by assumption) _).mono ?_; rintro e w' ⟨rfl, hb⟩; replace hB := hB.trans (hb.mono hB.size); clear hb)
            | (go_at_call 6; refine (works_calls _).mono ?_; rintro e w' ⟨rfl, hb⟩; replace hB := hB.trans (hb.mono hB.size); clear hb))
          go_ret
          exact ⟨rfl, hB⟩
    · have h2' : 200 < t.size := by omega
      go_enter Try.func3, Try.ntmps3
      go_wp2_with (go_at_call 6; refine (works_calls _).mono ?_; rintro e w' ⟨rfl, hb⟩; replace hB := hB.trans (hb.mono hB.size); clear hb)
      go_ret
      exact ⟨rfl, hB⟩
  · have h1' : 200 < s.size := by omega
    go_enter Try.func3, Try.ntmps3
    go_wp2_with (go_at_call 6; refine (works_calls _).mono ?_; rintro e w' ⟨rfl, hb⟩; replace hB := hB.trans (hb.mono hB.size); clear hb)
    go_ret
    exact ⟨rfl, hB⟩

theorem list_app (a b : ByteArray) : (a ++ b).data.toList = a.data.toList ++ b.data.toList := by simp [ByteArray.data_append]
theorem match_yes (p s : ByteArray) (P S : List UInt8) (hs : s.size ≤ 1000000) (eP : p.data.toList = P) (eS : s.data.toList = S) (hp : isPat P = true) (hg : glob P S = true) (w : World) :
    Calls Try.prog 11 #[.string p, .string s] w fun e w' => e = .returned (.bool true) ∧ Below w.heap.size w w' := by
  subst eP eS
  refine (match_calls p s hs w).mono ?_
  rintro e w' ⟨rfl, hb⟩
  exact ⟨by rw [hp, hg]; rfl, hb⟩
theorem pat_more {p : List UInt8} (h : isPat p = true) (hl : p.length ≤ 31) : isPat (p ++ [42]) = true ∧ isPat (42 :: p) = true := by
  simp only [isPat, sized, allP, Bool.and_eq_true, decide_eq_true_eq, List.all_eq_true, List.length_append, List.length_cons, List.length_nil] at h ⊢
  refine ⟨⟨by omega, fun c hc => ?_⟩, ⟨by omega, fun c hc => ?_⟩⟩
  · rw [List.mem_append] at hc
    rcases hc with hc | hc
    · exact h.2 c hc
    · obtain rfl : c = 42 := by simpa using hc
      decide
  · rw [List.mem_cons] at hc
    rcases hc with rfl | hc
    · decide
    · exact h.2 c hc

set_option maxRecDepth 100000 in
set_option maxHeartbeats 2000000 in
theorem matches_walk (p s m : ByteArray) (hp0 : p.size ≤ 9223372036854775807) (hs0 : s.size ≤ 9223372036854775807) (hm0 : m.size ≤ 9223372036854775807) (w : World) :
    Calls Try.prog 4 #[.string p, .string s, .string m] w fun e w' => e = .returned (.bool true) ∧ Below w.heap.size w w' := by
  have hB := Below.refl w.heap.size w
  by_cases h1 : p.size ≤ 60 ∧ s.size ≤ 60 ∧ m.size ≤ 60
  · obtain ⟨h1, h2, h3⟩ := h1
    have hz : s.size ≤ 1000000 := by omega
    have hz2 : p.size ≤ 1000000 := by omega
    cases hg : (isPat p.data.toList && glob p.data.toList s.data.toList) with
    | false =>
      go_enter Try.func4, Try.ntmps4
      go_wp2_with (first
        | (go_at_call 11; refine (match_calls _ _ hz _).mono ?_; rw [hg]; rintro e w' ⟨rfl, hb⟩; replace hB := hB.trans (hb.mono hB.size); clear hb)
        | (go_at_call 12; refine (rmatch_calls _ _ hz hz2 _).mono ?_; rw [hg]; rintro e w' ⟨rfl, hb⟩; replace hB := hB.trans (hb.mono hB.size); clear hb)
        | (go_at_call 6; refine (works_calls _).mono ?_; rintro e w' ⟨rfl, hb⟩; replace hB := hB.trans (hb.mono hB.size); clear hb))
      go_ret
      exact ⟨rfl, hB⟩
    | true =>
      by_cases h31 : p.size ≤ 31
      · obtain ⟨hp, hgl⟩ : isPat p.data.toList = true ∧ glob p.data.toList s.data.toList = true := by simpa using hg
        obtain ⟨hp1, hp2⟩ := pat_more hp (show p.data.toList.length ≤ 31 from h31)
        have M1 := Lib.hid (match_yes (p ++ ⟨#[42]⟩) (s ++ m) _ _ (by simp; omega) (list_app _ _) (list_app _ _) hp1 (glob_more _ _ m.data.toList hgl))
        have M2 := Lib.hid (match_yes (⟨#[42]⟩ ++ p) (m ++ s) _ _ (by simp; omega) (list_app _ _) (list_app _ _) hp2 (glob_less _ _ m.data.toList hgl))
        clear hp hgl hp1 hp2
        go_enter Try.func4, Try.ntmps4
        go_wp2_with fail
        refine (match_calls _ _ hz _).mono ?_
        rw [hg]
        rintro e w1 ⟨rfl, hb⟩
        replace hB := hB.trans (hb.mono hB.size); clear hb
        go_wp2_with fail
        refine (rmatch_calls _ _ hz hz2 _).mono ?_
        rw [hg]
        rintro e w2 ⟨rfl, hb⟩
        replace hB := hB.trans (hb.mono hB.size); clear hb
        go_wp2_with fail
        refine (match_calls _ _ hz _).mono ?_
        rw [hg]
        rintro e w3 ⟨rfl, hb⟩
        replace hB := hB.trans (hb.mono hB.size); clear hb
        go_wp2_with fail
        refine (M1.out _).mono ?_
        rintro e w4 ⟨rfl, hb⟩
        replace hB := hB.trans (hb.mono hB.size); clear hb
        go_wp2_with fail
        refine (M2.out _).mono ?_
        rintro e w5 ⟨rfl, hb⟩
        replace hB := hB.trans (hb.mono hB.size); clear hb
        go_wp2_with fail
        refine (works_calls _).mono ?_
        rintro e w6 ⟨rfl, hb⟩
        replace hB := hB.trans (hb.mono hB.size); clear hb
        go_wp2_with fail
        go_ret
        exact ⟨rfl, hB⟩
      · have h31' : 31 < p.size := by omega
        go_enter Try.func4, Try.ntmps4
        go_wp2_with (first
          | (go_at_call 11; refine (match_calls _ _ hz _).mono ?_; rw [hg]; rintro e w' ⟨rfl, hb⟩; replace hB := hB.trans (hb.mono hB.size); clear hb)
          | (go_at_call 12; refine (rmatch_calls _ _ hz hz2 _).mono ?_; rw [hg]; rintro e w' ⟨rfl, hb⟩; replace hB := hB.trans (hb.mono hB.size); clear hb)
          | (go_at_call 6; refine (works_calls _).mono ?_; rintro e w' ⟨rfl, hb⟩; replace hB := hB.trans (hb.mono hB.size); clear hb))
        go_ret
        exact ⟨rfl, hB⟩
  · rcases (show 60 < p.size ∨ (p.size ≤ 60 ∧ 60 < s.size) ∨ (p.size ≤ 60 ∧ s.size ≤ 60 ∧ 60 < m.size) by omega) with h | ⟨h, h'⟩ | ⟨h, h', h''⟩
    all_goals
      clear h1
      go_enter Try.func4, Try.ntmps4
      go_wp2_with (go_at_call 6; refine (works_calls _).mono ?_; rintro e w' ⟨rfl, hb⟩; replace hB := hB.trans (hb.mono hB.size); clear hb)
      go_ret
      exact ⟨rfl, hB⟩

end Go.Proofs.Ytbchfkocpnmdiaa.Word

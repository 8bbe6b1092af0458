/-
  Layer 18 (backoff): a wait that was made, and what befalls it; the laws' sample, walked.
-/
import Derived.Test.YtblmjacphhpekaaBkfFail
import Derived.Test.YtblmjacphhpekaaBkfRef
namespace Go.Proofs.Ytblmjacphhpekaa.Bkf
open Go.RowKit Go.Proofs.Ytblmjacphhpekaa.Own Go.Proofs.Ytblmjacphhpekaa.Rw Go.Proofs.Ytblmjacphhpekaa.Tree Go.Proofs.Ytblmjacphhpekaa.Calc

/-- a wait that the call made, and the world -/
structure Wk (w W : World) (k : Nat) (b c j : Int) (n : Nat) : Prop where
  at_ : IsW W k b c j (n + 1)
  lb : w.heap.size ≤ k
  below : Below w.heap.size w W
theorem Wk.keep {w W W' : World} {k : Nat} {b c j : Int} {n : Nat} (h : Wk w W k b c j n) (hb : Below W.heap.size W W') : Wk w W' k b c j n := ⟨h.at_.below hb, h.lb, h.below.trans (hb.mono h.below.size)⟩
theorem Wk.step {w W W' : World} {k : Nat} {b c j : Int} {n m : Nat} (h : Wk w W k b c j n) (hr : IsW W' k b c j (m + 1)) (ho : Out (fun i => i = k) W W') : Wk w W' k b c j m :=
  ⟨hr, h.lb, h.below.trans (ho.below h.below.size fun i e => by rw [e]; exact h.lb)⟩
section
variable {w W : World} {k : Nat} {b c j : Int} {n : Nat}
theorem wk_new (hk : okR b c j) : Calls Try.prog 6 #[.agg #[.int .i64 b, .int .i64 c, .int .i64 j]] W fun e w' => ∃ k, e = .returned (.tuple #[.pointer (some ⟨k, 0, none⟩), .int .i64 0]) ∧ IsW w' k b c j 1 ∧ W.heap.size ≤ k ∧ Below W.heap.size W w' := new_yes b c j hk W
theorem wk_yes (hk : okR b c j) (hn : n < 1000000000000000000) (h : Wk w W k b c j n) (now r a : Int) (ht : isT now = true) (hA : atR b c j n now r = a) (ha : isT a = true) :
    Calls Try.prog 10 #[.pointer (some ⟨k, 0, none⟩), .int .i64 now, .int .i64 r] W fun e w' => e = .returned (.tuple #[.int .i64 a, .int .i64 0]) ∧ Wk w w' k b c j (n + 1) := by
  subst hA
  refine (fail_calls hk hn h.at_ now r).mono ?_
  rintro e w' (⟨h1, _⟩ | ⟨_, h2, _⟩ | ⟨_, _, rfl, h3, h4⟩)
  · rw [ht] at h1; cases h1
  · rw [ha] at h2; cases h2
  · exact ⟨rfl, h.step h3 h4⟩
theorem wk_arg (hk : okR b c j) (hn : n < 1000000000000000000) (h : Wk w W k b c j n) (now r : Int) (ht : isT now = false) :
    Calls Try.prog 10 #[.pointer (some ⟨k, 0, none⟩), .int .i64 now, .int .i64 r] W fun e w' => e = .returned (.tuple #[.int .i64 0, .int .i64 1]) ∧ Wk w w' k b c j n := by
  refine (fail_calls hk hn h.at_ now r).mono ?_
  rintro e w' (⟨_, rfl, h3⟩ | ⟨h1, _⟩ | ⟨h1, _⟩)
  · exact ⟨rfl, h.keep h3⟩
  · rw [ht] at h1; cases h1
  · rw [ht] at h1; cases h1
theorem wk_far (hk : okR b c j) (hn : n < 1000000000000000000) (h : Wk w W k b c j n) (now r : Int) (ht : isT now = true) (ha : isT (atR b c j n now r) = false) :
    Calls Try.prog 10 #[.pointer (some ⟨k, 0, none⟩), .int .i64 now, .int .i64 r] W fun e w' => e = .returned (.tuple #[.int .i64 0, .int .i64 2]) ∧ Wk w w' k b c j n := by
  refine (fail_calls hk hn h.at_ now r).mono ?_
  rintro e w' (⟨h1, _⟩ | ⟨_, _, rfl, h3⟩ | ⟨_, h2, _⟩)
  · rw [ht] at h1; cases h1
  · exact ⟨rfl, h.keep h3⟩
  · rw [ha] at h2; cases h2
theorem wk_good (h : Wk w W k b c j n) :
    Calls Try.prog 9 #[.pointer (some ⟨k, 0, none⟩)] W fun e w' => e = .returned (.tuple #[]) ∧ Wk w w' k b c j 0 := by
  refine (good_calls h.at_ (by omega)).mono ?_
  rintro e w' ⟨rfl, h1, h2⟩
  exact ⟨rfl, h.step h1 h2⟩
theorem wk_tries (hn : n < 1000000000000000000) (h : Wk w W k b c j n) :
    Calls Try.prog 12 #[.pointer (some ⟨k, 0, none⟩)] W fun e w' => e = .returned (.int .i64 n) ∧ Wk w w' k b c j n := by
  refine (tries_calls hn h.at_).mono ?_
  rintro e w' ⟨rfl, m, rfl⟩
  exact ⟨rfl, h.keep (below_drew (Below.refl _ _))⟩
end
set_option maxRecDepth 100000 in
set_option maxHeartbeats 8000000 in
theorem works_calls (w : World) : Calls Try.prog 5 #[] w fun e w' => e = .returned (.bool true) ∧ Below w.heap.size w w' := by
  have HK : Hid (okR 2 10 3) := Lib.hid (by decide)
  have HN : Hid (¬ okR 0 0 0) := Lib.hid (by decide)
  go_enter Try.func5, Try.ntmps5
  go_wp2_with fail
  refine (wk_new HK.out).mono ?_
  rintro e w1 ⟨k, rfl, h1, h2, h3⟩
  have W1 : Hid (Wk w w1 k 2 10 3 0) := Lib.hid ⟨h1, h2, h3⟩
  clear h1 h2 h3
  go_wp2_with fail
  refine (new_no 0 0 0 HN.out w1).mono ?_
  rintro e w2 ⟨rfl, hB⟩
  have W2 := Lib.hid (W1.out.keep hB)
  clear W1 hB
  go_wp2_with fail
  refine (wk_yes HK.out (by omega) W2.out 100 0 102 (by decide) (by decide) (by decide)).mono ?_
  rintro e w3 ⟨rfl, hW⟩
  have W3 := Lib.hid hW
  clear W2 hW
  go_wp2_with fail
  refine (wk_yes HK.out (by omega) W3.out 100 5 105 (by decide) (by decide) (by decide)).mono ?_
  rintro e w4 ⟨rfl, hW⟩
  have W4 := Lib.hid hW
  clear W3 hW
  go_wp2_with fail
  refine (wk_yes HK.out (by omega) W4.out 100 (-1) 111 (by decide) (by decide) (by decide)).mono ?_
  rintro e w5 ⟨rfl, hW⟩
  have W5 := Lib.hid hW
  clear W4 hW
  go_wp2_with fail
  refine (wk_yes HK.out (by omega) W5.out 100 2 112 (by decide) (by decide) (by decide)).mono ?_
  rintro e w6 ⟨rfl, hW⟩
  have W6 := Lib.hid hW
  clear W5 hW
  go_wp2_with fail
  refine (wk_arg HK.out (by omega) W6.out (-1) 0 (by decide)).mono ?_
  rintro e w7 ⟨rfl, hW⟩
  have W7 := Lib.hid hW
  clear W6 hW
  go_wp2_with fail
  refine (wk_far HK.out (by omega) W7.out 1099511627776 0 (by decide) (by decide)).mono ?_
  rintro e w8 ⟨rfl, hW⟩
  have W8 := Lib.hid hW
  clear W7 hW
  go_wp2_with fail
  refine (wk_tries (by omega) W8.out).mono ?_
  rintro e w9 ⟨rfl, hW⟩
  have W9 := Lib.hid hW
  clear W8 hW
  go_wp2_with fail
  refine (wk_good W9.out).mono ?_
  rintro e w10 ⟨rfl, hW⟩
  have W10 := Lib.hid hW
  clear W9 hW
  obtain ⟨c0, c1, c2, c3⟩ := row4 W10.out.at_
  go_wp2_with fail
  refine (bounds_calls 2 10 3 HK.out 1 _).mono ?_
  rintro e w11 ⟨rfl, hb⟩
  rw [show lowR 2 10 1 = 4 by decide]
  have W11 := Lib.hid (W10.out.keep hb)
  clear W10 hb c0 c1 c2 c3
  go_wp2_with fail
  refine (wk_tries (by omega) W11.out).mono ?_
  rintro e w12 ⟨rfl, hW⟩
  go_wp2_with fail
  go_ret
  exact ⟨rfl, hW.below⟩
end Go.Proofs.Ytblmjacphhpekaa.Bkf

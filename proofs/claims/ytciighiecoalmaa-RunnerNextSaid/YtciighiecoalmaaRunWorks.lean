/-
  Layer 17 (runner): the laws' sample, walked.
-/
import Derived.Test.YtciighiecoalmaaRunSteps
import Derived.BigQuiet
namespace Go.Proofs.Ytciighiecoalmaa.Run
open Go.RowKit Go.Proofs.Ytciighiecoalmaa.Own Go.Proofs.Ytciighiecoalmaa.Brk Go.Proofs.Ytciighiecoalmaa.Calc Go.Proofs.Ytciighiecoalmaa.Tree

def sam : List Op := [⟨1, [97], 0⟩, ⟨2, [], 3⟩, ⟨3, [], 0⟩, ⟨1, [98], 0⟩, ⟨2, [], 2⟩]
theorem sam_chk : chk 10 sam = 0 := by decide
theorem sam_ends : ends 10 sam = 15 := by decide
theorem sam_dues : dues 10 sam = [(10, ⟨1, [97], 0⟩), (13, ⟨3, [], 0⟩), (13, ⟨1, [98], 0⟩)] := rfl
theorem Asked.below {w w' : World} {b q : Nat} {D : List (Int × Op)} {E was : Int} (h : Asked w b q D E was) (hb : Below w.heap.size w w') : Asked w' b q D E was := IsRun.below h hb
theorem new_eq (l : List Op) (m : Nat) (hm : l.length = m) (hm2 : m ≤ 1000) (now was : Int) (hw : was < now) (D : List (Int × Op)) (E : Int) (hD : dues now l = D) (hE : ends now l = E) (p : Option Addr) (c : Nat) (w : World) (h : Ops w l p c) (hc : chk now l = 0) :
    Calls Try.prog 7 #[.slice p m c, .int .i64 now] w fun e w' => ∃ b q, e = .returned (.tuple #[.pointer (some ⟨b, 0, none⟩), .int .i64 0]) ∧ Asked w' b q D E was ∧ w.heap.size ≤ b ∧ w.heap.size ≤ q ∧ Below w.heap.size w w' := by
  subst hD
  subst hE
  exact new_yes l m hm hm2 now was hw p c w h hc
def D0 : List (Int × Op) := [(10, ⟨1, [97], 0⟩), (13, ⟨3, [], 0⟩), (13, ⟨1, [98], 0⟩)]
theorem plan0 : Plan D0 15 := by
  have := plan_of sam_chk (by decide)
  rwa [sam_dues, sam_ends] at this
/-- the sample's runner, and the world -/
structure Wk (w W : World) (b q : Nat) (was : Int) : Prop where
  run : Asked W b q D0 15 was
  lb : w.heap.size ≤ b
  below : Below w.heap.size w W
theorem Wk.keep {w W W' : World} {b q : Nat} {was : Int} (h : Wk w W b q was) (hb : Below W.heap.size W W') : Wk w W' b q was := ⟨h.run.below hb, h.lb, h.below.trans (hb.mono h.below.size)⟩
theorem Wk.step {w W W' : World} {b q : Nat} {was tt : Int} (h : Wk w W b q was) (hr : Asked W' b q D0 15 tt) (ho : Out (fun k => k = b) W W') : Wk w W' b q tt :=
  ⟨hr, h.lb, h.below.trans (ho.below h.below.size fun i e => by rw [e]; exact h.lb)⟩
theorem mine_stay {w : World} {B b : Nat} {v : Value} {T : List Op} (h : Mine w B v T) (hb : b < B) : ∃ p c, v = .slice p T.length c ∧ ∀ Y, Out (fun k => k = b) w Y → Ops Y T p c := by
  obtain ⟨p, c, rfl, _⟩ := h.ops
  refine ⟨p, c, rfl, fun Y ho => ?_⟩
  obtain ⟨p', c', e, h4⟩ := Mine.ops (show Mine Y B _ T from own_out h ho fun k hk e => by have := (own_lt h hk).1; omega)
  simp at e
  rw [e.1, e.2]
  exact h4
theorem wk_step {w W : World} {b q : Nat} {was : Int} (h : Wk w W b q was) (tt : Int) (ht : was ≤ tt) (T : List Op) (hT : told D0 was tt = T) :
    Calls Try.prog 15 #[.pointer (some ⟨b, 0, none⟩), .int .i64 tt] W fun r w' => ∃ p c, r = .returned (.slice p T.length c) ∧ (∀ Y, Out (fun k => k = b) w' Y → Ops Y T p c) ∧ Out (fun k => k = b) W w' ∧ Wk w w' b q tt := by
  refine (step_calls tt plan0 h.run ht).mono ?_
  rintro r w' ⟨v, rfl, h1, h2, h3⟩
  rw [hT] at h1
  obtain ⟨p, c, rfl, h4⟩ := mine_stay (b := b) h1 h.run.at_lt
  exact ⟨p, c, rfl, h4, h3, h.step h2 h3⟩
theorem wk_next {w W : World} {b q : Nat} {was : Int} (h : Wk w W b q was) (a : Int) (g : Bool) (ha : nxV D0 15 was = a) (hg : nxB 15 was = g) :
    Calls Try.prog 11 #[.pointer (some ⟨b, 0, none⟩)] W fun r w' => r = .returned (.tuple #[.int .i64 a, .bool g]) ∧ W = w' := by
  subst ha; subst hg; exact next_at h.run
theorem wk_done {w W : World} {b q : Nat} {was : Int} (h : Wk w W b q was) (g : Bool) (hg : nxB 15 was = g) :
    Calls Try.prog 13 #[.pointer (some ⟨b, 0, none⟩)] W fun r w' => r = .returned (.bool !g) ∧ W = w' := by
  subst hg; exact done_at h.run

set_option maxRecDepth 100000 in
set_option maxHeartbeats 8000000 in
theorem works_calls (w : World) : Calls Try.prog 6 #[] w fun e w' => e = .returned (.bool true) ∧ Below w.heap.size w w' := by
  go_enter Try.func6, Try.ntmps6
  go_wp2_with fail
  have O1 := (ops_lit w sam w.heap.size rfl _ rfl).resolve_right (by unfold maxLen; decide)
  refine (new_eq sam 5 rfl (by omega) 10 9 (by omega) D0 15 sam_dues sam_ends (some ⟨w.heap.size, 0, none⟩) 5 _ O1 sam_chk).mono ?_
  rintro e w1 ⟨b, q, rfl, hA, hb, hq, hB⟩
  have W1 : Hid (Wk w w1 b q 9) := Lib.hid ⟨hA, by simp at hb; omega, ((Below.refl w.heap.size w).alloc (Nat.le_refl _) _).trans (hB.mono (by simp))⟩
  clear O1 hA hb hq hB
  go_wp2_with fail
  have O2 := (ops_lit w1 [⟨2, [], 0⟩] w1.heap.size rfl _ rfl).resolve_right (by unfold maxLen; decide)
  refine (new_no [⟨2, [], 0⟩] 1 rfl (by omega) 0 (some ⟨w1.heap.size, 0, none⟩) 1 _ O2 1 (by decide) (by omega)).mono ?_
  rintro e w2 ⟨rfl, hB⟩
  have W2 := Lib.hid (W1.out.keep (((Below.refl w1.heap.size w1).alloc (Nat.le_refl _) _).trans (hB.mono (by simp))))
  clear O2 hB W1
  go_wp2_with fail
  have O3 := (ops_lit w2 [⟨2, [], 1⟩] w2.heap.size rfl _ rfl).resolve_right (by unfold maxLen; decide)
  refine (new_no [⟨2, [], 1⟩] 1 rfl (by omega) 1099511627776 (some ⟨w2.heap.size, 0, none⟩) 1 _ O3 2 (by decide) (by omega)).mono ?_
  rintro e w3 ⟨rfl, hB⟩
  have W3 := Lib.hid (W2.out.keep (((Below.refl w2.heap.size w2).alloc (Nat.le_refl _) _).trans (hB.mono (by simp))))
  clear O3 hB W2
  go_wp2_with fail
  refine (wk_next W3.out 10 true (by decide) (by decide)).mono ?_
  rintro e w' ⟨rfl, rfl⟩
  go_wp2_with fail
  refine (wk_step W3.out 10 (by omega) [⟨1, [97], 0⟩] (by rfl)).mono ?_
  rintro e w4 ⟨p1, c1, rfl, -, -, hW⟩
  have W4 := Lib.hid hW
  clear hW W3
  go_wp2_with fail
  refine (wk_next W4.out 13 true (by decide) (by decide)).mono ?_
  rintro e w' ⟨rfl, rfl⟩
  go_wp2_with fail
  refine (wk_step W4.out 12 (by omega) [] (by rfl)).mono ?_
  rintro e w5 ⟨p2, c2, rfl, -, -, hW⟩
  have W5 := Lib.hid hW
  clear hW W4
  go_wp2_with fail
  refine (wk_step W5.out 13 (by omega) [⟨3, [], 0⟩, ⟨1, [98], 0⟩] (by rfl)).mono ?_
  rintro e w6 ⟨p3, c3, rfl, hO, -, hW⟩
  have W6 := Lib.hid hW
  have HO := Lib.hid hO
  clear hW W5 hO
  go_wp2_with fail
  refine (wk_next W6.out 15 true (by decide) (by decide)).mono ?_
  rintro e w' ⟨rfl, rfl⟩
  go_wp2_with fail
  refine (wk_done W6.out true (by decide)).mono ?_
  rintro e w' ⟨rfl, rfl⟩
  go_wp2_with fail
  refine (wk_step W6.out 15 (by omega) [] (by rfl)).mono ?_
  rintro e w7 ⟨p4, c4, rfl, -, hX, hW⟩
  have W7 := Lib.hid hW
  have hO := HO.out w7 hX
  have hcap := hO.cap
  have hmax := hO.max
  unfold maxLen at hmax
  rcases hO.cells with h0 | ⟨bo, oo, rfl, hbl, hc⟩
  · simp at h0
  · have e1 := (hc 1 (by decide)).2.1
    clear hc hO hX hW W6 HO
    go_wp2_with fail
    refine (wk_next W7.out 0 false (by decide) (by decide)).mono ?_
    rintro e w' ⟨rfl, rfl⟩
    go_wp2_with fail
    refine (wk_done W7.out false (by decide)).mono ?_
    rintro e w' ⟨rfl, rfl⟩
    go_wp2_with fail
    refine (ends_calls W7.out.run).mono ?_
    rintro e w' ⟨rfl, rfl⟩
    go_wp2_with fail
    go_ret
    exact ⟨rfl, W7.out.below⟩
end Go.Proofs.Ytciighiecoalmaa.Run

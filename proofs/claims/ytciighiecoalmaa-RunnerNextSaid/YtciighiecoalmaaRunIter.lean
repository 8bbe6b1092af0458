/-
  Layer 17 (runner): timed and what it hands back, walked inside a fence.
-/
import Derived.RangeFuncNested
import Derived.RangeFuncBound
import Derived.RangeFuncCalls
import Derived.RangeFuncLeaves
import Derived.Shelf.Abstract
import Derived.Shelf.RegionOpen
import Derived.WalkKit
import Derived.OwnWalkIn
import Derived.TacticsInMore
import Derived.LoopNIn
import Derived.LoopIn
import Derived.Test.YtciighiecoalmaaRunProg
namespace Go.Proofs.Ytciighiecoalmaa.Run
open Go.RowKit Go.Shelf Go.Proofs.Ytciighiecoalmaa.Own Go.Proofs.Ytciighiecoalmaa.Brk Go.Proofs.Ytciighiecoalmaa.Calc
attribute [local go_sem] Oper.semAt_some

/-- each step with the time when it is due, as the program reckons it -/
def tmW : Int → List Op → List (Int × Op)
  | _, [] => []
  | a, x :: r => (a, x) :: tmW (wrap64 (a + x.n)) r
theorem tmW_len (a : Int) (l : List Op) : (tmW a l).length = l.length := by
  induction l generalizing a with
  | nil => rfl
  | cons x r ih => rw [tmW, List.length_cons, ih]; rfl
/-- a step as yield is handed it -/
def enc (x : Int × Op) : Array Value := #[.int .i64 x.1, .agg #[.int .i64 x.2.k, .string ⟨x.2.s.toArray⟩, .int .i64 x.2.n]]
/-- what a round keeps: what lay below n₀, and whatever ops lay there -/
def Kp (n₀ : Nat) (A B : World) : Prop := Below n₀ A B ∧ ∀ (k : Nat) (cs : Array Value), A.heap[k]? = some (Obj.cells cs 42 (0, 0)) → B.heap[k]? = some (Obj.cells cs 42 (0, 0))
theorem kp_t {n₀ : Nat} {A B C : World} (h : Kp n₀ A B) (g : Kp n₀ B C) : Kp n₀ A C := ⟨h.1.trans g.1, fun k cs e => g.2 k cs (h.2 k cs e)⟩
theorem kp_refl (n₀ : Nat) (A : World) : Kp n₀ A A := ⟨Below.refl _ _, fun _ _ h => h⟩

set_option maxRecDepth 100000 in
set_option maxHeartbeats 4000000 in
theorem timed1_in (F : Fence) (n : Nat) (hF : F.fn 20) (hro : F.round = none) (hn : 1 ≤ n) (lo Bl Bn n₀ m c : Nat) (p : Option Addr) (now : Int) (l : List Op) (hm : l.length = m) (J Jx : List (Int × Op) → World → Prop) (W : World)
    (hJ : AbidesFrom W.heap.size J)
    (hY : ∀ pre x W1, J pre W1 → pre.length < l.length → YieldAt F (n - 1) Try.prog lo (enc x) W1 fun e W' =>
      (e = .returned (.bool true) ∧ J (pre ++ [x]) W' ∧ Kp n₀ W1 W') ∨ (e = .returned (.bool false) ∧ Jx (pre ++ [x]) W'))
    (hBl : W.cell? ⟨Bl, 0, none⟩ = some (.slice p m c)) (hBn : W.cell? ⟨Bn, 0, none⟩ = some (.int .i64 now)) (hL : Ops W l p c) (hn₀ : ∀ b o, p = some ⟨b, o, none⟩ → b < n₀ ∨ l = []) (hsz : n₀ ≤ W.heap.size) (h0 : J [] W) :
    CallsIn F n Try.prog 20 #[.func (.yield lo) #[] #[], .pointer (some ⟨Bn, 0, none⟩), .pointer (some ⟨Bl, 0, none⟩)] W fun e W' => (∃ v, e = .returned v) ∧
      ((∃ ys, ys = tmW now l ∧ J ys W') ∨ (∃ pre, pre <+: tmW now l ∧ Jx pre W')) := by
  have hcap := hL.cap
  have hmax := hL.max
  unfold maxLen at hmax
  have HL := Lib.hid hL
  have HM := Lib.hid hm
  have HN := Lib.hid hn₀
  have HY := Lib.hid hY
  have HJ := Lib.hid hJ
  have q2 : (m : Int) ≤ 9223372036854775807 := by omega
  clear hL hn₀ hY hJ
  refine callsIn_of_wp Try.func20 rfl hF ?_ hro
  simp only [Try.ntmps20, List.size_toArray, List.length_cons, List.length_nil, Nat.reduceAdd, Nat.reduceSub, Array.replicate_succ, Array.replicate_zero, List.push_toArray, List.append_toArray, List.nil_append, List.cons_append]
  gi_wp2
  gi_loopw [4, 10] (fun u i wr => ∃ (k : Nat) (a : Int) (pre : List (Int × Op)), k ≤ m ∧ i = .int .i64 k ∧ u = .int .i64 a ∧ Hid (tmW now l = pre ++ tmW a (l.drop k) ∧ pre.length = k) ∧ Hid (J pre wr) ∧ Hid (Below n₀ W wr))
    (fun _ i _ => m - (intOf i).toNat)
  case atStart => exact ⟨0, now, [], Nat.zero_le _, rfl, rfl, Lib.hid ⟨rfl, rfl⟩, Lib.hid h0, Lib.hid (Below.refl _ _)⟩
  case round =>
    obtain ⟨k, a, pre, hk, rfl, rfl, HT, HJs, HB⟩ := hrel
    rcases Nat.lt_or_eq_of_le hk with hlt | rfl
    · have hkl : k < l.length := by rw [HM.out]; exact hlt
      rcases HL.out.cells with h00 | ⟨b, o, rfl, hbl, hc⟩
      · rw [h00] at hkl; simp at hkl
      · have hb0 : b < n₀ := (HN.out b o rfl).resolve_right (fun e => by rw [e] at hkl; simp at hkl)
        obtain ⟨c0, c1, c2⟩ := hc k hkl
        rw [← HB.out.cell (p := ⟨b, _, none⟩) hb0] at c0 c1 c2
        have q1 : (k : Int) < (m : Int) := by omega
        have HD := Lib.hid (drop_at hkl)
        have hws : n₀ ≤ wr.heap.size := Nat.le_trans hsz HB.out.size
        generalize l[k] = x at *
        obtain ⟨xk, xs, xn⟩ := x
        simp only at c0 c1 c2
        have hJ2 : J pre (wr.alloc (.cells #[.int .i64 xk, .string ⟨xs.toArray⟩, .int .i64 xn] 42)) := HJ.out pre wr _ none HJs.out (World.grownBy_alloc wr _ none) (fun r e => by cases e)
        obtain ⟨fn, tmps, assign, body, hy, hR⟩ := HY.out pre (a, ⟨xk, xs, xn⟩) _ hJ2 (by rw [HT.out.2]; exact hkl)
        unfold enc at hy
        dsimp only at hy
        have HR := Lib.hid hR
        clear hc hJ2 hR
        gi_wp2
        refine HR.out.mono ?_
        rintro e W3 (⟨rfl, hJ3, hk3⟩ | ⟨rfl, hJx3⟩)
        · have hrow := hk3.2 _ _ (at_new wr _)
          have d2 := at_cell hrow 2
          have HJ3 := Lib.hid hJ3
          have HK3 := Lib.hid hk3
          clear hJ3 hk3 hrow hy
          gi_wp2
          go_roundw
          case rel => exact ⟨k + 1, _, pre ++ [(a, ⟨xk, xs, xn⟩)], by omega, by go_num, rfl, Lib.hid ⟨by rw [HT.out.1, HD.out, tmW, List.append_assoc]; rfl, by rw [List.length_append, HT.out.2]; rfl⟩, HJ3, Lib.hid ((HB.out.alloc hws _).trans HK3.out.1)⟩
          case measure => simp [intOf]; omega
        · have HJ3 := Lib.hid hJx3
          clear hJx3 hy
          gi_wp2
          refine bodyPost_ret (results_none rfl _ _ _) rfl ?_
          exact ⟨⟨_, rfl⟩, .inr ⟨_, ⟨tmW (wrap64 (a + xn)) (l.drop (k + 1)), by rw [HT.out.1, HD.out, tmW, List.append_assoc]; rfl⟩, HJ3.out⟩⟩
    · have HE := Lib.hid (show pre = tmW now l by rw [HT.out.1, List.drop_eq_nil_of_le (by rw [HM.out]; exact Nat.le_refl _), tmW, List.append_nil])
      gi_wp2
      go_end0
      exact ⟨⟨_, rfl⟩, .inl ⟨_, HE.out, HJs.out⟩⟩

set_option maxRecDepth 100000 in
set_option maxHeartbeats 1000000 in
theorem timed_in (F : Fence) (n : Nat) (hF : F.fn 18) (hro : F.round = none) (p : Option Addr) (m c : Nat) (now : Int) (w : World) :
    CallsIn F n Try.prog 18 #[.slice p m c, .int .i64 now] w fun e w' => e = .returned (.func (.func 20) #[] #[.pointer (some ⟨w.heap.size + 1, 0, none⟩), .pointer (some ⟨w.heap.size, 0, none⟩)]) ∧ w' = (w.alloc (.cells #[.slice p m c] 22)).alloc (.cells #[.int .i64 now] 3) := by
  refine callsIn_of_wp Try.func18 rfl hF ?_ hro
  simp only [Try.ntmps18, List.size_toArray, List.length_cons, List.length_nil, Nat.reduceAdd, Nat.reduceSub, Array.replicate_succ, Array.replicate_zero, List.push_toArray, List.append_toArray, List.nil_append, List.cons_append]
  gi_wp2
  go_ret
  exact ⟨rfl, rfl⟩
end Go.Proofs.Ytciighiecoalmaa.Run

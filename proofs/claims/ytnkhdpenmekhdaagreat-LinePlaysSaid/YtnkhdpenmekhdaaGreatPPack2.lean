/-
Layer 17 (runner): Step, walked.
Layer 17 (runner): timed and what it hands back, walked inside a fence.
A region that draws its order: what each operation yields is told once, whatever the order.
A region that draws its order, and writes: what each operation yields is told once, whatever the order.
A region that draws its order, with guards and stores: each operation told once, whatever the order.
A region that draws its order, with guards and stores: each operation told once; what holds of the frame and the world meanwhile.
A region that draws its order, with guards; of each operation's value something is known that lasts; what is made lies in new blocks.
A region that draws its order and makes one thing: 'x.f = append(x.f, T{..})': all values known, the world known by what has been done.
-/
import Derived.Test.YtnkhdpenmekhdaaGreatPPack1
import Derived.RangeFuncNested
import Derived.RangeFuncBound
import Derived.RangeFuncCalls
import Derived.RangeFuncLeaves
import Derived.Shelf.Abstract
import Derived.Shelf.RegionOpen
import Derived.WalkKit
import Derived.OwnWalkIn
import Derived.TacticsInMore
import Derived.LoopNIn
import Derived.LoopIn
import Derived.Orders
section
namespace Go.Proofs.YtnkhdpenmekhdaaGreat.Run
open Go.RowKit Go.Proofs.YtnkhdpenmekhdaaGreat.Own Go.Proofs.YtnkhdpenmekhdaaGreat.Brk Go.Proofs.YtnkhdpenmekhdaaGreat.Calc Go.Proofs.YtnkhdpenmekhdaaGreat.Tree

/-- what is told, and what is left then -/
def tk (L : List (Int × Op)) (now : Int) : List Op := (L.takeWhile fun p => decide (p.1 ≤ now)).map (·.2)
def lv (L : List (Int × Op)) (now : Int) : List (Int × Op) := L.dropWhile fun p => decide (p.1 ≤ now)
theorem tk_split {L T R : List (Int × Op)} {now : Int} (h : L = T ++ R) (hT : ∀ p ∈ T, p.1 ≤ now) (hR : R = [] ∨ ∃ p r, R = p :: r ∧ now < p.1) : tk L now = T.map (·.2) ∧ lv L now = R := by
  subst h
  unfold tk lv
  have h1 : ∀ p ∈ T, decide (p.1 ≤ now) = true := fun p hp => by simpa using hT p hp
  rw [List.takeWhile_append_of_pos h1, List.dropWhile_append_of_pos h1]
  rcases hR with rfl | ⟨p, r, rfl, hp⟩
  · simp
  · rw [List.takeWhile_cons, List.dropWhile_cons, if_neg (by simp; omega), if_neg (by simp; omega)]
    simp
def StepPost (w : World) (b q : Nat) (L : List (Int × Op)) (e now : Int) (r : Ending) (w' : World) : Prop :=
  ∃ v, r = .returned v ∧ Mine w' w.heap.size v (tk L now) ∧ IsRun w' b q (lv L now) e (decide (now < e)) ∧ Out (fun k => k = b) w w'
/-- how far Step has come -/
structure StepAt (w wr : World) (b q : Nat) (L : List (Int × Op)) (e now : Int) (v : Value) (T R : List (Int × Op)) : Prop where
  own : Mine wr w.heap.size v (T.map (·.2))
  run : IsRun wr b q R e true
  out : Out (fun k => k = b) w wr
  split : L = T ++ R
  due : ∀ p ∈ T, p.1 ≤ now
theorem StepAt.end_ {w wr : World} {b q : Nat} {L T R : List (Int × Op)} {e now : Int} {v : Value} {g : Bool} (h : StepAt w wr b q L e now v T R) (hb : b < w.heap.size) (hR : R = [] ∨ ∃ p r, R = p :: r ∧ now < p.1) (hg : decide (now < e) = g) :
    StepPost w b q L e now (.returned v) (wr.setCell ⟨b, 2, none⟩ (.bool g)) := by
  obtain ⟨e1, e2⟩ := tk_split h.split h.due hR
  refine ⟨v, rfl, by rw [e1]; exact own_set h.own hb 2 _, ?_, h.out.setCell (fun _ => rfl) _⟩
  rw [e2, hg]
  exact h.run.turned g
theorem mine_last3 {w : World} {B : Nat} {v : Value} {T : List (Int × Op)} {x : Int × Op} {m : Nat} (h : w.ownsRow B 58 3 v (m + 1) (ov (T.map (·.2)) ++ [.int .i64 x.2.k, .string ⟨x.2.s.toArray⟩, .int .i64 x.2.n])) (hm : m = T.length) : Mine w B v ((T ++ [x]).map (·.2)) := by
  rw [List.map_append]
  exact mine_more (x := x.2) h (by simpa using hm)

set_option maxRecDepth 100000 in
set_option maxHeartbeats 4000000 in
theorem step_on {w : World} {b q : Nat} {L : List (Int × Op)} {e : Int} (now : Int) (h : IsRun w b q L e true) (hl : L.length ≤ 1000) :
    Calls Tryz.prog 58 #[.pointer (some ⟨b, 0, none⟩), .int .i64 now] w (StepPost w b q L e now) := by
  obtain ⟨i0, hi, hz0, hz1, hz2⟩ := info_parts info_op
  have HD := Lib.hid (done_calls h)
  have hbl := h.at_lt
  have H0 := Lib.hid h
  clear h
  go_enter Tryz.func58, Tryz.ntmps58
  go_wp2_with (go_at_call 54; refine (HD.out).mono ?_; rintro e w' ⟨rfl, rfl⟩)
  go_loopw [5] (fun v wr => ∃ T R, StepAt w wr b q L e now v T R) (fun _ wr => leftLen wr b)
  case atStart => exact ⟨[], L, mine_nil _ _, H0.out, Out.refl _ _, rfl, fun _ h => nomatch h⟩
  case round =>
    obtain ⟨T, R, C⟩ := hrel
    obtain ⟨p, n, c, hn, hr, h1, h2, h3⟩ := C.run.row
    have hlen : T.length + n ≤ 1000 := by rw [hn]; have := C.split; rw [this, List.length_append] at hl; exact hl
    unfold maxLen at h2
    have c0 := at_cell hr 0
    have c1 := at_cell hr 1
    have c2 := at_cell hr 2
    have f0 := at_frozen hr 0
    have f2 := at_frozen hr 2
    have HL := Lib.hid (left_len hr)
    cases R with
    | nil =>
      obtain rfl : n = 0 := hn
      by_cases hne : now < e
      · have HC := Lib.hid (C.end_ (g := true) hbl (.inl rfl) (by simpa using hne))
        clear C h3 hr
        go_wp2_with fail
        go_ret
        exact HC.out
      · have HC := Lib.hid (C.end_ (g := false) hbl (.inl rfl) (by simpa using hne))
        have hne2 : decide (now < e) = false := by simpa using hne
        clear C h3 hr
        go_wp2_with fail
        go_ret
        exact HC.out
    | cons x R =>
      obtain ⟨o, rfl, d0, d1, d2, d3⟩ := h3.head
      obtain ⟨m, rfl⟩ : ∃ m, n = m + 1 := ⟨R.length, hn⟩
      have hm : m = R.length := by simpa using hn
      have n1 : (0 : Int) < (m : Int) + 1 := by omega
      have n2 : decide ((0 : Int) < (m : Int) + 1) = true := by simp
      by_cases hx : x.1 ≤ now
      · obtain ⟨d, rfl⟩ : ∃ d, c = d + 1 := ⟨c - 1, by omega⟩
        obtain ⟨p', hp', hcut⟩ := cut1 q o m d (by omega)
        obtain ⟨t, ht⟩ : ∃ t, T.length = t := ⟨_, rfl⟩
        have hown := mine_m C.own (m := t) (by simpa using ht)
        have HO := Lib.hid hown
        have H3 := Lib.hid h3
        have HR := Lib.hid hr
        have HM := Lib.hid hm
        have HT := Lib.hid ht
        have HX := Lib.hid hx
        have HP := Lib.hid hp'
        have hrs := C.out.size
        have HC := Lib.hid C
        rw [ht] at hlen
        have htl : t ≤ 1000 := by omega
        obtain ⟨xa, xo⟩ := x
        obtain ⟨xk, xs, xn⟩ := xo
        simp only at d0 d1 d2 d3 hx
        have hd3 : decide (xa ≤ now) = true := by simpa using hx
        clear hn hown h3 hr hm ht hp' C
        go_wp2_with (at_builtin; go_loud (refine Own.append_any rfl (.tmp 25) (.tmp 33) 30 rfl w.heap.size 58 i0 _ 3 32 Tryz.underlying30 hi hz0 hz1 hz2 rfl (by decide) _ _ _ rfl (World.ownsRow.alloc HO.out _) _ 1 1 [.int .i64 xk, .string ⟨xs.toArray⟩, .int .i64 xn] rfl (fun h => nomatch h) rfl (Own.three_new _ _ _ _ _ _ (by simp)) (by simp [Value.oneCell']) (by unfold maxLen; omega) (by omega) (by simp; omega) ?_; intro v' w1 hown hgr; have hne1 : some b ≠ Value.ownBlock _ := fun e => (Nat.not_le_of_lt hbl) (World.ownsRow.lt HO.out _ e.symm).1; have hr1 := (hgr.block b (by simp; have := at_lt HR.out; omega) hne1).trans (at_old _ _ HR.out); have k0 := at_cell hr1 0; have g0 := at_frozen hr1 0; have lb := at_lt hr1; have HR1 := Lib.hid hr1; have HOW := Lib.hid hown; have HGR := Lib.hid hgr; clear hown hgr hr1 hne1))
        have hq : q < w.heap.size := H0.out.lt
        have hne2 : ∀ k, Value.ownBlock _ = some k → ¬ (k < w.heap.size) := fun k hk => Nat.not_lt.2 (World.ownsRow.lt HO.out k hk).1
        have HDu := Lib.hid (H3.out.same (w' := _) ((HGR.out.block q (by simp; omega) (fun e => hne2 q e.symm hq)).trans (Below.heap_alloc wr _ q (by omega))))
        have HRun := Lib.hid (IsRun.tail HR1.out HM.out (by omega) (by unfold maxLen; omega) HDu.out (p' := p') (fun o' he hne => by
          obtain rfl : o = o' := by simpa using he
          exact HP.out (by rw [HM.out]; exact List.length_pos_iff.2 hne)) H0.out.ne (Nat.lt_of_lt_of_le hq (Nat.le_trans hrs (Nat.le_trans (by simp) HGR.out.size))))
        have HOut := Lib.hid ((out_grown (HC.out.out.alloc _) HGR.out (fun k hk hlt => absurd hlt (hne2 k hk))).setCell (p := ⟨b, 0, none⟩) (fun _ => rfl) (.slice p' m d))
        go_roundw
        case rel => exact ⟨T ++ [⟨xa, ⟨xk, xs, xn⟩⟩], R, own_set (mine_last3 HOW.out HT.out.symm) hbl 0 _, HRun.out, HOut.out, by rw [HC.out.split, List.append_assoc]; rfl, fun p hp => by
          rcases List.mem_append.1 hp with h | h
          · exact HC.out.due p h
          · rw [List.mem_singleton.1 h]; exact HX.out⟩
        case measure => rw [HL.out, left_len (at_set HR1.out 0 _)]; exact Nat.lt_succ_self _
      · have HC0 := fun g => C.end_ (g := g) hbl (.inr ⟨x, R, rfl, by omega⟩)
        obtain ⟨xa, xo⟩ := x
        simp only at d0 hx
        have hx2 : decide (xa ≤ now) = false := by simpa using hx
        by_cases hne : now < e
        · have HC := Lib.hid (HC0 true (by simpa using hne))
          clear C h3 hr HC0 d1 d2 d3 hn hm
          go_wp2_with fail
          go_ret
          exact HC.out
        · have HC := Lib.hid (HC0 false (by simpa using hne))
          have hne2 : decide (now < e) = false := by simpa using hne
          clear C h3 hr HC0 d1 d2 d3 hn hm
          go_wp2_with fail
          go_ret
          exact HC.out
end Go.Proofs.YtnkhdpenmekhdaaGreat.Run
end

section
namespace Go.Proofs.YtnkhdpenmekhdaaGreat.Run
open Go.RowKit Go.Shelf Go.Proofs.YtnkhdpenmekhdaaGreat.Own Go.Proofs.YtnkhdpenmekhdaaGreat.Brk Go.Proofs.YtnkhdpenmekhdaaGreat.Calc
attribute [local go_sem] Oper.semAt_some

/-- each step with the time when it is due, as the program reckons it -/
def tmW : Int → List Op → List (Int × Op)
  | _, [] => []
  | a, x :: r => (a, x) :: tmW (wrap64 (a + x.n)) r
theorem tmW_len (a : Int) (l : List Op) : (tmW a l).length = l.length := by
  induction l generalizing a with
  | nil => rfl
  | cons x r ih => rw [tmW, List.length_cons, ih]; rfl
/-- a step as yield is handed it -/
def enc (x : Int × Op) : Array Value := #[.int .i64 x.1, .agg #[.int .i64 x.2.k, .string ⟨x.2.s.toArray⟩, .int .i64 x.2.n]]
/-- what a round keeps: what lay below n₀, and whatever ops lay there -/
def Kp (n₀ : Nat) (A B : World) : Prop := Below n₀ A B ∧ ∀ (k : Nat) (cs : Array Value), A.heap[k]? = some (Obj.cells cs 58 (0, 0)) → B.heap[k]? = some (Obj.cells cs 58 (0, 0))
theorem kp_t {n₀ : Nat} {A B C : World} (h : Kp n₀ A B) (g : Kp n₀ B C) : Kp n₀ A C := ⟨h.1.trans g.1, fun k cs e => g.2 k cs (h.2 k cs e)⟩
theorem kp_refl (n₀ : Nat) (A : World) : Kp n₀ A A := ⟨Below.refl _ _, fun _ _ h => h⟩

set_option maxRecDepth 100000 in
set_option maxHeartbeats 4000000 in
theorem timed1_in (F : Fence) (n : Nat) (hF : F.fn 82) (hro : F.round = none) (hn : 1 ≤ n) (lo Bl Bn n₀ m c : Nat) (p : Option Addr) (now : Int) (l : List Op) (hm : l.length = m) (J Jx : List (Int × Op) → World → Prop) (W : World)
    (hJ : AbidesFrom W.heap.size J)
    (hY : ∀ pre x W1, J pre W1 → pre.length < l.length → YieldAt F (n - 1) Tryz.prog lo (enc x) W1 fun e W' =>
      (e = .returned (.bool true) ∧ J (pre ++ [x]) W' ∧ Kp n₀ W1 W') ∨ (e = .returned (.bool false) ∧ Jx (pre ++ [x]) W'))
    (hBl : W.cell? ⟨Bl, 0, none⟩ = some (.slice p m c)) (hBn : W.cell? ⟨Bn, 0, none⟩ = some (.int .i64 now)) (hL : Ops W l p c) (hn₀ : ∀ b o, p = some ⟨b, o, none⟩ → b < n₀ ∨ l = []) (hsz : n₀ ≤ W.heap.size) (h0 : J [] W) :
    CallsIn F n Tryz.prog 82 #[.func (.yield lo) #[] #[], .pointer (some ⟨Bn, 0, none⟩), .pointer (some ⟨Bl, 0, none⟩)] W fun e W' => (∃ v, e = .returned v) ∧
      ((∃ ys, ys = tmW now l ∧ J ys W') ∨ (∃ pre, pre <+: tmW now l ∧ Jx pre W')) := by
  have hcap := hL.cap
  have hmax := hL.max
  unfold maxLen at hmax
  have HL := Lib.hid hL
  have HM := Lib.hid hm
  have HN := Lib.hid hn₀
  have HY := Lib.hid hY
  have HJ := Lib.hid hJ
  have q2 : (m : Int) ≤ 9223372036854775807 := by omega
  clear hL hn₀ hY hJ
  refine callsIn_of_wp Tryz.func82 rfl hF ?_ hro
  simp only [Tryz.ntmps82, List.size_toArray, List.length_cons, List.length_nil, Nat.reduceAdd, Nat.reduceSub, Array.replicate_succ, Array.replicate_zero, List.push_toArray, List.append_toArray, List.nil_append, List.cons_append]
  gi_wp2
  gi_loopw [4, 10] (fun u i wr => ∃ (k : Nat) (a : Int) (pre : List (Int × Op)), k ≤ m ∧ i = .int .i64 k ∧ u = .int .i64 a ∧ Hid (tmW now l = pre ++ tmW a (l.drop k) ∧ pre.length = k) ∧ Hid (J pre wr) ∧ Hid (Below n₀ W wr))
    (fun _ i _ => m - (intOf i).toNat)
  case atStart => exact ⟨0, now, [], Nat.zero_le _, rfl, rfl, Lib.hid ⟨rfl, rfl⟩, Lib.hid h0, Lib.hid (Below.refl _ _)⟩
  case round =>
    obtain ⟨k, a, pre, hk, rfl, rfl, HT, HJs, HB⟩ := hrel
    rcases Nat.lt_or_eq_of_le hk with hlt | rfl
    · have hkl : k < l.length := by rw [HM.out]; exact hlt
      rcases HL.out.cells with h00 | ⟨b, o, rfl, hbl, hc⟩
      · rw [h00] at hkl; simp at hkl
      · have hb0 : b < n₀ := (HN.out b o rfl).resolve_right (fun e => by rw [e] at hkl; simp at hkl)
        obtain ⟨c0, c1, c2⟩ := hc k hkl
        rw [← HB.out.cell (p := ⟨b, _, none⟩) hb0] at c0 c1 c2
        have q1 : (k : Int) < (m : Int) := by omega
        have HD := Lib.hid (drop_at hkl)
        have hws : n₀ ≤ wr.heap.size := Nat.le_trans hsz HB.out.size
        generalize l[k] = x at *
        obtain ⟨xk, xs, xn⟩ := x
        simp only at c0 c1 c2
        have hJ2 : J pre (wr.alloc (.cells #[.int .i64 xk, .string ⟨xs.toArray⟩, .int .i64 xn] 58)) := HJ.out pre wr _ none HJs.out (World.grownBy_alloc wr _ none) (fun r e => by cases e)
        obtain ⟨fn, tmps, assign, body, hy, hR⟩ := HY.out pre (a, ⟨xk, xs, xn⟩) _ hJ2 (by rw [HT.out.2]; exact hkl)
        unfold enc at hy
        dsimp only at hy
        have HR := Lib.hid hR
        clear hc hJ2 hR
        gi_wp2
        refine HR.out.mono ?_
        rintro e W3 (⟨rfl, hJ3, hk3⟩ | ⟨rfl, hJx3⟩)
        · have hrow := hk3.2 _ _ (at_new wr _)
          have d2 := at_cell hrow 2
          have HJ3 := Lib.hid hJ3
          have HK3 := Lib.hid hk3
          clear hJ3 hk3 hrow hy
          gi_wp2
          go_roundw
          case rel => exact ⟨k + 1, _, pre ++ [(a, ⟨xk, xs, xn⟩)], by omega, by go_num, rfl, Lib.hid ⟨by rw [HT.out.1, HD.out, tmW, List.append_assoc]; rfl, by rw [List.length_append, HT.out.2]; rfl⟩, HJ3, Lib.hid ((HB.out.alloc hws _).trans HK3.out.1)⟩
          case measure => simp [intOf]; omega
        · have HJ3 := Lib.hid hJx3
          clear hJx3 hy
          gi_wp2
          refine bodyPost_ret (results_none rfl _ _ _) rfl ?_
          exact ⟨⟨_, rfl⟩, .inr ⟨_, ⟨tmW (wrap64 (a + xn)) (l.drop (k + 1)), by rw [HT.out.1, HD.out, tmW, List.append_assoc]; rfl⟩, HJ3.out⟩⟩
    · have HE := Lib.hid (show pre = tmW now l by rw [HT.out.1, List.drop_eq_nil_of_le (by rw [HM.out]; exact Nat.le_refl _), tmW, List.append_nil])
      gi_wp2
      go_end0
      exact ⟨⟨_, rfl⟩, .inl ⟨_, HE.out, HJs.out⟩⟩

set_option maxRecDepth 100000 in
set_option maxHeartbeats 1000000 in
theorem timed_in (F : Fence) (n : Nat) (hF : F.fn 72) (hro : F.round = none) (p : Option Addr) (m c : Nat) (now : Int) (w : World) :
    CallsIn F n Tryz.prog 72 #[.slice p m c, .int .i64 now] w fun e w' => e = .returned (.func (.func 82) #[] #[.pointer (some ⟨w.heap.size + 1, 0, none⟩), .pointer (some ⟨w.heap.size, 0, none⟩)]) ∧ w' = (w.alloc (.cells #[.slice p m c] 30)).alloc (.cells #[.int .i64 now] 3) := by
  refine callsIn_of_wp Tryz.func72 rfl hF ?_ hro
  simp only [Tryz.ntmps72, List.size_toArray, List.length_cons, List.length_nil, Nat.reduceAdd, Nat.reduceSub, Array.replicate_succ, Array.replicate_zero, List.push_toArray, List.append_toArray, List.nil_append, List.cons_append]
  gi_wp2
  go_ret
  exact ⟨rfl, rfl⟩
end Go.Proofs.YtnkhdpenmekhdaaGreat.Run
end

section
namespace Go.Proofs.YtnkhdpenmekhdaaGreat.Reg
open Go Go.RowKit

def deps (ops : Array Oper) (i : Nat) : List Nat := match ops[i]? with
  | some o => (o.after.toList.filter (Region.binds .any)).map (·.on)
  | none => []
/-- temporaries apart, no guard, each waits for earlier ones alone -/
def okOps (ops : Array Oper) (ds : List Nat) (n : Nat) : Bool :=
  ds.length == ops.size && ((List.range ops.size).all fun i => match ops[i]? with
    | some o => o.dst == some (ds.getD i 0) && (o.guard.isNone && (decide (ds.getD i 0 < n) && ((deps ops i).all (fun j => decide (j < i)) && (List.range i).all (fun j => ds.getD j 0 != ds.getD i 0))))
    | none => false)
section
variable {P : Program} {ops : Array Oper} {Q : Exit → Act → World → Prop} {ds : List Nat} {n : Nat}
structure OkAt (ops : Array Oper) (ds : List Nat) (n i : Nat) (o : Oper) : Prop where
  dst : o.dst = some (ds.getD i 0)
  guard : o.guard = none
  lt : ds.getD i 0 < n
  deps : ∀ j ∈ deps ops i, j < i
  apart : ∀ j, j < i → ds.getD j 0 ≠ ds.getD i 0
theorem okOps_at (h : okOps ops ds n = true) {i : Nat} {o : Oper} (ho : ops[i]? = some o) : OkAt ops ds n i o := by
  simp only [okOps, Bool.and_eq_true, List.all_eq_true, List.mem_range] at h
  have hi : i < ops.size := (Array.getElem?_eq_some_iff.1 ho).1
  have := h.2 i hi
  rw [ho] at this
  simp only [Bool.and_eq_true, beq_iff_eq, decide_eq_true_eq, bne_iff_ne, ne_eq, List.all_eq_true, List.mem_range, Option.isNone_iff_eq_none] at this
  exact ⟨this.1, this.2.1, this.2.2.1, this.2.2.2.1, this.2.2.2.2⟩
theorem ok_apart (h : okOps ops ds n = true) {i j : Nat} (hi : i < ops.size) (hj : j < ops.size) (hne : i ≠ j) : ds.getD i 0 ≠ ds.getD j 0 := by
  rcases Nat.lt_or_gt_of_ne hne with hl | hl
  · exact (okOps_at h (Array.getElem?_eq_some_iff.2 ⟨hj, rfl⟩)).apart i hl
  · exact ((okOps_at h (Array.getElem?_eq_some_iff.2 ⟨hi, rfl⟩)).apart j hl).symm
structure Held (ops : Array Oper) (ds : List Nat) (Sp : Nat → World → Value → Prop) (a0 : Act) (w0 : World) (listed : Array Bool) (a : Act) (w : World) : Prop where
  size : a.tmps.size = a0.tmps.size
  defers : a.defers = a0.defers
  other : ∀ t, (∀ i, i < ops.size → ds.getD i 0 ≠ t) → a.tmps[t]? = a0.tmps[t]?
  done : ∀ i, i < ops.size → listed.getD i false = true → ∃ v, a.tmps[ds.getD i 0]? = some v ∧ Sp i w v
  below : Below w0.heap.size w0 w
theorem getD_mem {listed : Array Bool} {i : Nat} (h : i < listed.size) (b : Bool) : listed.getD i b = listed[i] := by simp [h]
def left (listed : Array Bool) : Nat := listed.toList.countP fun b => !b
theorem left_set {listed : Array Bool} {i : Nat} (h : i < listed.size) (hf : listed.getD i true = false) : left (listed.setIfInBounds i true) + 1 = left listed := by
  unfold left
  rw [Array.toList_setIfInBounds]
  have hi : i < listed.toList.length := by simpa using h
  have hv : listed.toList[i] = false := by rw [getD_mem h] at hf; simpa using hf
  rw [List.set_eq_take_append_cons_drop, if_pos hi]
  have e : listed.toList = listed.toList.take i ++ listed.toList[i] :: listed.toList.drop (i + 1) := by
    rw [← List.drop_eq_getElem_cons hi, List.take_append_drop]
  conv => rhs; rw [e]
  simp only [List.countP_append, List.countP_cons, hv]
  simp
  omega
theorem left_zero {listed : Array Bool} (h : left listed = 0) {i : Nat} (hi : i < listed.size) : listed.getD i false = true := by
  unfold left at h
  rw [List.countP_eq_zero] at h
  rw [getD_mem hi]
  have := h listed[i] (by simp)
  simpa using this
theorem ready_all {n : Nat} (hok : okOps ops ds n = true) {listed : Array Bool} (hl : listed.size = ops.size) (hr : Region.ready .any ops listed = []) : ∀ i, i < ops.size → listed.getD i false = true := by
  intro i
  induction i using Nat.strongRecOn with
  | ind i ih =>
    intro hi
    cases hb : listed.getD i false with
    | true => rfl
    | false =>
      have ho : ops[i]? = some ops[i] := Array.getElem?_eq_some_iff.2 ⟨hi, rfl⟩
      have hm : i ∈ Region.ready .any ops listed := mem_ready.2 ⟨by rw [getD_mem (by omega)] at hb ⊢; exact hb, _, ho, fun e he hbd => by
        have hd : e.on ∈ deps ops i := by
          unfold deps
          rw [ho]
          exact List.mem_map.2 ⟨e, List.mem_filter.2 ⟨by simpa using he, hbd⟩, rfl⟩
        have hlt := (okOps_at hok ho).deps _ hd
        exact ih _ hlt (by omega)⟩
      rw [hr] at hm; cases hm
theorem all_ready {listed : Array Bool} (hl : listed.size = ops.size) (h : ∀ i, i < ops.size → listed.getD i false = true) : Region.ready .any ops listed = [] := by
  rw [List.eq_nil_iff_forall_not_mem]
  intro i hi
  obtain ⟨h0, o, ho, _⟩ := mem_ready.1 hi
  have hi : i < ops.size := (Array.getElem?_eq_some_iff.1 ho).1
  have := h i hi
  rw [getD_mem (by omega)] at this h0
  rw [this] at h0; cases h0

/-- what an operation may look at -/
structure Seen (ops : Array Oper) (ds : List Nat) (Sp : Nat → World → Value → Prop) (a0 : Act) (w0 : World) (i : Nat) (a : Act) (w : World) : Prop where
  dep : ∀ j ∈ deps ops i, ∃ v, a.tmps[ds.getD j 0]? = some v ∧ Sp j w v
  other : ∀ t, (∀ i, i < ops.size → ds.getD i 0 ≠ t) → a.tmps[t]? = a0.tmps[t]?
  below : Below w0.heap.size w0 w
variable {Sp : Nat → World → Value → Prop} {a0 : Act} {w0 : World}
theorem any_specs (hok : okOps ops ds a0.tmps.size = true) (hmono : ∀ i w w' v, Below w.heap.size w w' → Sp i w v → Sp i w' v)
    (step : ∀ i o a w, ops[i]? = some o → Seen ops ds Sp a0 w0 i a w → Oper.wp P o a w (fun a' w' => ∃ v, a' = a.put o.dst v ∧ Sp i w' v ∧ Below w.heap.size w w') Q)
    (fin : ∀ listed a w, (∀ i, i < ops.size → listed.getD i false = true) → Held ops ds Sp a0 w0 listed a w → Q .normal a w) :
    ∀ (fuel : Nat) (listed : Array Bool) (a : Act) (w : World), listed.size = ops.size → left listed ≤ fuel → Held ops ds Sp a0 w0 listed a w → wpAny P .any ops Q fuel listed a w
  | 0, listed, a, w, hl, hf, h => by
    have hall : ∀ i, i < ops.size → listed.getD i false = true := fun i hi => left_zero (by omega) (by omega)
    exact ⟨all_ready hl hall, fin listed a w hall h⟩
  | fuel + 1, listed, a, w, hl, hf, h => by
    refine ⟨fun hr => fin listed a w (ready_all hok hl hr) h, fun i hi => ?_⟩
    obtain ⟨hun, o, ho, hdep⟩ := mem_ready.1 hi
    have hi' : i < ops.size := (Array.getElem?_eq_some_iff.1 ho).1
    have hk := okOps_at hok ho
    unfold wpOp
    rw [ho]
    dsimp only
    rw [if_pos (by unfold Region.wanted; rw [hk.guard])]
    refine .inl (Oper.wp_mono ?_ (step i o a w ho ⟨fun j hj => ?_, h.other, h.below⟩))
    · rintro a' w' ⟨v, rfl, hv, hb⟩
      refine any_specs hok hmono step fin fuel _ _ _ (by simpa using hl) (by have := left_set (listed := listed) (i := i) (by omega) hun; omega) ⟨?_, ?_, ?_, ?_, h.below.trans (hb.mono h.below.size)⟩
      · rw [hk.dst]; simpa [Act.put] using h.size
      · rw [hk.dst]; simpa [Act.put] using h.defers
      · intro t ht
        rw [hk.dst]
        show (a.tmps.setIfInBounds _ v)[t]? = _
        rw [Array.getElem?_setIfInBounds_ne (ht i hi')]
        exact h.other t ht
      · intro j hj hlj
        rw [hk.dst]
        show ∃ u, (a.tmps.setIfInBounds _ v)[_]? = some u ∧ _
        by_cases hij : i = j
        · subst hij
          exact ⟨v, by rw [Array.getElem?_setIfInBounds_self_of_lt (by have := hk.lt; rw [h.size]; exact this)], hv⟩
        · rw [Array.getElem?_setIfInBounds_ne (ok_apart hok hi' hj hij)]
          rw [getD_set_ne false hij] at hlj
          obtain ⟨u, e1, e2⟩ := h.done j hj hlj
          exact ⟨u, e1, hmono j _ _ u hb e2⟩
    · unfold deps at hj
      rw [ho] at hj
      obtain ⟨e, he, rfl⟩ := List.mem_map.1 hj
      have he := List.mem_filter.1 he
      have hl2 := hdep e (by simpa using he.1) he.2
      have hlt : e.on < ops.size := by
        have := hk.deps e.on (by unfold deps; rw [ho]; exact List.mem_map.2 ⟨e, List.mem_filter.2 he, rfl⟩)
        omega
      exact h.done _ hlt hl2
/-- the region, each operation told once -/
theorem wp_specs {id : Nat} {a : Act} {w : World} (hm : P.follows .mixedOrders = true) (ds : List Nat) (Sp : Nat → World → Value → Prop) (hok : okOps ops ds a.tmps.size = true)
    (hmono : ∀ i w w' v, Below w.heap.size w w' → Sp i w v → Sp i w' v)
    (step : ∀ i o a' w', ops[i]? = some o → Seen ops ds Sp a w.drew i a' w' → Oper.wp P o a' w' (fun a2 w2 => ∃ v, a2 = a'.put o.dst v ∧ Sp i w2 v ∧ Below w'.heap.size w' w2) Q)
    (fin : ∀ a' w', a'.tmps.size = a.tmps.size → a'.defers = a.defers → (∀ t, (∀ i, i < ops.size → ds.getD i 0 ≠ t) → a'.tmps[t]? = a.tmps[t]?) → (∀ i, i < ops.size → ∃ v, a'.tmps[ds.getD i 0]? = some v ∧ Sp i w' v) → Below w.heap.size w.drew w' → Q .normal a' w') :
    (Code.region id ops true).wp P Q a w := by
  refine wp_region_any hm ?_
  refine any_specs (a0 := a) (w0 := w.drew) hok hmono step (fun listed a' w' hall h => fin a' w' h.size h.defers h.other (fun i hi => h.done i hi (hall i hi)) h.below) _ _ _ _ (by simp) ?_ ⟨rfl, rfl, fun _ _ => rfl, fun i hi hf => ?_, Below.refl _ _⟩
  · exact Nat.le_trans List.countP_le_length (by simp)
  · simp [hi] at hf
end
theorem eval_tmp {a : Act} {t : Nat} {v : Value} (h : a.tmps[t]? = some v) : a.eval (.tmp t) = v := by
  show a.tmps.getD t undef = v
  simp [h]
theorem mem_of {l : List Nat} {j : Nat} (h : l.contains j = true) : j ∈ l := by simpa using h
end Go.Proofs.YtnkhdpenmekhdaaGreat.Reg
end

section
namespace Go.Proofs.YtnkhdpenmekhdaaGreat.Reg
open Go Go.RowKit

section
variable {P : Program} {ops : Array Oper} {Q : Exit → Act → World → Prop} {ds : List Nat} {n : Nat}
/-- what an operation may look at -/
structure Sees (ops : Array Oper) (ds : List Nat) (Sp : Nat → World → Value → Prop) (J : Array Bool → World → Prop) (a0 : Act) (listed : Array Bool) (i : Nat) (a : Act) (w : World) : Prop where
  size : listed.size = ops.size
  un : listed.getD i false = false
  closed : ∀ k, k < ops.size → listed.getD k false = true → ∀ j ∈ deps ops k, listed.getD j false = true
  dep : ∀ j ∈ deps ops i, ∃ v, a.tmps[ds.getD j 0]? = some v ∧ Sp j w v
  other : ∀ t, (∀ k, k < ops.size → listed.getD k false = true → ds.getD k 0 ≠ t) → a.tmps[t]? = a0.tmps[t]?
  inv : J listed w
structure Holds (ops : Array Oper) (ds : List Nat) (Sp : Nat → World → Value → Prop) (J : Array Bool → World → Prop) (a0 : Act) (listed : Array Bool) (a : Act) (w : World) : Prop where
  size : a.tmps.size = a0.tmps.size
  defers : a.defers = a0.defers
  closed : ∀ k, k < ops.size → listed.getD k false = true → ∀ j ∈ deps ops k, listed.getD j false = true
  other : ∀ t, (∀ i, i < ops.size → listed.getD i false = true → ds.getD i 0 ≠ t) → a.tmps[t]? = a0.tmps[t]?
  done : ∀ i, i < ops.size → listed.getD i false = true → ∃ v, a.tmps[ds.getD i 0]? = some v ∧ Sp i w v
  inv : J listed w
/-- what it is to leave -/
def Leaves (Sp : Nat → World → Value → Prop) (J : Array Bool → World → Prop) (listed : Array Bool) (i : Nat) (d : Option Tmp) (a : Act) (w : World) (a2 : Act) (w2 : World) : Prop :=
  ∃ v, a2 = a.put d v ∧ Sp i w2 v ∧ (∀ j u, j ≠ i → listed.getD j false = true → Sp j w u → Sp j w2 u) ∧ J (listed.setIfInBounds i true) w2
variable {Sp : Nat → World → Value → Prop} {J : Array Bool → World → Prop} {a0 : Act}
theorem any_told (hok : okOps ops ds a0.tmps.size = true)
    (step : ∀ i o listed a w, ops[i]? = some o → Sees ops ds Sp J a0 listed i a w → Oper.wp P o a w (Leaves Sp J listed i o.dst a w) Q)
    (fin : ∀ listed a w, (∀ i, i < ops.size → listed.getD i false = true) → Holds ops ds Sp J a0 listed a w → Q .normal a w) :
    ∀ (fuel : Nat) (listed : Array Bool) (a : Act) (w : World), listed.size = ops.size → left listed ≤ fuel → Holds ops ds Sp J a0 listed a w → wpAny P .any ops Q fuel listed a w
  | 0, listed, a, w, hl, hf, h => by
    have hall : ∀ i, i < ops.size → listed.getD i false = true := fun i hi => left_zero (by omega) (by omega)
    exact ⟨all_ready hl hall, fin listed a w hall h⟩
  | fuel + 1, listed, a, w, hl, hf, h => by
    refine ⟨fun hr => fin listed a w (ready_all hok hl hr) h, fun i hi => ?_⟩
    obtain ⟨hun, o, ho, hdep⟩ := mem_ready.1 hi
    have hi' : i < ops.size := (Array.getElem?_eq_some_iff.1 ho).1
    have hk := okOps_at hok ho
    have hun2 : listed.getD i false = false := by rw [getD_mem (by omega)] at hun ⊢; exact hun
    have hdeps : ∀ j ∈ deps ops i, j < ops.size ∧ listed.getD j false = true := fun j hj => by
      have hlt := hk.deps j hj
      unfold deps at hj
      rw [ho] at hj
      obtain ⟨e, he, rfl⟩ := List.mem_map.1 hj
      have he := List.mem_filter.1 he
      exact ⟨by omega, hdep e (by simpa using he.1) he.2⟩
    unfold wpOp
    rw [ho]
    dsimp only
    rw [if_pos (by unfold Region.wanted; rw [hk.guard])]
    refine .inl (Oper.wp_mono ?_ (step i o listed a w ho ⟨hl, hun2, h.closed, fun j hj => h.done j (hdeps j hj).1 (hdeps j hj).2, h.other, h.inv⟩))
    rintro a' w' ⟨v, rfl, hv, hmono, hJ⟩
    refine any_told hok step fin fuel _ _ _ (by simpa using hl) (by have := left_set (listed := listed) (i := i) (by omega) hun; omega) ⟨?_, ?_, ?_, ?_, ?_, hJ⟩
    · rw [hk.dst]; simpa [Act.put] using h.size
    · rw [hk.dst]; simpa [Act.put] using h.defers
    · intro k hk2 hlk j hj
      by_cases hik : i = k
      · subst hik
        exact getD_set_true (hdeps j hj).2
      · rw [getD_set_ne false hik] at hlk
        exact getD_set_true (h.closed k hk2 hlk j hj)
    · intro t ht
      rw [hk.dst]
      show (a.tmps.setIfInBounds _ v)[t]? = _
      rw [Array.getElem?_setIfInBounds_ne (ht i hi' (by rw [getD_mem (by simpa using (by omega : i < listed.size))]; simp))]
      exact h.other t fun k hk2 hlk => ht k hk2 (getD_set_true hlk)
    · intro j hj hlj
      rw [hk.dst]
      show ∃ u, (a.tmps.setIfInBounds _ v)[_]? = some u ∧ _
      by_cases hij : i = j
      · subst hij
        exact ⟨v, by rw [Array.getElem?_setIfInBounds_self_of_lt (by have := hk.lt; rw [h.size]; exact this)], hv⟩
      · rw [Array.getElem?_setIfInBounds_ne (ok_apart hok hi' hj hij)]
        rw [getD_set_ne false hij] at hlj
        obtain ⟨u, e1, e2⟩ := h.done j hj hlj
        exact ⟨u, e1, hmono j u (Ne.symm hij) hlj e2⟩
/-- the region, each operation told once -/
theorem wp_told {id : Nat} {a : Act} {w : World} (hm : P.follows .mixedOrders = true) (ds : List Nat) (Sp : Nat → World → Value → Prop) (J : Array Bool → World → Prop) (hok : okOps ops ds a.tmps.size = true)
    (h0 : J (Array.replicate ops.size false) w.drew)
    (step : ∀ i o listed a' w', ops[i]? = some o → Sees ops ds Sp J a listed i a' w' → Oper.wp P o a' w' (Leaves Sp J listed i o.dst a' w') Q)
    (fin : ∀ listed a' w', a'.tmps.size = a.tmps.size → a'.defers = a.defers → (∀ t, (∀ i, i < ops.size → ds.getD i 0 ≠ t) → a'.tmps[t]? = a.tmps[t]?) → (∀ i, i < ops.size → ∃ v, a'.tmps[ds.getD i 0]? = some v ∧ Sp i w' v) → J listed w' → Q .normal a' w') :
    (Code.region id ops true).wp P Q a w := by
  refine wp_region_any hm ?_
  refine any_told (a0 := a) hok step (fun listed a' w' hall h => fin listed a' w' h.size h.defers (fun t ht => h.other t fun i hi _ => ht i hi) (fun i hi => h.done i hi (hall i hi)) h.inv) _ _ _ _ (by simp) ?_ ⟨rfl, rfl, fun k hk hf => ?_, fun _ _ => rfl, fun i hi hf => ?_, h0⟩
  · exact Nat.le_trans List.countP_le_length (by simp)
  · simp [hk] at hf
  · simp [hi] at hf

/-! ### the frame behind it, written out -/
theorem arr_getD {A : Array Value} {t : Nat} {v d : Value} (h : A[t]? = some v) : A.getD t d = v := by simp [h]
def puts (a : Act) : List (Nat × Value) → Act
  | [] => a
  | (d, v) :: r => puts (a.put (some d) v) r
theorem puts_size : ∀ (l : List (Nat × Value)) (a : Act), (puts a l).tmps.size = a.tmps.size
  | [], a => rfl
  | (d, v) :: r, a => by rw [puts, puts_size r]; simp [Act.put]
theorem puts_defers : ∀ (l : List (Nat × Value)) (a : Act), (puts a l).defers = a.defers
  | [], a => rfl
  | (d, v) :: r, a => by rw [puts, puts_defers r]; rfl
theorem puts_out : ∀ (l : List (Nat × Value)) (a : Act) (t : Nat), (∀ p ∈ l, p.1 ≠ t) → (puts a l).tmps[t]? = a.tmps[t]?
  | [], a, t, _ => rfl
  | (d, v) :: r, a, t, h => by
    rw [puts, puts_out r _ t fun p hp => h p (List.mem_cons_of_mem _ hp)]
    show (a.tmps.setIfInBounds d v)[t]? = _
    rw [Array.getElem?_setIfInBounds_ne (h (d, v) (List.mem_cons_self ..))]
theorem puts_in : ∀ (l : List (Nat × Value)) (a : Act), (l.map (·.1)).Nodup → (∀ p ∈ l, p.1 < a.tmps.size) → ∀ p ∈ l, (puts a l).tmps[p.1]? = some p.2
  | [], a, _, _, p, hp => by cases hp
  | (d, v) :: r, a, hn, hl, p, hp => by
    rw [List.map_cons, List.nodup_cons] at hn
    rw [puts]
    rcases List.mem_cons.1 hp with rfl | hp
    · rw [puts_out r _ d fun q hq e => hn.1 (List.mem_map.2 ⟨q, hq, e⟩)]
      show (a.tmps.setIfInBounds d v)[d]? = _
      rw [Array.getElem?_setIfInBounds_self_of_lt (hl (d, v) (List.mem_cons_self ..))]
    · exact puts_in r _ hn.2 (fun q hq => by have := hl q (List.mem_cons_of_mem _ hq); simpa [Act.put] using this) p hp
theorem frame_eq {a a' : Act} (hs : a'.tmps.size = a.tmps.size) (hd : a'.defers = a.defers) (l : List (Nat × Value)) (hn : (l.map (·.1)).Nodup) (hl : ∀ p ∈ l, p.1 < a.tmps.size) (hin : ∀ p ∈ l, a'.tmps[p.1]? = some p.2) (hout : ∀ t, (∀ p ∈ l, p.1 ≠ t) → a'.tmps[t]? = a.tmps[t]?) : a' = puts a l := by
  have h1 : a'.tmps = (puts a l).tmps := by
    apply Array.ext_getElem?
    intro t
    by_cases ht : ∀ p ∈ l, p.1 ≠ t
    · rw [hout t ht, puts_out l a t ht]
    · have : ∃ p, p ∈ l ∧ p.1 = t := Classical.byContradiction fun h => ht fun p hp e => h ⟨p, hp, e⟩
      obtain ⟨p, hp, rfl⟩ := this
      rw [hin p hp, puts_in l a hn hl p hp]
  have h2 : a'.defers = (puts a l).defers := by rw [hd, puts_defers]
  cases a'
  generalize puts a l = b at *
  cases b
  simp only at h1 h2
  rw [h1, h2]
/-- the region, each operation told once; the frame behind it -/
theorem wp_told_at {id : Nat} {a : Act} {w : World} (hm : P.follows .mixedOrders = true) (ds : List Nat) (Sp : Nat → World → Value → Prop) (J : Array Bool → World → Prop) (hok : okOps ops ds a.tmps.size = true)
    (h0 : J (Array.replicate ops.size false) w.drew)
    (step : ∀ i o listed a' w', ops[i]? = some o → Sees ops ds Sp J a listed i a' w' → Oper.wp P o a' w' (Leaves Sp J listed i o.dst a' w') Q)
    (fin : ∀ listed (vs : List Value) w', vs.length = ds.length → (∀ i v, vs[i]? = some v → Sp i w' v) → J listed w' → Q .normal (puts a (ds.zip vs)) w') :
    (Code.region id ops true).wp P Q a w := by
  refine wp_told hm ds Sp J hok h0 step fun listed a' w' hs hd hot hdn hJ => ?_
  have hlen : ds.length = ops.size := by
    simp only [okOps, Bool.and_eq_true, beq_iff_eq] at hok; exact hok.1
  have hget : ∀ i, i < ops.size → ∃ v, a'.tmps[ds.getD i 0]? = some v ∧ Sp i w' v := hdn
  let vs := (List.range ops.size).map fun i => a'.tmps.getD (ds.getD i 0) undef
  have hvs : ∀ i, i < ops.size → a'.tmps[ds.getD i 0]? = some (a'.tmps.getD (ds.getD i 0) undef) := fun i hi => by
    obtain ⟨v, e, _⟩ := hget i hi
    rw [arr_getD e]; exact e
  have hz : ∀ p ∈ ds.zip vs, ∃ i, i < ops.size ∧ p.1 = ds.getD i 0 ∧ p.2 = a'.tmps.getD (ds.getD i 0) undef := fun p hp => by
    obtain ⟨i, hi, e⟩ := List.mem_iff_getElem.1 hp
    have hi2 : i < ops.size := by
      have := hi
      rw [List.length_zip] at this
      omega
    refine ⟨i, hi2, ?_, ?_⟩
    · rw [← e, List.getElem_zip]
      simp [List.getD_eq_getElem?_getD, hlen, hi2]
    · rw [← e, List.getElem_zip]
      simp [vs]
  have hfr := frame_eq hs hd (ds.zip vs) (by
    rw [List.map_fst_zip (by simp [vs, hlen])]
    rw [List.nodup_iff_pairwise_ne, List.pairwise_iff_getElem]
    intro i j hi hj hij
    have := (okOps_at hok (i := j) (o := ops[j]'(by omega)) (Array.getElem?_eq_some_iff.2 ⟨by omega, rfl⟩)).apart i hij
    simpa [List.getD_eq_getElem?_getD, hi, hj] using this) (fun p hp => by
    obtain ⟨i, hi, e, _⟩ := hz p hp
    rw [e]
    exact (okOps_at hok (Array.getElem?_eq_some_iff.2 ⟨hi, rfl⟩)).lt) (fun p hp => by
    obtain ⟨i, hi, e1, e2⟩ := hz p hp
    rw [e1, e2]; exact hvs i hi) (fun t ht => hot t fun i hi e => by
    refine ht ((ds.zip vs)[i]'(by rw [List.length_zip]; simp [vs]; omega)) (List.getElem_mem _) ?_
    rw [List.getElem_zip, ← e]
    simp [List.getD_eq_getElem?_getD, hlen, hi])
  rw [hfr]
  refine fin listed vs w' (by simp [vs, hlen]) (fun i v hv => ?_) hJ
  obtain ⟨hi, e⟩ := List.getElem?_eq_some_iff.1 hv
  have hi2 : i < ops.size := by simpa [vs] using hi
  obtain ⟨u, e1, e2⟩ := hget i hi2
  have : v = u := by
    rw [← e]
    have h3 : vs[i] = a'.tmps.getD (ds.getD i 0) undef := by simp only [vs, List.getElem_map, List.getElem_range]
    rw [h3, arr_getD e1]
  rw [this]; exact e2
end
end Go.Proofs.YtnkhdpenmekhdaaGreat.Reg
end

section
namespace Go.Proofs.YtnkhdpenmekhdaaGreat.Reg
open Go Go.RowKit

abbrev dsAt (ds : List (Option Nat)) (i : Nat) : Option Nat := ds.getD i none
/-- temporaries apart, each waits for earlier ones alone -/
def okG (ops : Array Oper) (ds : List (Option Nat)) (n : Nat) : Bool :=
  ds.length == ops.size && ((List.range ops.size).all fun i => match ops[i]? with
    | some o => o.dst == dsAt ds i && (((dsAt ds i).all fun d => decide (d < n)) && ((deps ops i).all (fun j => decide (j < i)) && (List.range i).all (fun j => (dsAt ds j).isNone || dsAt ds j != dsAt ds i)))
    | none => false)
section
variable {P : Program} {ops : Array Oper} {Q : Exit → Act → World → Prop} {ds : List (Option Nat)} {n : Nat}
structure GAt (ops : Array Oper) (ds : List (Option Nat)) (n i : Nat) (o : Oper) : Prop where
  dst : o.dst = dsAt ds i
  lt : ∀ d, dsAt ds i = some d → d < n
  deps : ∀ j ∈ deps ops i, j < i
  apart : ∀ j, j < i → ∀ d, dsAt ds j = some d → dsAt ds i ≠ some d
theorem okG_at (h : okG ops ds n = true) {i : Nat} {o : Oper} (ho : ops[i]? = some o) : GAt ops ds n i o := by
  simp only [okG, Bool.and_eq_true, List.all_eq_true, List.mem_range] at h
  have hi : i < ops.size := (Array.getElem?_eq_some_iff.1 ho).1
  have := h.2 i hi
  rw [ho] at this
  simp only [Bool.and_eq_true, beq_iff_eq, List.all_eq_true, List.mem_range, decide_eq_true_eq] at this
  refine ⟨this.1, fun d hd => ?_, this.2.2.1, fun j hj d hd e => ?_⟩
  · have h2 := this.2.1
    rw [hd] at h2
    simpa using h2
  · have h2 := this.2.2.2 j hj
    rw [hd, e] at h2
    simp at h2
theorem okG_len (h : okG ops ds n = true) : ds.length = ops.size := by
  simp only [okG, Bool.and_eq_true, beq_iff_eq] at h; exact h.1
theorem okG_apart (h : okG ops ds n = true) {i j : Nat} (hi : i < ops.size) (hj : j < ops.size) (hne : i ≠ j) {d : Nat} (hd : dsAt ds i = some d) : dsAt ds j ≠ some d := by
  rcases Nat.lt_or_gt_of_ne hne with hl | hl
  · exact (okG_at h (Array.getElem?_eq_some_iff.2 ⟨hj, rfl⟩)).apart i hl d hd
  · intro e
    exact (okG_at h (Array.getElem?_eq_some_iff.2 ⟨hi, rfl⟩)).apart j hl d e hd
theorem readyG_all (hok : okG ops ds n = true) {listed : Array Bool} (hl : listed.size = ops.size) (hr : Region.ready .any ops listed = []) : ∀ i, i < ops.size → listed.getD i false = true := by
  intro i
  induction i using Nat.strongRecOn with
  | ind i ih =>
    intro hi
    cases hb : listed.getD i false with
    | true => rfl
    | false =>
      have ho : ops[i]? = some ops[i] := Array.getElem?_eq_some_iff.2 ⟨hi, rfl⟩
      have hm : i ∈ Region.ready .any ops listed := mem_ready.2 ⟨by rw [getD_mem (by omega)] at hb ⊢; exact hb, _, ho, fun e he hbd => by
        have hd : e.on ∈ deps ops i := by
          unfold deps
          rw [ho]
          exact List.mem_map.2 ⟨e, List.mem_filter.2 ⟨by simpa using he, hbd⟩, rfl⟩
        have hlt := (okG_at hok ho).deps _ hd
        exact ih _ hlt (by omega)⟩
      rw [hr] at hm; cases hm
/-- what an operation may look at -/
structure GSees (ops : Array Oper) (ds : List (Option Nat)) (Sp : Nat → World → Value → Prop) (J : Array Bool → World → Prop) (a0 : Act) (listed : Array Bool) (i : Nat) (a : Act) (w : World) : Prop where
  size : listed.size = ops.size
  un : listed.getD i false = false
  closed : ∀ k, k < ops.size → listed.getD k false = true → ∀ j ∈ deps ops k, listed.getD j false = true
  dep : ∀ j ∈ deps ops i, ∃ v, (∀ d, dsAt ds j = some d → a.tmps[d]? = some v) ∧ Sp j w v
  other : ∀ t, (∀ k, k < ops.size → listed.getD k false = true → dsAt ds k ≠ some t) → a.tmps[t]? = a0.tmps[t]?
  inv : J listed w
structure GHolds (ops : Array Oper) (ds : List (Option Nat)) (Sp : Nat → World → Value → Prop) (J : Array Bool → World → Prop) (a0 : Act) (listed : Array Bool) (a : Act) (w : World) : Prop where
  size : a.tmps.size = a0.tmps.size
  defers : a.defers = a0.defers
  closed : ∀ k, k < ops.size → listed.getD k false = true → ∀ j ∈ deps ops k, listed.getD j false = true
  other : ∀ t, (∀ i, i < ops.size → listed.getD i false = true → dsAt ds i ≠ some t) → a.tmps[t]? = a0.tmps[t]?
  done : ∀ i, i < ops.size → listed.getD i false = true → ∃ v, (∀ d, dsAt ds i = some d → a.tmps[d]? = some v) ∧ Sp i w v
  inv : J listed w
variable {Sp : Nat → World → Value → Prop} {J : Array Bool → World → Prop} {a0 : Act}
theorem put_size (a : Act) (d : Option Nat) (v : Value) : (a.put d v).tmps.size = a.tmps.size := by cases d <;> simp [Act.put]
theorem put_defers (a : Act) (d : Option Nat) (v : Value) : (a.put d v).defers = a.defers := by cases d <;> rfl
theorem put_ne (a : Act) {d : Option Nat} (v : Value) {t : Nat} (h : d ≠ some t) : (a.put d v).tmps[t]? = a.tmps[t]? := by
  cases d with
  | none => rfl
  | some d =>
    show (a.tmps.setIfInBounds d v)[t]? = _
    rw [Array.getElem?_setIfInBounds_ne (fun e => h (by rw [e]))]
theorem put_at (a : Act) {t : Nat} (v : Value) (h : t < a.tmps.size) : (a.put (some t) v).tmps[t]? = some v := by
  show (a.tmps.setIfInBounds t v)[t]? = _
  rw [Array.getElem?_setIfInBounds_self_of_lt h]
theorem any_guarded (hok : okG ops ds a0.tmps.size = true)
    (step : ∀ i o listed a w, ops[i]? = some o → GSees ops ds Sp J a0 listed i a w →
      (Region.wanted o (yielded ops a.tmps) = true → Oper.wp P o a w (Leaves Sp J listed i o.dst a w) Q) ∧ (Region.wanted o (yielded ops a.tmps) = false → Leaves Sp J listed i o.dst a w (a.put o.dst undef) w))
    (fin : ∀ listed a w, (∀ i, i < ops.size → listed.getD i false = true) → GHolds ops ds Sp J a0 listed a w → Q .normal a w) :
    ∀ (fuel : Nat) (listed : Array Bool) (a : Act) (w : World), listed.size = ops.size → left listed ≤ fuel → GHolds ops ds Sp J a0 listed a w → wpAny P .any ops Q fuel listed a w
  | 0, listed, a, w, hl, hf, h => by
    have hall : ∀ i, i < ops.size → listed.getD i false = true := fun i hi => left_zero (by omega) (by omega)
    exact ⟨all_ready hl hall, fin listed a w hall h⟩
  | fuel + 1, listed, a, w, hl, hf, h => by
    refine ⟨fun hr => fin listed a w (readyG_all hok hl hr) h, fun i hi => ?_⟩
    obtain ⟨hun, o, ho, hdep⟩ := mem_ready.1 hi
    have hi' : i < ops.size := (Array.getElem?_eq_some_iff.1 ho).1
    have hk := okG_at hok ho
    have hun2 : listed.getD i false = false := by rw [getD_mem (by omega)] at hun ⊢; exact hun
    have hdeps : ∀ j ∈ deps ops i, j < ops.size ∧ listed.getD j false = true := fun j hj => by
      have hlt := hk.deps j hj
      unfold deps at hj
      rw [ho] at hj
      obtain ⟨e, he, rfl⟩ := List.mem_map.1 hj
      have he := List.mem_filter.1 he
      exact ⟨by omega, hdep e (by simpa using he.1) he.2⟩
    have hstep := step i o listed a w ho ⟨hl, hun2, h.closed, fun j hj => h.done j (hdeps j hj).1 (hdeps j hj).2, h.other, h.inv⟩
    have key : ∀ a' w', Leaves Sp J listed i o.dst a w a' w' → wpAny P .any ops Q fuel (listed.setIfInBounds i true) a' w' := by
      rintro a' w' ⟨v, rfl, hv, hmono, hJ⟩
      refine any_guarded hok step fin fuel _ _ _ (by simpa using hl) (by have := left_set (listed := listed) (i := i) (by omega) hun; omega) ⟨?_, ?_, ?_, ?_, ?_, hJ⟩
      · rw [put_size]; exact h.size
      · rw [put_defers]; exact h.defers
      · intro k hk2 hlk j hj
        by_cases hik : i = k
        · subst hik
          exact getD_set_true (hdeps j hj).2
        · rw [getD_set_ne false hik] at hlk
          exact getD_set_true (h.closed k hk2 hlk j hj)
      · intro t ht
        have hit : (listed.setIfInBounds i true).getD i false = true := by
          rw [getD_mem (by simpa using (by omega : i < listed.size))]; simp
        rw [put_ne a v (by rw [hk.dst]; exact ht i hi' hit)]
        exact h.other t fun k hk2 hlk => ht k hk2 (getD_set_true hlk)
      · intro j hj hlj
        by_cases hij : i = j
        · subst hij
          refine ⟨v, fun d hd => ?_, hv⟩
          rw [hk.dst, hd]
          exact put_at a v (by rw [h.size]; exact hk.lt d hd)
        · rw [getD_set_ne false hij] at hlj
          obtain ⟨u, e1, e2⟩ := h.done j hj hlj
          refine ⟨u, fun d hd => ?_, hmono j u (Ne.symm hij) hlj e2⟩
          rw [put_ne a v (by rw [hk.dst]; exact okG_apart hok hj hi' (Ne.symm hij) hd)]
          exact e1 d hd
    unfold wpOp
    rw [ho]
    dsimp only
    cases hw : Region.wanted o (yielded ops a.tmps) with
    | true =>
      rw [if_pos rfl]
      exact .inl (Oper.wp_mono key (hstep.1 hw))
    | false =>
      rw [if_neg (by simp)]
      exact key _ _ (hstep.2 hw)
/-- the region, each operation told once; the frame behind it: 'slots' are the temporaries that it writes, each with its operation -/
theorem wp_guarded {id : Nat} {a : Act} {w : World} (hm : P.follows .mixedOrders = true) (ds : List (Option Nat)) (Sp : Nat → World → Value → Prop) (J : Array Bool → World → Prop) (slots : List (Nat × Nat)) (hok : okG ops ds a.tmps.size = true)
    (hsl : (slots.all fun p => decide (p.2 < ops.size) && dsAt ds p.2 == some p.1) = true) (hnd : (slots.map (·.1)).Nodup) (hall : ((List.range ops.size).all fun i => (dsAt ds i).all fun d => (slots.map (·.1)).contains d) = true)
    (h0 : J (Array.replicate ops.size false) w.drew)
    (step : ∀ i o listed a' w', ops[i]? = some o → GSees ops ds Sp J a listed i a' w' →
      (Region.wanted o (yielded ops a'.tmps) = true → Oper.wp P o a' w' (Leaves Sp J listed i o.dst a' w') Q) ∧ (Region.wanted o (yielded ops a'.tmps) = false → Leaves Sp J listed i o.dst a' w' (a'.put o.dst undef) w'))
    (fin : ∀ listed (vs : List Value) w', vs.length = slots.length → (∀ (k : Nat) (p : Nat × Nat) (v : Value), slots[k]? = some p → vs[k]? = some v → Sp p.2 w' v) → (∀ i, i < ops.size → ∃ v, Sp i w' v) → (∀ i, i < ops.size → listed.getD i false = true) → J listed w' → Q .normal (puts a ((slots.map (·.1)).zip vs)) w') :
    (Code.region id ops true).wp P Q a w := by
  refine wp_region_any hm ?_
  refine any_guarded (a0 := a) hok step (fun listed a' w' hal h => ?_) _ _ _ _ (by simp) ?_ ⟨rfl, rfl, fun k hk hf => ?_, fun _ _ => rfl, fun i hi hf => ?_, h0⟩
  · simp only [List.all_eq_true, Bool.and_eq_true, decide_eq_true_eq, beq_iff_eq] at hsl
    have hv : ∀ p ∈ slots, ∃ v, a'.tmps[p.1]? = some v ∧ Sp p.2 w' v := fun p hp => by
      obtain ⟨h1, h2⟩ := hsl p hp
      obtain ⟨v, e, hs⟩ := h.done p.2 h1 (hal _ h1)
      exact ⟨v, e p.1 h2, hs⟩
    let vs := slots.map fun p => a'.tmps.getD p.1 undef
    have hfr := frame_eq h.size h.defers ((slots.map (·.1)).zip vs) (by
      rw [List.map_fst_zip (by simp [vs])]; exact hnd) (fun p hp => by
      have hp2 := (List.of_mem_zip (a := p.1) (b := p.2) hp).1
      obtain ⟨q, hq, e⟩ := List.mem_map.1 hp2
      obtain ⟨h1, h2⟩ := hsl q hq
      rw [← e]
      exact (okG_at hok (Array.getElem?_eq_some_iff.2 ⟨h1, rfl⟩)).lt _ h2) (fun p hp => by
      obtain ⟨k, hk, e⟩ := List.mem_iff_getElem.1 hp
      rw [List.getElem_zip] at e
      rw [← e]
      rw [List.length_zip] at hk
      have hk1 : k < slots.length := by simp at hk; omega
      obtain ⟨v, e1, _⟩ := hv slots[k] (List.getElem_mem hk1)
      simp only [vs, List.getElem_map]
      rw [arr_getD e1]; exact e1) (fun t ht => h.other t fun i hi _ e => by
      simp only [List.all_eq_true, List.mem_range] at hall
      have h3 := hall i hi
      rw [e] at h3
      have h3 : t ∈ slots.map (·.1) := by simpa using h3
      obtain ⟨k, hk, e2⟩ := List.mem_iff_getElem.1 h3
      have hkl : k < ((slots.map (·.1)).zip vs).length := by rw [List.length_zip]; simp [vs] at hk ⊢; omega
      exact ht _ (List.getElem_mem hkl) (by rw [List.getElem_zip]; exact e2))
    rw [hfr]
    refine fin listed vs w' (by simp [vs]) (fun k p v hp hvk => ?_) (fun i hi => (h.done i hi (hal i hi)).imp fun v hv => hv.2) hal h.inv
    obtain ⟨hk1, rfl⟩ := List.getElem?_eq_some_iff.1 hp
    obtain ⟨hk2, rfl⟩ := List.getElem?_eq_some_iff.1 hvk
    obtain ⟨u, e1, e2⟩ := hv slots[k] (List.getElem_mem hk1)
    have h3 : vs[k] = a'.tmps.getD slots[k].1 undef := by simp only [vs, List.getElem_map]
    rw [h3, arr_getD e1]; exact e2
  · exact Nat.le_trans List.countP_le_length (by simp)
  · simp [hk] at hf
  · simp [hi] at hf
/-- a guard decided by what is known of its operation -/
theorem wanted_of {o : Oper} {a : Act} {g : Nat} {want b : Bool} {d : Nat} (hg : o.guard = some (g, want)) (hd : (ops[g]?).bind (·.dst) = some d) (hv : a.tmps[d]? = some (.bool b)) : Region.wanted o (yielded ops a.tmps) = (b == want) := by
  unfold Region.wanted
  rw [hg]
  dsimp only
  unfold yielded
  rw [hd]
  simp [hv]
theorem wanted_none {o : Oper} {y : Nat → Option Bool} (hg : o.guard = none) : Region.wanted o y = true := by
  unfold Region.wanted; rw [hg]
end
end Go.Proofs.YtnkhdpenmekhdaaGreat.Reg
end

section
namespace Go.Proofs.YtnkhdpenmekhdaaGreat.Reg
open Go Go.RowKit
section
variable {P : Program} {ops : Array Oper} {Q : Exit → Act → World → Prop} {ds : List (Option Nat)} {n : Nat}
/-- what an operation may look at -/
structure HSees (ops : Array Oper) (ds : List (Option Nat)) (Sp : Nat → World → Value → Prop) (J : Array Bool → Act → World → Prop) (a0 : Act) (listed : Array Bool) (i : Nat) (a : Act) (w : World) : Prop where
  size : listed.size = ops.size
  un : listed.getD i false = false
  closed : ∀ k, k < ops.size → listed.getD k false = true → ∀ j ∈ deps ops k, listed.getD j false = true
  dep : ∀ j ∈ deps ops i, ∃ v, (∀ d, dsAt ds j = some d → a.tmps[d]? = some v) ∧ Sp j w v
  other : ∀ t, (∀ k, k < ops.size → listed.getD k false = true → dsAt ds k ≠ some t) → a.tmps[t]? = a0.tmps[t]?
  inv : J listed a w
  lst : ∀ j ∈ deps ops i, listed.getD j false = true
  tsz : a.tmps.size = a0.tmps.size
structure HHolds (ops : Array Oper) (ds : List (Option Nat)) (Sp : Nat → World → Value → Prop) (J : Array Bool → Act → World → Prop) (a0 : Act) (listed : Array Bool) (a : Act) (w : World) : Prop where
  size : a.tmps.size = a0.tmps.size
  defers : a.defers = a0.defers
  closed : ∀ k, k < ops.size → listed.getD k false = true → ∀ j ∈ deps ops k, listed.getD j false = true
  other : ∀ t, (∀ i, i < ops.size → listed.getD i false = true → dsAt ds i ≠ some t) → a.tmps[t]? = a0.tmps[t]?
  done : ∀ i, i < ops.size → listed.getD i false = true → ∃ v, (∀ d, dsAt ds i = some d → a.tmps[d]? = some v) ∧ Sp i w v
  inv : J listed a w
/-- what it is to leave -/
def Leaves4 (Sp : Nat → World → Value → Prop) (J : Array Bool → Act → World → Prop) (listed : Array Bool) (i : Nat) (d : Option Tmp) (a : Act) (w : World) (a2 : Act) (w2 : World) : Prop :=
  ∃ v, a2 = a.put d v ∧ Sp i w2 v ∧ (∀ j u, j ≠ i → listed.getD j false = true → Sp j w u → Sp j w2 u) ∧ J (listed.setIfInBounds i true) (a.put d v) w2
variable {Sp : Nat → World → Value → Prop} {J : Array Bool → Act → World → Prop} {a0 : Act}
theorem any_guarded4 (hok : okG ops ds a0.tmps.size = true)
    (step : ∀ i o listed a w, ops[i]? = some o → HSees ops ds Sp J a0 listed i a w →
      (Region.wanted o (yielded ops a.tmps) = true → Oper.wp P o a w (Leaves4 Sp J listed i o.dst a w) Q) ∧ (Region.wanted o (yielded ops a.tmps) = false → Leaves4 Sp J listed i o.dst a w (a.put o.dst undef) w))
    (fin : ∀ listed a w, (∀ i, i < ops.size → listed.getD i false = true) → HHolds ops ds Sp J a0 listed a w → Q .normal a w) :
    ∀ (fuel : Nat) (listed : Array Bool) (a : Act) (w : World), listed.size = ops.size → left listed ≤ fuel → HHolds ops ds Sp J a0 listed a w → wpAny P .any ops Q fuel listed a w
  | 0, listed, a, w, hl, hf, h => by
    have hall : ∀ i, i < ops.size → listed.getD i false = true := fun i hi => left_zero (by omega) (by omega)
    exact ⟨all_ready hl hall, fin listed a w hall h⟩
  | fuel + 1, listed, a, w, hl, hf, h => by
    refine ⟨fun hr => fin listed a w (readyG_all hok hl hr) h, fun i hi => ?_⟩
    obtain ⟨hun, o, ho, hdep⟩ := mem_ready.1 hi
    have hi' : i < ops.size := (Array.getElem?_eq_some_iff.1 ho).1
    have hk := okG_at hok ho
    have hun2 : listed.getD i false = false := by rw [getD_mem (by omega)] at hun ⊢; exact hun
    have hdeps : ∀ j ∈ deps ops i, j < ops.size ∧ listed.getD j false = true := fun j hj => by
      have hlt := hk.deps j hj
      unfold deps at hj
      rw [ho] at hj
      obtain ⟨e, he, rfl⟩ := List.mem_map.1 hj
      have he := List.mem_filter.1 he
      exact ⟨by omega, hdep e (by simpa using he.1) he.2⟩
    have hstep := step i o listed a w ho ⟨hl, hun2, h.closed, fun j hj => h.done j (hdeps j hj).1 (hdeps j hj).2, h.other, h.inv, fun j hj => (hdeps j hj).2, h.size⟩
    have key : ∀ a' w', Leaves4 Sp J listed i o.dst a w a' w' → wpAny P .any ops Q fuel (listed.setIfInBounds i true) a' w' := by
      rintro a' w' ⟨v, rfl, hv, hmono, hJ⟩
      refine any_guarded4 hok step fin fuel _ _ _ (by simpa using hl) (by have := left_set (listed := listed) (i := i) (by omega) hun; omega) ⟨?_, ?_, ?_, ?_, ?_, hJ⟩
      · rw [put_size]; exact h.size
      · rw [put_defers]; exact h.defers
      · intro k hk2 hlk j hj
        by_cases hik : i = k
        · subst hik
          exact getD_set_true (hdeps j hj).2
        · rw [getD_set_ne false hik] at hlk
          exact getD_set_true (h.closed k hk2 hlk j hj)
      · intro t ht
        have hit : (listed.setIfInBounds i true).getD i false = true := by
          rw [getD_mem (by simpa using (by omega : i < listed.size))]; simp
        rw [put_ne a v (by rw [hk.dst]; exact ht i hi' hit)]
        exact h.other t fun k hk2 hlk => ht k hk2 (getD_set_true hlk)
      · intro j hj hlj
        by_cases hij : i = j
        · subst hij
          refine ⟨v, fun d hd => ?_, hv⟩
          rw [hk.dst, hd]
          exact put_at a v (by rw [h.size]; exact hk.lt d hd)
        · rw [getD_set_ne false hij] at hlj
          obtain ⟨u, e1, e2⟩ := h.done j hj hlj
          refine ⟨u, fun d hd => ?_, hmono j u (Ne.symm hij) hlj e2⟩
          rw [put_ne a v (by rw [hk.dst]; exact okG_apart hok hj hi' (Ne.symm hij) hd)]
          exact e1 d hd
    unfold wpOp
    rw [ho]
    dsimp only
    cases hw : Region.wanted o (yielded ops a.tmps) with
    | true =>
      rw [if_pos rfl]
      exact .inl (Oper.wp_mono key (hstep.1 hw))
    | false =>
      rw [if_neg (by simp)]
      exact key _ _ (hstep.2 hw)
/-- the region, each operation told once; the frame behind it: 'slots' are the temporaries that it writes, each with its operation -/
theorem wp_guarded4 {id : Nat} {a : Act} {w : World} (hm : P.follows .mixedOrders = true) (ds : List (Option Nat)) (Sp : Nat → World → Value → Prop) (J : Array Bool → Act → World → Prop) (slots : List (Nat × Nat)) (hok : okG ops ds a.tmps.size = true)
    (hsl : (slots.all fun p => decide (p.2 < ops.size) && dsAt ds p.2 == some p.1) = true) (hnd : (slots.map (·.1)).Nodup) (hall : ((List.range ops.size).all fun i => (dsAt ds i).all fun d => (slots.map (·.1)).contains d) = true)
    (h0 : J (Array.replicate ops.size false) a w.drew)
    (step : ∀ i o listed a' w', ops[i]? = some o → HSees ops ds Sp J a listed i a' w' →
      (Region.wanted o (yielded ops a'.tmps) = true → Oper.wp P o a' w' (Leaves4 Sp J listed i o.dst a' w') Q) ∧ (Region.wanted o (yielded ops a'.tmps) = false → Leaves4 Sp J listed i o.dst a' w' (a'.put o.dst undef) w'))
    (fin : ∀ listed (vs : List Value) w', vs.length = slots.length → (∀ (k : Nat) (p : Nat × Nat) (v : Value), slots[k]? = some p → vs[k]? = some v → Sp p.2 w' v ∧ (puts a ((slots.map (·.1)).zip vs)).tmps[p.1]? = some v) → (∀ i, i < ops.size → ∃ v, Sp i w' v) → (∀ i, i < ops.size → listed.getD i false = true) → J listed (puts a ((slots.map (·.1)).zip vs)) w' → Q .normal (puts a ((slots.map (·.1)).zip vs)) w') :
    (Code.region id ops true).wp P Q a w := by
  refine wp_region_any hm ?_
  refine any_guarded4 (a0 := a) hok step (fun listed a' w' hal h => ?_) _ _ _ _ (by simp) ?_ ⟨rfl, rfl, fun k hk hf => ?_, fun _ _ => rfl, fun i hi hf => ?_, h0⟩
  · simp only [List.all_eq_true, Bool.and_eq_true, decide_eq_true_eq, beq_iff_eq] at hsl
    have hv : ∀ p ∈ slots, ∃ v, a'.tmps[p.1]? = some v ∧ Sp p.2 w' v := fun p hp => by
      obtain ⟨h1, h2⟩ := hsl p hp
      obtain ⟨v, e, hs⟩ := h.done p.2 h1 (hal _ h1)
      exact ⟨v, e p.1 h2, hs⟩
    let vs := slots.map fun p => a'.tmps.getD p.1 undef
    have hfr := frame_eq h.size h.defers ((slots.map (·.1)).zip vs) (by
      rw [List.map_fst_zip (by simp [vs])]; exact hnd) (fun p hp => by
      have hp2 := (List.of_mem_zip (a := p.1) (b := p.2) hp).1
      obtain ⟨q, hq, e⟩ := List.mem_map.1 hp2
      obtain ⟨h1, h2⟩ := hsl q hq
      rw [← e]
      exact (okG_at hok (Array.getElem?_eq_some_iff.2 ⟨h1, rfl⟩)).lt _ h2) (fun p hp => by
      obtain ⟨k, hk, e⟩ := List.mem_iff_getElem.1 hp
      rw [List.getElem_zip] at e
      rw [← e]
      rw [List.length_zip] at hk
      have hk1 : k < slots.length := by simp at hk; omega
      obtain ⟨v, e1, _⟩ := hv slots[k] (List.getElem_mem hk1)
      simp only [vs, List.getElem_map]
      rw [arr_getD e1]; exact e1) (fun t ht => h.other t fun i hi _ e => by
      simp only [List.all_eq_true, List.mem_range] at hall
      have h3 := hall i hi
      rw [e] at h3
      have h3 : t ∈ slots.map (·.1) := by simpa using h3
      obtain ⟨k, hk, e2⟩ := List.mem_iff_getElem.1 h3
      have hkl : k < ((slots.map (·.1)).zip vs).length := by rw [List.length_zip]; simp [vs] at hk ⊢; omega
      exact ht _ (List.getElem_mem hkl) (by rw [List.getElem_zip]; exact e2))
    have hinv := h.inv
    rw [hfr] at hinv
    rw [hfr]
    refine fin listed vs w' (by simp [vs]) (fun k p v hp hvk => ?_) (fun i hi => (h.done i hi (hal i hi)).imp fun v hv => hv.2) hal hinv
    obtain ⟨hk1, rfl⟩ := List.getElem?_eq_some_iff.1 hp
    obtain ⟨hk2, rfl⟩ := List.getElem?_eq_some_iff.1 hvk
    obtain ⟨u, e1, e2⟩ := hv slots[k] (List.getElem_mem hk1)
    have h3 : vs[k] = a'.tmps.getD slots[k].1 undef := by simp only [vs, List.getElem_map]
    have hv2 : vs[k] = u := by rw [h3, arr_getD e1]
    rw [hv2]
    exact ⟨e2, by rw [← hfr]; exact e1⟩
  · exact Nat.le_trans List.countP_le_length (by simp)
  · simp [hk] at hf
  · simp [hi] at hf
end
end Go.Proofs.YtnkhdpenmekhdaaGreat.Reg
end

section
namespace Go.Proofs.YtnkhdpenmekhdaaGreat.Reg
open Go Go.RowKit
/-- what is known of a value, and lasts -/
structure Kn where
  sat : World → Value → Prop
  mono : ∀ w w' v, Below w.heap.size w w' → sat w v → sat w' v
  b : Option Bool
  isb : ∀ w v b', b = some b' → sat w v → v = .bool b'
def Kn.val (v : Value) : Kn := ⟨fun _ u => u = v, fun _ _ _ _ h => h, none, fun _ _ _ h => nomatch h⟩
def Kn.bl (q : Bool) : Kn := ⟨fun _ u => u = .bool q, fun _ _ _ _ h => h, some q, fun _ _ _ h g => by cases h; exact g⟩
def Kn.any : Kn := ⟨fun _ _ => True, fun _ _ _ _ h => h, none, fun _ _ _ h => nomatch h⟩
def knSp (ks : List Kn) (wd : List Bool) (i : Nat) (w : World) (v : Value) : Prop := match wd.getD i true with
  | true => (ks.getD i Kn.any).sat w v
  | false => v = undef
theorem kn_mono {ks : List Kn} {wd : List Bool} {i : Nat} {w w' : World} {v : Value} (hb : Below w.heap.size w w') (h : knSp ks wd i w v) : knSp ks wd i w' v := by
  unfold knSp at *
  split at h
  · exact (ks.getD i Kn.any).mono _ _ _ hb h
  · exact h
/-- the guards, decided -/
def okK (ops : Array Oper) (ds : List (Option Nat)) (ks : List Kn) (wd : List Bool) : Bool := (List.range ops.size).all fun i => match ops[i]? with
  | some o => match o.guard with
    | none => wd.getD i true
    | some (g, want) => (deps ops i).contains g && ((dsAt ds g).isSome && (wd.getD g true && match (ks.getD g Kn.any).b with
      | some b => wd.getD i true == (b == want)
      | none => false))
  | none => false
/-- which of the first n operations wait, one behind the other, for operation i -/
def marks (ops : Array Oper) (i : Nat) : Nat → List Bool
  | 0 => []
  | n + 1 => marks ops i n ++ [n == i || (deps ops n).any fun j => (marks ops i n).getD j false]
theorem marks_len (ops : Array Oper) (i : Nat) : ∀ n, (marks ops i n).length = n
  | 0 => rfl
  | n + 1 => by rw [marks, List.length_append, marks_len ops i n]; rfl
theorem marks_listed {ops : Array Oper} {i : Nat} {listed : Array Bool} (hc : ∀ k, k < ops.size → listed.getD k false = true → ∀ j ∈ deps ops k, listed.getD j false = true) : ∀ n, n ≤ ops.size → ∀ k, (marks ops i n).getD k false = true → listed.getD k false = true → listed.getD i false = true
  | 0, _, k, h, _ => by simp [marks] at h
  | n + 1, hn, k, h, hl => by
    rw [marks] at h
    by_cases hk : k < n
    · rw [List.getD_eq_getElem?_getD, List.getElem?_append_left (by rw [marks_len]; exact hk), ← List.getD_eq_getElem?_getD] at h
      exact marks_listed hc n (by omega) k h hl
    · rw [List.getD_eq_getElem?_getD, List.getElem?_append_right (by rw [marks_len]; omega), marks_len, ← List.getD_eq_getElem?_getD] at h
      obtain ⟨d, hd⟩ : ∃ d, k - n = d := ⟨_, rfl⟩
      rw [hd] at h
      match d, hd, h with
      | 0, hd, h =>
        obtain rfl : k = n := by omega
        simp only [List.getD_cons_zero, Bool.or_eq_true, beq_iff_eq, List.any_eq_true] at h
        rcases h with rfl | ⟨j, hj, hm⟩
        · exact hl
        · exact marks_listed hc k (by omega) j hm (hc k (by omega) hl j hj)
      | d + 1, _, h => simp at h
def freeAt (ops : Array Oper) (ds : List (Option Nat)) (i t : Nat) : Bool := let m := marks ops i ops.size; (List.range ops.size).all fun k => dsAt ds k != some t || m.getD k false
structure Fr (ops : Array Oper) (ds : List (Option Nat)) (i t : Nat) : Prop where
  out : freeAt ops ds i t = true
section
variable {P : Program} {ops : Array Oper} {Q : Exit → Act → World → Prop}
theorem okK_at {ds : List (Option Nat)} {n : Nat} {ks : List Kn} {wd : List Bool} (hok : okG ops ds n = true) (h : okK ops ds ks wd = true) {i : Nat} {o : Oper} (ho : ops[i]? = some o) {a : Act} {w : World} (hdep : ∀ j ∈ deps ops i, ∃ v, (∀ d, dsAt ds j = some d → a.tmps[d]? = some v) ∧ knSp ks wd j w v) : Region.wanted o (yielded ops a.tmps) = wd.getD i true := by
  simp only [okK, List.all_eq_true, List.mem_range] at h
  have hi : i < ops.size := (Array.getElem?_eq_some_iff.1 ho).1
  have h1 := h i hi
  rw [ho] at h1
  dsimp only at h1
  cases hg : o.guard with
  | none =>
    rw [hg] at h1
    rw [wanted_none hg]; exact h1.symm
  | some p =>
    obtain ⟨g, want⟩ := p
    rw [hg] at h1
    dsimp only at h1
    simp only [Bool.and_eq_true] at h1
    obtain ⟨h2, h3, h4, h5⟩ := h1
    have hgm : g ∈ deps ops i := by simpa using h2
    obtain ⟨d, hd⟩ := Option.isSome_iff_exists.1 h3
    obtain ⟨v, hv, hs⟩ := hdep g hgm
    have hv := hv d hd
    unfold knSp at hs
    rw [h4] at hs
    dsimp only at hs
    have hgl : g < ops.size := by have := (okG_at hok ho).deps g hgm; omega
    have hgo : (ops[g]?).bind (·.dst) = some d := by
      have e : ops[g]? = some ops[g] := Array.getElem?_eq_some_iff.2 ⟨hgl, rfl⟩
      rw [e]
      show ops[g].dst = some d
      rw [(okG_at hok e).dst, hd]
    cases hev : (ks.getD g Kn.any).b with
    | some b =>
      rw [hev] at h5
      have := (ks.getD g Kn.any).isb _ _ _ hev hs
      subst this
      rw [wanted_of hg hgo hv]
      simpa using (beq_iff_eq.1 h5).symm
    | none => rw [hev] at h5; simp at h5
theorem wp_sat {id : Nat} {a : Act} {w : World} (hm : P.follows .mixedOrders = true) (ds : List (Option Nat)) (ks : List Kn) (wd : List Bool) (slots : List (Nat × Nat)) (hok : okG ops ds a.tmps.size = true) (how : okK ops ds ks wd = true)
    (hsl : (slots.all fun p => decide (p.2 < ops.size) && dsAt ds p.2 == some p.1) = true) (hnd : (slots.map (·.1)).Nodup) (hall : ((List.range ops.size).all fun i => (dsAt ds i).all fun d => (slots.map (·.1)).contains d) = true)
    (step : ∀ i o a' w', ops[i]? = some o → wd.getD i true = true → (∀ j ∈ deps ops i, ∀ d, dsAt ds j = some d → ∃ v, a'.tmps[d]? = some v ∧ knSp ks wd j w' v) → (∀ t, Fr ops ds i t → a'.tmps[t]? = a.tmps[t]?) → Below w.heap.size w w' →
      Oper.wp P o a' w' (fun a2 w2 => ∃ v, a2 = a'.put o.dst v ∧ (ks.getD i Kn.any).sat w2 v ∧ Below w'.heap.size w' w2) Q)
    (fin : ∀ (us : List Value) w', us.length = slots.length → (∀ (k : Nat) (p : Nat × Nat) (v : Value), slots[k]? = some p → us[k]? = some v → knSp ks wd p.2 w' v) → Below w.heap.size w w' → Q .normal (puts a ((slots.map (·.1)).zip us)) w') : (Code.region id ops true).wp P Q a w := by
  refine wp_guarded hm ds (fun i w' v => knSp ks wd i w' v) (fun _ w' => Below w.heap.size w w') slots hok hsl hnd hall ⟨rfl, rfl, rfl, Nat.le_refl _, fun _ _ => rfl⟩ ?_ ?_
  · intro i o listed a' w' ho hs
    have hw := okK_at hok how ho hs.dep
    have hdep : ∀ j ∈ deps ops i, ∀ d, dsAt ds j = some d → ∃ v, a'.tmps[d]? = some v ∧ knSp ks wd j w' v := fun j hj d hd => by
      obtain ⟨v, e, hk⟩ := hs.dep j hj
      exact ⟨v, e d hd, hk⟩
    have hother : ∀ t, Fr ops ds i t → a'.tmps[t]? = a.tmps[t]? := fun t hf => hs.other t fun k hk hlk e => by
      have ht := hf.out
      unfold freeAt at ht
      simp only [List.all_eq_true, List.mem_range, Bool.or_eq_true, bne_iff_ne, ne_eq] at ht
      rcases ht k hk with h | h
      · exact h e
      · have := marks_listed hs.closed ops.size (Nat.le_refl _) k h hlk
        rw [hs.un] at this; cases this
    refine ⟨fun hwt => ?_, fun hwf => ?_⟩
    · rw [hw] at hwt
      refine Oper.wp_mono ?_ (step i o a' w' ho hwt hdep hother hs.inv)
      rintro a2 w2 ⟨v, rfl, hk, hb⟩
      exact ⟨v, rfl, by show knSp ks wd i w2 v; unfold knSp; rw [hwt]; exact hk, fun j u _ _ h => kn_mono hb h, hs.inv.trans (hb.mono hs.inv.size)⟩
    · rw [hw] at hwf
      exact ⟨undef, rfl, by show knSp ks wd i w' undef; unfold knSp; rw [hwf], fun j u _ _ h => h, hs.inv⟩
  · intro listed us w' hl hu _ _ hJ
    exact fin us w' hl hu hJ
end
end Go.Proofs.YtnkhdpenmekhdaaGreat.Reg
end

section
namespace Go.Proofs.YtnkhdpenmekhdaaGreat.Reg
open Go Go.RowKit
section
variable {P : Program} {ops : Array Oper} {Q : Exit → Act → World → Prop}
/-- the world, by what has been done: the element made, appended, the slice stored -/
def wld (ib ia is : Nat) (S0 S1 S2 S3 : World) (listed : Array Bool) : World :=
  if listed.getD is false = true then S3 else if listed.getD ia false = true then S2 else if listed.getD ib false = true then S1 else S0
def nxt (ib ia is : Nat) (S1 S2 S3 : World) (i : Nat) (w : World) : World := if i = is then S3 else if i = ia then S2 else if i = ib then S1 else w
/-- what holds of the world when operation i is run -/
structure Now (ops : Array Oper) (ib ia is : Nat) (S0 S1 S2 S3 : World) (i : Nat) (w : World) : Prop where
  made : i = ib → w = S0
  app : i = ia → w = S1
  stored : i = is → w = S2
  early : (marks ops i ops.size).getD ia false = true → w = S0 ∨ w = S1
  any : w = S0 ∨ w = S1 ∨ w = S2 ∨ w = S3
def noGuard (ops : Array Oper) : Bool := ops.all fun o => o.guard.isNone
theorem wp_chain {id : Nat} {a : Act} {w : World} (hm : P.follows .mixedOrders = true) (ds : List (Option Nat)) (vs : List Value) (ib ia is : Nat) (S0 S1 S2 S3 : World) (slots : List (Nat × Nat)) (hok : okG ops ds a.tmps.size = true) (hng : noGuard ops = true)
    (hsl : (slots.all fun p => decide (p.2 < ops.size) && dsAt ds p.2 == some p.1) = true) (hnd : (slots.map (·.1)).Nodup) (hall : ((List.range ops.size).all fun i => (dsAt ds i).all fun d => (slots.map (·.1)).contains d) = true)
    (hix : (decide (ib < ia) && (decide (ia < is) && (decide (is < ops.size) && ((deps ops ia).contains ib && (deps ops is).contains ia)))) = true) (hS0 : w.drew = S0)
    (step : ∀ i o a' w', ops[i]? = some o → (∀ j ∈ deps ops i, ∀ d, dsAt ds j = some d → a'.tmps[d]? = some (vs.getD j undef)) → (∀ t, Fr ops ds i t → a'.tmps[t]? = a.tmps[t]?) → Now ops ib ia is S0 S1 S2 S3 i w' →
      Oper.wp P o a' w' (fun a2 w2 => a2 = a'.put o.dst (vs.getD i undef) ∧ w2 = nxt ib ia is S1 S2 S3 i w') Q)
    (fin : ∀ us : List Value, us.length = slots.length → (∀ (k : Nat) (p : Nat × Nat) (v : Value), slots[k]? = some p → us[k]? = some v → v = vs.getD p.2 undef) → Q .normal (puts a ((slots.map (·.1)).zip us)) S3) : (Code.region id ops true).wp P Q a w := by
  simp only [Bool.and_eq_true, decide_eq_true_eq] at hix
  obtain ⟨h1, h2, h3, h4, h5⟩ := hix
  have hb : ib ∈ deps ops ia := by simpa using h4
  have ha : ia ∈ deps ops is := by simpa using h5
  refine wp_guarded4 hm ds (fun i _ v => v = vs.getD i undef) (fun listed _ w' => w' = wld ib ia is S0 S1 S2 S3 listed) slots hok hsl hnd hall ?_ ?_ ?_
  · rw [hS0]
    unfold wld
    simp [h3, show ia < ops.size by omega, show ib < ops.size by omega]
  · intro i o listed a' w' ho hs
    have hi : i < ops.size := (Array.getElem?_eq_some_iff.1 ho).1
    have hg : o.guard = none := by
      unfold noGuard at hng
      rw [Array.all_eq_true'] at hng
      have := hng o (Array.mem_of_getElem? ho)
      simpa using this
    have hca : listed.getD ia false = true → listed.getD ib false = true := fun h => hs.closed ia (by omega) h ib hb
    have hcs : listed.getD is false = true → listed.getD ia false = true := fun h => hs.closed is h3 h ia ha
    have hun := hs.un
    have hsz := hs.size
    have hw : Region.wanted o (yielded ops a'.tmps) = true := wanted_none hg
    refine ⟨fun _ => ?_, fun h => by rw [hw] at h; cases h⟩
    have hinv : w' = wld ib ia is S0 S1 S2 S3 listed := hs.inv
    have hdep : ∀ j ∈ deps ops i, ∀ d, dsAt ds j = some d → a'.tmps[d]? = some (vs.getD j undef) := fun j hj d hd => by
      obtain ⟨v, e, rfl⟩ := hs.dep j hj
      exact e d hd
    have hother : ∀ t, Fr ops ds i t → a'.tmps[t]? = a.tmps[t]? := fun t hf => hs.other t fun k hk hlk e => by
      have ht := hf.out
      unfold freeAt at ht
      simp only [List.all_eq_true, List.mem_range, Bool.or_eq_true, bne_iff_ne, ne_eq] at ht
      rcases ht k hk with h | h
      · exact h e
      · have := marks_listed hs.closed ops.size (Nat.le_refl _) k h hlk
        rw [hun] at this; cases this
    have F : ∀ {x : Bool}, (x = true → False) → x = false := fun {x} h => by cases x <;> simp_all
    have hnow : Now ops ib ia is S0 S1 S2 S3 i w' := by
      refine ⟨fun e => ?_, fun e => ?_, fun e => ?_, fun e => ?_, ?_⟩
      · subst e
        have e1 : listed.getD ia false = false := F fun h => by have := hca h; rw [hun] at this; cases this
        have e2 : listed.getD is false = false := F fun h => by have := hcs h; rw [e1] at this; cases this
        rw [hinv]; unfold wld; rw [e1, e2, hun]; rfl
      · subst e
        have e2 : listed.getD is false = false := F fun h => by have := hcs h; rw [hun] at this; cases this
        have e3 : listed.getD ib false = true := hs.lst ib hb
        rw [hinv]; unfold wld; rw [e2, hun, e3]; rfl
      · subst e
        have e3 : listed.getD ia false = true := hs.lst ia ha
        rw [hinv]; unfold wld; rw [hun, e3]; rfl
      · have e1 : listed.getD ia false = false := F fun h => by
          have := marks_listed hs.closed ops.size (Nat.le_refl _) ia e h
          rw [hun] at this; cases this
        have e2 : listed.getD is false = false := F fun h => by have := hcs h; rw [e1] at this; cases this
        rw [hinv]; unfold wld; rw [e1, e2]
        cases listed.getD ib false with
        | true => right; rfl
        | false => left; rfl
      · rw [hinv]; unfold wld
        split
        · exact .inr (.inr (.inr rfl))
        · split
          · exact .inr (.inr (.inl rfl))
          · split
            · exact .inr (.inl rfl)
            · exact .inl rfl
    refine Oper.wp_mono ?_ (step i o a' w' ho hdep hother hnow)
    rintro a2 w2 ⟨rfl, rfl⟩
    refine ⟨_, rfl, rfl, fun j u _ _ h => h, ?_⟩
    have G : ∀ k, (listed.setIfInBounds i true).getD k false = (if i = k then true else listed.getD k false) := fun k => by
      by_cases e : i = k
      · subst e; rw [if_pos rfl]; simp [hsz, hi]
      · rw [if_neg e]; exact getD_set_ne false e
    show nxt ib ia is S1 S2 S3 i w' = wld ib ia is S0 S1 S2 S3 (listed.setIfInBounds i true)
    unfold nxt wld
    rw [G, G, G]
    by_cases e1 : i = is
    · subst e1; simp
    by_cases e2 : i = ia
    · subst e2
      have e4 : listed.getD is false = false := F fun h => by have := hcs h; rw [hun] at this; cases this
      simp [e1, e4]
    by_cases e3 : i = ib
    · subst e3
      have e4 : listed.getD ia false = false := F fun h => by have := hca h; rw [hun] at this; cases this
      have e5 : listed.getD is false = false := F fun h => by have := hcs h; rw [e4] at this; cases this
      simp [e1, e2, e4, e5]
    · simp only [e1, e2, e3, if_false]
      rw [hinv]; rfl
  · intro listed us w' hl hu _ hal hJ
    have hJ : w' = wld ib ia is S0 S1 S2 S3 listed := hJ
    have e1 := hal is h3
    rw [hJ]
    have : wld ib ia is S0 S1 S2 S3 listed = S3 := by unfold wld; rw [e1]; rfl
    rw [this]
    exact fin us hl fun k p v hp hv => (hu k p v hp hv).1
end
end Go.Proofs.YtnkhdpenmekhdaaGreat.Reg
end


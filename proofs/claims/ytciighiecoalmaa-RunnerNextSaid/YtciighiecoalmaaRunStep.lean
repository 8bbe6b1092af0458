/-
  Layer 17 (runner): Step, walked.
-/
import Derived.Test.YtciighiecoalmaaRunProg
namespace Go.Proofs.Ytciighiecoalmaa.Run
open Go.RowKit Go.Proofs.Ytciighiecoalmaa.Own Go.Proofs.Ytciighiecoalmaa.Brk Go.Proofs.Ytciighiecoalmaa.Calc Go.Proofs.Ytciighiecoalmaa.Tree

/-- what is told, and what is left then -/
def tk (L : List (Int × Op)) (now : Int) : List Op := (L.takeWhile fun p => decide (p.1 ≤ now)).map (·.2)
def lv (L : List (Int × Op)) (now : Int) : List (Int × Op) := L.dropWhile fun p => decide (p.1 ≤ now)
theorem tk_split {L T R : List (Int × Op)} {now : Int} (h : L = T ++ R) (hT : ∀ p ∈ T, p.1 ≤ now) (hR : R = [] ∨ ∃ p r, R = p :: r ∧ now < p.1) : tk L now = T.map (·.2) ∧ lv L now = R := by
  subst h
  unfold tk lv
  have h1 : ∀ p ∈ T, decide (p.1 ≤ now) = true := fun p hp => by simpa using hT p hp
  rw [List.takeWhile_append_of_pos h1, List.dropWhile_append_of_pos h1]
  rcases hR with rfl | ⟨p, r, rfl, hp⟩
  · simp
  · rw [List.takeWhile_cons, List.dropWhile_cons, if_neg (by simp; omega), if_neg (by simp; omega)]
    simp
def StepPost (w : World) (b q : Nat) (L : List (Int × Op)) (e now : Int) (r : Ending) (w' : World) : Prop :=
  ∃ v, r = .returned v ∧ Mine w' w.heap.size v (tk L now) ∧ IsRun w' b q (lv L now) e (decide (now < e)) ∧ Out (fun k => k = b) w w'
/-- how far Step has come -/
structure StepAt (w wr : World) (b q : Nat) (L : List (Int × Op)) (e now : Int) (v : Value) (T R : List (Int × Op)) : Prop where
  own : Mine wr w.heap.size v (T.map (·.2))
  run : IsRun wr b q R e true
  out : Out (fun k => k = b) w wr
  split : L = T ++ R
  due : ∀ p ∈ T, p.1 ≤ now
theorem StepAt.end_ {w wr : World} {b q : Nat} {L T R : List (Int × Op)} {e now : Int} {v : Value} {g : Bool} (h : StepAt w wr b q L e now v T R) (hb : b < w.heap.size) (hR : R = [] ∨ ∃ p r, R = p :: r ∧ now < p.1) (hg : decide (now < e) = g) :
    StepPost w b q L e now (.returned v) (wr.setCell ⟨b, 2, none⟩ (.bool g)) := by
  obtain ⟨e1, e2⟩ := tk_split h.split h.due hR
  refine ⟨v, rfl, by rw [e1]; exact own_set h.own hb 2 _, ?_, h.out.setCell (fun _ => rfl) _⟩
  rw [e2, hg]
  exact h.run.turned g
theorem mine_last3 {w : World} {B : Nat} {v : Value} {T : List (Int × Op)} {x : Int × Op} {m : Nat} (h : w.ownsRow B 42 3 v (m + 1) (ov (T.map (·.2)) ++ [.int .i64 x.2.k, .string ⟨x.2.s.toArray⟩, .int .i64 x.2.n])) (hm : m = T.length) : Mine w B v ((T ++ [x]).map (·.2)) := by
  rw [List.map_append]
  exact mine_more (x := x.2) h (by simpa using hm)

set_option maxRecDepth 100000 in
set_option maxHeartbeats 4000000 in
theorem step_on {w : World} {b q : Nat} {L : List (Int × Op)} {e : Int} (now : Int) (h : IsRun w b q L e true) (hl : L.length ≤ 1000) :
    Calls Try.prog 15 #[.pointer (some ⟨b, 0, none⟩), .int .i64 now] w (StepPost w b q L e now) := by
  obtain ⟨i0, hi, hz0, hz1, hz2⟩ := info_parts info_op
  have HD := Lib.hid (done_calls h)
  have hbl := h.at_lt
  have H0 := Lib.hid h
  clear h
  go_enter Try.func15, Try.ntmps15
  go_wp2_with (go_at_call 13; refine (HD.out).mono ?_; rintro e w' ⟨rfl, rfl⟩)
  go_loopw [5] (fun v wr => ∃ T R, StepAt w wr b q L e now v T R) (fun _ wr => leftLen wr b)
  case atStart => exact ⟨[], L, mine_nil _ _, H0.out, Out.refl _ _, rfl, fun _ h => nomatch h⟩
  case round =>
    obtain ⟨T, R, C⟩ := hrel
    obtain ⟨p, n, c, hn, hr, h1, h2, h3⟩ := C.run.row
    have hlen : T.length + n ≤ 1000 := by rw [hn]; have := C.split; rw [this, List.length_append] at hl; exact hl
    unfold maxLen at h2
    have c0 := at_cell hr 0
    have c1 := at_cell hr 1
    have c2 := at_cell hr 2
    have f0 := at_frozen hr 0
    have f2 := at_frozen hr 2
    have HL := Lib.hid (left_len hr)
    cases R with
    | nil =>
      obtain rfl : n = 0 := hn
      by_cases hne : now < e
      · have HC := Lib.hid (C.end_ (g := true) hbl (.inl rfl) (by simpa using hne))
        clear C h3 hr
        go_wp2_with fail
        go_ret
        exact HC.out
      · have HC := Lib.hid (C.end_ (g := false) hbl (.inl rfl) (by simpa using hne))
        have hne2 : decide (now < e) = false := by simpa using hne
        clear C h3 hr
        go_wp2_with fail
        go_ret
        exact HC.out
    | cons x R =>
      obtain ⟨o, rfl, d0, d1, d2, d3⟩ := h3.head
      obtain ⟨m, rfl⟩ : ∃ m, n = m + 1 := ⟨R.length, hn⟩
      have hm : m = R.length := by simpa using hn
      have n1 : (0 : Int) < (m : Int) + 1 := by omega
      have n2 : decide ((0 : Int) < (m : Int) + 1) = true := by simp
      by_cases hx : x.1 ≤ now
      · obtain ⟨d, rfl⟩ : ∃ d, c = d + 1 := ⟨c - 1, by omega⟩
        obtain ⟨p', hp', hcut⟩ := cut1 q o m d (by omega)
        obtain ⟨t, ht⟩ : ∃ t, T.length = t := ⟨_, rfl⟩
        have hown := mine_m C.own (m := t) (by simpa using ht)
        have HO := Lib.hid hown
        have H3 := Lib.hid h3
        have HR := Lib.hid hr
        have HM := Lib.hid hm
        have HT := Lib.hid ht
        have HX := Lib.hid hx
        have HP := Lib.hid hp'
        have hrs := C.out.size
        have HC := Lib.hid C
        rw [ht] at hlen
        have htl : t ≤ 1000 := by omega
        obtain ⟨xa, xo⟩ := x
        obtain ⟨xk, xs, xn⟩ := xo
        simp only at d0 d1 d2 d3 hx
        have hd3 : decide (xa ≤ now) = true := by simpa using hx
        clear hn hown h3 hr hm ht hp' C
        go_wp2_with (at_builtin; go_loud (refine Own.append_any rfl (.tmp 25) (.tmp 33) 22 rfl w.heap.size 42 i0 _ 3 32 Try.underlying22 hi hz0 hz1 hz2 rfl (by decide) _ _ _ rfl (World.ownsRow.alloc HO.out _) _ 1 1 [.int .i64 xk, .string ⟨xs.toArray⟩, .int .i64 xn] rfl (fun h => nomatch h) rfl (Own.three_new _ _ _ _ _ _ (by simp)) (by simp [Value.oneCell']) (by unfold maxLen; omega) (by omega) (by simp; omega) ?_; intro v' w1 hown hgr; have hne1 : some b ≠ Value.ownBlock _ := fun e => (Nat.not_le_of_lt hbl) (World.ownsRow.lt HO.out _ e.symm).1; have hr1 := (hgr.block b (by simp; have := at_lt HR.out; omega) hne1).trans (at_old _ _ HR.out); have k0 := at_cell hr1 0; have g0 := at_frozen hr1 0; have lb := at_lt hr1; have HR1 := Lib.hid hr1; have HOW := Lib.hid hown; have HGR := Lib.hid hgr; clear hown hgr hr1 hne1))
        have hq : q < w.heap.size := H0.out.lt
        have hne2 : ∀ k, Value.ownBlock _ = some k → ¬ (k < w.heap.size) := fun k hk => Nat.not_lt.2 (World.ownsRow.lt HO.out k hk).1
        have HDu := Lib.hid (H3.out.same (w' := _) ((HGR.out.block q (by simp; omega) (fun e => hne2 q e.symm hq)).trans (Below.heap_alloc wr _ q (by omega))))
        have HRun := Lib.hid (IsRun.tail HR1.out HM.out (by omega) (by unfold maxLen; omega) HDu.out (p' := p') (fun o' he hne => by
          obtain rfl : o = o' := by simpa using he
          exact HP.out (by rw [HM.out]; exact List.length_pos_iff.2 hne)) H0.out.ne (Nat.lt_of_lt_of_le hq (Nat.le_trans hrs (Nat.le_trans (by simp) HGR.out.size))))
        have HOut := Lib.hid ((out_grown (HC.out.out.alloc _) HGR.out (fun k hk hlt => absurd hlt (hne2 k hk))).setCell (p := ⟨b, 0, none⟩) (fun _ => rfl) (.slice p' m d))
        go_roundw
        case rel => exact ⟨T ++ [⟨xa, ⟨xk, xs, xn⟩⟩], R, own_set (mine_last3 HOW.out HT.out.symm) hbl 0 _, HRun.out, HOut.out, by rw [HC.out.split, List.append_assoc]; rfl, fun p hp => by
          rcases List.mem_append.1 hp with h | h
          · exact HC.out.due p h
          · rw [List.mem_singleton.1 h]; exact HX.out⟩
        case measure => rw [HL.out, left_len (at_set HR1.out 0 _)]; exact Nat.lt_succ_self _
      · have HC0 := fun g => C.end_ (g := g) hbl (.inr ⟨x, R, rfl, by omega⟩)
        obtain ⟨xa, xo⟩ := x
        simp only at d0 hx
        have hx2 : decide (xa ≤ now) = false := by simpa using hx
        by_cases hne : now < e
        · have HC := Lib.hid (HC0 true (by simpa using hne))
          clear C h3 hr HC0 d1 d2 d3 hn hm
          go_wp2_with fail
          go_ret
          exact HC.out
        · have HC := Lib.hid (HC0 false (by simpa using hne))
          have hne2 : decide (now < e) = false := by simpa using hne
          clear C h3 hr HC0 d1 d2 d3 hn hm
          go_wp2_with fail
          go_ret
          exact HC.out
end Go.Proofs.Ytciighiecoalmaa.Run

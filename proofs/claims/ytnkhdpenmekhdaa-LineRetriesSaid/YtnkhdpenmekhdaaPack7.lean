/-
Layer 19 (line): New, walked.
Layer 19 (line): the document's own Same, walked.
Layer 19 (line): the laws' sample, walked.
Layer 14 (brk): what the document's own one asks, number by number.
Layer 14 (brk): the document's own one, walked.
Layer 14 (brk): the document's own one at a backslash: number by number.
Layer 14 (brk): the document's own Read, walked.
Layer 14 (brk): how much a piece of steps sends and waits, in plain Lean.
Layer 14 (brk): the document's own Bytes, walked.
Layer 1 (calc): the walks of the document's own Is and Double.
Layer 18 (backoff): the document's own Low, walked.
-/
import Derived.Test.YtnkhdpenmekhdaaPack6
import Derived.Deep.QuietTactic
import Derived.BigQuiet
import Derived.Deep.DeepCutAuto
import Derived.LoopTactic
section
namespace Go.Proofs.Ytnkhdpenmekhdaa.Lin
open Go.RowKit Go.Proofs.Ytnkhdpenmekhdaa.Own Go.Proofs.Ytnkhdpenmekhdaa.Brk Go.Proofs.Ytnkhdpenmekhdaa.Calc Go.Proofs.Ytnkhdpenmekhdaa.Tree Go.Proofs.Ytnkhdpenmekhdaa.Run Go.Proofs.Ytnkhdpenmekhdaa.Bkf

set_option maxRecDepth 100000 in
set_option maxHeartbeats 2000000 in
theorem read_any (s : List UInt8) (hs : s.length ≤ 9223372036854775807) (w : World) : Calls Try.prog 20 #[.string ⟨s.toArray⟩] w (RPost s w) := by
  by_cases hbig : 255 < s.length
  · obtain ⟨e1, e2⟩ := r_big hbig
    have H := Lib.hid (And.intro e1 e2)
    have q : (255 : Int) < (s.length : Int) := by omega
    clear e1 e2 hbig
    go_enter Try.func20, Try.ntmps20
    go_wp2_with fail
    go_ret2
    exact ⟨_, by rw [H.out.1]; rfl, by rw [H.out.2]; exact Brk.mine_nil _ _, Below.refl _ _⟩
  · exact Brk.read_calls s (by omega) w
/-- a line that was just made -/
def mk (b c j : Int) (F : List Op) : Ln := ⟨b, c, j, F, 0, 0, 0, [], 0, 0, []⟩
/-- the code of New -/
noncomputable def newC (b c j : Int) (s : List UInt8) : Int := if okR b c j then rC s else 2
/-- a console as it comes in -/
def conV (v0 v1 v2 v3 v4 v5 : Value) (b c j : Int) (s : List UInt8) : Value := .agg #[v0, v1, v2, v3, v4, v5, .int .i64 b, .int .i64 c, .int .i64 j, .string ⟨s.toArray⟩]
/-- what New answers and leaves -/
def NewL (b c j : Int) (s : List UInt8) (w : World) (e : Ending) (w' : World) : Prop :=
  (newC b c j s ≠ 0 ∧ e = .returned (.tuple #[.pointer none, .int .i64 (newC b c j s)]) ∧ Below w.heap.size w w') ∨
  (newC b c j s = 0 ∧ ∃ k S, e = .returned (.tuple #[.pointer (some ⟨k, 0, none⟩), .int .i64 0]) ∧ Mem w' k S (mk b c j (rV s)) ∧ (∀ i, S i → w.heap.size ≤ i) ∧ Below w.heap.size w w')
theorem good_mk {b c j : Int} {s : List UInt8} (h : okR b c j) (hs : rC s = 0) : Good (mk b c j (rV s)) :=
  ⟨h, ⟨Int.le_refl _, by show (0 : Int) ≤ 5; omega⟩, by simp [mk], by have := (first_good hs).1; show (rV s).length ≤ 1000; omega, (first_good hs).2, fun hg => by rcases hg with e | e <;> simp [mk] at e, fun e => by simp [mk] at e⟩
theorem mine_keeps {w : World} {B : Nat} {v : Value} {L : List Op} {S : Nat → Prop} (h : Mine w B v L) (hS : ∀ g, v.ownBlock = some g → ¬ S g) : ∃ p c, v = .slice p L.length c ∧ ∀ W, Out S w W → Ops W L p c := by
  obtain ⟨p, c, rfl, _⟩ := h.ops
  refine ⟨p, c, rfl, fun W ho => ?_⟩
  obtain ⟨p', c', e, h4⟩ := Mine.ops (show Mine W B _ L from own_out h ho fun k hk => hS k hk)
  simp at e
  rw [e.1, e.2]
  exact h4
set_option maxRecDepth 100000 in
set_option maxHeartbeats 4000000 in
theorem new_line (v0 v1 v2 v3 v4 v5 : Value) (b c j : Int) (s : List UInt8) (hs : s.length ≤ 9223372036854775807) (w : World) :
    Calls Try.prog 5 #[conV v0 v1 v2 v3 v4 v5 b c j s] w (NewL b c j s w) := by
  unfold conV
  have HB := at_new w (.cells #[v0, v1, v2, v3, v4, v5, .int .i64 b, .int .i64 c, .int .i64 j, .string ⟨s.toArray⟩] 23 (0, 0))
  have hA := (Below.refl w.heap.size w).alloc (Nat.le_refl _) (.cells #[v0, v1, v2, v3, v4, v5, .int .i64 b, .int .i64 c, .int .i64 j, .string ⟨s.toArray⟩] 23 (0, 0))
  have HX := Lib.hid HB
  have HA := Lib.hid hA
  have HSZ : Hid ((w.alloc (.cells #[v0, v1, v2, v3, v4, v5, .int .i64 b, .int .i64 c, .int .i64 j, .string ⟨s.toArray⟩] 23 (0, 0))).heap.size = w.heap.size + 1) := Lib.hid (by simp)
  clear HB hA
  go_enter Try.func5, Try.ntmps5
  go_wp2_with fail
  generalize w.alloc (.cells #[v0, v1, v2, v3, v4, v5, .int .i64 b, .int .i64 c, .int .i64 j, .string ⟨s.toArray⟩] 23) = W at *
  by_cases hok : okR b c j
  · have HOK := Lib.hid hok
    have HCO : Hid (newC b c j s = rC s) := Lib.hid (by unfold newC; rw [if_pos hok])
    clear hok
    refine (Bkf.new_yes b c j HOK.out W).mono ?_
    rintro e w1 ⟨kw, rfl, hW, hkw, hB1⟩
    have c9 : w1.cell? ⟨w.heap.size, 9, none⟩ = some (.string ⟨s.toArray⟩) := at_cell ((hB1.block _ (at_lt HX.out)).trans HX.out) 9
    have HW1 := Lib.hid hW
    have HKW := Lib.hid hkw
    have HB1 := Lib.hid hB1
    clear hW hkw hB1
    go_wp2_with fail
    refine (read_any s hs w1).mono ?_
    rintro e w2 ⟨v, rfl, hM, hB2⟩
    obtain ⟨cd, hcd⟩ : ∃ cd, rC s = cd := ⟨_, rfl⟩
    rw [hcd]
    have HCD := Lib.hid hcd
    have HB2 := Lib.hid hB2
    have hkw1 := at_lt HW1.out
    obtain ⟨p, cp, rfl, hF⟩ := mine_keeps (S := fun i => i = kw ∨ i = w2.heap.size) hM (fun g hg => by
      have := own_lt hM hg
      rintro (e | e) <;> omega)
    have HF := Lib.hid hF
    have hb := HKW.out
    have hz := HSZ.out
    have hs1 := HB1.out.size
    have hs2 := hB2.size
    clear hM hB2 hF hcd c9
    by_cases h0 : cd = 0
    · subst h0
      obtain ⟨m, hm⟩ : ∃ m, (rV s).length = m := ⟨_, rfl⟩
      have HM := Lib.hid hm
      rw [hm]
      clear hm
      go_wp2_with fail
      go_ret2
      refine .inr ⟨HCO.out.trans HCD.out, w2.heap.size, (fun i => i = kw ∨ i = w2.heap.size), rfl, ⟨kw, p, cp, .pointer none, ?_⟩, ?_, ?_⟩
      · have hWt : IsW w2 kw b c j 1 := HW1.out.below HB2.out
        refine ⟨?_, .inr rfl, .inl rfl, by omega, at_old _ _ hWt, ?_, ?_, ?_, good_mk HOK.out HCD.out⟩
        · rw [show (mk b c j (rV s)).F.length = m from HM.out]
          exact at_new w2 _
        · rintro i (rfl | rfl)
          · simp; omega
          · simp
        · intro W' hW'
          exact HF.out W' (Out.trans (S' := fun i => i = kw ∨ i = w2.heap.size) ((Out.refl _ w2).alloc _) hW' fun _ _ h => h)
        · intro hg
          rcases hg with e | e <;> simp [mk] at e
      · rintro i (rfl | rfl) <;> omega
      · exact (((HA.out.trans (HB1.out.mono (by omega))).trans (HB2.out.mono (by omega))).alloc (by omega) _)
    · have h0b : (cd == 0) = false := by simpa using h0
      have H0 := Lib.hid h0
      clear h0
      go_wp2_with fail
      go_ret2
      exact .inl ⟨by rw [HCO.out, HCD.out]; exact H0.out, by rw [HCO.out, HCD.out]; rfl, (HA.out.trans (HB1.out.mono (by omega))).trans (HB2.out.mono (by omega))⟩
  · have HNO : Hid (newC b c j s = 2) := Lib.hid (by unfold newC; rw [if_neg hok])
    have HOK := Lib.hid hok
    clear hok
    refine (Bkf.new_no b c j HOK.out W).mono ?_
    rintro e w1 ⟨rfl, hB1⟩
    have HB1 := Lib.hid hB1
    clear hB1
    go_wp2_with fail
    go_ret2
    exact .inl ⟨by rw [HNO.out]; omega, by rw [HNO.out]; rfl, HA.out.trans (HB1.out.mono (by have := HSZ.out; omega))⟩
end Go.Proofs.Ytnkhdpenmekhdaa.Lin
end

section
namespace Go.Proofs.Ytnkhdpenmekhdaa.Lin
open Go.RowKit Go.Proofs.Ytnkhdpenmekhdaa.Own Go.Proofs.Ytnkhdpenmekhdaa.Brk Go.Proofs.Ytnkhdpenmekhdaa.Calc Go.Proofs.Ytnkhdpenmekhdaa.Tree Go.Proofs.Ytnkhdpenmekhdaa.Run Go.Proofs.Ytnkhdpenmekhdaa.Bkf

set_option maxRecDepth 100000 in
set_option maxHeartbeats 4000000 in
/-- two slices that hold the same -/
theorem same_outs (xs : List Ou) (n : Nat) (hn : xs.length = n) (p q : Option Addr) (c d : Nat) (w : World) (h1 : Outs w xs p c) (h2 : Outs w xs q d) :
    Calls Try.prog 25 #[.slice p n c, .slice q n d] w fun e w' => e = .returned (.bool true) ∧ Below w.heap.size w w' := by
  subst hn
  have hc1 := h1.cap
  have hm1 := h1.max
  unfold maxLen at hm1
  have q2 : (xs.length : Int) ≤ 9223372036854775807 := by omega
  have H1 := Lib.hid h1
  have H2 := Lib.hid h2
  clear h1 h2
  go_enter Try.func25, Try.ntmps25
  go_wp2_with fail
  go_loopw [5] (fun i wr => ∃ k m : Nat, k ≤ xs.length ∧ i = .int .i64 k ∧ wr = w.drewN m) (fun i _ => xs.length - (Go.RowKit.intOf i).toNat)
  case atStart => exact ⟨0, 0, by omega, rfl, rfl⟩
  case round =>
    obtain ⟨k, m, hk, rfl, rfl⟩ := hrel
    rcases Nat.lt_or_eq_of_le hk with hlt | rfl
    · rcases H1.out.cells with h0 | ⟨b, o, rfl, hb, hc⟩
      · rw [h0] at hlt; simp at hlt
      · rcases H2.out.cells with h0 | ⟨b', o', rfl, hb', hc'⟩
        · rw [h0] at hlt; simp at hlt
        · obtain ⟨c0, c1⟩ := hc k hlt
          obtain ⟨d0, d1⟩ := hc' k hlt
          have q1 : (k : Int) < (xs.length : Int) := by omega
          generalize xs[k] = x at *
          clear hc hc'
          go_wp2_with fail
          go_quiet (fail)
          go_wp2_with fail
          go_roundw
          case rel => exact ⟨k + 1, _, by omega, by go_num, rfl⟩
          case measure => simp [Go.RowKit.intOf]; omega
    · go_wp2_with fail
      go_ret
      exact ⟨rfl, Run.below_drew (Below.refl _ _)⟩
end Go.Proofs.Ytnkhdpenmekhdaa.Lin
end

section
namespace Go.Proofs.Ytnkhdpenmekhdaa.Lin
open Go.RowKit Go.Proofs.Ytnkhdpenmekhdaa.Own Go.Proofs.Ytnkhdpenmekhdaa.Brk Go.Proofs.Ytnkhdpenmekhdaa.Calc Go.Proofs.Ytnkhdpenmekhdaa.Tree Go.Proofs.Ytnkhdpenmekhdaa.Run Go.Proofs.Ytnkhdpenmekhdaa.Bkf

def exF : List Op := [⟨1, [105], 0⟩, ⟨2, [], 1⟩]
theorem ex_is : rC [105, 92, 100] = 0 ∧ rV [105, 92, 100] = exF := by
  refine r_some (by decide) ?_
  have s1 : rdF [] [105, 92, 100] = rdF [⟨1, [105], 0⟩] [92, 100] := rdF_step (t := [105]) (one_plain _ (by decide) (by decide) (by decide)) (by simp)
  have s2 : rdF [⟨1, [105], 0⟩] [92, 100] = rdF exF [] := rdF_step (t := wsg 1) (one_wsg (by decide) (by decide) _) (wsg_ne _)
  rw [s1, s2, rdF_nil]
theorem ey_is : rC [92, 113] = 3 := by
  refine (r_none (by decide) (rdF_no (by simp) ?_)).1
  rw [one_esc]
  unfold esc
  rw [if_neg (by decide), if_neg (by decide), if_neg (by decide), if_neg (by decide), if_neg (by decide), if_neg (by decide), if_neg (by decide), if_neg (by decide)]
  rfl
/-- a line of the call's own, and the world -/
structure Wk (w W : World) (k : Nat) (S : Nat → Prop) (x : Ln) : Prop where
  mem : Mem W k S x
  base : ∀ i, S i → w.heap.size ≤ i
  below : Below w.heap.size w W
theorem Wk.keep {w W W' : World} {k : Nat} {S : Nat → Prop} {x : Ln} (h : Wk w W k S x) (hb : Below W.heap.size W W') : Wk w W' k S x := ⟨h.mem.below hb, h.base, h.below.trans (hb.mono h.below.size)⟩
theorem Wk.step {w W W' : World} {k : Nat} {S S' : Nat → Prop} {x y : Ln} (h : Wk w W k S x) (hm : Mem W' k S' y) (hs : Step S W S' W') : Wk w W' k S' y :=
  ⟨hm, fun i hi => by
    rcases hs.new i hi with h' | h'
    · exact h.base i h'
    · have := h.below.size; omega, h.below.trans (hs.base h.below.size h.base)⟩
theorem Wk.does {w W W' : World} {k : Nat} {S : Nat → Prop} {x y : Ln} (h : Wk w W k S x) (hd : Does W k S y W') : ∃ S', Wk w W' k S' y ∧ Step S W S' W' := by
  obtain ⟨S', h1, h2⟩ := hd
  exact ⟨S', h.step h1 h2, h2⟩
theorem Wk.gives {w W W' : World} {k : Nat} {S : Nat → Prop} {x y : Ln} {O : List Ou} {e : Ending} (h : Wk w W k S x) (hd : Gives W k S y O e W') {y' : Ln} {O' : List Ou} (hy : y = y') (hO : O = O') : ∃ S' p c, e = .returned (.slice p O'.length c) ∧ Wk w W' k S' y' ∧ Step S W S' W' ∧ ∀ V, Out S' W' V → Outs V O' p c := by
  subst hy; subst hO
  obtain ⟨S', p, c, rfl, h1, h2, h3⟩ := hd
  exact ⟨S', p, c, rfl, h.step h1 h2, h2, h3⟩
theorem ops_one (w : World) (x : Op) (g : Nat) (hg : g = w.heap.size) : Ops (w.alloc (.cells #[.int .i64 x.k, .string ⟨x.s.toArray⟩, .int .i64 x.n] 64 (0, 0))) [x] (some ⟨g, 0, none⟩) 1 := by
  subst hg
  have hn := at_new w (.cells #[.int .i64 x.k, .string ⟨x.s.toArray⟩, .int .i64 x.n] 64 (0, 0))
  refine ⟨by simp, by unfold maxLen; omega, .inr ⟨w.heap.size, 0, rfl, by simp, fun i hi => ?_⟩⟩
  obtain rfl : i = 0 := by simpa using hi
  exact ⟨at_cell hn 0, at_cell hn 1, at_cell hn 2⟩
theorem outs_one (w : World) (x : Ou) (g : Nat) (hg : g = w.heap.size) : Outs (w.alloc (.cells #[.int .i64 x.1, .string ⟨x.2.toArray⟩] 36 (0, 0))) [x] (some ⟨g, 0, none⟩) 1 := by
  subst hg
  have hn := at_new w (.cells #[.int .i64 x.1, .string ⟨x.2.toArray⟩] 36 (0, 0))
  refine ⟨by simp, by unfold maxLen; omega, .inr ⟨w.heap.size, 0, rfl, by simp, fun i hi => ?_⟩⟩
  obtain rfl : i = 0 := by simpa using hi
  exact ⟨at_cell hn 0, at_cell hn 1⟩
def s0 : Ln := mk 2 8 0 exF
def s1 : Ln := ⟨2, 8, 0, exF, 2, 0, 0, [], 0, 0, []⟩
def s2 : Ln := ⟨2, 8, 0, exF, 1, 1, 12, [], 0, 0, []⟩
def s3 : Ln := ⟨2, 8, 0, exF, 2, 1, 0, [], 0, 0, []⟩
def s4 : Ln := ⟨2, 8, 0, exF, 3, 0, 0, [(12, ⟨1, [105], 0⟩)], 13, 12, []⟩
def s5 : Ln := ⟨2, 8, 0, exF, 3, 0, 0, [(12, ⟨1, [105], 0⟩)], 13, 12, [97, 98, 99]⟩
def s6 : Ln := ⟨2, 8, 0, exF, 4, 0, 0, [], 0, 0, []⟩
def s7 : Ln := ⟨2, 8, 0, exF, 1, 1, 16, [], 0, 0, []⟩
def s8 : Ln := ⟨2, 8, 0, exF, 0, 1, 0, [], 0, 0, []⟩
theorem e1 : startL s0 = s1 ∧ startO s0 = [(1, [])] := ⟨rfl, rfl⟩
theorem e2 : openL s1 10 false 0 = s2 ∧ openO s1 10 false = [] := ⟨rfl, rfl⟩
theorem e2n : nextV s2 = 12 ∧ nextI s2 = true := ⟨rfl, rfl⟩
theorem e3 : tickL s2 12 = s3 ∧ tickO s2 12 = [(1, [])] := ⟨rfl, rfl⟩
theorem e4 : openL s3 12 true 0 = s4 ∧ openO s3 12 true = [(3, [105])] := ⟨rfl, rfl⟩
theorem e5 : sendB s4 [97, 98, 99] = true ∧ sendL s4 [97, 98, 99] = s5 ∧ sendO s4 [97, 98, 99] = [] := ⟨by decide, rfl, rfl⟩
theorem e6 : tickL s5 13 = s6 ∧ tickO s5 13 = [(3, [97, 98, 99])] := ⟨rfl, rfl⟩
theorem e7 : brkC s6 13 [⟨3, [], 0⟩] = 0 ∧ brkL s6 13 [⟨3, [], 0⟩] = s6 ∧ brkO s6 13 [⟨3, [], 0⟩] = [(4, [])] := ⟨by decide, rfl, rfl⟩
theorem e8 : lostB s6 14 = true ∧ lostL s6 14 0 = s7 := ⟨by decide, rfl⟩
theorem e9 : stopL s7 = s8 ∧ stopO s7 = [] := ⟨rfl, rfl⟩

set_option maxRecDepth 100000 in
set_option maxHeartbeats 16000000 in
theorem works_calls (w : World) : Calls Try.prog 6 #[] w fun e w' => e = .returned (.bool true) ∧ Below w.heap.size w w' := by
  have C1 : newC 2 8 0 [105, 92, 100] = 0 := by unfold newC; rw [if_pos (by decide), ex_is.1]
  have C2 : newC 0 0 0 [] = 2 := by unfold newC; rw [if_neg (by decide)]
  have C3 : newC 1 1 0 [92, 113] = 3 := by unfold newC; rw [if_pos (by decide), ey_is]
  have HC := Lib.hid (And.intro C1 (And.intro C2 C3))
  clear C1 C2 C3
  go_enter Try.func6, Try.ntmps6
  go_wp2_with fail
  trace_state
  refine (new_line (.string ⟨#[]⟩) (.int .i64 0) (.int .i64 0) (.int .i64 0) (.int .i64 0) (.int .i64 0) 2 8 0 [105, 92, 100] (by decide) w).mono ?_
  rintro e w1 (⟨h, _⟩ | ⟨_, k, S, rfl, hM, hS, hB⟩)
  · exact absurd HC.out.1 h
  rw [ex_is.2] at hM
  have W1 : Hid (Wk w w1 k S s0) := Lib.hid ⟨hM, hS, hB⟩
  clear hM hS hB
  go_wp2_with fail
  refine (new_line (.string ⟨#[]⟩) (.int .i64 0) (.int .i64 0) (.int .i64 0) (.int .i64 0) (.int .i64 0) 0 0 0 [] (by decide) w1).mono ?_
  rintro e w2 (⟨_, rfl, hB⟩ | ⟨h, _⟩)
  case inr => rw [HC.out.2.1] at h; cases h
  rw [HC.out.2.1]
  have W2 := Lib.hid (W1.out.keep hB)
  clear hB W1
  go_wp2_with fail
  refine (new_line (.string ⟨#[]⟩) (.int .i64 0) (.int .i64 0) (.int .i64 0) (.int .i64 0) (.int .i64 0) 1 1 0 [92, 113] (by decide) w2).mono ?_
  rintro e w3 (⟨_, rfl, hB⟩ | ⟨h, _⟩)
  case inr => rw [HC.out.2.2] at h; cases h
  rw [HC.out.2.2]
  have W3 := Lib.hid (W2.out.keep hB)
  clear hB W2
  go_wp2_with fail
  refine (start_calls W3.out.mem).mono ?_
  rintro e w4 hG
  obtain ⟨S4, pa, ca, rfl, hW, hT, hA⟩ := W3.out.gives hG e1.1 e1.2
  have W4 := Lib.hid hW
  have A4 := Lib.hid hA
  clear hW hT hA hG W3
  go_wp2_with fail
  refine (opened_calls 10 0 false (by decide) W4.out.mem).mono ?_
  rintro e w5 hG
  obtain ⟨S5, pb, cb, rfl, hW, hT, -⟩ := W4.out.gives hG e2.1 e2.2
  have W5 := Lib.hid hW
  have A5 := Lib.hid (hT.stays A4.out)
  clear hW hT hG W4 A4
  go_wp2_with fail
  refine (next_calls W5.out.mem).mono ?_
  rintro e w' ⟨rfl, rfl⟩
  rw [e2n.1, e2n.2]
  go_wp2_with fail
  refine (tick_calls 12 W5.out.mem).mono ?_
  rintro e w6 hG
  obtain ⟨S6, pc, cc, rfl, hW, hT, -⟩ := W5.out.gives hG e3.1 e3.2
  have W6 := Lib.hid hW
  have A6 := Lib.hid (hT.stays A5.out)
  clear hW hT hG W5 A5
  go_wp2_with fail
  refine (opened_calls 12 0 true (by decide) W6.out.mem).mono ?_
  rintro e w7 hG
  obtain ⟨S7, pd, cd, rfl, hW, hT, hD⟩ := W6.out.gives hG e4.1 e4.2
  have W7 := Lib.hid hW
  have A7 := Lib.hid (hT.stays A6.out)
  have D7 := Lib.hid hD
  clear hW hT hG W6 A6 hD
  go_wp2_with fail
  refine (send_calls [97, 98, 99] W7.out.mem).mono ?_
  rintro e w8 ⟨v, rfl, hG⟩
  obtain ⟨S8, pe, ce, e, hW, hT, -⟩ := W7.out.gives hG e5.2.1 e5.2.2
  cases e
  rw [e5.1]
  have W8 := Lib.hid hW
  have A8 := Lib.hid (hT.stays A7.out)
  have D8 := Lib.hid (hT.stays D7.out)
  clear hW hT hG W7 A7 D7
  go_wp2_with fail
  refine (held_calls W8.out.mem).mono ?_
  rintro e w' ⟨rfl, rfl⟩
  rw [show ((s5.H.length : Nat) : Int) = 3 from rfl]
  go_wp2_with fail
  refine (tick_calls 13 W8.out.mem).mono ?_
  rintro e w9 hG
  obtain ⟨S9, pi, ci, rfl, hW, hT, hI⟩ := W8.out.gives hG e6.1 e6.2
  have W9 := Lib.hid hW
  have A9 := Lib.hid (hT.stays A8.out)
  have D9 := Lib.hid (hT.stays D8.out)
  have I9 := Lib.hid hI
  clear hW hT hG W8 A8 D8 hI
  go_wp2_with fail
  refine (state_calls W9.out.mem).mono ?_
  rintro e w' ⟨rfl, rfl⟩
  rw [show s6.st = 4 from rfl]
  go_wp2_with fail
  have hb1 : Below w9.heap.size w9 (w9.alloc (.cells #[.int .i64 3, .string ⟨#[]⟩, .int .i64 0] 64 (0, 0))) := (Below.refl _ _).alloc (Nat.le_refl _) _
  have hO1 := ops_one w9 ⟨3, [], 0⟩ _ rfl
  have W10 := Lib.hid (W9.out.keep hb1)
  have A10 := Lib.hid ((Step.below hb1).stays A9.out)
  have D10 := Lib.hid ((Step.below hb1).stays D9.out)
  have I10 := Lib.hid ((Step.below hb1).stays I9.out)
  refine (break_calls 13 [⟨3, [], 0⟩] 1 rfl (by omega) _ 1 hO1 W10.out.mem).mono ?_
  rintro e w11 ⟨v, rfl, hG⟩
  obtain ⟨S11, pj, cj, e, hW, hT, hJ⟩ := W10.out.gives hG e7.2.1 e7.2.2
  cases e
  rw [e7.1]
  have W11 := Lib.hid hW
  have A11 := Lib.hid (hT.stays A10.out)
  have D11 := Lib.hid (hT.stays D10.out)
  have I11 := Lib.hid (hT.stays I10.out)
  have J11 := Lib.hid hJ
  clear hW hT hG W9 A9 D9 I9 W10 A10 D10 I10 hJ hb1 hO1
  go_wp2_with fail
  refine (lost_calls 14 0 (by decide) W11.out.mem).mono ?_
  rintro e w12 ⟨rfl, hG⟩
  rw [e8.1]
  rw [e8.2] at hG
  obtain ⟨S12, hW, hT⟩ := W11.out.does hG
  have W12 := Lib.hid hW
  have A12 := Lib.hid (hT.stays A11.out)
  have D12 := Lib.hid (hT.stays D11.out)
  have I12 := Lib.hid (hT.stays I11.out)
  have J12 := Lib.hid (hT.stays J11.out)
  clear hW hT hG W11 A11 D11 I11 J11
  go_wp2_with fail
  refine (stop_calls W12.out.mem).mono ?_
  rintro e w13 hG
  obtain ⟨S13, pm, cm, rfl, hW, hT, -⟩ := W12.out.gives hG e9.1 e9.2
  have W13 := Lib.hid hW
  have A13 := Lib.hid (hT.stays A12.out w13 (Out.refl _ _))
  have D13 := Lib.hid (hT.stays D12.out w13 (Out.refl _ _))
  have I13 := Lib.hid (hT.stays I12.out w13 (Out.refl _ _))
  have J13 := Lib.hid (hT.stays J12.out w13 (Out.refl _ _))
  clear hW hT hG W12 A12 D12 I12 J12
  go_wp2_with fail
  have hb1 : Below w13.heap.size w13 (w13.alloc (.cells #[.int .i64 1, .string ⟨#[]⟩] 36 (0, 0))) := (Below.refl _ _).alloc (Nat.le_refl _) _
  refine (same_outs [(1, [])] 1 rfl _ _ _ _ _ (A13.out.below hb1) (outs_one w13 (1, []) _ rfl)).mono ?_
  rintro e w14 ⟨rfl, hb⟩
  have B14 := Lib.hid (hb1.trans (hb.mono hb1.size))
  clear hb hb1
  go_wp2_with fail
  have hb1 : Below w14.heap.size w14 (w14.alloc (.cells #[.int .i64 3, .string ⟨#[105]⟩] 36 (0, 0))) := (Below.refl _ _).alloc (Nat.le_refl _) _
  refine (same_outs [(3, [105])] 1 rfl _ _ _ _ _ ((D13.out.below B14.out).below hb1) (outs_one w14 (3, [105]) _ rfl)).mono ?_
  rintro e w15 ⟨rfl, hb⟩
  have B15 := Lib.hid (B14.out.trans ((hb1.trans (hb.mono hb1.size)).mono B14.out.size))
  clear hb hb1 B14
  go_wp2_with fail
  have hb1 : Below w15.heap.size w15 (w15.alloc (.cells #[.int .i64 3, .string ⟨#[97, 98, 99]⟩] 36 (0, 0))) := (Below.refl _ _).alloc (Nat.le_refl _) _
  refine (same_outs [(3, [97, 98, 99])] 1 rfl _ _ _ _ _ ((I13.out.below B15.out).below hb1) (outs_one w15 (3, [97, 98, 99]) _ rfl)).mono ?_
  rintro e w16 ⟨rfl, hb⟩
  have B16 := Lib.hid (B15.out.trans ((hb1.trans (hb.mono hb1.size)).mono B15.out.size))
  clear hb hb1 B15
  go_wp2_with fail
  have hb1 : Below w16.heap.size w16 (w16.alloc (.cells #[.int .i64 4, .string ⟨#[]⟩] 36 (0, 0))) := (Below.refl _ _).alloc (Nat.le_refl _) _
  refine (same_outs [(4, [])] 1 rfl _ _ _ _ _ ((J13.out.below B16.out).below hb1) (outs_one w16 (4, []) _ rfl)).mono ?_
  rintro e w17 ⟨rfl, hb⟩
  have B17 := Lib.hid (B16.out.trans ((hb1.trans (hb.mono hb1.size)).mono B16.out.size))
  clear hb hb1 B16
  have W17 := Lib.hid (W13.out.keep B17.out)
  go_wp2_with fail
  refine (state_calls W17.out.mem).mono ?_
  rintro e w' ⟨rfl, rfl⟩
  rw [show s8.st = 0 from rfl]
  go_wp2_with fail
  go_ret
  exact ⟨rfl, W17.out.below⟩
end Go.Proofs.Ytnkhdpenmekhdaa.Lin
end

section
namespace Go.Proofs.Ytnkhdpenmekhdaa.Brk
open Go.Proofs.Ytnkhdpenmekhdaa.Digit

def Wm (l : List UInt8) (n : Nat) : Prop := 4 ≤ l.length ∧ l.take 4 = 92 :: 119 :: two n
def Am (l : List UInt8) (n : Nat) : Prop := 4 ≤ l.length ∧ l.take 4 = 92 :: 120 :: hexS n
def Bm (l : List UInt8) (n : Nat) : Prop := (sgn n).length = 2 ∧ 2 ≤ l.length ∧ l.take 2 = sgn n
theorem bm_iff (d : UInt8) (r : List UInt8) (n : Nat) : Bm (92 :: d :: r) n ↔ (n = 92 ∧ d = 92) ∨ (n = 10 ∧ d = 110) ∨ (n = 13 ∧ d = 114) ∨ (n = 9 ∧ d = 116) := by
  have e : (92 :: d :: r).take 2 = [92, d] := by simp
  unfold Bm
  rw [e]
  constructor
  · rintro ⟨h1, -, h2⟩
    by_cases e1 : n = 92
    · subst e1; exact .inl ⟨rfl, (List.cons.inj (List.cons.inj h2).2).1⟩
    by_cases e2 : n = 10
    · subst e2; exact .inr (.inl ⟨rfl, (List.cons.inj (List.cons.inj h2).2).1⟩)
    by_cases e3 : n = 13
    · subst e3; exact .inr (.inr (.inl ⟨rfl, (List.cons.inj (List.cons.inj h2).2).1⟩))
    by_cases e4 : n = 9
    · subst e4; exact .inr (.inr (.inr ⟨rfl, (List.cons.inj (List.cons.inj h2).2).1⟩))
    rw [sgn_other e1 e2 e3 e4] at h1
    split at h1
    · simp [hexS] at h1
    · simp at h1
  · have hl : 2 ≤ (92 :: d :: r).length := by simp
    rintro (⟨rfl, rfl⟩ | ⟨rfl, rfl⟩ | ⟨rfl, rfl⟩ | ⟨rfl, rfl⟩)
    · exact ⟨rfl, hl, rfl⟩
    · exact ⟨rfl, hl, rfl⟩
    · exact ⟨rfl, hl, rfl⟩
    · exact ⟨rfl, hl, rfl⟩
theorem take4 (d : UInt8) (r : List UInt8) : (92 :: d :: r).take 4 = 92 :: d :: r.take 2 := rfl
theorem am_iff (d : UInt8) (r : List UInt8) (n : Nat) : Am (92 :: d :: r) n ↔ d = 120 ∧ r.take 2 = hexS n := by
  unfold Am
  rw [take4]
  constructor
  · rintro ⟨_, h⟩
    have h1 := List.cons.inj (List.cons.inj h).2
    exact ⟨h1.1, h1.2⟩
  · rintro ⟨rfl, h⟩
    have hl := congrArg List.length h
    rw [List.length_take] at hl
    have : (hexS n).length = 2 := rfl
    exact ⟨by simp only [List.length_cons]; omega, by rw [h]⟩
theorem wm_iff (d : UInt8) (r : List UInt8) (n : Nat) : Wm (92 :: d :: r) n ↔ d = 119 ∧ r.take 2 = two n := by
  unfold Wm
  rw [take4]
  constructor
  · rintro ⟨_, h⟩
    have h1 := List.cons.inj (List.cons.inj h).2
    exact ⟨h1.1, h1.2⟩
  · rintro ⟨rfl, h⟩
    have hl := congrArg List.length h
    rw [List.length_take] at hl
    have : (two n).length = 2 := rfl
    exact ⟨by simp only [List.length_cons]; omega, by rw [h]⟩
/-- what the second loop finds -/
def Ways (l : List UInt8) : Prop :=
  (∃ M, M < 256 ∧ (∀ k, k < M → ¬ Am l k ∧ ¬ Bm l k) ∧ ((Am l M ∧ one l = (⟨1, [M.toUInt8], 0⟩, 4)) ∨ (¬ Am l M ∧ Bm l M ∧ one l = (⟨1, [M.toUInt8], 0⟩, 2)))) ∨
  ((∀ k, k < 256 → ¬ Am l k ∧ ¬ Bm l k) ∧ one l = no)
theorem way_two {d : UInt8} {r : List UInt8} (M : Nat) (hM : M < 256) (h0 : d ≠ 120) (hu : ∀ k, Bm (92 :: d :: r) k ↔ k = M) (h : esc d r = (⟨1, [M.toUInt8], 0⟩, 2)) : Ways (92 :: d :: r) := by
  have ha : ∀ k, ¬ Am (92 :: d :: r) k := fun k g => h0 ((am_iff d r k).1 g).1
  refine .inl ⟨M, hM, fun k hk => ⟨ha k, fun g => by have := (hu k).1 g; omega⟩, .inr ⟨ha M, (hu M).2 rfl, by rw [one_esc]; exact h⟩⟩
theorem way_none {d : UInt8} {r : List UInt8} (h0 : d ≠ 120) (hu : ∀ k, ¬ Bm (92 :: d :: r) k) (h : esc d r = no) : Ways (92 :: d :: r) :=
  .inr ⟨fun k _ => ⟨fun g => h0 ((am_iff d r k).1 g).1, hu k⟩, by rw [one_esc]; exact h⟩
theorem ref_ways (t : List UInt8) (h1 : ∀ r, t ≠ 100 :: r) (h2 : ∀ r, t ≠ 122 :: r) :
    (∃ n, 1 ≤ n ∧ n ≤ 99 ∧ Wm (92 :: t) n ∧ (∀ k, k < n → ¬ Wm (92 :: t) k) ∧ one (92 :: t) = (⟨2, [], n⟩, 4)) ∨
    ((∀ k, 1 ≤ k → k ≤ 99 → ¬ Wm (92 :: t) k) ∧ Ways (92 :: t)) := by
  match t with
  | [] =>
    refine .inr ⟨fun k _ _ h => ?_, .inr ⟨fun k _ => ⟨fun h => ?_, fun h => ?_⟩, one_lone⟩⟩
    · have := h.1; simp at this
    · have := h.1; simp at this
    · have := h.2.1; simp at this
  | d :: r =>
    have nw : d ≠ 119 → ∀ k, 1 ≤ k → k ≤ 99 → ¬ Wm (92 :: d :: r) k := fun h k _ _ g => h ((wm_iff d r k).1 g).1
    by_cases e1 : d = 92
    · refine .inr ⟨nw (by rw [e1]; decide), way_two 92 (by omega) (by rw [e1]; decide) (fun k => ?_) (if_pos e1)⟩
      rw [bm_iff, e1]; simp
    by_cases e2 : d = 114
    · refine .inr ⟨nw (by rw [e2]; decide), way_two 13 (by omega) (by rw [e2]; decide) (fun k => ?_) ((if_neg e1).trans (if_pos e2))⟩
      rw [bm_iff, e2]; simp
    by_cases e3 : d = 110
    · refine .inr ⟨nw (by rw [e3]; decide), way_two 10 (by omega) (by rw [e3]; decide) (fun k => ?_) ((if_neg e1).trans ((if_neg e2).trans (if_pos e3)))⟩
      rw [bm_iff, e3]; simp
    by_cases e4 : d = 116
    · refine .inr ⟨nw (by rw [e4]; decide), way_two 9 (by omega) (by rw [e4]; decide) (fun k => ?_) ((if_neg e1).trans ((if_neg e2).trans ((if_neg e3).trans (if_pos e4))))⟩
      rw [bm_iff, e4]; simp
    have hb : ∀ k, ¬ Bm (92 :: d :: r) k := fun k => by rw [bm_iff]; simp [e1, e2, e3, e4]
    have e5 : d ≠ 100 := fun e => h1 r (by rw [e])
    have e6 : d ≠ 122 := fun e => h2 r (by rw [e])
    have he : esc d r = if d = 120 then (if rhC (r.take 2) = 0 then (⟨1, [(rhV (r.take 2)).toNat.toUInt8], 0⟩, 4) else no) else if d = 119 then (if tk (r.take 2) = 0 then no else (⟨2, [], tk (r.take 2)⟩, 4)) else no := by
      unfold esc
      rw [if_neg e1, if_neg e2, if_neg e3, if_neg e4, if_neg e5, if_neg e6]
    by_cases e7 : d = 120
    · rw [if_pos e7] at he
      refine .inr ⟨nw (by rw [e7]; decide), ?_⟩
      by_cases hc : rhC (r.take 2) = 0
      · rw [if_pos hc] at he
        obtain ⟨c, hc2, hx, hv⟩ := rh_is hc
        refine .inl ⟨c, hc2, fun k hk => ⟨fun g => ?_, hb k⟩, .inl ⟨(am_iff d r c).2 ⟨e7, hx.symm⟩, ?_⟩⟩
        · have := ((am_iff d r k).1 g).2
          have := hexS_inj (by omega) hc2 (this.symm.trans hx.symm)
          omega
        · rw [one_esc, he, hv]; simp
      · rw [if_neg hc] at he
        refine .inr ⟨fun k hk => ⟨fun g => hc ?_, hb k⟩, by rw [one_esc]; exact he⟩
        rw [((am_iff d r k).1 g).2]; exact (rh_some hk).2
    rw [if_neg e7] at he
    by_cases e8 : d = 119
    · rw [if_pos e8] at he
      by_cases hc : tk (r.take 2) = 0
      · rw [if_pos hc] at he
        refine .inr ⟨fun k k1 k2 g => ?_, way_none e7 hb he⟩
        have := ((wm_iff d r k).1 g).2
        rw [this, tk_some k1 k2] at hc
        omega
      · rw [if_neg hc] at he
        obtain ⟨t1, t2, t3⟩ := tk_is hc
        refine .inl ⟨tk (r.take 2), t1, t2, (wm_iff d r _).2 ⟨e8, t3.symm⟩, fun k hk g => ?_, by rw [one_esc]; exact he⟩
        have := ((wm_iff d r k).1 g).2
        have := two_inj (by omega) t2 (this.symm.trans t3.symm)
        omega
    · rw [if_neg e8] at he
      exact .inr ⟨nw e8, way_none e7 hb he⟩
end Go.Proofs.Ytnkhdpenmekhdaa.Brk
end

section
namespace Go.Proofs.Ytnkhdpenmekhdaa.Brk
open Go.RowKit Go.Proofs.Ytnkhdpenmekhdaa.Digit Go.Proofs.Ytnkhdpenmekhdaa.Own

def ropE (r : Op × Nat) : Ending := .returned (.tuple #[.agg #[.int .i64 r.1.k, .string ⟨r.1.s.toArray⟩, .int .i64 r.1.n], .int .i64 r.2])
theorem cut_first (s : ByteArray) (k : Nat) (hk : k ≤ s.size) (W : World) :
    (Instr.sliceAt 9 (.string s) none (some (.int .i64 k)) none).run Try.prog W = .ok (.string ⟨(s.data.toList.take k).toArray⟩) W := by
  rw [run_sliceAt_string W 9 _ _ _ _ Try.underlying9, run_slice_string_to_if W 9 s .i64 k Try.underlying9, if_pos ⟨by omega, by omega⟩]
  have e : s.extract 0 k = ⟨(s.data.toList.take k).toArray⟩ := by
    apply ByteArray.ext; apply Array.toList_inj.1; simp [List.extract_eq_take_drop]
  rw [Int.toNat_natCast, e]
theorem rpad_two (n : Nat) (h : n ≤ 99) (w : World) : Calls Try.prog 43 #[.int .i64 n, .int .i64 2] w fun e w' => e = .returned (.string ⟨(two n).toArray⟩) ∧ w' = w := by
  refine (rpad_calls n 2 (by omega) (by omega) w).mono ?_
  rintro e w' ⟨rfl, rfl⟩
  rw [pad_two h]; exact ⟨rfl, rfl⟩
theorem rhex_one (n : Nat) (h : n < 256) (w : World) : Calls Try.prog 44 #[.int .u8 n] w fun e w' => e = .returned (.string ⟨(hexS n).toArray⟩) ∧ w = w' := by
  have := rhex_calls n (by omega) (by omega) w
  rwa [Int.toNat_natCast] at this
theorem rshow_one (n : Nat) (h : n < 256) (w : World) : Calls Try.prog 45 #[.string ⟨#[(n : Int).toNat.toUInt8]⟩] w fun e w' => e = .returned (.string ⟨(sgn n).toArray⟩) ∧ Below w.heap.size w w' := by
  have := rshow_calls ⟨#[(n : Int).toNat.toUInt8]⟩ (by show 1 ≤ _; omega) w
  have e : shw (⟨#[(n : Int).toNat.toUInt8]⟩ : ByteArray).data.toList = sgn n := by
    show shw [(n : Int).toNat.toUInt8] = _
    rw [shw_cons]
    have : (n : Int).toNat.toUInt8.toNat = n := by simp; omega
    rw [this]; simp [shw]
  rwa [e] at this

set_option maxRecDepth 100000 in
set_option maxHeartbeats 4000000 in
theorem rone_plain (s : ByteArray) (h1 : 0 < s.size) (h0 : ¬ (s[0].toNat : Int) = 92) (w : World) :
    Calls Try.prog 26 #[.string s] w fun e w' => e = ropE (one s.data.toList) ∧ Below w.heap.size w w' := by
  have e0 : s[0] ≠ 92 := ne_byte (n := 92) h0 (by omega)
  obtain ⟨t, e⟩ := list_one s h1
  have b0 : ((s[0].toNat : Int) != 92) = true := by simpa using h0
  by_cases hc : 32 ≤ (s[0].toNat : Int) ∧ (s[0].toNat : Int) ≤ 126
  · obtain ⟨q1, q2⟩ := hc
    have H := Lib.hid (show one s.data.toList = (⟨1, [s[0]], 0⟩, 1) by rw [e]; exact one_plain t (by omega) (by omega) e0)
    have HX := Lib.hid (show s.extract 0 1 = ⟨#[s[0]]⟩ by
      apply ByteArray.ext
      apply Array.toList_inj.1
      simp [ByteArray.data_extract, List.extract_eq_take_drop, e])
    have q3 : ¬ (s[0].toNat : Int) < 32 := by omega
    have q4 : ¬ 126 < (s[0].toNat : Int) := by omega
    clear e0 e h0
    go_enter Try.func26, Try.ntmps26
    go_wp2_with fail
    refine bodyPost_ret (v := .tuple #[.agg #[.int .i64 1, .string (s.extract 0 1), .int .i64 0], .int .i64 1]) ?_ rfl ⟨by rw [H.out, HX.out]; rfl, (Below.refl _ _).alloc (Nat.le_refl _) _⟩
    simp [results, Try.results26, go_sem, *]
  · have H := Lib.hid (show one s.data.toList = no by rw [e]; exact one_bad t (fun g => hc ⟨by omega, by omega⟩) e0)
    clear e0 e h0
    rcases (show (s[0].toNat : Int) < 32 ∨ (¬ (s[0].toNat : Int) < 32 ∧ 126 < (s[0].toNat : Int)) by omega) with q | ⟨q, q2⟩
    all_goals
      clear hc
      go_enter Try.func26, Try.ntmps26
      go_wp2_with fail
      refine bodyPost_ret (v := .tuple #[.agg #[.int .i64 0, .string ⟨#[]⟩, .int .i64 0], .int .i64 0]) ?_ rfl ⟨by rw [H.out]; rfl, (Below.refl _ _).alloc (Nat.le_refl _) _⟩
      simp [results, Try.results26, go_sem, *]

set_option maxRecDepth 100000 in
set_option maxHeartbeats 4000000 in
theorem rone_quick (s : ByteArray) (h1 : 2 ≤ s.size) (h0 : (s[0].toNat : Int) = 92) (h : (s[1].toNat : Int) = 100 ∨ (s[1].toNat : Int) = 122) (w : World) :
    Calls Try.prog 26 #[.string s] w fun e w' => e = ropE (one s.data.toList) ∧ Below w.heap.size w w' := by
  have e0 : s[0] = 92 := eq_byte (n := 92) h0
  have b0 : ((s[0].toNat : Int) != 92) = false := by simp [h0]
  have e := list_three s (by omega)
  rcases h with h | h
  · have H := Lib.hid (show one s.data.toList = (⟨2, [], 1⟩, 2) by rw [e, e0, eq_byte (n := 100) h]; exact one_esc 100 _)
    clear e0 e
    go_enter Try.func26, Try.ntmps26
    go_wp2_with fail
    refine bodyPost_ret (v := .tuple #[.agg #[.int .i64 2, .string ⟨#[]⟩, .int .i64 1], .int .i64 2]) ?_ rfl ⟨by rw [H.out]; rfl, (Below.refl _ _).alloc (Nat.le_refl _) _⟩
    simp [results, Try.results26, go_sem, *]
  · have H := Lib.hid (show one s.data.toList = (⟨3, [], 0⟩, 2) by rw [e, e0, eq_byte (n := 122) h]; exact one_esc 122 _)
    clear e0 e
    go_enter Try.func26, Try.ntmps26
    go_wp2_with fail
    refine bodyPost_ret (v := .tuple #[.agg #[.int .i64 3, .string ⟨#[]⟩, .int .i64 0], .int .i64 2]) ?_ rfl ⟨by rw [H.out]; rfl, (Below.refl _ _).alloc (Nat.le_refl _) _⟩
    simp [results, Try.results26, go_sem, *]
end Go.Proofs.Ytnkhdpenmekhdaa.Brk
end

section
namespace Go.Proofs.Ytnkhdpenmekhdaa.Brk
open Go.RowKit Go.Proofs.Ytnkhdpenmekhdaa.Digit Go.Proofs.Ytnkhdpenmekhdaa.Own

theorem row_kept {w w1 wr : World} {o : Obj} (h1 : w1 = w.alloc o) (hb : Below w1.heap.size w1 wr) : wr.heap[w.heap.size]? = some o := by
  subst h1
  exact (hb.block _ (by simp)).trans (at_new w o)
theorem base_kept {w w1 wr : World} {o : Obj} (h1 : w1 = w.alloc o) (hb : Below w1.heap.size w1 wr) : Below w.heap.size w wr := by
  subst h1
  exact ((Below.refl _ _).alloc (Nat.le_refl _) _).trans (hb.mono (by simp))
theorem list_of_size {s : ByteArray} (h1 : 0 < s.size) (h0 : s[0] = 92) : ∃ t, s.data.toList = 92 :: t := by
  obtain ⟨t, e⟩ := list_one s h1
  exact ⟨t, by rw [e, h0]⟩
theorem ways_n {L : List UInt8} (h : Ways L) : ∃ N, N ≤ 256 ∧ (∀ k, k < N → ¬ Am L k ∧ ¬ Bm L k) ∧ (N = 256 → one L = no) ∧
    (N < 256 → (Am L N ∧ one L = (⟨1, [N.toUInt8], 0⟩, 4)) ∨ (¬ Am L N ∧ Bm L N ∧ one L = (⟨1, [N.toUInt8], 0⟩, 2))) := by
  rcases h with ⟨M, h1, h2, h3⟩ | ⟨h1, h2⟩
  · exact ⟨M, by omega, h2, fun e => by omega, fun _ => h3⟩
  · exact ⟨256, Nat.le_refl _, h1, fun _ => h2, fun e => by omega⟩
theorem wait_n {L : List UInt8} (h : (∃ n, 1 ≤ n ∧ n ≤ 99 ∧ Wm L n ∧ (∀ k, k < n → ¬ Wm L k) ∧ one L = (⟨2, [], n⟩, 4)) ∨ ((∀ k, 1 ≤ k → k ≤ 99 → ¬ Wm L k) ∧ Ways L)) :
    ∃ M, 1 ≤ M ∧ M ≤ 100 ∧ (∀ k, 1 ≤ k → k < M → ¬ Wm L k) ∧ (M < 100 → Wm L M ∧ one L = (⟨2, [], M⟩, 4)) ∧ (M = 100 → Ways L) := by
  rcases h with ⟨n, h1, h2, h3, h4, h5⟩ | ⟨h1, h2⟩
  · exact ⟨n, h1, by omega, fun k _ hk => h4 k hk, fun _ => ⟨h3, h5⟩, fun e => by omega⟩
  · exact ⟨100, by omega, Nat.le_refl _, fun k k1 k2 => h1 k k1 (by omega), fun e => by omega, fun _ => h2⟩
theorem cat_list (a b : List UInt8) : ((⟨a.toArray⟩ : ByteArray) ++ ⟨b.toArray⟩).toList = a ++ b := by rw [bytes_add, ByteArray.toList_eq]
theorem no_start {s : ByteArray} (h : 2 ≤ s.size) {t : List UInt8} (et : s.data.toList = 92 :: t) {n : Nat} (hn : n < 256) (hq : ¬ (s[1].toNat : Int) = n) : ∀ r, t ≠ n.toUInt8 :: r := by
  intro r e
  rw [list_three s (by omega)] at et
  have := (List.cons.inj et).2
  rw [e] at this
  exact ne_byte hq hn (List.cons.inj this).1

set_option maxRecDepth 100000 in
set_option maxHeartbeats 8000000 in
theorem rone_short (s : ByteArray) (h1 : s.size = 1) (h0 : (s[0].toNat : Int) = 92) (w : World) :
    Calls Try.prog 26 #[.string s] w fun e w' => e = ropE (one s.data.toList) ∧ Below w.heap.size w w' := by
  have e0 : s[0] = 92 := eq_byte (n := 92) h0
  have b0 : ((s[0].toNat : Int) != 92) = false := by simp [h0]
  obtain ⟨t, et⟩ := list_of_size (by omega) e0
  have hls : s.data.toList.length = s.size := rfl
  have ht0 : t = [] := by rw [et, List.length_cons] at hls; exact List.eq_nil_of_length_eq_zero (by omega)
  have hw := ref_ways t (fun r e => by rw [ht0] at e; cases e) (fun r e => by rw [ht0] at e; cases e)
  clear hls ht0
  obtain ⟨L, hL⟩ : ∃ L, s.data.toList = L := ⟨_, rfl⟩
  have hLs : L.length = s.size := by rw [← hL]; rfl
  rw [← et, hL] at hw
  have HL := Lib.hid hL
  have HLS := Lib.hid hLs
  obtain ⟨w1, hw1⟩ : ∃ w1, w1 = w.alloc (.cells #[.int .i64 0, .string ⟨#[]⟩, .int .i64 0] 64 (0, 0)) := ⟨_, rfl⟩
  have HW1 := Lib.hid hw1
  have hW : Ways L := by
    rcases hw with ⟨n, _, _, h, _⟩ | ⟨_, h⟩
    · have := h.1; omega
    · exact h
  have q2 : ¬ (2 : Int) ≤ (s.size : Int) := by omega
  have q4 : ¬ (4 : Int) ≤ (s.size : Int) := by omega
  clear hw
  clear e0 et hL hLs
  go_enter Try.func26, Try.ntmps26
  go_wp2_with fail
  rw [← hw1]
  clear hw1
  go_loopw [4] (fun i wr => i = .int .i64 1 ∧ wr = w1) (fun i _ => 1)
  case atStart => exact ⟨rfl, rfl⟩
  case round =>
    obtain ⟨rfl, rfl⟩ := hrel
    have B1 := Lib.hid (Below.refl wr.heap.size wr)
    rename World => w1
    go_wp2_with fail
    obtain ⟨N, hN0, hNn, hNe, hNm⟩ := ways_n hW
    have HN := Lib.hid hNn
    have HEND := Lib.hid hNe
    have HM := Lib.hid hNm
    clear hNn hNe hNm hW
    go_loopw [5] (fun i wr => ∃ k : Nat, k ≤ N ∧ i = .int .i64 k ∧ Below w1.heap.size w1 wr) (fun i _ => 256 - (intOf i).toNat)
    case atStart => exact ⟨0, Nat.zero_le _, rfl, B1.out⟩
    case round =>
      obtain ⟨k, hk, rfl, hB⟩ := hrel
      have HB := Lib.hid hB
      have hbs := hB.size
      have hbw : w1.heap.size ≤ wr.heap.size := hbs
      by_cases hk2 : k < 256
      · have kw : IntKind.u8.wrap (k : Int) = (k : Int) := IntWalk.u8_in _ (by omega)
        have q1 : (k : Int) < 256 := by omega
        have hcv := fun (W : World) => run_byte_string W (k : Int) 86 9 5 Try.underlying86 Try.underlying5 Try.underlying9
        have HX := Lib.hid (rhex_one k hk2)
        have HS := Lib.hid (rshow_one k hk2)
        have hl4 := (sgn_len k).2
        have hlx : (hexS k).length = 2 := rfl
        clear hB
        by_cases hN : k < N
        · obtain ⟨na, nb⟩ := HN.out k hN
          rcases (show (((sgn k).length : Int) == 2) = true ∨ (((sgn k).length : Int) == 2) = false by cases (((sgn k).length : Int) == 2) <;> simp) with b2 | b2
          all_goals
            clear na nb
            go_wp2_with (first
              | (go_at_call 44; refine (HX.out _).mono ?_; rintro e w5 ⟨rfl, rfl⟩)
              | (go_at_call 45; refine (HS.out _).mono ?_; rintro e w6 ⟨rfl, hb6⟩))
            go_roundw
            case rel => exact ⟨k + 1, by omega, by go_num, (HB.out.alloc hbs _).trans (hb6.mono (by simp; omega))⟩
            case measure => simp [intOf]; omega
        · obtain rfl : k = N := by omega
          exfalso
          rcases HM.out hk2 with ⟨h, _⟩ | ⟨_, h, _⟩
          · have := h.1; rw [HLS.out] at this; omega
          · have := h.2.1; rw [HLS.out] at this; omega
      · obtain rfl : N = 256 := by omega
        obtain rfl : k = 256 := by omega
        have HE := Lib.hid (HEND.out rfl)
        have hr := row_kept HW1.out hB
        obtain ⟨c0, c1, c2⟩ := row3 hr
        obtain ⟨f0, f1, f2⟩ := frz3 hr
        have hlg := at_lt hr
        clear hr hB
        go_wp2_with fail
        refine bodyPost_ret (v := .tuple #[.agg #[.int .i64 0, .string ⟨#[]⟩, .int .i64 0], .int .i64 0]) ?_ rfl ⟨by rw [HL.out, HE.out]; rfl, (((base_kept HW1.out HB.out).setCell (p := ⟨_, _, _⟩) (Nat.le_refl _) _).setCell (p := ⟨_, _, _⟩) (Nat.le_refl _) _).setCell (p := ⟨_, _, _⟩) (Nat.le_refl _) _⟩
        simp [results, Try.results26, go_sem, *]

set_option maxRecDepth 100000 in
set_option maxHeartbeats 8000000 in
theorem rone_mid (s : ByteArray) (h1 : 2 ≤ s.size) (h4 : s.size < 4) (h0 : (s[0].toNat : Int) = 92)
    (hq1 : ¬ (s[1].toNat : Int) = 100) (hq2 : ¬ (s[1].toNat : Int) = 122) (w : World) :
    Calls Try.prog 26 #[.string s] w fun e w' => e = ropE (one s.data.toList) ∧ Below w.heap.size w w' := by
  have e0 : s[0] = 92 := eq_byte (n := 92) h0
  have b0 : ((s[0].toNat : Int) != 92) = false := by simp [h0]
  obtain ⟨t, et⟩ := list_of_size (by omega) e0
  have hw := ref_ways t (no_start (n := 100) h1 et (by omega) hq1) (no_start (n := 122) h1 et (by omega) hq2)
  obtain ⟨L, hL⟩ : ∃ L, s.data.toList = L := ⟨_, rfl⟩
  have hLs : L.length = s.size := by rw [← hL]; rfl
  rw [← et, hL] at hw
  have HL := Lib.hid hL
  have HLS := Lib.hid hLs
  obtain ⟨w1, hw1⟩ : ∃ w1, w1 = w.alloc (.cells #[.int .i64 0, .string ⟨#[]⟩, .int .i64 0] 64 (0, 0)) := ⟨_, rfl⟩
  have HW1 := Lib.hid hw1
  obtain ⟨T2, hT2⟩ : ∃ T, T = s.data.toList.take 2 := ⟨_, rfl⟩
  have hcut2 : ∀ W, (Instr.sliceAt 9 (.string s) none (some (.int .i64 2)) none).run Try.prog W = .ok (.string ⟨T2.toArray⟩) W := fun W => by rw [hT2]; exact cut_first s 2 (by omega) W
  rw [hL] at hT2
  have HT2 := Lib.hid hT2
  have d1 : ((s[1].toNat : Int) == 100) = false := by simpa using hq1
  have d2 : ((s[1].toNat : Int) == 122) = false := by simpa using hq2
  have hW : Ways L := by
    rcases hw with ⟨n, _, _, h, _⟩ | ⟨_, h⟩
    · have := h.1; omega
    · exact h
  have q2 : (2 : Int) ≤ (s.size : Int) := by omega
  have q4 : ¬ (4 : Int) ≤ (s.size : Int) := by omega
  clear hw hT2 hq1 hq2
  clear e0 et hL hLs
  go_enter Try.func26, Try.ntmps26
  go_wp2_with fail
  rw [← hw1]
  clear hw1
  go_loopw [4] (fun i wr => i = .int .i64 1 ∧ wr = w1) (fun i _ => 1)
  case atStart => exact ⟨rfl, rfl⟩
  case round =>
    obtain ⟨rfl, rfl⟩ := hrel
    have B1 := Lib.hid (Below.refl wr.heap.size wr)
    rename World => w1
    go_wp2_with fail
    obtain ⟨N, hN0, hNn, hNe, hNm⟩ := ways_n hW
    have HN := Lib.hid hNn
    have HEND := Lib.hid hNe
    have HM := Lib.hid hNm
    clear hNn hNe hNm hW
    go_loopw [5] (fun i wr => ∃ k : Nat, k ≤ N ∧ i = .int .i64 k ∧ Below w1.heap.size w1 wr) (fun i _ => 256 - (intOf i).toNat)
    case atStart => exact ⟨0, Nat.zero_le _, rfl, B1.out⟩
    case round =>
      obtain ⟨k, hk, rfl, hB⟩ := hrel
      have HB := Lib.hid hB
      have hbs := hB.size
      have hbw : w1.heap.size ≤ wr.heap.size := hbs
      by_cases hk2 : k < 256
      · have kw : IntKind.u8.wrap (k : Int) = (k : Int) := IntWalk.u8_in _ (by omega)
        have q1 : (k : Int) < 256 := by omega
        have hcv := fun (W : World) => run_byte_string W (k : Int) 86 9 5 Try.underlying86 Try.underlying5 Try.underlying9
        have HX := Lib.hid (rhex_one k hk2)
        have HS := Lib.hid (rshow_one k hk2)
        have hl4 := (sgn_len k).2
        have hlx : (hexS k).length = 2 := rfl
        clear hB
        by_cases hN : k < N
        · obtain ⟨na, nb⟩ := HN.out k hN
          by_cases hl : (sgn k).length = 2
          · have nl : (T2 == sgn k) = false := by
              rw [beq_eq_false_iff_ne]
              exact fun e => nb ⟨hl, by rw [HLS.out]; omega, by rw [← HT2.out]; exact e⟩
            have b2 : (((sgn k).length : Int) == 2) = true := by simp [hl]
            clear na nb
            go_wp2_with (first
              | (go_at_call 44; refine (HX.out _).mono ?_; rintro e w5 ⟨rfl, rfl⟩)
              | (go_at_call 45; refine (HS.out _).mono ?_; rintro e w6 ⟨rfl, hb6⟩))
            go_roundw
            case rel => exact ⟨k + 1, by omega, by go_num, (HB.out.alloc hbs _).trans (hb6.mono (by simp; omega))⟩
            case measure => simp [intOf]; omega
          · have b2 : (((sgn k).length : Int) == 2) = false := by simp; omega
            clear na nb
            go_wp2_with (first
              | (go_at_call 44; refine (HX.out _).mono ?_; rintro e w5 ⟨rfl, rfl⟩)
              | (go_at_call 45; refine (HS.out _).mono ?_; rintro e w6 ⟨rfl, hb6⟩))
            go_roundw
            case rel => exact ⟨k + 1, by omega, by go_num, (HB.out.alloc hbs _).trans (hb6.mono (by simp; omega))⟩
            case measure => simp [intOf]; omega
        · obtain rfl : k = N := by omega
          rcases HM.out hk2 with ⟨h, _⟩ | ⟨ha, hb, he⟩
          · exfalso; have := h.1; rw [HLS.out] at this; omega
          · have nl : (T2 == sgn k) = true := by rw [beq_iff_eq, HT2.out]; exact hb.2.2
            have b2 : (((sgn k).length : Int) == 2) = true := by simp [hb.1]
            have HE := Lib.hid he
            clear he ha hb
            go_wp2_with (first
              | (go_at_call 44; refine (HX.out _).mono ?_; rintro e w5 ⟨rfl, rfl⟩)
              | (go_at_call 45; refine (HS.out _).mono ?_; rintro e w6 ⟨rfl, hb6⟩; have HB6 := Lib.hid ((HB.out.alloc hbs _).trans (hb6.mono (by simp; omega))); obtain ⟨c0, c1, c2⟩ := row3 (row_kept HW1.out HB6.out); obtain ⟨f0, f1, f2⟩ := frz3 (row_kept HW1.out HB6.out); have hlg := at_lt (row_kept HW1.out HB6.out)))
            refine bodyPost_ret (v := .tuple #[.agg #[.int .i64 1, .string ⟨#[(k : Int).toNat.toUInt8]⟩, .int .i64 0], .int .i64 2]) ?_ rfl ⟨by rw [HL.out, HE.out]; rfl, (((base_kept HW1.out HB6.out).setCell (p := ⟨_, _, _⟩) (Nat.le_refl _) _).setCell (p := ⟨_, _, _⟩) (Nat.le_refl _) _).setCell (p := ⟨_, _, _⟩) (Nat.le_refl _) _⟩
            simp [results, Try.results26, go_sem, *]
      · obtain rfl : N = 256 := by omega
        obtain rfl : k = 256 := by omega
        have HE := Lib.hid (HEND.out rfl)
        have hr := row_kept HW1.out hB
        obtain ⟨c0, c1, c2⟩ := row3 hr
        obtain ⟨f0, f1, f2⟩ := frz3 hr
        have hlg := at_lt hr
        clear hr hB
        go_wp2_with fail
        refine bodyPost_ret (v := .tuple #[.agg #[.int .i64 0, .string ⟨#[]⟩, .int .i64 0], .int .i64 0]) ?_ rfl ⟨by rw [HL.out, HE.out]; rfl, (((base_kept HW1.out HB.out).setCell (p := ⟨_, _, _⟩) (Nat.le_refl _) _).setCell (p := ⟨_, _, _⟩) (Nat.le_refl _) _).setCell (p := ⟨_, _, _⟩) (Nat.le_refl _) _⟩
        simp [results, Try.results26, go_sem, *]

set_option maxRecDepth 100000 in
set_option maxHeartbeats 8000000 in
theorem rone_long (s : ByteArray) (h1 : 2 ≤ s.size) (h4 : 4 ≤ s.size) (h0 : (s[0].toNat : Int) = 92)
    (hq1 : ¬ (s[1].toNat : Int) = 100) (hq2 : ¬ (s[1].toNat : Int) = 122) (w : World) :
    Calls Try.prog 26 #[.string s] w fun e w' => e = ropE (one s.data.toList) ∧ Below w.heap.size w w' := by
  have e0 : s[0] = 92 := eq_byte (n := 92) h0
  have b0 : ((s[0].toNat : Int) != 92) = false := by simp [h0]
  obtain ⟨t, et⟩ := list_of_size (by omega) e0
  have hw := ref_ways t (no_start (n := 100) h1 et (by omega) hq1) (no_start (n := 122) h1 et (by omega) hq2)
  obtain ⟨L, hL⟩ : ∃ L, s.data.toList = L := ⟨_, rfl⟩
  have hLs : L.length = s.size := by rw [← hL]; rfl
  rw [← et, hL] at hw
  have HL := Lib.hid hL
  have HLS := Lib.hid hLs
  obtain ⟨w1, hw1⟩ : ∃ w1, w1 = w.alloc (.cells #[.int .i64 0, .string ⟨#[]⟩, .int .i64 0] 64 (0, 0)) := ⟨_, rfl⟩
  have HW1 := Lib.hid hw1
  obtain ⟨T2, hT2⟩ : ∃ T, T = s.data.toList.take 2 := ⟨_, rfl⟩
  have hcut2 : ∀ W, (Instr.sliceAt 9 (.string s) none (some (.int .i64 2)) none).run Try.prog W = .ok (.string ⟨T2.toArray⟩) W := fun W => by rw [hT2]; exact cut_first s 2 (by omega) W
  rw [hL] at hT2
  have HT2 := Lib.hid hT2
  obtain ⟨T4, hT4⟩ : ∃ T, T = s.data.toList.take 4 := ⟨_, rfl⟩
  have hcut4 : ∀ W, (Instr.sliceAt 9 (.string s) none (some (.int .i64 4)) none).run Try.prog W = .ok (.string ⟨T4.toArray⟩) W := fun W => by rw [hT4]; exact cut_first s 4 (by omega) W
  rw [hL] at hT4
  have HT4 := Lib.hid hT4
  have d1 : ((s[1].toNat : Int) == 100) = false := by simpa using hq1
  have d2 : ((s[1].toNat : Int) == 122) = false := by simpa using hq2
  obtain ⟨M1, m1, m2, hMn, hMw, hMe⟩ := wait_n hw
  have HMN := Lib.hid hMn
  have HMW := Lib.hid hMw
  have HME := Lib.hid hMe
  have q2 : (2 : Int) ≤ (s.size : Int) := by omega
  have q4 : (4 : Int) ≤ (s.size : Int) := by omega
  clear hw hT2 hT4 hq1 hq2 hMn hMw hMe
  clear e0 et hL hLs
  go_enter Try.func26, Try.ntmps26
  go_wp2_with fail
  rw [← hw1]
  clear hw1
  go_loopw [4] (fun i wr => ∃ k : Nat, 1 ≤ k ∧ k ≤ M1 ∧ i = .int .i64 k ∧ Below w1.heap.size w1 wr) (fun i _ => 100 - (intOf i).toNat)
  case atStart => exact ⟨1, by omega, m1, rfl, Below.refl _ _⟩
  case round =>
    obtain ⟨k, k1, hk, rfl, hB⟩ := hrel
    rename World => wo
    by_cases hk2 : k < 100
    · have HP := Lib.hid (rpad_two k (by omega))
      have hlw : (two k).length = 2 := rfl
      have q1 : (k : Int) < 100 := by omega
      by_cases hN : k < M1
      · have nw : (T4 == 92 :: 119 :: two k) = false := by
          rw [beq_eq_false_iff_ne]
          exact fun e => HMN.out k k1 hN ⟨by rw [HLS.out]; omega, by rw [← HT4.out]; exact e⟩
        have nw2 : (T4 == ((⟨#[92, 119]⟩ : ByteArray) ++ ⟨(two k).toArray⟩).toList) = false := by rw [cat_list [92, 119]]; exact nw
        go_wp2_with fail
        go_quiet ((go_at_call 43; exact Calls.quiet_of_same (HP.out _)))
        go_wp2_with fail
        go_roundw
        case rel => exact ⟨k + 1, by omega, by omega, by go_num, below_drew hB⟩
        case measure => simp [intOf]; omega
      · have hkN : k = M1 := by omega
        subst hkN
        obtain ⟨hy, he⟩ := HMW.out hk2
        have nw : (T4 == 92 :: 119 :: two k) = true := by rw [beq_iff_eq, HT4.out]; exact hy.2
        have nw2 : (T4 == ((⟨#[92, 119]⟩ : ByteArray) ++ ⟨(two k).toArray⟩).toList) = true := by rw [cat_list [92, 119]]; exact nw
        have HE := Lib.hid he
        have hr := row_kept HW1.out hB
        obtain ⟨c0, c1, c2⟩ := row3 hr
        obtain ⟨f0, f1, f2⟩ := frz3 hr
        have hlg := at_lt hr
        clear hr hy he
        go_wp2_with fail
        go_quiet ((go_at_call 43; exact Calls.quiet_of_same (HP.out _)))
        go_wp2_with fail
        refine bodyPost_ret (v := .tuple #[.agg #[.int .i64 2, .string ⟨#[]⟩, .int .i64 k], .int .i64 4]) ?_ rfl ⟨by rw [HL.out, HE.out]; rfl, (((base_kept HW1.out (below_drew hB)).setCell (p := ⟨_, _, _⟩) (Nat.le_refl _) _).setCell (p := ⟨_, _, _⟩) (Nat.le_refl _) _).setCell (p := ⟨_, _, _⟩) (Nat.le_refl _) _⟩
        simp [results, Try.results26, go_sem, *]
    · have hkN : k = M1 := by omega
      subst hkN
      have hk100 : k = 100 := by omega
      have hW := HME.out hk100
      subst hk100
      have B1 := Lib.hid hB
      clear hB
      go_wp2_with fail
      obtain ⟨N, hN0, hNn, hNe, hNm⟩ := ways_n hW
      have HN := Lib.hid hNn
      have HEND := Lib.hid hNe
      have HM := Lib.hid hNm
      clear hNn hNe hNm hW
      go_loopw [5] (fun i wr => ∃ k : Nat, k ≤ N ∧ i = .int .i64 k ∧ Below w1.heap.size w1 wr) (fun i _ => 256 - (intOf i).toNat)
      case atStart => exact ⟨0, Nat.zero_le _, rfl, B1.out⟩
      case round =>
        obtain ⟨k, hk, rfl, hB⟩ := hrel
        have HB := Lib.hid hB
        have hbs := hB.size
        have hbw : w1.heap.size ≤ wr.heap.size := hbs
        by_cases hk2 : k < 256
        · have kw : IntKind.u8.wrap (k : Int) = (k : Int) := IntWalk.u8_in _ (by omega)
          have q1 : (k : Int) < 256 := by omega
          have hcv := fun (W : World) => run_byte_string W (k : Int) 86 9 5 Try.underlying86 Try.underlying5 Try.underlying9
          have HX := Lib.hid (rhex_one k hk2)
          have HS := Lib.hid (rshow_one k hk2)
          have hl4 := (sgn_len k).2
          have hlx : (hexS k).length = 2 := rfl
          clear hB
          by_cases hN : k < N
          · obtain ⟨na, nb⟩ := HN.out k hN
            have n4 : (T4 == 92 :: 120 :: hexS k) = false := by
              rw [beq_eq_false_iff_ne]
              exact fun e => na ⟨by rw [HLS.out]; omega, by rw [← HT4.out]; exact e⟩
            have n4' : (T4 == ((⟨#[92, 120]⟩ : ByteArray) ++ ⟨(hexS k).toArray⟩).toList) = false := by rw [cat_list [92, 120]]; exact n4
            by_cases hl : (sgn k).length = 2
            · have nl : (T2 == sgn k) = false := by
                rw [beq_eq_false_iff_ne]
                exact fun e => nb ⟨hl, by rw [HLS.out]; omega, by rw [← HT2.out]; exact e⟩
              have b2 : (((sgn k).length : Int) == 2) = true := by simp [hl]
              clear na nb
              go_wp2_with (first
                | (go_at_call 44; refine (HX.out _).mono ?_; rintro e w5 ⟨rfl, rfl⟩)
                | (go_at_call 45; refine (HS.out _).mono ?_; rintro e w6 ⟨rfl, hb6⟩))
              go_roundw
              case rel => exact ⟨k + 1, by omega, by go_num, (HB.out.alloc hbs _).trans (hb6.mono (by simp; omega))⟩
              case measure => simp [intOf]; omega
            · have b2 : (((sgn k).length : Int) == 2) = false := by simp; omega
              clear na nb
              go_wp2_with (first
                | (go_at_call 44; refine (HX.out _).mono ?_; rintro e w5 ⟨rfl, rfl⟩)
                | (go_at_call 45; refine (HS.out _).mono ?_; rintro e w6 ⟨rfl, hb6⟩))
              go_roundw
              case rel => exact ⟨k + 1, by omega, by go_num, (HB.out.alloc hbs _).trans (hb6.mono (by simp; omega))⟩
              case measure => simp [intOf]; omega
          · obtain rfl : k = N := by omega
            rcases HM.out hk2 with ⟨h, he⟩ | ⟨ha, hb, he⟩
            · have n4 : (T4 == 92 :: 120 :: hexS k) = true := by rw [beq_iff_eq, HT4.out]; exact h.2
              have n4' : (T4 == ((⟨#[92, 120]⟩ : ByteArray) ++ ⟨(hexS k).toArray⟩).toList) = true := by rw [cat_list [92, 120]]; exact n4
              have HE := Lib.hid he
              clear he h
              go_wp2_with (first
                | (go_at_call 44; refine (HX.out _).mono ?_; rintro e w5 ⟨rfl, rfl⟩)
                | (go_at_call 45; refine (HS.out _).mono ?_; rintro e w6 ⟨rfl, hb6⟩; have HB6 := Lib.hid ((HB.out.alloc hbs _).trans (hb6.mono (by simp; omega))); obtain ⟨c0, c1, c2⟩ := row3 (row_kept HW1.out HB6.out); obtain ⟨f0, f1, f2⟩ := frz3 (row_kept HW1.out HB6.out); have hlg := at_lt (row_kept HW1.out HB6.out)))
              refine bodyPost_ret (v := .tuple #[.agg #[.int .i64 1, .string ⟨#[(k : Int).toNat.toUInt8]⟩, .int .i64 0], .int .i64 4]) ?_ rfl ⟨by rw [HL.out, HE.out]; rfl, (((base_kept HW1.out HB6.out).setCell (p := ⟨_, _, _⟩) (Nat.le_refl _) _).setCell (p := ⟨_, _, _⟩) (Nat.le_refl _) _).setCell (p := ⟨_, _, _⟩) (Nat.le_refl _) _⟩
              simp [results, Try.results26, go_sem, *]
            · have n4 : (T4 == 92 :: 120 :: hexS k) = false := by
                rw [beq_eq_false_iff_ne]
                exact fun e => ha ⟨by rw [HLS.out]; omega, by rw [← HT4.out]; exact e⟩
              have n4' : (T4 == ((⟨#[92, 120]⟩ : ByteArray) ++ ⟨(hexS k).toArray⟩).toList) = false := by rw [cat_list [92, 120]]; exact n4
              have nl : (T2 == sgn k) = true := by rw [beq_iff_eq, HT2.out]; exact hb.2.2
              have b2 : (((sgn k).length : Int) == 2) = true := by simp [hb.1]
              have HE := Lib.hid he
              clear he ha hb
              go_wp2_with (first
                | (go_at_call 44; refine (HX.out _).mono ?_; rintro e w5 ⟨rfl, rfl⟩)
                | (go_at_call 45; refine (HS.out _).mono ?_; rintro e w6 ⟨rfl, hb6⟩; have HB6 := Lib.hid ((HB.out.alloc hbs _).trans (hb6.mono (by simp; omega))); obtain ⟨c0, c1, c2⟩ := row3 (row_kept HW1.out HB6.out); obtain ⟨f0, f1, f2⟩ := frz3 (row_kept HW1.out HB6.out); have hlg := at_lt (row_kept HW1.out HB6.out)))
              refine bodyPost_ret (v := .tuple #[.agg #[.int .i64 1, .string ⟨#[(k : Int).toNat.toUInt8]⟩, .int .i64 0], .int .i64 2]) ?_ rfl ⟨by rw [HL.out, HE.out]; rfl, (((base_kept HW1.out HB6.out).setCell (p := ⟨_, _, _⟩) (Nat.le_refl _) _).setCell (p := ⟨_, _, _⟩) (Nat.le_refl _) _).setCell (p := ⟨_, _, _⟩) (Nat.le_refl _) _⟩
              simp [results, Try.results26, go_sem, *]
        · obtain rfl : N = 256 := by omega
          obtain rfl : k = 256 := by omega
          have HE := Lib.hid (HEND.out rfl)
          have hr := row_kept HW1.out hB
          obtain ⟨c0, c1, c2⟩ := row3 hr
          obtain ⟨f0, f1, f2⟩ := frz3 hr
          have hlg := at_lt hr
          clear hr hB
          go_wp2_with fail
          refine bodyPost_ret (v := .tuple #[.agg #[.int .i64 0, .string ⟨#[]⟩, .int .i64 0], .int .i64 0]) ?_ rfl ⟨by rw [HL.out, HE.out]; rfl, (((base_kept HW1.out HB.out).setCell (p := ⟨_, _, _⟩) (Nat.le_refl _) _).setCell (p := ⟨_, _, _⟩) (Nat.le_refl _) _).setCell (p := ⟨_, _, _⟩) (Nat.le_refl _) _⟩
          simp [results, Try.results26, go_sem, *]
theorem rone_calls (s : ByteArray) (h1 : 0 < s.size) (w : World) :
    Calls Try.prog 26 #[.string s] w fun e w' => e = ropE (one s.data.toList) ∧ Below w.heap.size w w' := by
  by_cases h0 : (s[0].toNat : Int) = 92
  · by_cases h2 : 2 ≤ s.size
    · by_cases hq1 : (s[1].toNat : Int) = 100
      · exact rone_quick s h2 h0 (.inl hq1) w
      by_cases hq2 : (s[1].toNat : Int) = 122
      · exact rone_quick s h2 h0 (.inr hq2) w
      by_cases h4 : 4 ≤ s.size
      · exact rone_long s h2 h4 h0 hq1 hq2 w
      · exact rone_mid s h2 (by omega) h0 hq1 hq2 w
    · exact rone_short s (by omega) h0 w
  · exact rone_plain s h1 h0 w
end Go.Proofs.Ytnkhdpenmekhdaa.Brk
end

section
namespace Go.Proofs.Ytnkhdpenmekhdaa.Brk
open Go.RowKit Go.Proofs.Ytnkhdpenmekhdaa.Digit Go.Proofs.Ytnkhdpenmekhdaa.Own

theorem st_k {x : Op} (h : St x) : x.k = 1 ∨ x.k = 2 ∨ x.k = 3 := by
  rcases h with ⟨c, rfl⟩ | ⟨n, _, _, rfl⟩ | rfl
  · exact .inl rfl
  · exact .inr (.inl rfl)
  · exact .inr (.inr rfl)
/-- the row of ops as it stands behind one more -/
theorem mine_glue {w : World} {B g c n : Nat} {L : List Op} {y x : Op} (h : w.ownsRow B 64 3 (.slice (some ⟨g, 0, none⟩) n c) n (ov (L ++ [y]))) (hn : n = (L ++ [y]).length) (hk : y.k = x.k) :
    Mine (((w.setCell ⟨g, L.length * 3, none⟩ (.int .i64 x.k)).setCell ⟨g, L.length * 3 + 1, none⟩ (.string ⟨(y.s ++ x.s).toArray⟩)).setCell ⟨g, L.length * 3 + 2, none⟩ (.int .i64 (y.n + x.n))) B (.slice (some ⟨g, 0, none⟩) n c) (L ++ [glue y x]) := by
  have s0 := (World.ownsRow.stored h (L.length * 3) (.int .i64 x.k)).1
  rw [ov_set0 L y x.k] at s0
  have s1 := (World.ownsRow.stored s0 (L.length * 3 + 1) (.string ⟨(y.s ++ x.s).toArray⟩)).1
  rw [ov_set1 L ⟨x.k, y.s, y.n⟩ (y.s ++ x.s)] at s1
  have s2 := (World.ownsRow.stored s1 (L.length * 3 + 2) (.int .i64 (y.n + x.n))).1
  rw [ov_set2 L ⟨x.k, y.s ++ x.s, y.n⟩ (y.n + x.n)] at s2
  unfold Mine
  rw [show (L ++ [glue y x]).length = n by rw [hn]; simp]
  rw [show glue y x = ⟨x.k, y.s ++ x.s, y.n + x.n⟩ by rw [glue, hk]]
  exact s2

theorem own_len {w : World} {B n : Nat} {v : Value} {M : List Op} (h : Mine w B v M) (hn : n = M.length) : w.ownsRow B 64 3 v n (ov M) := by rw [hn]; exact h
theorem own_at {w : World} {B g c n q : Nat} {L : List Op} {y : Op} (h : w.ownsRow B 64 3 (.slice (some ⟨g, 0, none⟩) n c) n (ov (L ++ [y]))) (hq : L.length = q) (hn : n = q + 1) :
    w.cell? ⟨g, q * 3, none⟩ = some (.int .i64 y.k) ∧ w.cell? ⟨g, q * 3 + 1, none⟩ = some (.string ⟨y.s.toArray⟩) ∧ w.cell? ⟨g, q * 3 + 2, none⟩ = some (.int .i64 y.n) ∧
      w.frozen? ⟨g, q * 3, none⟩ = false ∧ w.frozen? ⟨g, q * 3 + 1, none⟩ = false ∧ w.frozen? ⟨g, q * 3 + 2, none⟩ = false := by
  obtain ⟨e0, e1, e2⟩ := ov_last L y
  rw [hq] at e0 e1 e2
  exact ⟨(World.ownsRow.cellAt h _ (by omega)).trans e0, (World.ownsRow.cellAt h _ (by omega)).trans e1, (World.ownsRow.cellAt h _ (by omega)).trans e2,
    World.ownsRow.frozenAt h _, World.ownsRow.frozenAt h _, World.ownsRow.frozenAt h _⟩
theorem RdAt.drew {S : List UInt8} {w wr : World} {acc : List Op} {m : List UInt8} {c : Nat} {v : Value} (h : RdAt S w wr acc m c v) : RdAt S w wr.drew acc m c v :=
  ⟨h.own, h.below.drew, h.bd, h.len, h.fit, h.left⟩

set_option maxRecDepth 100000 in
set_option maxHeartbeats 8000000 in
theorem rread_calls (s : List UInt8) (hs : s.length ≤ 1099511627776) (w : World) :
    Calls Try.prog 7 #[.string ⟨s.toArray⟩] w (RPost s w) := by
  obtain ⟨i0, hi, hz0, hz1, hz2⟩ := info_parts info_op
  by_cases hbig : 255 < s.length
  · obtain ⟨e1, e2⟩ := r_big hbig
    have H := Lib.hid (And.intro e1 e2)
    have q : (255 : Int) < (s.length : Int) := by omega
    clear e1 e2 hbig
    go_enter Try.func7, Try.ntmps7
    go_wp2_with fail
    go_ret2
    exact ⟨_, by rw [H.out.1]; rfl, by rw [H.out.2]; exact mine_nil _ _, Below.refl _ _⟩
  · have q : ¬ (255 : Int) < (s.length : Int) := by omega
    have hs2 : s.length ≤ 255 := by omega
    clear hbig
    go_enter Try.func7, Try.ntmps7
    go_wp2_with fail
    go_loopw [0, 4] (fun s' v wr => ∃ (m : List UInt8) (acc : List Op) (c : Nat), s' = .string ⟨m.toArray⟩ ∧ RdAt s w wr acc m c v) (fun s' _ _ => lenOf s')
    case atStart => exact ⟨s, [], 0, rfl, mine_nil _ _, Below.refl _ _, Bd.nil, by omega, hs2, rfl⟩
    case round =>
      obtain ⟨m, acc, c, rfl, C⟩ := hrel
      by_cases h0 : m = []
      · subst h0
        have HC := Lib.hid C
        clear C
        go_wp2_with fail
        go_ret2
        exact HC.out.done
      · have hem : m.isEmpty = false := by simpa using h0
        have hpos : 0 < m.length := List.length_pos_iff.2 h0
        have hml : m.length ≤ 255 := by have := C.len; have := C.fit; omega
        have hz : (⟨m.toArray⟩ : ByteArray).size = m.length := List.size_toArray ..
        have HF := Lib.hid (rone_calls ⟨m.toArray⟩ (by omega))
        rw [show (⟨m.toArray⟩ : ByteArray).data.toList = m from rfl] at HF
        have HM := Lib.hid h0
        have HC := Lib.hid C
        have hbs := C.below.size
        clear hz h0 C
        obtain ⟨r, hr⟩ : ∃ r, one m = r := ⟨_, rfl⟩
        rw [hr] at HF
        obtain ⟨x, k⟩ := r
        have HR := Lib.hid hr
        unfold ropE at HF
        simp only at HF
        clear hr
        by_cases hk : k = 0
        · subst hk
          go_wp2_with (go_at_call 26; refine (HF.out _).mono ?_; rintro e w5 ⟨rfl, hb⟩)
          go_ret2
          exact HC.out.bad HM.out (by rw [HR.out]) ((HC.out.below.trans (hb.mono hbs)).alloc (Nat.le_trans hbs hb.size) _)
        · obtain ⟨s1, s2, s3⟩ := one_yes (l := m) (by rw [HR.out]; exact hk)
          rw [HR.out] at s1 s2 s3
          simp only at s1 s2 s3
          have hk0 : ((k : Int) == 0) = false := by simpa using hk
          have hcut := cut_drop m k s3
          have hxk := st_k s1
          have HS := Lib.hid s1
          have HK := Lib.hid hk
          clear s1 hk
          obtain ⟨xk, xs, xn⟩ := x
          simp only at hxk
          rcases snoc_cases acc with rfl | ⟨L, y, rfl⟩
          · obtain ⟨p, pc, hpv, hpc, hpm⟩ := mine_form HC.out.own
            rw [show ([] : List Op).length = 0 from rfl] at hpv hpc
            subst hpv
            unfold maxLen at hpm
            have OWN := Lib.hid HC.out.own
            go_wp2_with fail
            refine (HF.out _).mono ?_
            rintro e w5 ⟨rfl, hb5⟩
            have hn0 := at_new w5 (.cells #[.int .i64 xk, .string ⟨xs.toArray⟩, .int .i64 xn] 64 (0, 0))
            have HOW := Lib.hid (World.ownsRow.alloc (own_below OWN.out hb5) (.cells #[.int .i64 xk, .string ⟨xs.toArray⟩, .int .i64 xn] 64 (0, 0)))
            have HWR := Lib.hid ((hb5.mono hbs).alloc (Nat.le_trans hbs hb5.size) (.cells #[.int .i64 xk, .string ⟨xs.toArray⟩, .int .i64 xn] 64 (0, 0)))
            have hs5 := hb5.size
            clear hb5
            go_wp2_with fail
            generalize w5.alloc (.cells #[.int .i64 xk, .string ⟨xs.toArray⟩, .int .i64 xn] 64 (0, 0)) = W at *
            generalize w5.heap.size = b at *
            obtain ⟨d0, d1, d2⟩ := row3 hn0
            have lb := at_lt hn0
            have HN0 := Lib.hid hn0
            have hsW := HWR.out.size
            have hBW : w.heap.size ≤ W.heap.size := by omega
            clear hn0
            go_quiet (fail)
            have HOQ := Lib.hid (show (W.drewN nq).ownsRow w.heap.size 64 3 (.slice p 0 pc) 0 (ov []) from HOW.out)
            have HWQ := Lib.hid (show Below w.heap.size wr (W.drewN nq) from below_drew HWR.out)
            have hQ : w.heap.size ≤ (W.drewN nq).heap.size := hBW
            have hd : (W.drewN nq).heap[b]? = some (.cells #[.int .i64 xk, .string ⟨xs.toArray⟩, .int .i64 xn] 64 (0, 0)) := HN0.out
            clear d0 d1 d2 lb HOW HWR HN0 hBW hsW
            generalize W.drewN nq = Q at HOQ HWQ hQ hd ⊢
            obtain ⟨d0, d1, d2⟩ := row3 hd
            have lb := at_lt hd
            clear hd
            go_wp2_with (at_builtin; refine Own.append_any rfl (.tmp 65) (.tmp 67) 30 rfl w.heap.size 64 i0 _ 3 32 Try.underlying30 hi hz0 hz1 hz2 rfl (by decide) _ _ _ rfl (World.ownsRow.alloc HOQ.out _) _ 1 1 [.int .i64 xk, .string ⟨xs.toArray⟩, .int .i64 xn] rfl (fun h => nomatch h) rfl (Own.three_new _ _ _ _ _ _ (by simp)) (by simp [Value.oneCell']) (by unfold maxLen; omega) (by omega) (by simp; omega) ?_; intro v' w1 hown1 hgrow1)
            have M1 := mine_more (x := ⟨xk, xs, xn⟩) hown1 rfl
            have C1 := Lib.hid (HC.out.step (by rw [HR.out]; exact HK.out) (v' := v') (w5 := w1) (by rw [HR.out]; rw [bhd_nil]; exact M1) ((HWQ.out.alloc hQ _).grown hgrow1 (by simp; omega) (fun k hk => (World.ownsRow.lt HOQ.out k hk).1)))
            rw [HR.out] at C1
            clear M1 hown1 hgrow1
            go_wp2_with fail
            go_roundw
            case rel => exact ⟨_, _, _, rfl, C1.out⟩
            case measure => show (m.drop k).toArray.size < m.toArray.size; rw [List.size_toArray, List.size_toArray, List.length_drop]; omega
          · have hbd := bd_each HC.out.bd (by have := HC.out.len; have := HC.out.fit; omega) y (by simp)
            have hLl : L.length ≤ 255 := by have h9 := HC.out.bd.len; have := HC.out.len; have := HC.out.fit; rw [List.length_append, List.length_singleton] at h9; omega
            obtain ⟨g, pc, hpv, hgB, hgl, hpc, hpm, a0, a1, a2, -, -, -⟩ := mine_last HC.out.own
            obtain ⟨q0, hmm⟩ : ∃ q0, L.length = q0 := ⟨_, rfl⟩
            rw [hmm] at hLl hpc a0 a1 a2 hpv
            obtain ⟨n, hnn⟩ : ∃ n, n = q0 + 1 := ⟨_, rfl⟩
            rw [← hnn] at hpc hpv
            subst hpv
            unfold maxLen at hpm
            have u1 : q0 < n := by omega
            have u2 : n ≤ 256 := by omega
            have u3 : ((n : Int) - 1) = (q0 : Int) := by omega
            have u4 : decide ((0 : Int) ≤ (q0 : Int)) = true := decide_eq_true (by omega)
            have u5 : (0 : Int) ≤ (q0 : Int) := by omega
            have HLN := Lib.hid (show n = (L ++ [y]).length by rw [List.length_append, List.length_singleton]; omega)
            have HLQ := Lib.hid hmm
            obtain ⟨yk, ys, yn⟩ := y
            simp only at a0 a1 a2 hbd
            obtain ⟨hys, hyn0, hyn1⟩ := hbd
            have hxs := HS.out.cst
            have hxp := HS.out.ok.pos
            simp only at hxs hxp
            clear hmm hnn
            have OWN := Lib.hid (own_len HC.out.own HLN.out)
            go_wp2_with fail
            refine (HF.out _).mono ?_
            rintro e w5 ⟨rfl, hb5⟩
            have hn0 := at_new w5 (.cells #[.int .i64 xk, .string ⟨xs.toArray⟩, .int .i64 xn] 64 (0, 0))
            have HOW := Lib.hid (World.ownsRow.alloc (own_below OWN.out hb5) (.cells #[.int .i64 xk, .string ⟨xs.toArray⟩, .int .i64 xn] 64 (0, 0)))
            have HWR := Lib.hid ((hb5.mono hbs).alloc (Nat.le_trans hbs hb5.size) (.cells #[.int .i64 xk, .string ⟨xs.toArray⟩, .int .i64 xn] 64 (0, 0)))
            have hs5 := hb5.size
            clear hb5
            go_wp2_with fail
            generalize w5.alloc (.cells #[.int .i64 xk, .string ⟨xs.toArray⟩, .int .i64 xn] 64 (0, 0)) = W at *
            generalize w5.heap.size = b at *
            obtain ⟨d0, d1, d2⟩ := row3 hn0
            have lb := at_lt hn0
            have HN0 := Lib.hid hn0
            have hsW := HWR.out.size
            have hBW : w.heap.size ≤ W.heap.size := by omega
            clear hn0
            obtain ⟨c0, c1, c2, f0, f1, f2⟩ := own_at HOW.out HLQ.out (by rw [HLN.out, List.length_append, List.length_singleton, HLQ.out])
            clear a0 a1 a2
            by_cases h3 : xk = 3
            · have v1 : decide (xk < 3) = false := decide_eq_false (by omega)
              have v2 : ¬ xk < 3 := by omega
              have HI := Lib.hid (show isOne ⟨yk, ys, yn⟩ ⟨xk, xs, xn⟩ = false by simp only [isOne]; rw [h3]; by_cases e : yk = 3 <;> simp [e])
              clear h3 hxk
              go_quiet (fail)
              have HOQ := Lib.hid (show (W.drewN nq).ownsRow w.heap.size 64 3 (.slice (some ⟨g, 0, none⟩) n pc) n (ov (L ++ [⟨yk, ys, yn⟩])) from HOW.out)
              have HWQ := Lib.hid (show Below w.heap.size wr (W.drewN nq) from below_drew HWR.out)
              have hQ : w.heap.size ≤ (W.drewN nq).heap.size := hBW
              have hd : (W.drewN nq).heap[b]? = some (.cells #[.int .i64 xk, .string ⟨xs.toArray⟩, .int .i64 xn] 64 (0, 0)) := HN0.out
              clear d0 d1 d2 lb HOW HWR HN0 hBW hsW c0 c1 c2 f0 f1 f2
              generalize W.drewN nq = Q at HOQ HWQ hQ hd ⊢
              obtain ⟨d0, d1, d2⟩ := row3 hd
              have lb := at_lt hd
              clear hd
              go_wp2_with (at_builtin; refine Own.append_any rfl (.tmp 65) (.tmp 67) 30 rfl w.heap.size 64 i0 _ 3 32 Try.underlying30 hi hz0 hz1 hz2 rfl (by decide) _ _ _ rfl (World.ownsRow.alloc HOQ.out _) _ 1 1 [.int .i64 xk, .string ⟨xs.toArray⟩, .int .i64 xn] rfl (fun h => nomatch h) rfl (Own.three_new _ _ _ _ _ _ (by simp)) (by simp [Value.oneCell']) (by unfold maxLen; omega) (by omega) (by simp; omega) ?_; intro v' w1 hown1 hgrow1)
              have M1 := mine_more (x := ⟨xk, xs, xn⟩) hown1 HLN.out
              have C1 := Lib.hid (HC.out.step (by rw [HR.out]; exact HK.out) (v' := v') (w5 := w1) (by rw [HR.out]; rw [bhd_two HI.out]; exact M1) ((HWQ.out.alloc hQ _).grown hgrow1 (by simp; omega) (fun k hk => (World.ownsRow.lt HOQ.out k hk).1)))
              rw [HR.out] at C1
              clear M1 hown1 hgrow1
              go_wp2_with fail
              go_roundw
              case rel => exact ⟨_, _, _, rfl, C1.out⟩
              case measure => show (m.drop k).toArray.size < m.toArray.size; rw [List.size_toArray, List.size_toArray, List.length_drop]; omega
            · have v1 : decide (xk < 3) = true := decide_eq_true (by omega)
              have v2 : xk < 3 := by omega
              by_cases he : yk = xk
              · have v3 : (yk == xk) = true := by simpa using he
                have HI := Lib.hid (show isOne ⟨yk, ys, yn⟩ ⟨xk, xs, xn⟩ = true by simp only [isOne]; simp [he, h3])
                have HE := Lib.hid he
                clear h3 hxk he
                go_quiet (fail)
                have HOQ := Lib.hid (show (W.drewN nq).ownsRow w.heap.size 64 3 (.slice (some ⟨g, 0, none⟩) n pc) n (ov (L ++ [⟨yk, ys, yn⟩])) from HOW.out)
                have HWQ := Lib.hid (show Below w.heap.size wr (W.drewN nq) from below_drew HWR.out)
                have hd : (W.drewN nq).heap[b]? = some (.cells #[.int .i64 xk, .string ⟨xs.toArray⟩, .int .i64 xn] 64 (0, 0)) := HN0.out
                clear d0 d1 d2 lb HOW HWR HN0 hBW hsW c0 c1 c2 f0 f1 f2
                generalize W.drewN nq = Q at HOQ HWQ hd ⊢
                obtain ⟨d0, d1, d2⟩ := row3 hd
                have lb := at_lt hd
                obtain ⟨c0, c1, c2, f0, f1, f2⟩ := own_at HOQ.out HLQ.out (by rw [HLN.out, List.length_append, List.length_singleton, HLQ.out])
                have hgQ := World.block_lt_of_cell? _ _ c0
                clear hd
                have hyx : ys.length + xs.length ≤ 1000 := by omega
                go_wp2_with fail
                go_region
                go_wp2_with fail
                have M1 := mine_glue (x := ⟨xk, xs, xn⟩) HOQ.out HLN.out HE.out
                rw [HLQ.out] at M1
                have C1 := Lib.hid (HC.out.step (by rw [HR.out]; exact HK.out) (by rw [HR.out]; rw [bhd_one HI.out]; exact M1) (((HWQ.out.setCell (p := ⟨_, _, _⟩) hgB _).setCell (p := ⟨_, _, _⟩) hgB _).setCell (p := ⟨_, _, _⟩) hgB _))
                rw [HR.out] at C1
                clear M1
                go_roundw
                case rel => exact ⟨_, _, _, rfl, by rw [bytes_add]; exact C1.out.drew⟩
                case measure => show (m.drop k).toArray.size < m.toArray.size; rw [List.size_toArray, List.size_toArray, List.length_drop]; omega
              · have v3 : (yk == xk) = false := by simpa using he
                have HI := Lib.hid (show isOne ⟨yk, ys, yn⟩ ⟨xk, xs, xn⟩ = false by simp only [isOne]; simp [he])
                clear h3 hxk he
                go_quiet (fail)
                have HOQ := Lib.hid (show (W.drewN nq).ownsRow w.heap.size 64 3 (.slice (some ⟨g, 0, none⟩) n pc) n (ov (L ++ [⟨yk, ys, yn⟩])) from HOW.out)
                have HWQ := Lib.hid (show Below w.heap.size wr (W.drewN nq) from below_drew HWR.out)
                have hQ : w.heap.size ≤ (W.drewN nq).heap.size := hBW
                have hd : (W.drewN nq).heap[b]? = some (.cells #[.int .i64 xk, .string ⟨xs.toArray⟩, .int .i64 xn] 64 (0, 0)) := HN0.out
                clear d0 d1 d2 lb HOW HWR HN0 hBW hsW c0 c1 c2 f0 f1 f2
                generalize W.drewN nq = Q at HOQ HWQ hQ hd ⊢
                obtain ⟨d0, d1, d2⟩ := row3 hd
                have lb := at_lt hd
                clear hd
                go_wp2_with (at_builtin; refine Own.append_any rfl (.tmp 65) (.tmp 67) 30 rfl w.heap.size 64 i0 _ 3 32 Try.underlying30 hi hz0 hz1 hz2 rfl (by decide) _ _ _ rfl (World.ownsRow.alloc HOQ.out _) _ 1 1 [.int .i64 xk, .string ⟨xs.toArray⟩, .int .i64 xn] rfl (fun h => nomatch h) rfl (Own.three_new _ _ _ _ _ _ (by simp)) (by simp [Value.oneCell']) (by unfold maxLen; omega) (by omega) (by simp; omega) ?_; intro v' w1 hown1 hgrow1)
                have M1 := mine_more (x := ⟨xk, xs, xn⟩) hown1 HLN.out
                have C1 := Lib.hid (HC.out.step (by rw [HR.out]; exact HK.out) (v' := v') (w5 := w1) (by rw [HR.out]; rw [bhd_two HI.out]; exact M1) ((HWQ.out.alloc hQ _).grown hgrow1 (by simp; omega) (fun k hk => (World.ownsRow.lt HOQ.out k hk).1)))
                rw [HR.out] at C1
                clear M1 hown1 hgrow1
                go_wp2_with fail
                go_roundw
                case rel => exact ⟨_, _, _, rfl, C1.out⟩
                case measure => show (m.drop k).toArray.size < m.toArray.size; rw [List.size_toArray, List.size_toArray, List.length_drop]; omega
end Go.Proofs.Ytnkhdpenmekhdaa.Brk
end

section
namespace Go.Proofs.Ytnkhdpenmekhdaa.Brk
open Go.RowKit Go.Proofs.Ytnkhdpenmekhdaa.Digit Go.Proofs.Ytnkhdpenmekhdaa.Own

theorem cst_next {L : List Op} {k : Nat} (h : k < L.length) : cst (L.take (k + 1)) = cst (L.take k) + L[k].n := by
  rw [List.take_succ_eq_append_getElem h, cst_app, cst_one]
theorem byt_next {L : List Op} {k : Nat} (h : k < L.length) : byt (L.take (k + 1)) = byt (L.take k) ++ L[k].s := by
  rw [List.take_succ_eq_append_getElem h, byt_app, byt_one]
theorem cst_nonneg {L : List Op} (h : ∀ x ∈ L, Ok x) : 0 ≤ cst L := by
  induction L with
  | nil => simp [cst]
  | cons x l ih =>
    have := (h x (by simp)).pos
    have := ih fun y hy => h y (List.mem_cons_of_mem _ hy)
    simp only [cst]; omega
theorem cst_take {L : List Op} (h : ∀ x ∈ L, Ok x) (k : Nat) : 0 ≤ cst (L.take k) ∧ cst (L.take k) ≤ cst L := by
  have e := cst_app (L.take k) (L.drop k)
  rw [List.take_append_drop] at e
  have h1 := cst_nonneg (L := L.take k) fun x hx => h x (List.mem_of_mem_take hx)
  have h2 := cst_nonneg (L := L.drop k) fun x hx => h x (List.mem_of_mem_drop hx)
  omega
theorem byt_take (L : List Op) (k : Nat) : (byt (L.take k)).length ≤ (byt L).length := by
  have e := byt_app (L.take k) (L.drop k)
  rw [List.take_append_drop] at e
  rw [e, List.length_append]; omega
end Go.Proofs.Ytnkhdpenmekhdaa.Brk
end

section
namespace Go.Proofs.Ytnkhdpenmekhdaa.Brk
open Go.RowKit Go.Proofs.Ytnkhdpenmekhdaa.Digit Go.Proofs.Ytnkhdpenmekhdaa.Own

set_option maxRecDepth 100000 in
set_option maxHeartbeats 2000000 in
theorem rbytes_any (L : List Op) (p : Option Addr) (c n : Nat) (hn : L.length = n) (w : World) (h : Ops w L p c) (hb : (byt L).length ≤ 4611686018427387904) :
    Calls Try.prog 15 #[.slice p n c] w fun e w' => e = .returned (.string ⟨(byt L).toArray⟩) ∧ w' = w := by
  have hcap := h.cap
  have hmax := h.max
  unfold maxLen at hmax
  have q2 : (n : Int) ≤ 9223372036854775807 := by omega
  have HH := Lib.hid h
  have HN := Lib.hid hn
  clear h
  go_enter Try.func15, Try.ntmps15
  go_wp2_with fail
  go_loopw [3, 4] (fun t i wr => ∃ k : Nat, k ≤ n ∧ i = .int .i64 k ∧ t = .string ⟨(byt (L.take k)).toArray⟩ ∧ wr = w) (fun _ i _ => n - (intOf i).toNat)
  case atStart => exact ⟨0, Nat.zero_le _, rfl, rfl, rfl⟩
  case round =>
    obtain ⟨k, hkn, rfl, rfl, rfl⟩ := hrel
    rcases Nat.lt_or_eq_of_le hkn with hlt | rfl
    · have hkl : k < L.length := by omega
      rcases HH.out.cells with h0 | ⟨b, o, rfl, hbl, hc⟩
      · rw [h0] at hkl; simp at hkl
      · obtain ⟨c0, c1, c2⟩ := hc k hkl
        have q1 : (k : Int) < (n : Int) := by omega
        have HX := Lib.hid (byt_next hkl)
        have t1 := byt_take L (k + 1)
        rw [HX.out, List.length_append] at t1
        generalize L[k] = x at *
        generalize byt (L.take k) = t at *
        obtain ⟨xk, xs, xn⟩ := x
        simp only at c0 c1 c2 t1
        clear hc
        go_wp2_with fail
        go_roundw
        case rel => exact ⟨k + 1, by omega, by go_num, by rw [HX.out, ← bytes_add], trivial⟩
        case measure => simp [intOf]; omega
    · have HL := Lib.hid (show L.take k = L from List.take_of_length_le (by omega))
      go_wp2_with fail
      go_ret
      exact ⟨by rw [HL.out]; rfl, rfl⟩
theorem rbytes_calls (L : List Op) (p : Option Addr) (c n : Nat) (hn : L.length = n) (w : World) (h : Ops w L p c) (hb : (byt L).length ≤ 1099511627776) :
    Calls Try.prog 15 #[.slice p n c] w fun e w' => e = .returned (.string ⟨(byt L).toArray⟩) ∧ w' = w := rbytes_any L p c n hn w h (by omega)
end Go.Proofs.Ytnkhdpenmekhdaa.Brk
end

section
namespace Go.Proofs.Ytnkhdpenmekhdaa.Calc
open Go.RowKit

theorem ris_calls (n : Int) (w : World) :
    Calls Try.prog 50 #[.int .i64 n] w fun e w' => e = .returned (.bool (isT n)) ∧ w = w' := by
  by_cases h0 : 0 ≤ n
  · by_cases h1 : n ≤ 1099511627776
    · go_enter Try.func50, Try.ntmps50
      go_wp2
      go_ret
      exact ⟨ret_bool (by rw [isT_iff.2 ⟨h0, h1⟩]), rfl⟩
    · go_enter Try.func50, Try.ntmps50
      go_wp2
      go_ret
      exact ⟨ret_bool (by rw [isT_not.2 (by omega)]), rfl⟩
  · go_enter Try.func50, Try.ntmps50
    go_wp2
    go_ret
    exact ⟨ret_bool (by rw [isT_not.2 (by omega)]), rfl⟩

theorem rdbl_calls (base n most : Int) (w : World) :
    Calls Try.prog 34 #[.int .i64 base, .int .i64 n, .int .i64 most] w fun e w' => e = .returned (.tuple #[.int .i64 (dblV base n most), .int .i64 (dblC base n most)]) ∧ w = w' := by
  cases ha : isT base
  · have H : Hid (dblB base n most = false) := Lib.hid (by unfold dblB; rw [ha]; rfl)
    go_enter Try.func34, Try.ntmps34
    go_wp2_with (go_at_call 50; refine (ris_calls _ _).mono ?_; rintro e w' ⟨rfl, rfl⟩)
    go_ret2
    exact ⟨ret_two (by rw [dblV, H.out]; rfl) (by rw [dblC, H.out]; rfl), rfl⟩
  · cases hb : isT most
    · have H : Hid (dblB base n most = false) := Lib.hid (by unfold dblB; rw [ha, hb]; rfl)
      go_enter Try.func34, Try.ntmps34
      go_wp2_with (go_at_call 50; refine (ris_calls _ _).mono ?_; rintro e w' ⟨rfl, rfl⟩)
      go_ret2
      exact ⟨ret_two (by rw [dblV, H.out]; rfl) (by rw [dblC, H.out]; rfl), rfl⟩
    · by_cases hm : most < base
      · have H : Hid (dblB base n most = false) := Lib.hid (by unfold dblB; rw [ha, hb, decide_eq_false (by omega)]; rfl)
        go_enter Try.func34, Try.ntmps34
        go_wp2_with (go_at_call 50; refine (ris_calls _ _).mono ?_; rintro e w' ⟨rfl, rfl⟩)
        go_ret2
        exact ⟨ret_two (by rw [dblV, H.out]; rfl) (by rw [dblC, H.out]; rfl), rfl⟩
      · by_cases hn : n < 0
        · have H : Hid (dblB base n most = false) := Lib.hid (by unfold dblB; rw [decide_eq_false (p := 0 ≤ n) (by omega)]; simp)
          go_enter Try.func34, Try.ntmps34
          go_wp2_with (go_at_call 50; refine (ris_calls _ _).mono ?_; rintro e w' ⟨rfl, rfl⟩)
          go_ret2
          exact ⟨ret_two (by rw [dblV, H.out]; rfl) (by rw [dblC, H.out]; rfl), rfl⟩
        · obtain ⟨a0, a1⟩ := isT_iff.1 ha
          obtain ⟨b0, b1⟩ := isT_iff.1 hb
          have n0 : 0 ≤ n := by omega
          have H : Hid (dblB base n most = true) := Lib.hid (dblB_iff.2 ⟨ha, hb, by omega, n0⟩)
          have HC : Hid (dbl base (min n.toNat 64) most = dbl base n.toNat most) := Lib.hid (dbl_cap base most n a0 (by omega) b1)
          go_enter Try.func34, Try.ntmps34
          go_wp2_with (go_at_call 50; refine (ris_calls _ _).mono ?_; rintro e w' ⟨rfl, rfl⟩)
          go_loop [0, 8] (fun x i => ∃ k : Nat, k ≤ min n.toNat 64 ∧ i = .int .i64 k ∧ x = .int .i64 (dbl base k most)) (fun _ i => 64 - (intOf i).toNat)
          case atStart => exact ⟨0, by omega, rfl, by rw [show dbl base 0 most = base by unfold dbl; simp; omega]⟩
          case round =>
            obtain ⟨k, hk, rfl, rfl⟩ := hrel
            have hmo := dbl_mono base k most a0 (by omega)
            have HS : Hid (dbl base (k + 1) most = min (dbl base k most + dbl base k most) most) := Lib.hid (dbl_succ base k most a0 b0)
            by_cases hlt : (k : Int) < n
            · by_cases h64 : k < 64
              · by_cases hmin : dbl base k most + dbl base k most < most
                all_goals
                  go_wp2
                  go_round
                  case rel => exact ⟨k + 1, by omega, by go_num, by rw [HS.out] <;> go_num⟩
                  case measure => simp [intOf]; omega
              · go_wp2
                go_ret2
                exact ⟨ret_two (by rw [dblV, H.out, ← HC.out, show min n.toNat 64 = k by omega]; rfl) (by rw [dblC, H.out]; rfl), rfl⟩
            · go_wp2
              go_ret2
              exact ⟨ret_two (by rw [dblV, H.out, ← HC.out, show min n.toNat 64 = k by omega]; rfl) (by rw [dblC, H.out]; rfl), rfl⟩
end Go.Proofs.Ytnkhdpenmekhdaa.Calc
end

section
namespace Go.Proofs.Ytnkhdpenmekhdaa.Bkf
open Go.RowKit Go.Proofs.Ytnkhdpenmekhdaa.Own Go.Proofs.Ytnkhdpenmekhdaa.Rw Go.Proofs.Ytnkhdpenmekhdaa.Calc

theorem ret_int' {a b : Int} (h : a = b) : Ending.returned (.int .i64 a) = .returned (.int .i64 b) := by rw [h]
set_option maxHeartbeats 1000000 in
theorem rlow_calls (b c j : Int) (h : okR b c j) (n : Nat) (w : World) :
    Calls Try.prog 12 #[.int .i64 b, .int .i64 c, .int .i64 n] w fun e w' => e = .returned (.int .i64 (lowR b c n)) ∧ w = w' := by
  have HV := Lib.hid (low_val h n)
  clear h
  go_enter Try.func12, Try.ntmps12
  go_wp2_with fail
  refine (rdbl_calls b n c w).mono ?_
  rintro e w' ⟨rfl, rfl⟩
  rw [HV.out]
  go_wp2_with fail
  go_ret
  exact ⟨rfl, rfl⟩
end Go.Proofs.Ytnkhdpenmekhdaa.Bkf
end


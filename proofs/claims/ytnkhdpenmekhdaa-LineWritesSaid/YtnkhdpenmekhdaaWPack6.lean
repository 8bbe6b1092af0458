/-
Layer 19 (line) in plain Lean: a line that can't be opened, and one that can.
Layer 19 (line) in plain Lean: what is sent is written, once, in order.
Layer 2 (digit): the program's Put, walked.
Layer 2 (digit): the document's own answers, walked: padding.
Layer 2 (digit): the program's Pad, walked.
Layer 2 (digit): the program's Read, walked.
Layer 2 (digit): the document's own answers, walked: hex.
Layer 2 (digit): the document's own Sign and Show, walked.
Layer 2 (digit): the program's ReadHex, walked.
Layer 14 (brk): waitSign, readTicks, escaped, first.
Layer 14 (brk): kind, op, isOne, stepOf.
Layer 14 (brk): op; a step's text.
Layer 14 (brk): behind.
-/
import Derived.Test.YtnkhdpenmekhdaaWPack5
import Derived.ScopeJumps
import Derived.WalkMore
import Derived.Test.YtnkhdpenmekhdaaShelf
import Derived.Deep.RegionHeld3
import Derived.Deep.QuietTactic
import Derived.BigQuiet
section
namespace Go.Proofs.Ytnkhdpenmekhdaa.Lin
open Go.Proofs.Ytnkhdpenmekhdaa.Calc Go.Proofs.Ytnkhdpenmekhdaa.Run Go.Proofs.Ytnkhdpenmekhdaa.Bkf

def lnQ (b c j : Int) (F : List Op) (q : Nat) : Ln := ⟨b, c, j, F, 2, q, 0, [], 0, 0, []⟩
def lnW (b c j : Int) (F : List Op) (q : Nat) (a : Int) : Ln := ⟨b, c, j, F, 1, q, a, [], 0, 0, []⟩
section
variable {b c j : Int} {F : List Op} {q : Nat} {now a r : Int}
theorem q_fail (hn : bef now = true) (ha : atR b c j q now r = a) (hT : isT a = true) : openL (lnQ b c j F q) now false r = lnW b c j F (q + 1) a ∧ openO (lnQ b c j F q) now false = [] := by
  have hB : openB (lnQ b c j F q) now = true := by unfold openB; simp [lnQ, hn]
  subst ha
  refine ⟨?_, by unfold openO; rw [if_neg (by simp)]⟩
  unfold openL
  rw [if_pos hB, if_neg (by simp), failL_yes (x := lnQ b c j F q) (now := now) (r := r) hT]
  rfl
theorem w_next : nextV (lnW b c j F q a) = a ∧ nextI (lnW b c j F q a) = true := next_wait rfl
theorem w_early : tickL (lnW b c j F q a) (a - 1) = lnW b c j F q a ∧ tickO (lnW b c j F q a) (a - 1) = [] := by
  refine tick_no ?_
  unfold tickB
  rw [w_next.1, decide_eq_false (by omega)]
  simp
theorem w_tick (hn : bef a = true) : tickL (lnW b c j F q a) a = lnQ b c j F q ∧ tickO (lnW b c j F q a) a = [(1, [])] := by
  refine tick_wait ?_ rfl
  unfold tickB
  rw [w_next.1, w_next.2, hn]
  simp
/-- a line whose steps go on -/
def lnI (b c j : Int) (F : List Op) (D : List (Int × Op)) (E was : Int) : Ln := ⟨b, c, j, F, 3, 0, 0, D, E, was, []⟩
def lnU (b c j : Int) (F : List Op) : Ln := ⟨b, c, j, F, 4, 0, 0, [], 0, 0, []⟩
/-- up, or its steps go on -/
def lnX (b c j : Int) (F : List Op) (D : List (Int × Op)) (E was : Int) : Ln := if was < E then lnI b c j F D E was else lnU b c j F
theorem x_on {D : List (Int × Op)} {E was : Int} (h : was < E) : lnX b c j F D E was = lnI b c j F D E was := if_pos h
theorem x_off {D : List (Int × Op)} {E was : Int} (h : ¬ was < E) : lnX b c j F D E was = lnU b c j F := if_neg h
theorem go_x {D : List (Int × Op)} {E was : Int} (now : Int) : goL (lnI b c j F D E was) now = lnX b c j F D E now ∧ goO (lnI b c j F D E was) now = (told D was now).map oF := by
  by_cases h : now < E
  · rw [goL_on (x := lnI b c j F D E was) h, goO_on (x := lnI b c j F D E was) h, x_on h]
    exact ⟨rfl, rfl⟩
  · rw [goL_off (x := lnI b c j F D E was) h, goO_off (x := lnI b c j F D E was) h, x_off h]
    exact ⟨rfl, by show _ ++ [] = _; rw [List.append_nil]; rfl⟩
theorem q_open (hn : bef now = true) (hF : chk now F = 0) : openL (lnQ b c j F q) now true r = lnX b c j F (dues now F) (ends now F) now ∧ openO (lnQ b c j F q) now true = (told (dues now F) (now - 1) now).map oF := by
  have hB : openB (lnQ b c j F q) now = true := by unfold openB; simp [lnQ, hn]
  unfold openL openO
  rw [if_pos hB, if_pos rfl, if_pos ⟨hB, rfl⟩]
  show begL (zero (lnQ b c j F q)) 3 F now = _ ∧ begO (zero (lnQ b c j F q)) 3 F now = _
  rw [begL_yes hF, begO_yes hF]
  exact go_x (b := b) (c := c) (j := j) (F := F) (D := dues now F) (E := ends now F) (was := now - 1) now
theorem i_next {D : List (Int × Op)} {E was : Int} : nextV (lnI b c j F D E was) = nxV D E was ∧ nextI (lnI b c j F D E was) = true := next_go (x := lnI b c j F D E was) (.inl rfl)
theorem i_tick {D : List (Int × Op)} {E was : Int} (hn : bef (nxV D E was) = true) : tickL (lnI b c j F D E was) (nxV D E was) = lnX b c j F D E (nxV D E was) ∧ tickO (lnI b c j F D E was) (nxV D E was) = (told D was (nxV D E was)).map oF := by
  have hT : tickB (lnI b c j F D E was) (nxV D E was) = true := by
    unfold tickB
    rw [i_next.1, i_next.2, hn]
    simp
  have h := tick_go hT (.inl rfl)
  rw [h.1, h.2]
  exact go_x _
end
/-- what is next is no later than the end -/
theorem nx_le {D : List (Int × Op)} {E was : Int} (hP : Plan D E) (h : was < E) : nxV D E was ≤ E := by
  unfold nxV
  rw [if_pos h]
  split
  · exact Int.le_refl _
  · rename_i p r hr
    have : p ∈ rest D was := by rw [hr]; exact List.mem_cons_self
    unfold rest at this
    exact hP.last p (List.mem_filter.1 this).1
/-- each tick at which something is next leaves less, or ends -/
theorem nx_less {D : List (Int × Op)} {E was : Int} (h : was < E) (h2 : nxV D E was < E) : (rest D (nxV D E was)).length < (rest D was).length := by
  have hg := nx_gt (D := D) h
  have hne : rest D was ≠ [] := fun e => by
    rw [nx_none h e] at h2; omega
  obtain ⟨p, r, hr⟩ : ∃ p r, rest D was = p :: r := by
    cases hc : rest D was with
    | nil => exact absurd hc hne
    | cons p r => exact ⟨p, r, rfl⟩
  have hv : nxV D E was = p.1 := nx_some h hr
  rw [hv] at hg ⊢
  have hsub : rest D p.1 = (rest D was).filter fun q => decide (p.1 < q.1) := by
    unfold rest
    rw [List.filter_filter]
    refine List.filter_congr fun q _ => ?_
    by_cases hq : p.1 < q.1
    · have : was < q.1 := by omega
      simp [hq, this]
    · simp [hq]
  rw [hsub, hr, List.filter_cons, if_neg (by simp)]
  exact Nat.lt_succ_of_le (List.length_filter_le _ _)
theorem rest_len (D : List (Int × Op)) (was : Int) : (rest D was).length ≤ D.length := List.length_filter_le _ _
/-- all that was told by some time, as bytes -/
def sentB (D : List (Int × Op)) (a was : Int) : List UInt8 := wb ((told D a was).map oF)
theorem sentB_two {D : List (Int × Op)} {E a b c : Int} (hP : Plan D E) (hab : a ≤ b) (hbc : b ≤ c) : sentB D a b ++ wb ((told D b c).map oF) = sentB D a c := by
  unfold sentB
  rw [← wb_app, ← List.map_append, told_two hab hbc hP.sorted]
/-- what steps send -/
theorem wb_dues (F : List Op) (hF : ∀ x ∈ F, Is x) (a : Int) : wb (((dues a F).map (·.2)).map oF) = Brk.byt F := by
  rw [dues_steps]
  induction F with
  | nil => rfl
  | cons x r ih =>
    have hx := hF x (by simp)
    have hr := ih fun y hy => hF y (List.mem_cons_of_mem _ hy)
    rw [List.filter_cons]
    by_cases hk : x.k = 2
    · have hs : x.s = [] := by rcases hx with h | h | h <;> first | omega | exact h.2.1
      rw [if_neg (by simp [hk]), hr]
      simp [Brk.byt, hs]
    · rw [if_pos (by simp [hk]), List.map_cons]
      have e : wb1 (oF x) = x.s := by
        rcases hx with h | h | h
        · rw [oF_one h.1]; rfl
        · omega
        · rw [oF_no (by omega)]; show _ = x.s; rw [h.2.1]; rfl
      show wb1 (oF x) ++ wb _ = _
      rw [e, hr]
      simp [Brk.byt]
theorem go_is : ∀ (l : List Op) (a : Int), go a l = 0 → ∀ x ∈ l, Is x := by
  intro l
  induction l with
  | nil => intro a _ x hx; cases hx
  | cons y r ih =>
    intro a h x hx
    obtain ⟨h1, h2⟩ := go_inv h
    rcases List.mem_cons.1 hx with rfl | hx
    · exact (ov_inv h1).1
    · exact ih _ h2 x hx
theorem sent_all {F : List Op} {now was : Int} (hc : chk now F = 0) (hw : ends now F ≤ was) : sentB (dues now F) (now - 1) was = Brk.byt F := by
  obtain ⟨_, hg⟩ := chk_inv hc
  unfold sentB
  rw [told_all (fun p hp => by have := dues_range hg p hp; omega)]
  exact wb_dues F (go_is F now hg) now
/-- how long Init waits at most -/
theorem ends_cst (l : List Op) (a : Int) : ends a l = a + Brk.cst l := by
  induction l generalizing a with
  | nil => simp [ends, Brk.cst]
  | cons x r ih => rw [ends, ih]; simp only [Brk.cst]; omega
end Go.Proofs.Ytnkhdpenmekhdaa.Lin
end

section
namespace Go.Proofs.Ytnkhdpenmekhdaa.Lin
open Go.Proofs.Ytnkhdpenmekhdaa.Calc Go.Proofs.Ytnkhdpenmekhdaa.Run Go.Proofs.Ytnkhdpenmekhdaa.Bkf

/-- what is still to be sent -/
def remB (D : List (Int × Op)) (was : Int) : List UInt8 := wb (((rest D was).map (·.2)).map oF)
theorem told_rest {D : List (Int × Op)} (hs : D.Pairwise (fun p q => p.1 ≤ q.1)) {was t : Int} (h : was ≤ t) : told D was t ++ (rest D t).map (·.2) = (rest D was).map (·.2) := by
  rw [← take_told hs, ← drop_rest h hs, ← List.map_append, List.takeWhile_append_dropWhile]
theorem rem_two {D : List (Int × Op)} (hs : D.Pairwise (fun p q => p.1 ≤ q.1)) {was t : Int} (h : was ≤ t) : wb ((told D was t).map oF) ++ remB D t = remB D was := by
  unfold remB
  rw [← told_rest hs h, List.map_append, wb_app]
theorem rem_end {D : List (Int × Op)} {E t : Int} (hP : Plan D E) (h : E ≤ t) : remB D t = [] := by
  unfold remB
  rw [rest_none (fun p hp => by have := hP.last p hp; omega)]
  rfl
theorem rem_begin {ops : List Op} {now : Int} (hc : chk now ops = 0) : remB (dues now ops) (now - 1) = Brk.byt ops := by
  obtain ⟨_, hg⟩ := chk_inv hc
  unfold remB
  rw [rest_all (fun p hp => by have := dues_range hg p hp; omega)]
  exact wb_dues ops (go_is ops now hg) now

/-- a line that is up, of the law's console; one whose break sequence is done -/
def up1 : Ln := ⟨1, 1, 0, [], 4, 0, 0, [], 0, 0, []⟩
def brk1 (D : List (Int × Op)) (E was : Int) (H : List UInt8) : Ln := ⟨1, 1, 0, [], 5, 0, 0, D, E, was, H⟩
/-- what holds at the head of a round: the line, what is wanted, what waits, what came -/
inductive Inv (now : Int) : Ln → List UInt8 → List UInt8 → List UInt8 → Prop
  | up (g : List UInt8) : Inv now up1 g [] g
  | brk (D : List (Int × Op)) (E was : Int) (H W G : List UInt8) (hP : Plan D E) (hE : was < E) (hw : was ≤ now) (hH : H.length ≤ 4096) (e : W = G ++ remB D was) : Inv now (brk1 D E was H) W H G
/-- behind a tick: the line, and what came -/
def mid (x : Ln) (W H : List UInt8) : List UInt8 × List UInt8 := if x.st = 4 then (W ++ H, []) else (W, H)
theorem Inv.later {now t : Int} {x : Ln} {W H G : List UInt8} (h : Inv now x W H G) (ht : now ≤ t) : Inv t x W H G := by
  cases h with
  | up g => exact .up _
  | brk D E was H W G hP hE hw hH e => exact .brk D E was H W G hP hE (by omega) hH e
theorem Inv.st {now : Int} {x : Ln} {W H G : List UInt8} (h : Inv now x W H G) : (x = up1 ∧ H = [] ∧ G = W) ∨ (x.st = 5 ∧ ∃ r, W = G ++ r) := by
  cases h with
  | up g => exact .inl ⟨rfl, rfl, rfl⟩
  | brk D E was H W G hP hE hw hH e => exact .inr ⟨rfl, _, e⟩
/-- a tick -/
theorem Inv.tick {now : Int} {x : Ln} {W H G : List UInt8} (h : Inv now x W H G) : Inv now (tickL x now) (mid (tickL x now) W H).1 (mid (tickL x now) W H).2 (G ++ wb (tickO x now)) := by
  cases h with
  | up g =>
    obtain ⟨e1, e2⟩ := tick_no (x := up1) (now := now) rfl
    rw [e1, e2, wb_nil, List.append_nil]
    show Inv now up1 (W ++ []) [] W
    rw [List.append_nil]
    exact .up _
  | brk D E was H W G hP hE hw hH e =>
    cases hT : tickB (brk1 D E was H) now with
    | false =>
      obtain ⟨e1, e2⟩ := tick_no hT
      rw [e1, e2, wb_nil, List.append_nil]
      exact .brk D E was H W G hP hE hw hH e
    | true =>
      obtain ⟨e1, e2⟩ := tick_go hT (.inr rfl)
      rw [e1, e2]
      have h2 := rem_two hP.sorted hw
      by_cases hn : now < E
      · rw [goL_on (x := brk1 D E was H) hn, goO_on (x := brk1 D E was H) hn]
        refine .brk D E now H W _ hP hn (Int.le_refl _) hH ?_
        rw [e, ← h2, List.append_assoc]
        rfl
      · rw [goL_off (x := brk1 D E was H) hn, goO_off (x := brk1 D E was H) hn, wb_app, wb_W]
        have h3 : wb (dueO (brk1 D E was H) now) = remB D was := by
          rw [← h2, rem_end hP (by omega), List.append_nil]
          rfl
        rw [h3]
        show Inv now up1 (W ++ H) [] (G ++ (remB D was ++ H))
        rw [e, List.append_assoc]
        exact .up _
/-- bytes are sent -/
theorem Inv.send {now : Int} {x : Ln} {W H G : List UInt8} (h : Inv now x W H G) (s : List UInt8) :
    Inv now (sendL x s) (mid (sendL x s) W (if sendB x s = true then H ++ s else H)).1 (mid (sendL x s) W (if sendB x s = true then H ++ s else H)).2 (G ++ wb (sendO x s)) := by
  cases h with
  | up g =>
    have e1 : sendB up1 s = true := rfl
    have e2 : sendL up1 s = up1 := by unfold sendL; rw [if_neg (fun h => by rcases h.1 with e | e <;> simp [up1] at e)]
    have e3 : sendO up1 s = oW s := rfl
    rw [e1, e2, e3, if_pos rfl, wb_W]
    show Inv now up1 (W ++ ([] ++ s)) [] (W ++ s)
    exact .up _
  | brk D E was H W G hP hE hw hH e =>
    have e3 : sendO (brk1 D E was H) s = [] := rfl
    rw [e3, wb_nil, List.append_nil]
    by_cases hf : fits (brk1 D E was H) s
    · have e1 : sendB (brk1 D E was H) s = true := by unfold sendB; simp [hf]
      have e2 : sendL (brk1 D E was H) s = brk1 D E was (H ++ s) := if_pos hf
      rw [e1, e2, if_pos rfl]
      exact .brk D E was (H ++ s) W G hP hE hw (by rw [List.length_append]; have := hf.2; have : H.length = (brk1 D E was H).H.length := rfl; omega) e
    · have e1 : sendB (brk1 D E was H) s = false := by unfold sendB; rw [decide_eq_false hf, show decide ((brk1 D E was H).st = 4) = false from rfl]; rfl
      have e2 : sendL (brk1 D E was H) s = brk1 D E was H := if_neg hf
      rw [e1, e2, if_neg (by simp)]
      exact .brk D E was H W G hP hE hw hH e
/-- a break sequence -/
theorem Inv.break_ {now : Int} {x : Ln} {W H G : List UInt8} (h : Inv now x W H G) (ops : List Op) (hl : ops.length ≤ 1000) :
    Inv now (brkL x now ops) (mid (brkL x now ops) (if brkC x now ops = 0 then W ++ Brk.byt ops else W) H).1 (mid (brkL x now ops) (if brkC x now ops = 0 then W ++ Brk.byt ops else W) H).2 (G ++ wb (brkO x now ops)) := by
  cases h with
  | up g =>
    by_cases hC : brkC up1 now ops = 0
    · have e1 : brkL up1 now ops = goL (runs up1 5 ops now) now := if_pos hC
      have e2 : brkO up1 now ops = goO (runs up1 5 ops now) now := if_pos hC
      have hc : chk now ops = 0 := by
        unfold brkC at hC
        rw [if_pos (show up1.st = 4 from rfl)] at hC
        split at hC
        · exact hC
        · omega
      have hP := plan_of hc hl
      have hr := rem_begin hc
      have h2 := rem_two hP.sorted (was := now - 1) (t := now) (by omega)
      rw [e1, e2, if_pos hC]
      by_cases hn : now < ends now ops
      · rw [goL_on (x := runs up1 5 ops now) hn, goO_on (x := runs up1 5 ops now) hn]
        refine .brk (dues now ops) (ends now ops) now [] _ _ hP hn (Int.le_refl _) (by simp) ?_
        rw [← hr, ← h2, List.append_assoc]
        rfl
      · rw [goL_off (x := runs up1 5 ops now) hn, goO_off (x := runs up1 5 ops now) hn]
        have h3 : wb (dueO (runs up1 5 ops now) now) = Brk.byt ops := by
          rw [← hr, ← h2, rem_end hP (by omega), List.append_nil]
          rfl
        rw [wb_app, h3]
        show Inv now up1 (W ++ Brk.byt ops ++ []) [] (W ++ (Brk.byt ops ++ []))
        rw [List.append_nil, List.append_nil]
        exact .up _
    · have e1 : brkL up1 now ops = up1 := if_neg hC
      have e2 : brkO up1 now ops = [] := if_neg hC
      rw [e1, e2, if_neg hC, wb_nil, List.append_nil]
      show Inv now up1 (W ++ []) [] W
      rw [List.append_nil]
      exact .up _
  | brk D E was H W G hP hE hw hH e =>
    have hC : brkC (brk1 D E was H) now ops ≠ 0 := by unfold brkC; rw [if_neg (by simp [brk1])]; omega
    have e1 : brkL (brk1 D E was H) now ops = brk1 D E was H := if_neg hC
    have e2 : brkO (brk1 D E was H) now ops = [] := if_neg hC
    rw [e1, e2, if_neg hC, wb_nil, List.append_nil]
    exact .brk D E was H W G hP hE hw hH e
end Go.Proofs.Ytnkhdpenmekhdaa.Lin
end

section
namespace Go.Proofs.Ytnkhdpenmekhdaa.Digit
open Go.RowKit

theorem ret_u64 {a b : Int} (h : a = b) : Ending.returned (.int .u64 a) = .returned (.int .u64 b) := by rw [h]

theorem neg_u64 {n : Int} (h1 : -9223372036854775808 ≤ n) (h : n < 0) : IntKind.u64.wrap (-IntKind.u64.wrap n) = (n.natAbs : Int) := by
  have e : ∀ x : Int, IntKind.u64.wrap x = x % 18446744073709551616 := fun x => by rfl
  rw [e, e]; omega

theorem size_calls (n : Int) (h1 : -9223372036854775808 ≤ n) (h2 : n ≤ 9223372036854775807) (w : World) :
    Calls Try.prog 81 #[.int .i64 n] w fun e w' => e = .returned (.int .u64 (n.natAbs : Int)) ∧ w = w' := by
  by_cases h : n < 0
  · go_enter Try.func81, Try.ntmps81
    go_wp2_with fail
    go_ret
    exact ⟨ret_u64 (neg_u64 h1 h), rfl⟩
  · go_enter Try.func81, Try.ntmps81
    go_wp2_with fail
    go_ret
    exact ⟨ret_u64 (by omega), rfl⟩

theorem set_cells {w : World} {b : Nat} {C : Array Value} {t : TypeId} (h : w.heap[b]? = some (.cells C t (0, 0))) (i : Nat) (v : Value) : (w.setCell ⟨b, i, none⟩ v).heap[b]? = some (.cells (C.setIfInBounds i v) t (0, 0)) := by
  have hlt := lt_of_block h
  have h' : w.heap[b] = .cells C t (0, 0) := by simpa [Array.getElem?_eq_getElem hlt] using h
  show (w.heap.modify b _)[b]? = _
  rw [Array.getElem?_eq_getElem (by simpa using hlt), Array.getElem_modify_self, h']
  rfl

/-- the array's cells from p on hold the bytes ds -/
def ArrAt (w : World) (t : TypeId) (B p : Nat) (ds : List UInt8) : Prop :=
  ∃ C, w.heap[B]? = some (.cells C t (0, 0)) ∧ C.size = 20 ∧ ds.length + p = 20 ∧ ∀ i (h : i < ds.length), C[p + i]? = some (.int .u8 (ds[i].toNat : Int))

theorem arr_start {w : World} {t : TypeId} {C : Array Value} (hC : C.size = 20) : ArrAt (w.alloc (.cells C t)) t w.heap.size 20 [] :=
  ⟨C, by show (w.heap.push _)[w.heap.size]? = _; simp, hC, rfl, fun i h => absurd h (by simp)⟩
theorem arr_push {w : World} {t : TypeId} {B p : Nat} {ds : List UInt8} (h : ArrAt w t B p ds) (hp : 1 ≤ p) {c : Int} (h0 : 0 ≤ c) (h1 : c < 256) : ArrAt (w.setCell ⟨B, p - 1, none⟩ (.int .u8 c)) t B (p - 1) (c.toNat.toUInt8 :: ds) := by
  obtain ⟨C, hC, hs, hl, hd⟩ := h
  refine ⟨_, set_cells hC _ _, by simp [hs], by simp; omega, fun i hi => ?_⟩
  cases i with
  | zero => simp [Array.getElem?_setIfInBounds, hs]; omega
  | succ i =>
    have := hd i (by simpa using hi)
    rw [Array.getElem?_setIfInBounds, if_neg (by omega), show p - 1 + (i + 1) = p + i by omega, this]; rfl
theorem arr_cell {w : World} {t : TypeId} {B p : Nat} {ds : List UInt8} (h : ArrAt w t B p ds) {i : Nat} (hi : i < 20) : ∃ x, w.cell? ⟨B, i, none⟩ = some x ∧ w.frozen? ⟨B, i, none⟩ = false := by
  obtain ⟨C, hC, hs, -, -⟩ := h
  refine ⟨C[i]'(by omega), ?_, by simp [World.frozen?, hC]⟩
  simp [World.cell?, hC]
theorem arr_text {P : Program} {w : World} {t : TypeId} {B p : Nat} {ds : List UInt8} (h : ArrAt w t B p ds) (src dst e : TypeId) (hs : P.underlying src = some (.slice e)) (he : P.underlying e = some (.int .u8)) (hd : P.underlying dst = some .string) (n cap : Nat) (hn : n = 20 - p) :
    (convert src dst (.slice (some ⟨B, p, none⟩) n cap)).run P w = .ok (.string ⟨ds.toArray⟩) w := by
  obtain ⟨C, hC, hsz, hl, hdd⟩ := h
  rw [show n = ds.length by omega]
  refine run_convert_bytes_back w src dst e _ cap ds hs he hd (fun j hj => ?_)
  rw [← hdd j hj]
  have : (⟨B, p, none⟩ : Addr).add j = ⟨B, p + j, none⟩ := by unfold Addr.add; split <;> simp_all
  rw [this]
  simp [World.cell?, hC]

/-- a[l:] of the array -/
theorem arr_slice (W : World) (B q : Nat) (l : Int) (hl : l = q) (hq : q < 20) :
    (Instr.sliceAt 126 (.pointer (some ⟨B, 0, none⟩)) (some (.int .i64 l)) none none).run Try.prog W = .ok (.slice (some ⟨B, q, none⟩) (20 - q) (20 - q)) W := by
  have hal : Try.prog.arrayLen 126 = 20 := by simp [Program.arrayLen, Try.underlying126]
  have hel : Try.prog.elem 126 = 5 := by simp [Program.elem, Try.underlying126]
  subst hl
  rw [run_sliceAt_array_l W 126 ⟨B, 0, none⟩ (by rw [hal, hel]; exact Try.underlying126) .i64 q (by omega) (by rw [hal]; omega), hal, hel, Try.sizeOf5]
  have h20 : ¬ 20 = q := by omega
  simp [Result.andThen, slicedAt, h20, Addr.add]
  exact fun h => h.symm

theorem decN_step {m r : Nat} {ds : List UInt8} (h : decN m = decN r ++ ds) (hr : ¬ r < 10) : decN m = decN (r / 10) ++ hexd (r % 10) :: ds := by
  rw [h, decN_ge hr]; simp
theorem decN_last {m r : Nat} {ds : List UInt8} (h : decN m = decN r ++ ds) (hr : r < 10) : decN m = hexd (r % 10) :: ds := by
  rw [h, decN_lt hr, Nat.mod_eq_of_lt hr]; rfl
theorem byte_hexd {r : Nat} : (48 + (r : Int) % 10).toNat.toUInt8 = hexd (r % 10) := by
  unfold hexd; rw [if_pos (by omega), show (48 + (r : Int) % 10).toNat = 48 + r % 10 by omega]

def PutAt (n : Int) (w : World) (a' : Act) (w' : World) : Prop :=
  ∃ (p r : Nat) (P R : Int) (ds : List UInt8) (u8 u9 u10 u11 u12 u13 u14 u15 u16 u17 u18 u19 : Value),
      a' = { tmps := #[.int .i64 n, undef, .string ⟨#[]⟩, .pointer (some ⟨w.heap.size, 0, none⟩), .int .i64 P, .int .u64 R, .int .i64 n, .int .u64 n.natAbs, u8, u9, u10, u11, u12, u13, u14, u15, u16, u17, u18, u19, undef, undef, undef, undef, undef, undef, undef, undef, undef], defers := [] } ∧
      P = p ∧ R = r ∧ 2 ≤ p ∧ p ≤ 20 ∧ r < 10 ^ (p - 1) ∧ decN n.natAbs = decN r ++ ds ∧ ArrAt w' 126 w.heap.size p ds ∧ Below w.heap.size w w'

theorem lt_10 {p r : Nat} (h : r < 10 ^ (p - 1)) (hp : 2 ≤ p) (hr : ¬ r < 10) : 3 ≤ p ∧ r / 10 < 10 ^ (p - 1 - 1) := by
  obtain ⟨k, rfl⟩ : ∃ k, p = k + 2 := ⟨p - 2, by omega⟩
  simp only [Nat.add_one_sub_one, show k + 2 - 1 = k + 1 from rfl] at h ⊢
  cases k with
  | zero => simp at h; omega
  | succ k => rw [Nat.pow_succ] at h; exact ⟨by omega, by omega⟩
theorem dec_neg {n : Int} (h : n < 0) : dec n = 45 :: decN n.natAbs := by rw [dec, if_pos h]
theorem dec_pos {n : Int} (h : ¬ n < 0) : dec n = decN n.natAbs := by rw [dec, if_neg h, show n.toNat = n.natAbs by omega]

set_option maxRecDepth 100000 in
set_option maxHeartbeats 1000000 in
theorem put_calls (n : Int) (h1 : -9223372036854775808 ≤ n) (h2 : n ≤ 9223372036854775807) (w : World) :
    Calls Try.prog 77 #[.int .i64 n] w fun e w' => e = .returned (.string ⟨(dec n).toArray⟩) ∧ Below w.heap.size w w' := by
  go_enter Try.func77, Try.ntmps77
  go_wp2
  refine wp_scope_jumps 0 (PutAt n w) (fun a' _ => (intOf (a'.tmps.getD 5 undef)).toNat) rfl ?_ ?_
  · go_wp2_with (go_at_call 81; refine (size_calls _ (by omega) (by omega) _).mono ?_; rintro e w' ⟨rfl, rfl⟩)
    go_step3
    have ha := arr_start (w := w) (t := 126) (C := Array.replicate 20 (.int .u8 0)) rfl
    have hb : Below w.heap.size w (w.alloc (.cells (Array.replicate 20 (.int .u8 0)) 126)) := (Below.refl _ _).alloc (Nat.le_refl _) _
    have hd : decN n.natAbs = decN n.natAbs ++ [] := by simp
    have hr : n.natAbs < 10 ^ 19 := by omega
    simp only [Array.replicate, List.replicate] at ha hb
    generalize w.alloc _ = w' at ha hb ⊢
    obtain ⟨x, hx, hf⟩ := arr_cell ha (i := 19) (by omega)
    have ha1 := arr_push ha (by omega) (c := 48 + (n.natAbs : Int) % 10) (by omega) (by omega)
    rw [byte_hexd, show 20 - 1 = 19 from rfl] at ha1
    have HD := Lib.hid hd; clear hd
    have HR := Lib.hid hr; clear hr
    have HA := Lib.hid ha; clear ha
    by_cases h10 : n.natAbs < 10
    · have HL := Lib.hid (decN_last HD.out h10)
      by_cases hn : n < 0
      · obtain ⟨x2, hx2, hf2⟩ := arr_cell HA.out (i := 18) (by omega)
        have ha2 := arr_push ha1 (by omega) (c := 45) (by omega) (by omega)
        have hcv := arr_text (P := Try.prog) ha2 86 9 5 Try.underlying86 Try.underlying5 Try.underlying9 2 2 rfl
        have hsl := fun W => arr_slice W w.heap.size 18 18 (by omega) (by omega)
        clear ha2 ha1
        go_wp2_with fail
        simp only [Exit.jump]
        go_ret
        exact ⟨ret_string (by rw [dec_neg hn, HL.out]), (hb.setCell (Nat.le_refl _) _).setCell (Nat.le_refl _) _⟩
      · have hcv := arr_text (P := Try.prog) ha1 86 9 5 Try.underlying86 Try.underlying5 Try.underlying9 1 1 rfl
        have hsl := fun W => arr_slice W w.heap.size 19 19 (by omega) (by omega)
        clear ha1
        go_wp2_with fail
        simp only [Exit.jump]
        go_ret
        exact ⟨ret_string (by rw [dec_pos (by omega), HL.out]), hb.setCell (Nat.le_refl _) _⟩
    · have HA1 := Lib.hid ha1; clear ha1
      have HS := Lib.hid (decN_step HD.out h10)
      have HT := Lib.hid (lt_10 (p := 20) HR.out (by omega) h10)
      go_wp2_with fail
      go_step3
      exact ⟨rfl, 19, n.natAbs / 10, _, _, _, _, _, _, _, _, _, _, _, _, _, _, _, rfl, rfl, by omega, by omega, by omega, HT.out.2, HS.out, HA1.out, hb.setCell (Nat.le_refl _) _⟩
  · rintro a' w' ⟨p, r, P, R, ds, u8, u9, u10, u11, u12, u13, u14, u15, u16, u17, u18, u19, rfl, rfl, rfl, hp2, hp20, hr, hd, ha, hb⟩
    obtain ⟨x, hx, hf⟩ := arr_cell ha (i := p - 1) (by omega)
    have ha1 := arr_push ha (by omega) (c := 48 + (r : Int) % 10) (by omega) (by omega)
    rw [byte_hexd] at ha1
    have HD := Lib.hid hd; clear hd
    have hr19 : r < 10000000000000000000 := Nat.lt_of_lt_of_le hr (Nat.pow_le_pow_right (n := 10) (by omega) (show p - 1 ≤ 19 by omega))
    have HR := Lib.hid hr; clear hr
    have HA := Lib.hid ha; clear ha
    by_cases h10 : r < 10
    · have HL := Lib.hid (decN_last HD.out h10)
      by_cases hn : n < 0
      · obtain ⟨x2, hx2, hf2⟩ := arr_cell HA.out (i := p - 1 - 1) (by omega)
        have ha2 := arr_push ha1 (by omega) (c := 45) (by omega) (by omega)
        have hcv := arr_text (P := Try.prog) ha2 86 9 5 Try.underlying86 Try.underlying5 Try.underlying9 (20 - (p - 1 - 1)) (20 - (p - 1 - 1)) rfl
        have hsl := fun W => arr_slice W w.heap.size (p - 1 - 1) ((p : Int) - 1 - 1) (by omega) (by omega)
        clear ha2 ha1
        go_wp2_with fail
        simp only [Exit.jump]
        go_ret
        exact ⟨ret_string (by rw [dec_neg hn, HL.out]), (hb.setCell (Nat.le_refl _) _).setCell (Nat.le_refl _) _⟩
      · have hcv := arr_text (P := Try.prog) ha1 86 9 5 Try.underlying86 Try.underlying5 Try.underlying9 (20 - (p - 1)) (20 - (p - 1)) rfl
        have hsl := fun W => arr_slice W w.heap.size (p - 1) ((p : Int) - 1) (by omega) (by omega)
        clear ha1
        go_wp2_with fail
        simp only [Exit.jump]
        go_ret
        exact ⟨ret_string (by rw [dec_pos (by omega), HL.out]), hb.setCell (Nat.le_refl _) _⟩
    · have HA1 := Lib.hid ha1; clear ha1
      have HS := Lib.hid (decN_step HD.out h10)
      have HT := Lib.hid (lt_10 HR.out hp2 h10)
      go_wp2_with fail
      go_step3
      refine ⟨rfl, ⟨p - 1, r / 10, _, _, _, _, _, _, _, _, _, _, _, _, _, _, _, rfl, by omega, by omega, by have := HT.out; omega, by omega, HT.out.2, HS.out, HA1.out, hb.setCell (Nat.le_refl _) _⟩, ?_⟩
      simp [intOf]; omega

end Go.Proofs.Ytnkhdpenmekhdaa.Digit
end

section
namespace Go.Proofs.Ytnkhdpenmekhdaa.Digit
open Go.RowKit

set_option maxHeartbeats 400000 in
theorem rpad_calls (n width : Int) (h1 : -9223372036854775808 ≤ n) (h2 : n ≤ 9223372036854775807) (w : World) :
    Calls Try.prog 43 #[.int .i64 n, .int .i64 width] w fun e w' => e = .returned (.string ⟨(padI n width).toArray⟩) ∧ w = w' := by
  by_cases hn : n < 0
  · have H := Lib.hid (padI_none (n := n) (width := width) (.inl hn))
    go_enter Try.func43, Try.ntmps43
    go_wp2
    go_ret
    exact ⟨ret_string (by rw [H.out]), rfl⟩
  · by_cases hw : width < 0
    · have H := Lib.hid (padI_none (n := n) (width := width) (.inr (.inl hw)))
      go_enter Try.func43, Try.ntmps43
      go_wp2
      go_ret
      exact ⟨ret_string (by rw [H.out]), rfl⟩
    · by_cases hv : 20 < width
      · have H := Lib.hid (padI_none (n := n) (width := width) (.inr (.inr hv)))
        go_enter Try.func43, Try.ntmps43
        go_wp2
        go_ret
        exact ⟨ret_string (by rw [H.out]), rfl⟩
      · have H := Lib.hid (padI_some (n := n) (width := width) (by omega))
        have L := dec_len h1 h2
        obtain ⟨m, rfl⟩ : ∃ m : Nat, width = m := ⟨width.toNat, by omega⟩
        go_enter Try.func43, Try.ntmps43
        go_wp2_with (go_at_call 56; refine (rput_calls _ (by omega) (by omega) _).mono ?_; rintro e w' ⟨rfl, rfl⟩)
        go_loop [5] (fun s => ∃ l : List UInt8, PadAt (dec n) l m ∧ l.length ≤ 20 ∧ s = .string ⟨l.toArray⟩) (fun s => 20 - lenOf s)
        case atStart => exact ⟨_, pad_start _ _, L, rfl⟩
        case round =>
          obtain ⟨l, hp, hl, rfl⟩ := hrel
          by_cases hlt : l.length < m
          · have hp' := pad_next hp hlt
            go_wp2_with fail
            go_round
            case rel => exact ⟨48 :: l, hp', by simp; omega, string_cons _ _⟩
            case measure => rw [string_cons]; simp only [lenOf, size_mk, List.length_cons]; omega
          · have he := Lib.hid (pad_done hp hlt)
            go_wp2_with fail
            go_ret
            exact ⟨ret_string (by rw [H.out, he.out]; rfl), rfl⟩

end Go.Proofs.Ytnkhdpenmekhdaa.Digit
end

section
namespace Go.Proofs.Ytnkhdpenmekhdaa.Digit
open Go.RowKit

theorem repeat_one (c : UInt8) (k : Nat) : Lib.repeatL [c] k = List.replicate k c := by
  induction k with
  | zero => rfl
  | succ k ih => rw [Lib.repeatL, ih]; rfl
theorem rep_calls (c : Int) (h0 : 0 ≤ c) (h1 : c ≤ 20) (w : World) :
    Calls Try.prog 79 #[.string ⟨#[48]⟩, .int .i64 c] w fun e w' => e = .returned (.string ⟨(List.replicate c.toNat 48).toArray⟩) ∧ Below w.heap.size w w' := by
  obtain ⟨k, rfl⟩ : ∃ k : Nat, c = k := ⟨c.toNat, by omega⟩
  have h := Try.strings_Repeat ⟨#[48]⟩ k w (by omega) (by show 1 * k ≤ _; omega)
  rw [repeat_one] at h
  exact h

set_option maxHeartbeats 400000 in
theorem pad_calls (n width : Int) (h1 : -9223372036854775808 ≤ n) (h2 : n ≤ 9223372036854775807) (w : World) :
    Calls Try.prog 74 #[.int .i64 n, .int .i64 width] w fun e w' => e = .returned (.string ⟨(padI n width).toArray⟩) ∧ Below w.heap.size w w' := by
  by_cases hn : n < 0
  · have H := Lib.hid (padI_none (n := n) (width := width) (.inl hn))
    go_enter Try.func74, Try.ntmps74
    go_wp2_with fail
    go_ret
    exact ⟨ret_string (by rw [H.out]), Below.refl _ _⟩
  · by_cases hw : width < 0
    · have H := Lib.hid (padI_none (n := n) (width := width) (.inr (.inl hw)))
      go_enter Try.func74, Try.ntmps74
      go_wp2_with fail
      go_ret
      exact ⟨ret_string (by rw [H.out]), Below.refl _ _⟩
    · by_cases hv : 20 < width
      · have H := Lib.hid (padI_none (n := n) (width := width) (.inr (.inr hv)))
        go_enter Try.func74, Try.ntmps74
        go_wp2_with fail
        go_ret
        exact ⟨ret_string (by rw [H.out]), Below.refl _ _⟩
      · have H := Lib.hid (padI_some (n := n) (width := width) (by omega))
        have L := dec_len h1 h2
        obtain ⟨m, rfl⟩ : ∃ m : Nat, width = m := ⟨width.toNat, by omega⟩
        go_enter Try.func74, Try.ntmps74
        go_wp2_with (first | (go_at_call 77; refine (put_calls _ (by omega) (by omega) _).mono ?_; rintro e w' ⟨rfl, hb⟩) | (go_at_call 79; refine (rep_calls _ (by omega) (by omega) _).mono ?_; rintro e w' ⟨rfl, hb2⟩))
        go_ret
        exact ⟨ret_string (by rw [H.out, bytes_add, padL, show (max 0 ((m : Int) - (dec n).length)).toNat = (m : Int).toNat - (dec n).length by omega, Array.toList_replicate]), hb.trans (hb2.mono hb.size)⟩

end Go.Proofs.Ytnkhdpenmekhdaa.Digit
end

section
namespace Go.Proofs.Ytnkhdpenmekhdaa.Digit
open Go.RowKit

def RdAt (s : ByteArray) (w : World) (good : Bool) (a' : Act) (w' : World) : Prop :=
  ∃ (k : Nat) (N K : Int) (u6 u7 u8 u9 u10 u11 u12 u13 u14 u15 u16 u17 u18 u19 u20 u21 u22 u23 : Value),
    a' = { tmps := #[.string s, undef, .int .i64 0, .int .i64 0, .int .i64 N, .int .i64 K, u6, u7, u8, u9, u10, u11, u12, u13, u14, u15, u16, u17, u18, u19, u20, u21, u22, u23, undef, undef, undef, undef, undef, undef, undef, undef, undef], defers := [] } ∧
    K = k ∧ k ≤ s.size ∧ (good = true → N = scan 0 (s.data.toList.take k)) ∧ 0 ≤ N ∧ N ≤ 20000000000000 ∧ w' = w

theorem byte_sub {c : Int} (h : 48 ≤ c) (h1 : c ≤ 57) : IntKind.u8.wrap (c - 48) = c - 48 := IntWalk.u8_in _ (by omega)

set_option maxRecDepth 100000 in
set_option maxHeartbeats 1000000 in
theorem read_some (s : ByteArray) (hs : s.size ≤ 100000) (t : Int) (ht : IsTick s.data.toList t) (w : World) :
    Calls Try.prog 72 #[.string s] w fun e w' => e = .returned (.tuple #[.int .i64 t, .int .i64 0]) ∧ Below w.heap.size w w' := by
  have HT := Lib.hid ht
  have hpos : 0 < s.size := tick_pos ht
  have hdig : ∀ k (h : k < s.size), 48 ≤ (s[k].toNat : Int) ∧ (s[k].toNat : Int) ≤ 57 := fun k h => by
    have := tick_digit ht s[k] (by show s.data[k] ∈ _; simp); omega
  have HG := Lib.hid hdig
  obtain ⟨t0, t1, hd⟩ := ht
  clear hdig hd
  go_enter Try.func72, Try.ntmps72
  go_wp2
  refine wp_scope_jumps 0 (RdAt s w true) (fun a' _ => s.size - (intOf (a'.tmps.getD 5 undef)).toNat) rfl ?_ ?_
  · go_wp2_with fail
    go_step3
    obtain ⟨d0, d1⟩ := HG.out 0 hpos
    have HS := Lib.hid (scan_snoc s 0 hpos)
    have m1 := tick_part HT.out 1
    go_wp2_with fail
    go_step3
    exact ⟨rfl, 1, _, _, _, _, _, _, _, _, _, _, _, _, _, _, _, _, _, _, _, _, rfl, rfl, by omega, fun _ => by rw [HS.out]; simp [scan], by omega, by omega, rfl⟩
  · rintro a' w' ⟨k, N, K, u6, u7, u8, u9, u10, u11, u12, u13, u14, u15, u16, u17, u18, u19, u20, u21, u22, u23, rfl, rfl, hk, hN, n0, n1, rfl⟩
    obtain rfl := hN rfl
    obtain ⟨m0, m1⟩ := tick_part HT.out k
    by_cases hlt : k < s.size
    · have HS := Lib.hid (scan_snoc s k hlt)
      obtain ⟨d0, d1⟩ := HG.out k hlt
      go_wp2_with fail
      go_step3
      refine ⟨rfl, ⟨k + 1, _, _, _, _, _, _, _, _, _, _, _, _, _, _, _, _, _, _, _, _, rfl, by omega, by omega, fun _ => by rw [HS.out]; omega, by omega, by omega, rfl⟩, ?_⟩
      simp [intOf]; omega
    · have he : s.data.toList.take k = s.data.toList := List.take_of_length_le (by rw [size_list]; omega)
      rw [he, (tick_scan HT.out).1]
      have hx : (dec t == s.toList) = true := by rw [HT.out.2.2, ByteArray.toList_eq]; simp
      clear he
      go_wp2_with (go_at_call 77; refine (put_calls _ (by omega) (by omega) _).mono ?_; rintro e w' ⟨rfl, hb⟩)
      simp only [Exit.jump]
      go_ret2
      exact ⟨rfl, hb⟩

theorem u8_bd (x : Int) : 0 ≤ IntKind.u8.wrap x ∧ IntKind.u8.wrap x < 256 := by
  have e : IntKind.u8.wrap x = x % 256 := rfl
  rw [e]; omega

set_option maxRecDepth 100000 in
set_option maxHeartbeats 1000000 in
theorem read_none (s : ByteArray) (hs : s.size ≤ 100000) (ht : ¬ ∃ t, IsTick s.data.toList t) (w : World) :
    Calls Try.prog 72 #[.string s] w fun e w' => e = .returned (.tuple #[.int .i64 0, .int .i64 3]) ∧ Below w.heap.size w w' := by
  have HT := Lib.hid ht; clear ht
  have hno : ∀ n : Int, 0 ≤ n → n ≤ 1099511627776 → (dec n == s.toList) = false := fun n h0 h1 => by
    rw [beq_eq_false_iff_ne]
    exact fun h => HT.out ⟨n, h0, h1, by rw [h, ByteArray.toList_eq]⟩
  have HN := Lib.hid hno; clear hno
  go_enter Try.func72, Try.ntmps72
  go_wp2
  refine wp_scope_jumps 0 (RdAt s w false) (fun a' _ => s.size - (intOf (a'.tmps.getD 5 undef)).toNat) rfl ?_ ?_
  · go_wp2_with fail
    go_step3
    by_cases hpos : 0 < s.size
    · obtain ⟨d0, d1⟩ := u8_bd ((s[0].toNat : Int) - 48)
      go_wp2_with fail
      go_step3
      exact ⟨rfl, 1, _, _, _, _, _, _, _, _, _, _, _, _, _, _, _, _, _, _, _, _, rfl, rfl, by omega, (fun h => by cases h), by omega, by omega, rfl⟩
    · have hx := HN.out 0 (by omega) (by omega)
      go_wp2_with (go_at_call 77; refine (put_calls _ (by omega) (by omega) _).mono ?_; rintro e w' ⟨rfl, hb⟩)
      simp only [Exit.jump]
      go_ret2
      exact ⟨rfl, hb⟩
  · rintro a' w' ⟨k, N, K, u6, u7, u8, u9, u10, u11, u12, u13, u14, u15, u16, u17, u18, u19, u20, u21, u22, u23, rfl, rfl, hk, -, n0, n1, rfl⟩
    by_cases hlt : k < s.size
    · by_cases hn : N ≤ 1099511627776
      · obtain ⟨d0, d1⟩ := u8_bd ((s[k].toNat : Int) - 48)
        go_wp2_with fail
        go_step3
        refine ⟨rfl, ⟨k + 1, _, _, _, _, _, _, _, _, _, _, _, _, _, _, _, _, _, _, _, _, rfl, by omega, by omega, (fun h => by cases h), by omega, by omega, rfl⟩, ?_⟩
        simp [intOf]; omega
      · go_wp2_with fail
        simp only [Exit.jump]
        go_ret2
        exact ⟨rfl, Below.refl _ _⟩
    · by_cases hn : N ≤ 1099511627776
      · have hx := HN.out N n0 hn
        go_wp2_with (go_at_call 77; refine (put_calls _ (by omega) (by omega) _).mono ?_; rintro e w' ⟨rfl, hb⟩)
        simp only [Exit.jump]
        go_ret2
        exact ⟨rfl, hb⟩
      · go_wp2_with fail
        simp only [Exit.jump]
        go_ret2
        exact ⟨rfl, Below.refl _ _⟩

theorem read_calls (s : ByteArray) (hs : s.size ≤ 100000) (w : World) :
    Calls Try.prog 72 #[.string s] w fun e w' => e = .returned (.tuple #[.int .i64 (rdV s.data.toList), .int .i64 (rdC s.data.toList)]) ∧ Below w.heap.size w w' := by
  by_cases h : ∃ t, IsTick s.data.toList t
  · obtain ⟨t, ht⟩ := h
    obtain ⟨h1, h2⟩ := rd_some ht
    rw [h1, h2]
    exact read_some s hs t ht w
  · obtain ⟨h1, h2⟩ := rd_none h
    rw [h1, h2]
    exact read_none s hs h w

end Go.Proofs.Ytnkhdpenmekhdaa.Digit
end

section
namespace Go.Proofs.Ytnkhdpenmekhdaa.Digit
open Go.RowKit

theorem rhex_calls (c : Int) (h0 : 0 ≤ c) (h1 : c < 256) (w : World) :
    Calls Try.prog 44 #[.int .u8 c] w fun e w' => e = .returned (.string ⟨(hexS c.toNat).toArray⟩) ∧ w = w' := by
  go_enter Try.func44, Try.ntmps44
  go_wp2_with (go_at_call 57; refine (rdigit_calls _ (by omega) (by omega) _).mono ?_; rintro e w' ⟨rfl, rfl⟩)
  go_ret
  exact ⟨ret_string (by rw [show (c / 16).toNat = c.toNat / 16 by omega, show (c % 16).toNat = c.toNat % 16 by omega]; exact bytes_add [_] [_]), rfl⟩

end Go.Proofs.Ytnkhdpenmekhdaa.Digit
end

section
namespace Go.Proofs.Ytnkhdpenmekhdaa.Digit
open Go.RowKit

/-- string([]byte{c}) -/
theorem run_byte_string {P : Program} (W : World) (c : Int) (src dst e : TypeId) (hs : P.underlying src = some (.slice e)) (he : P.underlying e = some (.int .u8)) (hd : P.underlying dst = some .string) :
    (convert src dst (.slice (some ⟨W.heap.size, 0, none⟩) 1 1)).run P (W.alloc (.cells #[.int .u8 c] e)) = .ok (.string ⟨#[c.toNat.toUInt8]⟩) (W.alloc (.cells #[.int .u8 c] e)) := by
  rw [run_convert_bytes_string _ src dst e _ 1 1 hs he hd]
  have hl := run_loadCells_list (P := P) (W.alloc (.cells #[.int .u8 c] e)) ⟨W.heap.size, 0, none⟩ ([c].map (Value.int .u8)) (fun j v hj => by
    match j, hj with
    | 0, hj => simp at hj; subst hj; rw [show (⟨W.heap.size, 0, none⟩ : Addr).add 0 = ⟨W.heap.size, 0, none⟩ from rfl]; simp
    | j + 1, hj => simp at hj)
  rw [run_bytesToString _ _ 1 1 [c] hl]
  rfl

theorem run_byte_at {P : Program} (W : World) (b : Nat) (c : Int) (src dst e : TypeId) (hs : P.underlying src = some (.slice e)) (he : P.underlying e = some (.int .u8)) (hd : P.underlying dst = some .string)
    (hc : W.cell? ⟨b, 0, none⟩ = some (.int .u8 c)) :
    (convert src dst (.slice (some ⟨b, 0, none⟩) 1 1)).run P W = .ok (.string ⟨#[c.toNat.toUInt8]⟩) W := by
  rw [run_convert_bytes_string _ src dst e _ 1 1 hs he hd]
  have hl := run_loadCells_list (P := P) W ⟨b, 0, none⟩ ([c].map (Value.int .u8)) (fun j v hj => by
    match j, hj with
    | 0, hj => simp at hj; subst hj; exact hc
    | j + 1, hj => simp at hj)
  rw [run_bytesToString _ _ 1 1 [c] hl]
  rfl

theorem ret_u8 {a b : Int} (h : a = b) : Ending.returned (.int .u8 a) = .returned (.int .u8 b) := by rw [h]

theorem ret_text {a b : List UInt8} {c d : Int} (h : a = b) (g : c = d) : Ending.returned (.tuple #[.string ⟨a.toArray⟩, .int .i64 c]) = .returned (.tuple #[.string ⟨b.toArray⟩, .int .i64 d]) := by rw [h, g]

theorem rsign_calls (c : Int) (h0 : 0 ≤ c) (h1 : c < 256) (w : World) :
    Calls Try.prog 58 #[.int .u8 c] w fun e w' => e = .returned (.string ⟨(sgn c.toNat).toArray⟩) ∧ Below w.heap.size w w' := by
  by_cases e1 : c = 92
  · subst e1
    go_enter Try.func58, Try.ntmps58
    go_wp2_with fail
    go_ret
    exact ⟨rfl, Below.refl _ _⟩
  by_cases e2 : c = 10
  · subst e2
    go_enter Try.func58, Try.ntmps58
    go_wp2_with fail
    go_ret
    exact ⟨rfl, Below.refl _ _⟩
  by_cases e3 : c = 13
  · subst e3
    go_enter Try.func58, Try.ntmps58
    go_wp2_with fail
    go_ret
    exact ⟨rfl, Below.refl _ _⟩
  by_cases e4 : c = 9
  · subst e4
    go_enter Try.func58, Try.ntmps58
    go_wp2_with fail
    go_ret
    exact ⟨rfl, Below.refl _ _⟩
  have H := Lib.hid (sgn_other (n := c.toNat) (by omega) (by omega) (by omega) (by omega))
  by_cases e5 : c < 32
  · go_enter Try.func58, Try.ntmps58
    go_wp2_with (go_at_call 44; refine (rhex_calls _ (by omega) (by omega) _).mono ?_; rintro e w' ⟨rfl, rfl⟩)
    go_ret
    exact ⟨ret_string (by rw [H.out, if_pos (by omega)]; exact bytes_add [92, 120] _), Below.refl _ _⟩
  by_cases e6 : 126 < c
  · go_enter Try.func58, Try.ntmps58
    go_wp2_with (go_at_call 44; refine (rhex_calls _ (by omega) (by omega) _).mono ?_; rintro e w' ⟨rfl, rfl⟩)
    go_ret
    exact ⟨ret_string (by rw [H.out, if_pos (by omega)]; exact bytes_add [92, 120] _), Below.refl _ _⟩
  · have hcv := fun (W : World) => run_byte_string W c 86 9 5 Try.underlying86 Try.underlying5 Try.underlying9
    go_enter Try.func58, Try.ntmps58
    go_wp2_with fail
    go_ret
    exact ⟨ret_string (by rw [H.out, if_neg (by omega)]), (Below.refl _ _).alloc (Nat.le_refl _) _⟩

set_option maxHeartbeats 400000 in
theorem rshow_calls (s : ByteArray) (hs : s.size ≤ 100000) (w : World) :
    Calls Try.prog 45 #[.string s] w fun e w' => e = .returned (.string ⟨(shw s.data.toList).toArray⟩) ∧ Below w.heap.size w w' := by
  go_enter Try.func45, Try.ntmps45
  go_wp2
  go_loopw [3, 4] (fun o i wr => ∃ k : Nat, k ≤ s.size ∧ i = .int .i64 k ∧ o = .string ⟨(shw (s.data.toList.take k)).toArray⟩ ∧ Below w.heap.size w wr) (fun _ i _ => s.size - (intOf i).toNat)
  case atStart => exact ⟨0, Nat.zero_le _, rfl, rfl, Below.refl _ _⟩
  case round =>
    obtain ⟨k, hk, rfl, rfl, hb⟩ := hrel
    have hl := shw_len (s.data.toList.take k)
    rw [List.length_take, size_list, Nat.min_eq_left hk] at hl
    by_cases hlt : k < s.size
    · have HS := Lib.hid (shw_snoc s k hlt)
      have hl2 := (sgn_len s[k].toNat).2
      have hc : (s[k].toNat : Int) < 256 := by have := s[k].toNat_lt; omega
      generalize shw (s.data.toList.take k) = o at hl HS
      go_wp2_with (go_at_call 58; refine (rsign_calls _ (by omega) (by omega) _).mono ?_; rintro e w' ⟨rfl, hb1⟩)
      go_roundw
      case rel => exact ⟨k + 1, by omega, by go_num, by rw [HS.out, ← bytes_add], hb.trans (hb1.mono hb.size)⟩
      case measure => simp [intOf]; omega
    · go_wp2_with fail
      go_ret
      exact ⟨ret_string (by rw [List.take_of_length_le (by rw [size_list]; omega)]), hb⟩

end Go.Proofs.Ytnkhdpenmekhdaa.Digit
end

section
namespace Go.Proofs.Ytnkhdpenmekhdaa.Digit
open Go.RowKit

theorem index_calls (c : Int) (w : World) :
    Calls Try.prog 71 #[.string ⟨#[48, 49, 50, 51, 52, 53, 54, 55, 56, 57, 97, 98, 99, 100, 101, 102]⟩, .int .u8 c] w fun e w' => e = .returned (.int .i64 (Lib.indexByte hexTab c.toNat.toUInt8)) ∧ w = w' :=
  (Try.strings_IndexByte _ c w).mono fun _ _ ⟨h1, h2⟩ => ⟨h1, h2.symm⟩

theorem two_list (s : ByteArray) (h : s.size = 2) : s.data.toList = [s[0], s[1]] := by
  have hl : s.data.toList.length = 2 := h
  match hs : s.data.toList, hl with
  | [a, b], _ =>
    have e0 : s[0] = s.data.toList[0] := rfl
    have e1 : s[1] = s.data.toList[1] := rfl
    simp [e0, e1, hs]

theorem or_all : ∀ a : Fin 16, ∀ b : Fin 16, bits BinOp.or IntKind.i64 ((a.val : Int) * 16) (b.val : Int) = (a.val : Int) * 16 + (b.val : Int) := by decide +kernel
theorem or_16 {x y : Int} (h0 : 0 ≤ x) (h1 : x < 16) (g0 : 0 ≤ y) (g1 : y < 16) : bits BinOp.or IntKind.i64 (x * 16) y = x * 16 + y := by
  have h := or_all ⟨x.toNat, by omega⟩ ⟨y.toNat, by omega⟩
  simp only [Int.toNat_of_nonneg h0, Int.toNat_of_nonneg g0] at h
  exact h

theorem u8_back (c : UInt8) : ((c.toNat : Int)).toNat.toUInt8 = c := by simp

set_option maxHeartbeats 400000 in
theorem readhex_calls (s : ByteArray) (w : World) :
    Calls Try.prog 65 #[.string s] w fun e w' => e = .returned (.tuple #[.int .u8 (rhV s.data.toList), .int .i64 (rhC s.data.toList)]) ∧ w = w' := by
  by_cases h2 : s.size = 2
  · have p0 : 0 < s.size := by omega
    have p1 : 1 < s.size := by omega
    have hl : s.data.toList = [s[0], s[1]] := two_list s h2
    rcases idx_spec s[0] with ⟨i0, i1⟩ | ⟨i0, i1, i2⟩
    · have H := Lib.hid (rh_none (s := s.data.toList) (by rw [hl]; rintro ⟨c, hc, hh⟩; exact i1 (c / 16) (by omega) (List.cons.inj hh).1))
      have hx : Lib.indexByte hexTab s[0] < 0 := by omega
      clear i0 i1 hl
      go_enter Try.func65, Try.ntmps65
      go_wp2_with (go_at_call 71; refine (index_calls _ _).mono ?_; rintro e w' ⟨rfl, rfl⟩)
      go_ret2
      exact ⟨ret_byte H.out.1.symm H.out.2.symm, rfl⟩
    · rcases idx_spec s[1] with ⟨j0, j1⟩ | ⟨j0, j1, j2⟩
      · have H := Lib.hid (rh_none (s := s.data.toList) (by rw [hl]; rintro ⟨c, hc, hh⟩; exact j1 (c % 16) (by omega) (List.cons.inj (List.cons.inj hh).2).1))
        have hx : Lib.indexByte hexTab s[1] < 0 := by omega
        clear i2 j0 j1 hl
        go_enter Try.func65, Try.ntmps65
        go_wp2_with (go_at_call 71; refine (index_calls _ _).mono ?_; rintro e w' ⟨rfl, rfl⟩)
        go_ret2
        exact ⟨ret_byte H.out.1.symm H.out.2.symm, rfl⟩
      · have hh : hexS (16 * (Lib.indexByte hexTab s[0]).toNat + (Lib.indexByte hexTab s[1]).toNat) = s.data.toList := by
          rw [hl, hexS]
          rw [show (16 * (Lib.indexByte hexTab s[0]).toNat + (Lib.indexByte hexTab s[1]).toNat) / 16 = (Lib.indexByte hexTab s[0]).toNat by omega, show (16 * (Lib.indexByte hexTab s[0]).toNat + (Lib.indexByte hexTab s[1]).toNat) % 16 = (Lib.indexByte hexTab s[1]).toNat by omega, i2, j2]
        have G := rh_some (c := 16 * (Lib.indexByte hexTab s[0]).toNat + (Lib.indexByte hexTab s[1]).toNat) (by omega)
        rw [hh] at G
        have H := Lib.hid G
        clear G i2 j2 hl hh
        go_enter Try.func65, Try.ntmps65
        go_wp2_with (go_at_call 71; refine (index_calls _ _).mono ?_; rintro e w' ⟨rfl, rfl⟩)
        go_ret2
        exact ⟨ret_byte (by rw [H.out.1, or_16 i0 i1 j0 j1]; omega) H.out.2.symm, rfl⟩
  · have H := Lib.hid (rh_none (s := s.data.toList) (by rintro ⟨c, hc, hh⟩; have := congrArg List.length hh; rw [size_list] at this; simp [hexS] at this; omega))
    go_enter Try.func65, Try.ntmps65
    go_wp2_with fail
    go_ret2
    exact ⟨ret_byte H.out.1.symm H.out.2.symm, rfl⟩

end Go.Proofs.Ytnkhdpenmekhdaa.Digit
end

section
namespace Go.Proofs.Ytnkhdpenmekhdaa.Brk
open Go.RowKit Go.Proofs.Ytnkhdpenmekhdaa.Digit

theorem trim_calls (s p : ByteArray) (w : World) :
    Calls Try.prog 73 #[.string s, .string p] w fun e w' => e = .returned (.string ⟨(Lib.trimPrefix s.data.toList p.data.toList).toArray⟩) ∧ w = w' :=
  (Try.strings_TrimPrefix s p w).mono fun _ _ ⟨h1, h2⟩ => ⟨h1, h2.symm⟩

theorem rdV_bd (l : List UInt8) : 0 ≤ rdV l ∧ rdV l ≤ 1099511627776 := by
  by_cases h : ∃ n, IsTick l n
  · obtain ⟨n, h⟩ := h
    rw [(rd_some h).1]; exact ⟨h.1, h.2.1⟩
  · rw [(rd_none h).1]; omega
theorem hexd_zero {n : Nat} (h : n < 16) (e : hexd n = 48) : n = 0 := hexd_inj h (by omega) (e.trans (by decide))
theorem trim_two {n : Nat} (h1 : 1 ≤ n) (h2 : n ≤ 99) : rdV (Lib.trimPrefix (two n) [48]) = n := by
  refine (rd_some ⟨by omega, by omega, ?_⟩).1
  by_cases h : n < 10
  · have e : two n = [48, hexd n] := by rw [two, show n / 10 = 0 by omega, show n % 10 = n by omega]; rfl
    rw [e, dec_lt (by omega) (by omega)]
    rfl
  · have e : dec (n : Int) = two n := by
      rw [dec_ge (by omega), dec_lt (by omega) (by omega), two, show ((n : Int) / 10).toNat = n / 10 by omega, show ((n : Int) % 10).toNat = n % 10 by omega]; rfl
    rw [e, Lib.trimPrefix, if_neg]
    intro hp
    have : (48 : UInt8) = hexd (n / 10) := by
      simp [Lib.hasPrefix, two] at hp; exact hp
    have := hexd_zero (by omega) this.symm
    omega
theorem tick_two {l : List UInt8} (hl : l.length ≤ 2) : (padI (rdV (Lib.trimPrefix l [48])) 2 = l → rdV (Lib.trimPrefix l [48]) = tk l) ∧ (padI (rdV (Lib.trimPrefix l [48])) 2 ≠ l → tk l = 0) := by
  obtain ⟨r0, r1⟩ := rdV_bd (Lib.trimPrefix l [48])
  constructor
  · intro h
    obtain ⟨N, hN⟩ : ∃ N : Nat, rdV (Lib.trimPrefix l [48]) = N := ⟨_, (Int.toNat_of_nonneg r0).symm⟩
    rw [hN] at h ⊢
    by_cases h9 : N ≤ 99
    · rw [pad_two h9] at h
      by_cases h0 : N = 0
      · subst h0
        rw [tk_none]
        rintro ⟨n, n1, n2, e⟩
        have := two_inj n2 (by omega) (e.trans h.symm)
        omega
      · rw [← h, tk_some (by omega) h9]
    · rw [pad_long (by omega)] at h
      have := dec_long (n := N) (by omega)
      rw [h] at this
      omega
  · intro h
    refine tk_none ?_
    rintro ⟨n, n1, n2, rfl⟩
    rw [trim_two n1 n2, pad_two n2] at h
    exact h rfl

set_option maxRecDepth 100000 in
set_option maxHeartbeats 400000 in
theorem ticks_calls (s : ByteArray) (hs : s.size ≤ 2) (w : World) :
    Calls Try.prog 66 #[.string s] w fun e w' => e = .returned (.int .i64 (tk s.data.toList)) ∧ Below w.heap.size w w' := by
  obtain ⟨t1, t2⟩ := tick_two (l := s.data.toList) hs
  obtain ⟨r0, r1⟩ := rdV_bd (Lib.trimPrefix s.data.toList [48])
  have hz : (Lib.trimPrefix s.data.toList [48]).length ≤ 2 := by
    unfold Lib.trimPrefix
    split
    · rw [List.length_drop, size_list]; omega
    · rw [size_list]; omega
  obtain ⟨u, hu⟩ : ∃ u : ByteArray, u = ⟨(Lib.trimPrefix s.data.toList [48]).toArray⟩ := ⟨_, rfl⟩
  have hul : u.data.toList = Lib.trimPrefix s.data.toList [48] := by rw [hu]
  have hus : u.size ≤ 2 := by rw [← size_list, hul]; exact hz
  have HC := Lib.hid (fun w => (trim_calls s ⟨#[48]⟩ w))
  rw [show (⟨#[48]⟩ : ByteArray).data.toList = [48] from rfl, ← hu] at HC
  have HR := Lib.hid (read_calls u (by omega))
  rw [← hul] at t1 t2 r0 r1
  generalize rdV u.data.toList = N at *
  generalize rdC u.data.toList = C at *
  have HT1 := Lib.hid t1
  have HT2 := Lib.hid t2
  clear t1 t2 hul hu hz hus
  by_cases h : padI N 2 = s.data.toList
  · have hx : (padI N 2 == s.toList) = true := by rw [h, ByteArray.toList_eq]; simp
    have hy : (padI N 2 != s.toList) = false := by rw [bne, hx]; rfl
    have HE := Lib.hid (HT1.out h)
    clear h
    go_enter Try.func66, Try.ntmps66
    go_wp2_with (first
      | (go_at_call 73; refine (HC.out _).mono ?_; rintro e w' ⟨rfl, rfl⟩)
      | (go_at_call 72; refine (HR.out _).mono ?_; rintro e w' ⟨rfl, hb⟩)
      | (go_at_call 74; refine (pad_calls _ _ (by omega) (by omega) _).mono ?_; rintro e w' ⟨rfl, hb2⟩))
    go_ret
    exact ⟨by rw [HE.out]; rfl, hb.trans (hb2.mono hb.size)⟩
  · have hx : (padI N 2 == s.toList) = false := by rw [beq_eq_false_iff_ne, ByteArray.toList_eq]; exact h
    have hy : (padI N 2 != s.toList) = true := by rw [bne, hx]; rfl
    have HE := Lib.hid (HT2.out h)
    clear h
    go_enter Try.func66, Try.ntmps66
    go_wp2_with (first
      | (go_at_call 73; refine (HC.out _).mono ?_; rintro e w' ⟨rfl, rfl⟩)
      | (go_at_call 72; refine (HR.out _).mono ?_; rintro e w' ⟨rfl, hb⟩)
      | (go_at_call 74; refine (pad_calls _ _ (by omega) (by omega) _).mono ?_; rintro e w' ⟨rfl, hb2⟩))
    go_ret
    exact ⟨by rw [HE.out]; rfl, hb.trans (hb2.mono hb.size)⟩

/-- a step as a value of its interface -/
def stV (x : Op) : Value := if x.k = 1 then .iface 99 (.string ⟨x.s.toArray⟩) else if x.k = 2 then .iface 101 (.int .i64 x.n) else if x.k = 3 then .iface 103 (.agg #[]) else .nilIface
def oneV (r : Op × Nat) : Ending := .returned (.tuple #[stV r.1, .int .i64 r.2])

theorem cut_rest (s : ByteArray) (h : 2 ≤ s.size) : ∃ p : ByteArray, p.size ≤ 2 ∧ p.data.toList = (s.data.toList.drop 2).take 2 ∧ s.extract 2 (min 4 (s.size : Int)).toNat = p := by
  refine ⟨s.extract 2 (min 4 (s.size : Int)).toNat, ?_, ?_, rfl⟩
  · rw [ByteArray.size_extract]; omega
  · by_cases h4 : 4 ≤ s.size
    · simp [ByteArray.data_extract, show (min 4 (s.size : Int)).toNat = 4 by omega, List.extract_eq_take_drop]
    · have hl : (s.data.toList.drop 2).length = s.size - 2 := by rw [List.length_drop, size_list]
      rw [List.take_of_length_le (by omega)]
      simp [ByteArray.data_extract, show (min 4 (s.size : Int)).toNat = s.size by omega, List.extract_eq_take_drop]
      rw [List.take_of_length_le (by rw [hl]; omega)]

set_option maxRecDepth 100000 in
set_option maxHeartbeats 1000000 in
theorem escaped_calls (s : ByteArray) (h2 : 2 ≤ s.size) (hs : s.size ≤ 100000) (w : World) :
    Calls Try.prog 53 #[.string s] w fun e w' => e = oneV (esc s[1] (s.data.toList.drop 2)) ∧ Below w.heap.size w w' := by
  obtain ⟨p, hp, hpl, hpe⟩ := cut_rest s h2
  have e4 : ∀ n : Nat, n < 256 → ((s[1].toNat : Int) = n) → s[1] = n.toUInt8 := fun n hn h => eq_byte h
  have e5 : ∀ n : Nat, n < 256 → ¬ ((s[1].toNat : Int) = n) → s[1] ≠ n.toUInt8 := fun n hn h => ne_byte h hn
  have HE := Lib.hid e4
  have HN := Lib.hid e5
  clear e4 e5
  by_cases c1 : (s[1].toNat : Int) = 92
  · have H := Lib.hid (show esc s[1] (s.data.toList.drop 2) = (⟨1, [92], 0⟩, 2) by rw [HE.out 92 (by omega) c1]; rfl)
    go_enter Try.func53, Try.ntmps53
    go_wp2_with fail
    go_ret2
    exact ⟨by rw [H.out]; rfl, Below.refl _ _⟩
  by_cases c2 : (s[1].toNat : Int) = 114
  · have H := Lib.hid (show esc s[1] (s.data.toList.drop 2) = (⟨1, [13], 0⟩, 2) by rw [HE.out 114 (by omega) c2]; rfl)
    go_enter Try.func53, Try.ntmps53
    go_wp2_with fail
    go_ret2
    exact ⟨by rw [H.out]; rfl, Below.refl _ _⟩
  by_cases c3 : (s[1].toNat : Int) = 110
  · have H := Lib.hid (show esc s[1] (s.data.toList.drop 2) = (⟨1, [10], 0⟩, 2) by rw [HE.out 110 (by omega) c3]; rfl)
    go_enter Try.func53, Try.ntmps53
    go_wp2_with fail
    go_ret2
    exact ⟨by rw [H.out]; rfl, Below.refl _ _⟩
  by_cases c4 : (s[1].toNat : Int) = 116
  · have H := Lib.hid (show esc s[1] (s.data.toList.drop 2) = (⟨1, [9], 0⟩, 2) by rw [HE.out 116 (by omega) c4]; rfl)
    go_enter Try.func53, Try.ntmps53
    go_wp2_with fail
    go_ret2
    exact ⟨by rw [H.out]; rfl, Below.refl _ _⟩
  by_cases c5 : (s[1].toNat : Int) = 100
  · have H := Lib.hid (show esc s[1] (s.data.toList.drop 2) = (⟨2, [], 1⟩, 2) by rw [HE.out 100 (by omega) c5]; rfl)
    go_enter Try.func53, Try.ntmps53
    go_wp2_with fail
    go_ret2
    exact ⟨by rw [H.out]; rfl, Below.refl _ _⟩
  by_cases c6 : (s[1].toNat : Int) = 122
  · have H := Lib.hid (show esc s[1] (s.data.toList.drop 2) = (⟨3, [], 0⟩, 2) by rw [HE.out 122 (by omega) c6]; rfl)
    go_enter Try.func53, Try.ntmps53
    go_wp2_with fail
    go_ret2
    exact ⟨by rw [H.out]; rfl, Below.refl _ _⟩
  by_cases c7 : (s[1].toNat : Int) = 120
  · have H0 : esc s[1] (s.data.toList.drop 2) = if rhC p.data.toList = 0 then (⟨1, [(rhV p.data.toList).toNat.toUInt8], 0⟩, 4) else no := by rw [HE.out 120 (by omega) c7, hpl]; rfl
    have HR := Lib.hid (readhex_calls p)
    obtain ⟨v0, v1⟩ := rhV_bd p.data.toList
    generalize rhV p.data.toList = v at *
    generalize rhC p.data.toList = c at *
    by_cases hc : c = 0
    · have H := Lib.hid (H0.trans (if_pos hc))
      subst hc
      have hcv := fun (W : World) => run_byte_string W v 86 99 5 Try.underlying86 Try.underlying5 Try.underlying99
      clear H0 hpl
      go_enter Try.func53, Try.ntmps53
      go_wp2_with (go_at_call 65; refine (HR.out _).mono ?_; rintro e w' ⟨rfl, rfl⟩)
      go_ret2
      exact ⟨by rw [H.out]; rfl, (Below.refl _ _).alloc (Nat.le_refl _) _⟩
    · have H := Lib.hid (H0.trans (if_neg hc))
      have b : (c == 0) = false := by simpa using hc
      clear H0 hpl hc
      go_enter Try.func53, Try.ntmps53
      go_wp2_with (go_at_call 65; refine (HR.out _).mono ?_; rintro e w' ⟨rfl, rfl⟩)
      go_ret2
      exact ⟨by rw [H.out]; rfl, Below.refl _ _⟩
  by_cases c8 : (s[1].toNat : Int) = 119
  · have H0 : esc s[1] (s.data.toList.drop 2) = if tk p.data.toList = 0 then no else (⟨2, [], tk p.data.toList⟩, 4) := by rw [HE.out 119 (by omega) c8, hpl]; rfl
    have HR := Lib.hid (ticks_calls p hp)
    have hk : tk p.data.toList = 0 ∨ tk p.data.toList ≤ 99 := by
      by_cases h : tk p.data.toList = 0
      · exact .inl h
      · exact .inr (tk_is h).2.1
    generalize tk p.data.toList = v at *
    by_cases hc : v = 0
    · have H := Lib.hid (H0.trans (if_pos hc))
      subst hc
      clear H0 hpl hk
      go_enter Try.func53, Try.ntmps53
      go_wp2_with (go_at_call 66; refine (HR.out _).mono ?_; rintro e w' ⟨rfl, hb⟩)
      go_ret2
      exact ⟨by rw [H.out]; rfl, hb⟩
    · have H := Lib.hid (H0.trans (if_neg hc))
      have b : (0 : Int) < (v : Int) := by omega
      clear H0 hpl
      go_enter Try.func53, Try.ntmps53
      go_wp2_with (go_at_call 66; refine (HR.out _).mono ?_; rintro e w' ⟨rfl, hb⟩)
      go_ret2
      exact ⟨by rw [H.out]; rfl, hb⟩
  · have H := Lib.hid (show esc s[1] (s.data.toList.drop 2) = no by
      unfold esc
      rw [if_neg (show ¬ s[1] = 92 from HN.out 92 (by omega) c1), if_neg (show ¬ s[1] = 114 from HN.out 114 (by omega) c2), if_neg (show ¬ s[1] = 110 from HN.out 110 (by omega) c3), if_neg (show ¬ s[1] = 116 from HN.out 116 (by omega) c4), if_neg (show ¬ s[1] = 100 from HN.out 100 (by omega) c5), if_neg (show ¬ s[1] = 122 from HN.out 122 (by omega) c6), if_neg (show ¬ s[1] = 120 from HN.out 120 (by omega) c7), if_neg (show ¬ s[1] = 119 from HN.out 119 (by omega) c8)])
    go_enter Try.func53, Try.ntmps53
    go_wp2_with fail
    go_ret2
    exact ⟨by rw [H.out]; rfl, Below.refl _ _⟩

set_option maxRecDepth 100000 in
theorem escaped_short (s : ByteArray) (h2 : s.size < 2) (w : World) :
    Calls Try.prog 53 #[.string s] w fun e w' => e = .returned (.tuple #[.nilIface, .int .i64 0]) ∧ w = w' := by
  have q : (s.size : Int) < 2 := by omega
  go_enter Try.func53, Try.ntmps53
  go_wp2_with fail
  go_ret2
  exact ⟨rfl, rfl⟩
theorem list_three (s : ByteArray) (h : 1 < s.size) : s.data.toList = s[0] :: s[1] :: s.data.toList.drop 2 := by
  obtain ⟨u, e⟩ := list_two s h
  rw [e]; rfl

set_option maxRecDepth 100000 in
set_option maxHeartbeats 1000000 in
theorem first_calls (s : ByteArray) (h1 : 0 < s.size) (hs : s.size ≤ 100000) (w : World) :
    Calls Try.prog 39 #[.string s] w fun e w' => e = oneV (one s.data.toList) ∧ Below w.heap.size w w' := by
  by_cases c0 : (s[0].toNat : Int) = 92
  · have e0 : s[0] = 92 := eq_byte (n := 92) c0
    by_cases hz : s.size = 1
    · have H := Lib.hid (show one s.data.toList = no by
        obtain ⟨t, e⟩ := list_one s h1
        have hl := congrArg List.length e
        rw [size_list, List.length_cons] at hl
        obtain rfl : t = [] := List.eq_nil_of_length_eq_zero (by omega)
        rw [e, e0, one_lone])
      go_enter Try.func39, Try.ntmps39
      go_wp2_with (go_at_call 53; refine (escaped_short s (by omega) _).mono ?_; rintro e w' ⟨rfl, rfl⟩)
      go_ret2
      exact ⟨by rw [H.out]; rfl, Below.refl _ _⟩
    · have H := Lib.hid (show one s.data.toList = esc s[1] (s.data.toList.drop 2) by rw [list_three s (by omega), e0, one_esc]; rfl)
      have HC := Lib.hid (escaped_calls s (by omega) hs)
      unfold oneV at HC
      generalize esc s[1] (s.data.toList.drop 2) = r at *
      clear e0
      go_enter Try.func39, Try.ntmps39
      go_wp2_with (go_at_call 53; refine (HC.out _).mono ?_; rintro e w' ⟨rfl, hb⟩)
      go_ret2
      exact ⟨by rw [H.out]; rfl, hb⟩
  · have e0 : s[0] ≠ 92 := ne_byte (n := 92) c0 (by omega)
    obtain ⟨t, e⟩ := list_one s h1
    by_cases hc : 32 ≤ (s[0].toNat : Int) ∧ (s[0].toNat : Int) ≤ 126
    · obtain ⟨q1, q2⟩ := hc
      have H := Lib.hid (show one s.data.toList = (⟨1, [s[0]], 0⟩, 1) by rw [e]; exact one_plain t (by omega) (by omega) e0)
      have HX := Lib.hid (show s.extract 0 1 = ⟨#[s[0]]⟩ by
        apply ByteArray.ext
        apply Array.toList_inj.1
        simp [ByteArray.data_extract, List.extract_eq_take_drop, e])
      clear e0 e
      go_enter Try.func39, Try.ntmps39
      go_wp2_with fail
      go_ret2
      exact ⟨by rw [H.out, HX.out]; rfl, Below.refl _ _⟩
    · have H := Lib.hid (show one s.data.toList = no by rw [e]; exact one_bad t (fun g => hc ⟨by omega, by omega⟩) e0)
      clear e0 e
      rcases (show (s[0].toNat : Int) < 32 ∨ (32 ≤ (s[0].toNat : Int) ∧ 126 < (s[0].toNat : Int)) by omega) with q | ⟨q, q2⟩
      all_goals
        clear hc
        go_enter Try.func39, Try.ntmps39
        go_wp2_with fail
        go_ret2
        exact ⟨by rw [H.out]; rfl, Below.refl _ _⟩
end Go.Proofs.Ytnkhdpenmekhdaa.Brk
end

section
namespace Go.Proofs.Ytnkhdpenmekhdaa.Brk
open Go.RowKit Go.Proofs.Ytnkhdpenmekhdaa.Digit Go.Proofs.Ytnkhdpenmekhdaa.Own

/-- an op -/
def opV (x : Op) : Value := .agg #[.int .i64 x.k, .string ⟨x.s.toArray⟩, .int .i64 x.n]
def opC (x : Op) : Array Value := #[.int .i64 x.k, .string ⟨x.s.toArray⟩, .int .i64 x.n]
def kd (x : Op) : Int := if x.s = [] then (if x.n = 0 then 3 else if 0 < x.n then 2 else 0) else if x.n = 0 then 1 else 0
theorem Ok.kd {x : Op} (h : Ok x) : kd x = x.k := by
  obtain ⟨k, s, n⟩ := x
  rcases h with ⟨a, b, c⟩ | ⟨a, b, c⟩ | ⟨a, b, c⟩
  · simp only at a b c; subst a c; simp [Brk.kd, b]
  · simp only at a b c; subst a b; simp [Brk.kd]; omega
  · simp only at a b c; subst a b c; simp [Brk.kd]
theorem ok_kd {x : Op} (h : x.k = kd x) (h0 : x.k ≠ 0) : Ok x := by
  obtain ⟨k, s, n⟩ := x
  simp only [Brk.kd] at h h0
  by_cases hs : s = []
  · rw [if_pos hs] at h
    by_cases hn : n = 0
    · rw [if_pos hn] at h; exact .inr (.inr ⟨h, hs, hn⟩)
    · rw [if_neg hn] at h
      by_cases hp : 0 < n
      · rw [if_pos hp] at h; exact .inr (.inl ⟨h, hs, hp⟩)
      · rw [if_neg hp] at h; exact absurd h h0
  · rw [if_neg hs] at h
    by_cases hn : n = 0
    · rw [if_pos hn] at h; exact .inl ⟨h, hs, hn⟩
    · rw [if_neg hn] at h; exact absurd h h0

set_option maxRecDepth 100000 in
set_option maxHeartbeats 1000000 in
theorem kind_calls (k : Int) (s : List UInt8) (n : Int) (w : World) :
    Calls Try.prog 55 #[.agg #[.int .i64 k, .string ⟨s.toArray⟩, .int .i64 n]] w fun e w' => e = .returned (.int .i64 (kd ⟨k, s, n⟩)) ∧ Below w.heap.size w w' := by
  by_cases hs : s = []
  · by_cases hn : n = 0
    · have H := Lib.hid (show kd ⟨k, s, n⟩ = 3 by rw [kd, if_pos hs, if_pos hn])
      subst hs hn
      go_enter Try.func55, Try.ntmps55
      go_wp2_with fail
      go_ret
      exact ⟨by rw [H.out]; rfl, (Below.refl _ _).alloc (Nat.le_refl _) _⟩
    · by_cases hp : 0 < n
      · have H := Lib.hid (show kd ⟨k, s, n⟩ = 2 by rw [kd, if_pos hs, if_neg hn, if_pos hp])
        have b : (n == 0) = false := by simpa using hn
        subst hs
        clear hn
        go_enter Try.func55, Try.ntmps55
        go_wp2_with fail
        go_ret
        exact ⟨by rw [H.out]; rfl, (Below.refl _ _).alloc (Nat.le_refl _) _⟩
      · have H := Lib.hid (show kd ⟨k, s, n⟩ = 0 by rw [kd, if_pos hs, if_neg hn, if_neg hp])
        have b : (n == 0) = false := by simpa using hn
        subst hs
        clear hn
        go_enter Try.func55, Try.ntmps55
        go_wp2_with fail
        go_ret
        exact ⟨by rw [H.out]; rfl, (Below.refl _ _).alloc (Nat.le_refl _) _⟩
  · have b0 : s.isEmpty = false := by simpa using hs
    by_cases hn : n = 0
    · have H := Lib.hid (show kd ⟨k, s, n⟩ = 1 by rw [kd, if_neg hs, if_pos hn])
      subst hn
      clear hs
      go_enter Try.func55, Try.ntmps55
      go_wp2_with fail
      go_ret
      exact ⟨by rw [H.out]; rfl, (Below.refl _ _).alloc (Nat.le_refl _) _⟩
    · have H := Lib.hid (show kd ⟨k, s, n⟩ = 0 by rw [kd, if_neg hs, if_neg hn])
      have b : (n == 0) = false := by simpa using hn
      clear hs hn
      go_enter Try.func55, Try.ntmps55
      go_wp2_with fail
      go_ret
      exact ⟨by rw [H.out]; rfl, (Below.refl _ _).alloc (Nat.le_refl _) _⟩
theorem isOne_iff (x y : Op) : isOne x y = true ↔ x.k = y.k ∧ x.k ≠ 3 := by simp [isOne]
set_option maxRecDepth 100000 in
set_option maxHeartbeats 1000000 in
theorem one_calls (x y : Op) (w : World) :
    Calls Try.prog 54 #[.agg #[.int .i64 x.k, .string ⟨x.s.toArray⟩, .int .i64 x.n], .agg #[.int .i64 y.k, .string ⟨y.s.toArray⟩, .int .i64 y.n]] w fun e w' => e = .returned (.bool (isOne x y)) ∧ Below w.heap.size w w' := by
  have HB := Lib.hid (((Below.refl w.heap.size w).alloc (Nat.le_refl _) (.cells #[.int .i64 x.k, .string ⟨x.s.toArray⟩, .int .i64 x.n] 64 (0, 0))).alloc (by simp) (.cells #[.int .i64 y.k, .string ⟨y.s.toArray⟩, .int .i64 y.n] 64 (0, 0)))
  by_cases h : x.k = y.k
  · have b : (x.k == y.k) = true := by simpa using h
    by_cases h3 : x.k = 3
    · have H := Lib.hid (show isOne x y = false by rw [isOne, b, h3]; rfl)
      have b3 : (x.k != 3) = false := by simp [h3]
      have b4 : (x.k == 3) = true := by simp [h3]
      clear h h3
      go_enter Try.func54, Try.ntmps54
      go_wp2_with fail
      go_ret
      exact ⟨by rw [H.out]; rfl, HB.out⟩
    · have b3 : (x.k != 3) = true := by simp [h3]
      have b4 : (x.k == 3) = false := by simp [h3]
      have H := Lib.hid (show isOne x y = true by rw [isOne, b, b3]; rfl)
      clear h h3
      go_enter Try.func54, Try.ntmps54
      go_wp2_with fail
      go_ret
      exact ⟨by rw [H.out]; rfl, HB.out⟩
  · have b : (x.k == y.k) = false := by simpa using h
    have H := Lib.hid (show isOne x y = false by rw [isOne, b]; rfl)
    clear h
    go_enter Try.func54, Try.ntmps54
    go_wp2_with fail
    go_ret
    exact ⟨by rw [H.out]; rfl, HB.out⟩

/-- the step that an op tells, if any -/
def stepV (x : Op) : Value := if x.k = kd x then stV x else .nilIface
def stepB (x : Op) : Bool := x.k == kd x && x.k != 0
theorem stepB_iff (x : Op) : stepB x = true ↔ Ok x := by
  constructor
  · intro h
    simp only [stepB, Bool.and_eq_true, beq_iff_eq, bne_iff_ne] at h
    exact ok_kd h.1 h.2
  · intro h
    have e := h.kd
    simp only [stepB, Bool.and_eq_true, beq_iff_eq, bne_iff_ne]
    refine ⟨e.symm, ?_⟩
    rcases h with ⟨a, _⟩ | ⟨a, _⟩ | ⟨a, _⟩ <;> omega
theorem kd_bd (x : Op) : kd x = 0 ∨ kd x = 1 ∨ kd x = 2 ∨ kd x = 3 := by
  unfold kd
  split
  · split
    · simp
    · split <;> simp
  · split <;> simp
theorem held3 {w w' : World} {g o : Nat} {x y z : Value} (hb : Below w.heap.size w w') (hl : g < w.heap.size) (h0 : w.cell? ⟨g, o, none⟩ = some x) (h1 : w.cell? ⟨g, o + 1, none⟩ = some y) (h2 : w.cell? ⟨g, o + 2, none⟩ = some z) :
    Below w.heap.size w w' ∧ w'.cell? ⟨g, o, none⟩ = some x ∧ w'.cell? ⟨g, o + 1, none⟩ = some y ∧ w'.cell? ⟨g, o + 2, none⟩ = some z :=
  ⟨hb, (hb.cell (p := ⟨g, o, none⟩) hl).trans h0, (hb.cell (p := ⟨g, o + 1, none⟩) hl).trans h1, (hb.cell (p := ⟨g, o + 2, none⟩) hl).trans h2⟩

end Go.Proofs.Ytnkhdpenmekhdaa.Brk
end

section
namespace Go.Proofs.Ytnkhdpenmekhdaa.Brk
open Go.RowKit Go.Proofs.Ytnkhdpenmekhdaa.Digit Go.Proofs.Ytnkhdpenmekhdaa.Own

theorem as_send (v : Value) (w : World) : (Instr.typeAssert (.iface 99 v) 79 99 true).run Try.prog w = .ok (.tuple #[v, .bool true]) w := by kernel_rfl
theorem as_wait (v : Value) (w : World) : (Instr.typeAssert (.iface 101 v) 79 101 true).run Try.prog w = .ok (.tuple #[v, .bool true]) w := by kernel_rfl
theorem as_pulse (v : Value) (w : World) : (Instr.typeAssert (.iface 103 v) 79 103 true).run Try.prog w = .ok (.tuple #[v, .bool true]) w := by kernel_rfl
theorem wait_send (v : Value) (w : World) : (Instr.typeAssert (.iface 101 v) 79 99 true).run Try.prog w = .ok (.tuple #[.string ⟨#[]⟩, .bool false]) w := by kernel_rfl
theorem pulse_send (v : Value) (w : World) : (Instr.typeAssert (.iface 103 v) 79 99 true).run Try.prog w = .ok (.tuple #[.string ⟨#[]⟩, .bool false]) w := by kernel_rfl
theorem pulse_wait (v : Value) (w : World) : (Instr.typeAssert (.iface 103 v) 79 101 true).run Try.prog w = .ok (.tuple #[.int .i64 0, .bool false]) w := by kernel_rfl

set_option maxRecDepth 100000 in
set_option maxHeartbeats 2000000 in
theorem op_send (s : List UInt8) (hs : s ≠ []) (w : World) :
    Calls Try.prog 41 #[.iface 99 (.string ⟨s.toArray⟩)] w fun e w' => e = .returned (.agg #[.int .i64 1, .string ⟨s.toArray⟩, .int .i64 0]) ∧ Below w.heap.size w w' := by
  have HC := Lib.hid (kind_calls 0 s 0)
  rw [show kd ⟨0, s, 0⟩ = 1 by simp [kd, hs]] at HC
  have f1 := as_send (.string ⟨s.toArray⟩)
  clear hs
  go_enter Try.func41, Try.ntmps41
  go_wp2_with fail
  refine (HC.out _).mono ?_
  rintro e w1 ⟨rfl, hb1⟩
  have r0 := (hb1.block w.heap.size (by simp; omega)).trans (at_old (w.alloc _) _ (at_new w _))
  have r1 := (hb1.block (w.heap.size + 1) (by simp)).trans (at_newk (w.alloc _) _ (by simp))
  have B1 := Lib.hid ((((Below.refl w.heap.size w).alloc (Nat.le_refl _) _).alloc (by simp) _).trans (hb1.mono (by simp; omega)))
  clear hb1
  obtain ⟨a0, a1, a2⟩ := row3 r0
  obtain ⟨c0, c1, c2⟩ := row3 r1
  obtain ⟨d0, d1, d2⟩ := frz3 r0
  obtain ⟨e0, e1, e2⟩ := frz3 r1
  have l0 := at_lt r0
  have l1 := at_lt r1
  have R0 := Lib.hid r0
  clear r0 r1
  go_wp2_with fail
  have hrow := at_set (at_set (at_set ((at_set_other w1 (b := w.heap.size + 1) (k := w.heap.size) (by omega) 0 (.int .i64 1)).trans R0.out) 0 (.int .i64 1)) 1 (.string ⟨s.toArray⟩)) 2 (.int .i64 0)
  refine bodyPost_ret (results_cell_row rfl _ _ w.heap.size _ #[.int .i64 1, .string ⟨s.toArray⟩, .int .i64 0] _ _ rfl hrow Try.underlying64 rfl (by kernel_rfl)) rfl ?_
  exact ⟨rfl, (((B1.out.setCell (by simp) _).setCell (by simp) _).setCell (by simp) _).setCell (by simp) _⟩
set_option maxRecDepth 100000 in
set_option maxHeartbeats 2000000 in
theorem op_wait (n : Int) (hn : 0 < n) (w : World) :
    Calls Try.prog 41 #[.iface 101 (.int .i64 n)] w fun e w' => e = .returned (.agg #[.int .i64 2, .string ⟨#[]⟩, .int .i64 n]) ∧ Below w.heap.size w w' := by
  have HC := Lib.hid (kind_calls 0 [] n)
  rw [show kd ⟨0, [], n⟩ = 2 by rw [kd, if_pos rfl, if_neg (by show ¬ n = 0; omega), if_pos hn]] at HC
  have f1 := as_wait (.int .i64 n)
  have f2 := wait_send (.int .i64 n)
  go_enter Try.func41, Try.ntmps41
  go_wp2_with fail
  refine (HC.out _).mono ?_
  rintro e w1 ⟨rfl, hb1⟩
  have r0 := (hb1.block w.heap.size (by simp; omega)).trans (at_old (w.alloc _) _ (at_new w _))
  have r1 := (hb1.block (w.heap.size + 1) (by simp)).trans (at_newk (w.alloc _) _ (by simp))
  have B1 := Lib.hid ((((Below.refl w.heap.size w).alloc (Nat.le_refl _) _).alloc (by simp) _).trans (hb1.mono (by simp; omega)))
  clear hb1
  obtain ⟨a0, a1, a2⟩ := row3 r0
  obtain ⟨c0, c1, c2⟩ := row3 r1
  obtain ⟨d0, d1, d2⟩ := frz3 r0
  obtain ⟨e0, e1, e2⟩ := frz3 r1
  have l0 := at_lt r0
  have l1 := at_lt r1
  have R0 := Lib.hid r0
  clear r0 r1
  go_wp2_with fail
  have hrow := at_set (at_set (at_set ((at_set_other w1 (b := w.heap.size + 1) (k := w.heap.size) (by omega) 0 (.int .i64 2)).trans R0.out) 0 (.int .i64 2)) 1 (.string ⟨#[]⟩)) 2 (.int .i64 n)
  refine bodyPost_ret (results_cell_row rfl _ _ w.heap.size _ #[.int .i64 2, .string ⟨#[]⟩, .int .i64 n] _ _ rfl hrow Try.underlying64 rfl (by kernel_rfl)) rfl ?_
  exact ⟨rfl, (((B1.out.setCell (by simp) _).setCell (by simp) _).setCell (by simp) _).setCell (by simp) _⟩
set_option maxRecDepth 100000 in
set_option maxHeartbeats 2000000 in
theorem op_pulse (w : World) :
    Calls Try.prog 41 #[.iface 103 (.agg #[])] w fun e w' => e = .returned (.agg #[.int .i64 3, .string ⟨#[]⟩, .int .i64 0]) ∧ Below w.heap.size w w' := by
  have HC := Lib.hid (kind_calls 0 [] 0)
  rw [show kd ⟨0, [], 0⟩ = 3 by rfl] at HC
  have f1 := as_pulse (.agg #[])
  have f2 := pulse_send (.agg #[])
  have f3 := pulse_wait (.agg #[])
  go_enter Try.func41, Try.ntmps41
  go_wp2_with fail
  refine (HC.out _).mono ?_
  rintro e w1 ⟨rfl, hb1⟩
  have r0 := (hb1.block w.heap.size (by simp; omega)).trans (at_old ((w.alloc _).alloc _) _ (at_old (w.alloc _) _ (at_new w _)))
  have r1 := (hb1.block (w.heap.size + 1) (by simp)).trans (at_old ((w.alloc _).alloc _) _ (at_newk (w.alloc _) _ (by simp)))
  have B1 := Lib.hid (((((Below.refl w.heap.size w).alloc (Nat.le_refl _) _).alloc (by simp) _).alloc (by simp; omega) _).trans (hb1.mono (by simp; omega)))
  clear hb1
  obtain ⟨a0, a1, a2⟩ := row3 r0
  obtain ⟨c0, c1, c2⟩ := row3 r1
  obtain ⟨d0, d1, d2⟩ := frz3 r0
  obtain ⟨e0, e1, e2⟩ := frz3 r1
  have l0 := at_lt r0
  have l1 := at_lt r1
  have R0 := Lib.hid r0
  clear r0 r1
  go_wp2_with fail
  have hrow := at_set (at_set (at_set ((at_set_other w1 (b := w.heap.size + 1) (k := w.heap.size) (by omega) 0 (.int .i64 3)).trans R0.out) 0 (.int .i64 3)) 1 (.string ⟨#[]⟩)) 2 (.int .i64 0)
  refine bodyPost_ret (results_cell_row rfl _ _ w.heap.size _ #[.int .i64 3, .string ⟨#[]⟩, .int .i64 0] _ _ rfl hrow Try.underlying64 rfl (by kernel_rfl)) rfl ?_
  exact ⟨rfl, (((B1.out.setCell (by simp) _).setCell (by simp) _).setCell (by simp) _).setCell (by simp) _⟩
theorem op_calls (x : Op) (h : Ok x) (w : World) :
    Calls Try.prog 41 #[stV x] w fun e w' => e = .returned (.agg #[.int .i64 x.k, .string ⟨x.s.toArray⟩, .int .i64 x.n]) ∧ Below w.heap.size w w' := by
  obtain ⟨k, s, n⟩ := x
  rcases h with ⟨a, b, c⟩ | ⟨a, b, c⟩ | ⟨a, b, c⟩
  · simp only at a b c; subst a c; exact op_send s b w
  · simp only at a b c; subst a b; exact op_wait n (by omega) w
  · simp only at a b c; subst a b c; exact op_pulse w
end Go.Proofs.Ytnkhdpenmekhdaa.Brk
end

section
namespace Go.Proofs.Ytnkhdpenmekhdaa.Brk
open Go.RowKit Go.Proofs.Ytnkhdpenmekhdaa.Digit Go.Proofs.Ytnkhdpenmekhdaa.Own

def BPost (w : World) (B : Nat) (acc : List Op) (x : Op) (e : Ending) (w' : World) : Prop := ∃ v, e = .returned v ∧ Mine w' B v (bhd acc x) ∧ Below B w w'

theorem cell_alloc' {w : World} {a : Addr} {x : Value} (h : w.cell? a = some x) (o : Obj) : (w.alloc o).cell? a = some x :=
  (World.cell?_of_block (Below.heap_alloc w o a.block (World.block_lt_of_cell? w a h))).trans h
theorem held6 {w w' : World} {g o b : Nat} {x y z x' y' z' : Value} (hb : Below w.heap.size w w') (hl : g < w.heap.size) (hl' : b < w.heap.size)
    (h0 : w.cell? ⟨g, o, none⟩ = some x) (h1 : w.cell? ⟨g, o + 1, none⟩ = some y) (h2 : w.cell? ⟨g, o + 2, none⟩ = some z)
    (k0 : w.cell? ⟨b, 0, none⟩ = some x') (k1 : w.cell? ⟨b, 1, none⟩ = some y') (k2 : w.cell? ⟨b, 2, none⟩ = some z') :
    Below w.heap.size w w' ∧ w'.cell? ⟨g, o, none⟩ = some x ∧ w'.cell? ⟨g, o + 1, none⟩ = some y ∧ w'.cell? ⟨g, o + 2, none⟩ = some z ∧ w'.cell? ⟨b, 0, none⟩ = some x' ∧ w'.cell? ⟨b, 1, none⟩ = some y' ∧ w'.cell? ⟨b, 2, none⟩ = some z' :=
  ⟨hb, (hb.cell (p := ⟨g, o, none⟩) hl).trans h0, (hb.cell (p := ⟨g, o + 1, none⟩) hl).trans h1, (hb.cell (p := ⟨g, o + 2, none⟩) hl).trans h2,
    (hb.cell (p := ⟨b, 0, none⟩) hl').trans k0, (hb.cell (p := ⟨b, 1, none⟩) hl').trans k1, (hb.cell (p := ⟨b, 2, none⟩) hl').trans k2⟩

set_option maxRecDepth 100000 in
set_option maxHeartbeats 4000000 in
theorem behind_nil (x : Op) (B : Nat) (v : Value) (w : World) (h : Mine w B v []) (hB : B ≤ w.heap.size) :
    Calls Try.prog 40 #[v, .agg #[.int .i64 x.k, .string ⟨x.s.toArray⟩, .int .i64 x.n]] w (BPost w B [] x) := by
  obtain ⟨i0, hi, hz0, hz1, hz2⟩ := info_parts info_op
  obtain ⟨p, c, rfl, hc, hm⟩ := mine_form h
  have HO := Lib.hid h
  unfold maxLen at hm
  have e0 : (([] : List Op).length) = 0 := rfl
  rw [e0] at hc ⊢
  clear h
  go_enter Try.func40, Try.ntmps40
  go_wp2_with fail
  go_quiet (fail)
  have hn0 : ((w.alloc (.cells #[.int .i64 x.k, .string ⟨x.s.toArray⟩, .int .i64 x.n] 64)).drewN nq).heap[w.heap.size]? = some (.cells #[.int .i64 x.k, .string ⟨x.s.toArray⟩, .int .i64 x.n] 64 (0, 0)) := at_new w _
  have HOW := Lib.hid (show ((w.alloc (.cells #[.int .i64 x.k, .string ⟨x.s.toArray⟩, .int .i64 x.n] 64)).drewN nq).ownsRow B 64 3 (.slice p 0 c) 0 [] from World.ownsRow.alloc HO.out _)
  have HBW := Lib.hid (show Below B w ((w.alloc (.cells #[.int .i64 x.k, .string ⟨x.s.toArray⟩, .int .i64 x.n] 64)).drewN nq) from below_drew ((Below.refl B w).alloc hB _))
  generalize (w.alloc (.cells #[.int .i64 x.k, .string ⟨x.s.toArray⟩, .int .i64 x.n] 64)).drewN nq = W at *
  generalize hbb : w.heap.size = b at hn0 ⊢
  clear hbb
  obtain ⟨d0, d1, d2⟩ := row3 hn0
  have hs5 := HBW.out.size
  have hBW : B ≤ W.heap.size := Nat.le_trans hB hs5
  have lb := at_lt hn0
  clear hn0
  go_wp2_with (at_builtin; refine Own.append_any rfl (.tmp 20) (.tmp 22) 30 rfl B 64 i0 _ 3 32 Try.underlying30 hi hz0 hz1 hz2 rfl (by decide) _ _ _ rfl (World.ownsRow.alloc HOW.out _) _ 1 1 [.int .i64 x.k, .string ⟨x.s.toArray⟩, .int .i64 x.n] rfl (fun h => nomatch h) rfl (Own.three_new _ _ _ _ _ _ (by simp)) (by simp [Value.oneCell']) (by unfold maxLen; omega) (by omega) (by simp; omega) ?_; intro v' w1 hown1 hgrow1)
  have M1 := Lib.hid (mine_more (L := []) hown1 rfl)
  have B1 := Lib.hid ((HBW.out.alloc hBW _).grown hgrow1 (by simp; omega) (fun k hk => (World.ownsRow.lt HOW.out k hk).1))
  clear hown1 hgrow1
  go_wp2_with fail
  go_ret
  exact ⟨_, rfl, M1.out, B1.out⟩
set_option maxRecDepth 100000 in
set_option maxHeartbeats 4000000 in
theorem behind_more (L : List Op) (y x : Op) (hL : L.length ≤ 1000000) (B : Nat) (v : Value) (w : World) (h : Mine w B v (L ++ [y])) (hB : B ≤ w.heap.size)
    (hs : y.s.length ≤ 1000000) (hs' : x.s.length ≤ 1000000) (hn : 0 ≤ y.n ∧ y.n ≤ 1099511627776) (hn' : 0 ≤ x.n ∧ x.n ≤ 1099511627776) :
    Calls Try.prog 40 #[v, .agg #[.int .i64 x.k, .string ⟨x.s.toArray⟩, .int .i64 x.n]] w (BPost w B (L ++ [y]) x) := by
  obtain ⟨i0, hi, hz0, hz1, hz2⟩ := info_parts info_op
  obtain ⟨g, c, rfl, hBg, hg, hc, hm, a0, a1, a2, f0, f1, f2⟩ := mine_last h
  have HO := Lib.hid h
  unfold maxLen at hm
  obtain ⟨m, hmm⟩ : ∃ m, L.length = m := ⟨_, rfl⟩
  rw [hmm] at hL hc a0 a1 a2 f0 f1 f2
  obtain ⟨n, hnn⟩ : ∃ n, n = m + 1 := ⟨_, rfl⟩
  have hln : (L ++ [y]).length = n := by rw [List.length_append, List.length_singleton]; omega
  rw [hmm, ← hnn] at HO
  unfold Mine at HO
  rw [hln] at HO
  rw [hmm, ← hnn]
  rw [← hnn] at hc
  have q1 : m < n := by omega
  have q2 : n ≤ 1000001 := by omega
  have q3 : ((n : Int) - 1) = (m : Int) := by omega
  have q4 : decide ((m : Int) < 0) = false := decide_eq_false (by omega)
  have HM := Lib.hid hmm
  have HNN := Lib.hid hnn
  have HLN := Lib.hid hln.symm
  obtain ⟨xk, xs, xn⟩ := x
  obtain ⟨yk, ys, yn⟩ := y
  simp only at a0 a1 a2 hs hs' hn hn'
  have HI := Lib.hid (one_calls ⟨yk, ys, yn⟩ ⟨xk, xs, xn⟩)
  show Calls Try.prog 40 #[.slice (some ⟨g, 0, none⟩) n c, .agg #[.int .i64 xk, .string ⟨xs.toArray⟩, .int .i64 xn]] w _
  obtain ⟨bo, hbo⟩ : ∃ bo, isOne ⟨yk, ys, yn⟩ ⟨xk, xs, xn⟩ = bo := ⟨_, rfl⟩
  rw [hbo] at HI
  have HBO := Lib.hid hbo
  clear hbo h hmm hnn hln
  have HN := Lib.hid (at_new w (.cells #[.int .i64 xk, .string ⟨xs.toArray⟩, .int .i64 xn] 64 (0, 0)))
  have HOB := Lib.hid (World.ownsRow.alloc HO.out (.cells #[.int .i64 xk, .string ⟨xs.toArray⟩, .int .i64 xn] 64 (0, 0)))
  have HBW := Lib.hid ((Below.refl B w).alloc hB (.cells #[.int .i64 xk, .string ⟨xs.toArray⟩, .int .i64 xn] 64 (0, 0)))
  replace a0 := cell_alloc' a0 (.cells #[.int .i64 xk, .string ⟨xs.toArray⟩, .int .i64 xn] 64 (0, 0))
  replace a1 := cell_alloc' a1 (.cells #[.int .i64 xk, .string ⟨xs.toArray⟩, .int .i64 xn] 64 (0, 0))
  replace a2 := cell_alloc' a2 (.cells #[.int .i64 xk, .string ⟨xs.toArray⟩, .int .i64 xn] 64 (0, 0))
  clear f0 f1 f2
  go_enter Try.func40, Try.ntmps40
  go_wp2_with fail
  generalize hW : w.alloc (.cells #[.int .i64 xk, .string ⟨xs.toArray⟩, .int .i64 xn] 64 (0, 0)) = W at HN HOB HBW a0 a1 a2 ⊢
  have hgW : g < W.heap.size := by rw [← hW]; simp; omega
  clear hW
  have hlb := at_lt HN.out
  obtain ⟨d0, d1, d2⟩ := row3 HN.out
  have hgb : g ≠ w.heap.size := by omega
  generalize hbb : w.heap.size = b at HN d0 d1 d2 hlb hgb ⊢
  have hs5 := HBW.out.size
  have hBW : B ≤ W.heap.size := by omega
  clear hbb hB hg
  go_region_held3 (fun w' => Below W.heap.size W w' ∧ w'.cell? ⟨g, m * 3, none⟩ = some (.int .i64 yk) ∧ w'.cell? ⟨g, m * 3 + 1, none⟩ = some (.string ⟨ys.toArray⟩) ∧ w'.cell? ⟨g, m * 3 + 2, none⟩ = some (.int .i64 yn) ∧ w'.cell? ⟨b, 0, none⟩ = some (.int .i64 xk) ∧ w'.cell? ⟨b, 1, none⟩ = some (.string ⟨xs.toArray⟩) ∧ w'.cell? ⟨b, 2, none⟩ = some (.int .i64 xn))
    (first
      | exact held6 (below_drew (Below.refl _ _)) hgW hlb a0 a1 a2 d0 d1 d2
      | exact held6 hb5 hgW hlb a0 a1 a2 d0 d1 d2)
    (first
      | (go_at_call 54; go_split_ands; refine (HI.out _).mono ?_; rintro e w5 ⟨rfl, hb5⟩; replace hb5 := Below.trans (by assumption) (hb5.mono (Below.size (by assumption)))))
  obtain ⟨-, c0, c1, c2, e0, e1, e2⟩ := held6 hb5 hgW hlb a0 a1 a2 d0 d1 d2
  have HOW := Lib.hid (own_below HOB.out hb5)
  have HB5 := Lib.hid (HBW.out.trans (hb5.mono (by omega)))
  have hs6 := hb5.size
  have hg5 : g < w5.heap.size := by omega
  have hb5l : b < w5.heap.size := by omega
  have hB5 : B ≤ w5.heap.size := by omega
  rename_i hH
  clear hH
  clear a0 a1 a2 d0 d1 d2 hb5 HN HOB HBW q4 HO
  cases bo with
  | false =>
    clear c0 c1 c2
    go_wp2_with (at_builtin; refine Own.append_any rfl (.tmp 20) (.tmp 22) 30 rfl B 64 i0 _ 3 32 Try.underlying30 hi hz0 hz1 hz2 rfl (by decide) _ _ _ rfl (World.ownsRow.alloc HOW.out _) _ 1 1 [.int .i64 xk, .string ⟨xs.toArray⟩, .int .i64 xn] rfl (fun h => nomatch h) rfl (Own.three_new _ _ _ _ _ _ (by simp)) (by simp [Value.oneCell']) (by unfold maxLen; omega) (by omega) (by simp; omega) ?_; intro v' w1 hown1 hgrow1)
    have M1 := Lib.hid (mine_more (x := ⟨xk, xs, xn⟩) hown1 HLN.out)
    have B1 := Lib.hid ((HB5.out.alloc hB5 _).grown hgrow1 (by simp; omega) (fun k hk => (World.ownsRow.lt HOW.out k hk).1))
    clear hown1 hgrow1
    go_wp2_with fail
    go_ret
    exact ⟨_, rfl, by rw [bhd_two HBO.out]; exact M1.out, B1.out⟩
  | true =>
    have f0 := World.ownsRow.frozenAt HOW.out (m * 3)
    have f1 := World.ownsRow.frozenAt HOW.out (m * 3 + 1)
    have f2 := World.ownsRow.frozenAt HOW.out (m * 3 + 2)
    have hz : ys.length + xs.length ≤ 2000000 := by omega
    go_wp2_with fail
    go_region
    go_wp2_with fail
    go_region
    go_wp2_with fail
    go_ret
    have s1 := (World.ownsRow.stored HOW.out (m * 3 + 1) (.string ⟨(ys ++ xs).toArray⟩)).1
    rw [← HM.out, ov_set1 L ⟨yk, ys, yn⟩ (ys ++ xs)] at s1
    have s2 := (World.ownsRow.stored s1 (L.length * 3 + 2) (.int .i64 (yn + xn))).1
    rw [ov_set2 L ⟨yk, ys ++ xs, yn⟩ (yn + xn)] at s2
    refine ⟨_, rfl, ?_, ?_⟩
    · rw [bhd_one HBO.out, bytes_add]
      unfold Mine
      rw [show (L ++ [glue ⟨yk, ys, yn⟩ ⟨xk, xs, xn⟩]).length = n by rw [HLN.out]; simp, ← HM.out]
      exact s2
    · exact ((HB5.out.setCell hBg _).setCell hBg _).drew.drew
theorem behind_calls (acc : List Op) (x : Op) (hL : acc.length ≤ 1000000) (B : Nat) (v : Value) (w : World) (h : Mine w B v acc) (hB : B ≤ w.heap.size)
    (hs : ∀ y ∈ acc, y.s.length ≤ 1000000 ∧ 0 ≤ y.n ∧ y.n ≤ 1099511627776) (hs' : x.s.length ≤ 1000000) (hn' : 0 ≤ x.n ∧ x.n ≤ 1099511627776) :
    Calls Try.prog 40 #[v, .agg #[.int .i64 x.k, .string ⟨x.s.toArray⟩, .int .i64 x.n]] w (BPost w B acc x) := by
  rcases snoc_cases acc with rfl | ⟨L, y, rfl⟩
  · exact behind_nil x B v w h hB
  · obtain ⟨a, b⟩ := hs y (by simp)
    exact behind_more L y x (by simp at hL; omega) B v w h hB a hs' b hn'
end Go.Proofs.Ytnkhdpenmekhdaa.Brk
end


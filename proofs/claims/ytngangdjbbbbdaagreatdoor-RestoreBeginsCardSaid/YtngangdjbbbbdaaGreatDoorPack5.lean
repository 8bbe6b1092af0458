/-
A range over a function whose rounds never leave the loop, and whose loop variables hold what lies in memory: what an iterator hands to a round is told together with the world of that round.
Layer 23 (restore): the generations of a log, told one by one (an iterator), inside a fence.
Layer 2 (digit): the program's Read, walked.
Layer 23 (restore): lost; Load, a range over a function.
Layer 23 (restore): Load, a range over a function.
Layer 5 (tail), plain: the last lines of a text.
Layer 5 (tail): texts cut from a place on.
Layer 5 (tail): the program's lastLines.
Layer 4 (ring): the plain mathematics of bytes that stand around the end of their places.
Layer 4 (ring): the program's rooms: Len, Room, Gone, within, around, walked.
Layer 4 (ring): the program's within, fill, walked.
-/
import Derived.Test.YtngangdjbbbbdaaGreatDoorPack4
import Derived.RangeFuncNested
import Derived.RangeFuncBound
import Derived.RangeFuncCalls
import Derived.RangeFuncLeaves
import Derived.Shelf.Abstract
import Derived.Shelf.RegionOpen
import Derived.WalkKit
import Derived.OwnWalkIn
import Derived.TacticsInMore
import Derived.LoopNIn
import Derived.LoopIn
import Derived.Maps.AppendAt
import Derived.Test.YtngangdjbbbbdaaGreatDoorProg
import Derived.Deep.QuietTactic
import Derived.BigQuiet
import Derived.Deep.RegionHeld3
section
namespace Go.Proofs.YtngangdjbbbbdaaGreatDoor.Rng
open Go Go.RowKit

def Rcd (fn : FuncId) (tmps : Array Value) (ps : Array Tmp) (assign body : Code) (D : Nat) (st : LoopState) : Loop := { state := st, pending := none, fn := fn, tmps := tmps, params := ps, assign := assign, body := body, defers := D }
/-- blocks that are no cells may turn -/
def Turns (Kp : World → World → Prop) : Prop := ∀ (A : World) (k : Nat) (o o' : Obj), A.heap[k]? = some o → o.isCells = false → Kp A (A.putObj k o')
section
variable {P : Program} {α : Type} {n : Nat} {g : Operand} {ps : Array Tmp} {assign body : Code} {Q : Exit → Act → World → Prop} {a : Act} {w : World} {gf : Nat} {lb : Array Value}
/-- what an iterator does, whatever the rounds keep -/
def Gives (n : Nat) (P : Program) (gf : Nat) (lb : Array Value) (encs : α → Array Value) (M : α → World → Prop) (Kp : World → World → Prop) (N : Nat) (S : List α → Prop) (w : World) : Prop :=
  ∀ (l : Nat) (J : List α → World → Prop) (W : World), Below w.heap.size w W → (∀ pre A B, J pre A → Below A.heap.size A B → J pre B) →
    (∀ pre x W1, J pre W1 → M x W1 → pre.length < N → YieldAt Fence.wide (n - 1) P l (encs x) W1 fun e W' => e = .returned (.bool true) ∧ J (pre ++ [x]) W' ∧ Kp W1 W') →
    J [] W → CallsIn Fence.wide n P gf (#[.func (.yield l) #[] #[]] ++ lb) W fun e W' => (∃ v, e = .returned v) ∧ ∃ xs, S xs ∧ J xs W'
theorem range_mem (h1 : 1 ≤ n) (hg : a.eval g = .func (.func gf) #[] lb) (eg : ∀ args w, (callFunc gf args).run P w = .ok (.enter gf args) w) {encs : α → Array Value} (hps : ∀ x, (encs x).size = ps.size)
    {M : α → World → Prop} {Kp : World → World → Prop} {N : Nat} {S : List α → Prop} (hseq : Gives (n - 1) P gf lb encs M Kp N S w)
    (hM : ∀ x, Turns fun A B => M x A → M x B) (hKt : ∀ A B C, Kp A B → Kp B C → Kp A C) (hKb : Turns Kp)
    (I : List α → World → Prop) (hIb : ∀ pre A B, I pre A → Below A.heap.size A B → I pre B) (hIp : ∀ pre (A : World) k o o', w.heap.size ≤ k → A.heap[k]? = some o → o.isCells = false → I pre A → I pre (A.putObj k o'))
    (h0 : I [] w) (a1 : α → Act)
    (hassign : ∀ (l : Nat) (x : α) (W : World) (K : Act → World → Prop), K (a1 x) W → assign.wpIn (Fence.wide.inRound l) (n - 1 - 1) P (Exit.then K (fun _ _ _ => False)) { tmps := (ps.zip (encs x)).foldl (fun t (p, v) => t.setIfInBounds p v) a.tmps, defers := [] } W)
    (hbody : ∀ (l : Nat) (pre : List α) (x : α) (W : World), I pre W → M x W → pre.length < N → body.wpIn (Fence.wide.inRound l) (n - 1 - 1) P (fun e _ W' => e = .normal ∧ KeepsFrom w.heap.size W W' ∧ Kp W W' ∧ I (pre ++ [x]) W') (a1 x) W)
    (hdone : ∀ (D : Nat) (xs : List α) (W : World), w.heap.size ≤ D → S xs → I xs W → W.heap[D]? = some (.deferred (some [])) → Q .normal { a with defers := { target := .collected D, args := #[] } :: a.defers } W) :
    (Code.rangeFunc g ps assign body).wpIn Fence.wide n P Q a w := by
  refine wpIn_rangeFunc fun fn hfn => ?_
  obtain ⟨R, hR⟩ : ∃ R : LoopState → Loop, R = Rcd fn a.tmps ps assign body w.heap.size := ⟨_, rfl⟩
  obtain ⟨W1, hW1⟩ : ∃ W1, (w.alloc (.deferred (some []))).alloc (.loop (R .ready)) = W1 := ⟨_, rfl⟩
  have bW : Below w.heap.size w W1 := by rw [← hW1]; exact ((Below.refl _ w).alloc (Nat.le_refl _) _).alloc (by simp) _
  have l1 : W1.heap[w.heap.size + 1]? = some (.loop (R .ready)) := by
    rw [← hW1]; have := World.alloc_heap_new (w.alloc (.deferred (some []))) (.loop (R .ready)); rwa [World.size_alloc] at this
  have d1 : W1.heap[w.heap.size]? = some (.deferred (some [])) := by
    rw [← hW1]; exact (Below.heap_alloc _ _ _ (by simp)).trans (World.alloc_heap_new w _)
  have at_lt : ∀ {W : World} {k : Nat} {o : Obj}, W.heap[k]? = some o → k < W.heap.size := fun h => (Array.getElem?_eq_some_iff.1 h).1
  refine ⟨w.heap.size + 1, [{ target := .collected w.heap.size, args := #[] }], W1, { target := .fn (.func gf) lb, args := #[.func (.yield (w.heap.size + 1)) #[] #[]] }, W1, gf, #[.func (.yield (w.heap.size + 1)) #[] #[]] ++ lb, W1, ?_, ?_, fun _ _ => trivial, ?_, fun _ => h1, ?_⟩
  · rw [← hW1, hR]; exact run_enterLoop_outer _ _ _ _ _
  · simp only [resolve, hg]; simp [go_sem]
  · simp [invoke, go_sem, eg]
  have key := hseq (w.heap.size + 1) (fun pre W => I pre W ∧ W.heap[w.heap.size + 1]? = some (.loop (R .ready)) ∧ W.heap[w.heap.size]? = some (.deferred (some []))) W1 bW
    (fun pre A B h hb => ⟨hIb pre A B h.1 hb, (hb.block _ (at_lt h.2.1)).trans h.2.1, (hb.block _ (at_lt h.2.2)).trans h.2.2⟩)
    (fun pre x W h hm hlen => by
      obtain ⟨hi, hl, hd⟩ := h
      have hlt := at_lt hl
      have hy := run_yield (P := P) (args := encs x) hl (by rw [hR]; exact hps x)
      rw [hR] at hy
      refine ⟨fn, _, assign, body, hy, roundIn_of_wpIn hfn (hassign _ x W _ ?_)⟩
      rw [← hR] at hy
      refine ⟨_, run_beginRound hl (by rw [hR]; rfl), ?_⟩
      have hl2 := World.putObj_heap_same (o := .loop { R .ready with state := .busy }) hlt
      have hd2 : (W.putObj (w.heap.size + 1) (.loop { R .ready with state := .busy })).heap[w.heap.size]? = some (.deferred (some [])) := (World.putObj_heap_other (by omega)).trans hd
      refine wpIn_mono (hbody _ pre x _ (hIp pre W _ _ _ (by omega) hl rfl hi) (hM x W _ _ _ hl rfl hm) hlen) ?_
      rintro e a3 W3 ⟨rfl, hk, hkp, hi3⟩
      have hl3 := hk.same _ _ (by omega) hl2 rfl
      have hd3 := hk.same _ _ (Nat.le_refl _) hd2 rfl
      have hr := run_endRound (P := P) none hl3
      have e4 : ({ { R .ready with state := .busy } with state := if (none : Option Code).isNone then LoopState.ready else .done, pending := none } : Loop) = R .ready := by rw [hR]; rfl
      rw [e4] at hr
      refine ⟨_, _, hr, rfl, ⟨hIp _ W3 _ _ _ (by omega) hl3 rfl hi3, World.putObj_heap_same (at_lt hl3), (World.putObj_heap_other (by omega)).trans hd3⟩, ?_⟩
      exact hKt _ _ _ (hKb W _ _ _ hl rfl) (hKt _ _ _ hkp (hKb W3 _ _ _ hl3 rfl)))
    ⟨hIb [] w W1 h0 bW, l1, d1⟩
  refine key.mono ?_
  rintro e W2 ⟨⟨v, rfl⟩, xs, hs, hi, hl, hd⟩
  have he := run_endLoop (P := P) hl (by rw [hR]; simp [Rcd])
  have e : (R .ready).pending = none := by rw [hR]; rfl
  rw [e] at he
  exact ⟨none, _, he, hdone _ xs _ (Nat.le_refl _) hs (hIp xs W2 _ _ _ (by omega) hl rfl hi) ((World.putObj_heap_other (by omega)).trans hd)⟩
end
end Go.Proofs.YtngangdjbbbbdaaGreatDoor.Rng
end

section
namespace Go.Proofs.YtngangdjbbbbdaaGreatDoor.Rst
open Go.RowKit Go.Shelf Go.Proofs.YtngangdjbbbbdaaGreatDoor.Own Go.Proofs.YtngangdjbbbbdaaGreatDoor.Sto Go.Proofs.YtngangdjbbbbdaaGreatDoor.Gen
open Go.Proofs.YtngangdjbbbbdaaGreatDoor.Rec (Itm cv cv_len cv_app)
open Go.Proofs.YtngangdjbbbbdaaGreatDoor.Rw (str strs Texts)
attribute [local go_sem] Oper.semAt_some

/-- what a generation tells, as it is handed to a round -/
structure Gv where
  p : Option Addr
  n : Nat
  c : Nat
  N : List Itm
  d : Int
def enc (x : Gv) : Array Value := #[.slice x.p x.n x.c, .int .i64 x.d]
def Mem (x : Gv) (W : World) : Prop := x.n = x.N.length ∧ x.n ≤ 16777216 ∧ 0 ≤ x.d ∧ x.d ≤ 16777216 ∧ ∃ B, W.ownsRow B 43 3 (.slice x.p x.n x.c) x.n (cv x.N)
/-- what a round keeps: the texts -/
def Kp (A B : World) : Prop := A.heap.size ≤ B.heap.size ∧ ∀ (k : Nat) (cs : Array Value), A.heap[k]? = some (Obj.cells cs 9 (0, 0)) → B.heap[k]? = some (Obj.cells cs 9 (0, 0))
theorem kp_t (A B C : World) (h : Kp A B) (g : Kp B C) : Kp A C := ⟨Nat.le_trans h.1 g.1, fun k cs e => g.2 k cs (h.2 k cs e)⟩
theorem kp_b : Rng.Turns Kp := fun A k o o' h hc => ⟨by simp [World.putObj], fun j cs hj => by
  refine (World.putObj_heap_other fun e => ?_).trans hj
  subst e
  rw [h] at hj; cases hj; cases hc⟩
theorem Kp.trans_below {A B C : World} (h : Kp A B) (hb : Below B.heap.size B C) : Kp A C := ⟨Nat.le_trans h.1 hb.size, fun k cs e => (hb.block k (at_lt (h.2 k cs e))).trans (h.2 k cs e)⟩
theorem own_shape {W : World} {B e size n : Nat} {v : Value} {xs : List Value} (h : W.ownsRow B e size v n xs) : ∃ p c, v = .slice p n c := by
  rcases h.2 with ⟨rfl, rfl⟩ | ⟨g, cap, cur, rfl, _⟩
  · exact ⟨none, 0, rfl⟩
  · exact ⟨_, _, rfl⟩
theorem own_put {W : World} {B e size n k : Nat} {v : Value} {xs : List Value} {o o' : Obj} (h : W.ownsRow B e size v n xs) (hk : W.heap[k]? = some o) (hc : o.isCells = false) : (W.putObj k o').ownsRow B e size v n xs := by
  refine ⟨h.1, h.2.imp id fun ⟨g, cap, cur, h1, h2, h3, h4⟩ => ⟨g, cap, cur, h1, h2, (World.putObj_heap_other fun e => ?_).trans h3, h4⟩⟩
  subst e
  rw [hk] at h3; cases h3; cases hc
theorem mem_put (x : Gv) : Rng.Turns fun A B => Mem x A → Mem x B := fun _ _ _ _ hk hc ⟨h1, h2, h3, h4, B, h5⟩ => ⟨h1, h2, h3, h4, B, own_put h5 hk hc⟩
/-- what is told of all -/
def Tells (L : List Bs) (xs : List Gv) : Prop := xs.map (fun x => (x.N, x.d)) = L.map fun s => ((Rec.scan s).1, torn1 s)
theorem Tells.len {L : List Bs} {xs : List Gv} (h : Tells L xs) : xs.length = L.length := by
  have := congrArg List.length h
  simpa using this
theorem Tells.snoc {L : List Bs} {xs : List Gv} (h : Tells L xs) (s : Bs) (x : Gv) (h1 : x.N = (Rec.scan s).1) (h2 : x.d = torn1 s) : Tells (L ++ [s]) (xs ++ [x]) := by
  unfold Tells at h ⊢
  rw [List.map_append, List.map_append, h]; simp [h1, h2]

set_option maxRecDepth 100000 in
set_option maxHeartbeats 8000000 in
theorem gen1_gives {w : World} {bs : Nat → Prop} {b : Nat} {t : St} (hS : Sto w bs b t) (a : Bs) (ha : a.length ≤ 1000000) (n : Int) (b1 b2 b3 : Nat) (c1 : w.cell? ⟨b1, 0, none⟩ = some (pb b)) (c2 : w.cell? ⟨b2, 0, none⟩ = some (.string ⟨a.toArray⟩)) (c3 : w.cell? ⟨b3, 0, none⟩ = some (.int .i64 n))
    (l1 : b1 < w.heap.size) (l2 : b2 < w.heap.size) (l3 : b3 < w.heap.size) :
    Rng.Gives 2 Tryz.prog 81 #[.pointer (some ⟨b1, 0, none⟩), .pointer (some ⟨b2, 0, none⟩), .pointer (some ⟨b3, 0, none⟩)] enc Mem Kp 17 (Tells ((fnd t (ser a (held n))).map Fl.bs)) w := by
  intro lo J W hW hJ hY h0
  have HA := Lib.hid (all_typed (hS.below hW) a ha n)
  have HSZ : Hid (∀ s ∈ (fnd t (ser a (held n))).map Fl.bs, s.length ≤ 16777216) := Lib.hid (fun s hs => by
    obtain ⟨x, hx, rfl⟩ := List.mem_map.1 hs
    unfold fnd at hx
    obtain ⟨y, _, hy⟩ := List.mem_filterMap.1 hx
    have h1 := len_tot (lk_some hy).1
    have := (tot_top hS.ok).2
    omega)
  have HLN : Hid (((fnd t (ser a (held n))).map Fl.bs).length ≤ 16) := Lib.hid (by
    have h1 := fnd_len t (ser a (held n))
    rw [ser_len] at h1
    have := (held_bd n).2
    rw [List.length_map]; omega)
  rw [← hW.cell (p := ⟨b1, 0, none⟩) l1] at c1
  rw [← hW.cell (p := ⟨b2, 0, none⟩) l2] at c2
  rw [← hW.cell (p := ⟨b3, 0, none⟩) l3] at c3
  generalize (fnd t (ser a (held n))).map Fl.bs = L at *
  have HY := Lib.hid hY
  have HJ := Lib.hid hJ
  have HJ0 := Lib.hid h0
  clear hY hJ h0 hS hW l1 l2 l3
  refine callsIn_of_wp Tryz.func81 rfl trivial ?_ rfl
  simp only [Tryz.ntmps81, List.size_toArray, List.length_cons, List.length_nil, Nat.reduceAdd, Nat.reduceSub, Array.replicate_succ, Array.replicate_zero, List.push_toArray, List.append_toArray, List.nil_append, List.cons_append]
  gi_wp2_with (refine ⟨trivial, ?_⟩; gi_at_call 12; refine (callsIn_wide.2 HA.out).mono ?_; intro e w2 hp; obtain ⟨pl, cl, nl, rfl, hnl, hc1, hc2, hst, hb⟩ := hp.open; clear hp)
  have HS := Lib.hid hst
  have HB := Lib.hid hb
  have HJ2 := Lib.hid (HJ.out [] W w2 HJ0.out hb)
  have hl16 : nl ≤ 16 := by rw [hnl]; exact HLN.out
  have HNL := Lib.hid hnl
  unfold maxLen at hc2
  clear hst hb hnl HA HJ0 c1 c2 c3
  gi_loopw [14] (fun i wr => ∃ (k : Nat) (pre : List Gv), k ≤ nl ∧ i = .int .i64 k ∧ Hid (Tells (L.take k) pre) ∧ Hid (J pre wr) ∧ Hid (Kp w2 wr))
    (fun i _ => nl - (intOf i).toNat)
  case atStart => exact ⟨0, [], Nat.zero_le _, rfl, Lib.hid rfl, HJ2, Lib.hid ⟨Nat.le_refl _, fun _ _ h => h⟩⟩
  case round =>
    obtain ⟨k, pre, hk, rfl, HT, HJs, HK⟩ := hrel
    rcases Nat.lt_or_eq_of_le hk with hlt | rfl
    · have hkl : k < L.length := by rw [← HNL.out]; exact hlt
      rcases HS.out with h0 | ⟨g, cs, rfl, hg, hcs⟩
      · rw [h0] at hkl; simp at hkl
      have hg2 := HK.out.2 _ _ hg
      have c0 := (at_cell hg2 k).trans (hcs k hkl)
      have q1 : (k : Int) < (nl : Int) := by omega
      have HG := Lib.hid hg2
      have HTK := Lib.hid (take_snoc hkl)
      have hsz := HSZ.out _ (List.getElem_mem hkl)
      generalize L[k] = s at *
      rw [str] at c0
      have hs2 : (⟨s.toArray⟩ : ByteArray).size ≤ 16777216 := by rw [Gen.size_of]; exact hsz
      have HSC := Lib.hid fun W => Rec.scan_calls ⟨s.toArray⟩ (by omega) W
      obtain ⟨s1, s2, s3, -⟩ := scan_bd _ s (Nat.le_refl _)
      clear hcs hg hg2
      have hpl : pre.length < 17 := by have h1 := HT.out.len; rw [List.length_take] at h1; omega
      gi_wp2_with (refine ⟨trivial, ?_⟩; gi_at_call 82; refine (callsIn_wide.2 (HSC.out _)).mono ?_; intro e w5 hp; obtain ⟨v5, rfl, ho5, hb5⟩ := hp; obtain ⟨pv, cv5, rfl⟩ := own_shape ho5; obtain ⟨fn, tmps, assign, body, hy, hR⟩ := HY.out pre ⟨pv, (Rec.scan s).1.length, cv5, (Rec.scan s).1, (s.length : Int) - (Rec.scan s).2⟩ w5 (HJ.out pre wr w5 HJs.out hb5) ⟨rfl, by dsimp only; omega, by dsimp only; omega, by dsimp only; omega, _, ho5⟩ hpl; unfold enc at hy; dsimp only at hy; replace hR := Lib.hid hR; replace HG := Lib.hid ((hb5.block g (at_lt HG.out)).trans HG.out); have HK5 := Lib.hid (HK.out.trans_below hb5); clear ho5 hb5)
      refine hR.out.mono ?_
      rintro e W3 ⟨rfl, hJ3, hk3⟩
      have HJ3 := Lib.hid hJ3
      have HK3 := Lib.hid (kp_t _ _ _ HK5.out hk3)
      clear hJ3 hk3 hy
      gi_wp2
      go_roundw
      case rel => exact ⟨k + 1, _, by omega, by go_num, Lib.hid (by rw [HTK.out]; exact HT.out.snoc s _ rfl rfl), HJ3, HK3⟩
      case measure => simp [intOf]; omega
    · have HE := Lib.hid (show Tells L pre by have := HT.out; rwa [List.take_of_length_le (by rw [HNL.out]; exact Nat.le_refl _)] at this)
      have q1 : ¬ (k : Int) < (L.length : Int) := by have := HNL.out; omega
      gi_wp2
      go_end0
      exact ⟨⟨_, rfl⟩, _, HE.out, HJs.out⟩
end Go.Proofs.YtngangdjbbbbdaaGreatDoor.Rst
end

section
namespace Go.Proofs.YtngangdjbbbbdaaGreatDoor.Digit
open Go.RowKit

def RdAt (s : ByteArray) (w : World) (good : Bool) (a' : Act) (w' : World) : Prop :=
  ∃ (k : Nat) (N K : Int) (u6 u7 u8 u9 u10 u11 u12 u13 u14 u15 u16 u17 u18 u19 u20 u21 u22 u23 : Value),
    a' = { tmps := #[.string s, undef, .int .i64 0, .int .i64 0, .int .i64 N, .int .i64 K, u6, u7, u8, u9, u10, u11, u12, u13, u14, u15, u16, u17, u18, u19, u20, u21, u22, u23, undef, undef, undef, undef, undef, undef, undef, undef, undef], defers := [] } ∧
    K = k ∧ k ≤ s.size ∧ (good = true → N = scan 0 (s.data.toList.take k)) ∧ 0 ≤ N ∧ N ≤ 20000000000000 ∧ w' = w

theorem byte_sub {c : Int} (h : 48 ≤ c) (h1 : c ≤ 57) : IntKind.u8.wrap (c - 48) = c - 48 := IntWalk.u8_in _ (by omega)

set_option maxRecDepth 100000 in
set_option maxHeartbeats 1000000 in
theorem read_some (s : ByteArray) (hs : s.size ≤ 100000) (t : Int) (ht : IsTick s.data.toList t) (w : World) :
    Calls Tryz.prog 83 #[.string s] w fun e w' => e = .returned (.tuple #[.int .i64 t, .int .i64 0]) ∧ Below w.heap.size w w' := by
  have HT := Lib.hid ht
  have hpos : 0 < s.size := tick_pos ht
  have hdig : ∀ k (h : k < s.size), 48 ≤ (s[k].toNat : Int) ∧ (s[k].toNat : Int) ≤ 57 := fun k h => by
    have := tick_digit ht s[k] (by show s.data[k] ∈ _; simp); omega
  have HG := Lib.hid hdig
  obtain ⟨t0, t1, hd⟩ := ht
  clear hdig hd
  go_enter Tryz.func83, Tryz.ntmps83
  go_wp2
  refine wp_scope_jumps 0 (RdAt s w true) (fun a' _ => s.size - (intOf (a'.tmps.getD 5 undef)).toNat) rfl ?_ ?_
  · go_wp2_with fail
    go_step3
    obtain ⟨d0, d1⟩ := HG.out 0 hpos
    have HS := Lib.hid (scan_snoc s 0 hpos)
    have m1 := tick_part HT.out 1
    go_wp2_with fail
    go_step3
    exact ⟨rfl, 1, _, _, _, _, _, _, _, _, _, _, _, _, _, _, _, _, _, _, _, _, rfl, rfl, by omega, fun _ => by rw [HS.out]; simp [scan], by omega, by omega, rfl⟩
  · rintro a' w' ⟨k, N, K, u6, u7, u8, u9, u10, u11, u12, u13, u14, u15, u16, u17, u18, u19, u20, u21, u22, u23, rfl, rfl, hk, hN, n0, n1, rfl⟩
    obtain rfl := hN rfl
    obtain ⟨m0, m1⟩ := tick_part HT.out k
    by_cases hlt : k < s.size
    · have HS := Lib.hid (scan_snoc s k hlt)
      obtain ⟨d0, d1⟩ := HG.out k hlt
      go_wp2_with fail
      go_step3
      refine ⟨rfl, ⟨k + 1, _, _, _, _, _, _, _, _, _, _, _, _, _, _, _, _, _, _, _, _, rfl, by omega, by omega, fun _ => by rw [HS.out]; omega, by omega, by omega, rfl⟩, ?_⟩
      simp [intOf]; omega
    · have he : s.data.toList.take k = s.data.toList := List.take_of_length_le (by rw [size_list]; omega)
      rw [he, (tick_scan HT.out).1]
      have hx : (dec t == s.toList) = true := by rw [HT.out.2.2, ByteArray.toList_eq]; simp
      clear he
      go_wp2_with (go_at_call 90; refine (put_calls _ (by omega) (by omega) _).mono ?_; rintro e w' ⟨rfl, hb⟩)
      simp only [Exit.jump]
      go_ret2
      exact ⟨rfl, hb⟩

theorem u8_bd (x : Int) : 0 ≤ IntKind.u8.wrap x ∧ IntKind.u8.wrap x < 256 := by
  have e : IntKind.u8.wrap x = x % 256 := rfl
  rw [e]; omega

set_option maxRecDepth 100000 in
set_option maxHeartbeats 1000000 in
theorem read_none (s : ByteArray) (hs : s.size ≤ 100000) (ht : ¬ ∃ t, IsTick s.data.toList t) (w : World) :
    Calls Tryz.prog 83 #[.string s] w fun e w' => e = .returned (.tuple #[.int .i64 0, .int .i64 3]) ∧ Below w.heap.size w w' := by
  have HT := Lib.hid ht; clear ht
  have hno : ∀ n : Int, 0 ≤ n → n ≤ 1099511627776 → (dec n == s.toList) = false := fun n h0 h1 => by
    rw [beq_eq_false_iff_ne]
    exact fun h => HT.out ⟨n, h0, h1, by rw [h, ByteArray.toList_eq]⟩
  have HN := Lib.hid hno; clear hno
  go_enter Tryz.func83, Tryz.ntmps83
  go_wp2
  refine wp_scope_jumps 0 (RdAt s w false) (fun a' _ => s.size - (intOf (a'.tmps.getD 5 undef)).toNat) rfl ?_ ?_
  · go_wp2_with fail
    go_step3
    by_cases hpos : 0 < s.size
    · obtain ⟨d0, d1⟩ := u8_bd ((s[0].toNat : Int) - 48)
      go_wp2_with fail
      go_step3
      exact ⟨rfl, 1, _, _, _, _, _, _, _, _, _, _, _, _, _, _, _, _, _, _, _, _, rfl, rfl, by omega, (fun h => by cases h), by omega, by omega, rfl⟩
    · have hx := HN.out 0 (by omega) (by omega)
      go_wp2_with (go_at_call 90; refine (put_calls _ (by omega) (by omega) _).mono ?_; rintro e w' ⟨rfl, hb⟩)
      simp only [Exit.jump]
      go_ret2
      exact ⟨rfl, hb⟩
  · rintro a' w' ⟨k, N, K, u6, u7, u8, u9, u10, u11, u12, u13, u14, u15, u16, u17, u18, u19, u20, u21, u22, u23, rfl, rfl, hk, -, n0, n1, rfl⟩
    by_cases hlt : k < s.size
    · by_cases hn : N ≤ 1099511627776
      · obtain ⟨d0, d1⟩ := u8_bd ((s[k].toNat : Int) - 48)
        go_wp2_with fail
        go_step3
        refine ⟨rfl, ⟨k + 1, _, _, _, _, _, _, _, _, _, _, _, _, _, _, _, _, _, _, _, _, rfl, by omega, by omega, (fun h => by cases h), by omega, by omega, rfl⟩, ?_⟩
        simp [intOf]; omega
      · go_wp2_with fail
        simp only [Exit.jump]
        go_ret2
        exact ⟨rfl, Below.refl _ _⟩
    · by_cases hn : N ≤ 1099511627776
      · have hx := HN.out N n0 hn
        go_wp2_with (go_at_call 90; refine (put_calls _ (by omega) (by omega) _).mono ?_; rintro e w' ⟨rfl, hb⟩)
        simp only [Exit.jump]
        go_ret2
        exact ⟨rfl, hb⟩
      · go_wp2_with fail
        simp only [Exit.jump]
        go_ret2
        exact ⟨rfl, Below.refl _ _⟩

theorem read_calls (s : ByteArray) (hs : s.size ≤ 100000) (w : World) :
    Calls Tryz.prog 83 #[.string s] w fun e w' => e = .returned (.tuple #[.int .i64 (rdV s.data.toList), .int .i64 (rdC s.data.toList)]) ∧ Below w.heap.size w w' := by
  by_cases h : ∃ t, IsTick s.data.toList t
  · obtain ⟨t, ht⟩ := h
    obtain ⟨h1, h2⟩ := rd_some ht
    rw [h1, h2]
    exact read_some s hs t ht w
  · obtain ⟨h1, h2⟩ := rd_none h
    rw [h1, h2]
    exact read_none s hs h w

end Go.Proofs.YtngangdjbbbbdaaGreatDoor.Digit
end

section
namespace Go.Proofs.YtngangdjbbbbdaaGreatDoor.Rst
open Go.RowKit Go.Shelf Go.Proofs.YtngangdjbbbbdaaGreatDoor.Own Go.Proofs.YtngangdjbbbbdaaGreatDoor.Sto Go.Proofs.YtngangdjbbbbdaaGreatDoor.Gen
open Go.Proofs.YtngangdjbbbbdaaGreatDoor.Rec (Itm Its cv cv_len cv_app)
open Go.Proofs.YtngangdjbbbbdaaGreatDoor.Rw (str strs Texts)

theorem its_at {w : World} {xs : List Itm} {p : Option Addr} {c k : Nat} (h : Its w xs p c) (hk : k < xs.length) :
    ∃ b o, p = some ⟨b, o, none⟩ ∧ b < w.heap.size ∧ w.cell? ⟨b, o + k * 3, none⟩ = some (.int .i64 xs[k].k) ∧ w.cell? ⟨b, o + k * 3 + 1, none⟩ = some (.int .i64 xs[k].a) ∧ w.cell? ⟨b, o + k * 3 + 2, none⟩ = some (.string xs[k].b) := by
  rcases h.cells with h0 | ⟨b, o, e, hb, hc⟩
  · rw [h0] at hk; simp at hk
  · obtain ⟨c0, c1, c2⟩ := hc k hk
    exact ⟨b, o, e, hb, c0, c1, c2⟩
set_option maxRecDepth 100000 in
set_option maxHeartbeats 4000000 in
theorem lost_calls (xs : List Itm) (p : Option Addr) (c n : Nat) (hn : n = xs.length) (w : World) (h : Its w xs p c) (hs : ∀ x ∈ xs, x.b.size ≤ 65535) :
    Calls Tryz.prog 57 #[.slice p n c] w fun e w' => e = .returned (.int .i64 (lstL xs)) ∧ Below w.heap.size w w' := by
  have hcap := h.cap
  have hmax := h.max
  rw [← hn] at hcap
  unfold maxLen at hmax
  have HI := Lib.hid h
  have HN := Lib.hid hn
  have HS := Lib.hid hs
  clear h hn hs
  go_enter Tryz.func57, Tryz.ntmps57
  go_wp2_with fail
  go_loopw [3, 10] (fun a i wr => ∃ k : Nat, k ≤ n ∧ i = .int .i64 k ∧ a = .int .i64 (lstL (xs.take k)) ∧ Hid (Below w.heap.size w wr)) (fun _ i _ => n - (intOf i).toNat)
  case atStart => exact ⟨0, Nat.zero_le _, rfl, rfl, Lib.hid (Below.refl _ _)⟩
  case round =>
    obtain ⟨k, hk, rfl, rfl, HB⟩ := hrel
    rename World => wr
    rcases Nat.lt_or_eq_of_le hk with hlt | rfl
    · have q1 : (k : Int) < (n : Int) := by omega
      have hkl : k < xs.length := by rw [← HN.out]; exact hlt
      obtain ⟨g, o, rfl, hg, c0, c1, c2⟩ := its_at (HI.out.kept HB.out) hkl
      have HX := Lib.hid (show lstL (xs.take (k + 1)) = lst1 (lstL (xs.take k)) xs[k] by rw [take_snoc hkl, lstL_snoc])
      have hxs := HS.out _ (List.getElem_mem hkl)
      have hnb := lstL_bd (xs.take k)
      generalize lstL (xs.take k) = m at *
      generalize xs[k] = x at *
      obtain ⟨xk, xa, xb⟩ := x
      simp only at c0 c1 c2 hxs
      have HBA := Lib.hid (HB.out.alloc HB.out.size (.cells #[.int .i64 xk, .int .i64 xa, .string xb] 43 (0, 0)))
      have HNW := Lib.hid (at_new wr (.cells #[.int .i64 xk, .int .i64 xa, .string xb] 43 (0, 0)))
      obtain ⟨hm0, hm1⟩ := hnb
      by_cases h3 : xk = 3
      · subst h3
        have hrd := rdV_bd xb.data.toList
        have HRD := Lib.hid fun W => Digit.read_calls xb (by omega) W
        rw [lst1_gap rfl] at HX
        simp only at HX
        generalize Digit.rdV xb.data.toList = v at *
        generalize Digit.rdC xb.data.toList = cd at *
        obtain ⟨hr0, hr1⟩ := hrd
        go_wp2_with fail
        refine (HRD.out _).mono ?_
        rintro e w5 ⟨rfl, hb5⟩
        have HB5 := Lib.hid (HBA.out.trans (hb5.mono HBA.out.size))
        clear hb5
        by_cases hle : m + v ≤ 1099511627776
        · have e1 : min (m + v) 1099511627776 = m + v := by omega
          have z1 : ¬ 1099511627776 < m + v := by omega
          rw [e1] at HX
          go_wp2_with fail
          go_roundw
          case rel => exact ⟨k + 1, by omega, by go_num, by first | (rw [HX.out]) | (rw [HX.out, e1]), HB5⟩
          case measure => simp [intOf]; omega
        · have e1 : min (m + v) 1099511627776 = 1099511627776 := by omega
          have z1 : 1099511627776 < m + v := by omega
          rw [e1] at HX
          go_wp2_with fail
          go_roundw
          case rel => exact ⟨k + 1, by omega, by go_num, by first | (rw [HX.out]) | (rw [HX.out, e1]), HB5⟩
          case measure => simp [intOf]; omega
      · rw [lst1_no h3] at HX
        have z1 : (xk == 3) = false := by simpa using h3
        have z2 : (xk != 3) = true := by simpa using h3
        clear h3
        go_wp2_with fail
        go_roundw
        case rel => exact ⟨k + 1, by omega, by go_num, by rw [HX.out], HBA⟩
        case measure => simp [intOf]; omega
    · have HE := Lib.hid (show xs.take k = xs from List.take_of_length_le (by rw [HN.out]; exact Nat.le_refl _))
      rw [HE.out]
      obtain ⟨m, hm⟩ : ∃ m, lstL xs = m := ⟨_, rfl⟩
      rw [hm]
      have HM := Lib.hid hm
      clear hm
      go_wp2_with fail
      go_ret
      exact ⟨by rw [HM.out]; rfl, HB.out⟩
end Go.Proofs.YtngangdjbbbbdaaGreatDoor.Rst
end

section
namespace Go.Proofs.YtngangdjbbbbdaaGreatDoor.Rst
open Go.RowKit Go.Shelf Go.Proofs.YtngangdjbbbbdaaGreatDoor.Own Go.Proofs.YtngangdjbbbbdaaGreatDoor.Sto Go.Proofs.YtngangdjbbbbdaaGreatDoor.Gen
open Go.Proofs.YtngangdjbbbbdaaGreatDoor.Rec (Itm Its cv cv_len cv_app)
open Go.Proofs.YtngangdjbbbbdaaGreatDoor.Rw (str strs Texts)
attribute [local go_sem] Oper.semAt_some

/-- all items of what was told, all torn bytes -/
def nits (xs : List Gv) : List Itm := xs.flatMap (·.N)
def dsum (xs : List Gv) : Int := xs.foldl (fun a x => a + x.d) 0
theorem nits_snoc (xs : List Gv) (x : Gv) : nits (xs ++ [x]) = nits xs ++ x.N := by simp [nits]
theorem dsum_snoc (xs : List Gv) (x : Gv) : dsum (xs ++ [x]) = dsum xs + x.d := by unfold dsum; rw [List.foldl_append]; rfl
def ld (L : List Bs) : List Itm := L.flatMap fun s => (Rec.scan s).1
theorem Tells.ends {L : List Bs} {xs : List Gv} (h : Tells L xs) : nits xs = ld L ∧ dsum xs = tornL L := by
  have key : ∀ (L : List Bs) (xs : List Gv) (a : Int), Tells L xs → nits xs = ld L ∧ xs.foldl (fun a x => a + x.d) a = a + tornL L := by
    intro L
    induction L with
    | nil =>
      intro xs a h
      have : xs = [] := List.eq_nil_of_length_eq_zero h.len
      subst this
      exact ⟨rfl, by simp [tornL]⟩
    | cons s L ih =>
      intro xs a h
      cases xs with
      | nil => have := h.len; simp at this
      | cons x xs =>
        unfold Tells at h
        rw [List.map_cons, List.map_cons] at h
        obtain ⟨h1, h2⟩ := List.cons.inj h
        simp only [Prod.mk.injEq] at h1
        obtain ⟨i1, i2⟩ := ih xs (a + x.d) h2
        refine ⟨?_, ?_⟩
        · show x.N ++ nits xs = (Rec.scan s).1 ++ ld L
          rw [h1.1, i1]
        · rw [List.foldl_cons, i2, tornL, h1.2]; omega
  obtain ⟨h1, h2⟩ := key L xs 0 h
  exact ⟨h1, by unfold dsum; rw [h2]; omega⟩

set_option maxRecDepth 100000 in
set_option maxHeartbeats 1000000 in
theorem gens_in (F : Fence) (n : Nat) (hF : F.fn 56) (hro : F.round = none) (b : Nat) (a : ByteArray) (k : Int) (w : World) :
    CallsIn F n Tryz.prog 56 #[pb b, .string a, .int .i64 k] w fun e w' => e = .returned (.func (.func 81) #[] #[.pointer (some ⟨w.heap.size, 0, none⟩), .pointer (some ⟨w.heap.size + 1, 0, none⟩), .pointer (some ⟨w.heap.size + 1 + 1, 0, none⟩)]) ∧
      w' = ((w.alloc (.cells #[pb b] 24)).alloc (.cells #[.string a] 9)).alloc (.cells #[.int .i64 k] 3) := by
  refine callsIn_of_wp Tryz.func56 rfl hF ?_ hro
  simp only [Tryz.ntmps56, List.size_toArray, List.length_cons, List.length_nil, Nat.reduceAdd, Nat.reduceSub, Array.replicate_succ, Array.replicate_zero, List.push_toArray, List.append_toArray, List.nil_append, List.cons_append]
  gi_wp2
  go_ret
  exact ⟨rfl, rfl⟩
/-- append of nothing -/
theorem append_none_in {F : Fence} {n : Nat} {P : Program} (w : World) {ops : Array Oper} {rest : List Oper} {o : Oper} {a : Act} {Q : Exit → Act → World → Prop}
    (hg : o.guard = none) (s x : Operand) (t : TypeId) (hop : o.op = Op.call { callee := Callee.builtin Builtin.append, args := #[s, x], argTypes := #[t, t] })
    (base : Nat) (e : TypeId) (i : TypeInfo) (size : Nat) (ht : P.underlying t = some (.slice e)) (hi : P.info? e = some i)
    (v : Value) (k : Nat) (xs : List Value) (hs : a.eval s = v) (hown : w.ownsRow base e size v k xs) (hx : a.eval x = .slice none 0 0)
    (h : wpListIn F n P ops Q rest (a.put o.dst v) w) : wpListIn F n P ops Q (o :: rest) a w := by
  refine wpListIn_plain hg fun K hK => ?_
  have hrun := run_append_owned_none (P := P) (w := w) base t o.type e i size ht hi v k xs hown
  unfold Oper.wpIn
  refine ⟨by simp [Oper.about, hop, resolve, Target.leads, Sem.run_pure], ?_⟩
  rw [Oper.semAt_plain F _ _ (by rw [hop]; intro c hc'; cases hc')]
  simp [execOp, hop, resolve, invoke, builtin, hs, hx, hrun, Result.andThen]
  exact hK _ _ h

theorem append_any_in {F : Fence} {nF : Nat} {P : Program} {w : World} {ops : Array Oper} {rest : List Oper} {o : Oper} {a : Act} {Q : Exit → Act → World → Prop} (hgd : o.guard = none) (s x : Operand) (t : TypeId)
    (ho : o.op = .call { callee := .builtin .append, args := #[s, x], argTypes := #[t, t] })
    (base : Nat) (e : TypeId) (i : TypeInfo) (z : Value) (size bytes : Nat) (ht : P.underlying t = some (.slice e)) (hi : P.info? e = some i) (hz : i.zero = some z)
    (hsize : i.size = size) (hby : i.bytes = bytes) (hzs : z.cells.size = size) (hsz : 0 < size)
    (v : Value) (n : Nat) (xs : List Value) (hs : a.eval s = v) (hown : w.ownsRow base e size v n xs)
    (B2 : Nat) (ao : Option Addr) (m c : Nat) (news : List Value) (hx : a.eval x = .slice ao m c) (hrow : w.ownsRow B2 e size (.slice ao m c) m news) (h1 : ∀ u ∈ news, u.oneCell' = true)
    (h63 : n + m ≤ maxLen) (hbytes : (n + m) * bytes ≤ 140737488355328) (hbase : base ≤ w.heap.size)
    (h : ∀ v' w', w'.ownsRow base e size v' (n + m) (xs ++ news) → w.grownBy w' v.ownBlock → wpListIn F nF P ops Q rest (a.put o.dst v') w') : wpListIn F nF P ops Q (o :: rest) a w := by
  have hc := @World.ownsRow.cells _ _ _ _ _ _ _ hrow
  have hl := hrow.1
  rcases hrow.2 with ⟨e1, rfl⟩ | ⟨g, cap, cur, e1, _⟩
  · simp only [Value.slice.injEq] at e1
    obtain ⟨rfl, -, rfl⟩ := e1
    obtain rfl : news = [] := List.eq_nil_of_length_eq_zero (by simpa using hl)
    exact append_none_in w hgd s x t ho base e i size ht hi v n xs hs hown hx (h v w (by simpa using hown) (World.grownBy.refl _ _))
  · simp only [Value.slice.injEq] at e1
    obtain ⟨rfl, -, rfl⟩ := e1
    exact wpListIn_append_own w hgd s x t ho base e i z size bytes ht hi hz hsize hby hzs hsz v n xs hs hown ⟨g, 0, none⟩ m _ news hx hl (fun j u hj => hc (g := g) rfl j u hj) h1 h63 hbytes hbase fun v' w' a b _ => h v' w' a b
theorem own_type {w : World} {B size n b : Nat} {e T : TypeId} {v : Value} {xs : List Value} {C : Array Value} {fr : Nat × Nat} (h : w.ownsRow B e size v n xs) (hb : w.heap[b]? = some (.cells C T fr)) (hT : e ≠ T) : v.ownBlock ≠ some b := by
  intro hk
  rcases h.2 with ⟨rfl, _⟩ | ⟨g, cap, cur, rfl, _, hh, _⟩
  · cases hk
  · obtain rfl : g = b := by simpa [Value.ownBlock] using hk
    rw [hb] at hh
    simp at hh
    exact hT hh.2.1.symm
theorem own_keeps {B e size n b0 : Nat} {A C : World} {v : Value} {xs : List Value} (hg : A.grownBy C v.ownBlock) (ho : A.ownsRow b0 e size v n xs) : KeepsFrom B A C :=
  ⟨hg.size, fun k o _ hk hc => (hg.block k (at_lt hk) fun e' => by
    rcases ho.2 with ⟨rfl, _⟩ | ⟨g, cap, cur, rfl, _, hh, _⟩
    · cases e'
    · obtain rfl : g = k := by simpa [Value.ownBlock] using e'.symm
      rw [hh] at hk; cases hk; cases hc).trans hk⟩

/-- while the generations are told -/
structure LdI (w : World) (pre : List Gv) (W : World) : Prop where
  res : W.heap[w.heap.size]? = some (.cells #[.slice none 0 0, .int .i64 0, .int .i64 0] 71 (0, 0))
  box : ∃ v, W.heap[w.heap.size + 1]? = some (.cells #[v, .int .i64 (dsum pre), .int .i64 0] 71 (0, 0)) ∧ W.ownsRow w.heap.size 43 3 v (nits pre).length (cv (nits pre))
  below : Below w.heap.size w W
  len : (nits pre).length ≤ 16777216 * pre.length
  d0 : 0 ≤ dsum pre
  d1 : dsum pre ≤ 16777216 * pre.length
theorem LdI.same {w A B : World} {pre : List Gv} (h : LdI w pre A) (hb : Below A.heap.size A B) : LdI w pre B := by
  obtain ⟨v, h1, h2⟩ := h.box
  have K : ∀ {b : Nat} {o : Obj}, A.heap[b]? = some o → B.heap[b]? = some o := fun hk => (hb.block _ (at_lt hk)).trans hk
  exact ⟨K h.res, ⟨v, K h1, own_below h2 hb⟩, h.below.trans (hb.mono h.below.size), h.len, h.d0, h.d1⟩
theorem LdI.put {w A : World} {pre : List Gv} {k : Nat} {o : Obj} (o' : Obj) (h : LdI w pre A) (hl : w.heap.size + 1 < k) (hk : A.heap[k]? = some o) (hc : o.isCells = false) : LdI w pre (A.putObj k o') := by
  obtain ⟨v, h1, h2⟩ := h.box
  exact ⟨(World.putObj_heap_other (by omega)).trans h.res, ⟨v, (World.putObj_heap_other (by omega)).trans h1, own_put h2 hk hc⟩, h.below.grown (grownBy_putObj' A k o') h.below.size (fun j e => by cases e; omega), h.len, h.d0, h.d1⟩
theorem LdI.next {w W w1 : World} {pre : List Gv} {x : Gv} {v : Value} {p' : Option Addr} {c' nn B : Nat} (h : LdI w pre W) (h1 : W.heap[w.heap.size + 1]? = some (.cells #[v, .int .i64 (dsum pre), .int .i64 0] 71 (0, 0)))
    (h2 : W.ownsRow w.heap.size 43 3 v (nits pre).length (cv (nits pre))) (hM : Mem x W) (ho : w1.ownsRow w.heap.size 43 3 (.slice p' nn c') ((nits pre).length + x.n) (cv (nits pre) ++ cv x.N)) (hg : W.grownBy w1 v.ownBlock) :
    (w1.heap[w.heap.size + 1]? = some (.cells #[v, .int .i64 (dsum pre), .int .i64 0] 71 (0, 0))) ∧
    (w1.setCell ⟨w.heap.size + 1, 0, none⟩ (.slice p' nn c')).heap[w.heap.size + 1]? = some (.cells #[.slice p' nn c', .int .i64 (dsum pre), .int .i64 0] 71 (0, 0)) ∧
    LdI w (pre ++ [x]) ((w1.setCell ⟨w.heap.size + 1, 0, none⟩ (.slice p' nn c')).setCell ⟨w.heap.size + 1, 1, none⟩ (.int .i64 (dsum pre + x.d))) ∧
    KeepsFrom B W ((w1.setCell ⟨w.heap.size + 1, 0, none⟩ (.slice p' nn c')).setCell ⟨w.heap.size + 1, 1, none⟩ (.int .i64 (dsum pre + x.d))) ∧
    Kp W ((w1.setCell ⟨w.heap.size + 1, 0, none⟩ (.slice p' nn c')).setCell ⟨w.heap.size + 1, 1, none⟩ (.int .i64 (dsum pre + x.d))) := by
  obtain ⟨m1, m2, m3, m4, -⟩ := hM
  have e1 := (hg.block _ (at_lt h1) fun e => own_type h2 h1 (by decide) e.symm).trans h1
  have s0 := at_set e1 0 (.slice p' nn c')
  have s1 := at_set s0 1 (.int .i64 (dsum pre + x.d))
  have K2 : KeepsFrom B W ((w1.setCell ⟨w.heap.size + 1, 0, none⟩ (.slice p' nn c')).setCell ⟨w.heap.size + 1, 1, none⟩ (.int .i64 (dsum pre + x.d))) := (own_keeps hg h2).trans (((KeepsOthers.setCell _ _ _).from _).trans ((KeepsOthers.setCell _ _ _).from _))
  have so : ∀ {k : Nat}, k ≠ w.heap.size + 1 → ((w1.setCell ⟨w.heap.size + 1, 0, none⟩ (.slice p' nn c')).setCell ⟨w.heap.size + 1, 1, none⟩ (.int .i64 (dsum pre + x.d))).heap[k]? = w1.heap[k]? := fun hk => (at_set_other _ hk _ _).trans (at_set_other _ hk _ _)
  refine ⟨e1, s0, ⟨?_, ⟨_, by rw [dsum_snoc]; exact s1, ?_⟩, ?_, ?_, ?_, ?_⟩, K2, K2.size, fun k cs hk => ?_⟩
  · exact (so (by omega)).trans ((hg.block _ (at_lt h.res) fun e => own_type h2 h.res (by decide) e.symm).trans h.res)
  · rw [nits_snoc, List.length_append, cv_app, ← m1]
    exact Tree.own_out ho (((Out.refl (fun k => k = w.heap.size + 1) w1).setCell (p := ⟨w.heap.size + 1, 0, none⟩) (fun _ => rfl) _).setCell (p := ⟨w.heap.size + 1, 1, none⟩) (fun _ => rfl) _) fun k e e2 => own_type ho e1 (by decide) (by rw [← e2]; exact e)
  · exact ((h.below.grown hg h.below.size fun k e => (World.ownsRow.lt h2 k e).1).setCell (p := ⟨w.heap.size + 1, 0, none⟩) (by simp) _).setCell (p := ⟨w.heap.size + 1, 1, none⟩) (by simp) _
  · have := h.len
    rw [nits_snoc, List.length_append, List.length_append, List.length_singleton]; omega
  · have := h.d0
    rw [dsum_snoc]; omega
  · have := h.d1
    rw [dsum_snoc, List.length_append, List.length_singleton]; omega
  · have hne : k ≠ w.heap.size + 1 := fun e => by
      subst e
      rw [h1] at hk
      simp at hk
    exact (so hne).trans ((hg.block k (at_lt hk) fun e => own_type h2 hk (by decide) e.symm).trans hk)
theorem ld_sizes (L : List Bs) : ∀ x ∈ ld L, x.b.size ≤ 65535 := by
  intro x hx
  unfold ld at hx
  obtain ⟨s, _, hs⟩ := List.mem_flatMap.1 hx
  exact (scan_bd _ s (Nat.le_refl _)).2.2.2 x hs
def LoadPost (L : List Bs) (w : World) (e : Ending) (w' : World) : Prop :=
  ∃ v, e = .returned (.agg #[v, .int .i64 (tornL L), .int .i64 (lstL (ld L))]) ∧ w'.ownsRow w.heap.size 43 3 v (ld L).length (cv (ld L)) ∧ Below w.heap.size w w'
set_option maxRecDepth 100000 in
set_option maxHeartbeats 16000000 in
theorem load_in {w : World} {bs : Nat → Prop} {b : Nat} {t : St} (hS : Sto w bs b t) (a : Bs) (ha : a.length ≤ 1000000) (n : Int) :
    CallsIn Fence.wide 3 Tryz.prog 28 #[pb b, .string ⟨a.toArray⟩, .int .i64 n] w (LoadPost ((fnd t (ser a (held n))).map Fl.bs) w) := by
  obtain ⟨i0, hi, hz0, hz1, hz2⟩ := info_parts Rec.info_item
  have HS := Lib.hid hS
  clear hS
  refine callsIn_of_wp_marks Tryz.func28 rfl trivial ?_ rfl
  simp only [Tryz.ntmps28, List.size_toArray, List.length_cons, List.length_nil, Nat.reduceAdd, Nat.reduceSub, Array.replicate_succ, Array.replicate_zero, List.push_toArray, List.append_toArray, List.nil_append, List.cons_append]
  gi_wp2_with (refine ⟨trivial, ?_⟩; gi_at_call 56; refine (gens_in _ _ trivial rfl _ _ _ _).mono ?_; rintro e w' ⟨rfl, rfl⟩)
  generalize hL : (fnd t (ser a (held n))).map Fl.bs = L at *
  have b0 := Below.refl w.heap.size w
  have HB0 := Lib.hid (show Below w.heap.size w ((((((w.alloc (.cells #[.slice none 0 0, .int .i64 0, .int .i64 0] 71 (0, 0))).alloc (.cells #[.slice none 0 0, .int .i64 0, .int .i64 0] 71 (0, 0))).alloc (.cells #[pb b] 24 (0, 0))).alloc (.cells #[.string ⟨a.toArray⟩] 9 (0, 0))).alloc (.cells #[.int .i64 n] 3 (0, 0)))) from ((((b0.alloc (Nat.le_refl _) _).alloc (by simp only [World.size_alloc]; omega) _).alloc (by simp only [World.size_alloc]; omega) _).alloc (by simp only [World.size_alloc]; omega) _).alloc (by simp only [World.size_alloc]; omega) _)
  have hsz : ((((((w.alloc (.cells #[.slice none 0 0, .int .i64 0, .int .i64 0] 71 (0, 0))).alloc (.cells #[.slice none 0 0, .int .i64 0, .int .i64 0] 71 (0, 0))).alloc (.cells #[pb b] 24 (0, 0))).alloc (.cells #[.string ⟨a.toArray⟩] 9 (0, 0))).alloc (.cells #[.int .i64 n] 3 (0, 0)))).heap.size = w.heap.size + 5 := by simp
  have HI0 : Hid (LdI w [] ((((((w.alloc (.cells #[.slice none 0 0, .int .i64 0, .int .i64 0] 71 (0, 0))).alloc (.cells #[.slice none 0 0, .int .i64 0, .int .i64 0] 71 (0, 0))).alloc (.cells #[pb b] 24 (0, 0))).alloc (.cells #[.string ⟨a.toArray⟩] 9 (0, 0))).alloc (.cells #[.int .i64 n] 3 (0, 0))))) := Lib.hid ⟨at_old _ _ (at_old _ _ (at_old _ _ (at_old _ _ (at_new _ _)))), ⟨.slice none 0 0, at_old _ _ (at_old _ _ (at_old _ _ (at_newk _ _ (by simp)))), World.ownsRow_nil _ _ _ _⟩, HB0.out, Nat.le_refl _, Int.le_refl _, Int.le_refl _⟩
  have HG := Lib.hid (gen1_gives (HS.out.below HB0.out) a ha n (w.heap.size + 1 + 1) (w.heap.size + 1 + 1 + 1) (w.heap.size + 1 + 1 + 1 + 1) (at_cell (at_old _ _ (at_old _ _ (at_newk _ _ (by simp)))) 0) (at_cell (at_old _ _ (at_newk _ _ (by simp))) 0) (at_cell (at_newk _ _ (by simp)) 0) (by omega) (by omega) (by omega))
  rw [hL] at HG
  clear b0 hL HS
  generalize (((((w.alloc (.cells #[.slice none 0 0, .int .i64 0, .int .i64 0] 71 (0, 0))).alloc (.cells #[.slice none 0 0, .int .i64 0, .int .i64 0] 71 (0, 0))).alloc (.cells #[pb b] 24 (0, 0))).alloc (.cells #[.string ⟨a.toArray⟩] 9 (0, 0))).alloc (.cells #[.int .i64 n] 3 (0, 0))) = W0 at *
  refine Rng.range_mem (by omega) (gf := 81) (lb := #[.pointer (some ⟨w.heap.size + 1 + 1, 0, none⟩), .pointer (some ⟨w.heap.size + 1 + 1 + 1, 0, none⟩), .pointer (some ⟨w.heap.size + 1 + 1 + 1 + 1, 0, none⟩)]) rfl (enters_of Tryz.func81 (by kernel_rfl) rfl) (encs := enc) (fun _ => rfl) (M := Mem) (Kp := Kp) (N := 17) (S := Tells L) HG.out mem_put kp_t kp_b
    (LdI w) (fun pre A B h hb => h.same hb) (fun pre A k o o' hk ho hc h => h.put o' (by omega) ho hc) HI0.out (fun x => { tmps := #[pb b, .string ⟨a.toArray⟩, .int .i64 n, undef, undef, undef, .pointer (some ⟨w.heap.size, 0, none⟩), .pointer (some ⟨w.heap.size + 1, 0, none⟩), .slice x.p x.n x.c, .int .i64 x.d, pb b, .string ⟨a.toArray⟩, .int .i64 n, .func (.func 81) #[] #[.pointer (some ⟨w.heap.size + 1 + 1, 0, none⟩), .pointer (some ⟨w.heap.size + 1 + 1 + 1, 0, none⟩), .pointer (some ⟨w.heap.size + 1 + 1 + 1 + 1, 0, none⟩)], .slice x.p x.n x.c, .int .i64 x.d, undef, undef, undef, undef, undef, undef, undef, undef, undef, undef, undef, undef, undef, undef, undef], defers := [] }) ?assign ?body ?done
  case assign =>
    rintro lo x W K hK
    unfold enc
    gi_wp2
    exact hK
  case body =>
    rintro lo pre x W hI hM hlt
    obtain ⟨v, h1, h2⟩ := hI.box
    obtain ⟨pv, cv0, rfl⟩ := own_shape h2
    have m2 := hM.2.1
    have hl := hI.len
    have hd0 := hI.d0
    have hd1 := hI.d1
    have e0 := hM.2.2.1
    have e1 := hM.2.2.2.1
    obtain ⟨Bx, hrow⟩ := hM.2.2.2.2
    have c0 := at_cell h1 0
    have c1 := at_cell h1 1
    have HN := Lib.hid fun (w1 : World) (p' : Option Addr) (c' nn : Nat) ho hg => hI.next (x := x) (w1 := w1) (p' := p') (c' := c') (nn := nn) (B := W0.heap.size) h1 h2 hM ho hg
    have hbs := hI.below.size
    have HI := Lib.hid hI
    have H2 := Lib.hid h2
    obtain ⟨xp, xn, xc, xN, xd⟩ := x
    simp only at m2 e0 e1 hrow
    have HR := Lib.hid hrow
    obtain ⟨dn, hdn⟩ : ∃ dn, (nits pre).length = dn := ⟨_, rfl⟩
    obtain ⟨ds, hds⟩ : ∃ ds, dsum pre = ds := ⟨_, rfl⟩
    rw [hdn] at hl H2
    rw [hdn, hds] at HN
    rw [hds] at hd0 hd1 c1
    rw [hdn] at c0
    clear hI hM h1 h2 hrow hdn hds
    gi_wp2_with (gi_at_builtin; refine append_any_in rfl _ _ 23 rfl w.heap.size 43 i0 _ 3 32 Tryz.underlying23 hi hz0 hz1 hz2 rfl (by decide) _ dn _ rfl H2.out Bx xp xn xc (cv xN) rfl HR.out (Rec.cv_one xN) (by unfold maxLen; omega) (by omega) (by omega) ?_; intro v' w1 hown1 hgrow1; obtain ⟨p', c', rfl⟩ := own_shape hown1; obtain ⟨f1, f2, HNX⟩ := HN.out w1 p' c' _ hown1 hgrow1; replace HNX := Lib.hid HNX; have g0 := at_cell f1 0; have z0 := at_frozen f1 0; have g1 := at_cell f2 1; have z1 := at_frozen f2 1; clear hown1 hgrow1 f1 f2 c0 c1)
    exact ⟨by have := HNX.out.2.1; rwa [hsz] at this, HNX.out.2.2, HNX.out.1⟩
  case done =>
    rintro D xs W hD hS hI hK
    obtain ⟨t1, t2⟩ := hS.ends
    obtain ⟨v, h1, h2⟩ := hI.box
    rw [t1] at h2
    rw [t2] at h1
    obtain ⟨pv, cv0, rfl⟩ := own_shape h2
    obtain ⟨dn, hdn⟩ : ∃ dn, (ld L).length = dn := ⟨_, rfl⟩
    rw [hdn] at h2 h1
    have HLS := Lib.hid (lost_calls (ld L) pv cv0 dn hdn.symm W (Rec.owns_its h2 hdn.symm) (ld_sizes L))
    have c0 := at_cell h1 0
    have c1 := at_cell h1 1
    have HRES := Lib.hid hI.res
    have HBX := Lib.hid h1
    have HRW := Lib.hid h2
    have HBL := Lib.hid hI.below
    have HDN := Lib.hid hdn
    have HK := Lib.hid hK
    obtain ⟨tn, htn⟩ : ∃ tn, tornL L = tn := ⟨_, rfl⟩
    obtain ⟨ls, hls⟩ : ∃ ls, lstL (ld L) = ls := ⟨_, rfl⟩
    rw [hls] at HLS
    rw [htn] at HBX c1
    have HTN := Lib.hid htn
    have HLT := Lib.hid hls
    clear hI hS h1 h2 hdn t1 t2 hK htn hls
    gi_wp2_with (refine ⟨trivial, ?_⟩; gi_at_call 57; refine (callsIn_wide.2 HLS.out).mono ?_; rintro e W5 ⟨rfl, hb5⟩; have r5 := Lib.hid ((hb5.block _ (at_lt HRES.out)).trans HRES.out); have x5 := Lib.hid ((hb5.block _ (at_lt HBX.out)).trans HBX.out); have k5 := Lib.hid ((hb5.block _ (at_lt HK.out)).trans HK.out); have w5 := Lib.hid (own_below HRW.out hb5); have B5 := Lib.hid (HBL.out.trans (hb5.mono HBL.out.size)); have d2 := at_cell x5.out 2; have z2 := at_frozen x5.out 2; have s2 := at_set x5.out 2 (.int .i64 ls); have y0 := at_cell s2 0; have y1 := at_cell s2 1; have y2 := at_cell s2 2; have re := (at_set_other W5 (show w.heap.size ≠ w.heap.size + 1 by omega) 2 (.int .i64 ls)).trans r5.out; have q0 := at_cell re 0; have q1 := at_cell re 1; have q2 := at_cell re 2; have j0 := at_frozen re 0; have j1 := at_frozen re 1; have j2 := at_frozen re 2; have jl := at_lt re; clear hb5 c0 c1 s2)
    have u1 := at_set re 0 (.slice pv dn cv0)
    have u2 := at_set u1 1 (.int .i64 tn)
    have u3 := at_set u2 2 (.int .i64 ls)
    have hDZ : D ≠ w.heap.size ∧ D ≠ w.heap.size + 1 := by omega
    have so : ∀ {W1 : World} {k : Nat} {x : Value} {i : Nat}, (k = w.heap.size ∨ k = w.heap.size + 1) → (W1.setCell ⟨k, i, none⟩ x).heap[D]? = W1.heap[D]? := fun hk => at_set_other _ (by omega) _ _
    have hKD := (so (i := 2) (x := .int .i64 ls) (.inl rfl)).trans ((so (i := 1) (x := .int .i64 tn) (.inl rfl)).trans ((so (i := 0) (x := .slice pv dn cv0) (.inl rfl)).trans ((so (i := 2) (x := .int .i64 ls) (.inr rfl)).trans k5.out)))
    have O := ((((Out.refl (fun k => k = w.heap.size ∨ k = w.heap.size + 1) W5).setCell (p := ⟨w.heap.size + 1, 2, none⟩) (fun _ => .inr rfl) (.int .i64 ls)).setCell (p := ⟨w.heap.size, 0, none⟩) (fun _ => .inl rfl) (.slice pv dn cv0)).setCell (p := ⟨w.heap.size, 1, none⟩) (fun _ => .inl rfl) (.int .i64 tn)).setCell (p := ⟨w.heap.size, 2, none⟩) (fun _ => .inl rfl) (.int .i64 ls)
    have hown := Tree.own_out w5.out O fun k e e2 => by
      rcases e2 with rfl | rfl
      · exact own_type w5.out r5.out (by decide) e
      · exact own_type w5.out x5.out (by decide) e
    have hbel := B5.out.trans (O.below (Nat.le_trans (Nat.le_refl _) B5.out.size) fun i e => by rcases e with rfl | rfl <;> omega)
    have hf := own_put (o' := .deferred none) hown hKD rfl
    have hb := hbel.grown (grownBy_putObj' _ D (.deferred none)) hbel.size (fun k e => by cases e; omega)
    have hr := (World.putObj_heap_other (o := .deferred none) (k := w.heap.size) (r := D) (by omega)).trans u3
    have HF := Lib.hid hf
    have HB := Lib.hid hb
    clear hf hb hbel hown O so u1 u2 u3 hDZ
    refine ⟨by simp, .inl ⟨_, _, rfl, run_takeDeferred hKD, ?_⟩⟩
    clear hKD
    have g0 := at_cell hr 0
    have g1 := at_cell hr 1
    have g2 := at_cell hr 2
    generalize World.putObj _ D (.deferred none) = WF at *
    refine ⟨.agg #[.slice pv dn cv0, .int .i64 tn, .int .i64 ls], ?_, ⟨_, by rw [HTN.out, HLT.out], by rw [HDN.out]; exact HF.out, HB.out⟩⟩
    clear q0 q1 q2 y0 y1 y2
    simp [results, Tryz.results28, go_sem, g0, g1, g2]
theorem load_calls {w : World} {bs : Nat → Prop} {b : Nat} {t : St} (hS : Sto w bs b t) (a : Bs) (ha : a.length ≤ 1000000) (n : Int) :
    Calls Tryz.prog 28 #[pb b, .string ⟨a.toArray⟩, .int .i64 n] w (LoadPost ((fnd t (ser a (held n))).map Fl.bs) w) := callsIn_wide.1 (load_in hS a ha n)
end Go.Proofs.YtngangdjbbbbdaaGreatDoor.Rst
end

section
namespace Go.Proofs.YtngangdjbbbbdaaGreatDoor.Tl
abbrev Bs := List UInt8

/-- is a line begun at a place? -/
def bg (s : Bs) (i : Nat) : Bool := i == 0 || s.getD (i - 1) 0 == 10
/-- how many lines a text has -/
def many (s : Bs) : Nat := (List.range s.length).countP (bg s)
/-- .. as far as to a place -/
def manyTo (s : Bs) (k : Nat) : Nat := (List.range k).countP (bg s)
theorem manyTo_succ (s : Bs) (k : Nat) : manyTo s (k + 1) = manyTo s k + (if bg s k = true then 1 else 0) := by
  unfold manyTo
  rw [List.range_succ, List.countP_append, List.countP_singleton]
theorem manyTo_le (s : Bs) (k : Nat) : manyTo s k ≤ k := by
  have := List.countP_le_length (p := bg s) (l := List.range k)
  rwa [List.length_range] at this
theorem many_le (s : Bs) : many s ≤ s.length := manyTo_le s _
/-- the longest end that has not too many lines nor bytes -/
def rtail : Bs → Nat → Nat → Bs
  | [], _, _ => []
  | c :: r, n, b => if (c :: r).length ≤ b ∧ many (c :: r) ≤ n then c :: r else rtail r n b
/-- the lines that begin at a place or behind it -/
def cnt (s : Bs) (k : Nat) : Nat := (List.range (s.length - k)).countP fun i => bg s (k + i)
theorem cnt_end {s : Bs} {k : Nat} (h : s.length ≤ k) : cnt s k = 0 := by unfold cnt; rw [show s.length - k = 0 by omega]; rfl
theorem cnt_step {s : Bs} {k : Nat} (h : k < s.length) : cnt s k = (if bg s k = true then 1 else 0) + cnt s (k + 1) := by
  unfold cnt
  rw [show s.length - k = (s.length - (k + 1)) + 1 by omega, List.range_succ_eq_map, List.countP_cons, List.countP_map]
  have e : ((fun i => bg s (k + i)) ∘ Nat.succ) = fun i => bg s (k + 1 + i) := by
    funext i
    show bg s (k + (i + 1)) = _
    congr 1; omega
  rw [e]
  simp only [Nat.add_zero]
  omega
theorem cnt_mono {s : Bs} {k j : Nat} (h : k ≤ j) : cnt s j ≤ cnt s k := by
  obtain ⟨d, rfl⟩ : ∃ d, j = k + d := ⟨j - k, by omega⟩
  clear h
  induction d with
  | zero => exact Nat.le_refl _
  | succ d ih =>
    refine Nat.le_trans ?_ ih
    by_cases hl : k + d < s.length
    · rw [cnt_step hl, show k + (d + 1) = k + d + 1 by omega]; omega
    · rw [cnt_end (k := k + (d + 1)) (by omega)]; omega
theorem bg_drop (s : Bs) (j i : Nat) : bg (s.drop j) (i + 1) = bg s (j + 1 + i) := by
  unfold bg
  rw [show (i + 1 == 0) = false by simp, show (j + 1 + i == 0) = false by simp, Nat.add_sub_cancel, show j + 1 + i - 1 = j + i by omega]
  simp [List.getD_eq_getElem?_getD, List.getElem?_drop]
theorem many_drop {s : Bs} {j : Nat} (h : j < s.length) : many (s.drop j) = 1 + cnt s (j + 1) := by
  unfold many cnt
  rw [List.length_drop, show s.length - j = (s.length - (j + 1)) + 1 by omega, List.range_succ_eq_map, List.countP_cons, List.countP_map]
  have e : (bg (s.drop j) ∘ Nat.succ) = fun i => bg s (j + 1 + i) := by
    funext i
    exact bg_drop s j i
  rw [e, show bg (s.drop j) 0 = true from rfl, if_pos rfl]
  omega
theorem rtail_skip (s : Bs) (n b j : Nat) (hj : ∀ i, i < j → i < s.length → ¬ ((s.drop i).length ≤ b ∧ many (s.drop i) ≤ n)) : rtail s n b = rtail (s.drop j) n b := by
  induction s generalizing j with
  | nil => simp [rtail]
  | cons c r ih =>
    cases j with
    | zero => rfl
    | succ j =>
      have h0 := hj 0 (by omega) (by simp)
      rw [List.drop_zero] at h0
      rw [rtail, if_neg h0, List.drop_succ_cons]
      exact ih j fun i hi hl => by simpa using hj (i + 1) (by omega) (by simpa using hl)
theorem rtail_at {s : Bs} {n b : Nat} (h : s = [] ∨ s.length ≤ b ∧ many s ≤ n) : rtail s n b = s := by
  cases s with
  | nil => rfl
  | cons c r =>
    rcases h with h | h
    · cases h
    · rw [rtail, if_pos h]
/-- what a walk from the end tells -/
theorem last_is {T : Bs} {n b f k : Nat} (hb : T.length ≤ b) (h1 : cnt T k = cnt T f) (h2 : k ≤ f) (h3 : f ≤ T.length) (h4 : f = T.length ∨ bg T f = true) (h5 : (cnt T f = n ∧ 1 ≤ n) ∨ (k = 0 ∧ cnt T f ≤ n)) : rtail T n b = T.drop f := by
  have hsk : ∀ i, i < f → n < many (T.drop i) := fun i hi => by
    rw [many_drop (by omega)]
    rcases h5 with ⟨h5, _⟩ | ⟨rfl, h5⟩
    · have := cnt_mono (s := T) (k := i + 1) (j := f) (by omega)
      omega
    · have e := cnt_step (s := T) (k := 0) (by omega)
      rw [show bg T 0 = true from rfl, if_pos rfl] at e
      have := cnt_mono (s := T) (k := 0 + 1) (j := f) (by omega)
      omega
  rw [rtail_skip T n b f fun i hi _ h => by have := hsk i hi; omega]
  refine rtail_at ?_
  rcases Nat.lt_or_eq_of_le h3 with hf | rfl
  · right
    refine ⟨by rw [List.length_drop]; omega, ?_⟩
    have hbg : bg T f = true := h4.resolve_left (by omega)
    rw [many_drop hf]
    have e := cnt_step hf
    rw [hbg, if_pos rfl] at e
    rcases h5 with ⟨h5, _⟩ | ⟨_, h5⟩ <;> omega
  · left; simp
/-- of all that came only the last bytes matter -/
theorem rtail_cut (s : Bs) (n b : Nat) : rtail s n b = rtail (s.drop (s.length - b)) n b :=
  rtail_skip s n b _ fun i hi hl h => by have := h.1; rw [List.length_drop] at this; omega
theorem rtail_suffix (s : Bs) (n b : Nat) : (rtail s n b).length ≤ s.length := by
  induction s with
  | nil => exact Nat.le_refl _
  | cons c r ih =>
    rw [rtail]
    split
    · exact Nat.le_refl _
    · rw [List.length_cons]; omega
end Go.Proofs.YtngangdjbbbbdaaGreatDoor.Tl
end

section
namespace Go.Proofs.YtngangdjbbbbdaaGreatDoor.Tl
open Go.RowKit
theorem text_ext {x : ByteArray} {l : List UInt8} (h : x.data.toList = l) : x = ⟨l.toArray⟩ := by
  subst h
  cases x with
  | mk d => simp
theorem drop_text (s : ByteArray) (f z : Nat) (hz : s.size ≤ z) : s.extract f z = ⟨(s.data.toList.drop f).toArray⟩ := text_ext (by rw [Sum.extract_list, List.take_of_length_le hz])

end Go.Proofs.YtngangdjbbbbdaaGreatDoor.Tl
end

section
namespace Go.Proofs.YtngangdjbbbbdaaGreatDoor.Tl
open Go.RowKit Go.Proofs.YtngangdjbbbbdaaGreatDoor.Own
set_option maxRecDepth 100000 in
set_option maxHeartbeats 4000000 in
theorem last_calls (s : ByteArray) (n : Nat) (hn : 1 ≤ n) (hn2 : n ≤ 1000000) (hs : s.size ≤ 1099511627776) (w : World) :
    Calls Tryz.prog 60 #[.string s, .int .i64 n] w fun e w' => e = .returned (.string ⟨(rtail s.data.toList n s.size).toArray⟩) ∧ Below w.heap.size w w' := by
  obtain ⟨T, hT⟩ : ∃ T, s.data.toList = T := ⟨_, rfl⟩
  obtain ⟨z, hz⟩ : ∃ z, s.size = z := ⟨_, rfl⟩
  have hl : T.length = z := by rw [← hT, ← hz]; rfl
  rw [hT]
  have HZ := Lib.hid hz
  have HT := Lib.hid hT
  have HL := Lib.hid hl
  have hz2 : z ≤ 1099511627776 := by omega
  clear hT hl hs
  go_enter Tryz.func60, Tryz.ntmps60
  go_wp2_with fail
  go_step3
  go_wp2_with fail
  go_step3
  go_wp2_with fail
  go_loopw [1, 5, 6] (fun nv fv av wr => ∃ (k f : Nat) (m : Nat), wr = w ∧ k ≤ z ∧ f ≤ z ∧ m ≤ n ∧ nv = .int .i64 m ∧ fv = .int .i64 f ∧ av = .int .i64 ((k : Int) - 1) ∧ Hid (cnt T k = cnt T f ∧ k ≤ f ∧ (f = z ∨ bg T f = true) ∧ m + cnt T k = n)) (fun _ _ av _ => (intOf av + 1).toNat)
  case atStart => exact ⟨z, z, n, rfl, Nat.le_refl _, Nat.le_refl _, Nat.le_refl _, rfl, rfl, rfl, Lib.hid ⟨rfl, Nat.le_refl _, .inl rfl, by rw [cnt_end (by rw [HL.out]; exact Nat.le_refl _)]; rfl⟩⟩
  case round =>
    obtain ⟨k, f, m, rfl, hk, hf, hm, rfl, rfl, rfl, H⟩ := hrel
    have HX := Lib.hid (show s.extract f z = ⟨(T.drop f).toArray⟩ from by rw [← HT.out]; exact drop_text s f z (by rw [HZ.out]; exact Nat.le_refl _))
    obtain ⟨h1, h2, h3, h4⟩ := H.out
    rcases Nat.eq_zero_or_pos k with rfl | hk0
    · have q1 : ¬ (0 : Int) ≤ ((0 : Nat) : Int) - 1 := by omega
      have HE := Lib.hid (last_is (T := T) (n := n) (b := s.size) (f := f) (k := 0) (by rw [HL.out, HZ.out]; exact Nat.le_refl _) h1 h2 (by rw [HL.out]; exact hf) (by rw [HL.out]; exact h3) (.inr ⟨rfl, by omega⟩))
      clear h1 h2 h3 h4
      go_wp2_with fail
      rw [HX.out]
      try rw [Exit.noGoto_ret]
      go_ret
      exact ⟨by rw [HE.out]; rfl, Below.refl _ _⟩
    · obtain ⟨j, rfl⟩ : ∃ j, k = j + 1 := ⟨k - 1, by omega⟩
      rw [show ((j + 1 : Nat) : Int) - 1 = (j : Int) by omega]
      have q1 : (0 : Int) ≤ (j : Int) := by omega
      rcases Nat.eq_zero_or_pos m with rfl | hm0
      · have HE := Lib.hid (last_is (T := T) (n := n) (b := s.size) (f := f) (k := j + 1) (by rw [HL.out, HZ.out]; exact Nat.le_refl _) h1 h2 (by rw [HL.out]; exact hf) (by rw [HL.out]; exact h3) (.inl ⟨by omega, hn⟩))
        clear h1 h2 h3 h4
        go_wp2_with fail
        rw [HX.out]
        try rw [Exit.noGoto_ret]
        go_ret
        exact ⟨by rw [HE.out]; rfl, Below.refl _ _⟩
      · have q2 : ¬ (m : Int) < 1 := by omega
        have hst := cnt_step (s := T) (k := j) (by rw [HL.out]; omega)
        obtain ⟨m', rfl⟩ : ∃ m', m = m' + 1 := ⟨m - 1, by omega⟩
        have q7 : ((m' + 1 : Nat) : Int) - 1 = (m' : Int) := by omega
        rcases Nat.eq_zero_or_pos j with rfl | hj0
        · have hb : bg T 0 = true := rfl
          rw [hb, if_pos rfl] at hst
          have HN := Lib.hid (show cnt T 0 = cnt T 0 ∧ 0 ≤ 0 ∧ (0 = z ∨ bg T 0 = true) ∧ m' + cnt T 0 = n from ⟨rfl, Nat.le_refl _, .inr hb, by omega⟩)
          clear h1 h2 h3 h4 hst hb
          go_wp2_with fail
          go_roundw
          case rel => exact ⟨0, 0, m', by first | trivial | rfl, by omega, by omega, by omega, by go_num, rfl, by go_num, HN⟩
          case measure => first | (simp [intOf]; done) | (simp [intOf]; omega)
        · obtain ⟨i, rfl⟩ : ∃ i, j = i + 1 := ⟨j - 1, by omega⟩
          have q3 : ¬ ((i + 1 : Nat) : Int) = 0 := by omega
          have q4 : (((i + 1 : Nat) : Int) == 0) = false := by simpa using q3
          have q5 : ((i + 1 : Nat) : Int) - 1 = (i : Int) := by omega
          have q6 : i < s.size := by have := HZ.out; omega
          have hbg : bg T (i + 1) = (s[i] == 10) := by
            unfold bg
            rw [← HT.out, show (i + 1 == 0) = false by simp, Nat.add_sub_cancel, List.getD_eq_getElem?_getD, List.getElem?_eq_getElem (by exact q6)]
            rfl
          rw [hbg] at hst
          by_cases h10 : s[i] = 10
          · have b1 : ((s[i].toNat : Int) == 10) = true := by rw [h10]; rfl
            have hb : bg T (i + 1) = true := by rw [hbg, h10]; rfl
            rw [if_pos (show (s[i] == 10) = true by rw [h10]; rfl)] at hst
            have HN := Lib.hid (show cnt T (i + 1) = cnt T (i + 1) ∧ i + 1 ≤ i + 1 ∧ (i + 1 = z ∨ bg T (i + 1) = true) ∧ m' + cnt T (i + 1) = n from ⟨rfl, Nat.le_refl _, .inr hb, by omega⟩)
            clear h1 h2 h3 h4 hst hb hbg h10
            go_wp2_with fail
            go_roundw
            case rel => exact ⟨i + 1, i + 1, m', by first | trivial | rfl, by omega, by omega, by omega, by go_num, by go_num, by go_num, by first | exact HN | exact Lib.hid ⟨rfl, HN.out.2⟩⟩
            case measure => first | (simp [intOf]; done) | (simp [intOf]; omega)
          · have b1 : ((s[i].toNat : Int) == 10) = false := by
              have : ¬ (s[i].toNat : Int) = 10 := fun e => h10 (UInt8.toNat_inj.1 (by show s[i].toNat = 10; omega))
              simpa using this
            have hne : ¬ (s[i] == 10) = true := by simpa using h10
            rw [if_neg hne] at hst
            have HN := Lib.hid (show cnt T (i + 1) = cnt T f ∧ i + 1 ≤ f ∧ (f = z ∨ bg T f = true) ∧ m' + 1 + cnt T (i + 1) = n from ⟨by omega, by omega, h3, by omega⟩)
            clear h1 h2 h3 h4 hst hbg h10 hne
            go_wp2_with fail
            go_roundw
            case rel => exact ⟨i + 1, f, m' + 1, by first | trivial | rfl, by omega, hf, by omega, rfl, rfl, by go_num, HN⟩
            case measure => first | (simp [intOf]; done) | (simp [intOf]; omega)
end Go.Proofs.YtngangdjbbbbdaaGreatDoor.Tl
end

section
namespace Go.Proofs.YtngangdjbbbbdaaGreatDoor.Ring
open Go.RowKit Go.Proofs.YtngangdjbbbbdaaGreatDoor.Own

/-- the bytes t stand in the places L, from f on, around the end -/
def Reads (L : List UInt8) (f : Nat) (t : List UInt8) : Prop :=
  t.length ≤ L.length ∧ (f < L.length ∨ (f = 0 ∧ L = [])) ∧ ∀ i, i < t.length → L[(f + i) % L.length]? = t[i]?

theorem mod2 {f n i : Nat} (hf : f < n) (hi : i ≤ n) : (f + i) % n = if f + i < n then f + i else f + i - n := by
  split
  · rename_i h; exact Nat.mod_eq_of_lt h
  · rename_i h
    rw [Nat.mod_eq_sub_mod (by omega), Nat.mod_eq_of_lt (by omega)]

theorem splice_get {α : Type} (L cs : List α) (o i : Nat) (h : o + cs.length ≤ L.length) : (splice L o cs)[i]? = if i < o then L[i]? else if i < o + cs.length then cs[i - o]? else L[i]? := by
  unfold splice
  by_cases h1 : i < o
  · rw [if_pos h1, List.getElem?_append_left (by simp; omega), List.getElem?_take, if_pos h1]
  · rw [if_neg h1, List.getElem?_append_right (by simp; omega)]
    have hl : (L.take o).length = o := by simp; omega
    rw [hl]
    by_cases h2 : i < o + cs.length
    · rw [if_pos h2, List.getElem?_append_left (by omega)]
    · rw [if_neg h2, List.getElem?_append_right (by omega), List.getElem?_drop]
      congr 1; omega

theorem splice_nil {α : Type} (L : List α) (o : Nat) : splice L o [] = L := by simp [splice]

theorem splice_two {α : Type} (L x y : List α) (o : Nat) (h : o + x.length + y.length ≤ L.length) : splice (splice L o x) (o + x.length) y = splice L o (x ++ y) := by
  apply List.ext_getElem?
  intro i
  have hs : (splice L o x).length = L.length := length_splice L o x (by omega)
  rw [splice_get _ _ _ _ (by omega), splice_get L x o i (by omega), splice_get L (x ++ y) o i (by simp; omega)]
  simp only [List.length_append]
  by_cases h1 : i < o
  · rw [if_pos (by omega), if_pos h1, if_pos h1]
  · by_cases h2 : i < o + x.length
    · rw [if_pos h2, if_neg h1, if_pos h2, if_neg h1, if_pos (by omega), List.getElem?_append_left (by omega)]
    · by_cases h3 : i < o + (x.length + y.length)
      · rw [if_neg h2, if_pos (by omega), if_neg h1, if_pos h3, List.getElem?_append_right (by omega)]; congr 1; omega
      · rw [if_neg h2, if_neg (by omega), if_neg h1, if_neg h2, if_neg h1, if_neg h3]

theorem reads_nil : Reads [] 0 [] := ⟨Nat.le_refl _, .inr ⟨rfl, rfl⟩, fun i h => absurd h (by simp)⟩
theorem reads_flat (t z : List UInt8) (h : t ++ z ≠ []) : Reads (t ++ z) 0 t := by
  have hp : 0 < (t ++ z).length := List.length_pos_iff.2 h
  refine ⟨by simp, .inl hp, fun i hi => ?_⟩
  rw [Nat.zero_add, Nat.mod_eq_of_lt (by simp; omega), List.getElem?_append_left hi]

section
variable {L t : List UInt8} {f : Nat}

theorem reads_pos (h : Reads L f t) (ht : 0 < t.length) : f < L.length := by
  rcases h.2.1 with h' | ⟨_, rfl⟩
  · exact h'
  · have := h.1; simp at this; subst this; simp at ht
theorem reads_le (h : Reads L f t) : f ≤ L.length := by
  rcases h.2.1 with h' | ⟨rfl, _⟩ <;> omega

theorem reads_at (h : Reads L f t) {i : Nat} (hi : i < t.length) : L[(f + i) % L.length]? = some t[i] := by
  rw [h.2.2 i hi, List.getElem?_eq_getElem hi]

theorem reads_drop (h : Reads L f t) {k : Nat} (hk : k ≤ t.length) (h0 : 0 < k) : Reads L ((f + k) % L.length) (t.drop k) := by
  have hf := reads_pos h (by omega)
  have hl := h.1
  refine ⟨by simp; omega, .inl (Nat.mod_lt _ (by omega)), fun i hi => ?_⟩
  simp only [List.length_drop] at hi
  rw [List.getElem?_drop, ← h.2.2 (k + i) (by omega)]
  congr 1
  rw [Nat.mod_add_mod, Nat.add_assoc]

/-- the first m bytes, where they end ahead of the places' end -/
theorem reads_one (h : Reads L f t) {m : Nat} (hm : m ≤ t.length) (hn : m ≤ L.length - f) {j : Nat} (hj : j < m) : L[f + j]? = (t.take m)[j]? := by
  rw [List.getElem?_take, if_pos hj, ← h.2.2 j (by omega), Nat.mod_eq_of_lt (by omega)]
/-- the bytes behind the places' end -/
theorem reads_two (h : Reads L f t) {m : Nat} (hm : m ≤ t.length) (hn : L.length - f ≤ m) {j : Nat} (hj : j < m - (L.length - f)) : L[j]? = ((t.take m).drop (L.length - f))[j]? := by
  have hf := reads_pos h (by omega)
  have hl := h.1
  rw [List.getElem?_drop, List.getElem?_take, if_pos (by omega), ← h.2.2 (L.length - f + j) (by omega), mod2 hf (by omega), if_neg (by omega)]
  congr 1; omega

/-- bytes that are put behind, around the end -/
theorem reads_put (h : Reads L f t) (s : List UInt8) (hs : t.length + s.length ≤ L.length) (h0 : 0 < L.length) (d : Nat) (hd : d = min s.length (L.length - (f + t.length) % L.length)) :
    Reads (splice (splice L ((f + t.length) % L.length) (s.take d)) 0 (s.drop d)) f (t ++ s) := by
  have hf : f < L.length := by rcases h.2.1 with h' | ⟨_, rfl⟩; exact h'; simp at h0
  have hp : (f + t.length) % L.length < L.length := Nat.mod_lt _ h0
  have hpe := mod2 (i := t.length) hf (by omega)
  generalize (f + t.length) % L.length = p at *
  have hl1 : (s.take d).length = d := by simp; omega
  have hl2 : (s.drop d).length = s.length - d := by simp
  have e1 : (splice L p (s.take d)).length = L.length := length_splice _ _ _ (by omega)
  have e2 : (splice (splice L p (s.take d)) 0 (s.drop d)).length = L.length := by rw [length_splice _ _ _ (by omega), e1]
  refine ⟨by rw [e2]; simp; omega, .inl (by omega), fun i hi => ?_⟩
  simp only [List.length_append] at hi
  rw [e2, mod2 hf (by omega), splice_get _ _ _ _ (by omega), splice_get _ _ _ _ (by omega), hl1, hl2]
  simp only [Nat.zero_add, Nat.sub_zero, Nat.not_lt_zero, if_false]
  by_cases hit : i < t.length
  · have := h.2.2 i hit
    rw [mod2 hf (by omega)] at this
    rw [List.getElem?_append_left hit, ← this]
    split <;> split at hpe <;> (first | (rw [if_neg (by omega), if_pos (by omega)]) | (rw [if_neg (by omega), if_neg (by omega), if_neg (by omega)]))
  · rw [List.getElem?_append_right (by omega)]
    by_cases hw : i - t.length < d
    · have e : (s.take d)[i - t.length]? = s[i - t.length]? := by rw [List.getElem?_take, if_pos hw]
      rw [← e]
      split <;> split at hpe <;> (rw [if_neg (by omega), if_neg (by omega), if_pos (by omega)]; congr 1; omega)
    · have e : (s.drop d)[i - t.length - d]? = s[i - t.length]? := by rw [List.getElem?_drop]; congr 1; omega
      rw [← e]
      split <;> split at hpe <;> first | (exfalso; omega) | (rw [if_pos (by omega)]; congr 1; omega)
end
end Go.Proofs.YtngangdjbbbbdaaGreatDoor.Ring
end

section
namespace Go.Proofs.YtngangdjbbbbdaaGreatDoor.Ring
open Go.RowKit Go.Proofs.YtngangdjbbbbdaaGreatDoor.Own

theorem ret_int {a b : Int} (h : a = b) : Ending.returned (.int .i64 a) = .returned (.int .i64 b) := by rw [h]

def placeV (q : Option Nat) (n : Nat) : Value := match q with | none => .slice none 0 0 | some p => .slice (some ⟨p, 0, none⟩) n n
def Place (w : World) (q : Option Nat) (L : List UInt8) : Prop := match q with | none => L = [] | some p => w.heap[p]? = some (.cells (bv L).toArray 5 (0, 0)) ∧ L ≠ []

/-- the ring's own block and its places -/
structure Raw (w : World) (b : Nat) (q : Option Nat) (most gone f cnt : Nat) (L : List UInt8) : Prop where
  blk : w.heap[b]? = some (.cells #[.int .i64 most, placeV q L.length, .int .i64 f, .int .i64 cnt, .int .i64 gone] 169 (0, 0))
  row : Place w q L
  ne : q ≠ some b
  m1 : 1 ≤ most
  m2 : most ≤ 1048576
  lm : L.length ≤ most
  gm : gone ≤ 4611686018427387904

section
variable {w : World} {b : Nat} {q : Option Nat} {most gone f cnt : Nat} {L : List UInt8}

theorem Raw.cells (h : Raw w b q most gone f cnt L) : w.cell? ⟨b, 0, none⟩ = some (.int .i64 most) ∧ w.cell? ⟨b, 1, none⟩ = some (placeV q L.length) ∧ w.cell? ⟨b, 2, none⟩ = some (.int .i64 f) ∧
    w.cell? ⟨b, 3, none⟩ = some (.int .i64 cnt) ∧ w.cell? ⟨b, 4, none⟩ = some (.int .i64 gone) := by
  refine ⟨?_, ?_, ?_, ?_, ?_⟩ <;> (rw [at_cell h.blk]; rfl)
theorem Raw.free (h : Raw w b q most gone f cnt L) (o : Nat) : w.frozen? ⟨b, o, none⟩ = false := at_frozen h.blk o
theorem Raw.move {w' : World} (h : Raw w b q most gone f cnt L) (hb : w'.heap[b]? = w.heap[b]?) (hq : ∀ p, q = some p → w'.heap[p]? = w.heap[p]?) : Raw w' b q most gone f cnt L := by
  refine ⟨hb.trans h.blk, ?_, h.ne, h.m1, h.m2, h.lm, h.gm⟩
  have := h.row
  cases q with
  | none => exact this
  | some p => exact ⟨(hq p rfl).trans this.1, this.2⟩
theorem Raw.lt (h : Raw w b q most gone f cnt L) : b < w.heap.size := at_lt h.blk
theorem Raw.ltq (h : Raw w b q most gone f cnt L) {p : Nat} (hq : q = some p) : p < w.heap.size := by subst hq; exact at_lt h.row.1
theorem Raw.out {w' : World} {S : Nat → Prop} (h : Raw w b q most gone f cnt L) (ho : Out S w w') (hb : ¬ S b) (hq : ∀ p, q = some p → ¬ S p) : Raw w' b q most gone f cnt L :=
  h.move (ho.block b h.lt hb) fun p e => ho.block p (h.ltq e) (hq p e)

theorem len_raw (h : Raw w b q most gone f cnt L) :
    Calls Tryz.prog 87 #[.pointer (some ⟨b, 0, none⟩)] w fun e w' => e = .returned (.int .i64 cnt) ∧ w = w' := by
  obtain ⟨c0, c1, c2, c3, c4⟩ := h.cells
  clear h
  go_enter Tryz.func87, Tryz.ntmps87
  go_wp2
  go_ret
  exact ⟨rfl, rfl⟩

def Drew (w w' : World) : Prop := ∃ n, w' = w.drewN n

theorem room_raw (h : Raw w b q most gone f cnt L) (hc : cnt ≤ most) :
    Calls Tryz.prog 97 #[.pointer (some ⟨b, 0, none⟩)] w fun e w' => e = .returned (.int .i64 ((most : Int) - cnt)) ∧ Drew w w' := by
  obtain ⟨c0, c1, c2, c3, c4⟩ := h.cells
  have := h.m2
  clear h
  go_enter Tryz.func97, Tryz.ntmps97
  go_wp2
  go_quiet (fail)
  go_wp2
  go_ret
  exact ⟨rfl, _, rfl⟩

theorem around_raw (p : Nat) (h : Raw w b (some p) most gone f cnt L) (i : Int) (hL : 0 < L.length) (hf : f < L.length) (h0 : 0 ≤ i) (h1 : i ≤ 1048576) :
    Calls Tryz.prog 111 #[.pointer (some ⟨b, 0, none⟩), .int .i64 i] w fun e w' => e = .returned (.int .i64 (((f + i.toNat) % L.length : Nat) : Int)) ∧ Drew w w' := by
  obtain ⟨c0, c1, c2, c3, c4⟩ := h.cells
  have := h.m2
  have := h.lm
  clear h
  obtain ⟨k, rfl⟩ : ∃ k : Nat, i = k := ⟨i.toNat, by omega⟩
  unfold placeV at c1
  generalize L.length = n at *
  have hz : ((n : Int) == 0) = false := by rw [beq_eq_false_iff_ne]; omega
  go_enter Tryz.func111, Tryz.ntmps111
  go_wp2
  go_quiet (fail)
  go_wp2
  go_ret
  exact ⟨ret_int (by simp), _, rfl⟩
end
end Go.Proofs.YtngangdjbbbbdaaGreatDoor.Ring
end

section
namespace Go.Proofs.YtngangdjbbbbdaaGreatDoor.Ring
open Go.RowKit Go.Proofs.YtngangdjbbbbdaaGreatDoor.Own

theorem info8 : (Tryz.prog.info? 5).map (·.size) = some 1 := by kernel_rfl

section
variable {w : World} {b : Nat} {q : Option Nat} {most gone f cnt : Nat} {L : List UInt8}

theorem within_raw (h : Raw w b q most gone f cnt L) (n : Int) (hc : cnt ≤ 1048576) :
    Calls Tryz.prog 100 #[.pointer (some ⟨b, 0, none⟩), .int .i64 n] w fun e w' => e = .returned (.int .i64 ((min n.toNat cnt : Nat) : Int)) ∧ w = w' := by
  have HR := Lib.hid h
  clear h
  by_cases h0 : n < 0
  · go_enter Tryz.func100, Tryz.ntmps100
    go_wp2_with (go_at_call 87; refine (len_raw HR.out).mono ?_; rintro e w' ⟨rfl, rfl⟩)
    all_goals (go_ret; exact ⟨ret_int (by first | omega | (split at * <;> omega)), rfl⟩)
  · obtain ⟨k, rfl⟩ : ∃ k : Nat, n = k := ⟨n.toNat, by omega⟩
    go_enter Tryz.func100, Tryz.ntmps100
    go_wp2_with (go_at_call 87; refine (len_raw HR.out).mono ?_; rintro e w' ⟨rfl, rfl⟩)
    all_goals (go_ret; exact ⟨ret_int (by first | omega | (split at * <;> omega)), rfl⟩)
/-- fill, where no byte lies behind the places' end -/
theorem fill_a (p : Nat) {t : List UInt8} (h : Raw w b (some p) most gone f t.length L) (hr : Reads L f t) (g o m cap : Nat) (cur : List Value) (T : TypeId)
    (hg : w.heap[g]? = some (.cells cur.toArray T (0, 0))) (gb : g ≠ b) (ho : o + m ≤ cur.length) (hm : m ≤ t.length) (hf : f < L.length) (hcap : m ≤ cap) (hle : m ≤ L.length - f) :
    Calls Tryz.prog 101 #[.pointer (some ⟨b, 0, none⟩), .slice (some ⟨g, o, none⟩) m cap] w fun e w' => e = .returned (.tuple #[]) ∧
      w'.heap[g]? = some (.cells (splice cur o (bv (t.take m))).toArray T (0, 0)) ∧ Out (fun k => k = g) w w' := by
  obtain ⟨c0, c1, c2, c3, c4⟩ := h.cells
  have hrow := h.row.1
  have l1 := h.m2
  have l2 := h.lm
  have hsrc : ∀ j v, (bv (t.take m))[j]? = some v → w.cell? ((⟨p, f, none⟩ : Addr).add j) = some v := by
    intro j v hv
    have hj : j < m := by
      have := (List.getElem?_eq_some_iff.1 hv).1; rw [bv_len] at this; simp at this; omega
    have ha : (⟨p, f, none⟩ : Addr).add j = ⟨p, f + j, none⟩ := by unfold Addr.add; split <;> simp_all
    rw [ha, at_cell hrow, List.getElem?_toArray, bv_get, reads_one hr hm hle hj, ← bv_get, hv]
  have hl : (bv (t.take m)).length = m := by rw [bv_len]; simp; omega
  have blt := h.lt
  have plt := h.ltq rfl
  have HR := Lib.hid h; clear h
  have HS := Lib.hid hsrc; clear hsrc
  have HG := Lib.hid hg; clear hg
  have HL := Lib.hid hl; clear hl
  have HO := Lib.hid hrow; clear hrow
  have HX := Lib.hid hr; clear hr
  unfold placeV at c1
  generalize L.length = n at *
  have i0 : (0 : Int) ≤ (f : Int) := by omega
  have i1 : (f : Int) ≤ (n : Int) := by omega
  go_enter Tryz.func101, Tryz.ntmps101
  go_wp2
  go_region_held3 (fun w' => w'.cell? ⟨b, 1, none⟩ = some (.slice (some ⟨p, 0, none⟩) n n) ∧ w'.cell? ⟨b, 2, none⟩ = some (.int .i64 f))
    (first
      | go_keep
      | exact ⟨by rw [hO1.cell blt (Ne.symm gb)]; assumption, by rw [hO1.cell blt (Ne.symm gb)]; assumption⟩)
    ((refine step_copy_out rfl _ _ _ _ rfl 5 Tryz.underlying58 info8 _ _ _ _ _ _ rfl rfl g o cur T HG.out (bv (t.take m)) m HL.out (by omega) (fun _ => ⟨rfl, ⟨p, f, none⟩, if_neg (Ne.symm (Nat.ne_of_lt hf)), HS.out⟩) ho (bv_one _) ?_; intro w1 hg1 hO1))
  have e1 : w1.cell? ⟨b, 1, none⟩ = some (.slice (some ⟨p, 0, none⟩) n n) := by rw [hO1.cell blt (Ne.symm gb)]; assumption
  have HO1 := Lib.hid hO1.ofDrew; clear hO1
  have j0 : (0 : Int) ≤ (m : Int) := by omega
  have j1 : (m : Int) ≤ (cap : Int) := by omega
  go_wp2
  go_region_held3 (fun w' => w'.cell? ⟨b, 1, none⟩ = some (.slice (some ⟨p, 0, none⟩) n n))
    (first
      | go_keep
      | (rw [hO2.cell (show b < w1.heap.size by have := HO1.out.size; omega) (Ne.symm gb)]; assumption))
    ((refine step_copy_out rfl _ _ _ _ rfl 5 Tryz.underlying58 info8 _ _ _ _ _ _ rfl rfl g 0 _ T hg1.out [] 0 rfl (by omega) (fun h => absurd h (by omega)) (by simp) (by simp) ?_; intro w2 hg2 hO2))
  go_wp2
  all_goals
    go_end0
    refine ⟨rfl, ?_, HO1.out.trans hO2.ofDrew (fun _ _ h => h)⟩
    have := hg2.out
    rwa [splice_nil] at this
/-- fill, where bytes lie behind the places' end -/
theorem fill_b (p : Nat) {t : List UInt8} (h : Raw w b (some p) most gone f t.length L) (hr : Reads L f t) (g o m cap : Nat) (cur : List Value) (T : TypeId)
    (hg : w.heap[g]? = some (.cells cur.toArray T (0, 0))) (gb : g ≠ b) (gp : g ≠ p) (ho : o + m ≤ cur.length) (hm : m ≤ t.length) (hf : f < L.length) (hcap : m ≤ cap) (hcm : cap ≤ 1048576) (hgt : L.length - f < m) :
    Calls Tryz.prog 101 #[.pointer (some ⟨b, 0, none⟩), .slice (some ⟨g, o, none⟩) m cap] w fun e w' => e = .returned (.tuple #[]) ∧
      w'.heap[g]? = some (.cells (splice cur o (bv (t.take m))).toArray T (0, 0)) ∧ Out (fun k => k = g) w w' := by
  obtain ⟨c0, c1, c2, c3, c4⟩ := h.cells
  have hrow := h.row.1
  have l1 := h.m2
  have l2 := h.lm
  have hnl := hr.1
  have hsrc : ∀ j v, (bv (t.take (L.length - f)))[j]? = some v → w.cell? ((⟨p, f, none⟩ : Addr).add j) = some v := by
    intro j v hv
    have hj : j < L.length - f := by
      have := (List.getElem?_eq_some_iff.1 hv).1; rw [bv_len] at this; simp at this; omega
    have ha : (⟨p, f, none⟩ : Addr).add j = ⟨p, f + j, none⟩ := by unfold Addr.add; split <;> simp_all
    rw [ha, at_cell hrow, List.getElem?_toArray, bv_get, reads_one hr (by omega) (Nat.le_refl _) hj, ← bv_get, hv]
  have hl : (bv (t.take (L.length - f))).length = L.length - f := by rw [bv_len]; simp; omega
  have hsrc2 : ∀ j v, (bv ((t.take m).drop (L.length - f)))[j]? = some v → w.cell? ((⟨p, 0, none⟩ : Addr).add j) = some v := by
    intro j v hv
    have hj : j < m - (L.length - f) := by
      have := (List.getElem?_eq_some_iff.1 hv).1; rw [bv_len] at this; simp at this; omega
    have ha : (⟨p, 0, none⟩ : Addr).add j = ⟨p, j, none⟩ := by unfold Addr.add; split <;> simp_all
    rw [ha, at_cell hrow, List.getElem?_toArray, bv_get, reads_two hr hm (by omega) hj, ← bv_get, hv]
  have hl2 : (bv ((t.take m).drop (L.length - f))).length = m - (L.length - f) := by rw [bv_len]; simp; omega
  have hfin : splice (splice cur o (bv (t.take (L.length - f)))) (o + (L.length - f)) (bv ((t.take m).drop (L.length - f))) = splice cur o (bv (t.take m)) := by
    have := splice_two cur (bv (t.take (L.length - f))) (bv ((t.take m).drop (L.length - f))) o (by rw [hl, hl2]; omega)
    rw [hl] at this
    rw [this, ← bv_app]
    congr 2
    have e := List.take_append_drop (L.length - f) (t.take m)
    rw [List.take_take, Nat.min_eq_left (by omega)] at e
    exact e
  have blt := h.lt
  have plt := h.ltq rfl
  have HR := Lib.hid h; clear h
  have HS := Lib.hid hsrc; clear hsrc
  have HG := Lib.hid hg; clear hg
  have HL := Lib.hid hl; clear hl
  have HO := Lib.hid hrow; clear hrow
  have HX := Lib.hid hr; clear hr
  have HS2 := Lib.hid hsrc2; clear hsrc2
  have HL2 := Lib.hid hl2; clear hl2
  have HF := Lib.hid hfin; clear hfin
  unfold placeV at c1
  generalize L.length = n at *
  have i0 : (0 : Int) ≤ (f : Int) := by omega
  have i1 : (f : Int) ≤ (n : Int) := by omega
  go_enter Tryz.func101, Tryz.ntmps101
  go_wp2
  go_region_held3 (fun w' => w'.cell? ⟨b, 1, none⟩ = some (.slice (some ⟨p, 0, none⟩) n n) ∧ w'.cell? ⟨b, 2, none⟩ = some (.int .i64 f))
    (first
      | go_keep
      | exact ⟨by rw [hO1.cell blt (Ne.symm gb)]; assumption, by rw [hO1.cell blt (Ne.symm gb)]; assumption⟩)
    ((refine step_copy_out rfl _ _ _ _ rfl 5 Tryz.underlying58 info8 _ _ _ _ _ _ rfl rfl g o cur T HG.out (bv (t.take (n - f))) (n - f) HL.out (by omega) (fun _ => ⟨rfl, ⟨p, f, none⟩, if_neg (Ne.symm (Nat.ne_of_lt hf)), HS.out⟩) (by omega) (bv_one _) ?_; intro w1 hg1 hO1))
  have e1 : w1.cell? ⟨b, 1, none⟩ = some (.slice (some ⟨p, 0, none⟩) n n) := by rw [hO1.cell blt (Ne.symm gb)]; assumption
  have HO1 := Lib.hid hO1.ofDrew; clear hO1
  have j0 : (0 : Int) ≤ ((n - f : Nat) : Int) := by omega
  have j1 : ((n - f : Nat) : Int) ≤ (cap : Int) := by omega
  have j2 : ((n - f : Nat) : Int) ≤ (m : Int) := by omega
  have HC : Hid (∀ j v, (bv ((t.take m).drop (n - f)))[j]? = some v → w1.cell? ((⟨p, 0, none⟩ : Addr).add j) = some v) := Lib.hid fun j v hv => by
    have ha : (⟨p, 0, none⟩ : Addr).add j = ⟨p, j, none⟩ := by unfold Addr.add; split <;> simp_all
    have := HS2.out j v hv
    rw [ha] at this ⊢
    rw [HO1.out.cell plt (Ne.symm gp)]; exact this
  go_wp2
  go_region_held3 (fun w' => w'.cell? ⟨b, 1, none⟩ = some (.slice (some ⟨p, 0, none⟩) n n))
    (first
      | go_keep
      | (rw [hO2.cell (show b < w1.heap.size by have := HO1.out.size; omega) (Ne.symm gb)]; assumption))
    ((refine step_copy_out rfl _ _ _ _ rfl 5 Tryz.underlying58 info8 _ _ _ _ _ _ rfl rfl g (o + (n - f)) _ T hg1.out (bv ((t.take m).drop (n - f))) (m - (n - f)) HL2.out (by omega) (fun _ => ⟨if_neg (by omega), ⟨p, 0, none⟩, rfl, HC.out⟩) (by rw [length_splice _ _ _ (by rw [HL.out]; omega)]; omega) (bv_one _) ?_; intro w2 hg2 hO2))
  go_wp2
  all_goals
    go_end0
    refine ⟨rfl, ?_, HO1.out.trans hO2.ofDrew (fun _ _ h => h)⟩
    have := hg2.out
    rwa [HF.out] at this

theorem fill_raw (p : Nat) {t : List UInt8} (h : Raw w b (some p) most gone f t.length L) (hr : Reads L f t) (g o m cap : Nat) (cur : List Value) (T : TypeId)
    (hg : w.heap[g]? = some (.cells cur.toArray T (0, 0))) (gb : g ≠ b) (gp : g ≠ p) (ho : o + m ≤ cur.length) (hm : m ≤ t.length) (hf : f < L.length) (hcap : m ≤ cap) (hcm : cap ≤ 1048576) :
    Calls Tryz.prog 101 #[.pointer (some ⟨b, 0, none⟩), .slice (some ⟨g, o, none⟩) m cap] w fun e w' => e = .returned (.tuple #[]) ∧
      w'.heap[g]? = some (.cells (splice cur o (bv (t.take m))).toArray T (0, 0)) ∧ Out (fun k => k = g) w w' := by
  by_cases hle : m ≤ L.length - f
  · exact fill_a p h hr g o m cap cur T hg gb ho hm hf hcap hle
  · exact fill_b p h hr g o m cap cur T hg gb gp ho hm hf hcap hcm (by omega)

/-- fill of a ring that has no place yet -/
theorem fill_nil (h : Raw w b none most gone 0 0 L) (g cap : Nat) (cur : List Value) (T : TypeId) (hg : w.heap[g]? = some (.cells cur.toArray T (0, 0))) (gb : g ≠ b) :
    Calls Tryz.prog 101 #[.pointer (some ⟨b, 0, none⟩), .slice (some ⟨g, 0, none⟩) 0 cap] w fun e w' => e = .returned (.tuple #[]) ∧
      w'.heap[g]? = some (.cells cur.toArray T (0, 0)) ∧ Out (fun k => k = g) w w' := by
  obtain ⟨c0, c1, c2, c3, c4⟩ := h.cells
  have blt := h.lt
  have HG := Lib.hid hg; clear hg
  unfold placeV at c1
  clear h
  go_enter Tryz.func101, Tryz.ntmps101
  go_wp2
  go_region_held3 (fun w' => w'.cell? ⟨b, 1, none⟩ = some (.slice none 0 0) ∧ w'.cell? ⟨b, 2, none⟩ = some (.int .i64 0))
    (first
      | go_keep
      | exact ⟨by rw [hO1.cell blt (Ne.symm gb)]; assumption, by rw [hO1.cell blt (Ne.symm gb)]; assumption⟩)
    ((refine step_copy_out rfl _ _ _ _ rfl 5 Tryz.underlying58 info8 _ _ _ _ _ _ rfl rfl g 0 cur T HG.out [] 0 rfl (by omega) (fun h => absurd h (by omega)) (by simp) (by simp) ?_; intro w1 hg1 hO1))
  have e1 : w1.cell? ⟨b, 1, none⟩ = some (.slice none 0 0) := by rw [hO1.cell blt (Ne.symm gb)]; assumption
  have HO1 := Lib.hid hO1.ofDrew; clear hO1
  have j0 : (0 : Int) ≤ (cap : Int) := by omega
  go_wp2
  go_region_held3 (fun w' => w'.cell? ⟨b, 1, none⟩ = some (.slice none 0 0))
    (first
      | go_keep
      | (rw [hO2.cell (show b < w1.heap.size by have := HO1.out.size; omega) (Ne.symm gb)]; assumption))
    ((refine step_copy_out rfl _ _ _ _ rfl 5 Tryz.underlying58 info8 _ _ _ _ _ _ rfl rfl g 0 _ T hg1.out [] 0 rfl (by omega) (fun h => absurd h (by omega)) (by simp) (by simp) ?_; intro w2 hg2 hO2))
  go_wp2
  all_goals
    go_end0
    refine ⟨rfl, ?_, HO1.out.trans hO2.ofDrew (fun _ _ h => h)⟩
    have := hg2.out
    rwa [splice_nil, splice_nil] at this
end
end Go.Proofs.YtngangdjbbbbdaaGreatDoor.Ring
end


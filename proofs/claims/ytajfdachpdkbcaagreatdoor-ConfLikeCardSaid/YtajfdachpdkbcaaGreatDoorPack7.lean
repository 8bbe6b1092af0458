/-
Layer 13 (tree): block, all.
Layer 15 (conf): Print's regions that draw: operations, what their temporaries hold.
Layer 15 (conf): a region that draws, at whose end a statement is appended.
Layer 15 (conf): sameGroup, slices.EqualFunc.
Layer 2 (digit): the program's Read, walked.
Layer 10 (word): names and patterns, walked: the program's and the document's.
Layer 10 (word): names and patterns as texts, walked.
Layer 15 (conf): within, the words of kinds and levels, patterns, one number, Usual, numbers.
Layer 15 (conf): Find; numbers.
Layer 15 (conf): arrays of ten texts compared.
-/
import Derived.Test.YtajfdachpdkbcaaGreatDoorPack6
import Derived.Deep.AppendLies
import Derived.Test.YtajfdachpdkbcaaGreatDoorProg
import Derived.WalkKit
import Derived.Lib.Hide
import Derived.Test.YtajfdachpdkbcaaGreatDoorShelf
import Derived.Deep.RegionHeld3
import Derived.StillTailTactics
import Derived.ChangeKeysEq
section
namespace Go.Proofs.YtajfdachpdkbcaaGreatDoor.Tree
open Go.RowKit Go.Proofs.YtajfdachpdkbcaaGreatDoor.Own Go.Proofs.YtajfdachpdkbcaaGreatDoor.Rw Go.Proofs.YtajfdachpdkbcaaGreatDoor.Lex

theorem info_node : (Tryz.prog.info? 57).map (fun i => (i.zero, i.size, i.bytes)) = some (some (.agg #[.string ⟨#[]⟩, .slice none 0 0, .bool false, .slice none 0 0, .int .i64 0]), 5, 80) := by kernel_rfl
theorem No.forms {B : Nat} {w : World} {k b n va vl : Value} {nd : Nd} (h : No B w [k, va, b, vl, n] nd) : (∃ p c, va = .slice p nd.args.length c) ∧ ∃ p c, vl = .slice p nd.list.length c := by
  cases h with
  | cons ha xa hl xl hk hr => cases hr; exact ⟨own_form ha, own_form hl⟩
theorem five_new (w : World) (x0 x1 x2 x3 x4 : Value) (T : TypeId) (g : Nat) (hg : g = w.heap.size) : ∀ j u, [x0, x1, x2, x3, x4][j]? = some u → (w.alloc (.cells #[x0, x1, x2, x3, x4] T (0, 0))).cell? ((⟨g, 0, none⟩ : Addr).add j) = some u := by
  subst hg
  intro j u hu
  rw [add0, at_cell (at_new w _)]
  simpa using hu

def thenB (K : Nd → List Pc → Rs (List Nd)) : Rs Nd → Rs (List Nd)
  | .bad c l => .bad c l
  | .ok n r => K n r
/-- statements that were found -/
structure BlkAt (P : List Pc) (p : Option Addr) (c rb k : Nat) (w wr : World) (acc : List Nd) (v : Value) (xs : List Value) (k1 : Nat) : Prop where
  rd : Rd wr P p c rb k1
  out : Out (OnlyR rb) w wr
  hk : k ≤ k1
  own : wr.ownsRow w.heap.size 57 5 v acc.length xs
  ls : Ls wr (fun k => k < w.heap.size ∨ v.ownBlock = some k) xs acc
  few : acc.length ≤ k1
  lt : rb < w.heap.size
theorem BlkAt.own_at {P : List Pc} {p : Option Addr} {c rb k : Nat} {w wr w5 w6 w7 : World} {acc : List Nd} {v : Value} {xs : List Value} {k1 : Nat} (C : BlkAt P p c rb k w wr acc v xs k1)
    (ho5 : Out (OnlyR rb) wr w5) (hb6 : Below w5.heap.size w5 w6) (ho7 : Out (OnlyR rb) w6 w7) :
    w7.ownsRow w.heap.size 57 5 v acc.length xs ∧ Ls w7 (fun k => k < w.heap.size ∨ v.ownBlock = some k) xs acc ∧ Out (OnlyR rb) w w7 ∧ wr.heap.size ≤ w6.heap.size ∧ w6.heap.size ≤ w7.heap.size := by
  have O : Out (OnlyR rb) wr w7 := (ho5.trans (Out.ofNew (S := OnlyR rb) hb6) fun _ _ h => h).trans ho7 fun _ _ h => h
  have hl := C.lt
  exact ⟨own_out C.own O fun i e => by have := (World.ownsRow.lt C.own i e).1; show ¬ i = rb; omega, C.ls.out O fun i e => .inl (by rw [show i = rb from e]; exact hl), C.out.trans O fun _ _ h => h, Nat.le_trans ho5.size hb6.size, ho7.size⟩
theorem BlkAt.step {P : List Pc} {p : Option Addr} {c rb k : Nat} {w wr w5 w6 w7 w8 w9 : World} {acc : List Nd} {v v' : Value} {xs cs : List Value} {k1 k2 : Nat} {nd : Nd} (C : BlkAt P p c rb k w wr acc v xs k1)
    (hp : ∀ a, p = some a → a.block < w.heap.size)
    (ho5 : Out (OnlyR rb) wr w5) (hb6 : Below w5.heap.size w5 w6) (ho7 : Out (OnlyR rb) w6 w7) (hn : No w6.heap.size w7 cs nd) (hr : Rd w7 P p c rb k2) (hk : k1 + 1 ≤ k2)
    (hb8 : Below w7.heap.size w7 w8) (hown : w9.ownsRow w.heap.size 57 5 v' (acc.length + 1) (xs ++ cs)) (hg : w8.grownBy w9 v.ownBlock) (hb : v'.ownBlock = v.ownBlock ∨ v'.ownBlock = some w8.heap.size) :
    ∃ ys, BlkAt P p c rb k w w9 (acc ++ [nd]) v' ys k2 := by
  obtain ⟨h1, h2, h3, h4, h5⟩ := C.own_at ho5 hb6 ho7
  have hl := C.lt
  have hv : ∀ i, v.ownBlock = some i → w.heap.size ≤ i ∧ i < wr.heap.size := fun i e => World.ownsRow.lt C.own i e
  have hs := C.out.size
  have hf := C.few
  have hkk := C.hk
  obtain ⟨ys, y1, y2⟩ := Fo.snoc (B := w.heap.size) (C := w6.heap.size) (h2.kept hb8) (hn.below hb8) (by omega) (fun i e => by have := (hv i e).2; omega) hown hg hb
  have OG : Out (fun i => v.ownBlock = some i) w7 w9 := out_grown (Out.ofNew hb8) hg fun i e _ => e
  refine ⟨ys, ?_, ?_, by omega, y1, y2, by rw [List.length_append, List.length_singleton]; omega, hl⟩
  · exact hr.out OG (fun e => by have := (hv rb e).1; omega) fun a e h => by have := hp a e; have := (hv _ h).1; omega
  · exact h3.trans OG fun i hi e => by have := (hv i e).1; omega
theorem BlkAt.start {P : List Pc} {p : Option Addr} {c rb k : Nat} {w : World} (h : Rd w P p c rb k) : BlkAt P p c rb k w w [] (.slice none 0 0) [] k :=
  ⟨h, Out.refl _ _, Nat.le_refl _, World.ownsRow_nil _ _ _ _, .nil, Nat.zero_le _, at_lt h.at_⟩
theorem Rd.home {w : World} {P : List Pc} {p : Option Addr} {c rb k : Nat} (h : Rd w P p c rb k) (hl : P = [] → p = none) : ∀ a, p = some a → a.block < w.heap.size := by
  rintro a rfl
  rcases h.pcs.cells with h0 | ⟨b, e, hb, _⟩
  · cases hl h0
  · cases e; exact hb

set_option maxRecDepth 100000 in
set_option maxHeartbeats 4000000 in
theorem blk_calls (P : List Pc) (p : Option Addr) (c rb : Nat) (hP : P ≠ []) : ∀ (f d k : Nat) (dv : Int) (w : World), dv = d → d ≤ 4 → 0 < k → P.length - k < f → Rd w P p c rb k →
    Calls Tryz.prog 113 #[.pointer (some ⟨rb, 0, none⟩), .int .i64 dv] w fun e w' => BkPost P p c rb k w e w' (blk (lastOf P) f d [] (P.drop k)) := by
  intro f
  induction f using Nat.strongRecOn with
  | ind f ih =>
  intro d k dv w hdv hd hk0 hf h
  subst hdv
  obtain ⟨i0, hi, hz0, hz1, hz2⟩ := info_parts info_node
  have HP := Lib.hid (h.home fun e => absurd e hP)
  have H := Lib.hid h
  have IH := Lib.hid ih
  clear h ih
  go_enter Tryz.func113, Tryz.ntmps113
  go_wp2_with fail
  go_loopw [5] (fun v wr => ∃ (acc : List Nd) (xs : List Value) (k1 f1 : Nat), BlkAt P p c rb k w wr acc v xs k1 ∧ f1 ≤ f ∧ P.length - k1 < f1 ∧ blk (lastOf P) f1 d acc (P.drop k1) = blk (lastOf P) f d [] (P.drop k)) (fun _ wr => Tree.left P rb wr)
  case atStart => exact ⟨[], [], k, f, .start H.out, Nat.le_refl _, hf, rfl⟩
  case round =>
    obtain ⟨acc, xs, k1, f1, C, hf1, hf2, hbk⟩ := hrel
    rename World => wr
    have HC := Lib.hid C
    have HBK := Lib.hid hbk
    have hk1 := C.rd.le
    have hfew := C.rd.few
    have hkk := C.hk
    have hac := C.few
    have hs := C.out.size
    obtain ⟨vp, vc, rfl⟩ := own_form C.own
    clear C hbk
    obtain ⟨f2, rfl⟩ : ∃ f2, f1 = f2 + 1 := ⟨f1 - 1, by omega⟩
    rcases Nat.lt_or_eq_of_le hk1 with hl | hl
    · have HN := Lib.hid (next_ok P p c rb k1 wr HC.out.rd hl)
      have HD := Lib.hid (drop_at hl)
      generalize P[k1] = x at HN HD
      by_cases h4 : x.kind = 4
      · have HS := Lib.hid (show blk (lastOf P) f d [] (P.drop k) = .ok acc (P.drop (k1 + 1)) by rw [← HBK.out, HD.out, blk_close _ _ _ _ h4])
        obtain ⟨kx, t2, l2⟩ := x
        obtain rfl : kx = 4 := h4
        unfold pcv at HN
        go_wp2_with fail
        refine HN.out.mono ?_
        rintro e w5 ⟨rfl, hr5, ho5⟩
        go_wp2_with fail
        go_ret
        rw [HS.out]
        obtain ⟨g1, g2, g3, -, -⟩ := HC.out.own_at ho5 ((Below.refl _ _).alloc (Nat.le_refl _) (.cells #[.int .i64 4, .string ⟨t2.toArray⟩, .int .i64 l2] 151)) (Out.refl _ _)
        exact .ok rfl ⟨xs, g1, g2⟩ (hr5.kept ((Below.refl _ _).alloc (Nat.le_refl _) _)) (by omega) g3
      · have HSC := Lib.hid fun w5 (h5 : Rd w5 P p c rb (k1 + 1)) => stm_calls P p c rb (fun d r => blk (lastOf P) f2 d [] r) d (k1 + 1) hd (by omega) x w5 h5 fun h4 k2 w1 hk2 hr2 => IH.out f2 (by omega) (d + 1) k2 _ w1 (by simp) (by omega) (by omega) (by omega) hr2
        have HST := Lib.hid (show blk (lastOf P) f d [] (P.drop k) = thenB (fun n r2 => blk (lastOf P) f2 d (acc ++ [n]) r2) (stm (lastOf P) (fun d r => blk (lastOf P) f2 d [] r) d x (P.drop (k1 + 1))) by
          rw [← HBK.out, HD.out]
          cases e : stm (lastOf P) (fun d r => blk (lastOf P) f2 d [] r) d x (P.drop (k1 + 1)) with
          | bad c l => exact blk_bad _ _ _ _ h4 e
          | ok n r2 => exact blk_ok _ _ _ _ h4 e)
        obtain ⟨kx, t2, l2⟩ := x
        have b4 : (kx == 4) = false := by simpa using h4
        clear h4
        unfold pcv at HN HSC
        generalize stm (lastOf P) (fun d r => blk (lastOf P) f2 d [] r) d ⟨kx, t2, l2⟩ (P.drop (k1 + 1)) = r1 at HSC HST
        go_wp2_with fail
        refine HN.out.mono ?_
        rintro e w5 ⟨rfl, hr5, ho5⟩
        go_wp2_with fail
        refine (HSC.out _ (hr5.kept ((Below.refl _ _).alloc (Nat.le_refl _) _))).mono ?_
        intro e w7 hPost
        cases hPost with
        | bad hG =>
          obtain ⟨g, rfl, hfa, ho⟩ := hG
          refine ⟨rfl, ?_⟩
          rw [HST.out]
          exact .bad ⟨g, rfl, hfa, ((HC.out.out.trans ho5 fun _ _ h => h).alloc _).trans ho fun _ _ h => h⟩
        | @ok nd k2 va vl he hn hr7 hk7 ho7 =>
          subst he
          have HH := Lib.hid (HC.out.own_at ho5 ((Below.refl _ _).alloc (Nat.le_refl _) _) ho7)
          obtain ⟨⟨ap, ac, rfl⟩, lp, lc, rfl⟩ := hn.forms
          have hone := Lib.hid (Ls.one hn)
          have HNO := Lib.hid hn
          have HR7 := Lib.hid hr7
          have HO7 := Lib.hid ho7
          have HO5 := Lib.hid ho5
          have hs7 := HH.out.2.2.1.size
          clear hn hr7 ho7 ho5 hr5
          unfold str at HNO hone ⊢
          go_wp2_with (at_builtin; refine wpList_append_own_at _ rfl (.tmp 13) (.tmp 18) 50 rfl w.heap.size 57 i0 _ 5 80 Tryz.underlying50 hi hz0 hz1 hz2 rfl (by decide) _ _ _ rfl (World.ownsRow.alloc HH.out.1 _) _ 1 1 [.string ⟨nd.key.toArray⟩, .slice ap nd.args.length ac, .bool nd.block, .slice lp nd.list.length lc, .int .i64 nd.line] rfl rfl (five_new _ _ _ _ _ _ _ _ rfl) hone.out (by unfold maxLen; omega) (by omega) (by simp; omega) ?_; intro v' w1 hown1 hgrow1 _ hob; have C1 := Lib.hid (HC.out.step HP.out HO5.out ((Below.refl _ _).alloc (Nat.le_refl _) _) HO7.out HNO.out HR7.out hk7 ((Below.refl _ _).alloc (Nat.le_refl _) _) hown1 hgrow1 hob); clear hown1 hgrow1 hob)
          go_roundw
          case rel =>
            obtain ⟨ys, C2⟩ := C1.out
            exact ⟨_, ys, k2, f2, C2, by omega, by omega, HST.out.symm⟩
          case measure =>
            obtain ⟨ys, C2⟩ := C1.out
            rw [C2.rd.left, HC.out.rd.left]; omega
    · have HS := Lib.hid (show blk (lastOf P) f d [] (P.drop k) = .bad 3 (lastOf P) by rw [← HBK.out, drop_end hl, blk_nil])
      go_wp2_with fail
      refine (next_end P p c rb k1 wr HC.out.rd hl (by omega)).mono ?_
      rintro e w5 ⟨g, rfl, hfa, ho⟩
      refine ⟨rfl, ?_⟩
      rw [HS.out]
      exact .bad ⟨g, rfl, hfa, HC.out.out.trans ho fun _ _ h => h⟩
end Go.Proofs.YtajfdachpdkbcaaGreatDoor.Tree
end

section
namespace Go.Proofs.YtajfdachpdkbcaaGreatDoor.Conf
open Go.RowKit Go.Proofs.YtajfdachpdkbcaaGreatDoor.Own Go.Proofs.YtajfdachpdkbcaaGreatDoor.Rw Go.Proofs.YtajfdachpdkbcaaGreatDoor.Tree
open Go.Proofs.YtajfdachpdkbcaaGreatDoor.Digit (dec)

/-- what a temporary holds, all that it points at in blocks from B on -/
inductive Ke where
  | val (v : Value)
  | row (ts : List Bs)
  | arr (cs : Array Value) (n : Nat)
  | fo (ns : List Nd)
  | agg (nd : Nd)
  | cell (nd : Nd)
def Ke.sat (B : Nat) (w : World) (v : Value) : Ke → Prop
  | .val u => v = u
  | .row ts => ∃ g, v = .slice (some ⟨g, 0, none⟩) ts.length ts.length ∧ w.ownsRow B 9 1 v ts.length (strs ts)
  | .arr cs n => ∃ g, v = .slice (some ⟨g, 0, none⟩) n n ∧ B ≤ g ∧ w.heap[g]? = some (.cells cs 9 (0, 0))
  | .fo ns => (∃ g, v = .slice (some ⟨g, 0, none⟩) ns.length ns.length) ∧ Fo B w v ns
  | .agg nd => ∃ va vl, v = .agg #[str nd.key, va, .bool nd.block, vl, .int .i64 nd.line] ∧ No B w [str nd.key, va, .bool nd.block, vl, .int .i64 nd.line] nd
  | .cell nd => ∃ g va vl, v = .slice (some ⟨g, 0, none⟩) 1 1 ∧ B ≤ g ∧ w.heap[g]? = some (.cells #[str nd.key, va, .bool nd.block, vl, .int .i64 nd.line] 57 (0, 0)) ∧ No B w [str nd.key, va, .bool nd.block, vl, .int .i64 nd.line] nd
theorem No.out {B : Nat} {S : Nat → Prop} {w w' : World} {cs : List Value} {n : Nd} (h : No B w cs n) (ho : Out S w w') (hS : ∀ k, S k → k < B) : No B w' cs n := Ls.out h ho hS
theorem Ke.out {B : Nat} {S : Nat → Prop} {w w' : World} {v : Value} {k : Ke} (ho : Out S w w') (hS : ∀ k, S k → k < B) (h : k.sat B w v) : k.sat B w' v := by
  cases k with
  | val u => exact h
  | row ts => exact h.imp fun g h => ⟨h.1, own_out h.2 ho fun k e hk => by have := (own_lt h.2 e).1; have := hS k hk; omega⟩
  | arr cs n => exact h.imp fun g h => ⟨h.1, h.2.1, ho.at_ h.2.2 fun hk => by have := hS g hk; have := h.2.1; omega⟩
  | fo ns => exact ⟨h.1, h.2.out ho hS⟩
  | agg nd => obtain ⟨va, vl, e, hn⟩ := h; exact ⟨va, vl, e, No.out hn ho hS⟩
  | cell nd => obtain ⟨g, va, vl, e, hg, hh, hn⟩ := h; exact ⟨g, va, vl, e, hg, ho.at_ hh fun hk => by have := hS g hk; omega, No.out hn ho hS⟩
theorem Ke.mono {B : Nat} {w w' : World} {v : Value} {k : Ke} (hb : Below w.heap.size w w') (h : k.sat B w v) : k.sat B w' v :=
  Ke.out (S := fun _ => False) (Out.ofNew hb) (fun _ h => h.elim) h

section
variable {o : Oper} {a : Act} {w : World} {K : Act → World → Prop} {Q : Exit → Act → World → Prop}
theorem wp_move (t : Nat) (v : Value) (ho : o.op = .move (.tmp t)) (h1 : a.tmps[t]? = some v) (h : K (a.put o.dst v) w) : Oper.wp Tryz.prog o a w K Q := by
  obtain ⟨d, op, ty, ps, af, gd⟩ := o
  cases ho
  unfold Oper.wp
  simp [go_sem, h1, Oper.upon]
  exact h
theorem wp_fa0 (t b : Nat) (ho : o.op = .fieldAddr 42 (.tmp t) 0) (h1 : a.tmps[t]? = some (.pointer (some ⟨b, 0, none⟩))) (h : K (a.put o.dst (.pointer (some ⟨b, 0, none⟩))) w) : Oper.wp Tryz.prog o a w K Q := by
  obtain ⟨d, op, ty, ps, af, gd⟩ := o
  cases ho
  unfold Oper.wp
  simp [go_sem, h1, Oper.upon]
  exact h
theorem wp_faA (k : Nat) (hk : k < 3) (t b : Nat) (ho : o.op = .fieldAddr 46 (.tmp t) k) (h1 : a.tmps[t]? = some (.pointer (some ⟨b, 0, none⟩))) (h : K (a.put o.dst (.pointer (some ⟨b, k, none⟩))) w) : Oper.wp Tryz.prog o a w K Q := by
  obtain ⟨d, op, ty, ps, af, gd⟩ := o
  cases ho
  unfold Oper.wp
  match k, hk with
  | 0, _ => simp [go_sem, h1, Oper.upon]; exact h
  | 1, _ => simp [go_sem, h1, Oper.upon]; exact h
  | 2, _ => simp [go_sem, h1, Oper.upon]; exact h
theorem wp_load_con (t g : Nat) (x : Cn) (ho : o.op = .load 42 (.tmp t)) (h1 : a.tmps[t]? = some (.pointer (some ⟨g, 0, none⟩))) (hc : ∀ j v, (cnv x)[j]? = some v → w.cell? ⟨g, j, none⟩ = some v) (h : K (a.put o.dst (cnV x)) w) : Oper.wp Tryz.prog o a w K Q := by
  obtain ⟨d, op, ty, ps, af, gd⟩ := o
  cases ho
  have c0 := hc 0 _ rfl
  have c1 := hc 1 _ rfl
  have c2 := hc 2 _ rfl
  have c3 := hc 3 _ rfl
  have c4 := hc 4 _ rfl
  have c5 := hc 5 _ rfl
  have c6 := hc 6 _ rfl
  have c7 := hc 7 _ rfl
  have c8 := hc 8 _ rfl
  have c9 := hc 9 _ rfl
  unfold Oper.wp
  simp [go_sem, h1, c0, c1, c2, c3, c4, c5, c6, c7, c8, c9, Oper.upon]
  exact h
theorem wp_settings (t : Nat) (v : Value) (ts : Array TypeId) (ho : o.op = .call { callee := .value (.func 24), args := #[.tmp t], argTypes := ts }) (h1 : a.tmps[t]? = some v) (h : Calls Tryz.prog 24 #[v] w (fun e w2 => ∃ v, e = .returned v ∧ K (a.put o.dst v) w2)) : Oper.wp Tryz.prog o a w K Q := by
  obtain ⟨d, op, ty, ps, af, gd⟩ := o
  cases ho
  unfold Oper.wp
  simp [go_sem, Oper.upon, h1]
  refine h.mono ?_
  rintro e w2 ⟨v, rfl, hk⟩
  exact hk
theorem wp_levels (ts : Array TypeId) (ho : o.op = .call { callee := .value (.func 26), args := #[], argTypes := ts }) (h : Calls Tryz.prog 26 #[] w (fun e w2 => ∃ v, e = .returned v ∧ K (a.put o.dst v) w2)) : Oper.wp Tryz.prog o a w K Q := by
  obtain ⟨d, op, ty, ps, af, gd⟩ := o
  cases ho
  unfold Oper.wp
  simp [go_sem, Oper.upon]
  refine h.mono ?_
  rintro e w2 ⟨v, rfl, hk⟩
  exact hk
theorem wp_build (t u : Nat) (k : Bs) (v z : Value) (p q : Option Addr) (n m c d' : Nat) (ho : o.op = .build 57 #[(0, .const (.string ⟨k.toArray⟩)), (1, .tmp t), (2, .const (.bool true)), (3, .tmp u)]) (h1 : a.tmps[t]? = some v) (h2 : a.tmps[u]? = some z) (hv : v = .slice p n c) (hz : z = .slice q m d') (h : K (a.put o.dst (.agg #[.string ⟨k.toArray⟩, v, .bool true, z, .int .i64 0])) w) : Oper.wp Tryz.prog o a w K Q := by
  obtain ⟨d, op, ty, ps, af, gd⟩ := o
  cases ho
  subst hv hz
  unfold Oper.wp
  simp [go_sem, h1, h2, Oper.upon]
  exact h
theorem wp_cell (t : Nat) (k b va vl n : Value) (p q : Option Addr) (i j c d' : Nat) (s : ByteArray) (bb : Bool) (nn : Int) (ho : o.op = .buildSlice 50 1 #[(0, .tmp t)]) (h1 : a.tmps[t]? = some (.agg #[k, va, b, vl, n])) (hk : k = .string s) (hb : b = .bool bb) (hn : n = .int .i64 nn) (hv : va = .slice p i c) (hz : vl = .slice q j d')
    (h : K (a.put o.dst (.slice (some ⟨w.heap.size, 0, none⟩) 1 1)) (w.alloc (.cells #[k, va, b, vl, n] 57))) : Oper.wp Tryz.prog o a w K Q := by
  obtain ⟨d, op, ty, ps, af, gd⟩ := o
  cases ho
  subst hk hb hn hv hz
  unfold Oper.wp
  simp [go_sem, h1, Oper.upon]
  exact h
theorem no_forms {B : Nat} {k b n va vl : Value} {nd : Nd} (h : No B w [k, va, b, vl, n] nd) : (∃ p c, va = .slice p nd.args.length c) ∧ ∃ p c, vl = .slice p nd.list.length c := No.forms h
end

/-! ### one statement more -/
/-- the list so far, and how the world may have turned -/
structure PrAt (B : Nat) (w0 wr : World) (v : Value) (ns : List Nd) : Prop where
  fo : Fo B wr v ns
  below : Below B w0 wr
  few : ns.length ≤ 100000
  base : B ≤ wr.heap.size
theorem pr_add {B : Nat} {w0 wr w7 w8 w9 : World} {v v' : Value} {ns : List Nd} {nd : Nd} {cs xs : List Value} (h : PrAt B w0 wr v ns) (hown : wr.ownsRow B 57 5 v ns.length xs) (hls : Ls wr (fun k => k < B ∨ v.ownBlock = some k) xs ns) (hb7 : Below wr.heap.size wr w7) (hn : No wr.heap.size w7 cs nd) (hb8 : Below w7.heap.size w7 w8)
    (ho : w9.ownsRow B 57 5 v' (ns.length + 1) (xs ++ cs)) (hg : w8.grownBy w9 v.ownBlock) (hbk : v'.ownBlock = v.ownBlock ∨ v'.ownBlock = some w8.heap.size) (hf : ns.length < 100000) : PrAt B w0 w9 v' (ns ++ [nd]) := by
  have hB := h.base
  have hb78 := hb7.trans (hb8.mono hb7.size)
  have hv : ∀ k, v.ownBlock = some k → B ≤ k ∧ k < wr.heap.size := fun k e => own_lt hown e
  refine ⟨Fo.snoc (B := B) (C := wr.heap.size) (hls.kept hb78) (hn.below hb8) hB (fun k e => (hv k e).2) ho hg hbk, ?_, by rw [List.length_append, List.length_singleton]; omega, by have := hg.size; have := hb78.size; omega⟩
  have O : Out (fun k => v.ownBlock = some k) wr w9 := out_grown (Out.ofNew hb78) hg fun k e _ => e
  exact h.below.trans (O.below hB fun k e => (hv k e).1)
end Go.Proofs.YtajfdachpdkbcaaGreatDoor.Conf
end

section
namespace Go.Proofs.YtajfdachpdkbcaaGreatDoor.Conf
open Go.RowKit Go.Proofs.YtajfdachpdkbcaaGreatDoor.Own Go.Proofs.YtajfdachpdkbcaaGreatDoor.Rw Go.Proofs.YtajfdachpdkbcaaGreatDoor.Tree

/-- what each temporary holds: those ahead of the append by 'ks', then the list -/
def SnSp (ap B C : Nat) (ks : List Ke) (ns : List Nd) (i : Nat) (w : World) (v : Value) : Prop := if i < ap then (ks.getD i (.val undef)).sat C w v else Fo B w v ns
def SnJ (ap B : Nat) (W : World) (listed : Array Bool) (w : World) : Prop := (listed.getD ap false = false → Below W.heap.size W w) ∧ Below B W w
theorem sn_lt {ap B C : Nat} {ks : List Ke} {ns : List Nd} {i : Nat} {w : World} {v : Value} (h : i < ap) : SnSp ap B C ks ns i w v = (ks.getD i (.val undef)).sat C w v := if_pos h
theorem sn_ge {ap B C : Nat} {ks : List Ke} {ns : List Nd} {i : Nat} {w : World} {v : Value} (h : ¬ i < ap) : SnSp ap B C ks ns i w v = Fo B w v ns := if_neg h
theorem sn_mono {ap B C : Nat} {ks : List Ke} {ns : List Nd} {i : Nat} {w w' : World} {v : Value} (hb : Below w.heap.size w w') (h : SnSp ap B C ks ns i w v) : SnSp ap B C ks ns i w' v := by
  by_cases hi : i < ap
  · rw [sn_lt hi] at h ⊢; exact Ke.mono hb h
  · rw [sn_ge hi] at h ⊢; exact h.below hb
theorem sn_simple {ap B C : Nat} {W : World} {ks : List Ke} {ns : List Nd} {i : Nat} {listed : Array Bool} {d : Option Tmp} {a : Act} {w w2 : World} {v : Value} (hi : i ≠ ap) (hJ : SnJ ap B W listed w) (hB : B ≤ W.heap.size) (hb : Below w.heap.size w w2) (h : SnSp ap B C ks ns i w2 v) :
    Reg.Leaves (SnSp ap B C ks ns) (SnJ ap B W) listed i d a w (a.put d v) w2 := by
  refine ⟨v, rfl, h, fun j u _ _ hj => sn_mono hb hj, fun hun => ?_, hJ.2.trans (hb.mono (by have := hJ.2.size; omega))⟩
  rw [getD_set_ne false hi] at hun
  have := hJ.1 hun
  exact this.trans (hb.mono this.size)

/-- each operation ahead of the append is waited for by a later one up to it -/
def waited (ops : Array Oper) (ap : Nat) : Bool := (List.range ap).all fun i => (List.range (ap + 1)).any fun j => decide (i < j) && (Reg.deps ops j).contains i
theorem waited_un {ops : Array Oper} {ap : Nat} (h : waited ops ap = true) (hs : ap < ops.size) {listed : Array Bool} (hc : ∀ k, k < ops.size → listed.getD k false = true → ∀ j ∈ Reg.deps ops k, listed.getD j false = true) (hl : listed.getD ap false = true) : ∀ d i, ap - i = d → i ≤ ap → listed.getD i false = true := by
  intro d
  induction d using Nat.strongRecOn with
  | ind d ih =>
    intro i hd hi
    rcases Nat.lt_or_eq_of_le hi with hlt | rfl
    · simp only [waited, List.all_eq_true, List.mem_range, List.any_eq_true, Bool.and_eq_true, decide_eq_true_eq] at h
      obtain ⟨j, hj, hij, hm⟩ := h i hlt
      exact hc j (by omega) (ih (ap - j) (by omega) j rfl (by omega)) i (by simpa using hm)
    · exact hl
set_option maxHeartbeats 2000000 in
theorem wp_snoc {ops : Array Oper} {Q : Exit → Act → World → Prop} {id : Nat} {a : Act} {w0 wr W : World} (ds : List Nat) (ks : List Ke) (ap B : Nat) (l : Value) (ns : List Nd) (nd : Nd) (xs : List Value)
    (hok : Reg.okOps ops ds a.tmps.size = true) (hsz : ops.size = ap + 2) (hwt : waited ops ap = true) (hpos : 1 < ap)
    (hmv : ∀ o, ops[0]? = some o → o.op = .move (.tmp (ds.getD (ap + 1) 0)))
    (hap : ∀ o, ops[ap]? = some o → o.op = .call { callee := .builtin .append, args := #[.tmp (ds.getD 0 0), .tmp (ds.getD (ap - 1) 0)], argTypes := #[50, 50] })
    (has : ∀ o, ops[ap + 1]? = some o → o.op = .assign (.tmp (ds.getD ap 0)))
    (hd1 : 0 ∈ Reg.deps ops ap) (hd2 : ap - 1 ∈ Reg.deps ops ap) (hd3 : ap ∈ Reg.deps ops (ap + 1)) (hk0 : ks.getD 0 (.val undef) = .val l) (hk1 : ks.getD (ap - 1) (.val undef) = .cell nd)
    (hl : a.tmps[ds.getD (ap + 1) 0]? = some l)
    (H : PrAt B w0 wr l ns) (hown : wr.ownsRow B 57 5 l ns.length xs) (hls : Ls wr (fun k => k < B ∨ l.ownBlock = some k) xs ns) (hf : ns.length < 100000) (hW : Below wr.heap.size wr W)
    (simple : ∀ i o a' w', i < ap → i ≠ 0 → ops[i]? = some o → (∀ j ∈ Reg.deps ops i, j < i → ∃ v, a'.tmps[ds.getD j 0]? = some v ∧ (ks.getD j (.val undef)).sat wr.heap.size w' v) → (∀ t, (∀ k, k < ops.size → ds.getD k 0 ≠ t) → a'.tmps[t]? = a.tmps[t]?) → Below W.heap.size W w' →
      Oper.wp Tryz.prog o a' w' (fun a2 w2 => ∃ v, a2 = a'.put o.dst v ∧ (ks.getD i (.val undef)).sat wr.heap.size w2 v ∧ Below w'.heap.size w' w2) Q)
    (fin : ∀ (vs : List Value) w', vs.length = ds.length → PrAt B w0 w' (vs.getD (ap + 1) undef) (ns ++ [nd]) → Q .normal (Reg.puts a (ds.zip vs)) w') :
    (Code.region id ops true).wp Tryz.prog Q a W := by
  have hBr := H.base
  have hBW : B ≤ W.heap.size := Nat.le_trans hBr hW.size
  refine Reg.wp_told_at (by kernel_rfl) ds (SnSp ap B wr.heap.size ks (ns ++ [nd])) (SnJ ap B W) hok ⟨fun _ => below_drew (Below.refl _ _), below_drew (Below.refl _ _)⟩ ?_ ?_
  · intro i o listed a' w' ho hs
    have hun : listed.getD ap false = false → listed.getD (ap + 1) false = false := fun h => by
      cases h2 : listed.getD (ap + 1) false with
      | false => rfl
      | true => exact absurd (hs.closed (ap + 1) (by omega) h2 ap hd3) (by rw [h]; simp)
    by_cases h1 : i < ap
    · by_cases h0 : i = 0
      · subst h0
        have u1 : listed.getD ap false = false := by
          cases h2 : listed.getD ap false with
          | false => rfl
          | true => exact absurd (hs.closed ap (by omega) h2 0 hd1) (by rw [hs.un]; simp)
        have u2 := hun u1
        have ht : a'.tmps[ds.getD (ap + 1) 0]? = some l := by
          rw [hs.other _ fun k hk hlk e => by
            by_cases hka : k = ap + 1
            · subst hka; rw [u2] at hlk; cases hlk
            · exact Reg.ok_apart hok hk (by omega) hka e]
          exact hl
        exact wp_move _ l (hmv o ho) ht (sn_simple (by omega) hs.inv hBW (Below.refl _ _) (by rw [sn_lt (by omega), hk0]; rfl))
      · refine Oper.wp_mono ?_ (simple i o a' w' h1 h0 ho (fun j hj hji => ?_) (fun t ht => hs.other t fun k hk _ => ht k hk) ?_)
        · rintro a2 w2 ⟨v, rfl, hv, hb⟩
          exact sn_simple (by omega) hs.inv hBW hb (by rw [sn_lt h1]; exact hv)
        · obtain ⟨v, e, hv⟩ := hs.dep j hj
          rw [sn_lt (by omega)] at hv
          exact ⟨v, e, hv⟩
        · refine hs.inv.1 ?_
          cases h2 : listed.getD ap false with
          | false => rfl
          | true => exact absurd (waited_un hwt (by omega) hs.closed h2 _ i rfl (by omega)) (by rw [hs.un]; simp)
    · by_cases h2 : i = ap
      · subst h2
        have u1 := hs.un
        have u2 := hun u1
        have hb := hs.inv.1 u1
        obtain ⟨v1, e1, s1⟩ := hs.dep 0 hd1
        obtain ⟨v2, e2, s2⟩ := hs.dep (i - 1) hd2
        rw [sn_lt (by omega), hk0] at s1
        rw [sn_lt (by omega), hk1] at s2
        obtain rfl : v1 = l := s1
        obtain ⟨g, va, vl, rfl, hg, hh, hn⟩ := s2
        obtain ⟨i0, hi, hz0, hz1, hz2⟩ := info_parts info_node
        have hbr := hW.trans (hb.mono hW.size)
        have ho2 := own_below hown hbr
        have hv : ∀ k, v1.ownBlock = some k → B ≤ k ∧ k < wr.heap.size := fun k e => own_lt hown e
        refine wp_append_lies _ _ _ 50 (hap o ho) B 57 i0 _ 5 80 Tryz.underlying50 hi hz0 hz1 hz2 rfl (by decide) v1 ns.length xs (Reg.eval_tmp e1) ho2 ⟨g, 0, none⟩ 1 1 [str nd.key, va, .bool nd.block, vl, .int .i64 nd.line] (Reg.eval_tmp e2) rfl (fun j u hu => ?_) (Ls.one hn) (by decide) (by unfold maxLen; omega) (by omega) (by have := hbr.size; omega) _ rfl ?_
        · rw [add0, at_cell hh]
          simpa using hu
        · intro g' cap w2 hown2 hgrow hlies hlt
          have O : Out (fun k => v1.ownBlock = some k) w' w2 := out_grown (Out.refl _ _) hgrow fun k e _ => e
          have hP := pr_add (w7 := w') (w8 := w') H hown hls hbr hn (Below.refl _ _) hown2 hgrow (by
            rcases hlies with h | h
            · exact .inl h.symm
            · exact .inr (by rw [h]; rfl)) hf
          refine ⟨_, rfl, by rw [sn_ge (by omega)]; exact hP.fo, fun j u hj hlj hS => ?_, fun hun2 => ?_, ?_⟩
          · by_cases hja : j < i
            · rw [sn_lt hja] at hS ⊢
              exact Ke.out O (fun k e => (hv k e).2) hS
            · exfalso
              by_cases hj2 : j = i + 1
              · subst hj2; rw [u2] at hlj; cases hlj
              · have : ¬ j < listed.size := by have := hs.size; omega
                rw [show listed.getD j false = false by simp [this]] at hlj
                cases hlj
          · have hil : i < listed.size := by have := hs.size; omega
            simp [hil] at hun2
          · exact hs.inv.2.trans (O.below (by have := hbr.size; omega) fun k e => (hv k e).1)
      · by_cases h3 : i = ap + 1
        · subst h3
          obtain ⟨v, e, hv⟩ := hs.dep ap hd3
          rw [sn_ge (by omega)] at hv
          exact wp_assign _ v (has o ho) e (sn_simple (by omega) hs.inv hBW (Below.refl _ _) (by rw [sn_ge (by omega)]; exact hv))
        · have : i < ops.size := (Array.getElem?_eq_some_iff.1 ho).1
          omega
  · intro listed vs w' hvl hvs hJ
    refine fin vs w' hvl ?_
    have hlen : ds.length = ops.size := by
      simp only [Reg.okOps, Bool.and_eq_true, beq_iff_eq] at hok; exact hok.1
    have hlt : ap + 1 < vs.length := by omega
    have := hvs (ap + 1) _ (List.getElem?_eq_getElem hlt)
    rw [sn_ge (by omega)] at this
    rw [List.getD_eq_getElem?_getD, List.getElem?_eq_getElem hlt]
    exact ⟨this, H.below.trans ((hW.mono hBr).trans hJ.2), by rw [List.length_append, List.length_singleton]; omega, by have := hJ.2.size; omega⟩
end Go.Proofs.YtajfdachpdkbcaaGreatDoor.Conf
end

section
namespace Go.Proofs.YtajfdachpdkbcaaGreatDoor.Conf
open Go.RowKit Go.Proofs.YtajfdachpdkbcaaGreatDoor.Own Go.Proofs.YtajfdachpdkbcaaGreatDoor.Rw Go.Proofs.YtajfdachpdkbcaaGreatDoor.Tree

def grV (nm : Bs) (p : Option Addr) (n c : Nat) : Value := .agg #[.string ⟨nm.toArray⟩, .slice p n c]
set_option maxRecDepth 100000 in
set_option maxHeartbeats 4000000 in
theorem sameGroup_calls (x y : Bs × List Bs) (p q : Option Addr) (n m c d : Nat) (hn : n = x.2.length) (hm : m = y.2.length) (w : World) (h1 : Texts w p c x.2) (h2 : Texts w q d y.2) :
    Calls Tryz.prog 31 #[grV x.1 p n c, grV y.1 q m d] w fun e w' => ∃ r, e = .returned (.bool r) ∧ (r = true ↔ x = y) ∧ Below w.heap.size w w' := by
  have HE := Lib.hid fun (W : World) (hb : Below w.heap.size w W) => equalS_calls x.2 y.2 p q n m c d hn hm W (by rw [hn]; exact (tx_rd (h1.below hb))) (by rw [hm]; exact tx_rd (h2.below hb))
  have B1 := Lib.hid ((((Below.refl w.heap.size w).alloc (Nat.le_refl _) (.cells #[.string ⟨x.1.toArray⟩, .slice p n c] 65)).alloc (by simp) (.cells #[.string ⟨y.1.toArray⟩, .slice q m d] 65)))
  clear h1 h2 hn hm
  obtain ⟨xn, xp⟩ := x
  obtain ⟨yn, yp⟩ := y
  dsimp only at *
  unfold grV
  by_cases he : xn = yn
  · have bb : (xn == yn) = true := by simpa using he
    have HEq := Lib.hid he
    clear he
    go_enter Tryz.func31, Tryz.ntmps31
    go_wp2_with fail
    refine (HE.out _ B1.out).mono ?_
    rintro e w1 ⟨r, rfl, hr, hb⟩
    have HR := Lib.hid hr
    have HB := Lib.hid hb
    clear hr hb
    go_wp2_with fail
    go_ret
    exact ⟨r, rfl, HR.out.trans ⟨fun h => by rw [HEq.out, h], fun h => (Prod.mk.inj h).2⟩, B1.out.trans (HB.out.mono B1.out.size)⟩
  · have bb : (xn == yn) = false := by simpa using he
    have HEq := Lib.hid he
    clear he
    go_enter Tryz.func31, Tryz.ntmps31
    go_wp2_with fail
    go_ret
    exact ⟨false, rfl, ⟨fun h => (by cases h), fun h => absurd (Prod.mk.inj h).1 HEq.out⟩, B1.out⟩

set_option maxRecDepth 100000 in
set_option maxHeartbeats 4000000 in
theorem equalG_calls (xs ys : List (Bs × List Bs)) (p q : Option Addr) (n m c d : Nat) (gs hs : List Value) (hn : n = xs.length) (hm : m = ys.length) (w : World) (h1 : Rd w 2 p c n gs) (g1 : Gs w.heap.size w gs xs) (h2 : Rd w 2 q d m hs) (g2 : Gs w.heap.size w hs ys) :
    Calls Tryz.prog 30 #[.slice p n c, .slice q m d, .func (.func 31) #[] #[]] w fun e w' => ∃ r, e = .returned (.bool r) ∧ (r = true ↔ xs = ys) ∧ Below w.heap.size w w' := by
  have H1 := Lib.hid h1
  have H2 := Lib.hid h2
  have G1 := Lib.hid g1
  have G2 := Lib.hid g2
  have hm1 := h1.max
  have hc1 := h1.cap
  have hm2 := h2.max
  have hc2 := h2.cap
  unfold maxLen at hm1 hm2
  clear h1 h2 g1 g2
  by_cases hnm : n = m
  · have b1 : ((n : Int) != (m : Int)) = false := by simp [hnm]
    have HNM := Lib.hid hnm
    have HN := Lib.hid hn
    have HM := Lib.hid hm
    clear hnm hn hm
    go_enter Tryz.func30, Tryz.ntmps30
    go_wp2_with fail
    go_loopw [17] (fun i wr => ∃ k : Nat, k ≤ n ∧ i = .int .i64 k ∧ Below w.heap.size w wr ∧ (xs.drop k = ys.drop k ↔ xs = ys)) (fun i _ => n - (Tree.intOf i).toNat)
    case atStart => exact ⟨0, by omega, rfl, Below.refl _ _, Iff.rfl⟩
    case round =>
      obtain ⟨k, hk, rfl, hb, hd⟩ := hrel
      rename World => wr
      have HB := Lib.hid hb
      clear hb
      rcases Nat.lt_or_eq_of_le hk with hlt | rfl
      · have hl1 : k < xs.length := by rw [← HN.out]; exact hlt
        have hl2 : k < ys.length := by rw [← HM.out, ← HNM.out]; exact hlt
        have hlt2 : k < m := by have := HNM.out; omega
        obtain ⟨g, o, pp, cc, rfl, hg, ⟨c0, c1⟩, ht1⟩ := grp_at (H1.out.below HB.out) ((G1.out.keep HB.out).up HB.out.size) HN.out hl1
        obtain ⟨g', o', pp', cc', rfl, hg', ⟨d0, d1⟩, ht2⟩ := grp_at (H2.out.below HB.out) ((G2.out.keep HB.out).up HB.out.size) HM.out hl2
        have q1 : (k : Int) < (n : Int) := by omega
        have q2 : (k : Int) < (m : Int) := by omega
        rw [List.drop_eq_getElem_cons hl1, List.drop_eq_getElem_cons hl2] at hd
        have HD := Lib.hid hd
        have HS := Lib.hid fun (W : World) (hb : Below wr.heap.size wr W) => sameGroup_calls xs[k] ys[k] pp pp' _ _ cc cc' rfl rfl W (ht1.tx.below hb) (ht2.tx.below hb)
        generalize xs[k] = x at *
        generalize ys[k] = y at *
        clear hd hl1 hl2 ht1 ht2
        obtain ⟨xn, xp⟩ := x
        obtain ⟨yn, yp⟩ := y
        dsimp only at c0 c1 d0 d1 HS
        have B1 := Lib.hid ((((Below.refl wr.heap.size wr).alloc (Nat.le_refl _) (.cells #[.string ⟨xn.toArray⟩, .slice pp xp.length cc] 65)).alloc (by simp) (.cells #[.string ⟨yn.toArray⟩, .slice pp' yp.length cc'] 65)))
        unfold grV at HS
        go_wp2_with fail
        refine (HS.out _ B1.out).mono ?_
        rintro e w1 ⟨r, rfl, hr, hb⟩
        have HR := Lib.hid hr
        have HB2 := Lib.hid (HB.out.trans ((B1.out.trans (hb.mono B1.out.size)).mono HB.out.size))
        clear hr hb B1 HS
        cases r with
        | true =>
          have HX := Lib.hid (HR.out.1 rfl)
          clear HR
          go_wp2_with fail
          go_roundw
          case rel => exact ⟨k + 1, by omega, by go_num, HB2.out, by rw [← HD.out, HX.out]; simp⟩
          case measure => simp [Tree.intOf]; omega
        | false =>
          have HX := Lib.hid (show ¬ xs = ys from fun e => by
            have := HD.out.2 e
            rw [List.cons.injEq] at this
            have := HR.out.2 this.1
            cases this)
          clear HR
          go_wp2_with fail
          go_ret
          exact ⟨false, rfl, ⟨fun h => (by cases h), fun h => absurd h HX.out⟩, HB2.out⟩
      · have HT := Lib.hid (show xs = ys from hd.1 (by rw [List.drop_eq_nil_of_le (by have := HN.out; omega), List.drop_eq_nil_of_le (by have := HM.out; have := HNM.out; omega)]))
        clear hd
        go_wp2_with fail
        go_ret
        exact ⟨true, rfl, ⟨fun _ => HT.out, fun _ => rfl⟩, HB.out⟩
  · have b1 : ((n : Int) != (m : Int)) = true := by simp; omega
    have HT := Lib.hid (show ¬ xs = ys from fun e => hnm (by rw [hn, hm, e]))
    clear hn hm
    go_enter Tryz.func30, Tryz.ntmps30
    go_wp2_with fail
    go_ret
    exact ⟨false, rfl, ⟨fun h => (by cases h), fun h => absurd h HT.out⟩, Below.refl _ _⟩
end Go.Proofs.YtajfdachpdkbcaaGreatDoor.Conf
end

section
namespace Go.Proofs.YtajfdachpdkbcaaGreatDoor.Digit
open Go.RowKit

def RdAt (s : ByteArray) (w : World) (good : Bool) (a' : Act) (w' : World) : Prop :=
  ∃ (k : Nat) (N K : Int) (u6 u7 u8 u9 u10 u11 u12 u13 u14 u15 u16 u17 u18 u19 u20 u21 u22 u23 : Value),
    a' = { tmps := #[.string s, undef, .int .i64 0, .int .i64 0, .int .i64 N, .int .i64 K, u6, u7, u8, u9, u10, u11, u12, u13, u14, u15, u16, u17, u18, u19, u20, u21, u22, u23, undef, undef, undef, undef, undef, undef, undef, undef, undef], defers := [] } ∧
    K = k ∧ k ≤ s.size ∧ (good = true → N = scan 0 (s.data.toList.take k)) ∧ 0 ≤ N ∧ N ≤ 20000000000000 ∧ w' = w

theorem byte_sub {c : Int} (h : 48 ≤ c) (h1 : c ≤ 57) : IntKind.u8.wrap (c - 48) = c - 48 := IntWalk.u8_in _ (by omega)

set_option maxRecDepth 100000 in
set_option maxHeartbeats 1000000 in
theorem read_some (s : ByteArray) (hs : s.size ≤ 100000) (t : Int) (ht : IsTick s.data.toList t) (w : World) :
    Calls Tryz.prog 149 #[.string s] w fun e w' => e = .returned (.tuple #[.int .i64 t, .int .i64 0]) ∧ Below w.heap.size w w' := by
  have HT := Lib.hid ht
  have hpos : 0 < s.size := tick_pos ht
  have hdig : ∀ k (h : k < s.size), 48 ≤ (s[k].toNat : Int) ∧ (s[k].toNat : Int) ≤ 57 := fun k h => by
    have := tick_digit ht s[k] (by show s.data[k] ∈ _; simp); omega
  have HG := Lib.hid hdig
  obtain ⟨t0, t1, hd⟩ := ht
  clear hdig hd
  go_enter Tryz.func149, Tryz.ntmps149
  go_wp2
  refine wp_scope_jumps 0 (RdAt s w true) (fun a' _ => s.size - (intOf (a'.tmps.getD 5 undef)).toNat) rfl ?_ ?_
  · go_wp2_with fail
    go_step3
    obtain ⟨d0, d1⟩ := HG.out 0 hpos
    have HS := Lib.hid (scan_snoc s 0 hpos)
    have m1 := tick_part HT.out 1
    go_wp2_with fail
    go_step3
    exact ⟨rfl, 1, _, _, _, _, _, _, _, _, _, _, _, _, _, _, _, _, _, _, _, _, rfl, rfl, by omega, fun _ => by rw [HS.out]; simp [scan], by omega, by omega, rfl⟩
  · rintro a' w' ⟨k, N, K, u6, u7, u8, u9, u10, u11, u12, u13, u14, u15, u16, u17, u18, u19, u20, u21, u22, u23, rfl, rfl, hk, hN, n0, n1, rfl⟩
    obtain rfl := hN rfl
    obtain ⟨m0, m1⟩ := tick_part HT.out k
    by_cases hlt : k < s.size
    · have HS := Lib.hid (scan_snoc s k hlt)
      obtain ⟨d0, d1⟩ := HG.out k hlt
      go_wp2_with fail
      go_step3
      refine ⟨rfl, ⟨k + 1, _, _, _, _, _, _, _, _, _, _, _, _, _, _, _, _, _, _, _, _, rfl, by omega, by omega, fun _ => by rw [HS.out]; omega, by omega, by omega, rfl⟩, ?_⟩
      simp [intOf]; omega
    · have he : s.data.toList.take k = s.data.toList := List.take_of_length_le (by rw [size_list]; omega)
      rw [he, (tick_scan HT.out).1]
      have hx : (dec t == s.toList) = true := by rw [HT.out.2.2, ByteArray.toList_eq]; simp
      clear he
      go_wp2_with (go_at_call 23; refine (put_calls _ (by omega) (by omega) _).mono ?_; rintro e w' ⟨rfl, hb⟩)
      simp only [Exit.jump]
      go_ret2
      exact ⟨rfl, hb⟩

theorem u8_bd (x : Int) : 0 ≤ IntKind.u8.wrap x ∧ IntKind.u8.wrap x < 256 := by
  have e : IntKind.u8.wrap x = x % 256 := rfl
  rw [e]; omega

set_option maxRecDepth 100000 in
set_option maxHeartbeats 1000000 in
theorem read_none (s : ByteArray) (hs : s.size ≤ 100000) (ht : ¬ ∃ t, IsTick s.data.toList t) (w : World) :
    Calls Tryz.prog 149 #[.string s] w fun e w' => e = .returned (.tuple #[.int .i64 0, .int .i64 3]) ∧ Below w.heap.size w w' := by
  have HT := Lib.hid ht; clear ht
  have hno : ∀ n : Int, 0 ≤ n → n ≤ 1099511627776 → (dec n == s.toList) = false := fun n h0 h1 => by
    rw [beq_eq_false_iff_ne]
    exact fun h => HT.out ⟨n, h0, h1, by rw [h, ByteArray.toList_eq]⟩
  have HN := Lib.hid hno; clear hno
  go_enter Tryz.func149, Tryz.ntmps149
  go_wp2
  refine wp_scope_jumps 0 (RdAt s w false) (fun a' _ => s.size - (intOf (a'.tmps.getD 5 undef)).toNat) rfl ?_ ?_
  · go_wp2_with fail
    go_step3
    by_cases hpos : 0 < s.size
    · obtain ⟨d0, d1⟩ := u8_bd ((s[0].toNat : Int) - 48)
      go_wp2_with fail
      go_step3
      exact ⟨rfl, 1, _, _, _, _, _, _, _, _, _, _, _, _, _, _, _, _, _, _, _, _, rfl, rfl, by omega, (fun h => by cases h), by omega, by omega, rfl⟩
    · have hx := HN.out 0 (by omega) (by omega)
      go_wp2_with (go_at_call 23; refine (put_calls _ (by omega) (by omega) _).mono ?_; rintro e w' ⟨rfl, hb⟩)
      simp only [Exit.jump]
      go_ret2
      exact ⟨rfl, hb⟩
  · rintro a' w' ⟨k, N, K, u6, u7, u8, u9, u10, u11, u12, u13, u14, u15, u16, u17, u18, u19, u20, u21, u22, u23, rfl, rfl, hk, -, n0, n1, rfl⟩
    by_cases hlt : k < s.size
    · by_cases hn : N ≤ 1099511627776
      · obtain ⟨d0, d1⟩ := u8_bd ((s[k].toNat : Int) - 48)
        go_wp2_with fail
        go_step3
        refine ⟨rfl, ⟨k + 1, _, _, _, _, _, _, _, _, _, _, _, _, _, _, _, _, _, _, _, _, rfl, by omega, by omega, (fun h => by cases h), by omega, by omega, rfl⟩, ?_⟩
        simp [intOf]; omega
      · go_wp2_with fail
        simp only [Exit.jump]
        go_ret2
        exact ⟨rfl, Below.refl _ _⟩
    · by_cases hn : N ≤ 1099511627776
      · have hx := HN.out N n0 hn
        go_wp2_with (go_at_call 23; refine (put_calls _ (by omega) (by omega) _).mono ?_; rintro e w' ⟨rfl, hb⟩)
        simp only [Exit.jump]
        go_ret2
        exact ⟨rfl, hb⟩
      · go_wp2_with fail
        simp only [Exit.jump]
        go_ret2
        exact ⟨rfl, Below.refl _ _⟩

theorem read_calls (s : ByteArray) (hs : s.size ≤ 100000) (w : World) :
    Calls Tryz.prog 149 #[.string s] w fun e w' => e = .returned (.tuple #[.int .i64 (rdV s.data.toList), .int .i64 (rdC s.data.toList)]) ∧ Below w.heap.size w w' := by
  by_cases h : ∃ t, IsTick s.data.toList t
  · obtain ⟨t, ht⟩ := h
    obtain ⟨h1, h2⟩ := rd_some ht
    rw [h1, h2]
    exact read_some s hs t ht w
  · obtain ⟨h1, h2⟩ := rd_none h
    rw [h1, h2]
    exact read_none s hs h w

end Go.Proofs.YtajfdachpdkbcaaGreatDoor.Digit
end

section
namespace Go.Proofs.YtajfdachpdkbcaaGreatDoor.Word
open Go.RowKit

theorem five (n : Nat) : (97 ≤ n ∧ n ≤ 122 ∧ 65 ≤ n ∧ ¬ n ≤ 90) ∨ (97 ≤ n ∧ ¬ n ≤ 122 ∧ 65 ≤ n ∧ ¬ n ≤ 90) ∨ (¬ 97 ≤ n ∧ n ≤ 122 ∧ 65 ≤ n ∧ ¬ n ≤ 90) ∨ (¬ 97 ≤ n ∧ n ≤ 122 ∧ 65 ≤ n ∧ n ≤ 90) ∨ (¬ 97 ≤ n ∧ n ≤ 122 ∧ ¬ 65 ≤ n ∧ n ≤ 90) := by omega
theorem six (n : Nat) : (48 ≤ n ∧ n ≤ 57 ∧ n ≠ 45 ∧ n ≠ 95 ∧ n ≠ 46) ∨ n = 45 ∨ n = 95 ∨ n = 46 ∨ (48 ≤ n ∧ ¬ n ≤ 57 ∧ n ≠ 45 ∧ n ≠ 95 ∧ n ≠ 46) ∨ (¬ 48 ≤ n ∧ n ≤ 57 ∧ n ≠ 45 ∧ n ≠ 95 ∧ n ≠ 46) := by omega
theorem bools {n k : Nat} : (n ≤ k → decide ((n : Int) ≤ (k : Int)) = true) ∧ (¬ n ≤ k → decide ((n : Int) ≤ (k : Int)) = false) ∧ (k ≤ n → decide ((k : Int) ≤ (n : Int)) = true) ∧ (¬ k ≤ n → decide ((k : Int) ≤ (n : Int)) = false) := by
  refine ⟨fun h => decide_eq_true (by omega), fun h => decide_eq_false (by omega), fun h => decide_eq_true (by omega), fun h => decide_eq_false (by omega)⟩
theorem eq_b (n k : Nat) : ((n : Int) == (k : Int)) = decide (n = k) := by rw [Bool.eq_iff_iff]; simp; omega
theorem ltr_yes {n : Nat} (h : 97 ≤ n ∧ n ≤ 122 ∨ 65 ≤ n ∧ n ≤ 90) : ltr n = true := decide_eq_true h
theorem ltr_no {n : Nat} (h : ¬ (97 ≤ n ∧ n ≤ 122 ∨ 65 ≤ n ∧ n ≤ 90)) : ltr n = false := decide_eq_false h
theorem inn_yes {n : Nat} (h : ltr n = true ∨ (48 ≤ n ∧ n ≤ 57 ∨ n = 45 ∨ n = 95 ∨ n = 46)) : inn n = true := by
  rcases h with h | h
  · simp [inn, h]
  · unfold inn; rw [decide_eq_true h, Bool.or_true]
theorem pat_yes {n : Nat} (h : n = 42 ∨ n = 63) : pat n = true := by unfold pat; rw [decide_eq_true h, Bool.or_true]
theorem pat_no {n : Nat} (h : inn n = false) (h2 : ¬ (n = 42 ∨ n = 63)) : pat n = false := by unfold pat; rw [h, decide_eq_false h2]; rfl
theorem inn_no {n : Nat} (h : ltr n = false) (h2 : ¬ (48 ≤ n ∧ n ≤ 57 ∨ n = 45 ∨ n = 95 ∨ n = 46)) : inn n = false := by
  unfold inn; rw [h, decide_eq_false h2]; rfl

set_option maxHeartbeats 400000 in
theorem letter_calls (n : Nat) (w : World) : Calls Tryz.prog 139 #[.int .u8 n] w fun e w' => e = .returned (.bool (ltr n)) ∧ w = w' := by
  rcases five n with ⟨h1, h2, h3, h4⟩ | ⟨h1, h2, h3, h4⟩ | ⟨h1, h2, h3, h4⟩ | ⟨h1, h2, h3, h4⟩ | ⟨h1, h2, h3, h4⟩
  all_goals
    have H : Hid (ltr n = _) := Lib.hid (by first | exact ltr_yes (by omega) | exact ltr_no (by omega))
    have b1 : decide ((n : Int) ≤ 122) = decide (n ≤ 122) := decide_eq_decide.2 (by omega)
    have b2 : decide ((n : Int) ≤ 90) = decide (n ≤ 90) := decide_eq_decide.2 (by omega)
    go_enter Tryz.func139, Tryz.ntmps139
    go_wp2
    go_ret
    exact ⟨by rw [H.out]; rfl, rfl⟩

set_option maxHeartbeats 400000 in
theorem rletter_calls (n : Nat) (w : World) : Calls Tryz.prog 131 #[.int .u8 n] w fun e w' => e = .returned (.bool (ltr n)) ∧ w = w' := by
  rcases five n with ⟨h1, h2, h3, h4⟩ | ⟨h1, h2, h3, h4⟩ | ⟨h1, h2, h3, h4⟩ | ⟨h1, h2, h3, h4⟩ | ⟨h1, h2, h3, h4⟩
  all_goals
    have H : Hid (ltr n = _) := Lib.hid (by first | exact ltr_yes (by omega) | exact ltr_no (by omega))
    have b1 : decide ((n : Int) ≤ 122) = decide (n ≤ 122) := decide_eq_decide.2 (by omega)
    have b2 : decide ((n : Int) ≤ 90) = decide (n ≤ 90) := decide_eq_decide.2 (by omega)
    go_enter Tryz.func131, Tryz.ntmps131
    go_wp2
    go_ret
    exact ⟨by rw [H.out]; rfl, rfl⟩

set_option maxHeartbeats 400000 in
theorem inname_calls (n : Nat) (w : World) : Calls Tryz.prog 141 #[.int .u8 n] w fun e w' => e = .returned (.bool (inn n)) ∧ w = w' := by
  cases hl : ltr n with
  | true =>
    have H := Lib.hid (inn_yes (.inl hl))
    go_enter Tryz.func141, Tryz.ntmps141
    go_wp2_with (go_at_call 139; refine (letter_calls _ _).mono ?_; rintro e w' ⟨rfl, rfl⟩)
    go_ret
    exact ⟨by rw [H.out]; rfl, rfl⟩
  | false =>
    rcases six n with ⟨h1, h2, h3, h4, h5⟩ | h1 | h1 | h1 | ⟨h1, h2, h3, h4, h5⟩ | ⟨h1, h2, h3, h4, h5⟩
    all_goals
      have H : Hid (inn n = _) := Lib.hid (by first | exact inn_yes (.inr (by omega)) | exact inn_no hl (by omega))
      have c1 : decide ((n : Int) ≤ 57) = decide (n ≤ 57) := decide_eq_decide.2 (by omega)
      have c2 : ((n : Int) == 45) = decide (n = 45) := eq_b n 45; have c3 : ((n : Int) == 95) = decide (n = 95) := eq_b n 95; have c4 : ((n : Int) == 46) = decide (n = 46) := eq_b n 46
      go_enter Tryz.func141, Tryz.ntmps141
      go_wp2_with (go_at_call 139; refine (letter_calls _ _).mono ?_; rintro e w' ⟨rfl, rfl⟩)
      go_ret
      exact ⟨by rw [H.out]; rfl, rfl⟩

set_option maxHeartbeats 400000 in
theorem rinner_calls (n : Nat) (w : World) : Calls Tryz.prog 130 #[.int .u8 n] w fun e w' => e = .returned (.bool (inn n)) ∧ w = w' := by
  cases hl : ltr n with
  | true =>
    have H := Lib.hid (inn_yes (.inl hl))
    go_enter Tryz.func130, Tryz.ntmps130
    go_wp2_with (go_at_call 131; refine (rletter_calls _ _).mono ?_; rintro e w' ⟨rfl, rfl⟩)
    go_ret
    exact ⟨by rw [H.out]; rfl, rfl⟩
  | false =>
    rcases six n with ⟨h1, h2, h3, h4, h5⟩ | h1 | h1 | h1 | ⟨h1, h2, h3, h4, h5⟩ | ⟨h1, h2, h3, h4, h5⟩
    all_goals
      have H : Hid (inn n = _) := Lib.hid (by first | exact inn_yes (.inr (by omega)) | exact inn_no hl (by omega))
      have c1 : decide ((n : Int) ≤ 57) = decide (n ≤ 57) := decide_eq_decide.2 (by omega)
      have c2 : ((n : Int) == 45) = decide (n = 45) := eq_b n 45; have c3 : ((n : Int) == 95) = decide (n = 95) := eq_b n 95; have c4 : ((n : Int) == 46) = decide (n = 46) := eq_b n 46
      go_enter Tryz.func130, Tryz.ntmps130
      go_wp2_with (go_at_call 131; refine (rletter_calls _ _).mono ?_; rintro e w' ⟨rfl, rfl⟩)
      go_ret
      exact ⟨by rw [H.out]; rfl, rfl⟩

set_option maxHeartbeats 400000 in
theorem inpat_calls (n : Nat) (w : World) : Calls Tryz.prog 170 #[.int .u8 n] w fun e w' => e = .returned (.bool (pat n)) ∧ w = w' := by
  cases hl : inn n with
  | true =>
    have H : Hid (pat n = true) := Lib.hid (inn_pat hl)
    go_enter Tryz.func170, Tryz.ntmps170
    go_wp2_with (go_at_call 141; refine (inname_calls _ _).mono ?_; rintro e w' ⟨rfl, rfl⟩)
    go_ret
    exact ⟨by rw [H.out]; rfl, rfl⟩
  | false =>
    rcases (show n = 42 ∨ n = 63 ∨ (n ≠ 42 ∧ n ≠ 63) by omega) with h1 | h1 | ⟨h1, h2⟩
    all_goals
      have H : Hid (pat n = _) := Lib.hid (by first | exact pat_yes (by omega) | exact pat_no hl (by omega))
      have c2 : ((n : Int) == 42) = decide (n = 42) := eq_b n 42; have c3 : ((n : Int) == 63) = decide (n = 63) := eq_b n 63
      go_enter Tryz.func170, Tryz.ntmps170
      go_wp2_with (go_at_call 141; refine (inname_calls _ _).mono ?_; rintro e w' ⟨rfl, rfl⟩)
      go_ret
      exact ⟨by rw [H.out]; rfl, rfl⟩

end Go.Proofs.YtajfdachpdkbcaaGreatDoor.Word
end

section
namespace Go.Proofs.YtajfdachpdkbcaaGreatDoor.Word
open Go.RowKit

theorem size_list (s : ByteArray) : s.data.toList.length = s.size := rfl
theorem sized_eq (s : ByteArray) : Word.sized s.data.toList = decide (1 ≤ s.size ∧ s.size ≤ 32) := rfl

theorem ne_empty {s : ByteArray} (h : 1 ≤ s.size) : s.toList.isEmpty = false := by
  rw [ByteArray.toList_eq, List.isEmpty_eq_false_iff]
  intro h0
  have := congrArg List.length h0
  rw [size_list, List.length_nil] at this
  omega

set_option maxHeartbeats 400000 in
theorem sized_calls (s : ByteArray) (w : World) : Calls Tryz.prog 138 #[.string s] w fun e w' => e = .returned (.bool (Word.sized s.data.toList)) ∧ w = w' := by
  rcases (show s.size = 0 ∨ (1 ≤ s.size ∧ s.size ≤ 32) ∨ (1 ≤ s.size ∧ ¬ s.size ≤ 32) by omega) with h | ⟨h, h2⟩ | ⟨h, h2⟩
  · have H : Hid (Word.sized s.data.toList = false) := Lib.hid (by rw [sized_eq]; exact decide_eq_false (by omega))
    have he : s = ByteArray.empty := ByteArray.size_eq_zero_iff.1 h
    subst he
    go_enter Tryz.func138, Tryz.ntmps138
    go_wp2
    go_ret
    exact ⟨by rw [H.out]; rfl, rfl⟩
  · have H : Hid (Word.sized s.data.toList = true) := Lib.hid (by rw [sized_eq]; exact decide_eq_true (by omega))
    have hne := ne_empty h
    have b1 : decide ((s.size : Int) ≤ 32) = true := decide_eq_true (by omega)
    go_enter Tryz.func138, Tryz.ntmps138
    go_wp2
    go_ret
    exact ⟨by rw [H.out]; rfl, rfl⟩
  · have H : Hid (Word.sized s.data.toList = false) := Lib.hid (by rw [sized_eq]; exact decide_eq_false (by omega))
    have hne := ne_empty h
    have b1 : decide ((s.size : Int) ≤ 32) = false := decide_eq_false (by omega)
    go_enter Tryz.func138, Tryz.ntmps138
    go_wp2
    go_ret
    exact ⟨by rw [H.out]; rfl, rfl⟩

theorem all_next {p : Nat → Bool} (s : ByteArray) (k : Nat) (h : k < s.size) : allP p (s.data.toList.take (k + 1)) = (allP p (s.data.toList.take k) && p s[k].toNat) := by
  rw [take_snoc _ k (by rw [size_list]; exact h), allP_snoc]; rfl
theorem all_full {s : ByteArray} {k : Nat} (h : ¬ k < s.size) : s.data.toList.take k = s.data.toList := List.take_of_length_le (by rw [size_list]; omega)
theorem all_no {p : Nat → Bool} {l : List UInt8} {k : Nat} (h : allP p (l.take k) = false) : allP p l = false := by
  cases hc : allP p l with
  | false => rfl
  | true =>
    rw [allP, List.all_eq_true] at hc
    have : allP p (l.take k) = true := by rw [allP, List.all_eq_true]; exact fun c hcm => hc c (List.mem_of_mem_take hcm)
    rw [h] at this; cases this

set_option maxHeartbeats 1000000 in
theorem allname_calls (s : ByteArray) (hz : s.size ≤ 1000000) (w : World) : Calls Tryz.prog 140 #[.string s, .func (.func 141) #[] #[]] w fun e w' => e = .returned (.bool (allP inn s.data.toList)) ∧ w = w' := by
  go_enter Tryz.func140, Tryz.ntmps140
  go_wp2
  go_loop [5, 8] (fun _ i => ∃ k : Nat, k ≤ s.size ∧ i = .int .i64 k ∧ allP inn (s.data.toList.take k) = true) (fun _ i => s.size - (intOf i).toNat)
  case atStart => exact ⟨0, Nat.zero_le _, rfl, rfl⟩
  case round =>
    obtain ⟨k, hk, rfl, hp⟩ := hrel
    by_cases hlt : k < s.size
    · have HN := Lib.hid (all_next (p := inn) s k hlt)
      have HP := Lib.hid hp; clear hp
      cases hc : inn s[k].toNat with
      | true =>
        go_wp2_with (go_at_call 141; refine (inname_calls _ _).mono ?_; rintro e w' ⟨rfl, rfl⟩)
        go_round
        case rel => exact ⟨k + 1, by omega, by go_num, by rw [HN.out, HP.out, hc]; rfl⟩
        case measure => simp [intOf]; omega
      | false =>
        have HF : Hid (allP inn s.data.toList = false) := Lib.hid (all_no (k := k + 1) (by rw [HN.out, hc, Bool.and_false]))
        go_wp2_with (go_at_call 141; refine (inname_calls _ _).mono ?_; rintro e w' ⟨rfl, rfl⟩)
        go_ret
        exact ⟨by rw [HF.out]; rfl, rfl⟩
    · have HF : Hid (allP inn s.data.toList = true) := Lib.hid (by rw [← all_full hlt]; exact hp)
      clear hp
      go_wp2_with fail
      go_ret
      exact ⟨by rw [HF.out]; rfl, rfl⟩

set_option maxHeartbeats 1000000 in
theorem allpat_calls (s : ByteArray) (hz : s.size ≤ 1000000) (w : World) : Calls Tryz.prog 140 #[.string s, .func (.func 170) #[] #[]] w fun e w' => e = .returned (.bool (allP pat s.data.toList)) ∧ w = w' := by
  go_enter Tryz.func140, Tryz.ntmps140
  go_wp2
  go_loop [5, 8] (fun _ i => ∃ k : Nat, k ≤ s.size ∧ i = .int .i64 k ∧ allP pat (s.data.toList.take k) = true) (fun _ i => s.size - (intOf i).toNat)
  case atStart => exact ⟨0, Nat.zero_le _, rfl, rfl⟩
  case round =>
    obtain ⟨k, hk, rfl, hp⟩ := hrel
    by_cases hlt : k < s.size
    · have HN := Lib.hid (all_next (p := pat) s k hlt)
      have HP := Lib.hid hp; clear hp
      cases hc : pat s[k].toNat with
      | true =>
        go_wp2_with (go_at_call 170; refine (inpat_calls _ _).mono ?_; rintro e w' ⟨rfl, rfl⟩)
        go_round
        case rel => exact ⟨k + 1, by omega, by go_num, by rw [HN.out, HP.out, hc]; rfl⟩
        case measure => simp [intOf]; omega
      | false =>
        have HF : Hid (allP pat s.data.toList = false) := Lib.hid (all_no (k := k + 1) (by rw [HN.out, hc, Bool.and_false]))
        go_wp2_with (go_at_call 170; refine (inpat_calls _ _).mono ?_; rintro e w' ⟨rfl, rfl⟩)
        go_ret
        exact ⟨by rw [HF.out]; rfl, rfl⟩
    · have HF : Hid (allP pat s.data.toList = true) := Lib.hid (by rw [← all_full hlt]; exact hp)
      clear hp
      go_wp2_with fail
      go_ret
      exact ⟨by rw [HF.out]; rfl, rfl⟩

theorem head_at (s : ByteArray) (h : 0 < s.size) : headP ltr s.data.toList = ltr s[0].toNat := by
  have : s.data.toList = s.data.toList[0]'h :: s.data.toList.drop 1 := by rw [← List.drop_eq_getElem_cons]; rfl
  rw [this]; rfl

set_option maxHeartbeats 400000 in
theorem is_calls (s : ByteArray) (w : World) : Calls Tryz.prog 114 #[.string s] w fun e w' => e = .returned (.bool (isName s.data.toList)) ∧ w = w' := by
  cases hs : Word.sized s.data.toList with
  | false =>
    have H : Hid (isName s.data.toList = false) := Lib.hid (by rw [isName, hs]; rfl)
    go_enter Tryz.func114, Tryz.ntmps114
    go_wp2_with (go_at_call 138; refine (sized_calls _ _).mono ?_; rintro e w' ⟨rfl, rfl⟩)
    go_ret
    exact ⟨by rw [H.out]; rfl, rfl⟩
  | true =>
    have h0 : 0 < s.size ∧ s.size ≤ 1000000 := by have h := hs; rw [sized_eq] at h; have := of_decide_eq_true h; omega
    have hz := h0.2; replace h0 := h0.1
    have HN : Hid (isName s.data.toList = (ltr s[0].toNat && allP inn s.data.toList)) := Lib.hid (by rw [isName, hs, head_at s h0]; rfl)
    cases hl : ltr s[0].toNat with
    | false =>
      go_enter Tryz.func114, Tryz.ntmps114
      go_wp2_with (first | (go_at_call 138; refine (sized_calls _ _).mono ?_; rintro e w' ⟨rfl, rfl⟩) | (go_at_call 139; refine (letter_calls _ _).mono ?_; rintro e w' ⟨rfl, rfl⟩))
      go_ret
      exact ⟨by rw [HN.out, hl]; rfl, rfl⟩
    | true =>
      go_enter Tryz.func114, Tryz.ntmps114
      go_wp2_with (first | (go_at_call 138; refine (sized_calls _ _).mono ?_; rintro e w' ⟨rfl, rfl⟩) | (go_at_call 139; refine (letter_calls _ _).mono ?_; rintro e w' ⟨rfl, rfl⟩) | (go_at_call 140; refine (allname_calls _ hz _).mono ?_; rintro e w' ⟨rfl, rfl⟩))
      go_ret
      exact ⟨by rw [HN.out, hl]; rfl, rfl⟩

set_option maxHeartbeats 400000 in
theorem fits_calls (s : ByteArray) (w : World) : Calls Tryz.prog 148 #[.string s] w fun e w' => e = .returned (.bool (isPat s.data.toList)) ∧ w = w' := by
  cases hs : Word.sized s.data.toList with
  | false =>
    have H : Hid (isPat s.data.toList = false) := Lib.hid (by rw [isPat, hs]; rfl)
    go_enter Tryz.func148, Tryz.ntmps148
    go_wp2_with (go_at_call 138; refine (sized_calls _ _).mono ?_; rintro e w' ⟨rfl, rfl⟩)
    go_ret
    exact ⟨by rw [H.out]; rfl, rfl⟩
  | true =>
    have hz : s.size ≤ 1000000 := by have h := hs; rw [sized_eq] at h; have := of_decide_eq_true h; omega
    have H : Hid (isPat s.data.toList = allP pat s.data.toList) := Lib.hid (by rw [isPat, hs]; rfl)
    go_enter Tryz.func148, Tryz.ntmps148
    go_wp2_with (first | (go_at_call 138; refine (sized_calls _ _).mono ?_; rintro e w' ⟨rfl, rfl⟩) | (go_at_call 140; refine (allpat_calls _ hz _).mono ?_; rintro e w' ⟨rfl, rfl⟩))
    go_ret
    exact ⟨by rw [H.out]; rfl, rfl⟩

end Go.Proofs.YtajfdachpdkbcaaGreatDoor.Word
end

section
namespace Go.Proofs.YtajfdachpdkbcaaGreatDoor.Conf
open Go.RowKit Go.Proofs.YtajfdachpdkbcaaGreatDoor.Own Go.Proofs.YtajfdachpdkbcaaGreatDoor.Rw Go.Proofs.YtajfdachpdkbcaaGreatDoor.Tree
open Go.Proofs.YtajfdachpdkbcaaGreatDoor.Digit (rdV rdC IsTick rd_some rd_none)
open Go.Proofs.YtajfdachpdkbcaaGreatDoor.Word (isName isPat)

def inB (n lo hi : Int) : Bool := decide (lo ≤ n) && decide (n ≤ hi)
theorem inB_yes {n lo hi : Int} (h1 : lo ≤ n) (h2 : n ≤ hi) : inB n lo hi = true := by simp [inB, h1, h2]
theorem inB_no {n lo hi : Int} (h : ¬ (lo ≤ n ∧ n ≤ hi)) : inB n lo hi = false := by
  simp only [inB, Bool.and_eq_false_iff, decide_eq_false_iff_not]; omega
theorem within_calls (n lo hi : Int) (w : World) : Calls Tryz.prog 150 #[.int .i64 n, .int .i64 lo, .int .i64 hi] w fun e w' => e = .returned (.bool (inB n lo hi)) ∧ w = w' := by
  by_cases h1 : lo ≤ n
  · by_cases h2 : n ≤ hi
    · have H := Lib.hid (inB_yes h1 h2)
      go_enter Tryz.func150, Tryz.ntmps150
      go_wp2_with fail
      go_ret
      exact ⟨by rw [H.out]; rfl, rfl⟩
    · have H := Lib.hid (inB_no (n := n) (lo := lo) (hi := hi) (by omega))
      go_enter Tryz.func150, Tryz.ntmps150
      go_wp2_with fail
      go_ret
      exact ⟨by rw [H.out]; rfl, rfl⟩
  · have H := Lib.hid (inB_no (n := n) (lo := lo) (hi := hi) (by omega))
    go_enter Tryz.func150, Tryz.ntmps150
    go_wp2_with fail
    go_ret
    exact ⟨by rw [H.out]; rfl, rfl⟩

/-! ### words -/
def kIdx (a : Bs) : Int := if a = sSerial then 0 else if a = sPty then 1 else -1
theorem ba_inj {a b : Bs} (h : (⟨a.toArray⟩ : ByteArray) = ⟨b.toArray⟩) : a = b := by simpa using congrArg (fun x : ByteArray => x.data.toList) h
theorem idx_yes (z : Bs) (zs : List ByteArray) (i : Nat) : Lib.idxFromS ((⟨z.toArray⟩ : ByteArray) :: zs) ⟨z.toArray⟩ i = i := by simp [Lib.idxFromS]
theorem idx_no {z a : Bs} (h : a ≠ z) (zs : List ByteArray) (i : Nat) : Lib.idxFromS ((⟨z.toArray⟩ : ByteArray) :: zs) ⟨a.toArray⟩ i = Lib.idxFromS zs ⟨a.toArray⟩ (i + 1) := by
  have : ¬ (⟨z.toArray⟩ : ByteArray) = ⟨a.toArray⟩ := fun e => h (ba_inj e).symm
  simp [Lib.idxFromS, this]
theorem kIdx_lib (a : Bs) : Lib.idxOfS [⟨sSerial.toArray⟩, ⟨sPty.toArray⟩] ⟨a.toArray⟩ = kIdx a := by
  unfold kIdx Lib.idxOfS
  split
  · rename_i h; subst h; exact idx_yes ..
  rename_i h
  rw [idx_no h]
  split
  · rename_i h; subst h; exact idx_yes ..
  rename_i h
  rw [idx_no h]; rfl
theorem lvl_lib (a : Bs) : Lib.idxOfS [⟨sNone.toArray⟩, ⟨sLook.toArray⟩, ⟨sHand.toArray⟩, ⟨sChief.toArray⟩] ⟨a.toArray⟩ = lvl a := by
  unfold lvl Lib.idxOfS
  split
  · rename_i h; subst h; exact idx_yes ..
  rename_i h
  rw [idx_no h]
  split
  · rename_i h; subst h; exact idx_yes ..
  rename_i h
  rw [idx_no h]
  split
  · rename_i h; subst h; exact idx_yes ..
  rename_i h
  rw [idx_no h]
  split
  · rename_i h; subst h; exact idx_yes ..
  rename_i h
  rw [idx_no h]; rfl
theorem kinds_idx (a : Bs) (w : World) (g : Nat) (h : w.heap[g]? = some (.cells kindArr 9 (0, 0))) :
    Calls Tryz.prog 118 #[.slice (some ⟨g, 0, none⟩) 2 2, .string ⟨a.toArray⟩] w fun e w' => e = .returned (.int .i64 (kIdx a)) ∧ w = w' := by
  refine (Tryz.slices_Index_string g 0 2 2 [⟨#[115, 101, 114, 105, 97, 108]⟩, ⟨#[112, 116, 121]⟩] ⟨a.toArray⟩ w (by simp) (by omega) ?_).mono ?_
  · intro j hj
    rw [Nat.zero_add]
    match j, hj with
    | 0, _ => exact at_cell h 0
    | 1, _ => exact at_cell h 1
  · rintro e w' ⟨rfl, rfl⟩
    refine ⟨?_, rfl⟩
    rw [show Lib.idxOfS (List.take 2 [⟨#[115, 101, 114, 105, 97, 108]⟩, ⟨#[112, 116, 121]⟩]) ⟨a.toArray⟩ = kIdx a from kIdx_lib a]
theorem levels_idx (a : Bs) (w : World) (g : Nat) (h : w.heap[g]? = some (.cells lvlArr 9 (0, 0))) :
    Calls Tryz.prog 118 #[.slice (some ⟨g, 0, none⟩) 4 4, .string ⟨a.toArray⟩] w fun e w' => e = .returned (.int .i64 (lvl a)) ∧ w = w' := by
  refine (Tryz.slices_Index_string g 0 4 4 [⟨#[110, 111, 110, 101]⟩, ⟨#[108, 111, 111, 107]⟩, ⟨#[104, 97, 110, 100]⟩, ⟨#[99, 104, 105, 101, 102]⟩] ⟨a.toArray⟩ w (by simp) (by omega) ?_).mono ?_
  · intro j hj
    rw [Nat.zero_add]
    match j, hj with
    | 0, _ => exact at_cell h 0
    | 1, _ => exact at_cell h 1
    | 2, _ => exact at_cell h 2
    | 3, _ => exact at_cell h 3
  · rintro e w' ⟨rfl, rfl⟩
    refine ⟨?_, rfl⟩
    rw [show Lib.idxOfS (List.take 4 [⟨#[110, 111, 110, 101]⟩, ⟨#[108, 111, 111, 107]⟩, ⟨#[104, 97, 110, 100]⟩, ⟨#[99, 104, 105, 101, 102]⟩]) ⟨a.toArray⟩ = lvl a from lvl_lib a]

/-! ### patterns -/
theorem fit1_calls (s : ByteArray) (w : World) : Calls Tryz.prog 147 #[.string s] w fun e w' => e = .returned (.bool (!isPat s.data.toList)) ∧ w = w' := by
  have H := Lib.hid (Word.fits_calls s w)
  generalize isPat s.data.toList = q at H
  go_enter Tryz.func147, Tryz.ntmps147
  go_wp2_with (go_at_call 148; refine H.out.mono ?_; rintro e w' ⟨rfl, rfl⟩)
  go_ret
  exact ⟨rfl, rfl⟩
def intOf : Value → Int
  | .int _ n => n
  | _ => 0
def badAt (ts : List Bs) : Int := match ts.findIdx? fun t => !isPat t with | some i => i | none => -1
theorem bad_none {ts : List Bs} (h : ts.all isPat = true) : badAt ts = -1 := by
  unfold badAt
  rw [List.findIdx?_eq_none_iff.2 fun x hx => by simp [List.all_eq_true.1 h x hx]]
set_option maxRecDepth 100000 in
set_option maxHeartbeats 4000000 in
theorem indexFunc_calls (ts : List Bs) (n : Nat) (hn : n = ts.length) (p : Option Addr) (c : Nat) (w : World) (h : Texts w p c ts) :
    Calls Tryz.prog 169 #[.slice p n c, .func (.func 147) #[] #[]] w fun e w' => ∃ k, e = .returned (.int .i64 k) ∧ (ts.all isPat = decide (k < 0)) ∧ Below w.heap.size w w' := by
  have HT := Lib.hid h
  have HN := Lib.hid hn
  have hc1 := h.cap
  unfold maxLen at hc1
  have hn1 : n ≤ 9223372036854775807 := by omega
  clear hc1
  clear h hn
  go_enter Tryz.func169, Tryz.ntmps169
  go_wp2_with fail
  go_loopw [8] (fun i wr => ∃ k j : Nat, k ≤ n ∧ i = .int .i64 k ∧ wr = w.drewN j ∧ (ts.take k).all isPat = true) (fun i _ => n - (intOf i).toNat)
  case atStart => exact ⟨0, 0, by omega, rfl, rfl, rfl⟩
  case round =>
    obtain ⟨k, j, hk, rfl, rfl, hd⟩ := hrel
    rcases Nat.lt_or_eq_of_le hk with hlt | rfl
    · have hl1 : k < ts.length := by rw [← HN.out]; exact hlt
      rcases HT.out.cells with h0 | ⟨b, o, rfl, hb, hcell⟩
      · rw [h0] at hl1; simp at hl1
      have c0 := hcell k hl1
      rw [str] at c0
      have q1 : (k : Int) < (n : Int) := by omega
      have HD := Lib.hid (show (ts.take (k + 1)).all isPat = isPat ts[k] by rw [List.take_succ_eq_append_getElem hl1, List.all_append, hd]; simp)
      have HX := Lib.hid (show isPat ts[k] = false → ts.all isPat = false by
        intro hx
        rw [List.all_eq_false]
        exact ⟨ts[k], List.getElem_mem hl1, by simp [hx]⟩)
      generalize ts[k] = x at c0 HD HX
      clear hcell hd hl1 hk
      have HF := Lib.hid (fit1_calls ⟨x.toArray⟩)
      rw [show (⟨x.toArray⟩ : ByteArray).data.toList = x from rfl] at HF
      cases hx : isPat x with
      | true =>
        rw [hx] at HF HD
        simp only [Bool.not_true] at HF
        go_wp2_with fail
        refine (HF.out _).mono ?_
        rintro e w' ⟨rfl, rfl⟩
        go_wp2_with fail
        go_roundw
        case rel => exact ⟨k + 1, _, by omega, by go_num, rfl, HD.out⟩
        case measure => simp [intOf]; omega
      | false =>
        rw [hx] at HF
        simp only [Bool.not_false] at HF
        have HY := Lib.hid (HX.out hx)
        go_wp2_with fail
        refine (HF.out _).mono ?_
        rintro e w' ⟨rfl, rfl⟩
        go_wp2_with fail
        go_ret
        exact ⟨k, rfl, by rw [HY.out]; simp, below_drew (Below.refl _ _)⟩
    · have HT := Lib.hid (show ts.all isPat = true by rw [← hd, List.take_of_length_le (by have := HN.out; omega)])
      go_wp2_with fail
      go_ret
      exact ⟨-1, rfl, by rw [HT.out]; rfl, below_drew (Below.refl _ _)⟩
set_option maxRecDepth 100000 in
set_option maxHeartbeats 1000000 in
theorem contains_of (n : Nat) (p : Option Addr) (c : Nat) (w : World) (q : Bool)
    (HI : Calls Tryz.prog 169 #[.slice p n c, .func (.func 147) #[] #[]] w fun e w' => ∃ k, e = .returned (.int .i64 k) ∧ (q = decide (k < 0)) ∧ Below w.heap.size w w') :
    Calls Tryz.prog 146 #[.slice p n c, .func (.func 147) #[] #[]] w fun e w' => e = .returned (.bool (!q)) ∧ Below w.heap.size w w' := by
  go_enter Tryz.func146, Tryz.ntmps146
  go_wp2_with fail
  refine HI.mono ?_
  rintro e w' ⟨k, rfl, hq, hb⟩
  cases q with
  | true =>
    have hk : k < 0 := by simpa using hq.symm
    clear hq HI
    go_wp2_with fail
    go_ret
    exact ⟨by show Ending.returned (.bool (decide (0 ≤ k))) = _; rw [decide_eq_false (by omega)]; rfl, hb⟩
  | false =>
    have hk : 0 ≤ k := by simpa using hq.symm
    clear hq HI
    go_wp2_with fail
    go_ret
    exact ⟨rfl, hb⟩
set_option maxRecDepth 100000 in
set_option maxHeartbeats 1000000 in
theorem pats_calls (ts : List Bs) (n : Nat) (hn : n = ts.length) (p : Option Addr) (c : Nat) (w : World) (h : Texts w p c ts) (q : Bool) (hq : ts.all isPat = q) :
    Calls Tryz.prog 116 #[.slice p n c] w fun e w' => e = .returned (.bool q) ∧ Below w.heap.size w w' := by
  have HC := Lib.hid (contains_of n p c w q ((indexFunc_calls ts n hn p c w h).mono fun e w' hh => by rw [hq] at hh; exact hh))
  clear hq h hn
  go_enter Tryz.func116, Tryz.ntmps116
  go_wp2_with fail
  refine HC.out.mono ?_
  rintro e w' ⟨rfl, hb⟩
  go_wp2_with fail
  go_ret
  exact ⟨rfl, hb⟩

/-! ### numbers -/
theorem rd_cases (a : Bs) : (rdC a = 0 ∧ 0 ≤ rdV a ∧ rdV a ≤ 1099511627776) ∨ (rdC a = 3 ∧ rdV a = 0) := by
  by_cases h : ∃ n, IsTick a n
  · obtain ⟨n, hn⟩ := h
    obtain ⟨e1, e2⟩ := rd_some hn
    rw [e1, e2]; exact .inl ⟨rfl, hn.1, hn.2.1⟩
  · obtain ⟨e1, e2⟩ := rd_none h
    exact .inr ⟨e2, e1⟩
noncomputable def numC (a : Bs) (lo hi : Int) : Int := if rdC a ≠ 0 then 3 else if lo ≤ rdV a ∧ rdV a ≤ hi then 0 else 2
theorem num_pair (x y : Cn) (a : Bs) (lo hi : Int) : (numM x a lo hi y).1 = numC a lo hi ∧ (numC a lo hi = 0 → (numM x a lo hi y).2 = y) := by
  unfold numM numC
  split
  · exact ⟨rfl, fun h => by cases h⟩
  · split
    · exact ⟨rfl, fun _ => rfl⟩
    · exact ⟨rfl, fun h => by cases h⟩
/-- a store, if it went well -/
def stw (c : Int) (w : World) (p : Addr) (v : Value) : World := if c = 0 then w.setCell p v else w
def NumPost (a : Bs) (lo hi : Int) (b j : Nat) (w : World) (e : Ending) (w' : World) : Prop := e = .returned (.int .i64 (numC a lo hi)) ∧ ∃ w1, Below w.heap.size w w1 ∧ w' = stw (numC a lo hi) w1 ⟨b, j, none⟩ (.int .i64 (rdV a))
set_option maxRecDepth 100000 in
set_option maxHeartbeats 1000000 in
theorem setNumber_calls (a : Bs) (ha : a.length ≤ 65536) (lo hi : Int) (b j : Nat) (v : Value) (w : World) (hb : b < w.heap.size) (hc : w.cell? ⟨b, j, none⟩ = some v) (hf : w.frozen? ⟨b, j, none⟩ = false) :
    Calls Tryz.prog 119 #[.pointer (some ⟨b, j, none⟩), .string ⟨a.toArray⟩, .int .i64 lo, .int .i64 hi] w (NumPost a lo hi b j w) := by
  have HR := Lib.hid (Digit.read_calls ⟨a.toArray⟩ (by rw [show (⟨a.toArray⟩ : ByteArray).size = a.length from List.size_toArray ..]; omega))
  rw [show (⟨a.toArray⟩ : ByteArray).data.toList = a from rfl] at HR
  have HC := Lib.hid hc
  have HF := Lib.hid hf
  unfold NumPost
  clear hc hf
  rcases rd_cases a with ⟨h0, h1, h2⟩ | ⟨h0, h1⟩
  · rw [h0] at HR
    by_cases hin : lo ≤ rdV a ∧ rdV a ≤ hi
    · have HN := Lib.hid (show numC a lo hi = 0 by unfold numC; rw [if_neg (by simp [h0]), if_pos hin])
      have HW := Lib.hid (within_calls (rdV a) lo hi)
      rw [inB_yes hin.1 hin.2] at HW
      clear h0 hin
      generalize rdV a = n at *
      go_enter Tryz.func119, Tryz.ntmps119
      go_wp2_with fail
      refine (HR.out _).mono ?_
      rintro e w1 ⟨rfl, hb1⟩
      have c1 := (hb1.cell (p := ⟨b, j, none⟩) hb).trans HC.out
      have f1 := (hb1.frozen (p := ⟨b, j, none⟩) hb).trans HF.out
      have B1 := Lib.hid hb1
      clear hb1
      go_wp2_with fail
      refine (HW.out _).mono ?_
      rintro e w2 ⟨rfl, h⟩
      obtain rfl := h.symm
      go_wp2_with fail
      go_ret
      exact ⟨by rw [HN.out]; rfl, _, B1.out, by rw [HN.out]; rfl⟩
    · have HN := Lib.hid (show numC a lo hi = 2 by unfold numC; rw [if_neg (by simp [h0]), if_neg hin])
      have HW := Lib.hid (within_calls (rdV a) lo hi)
      rw [inB_no hin] at HW
      clear h0 hin
      generalize rdV a = n at *
      go_enter Tryz.func119, Tryz.ntmps119
      go_wp2_with fail
      refine (HR.out _).mono ?_
      rintro e w1 ⟨rfl, hb1⟩
      have B1 := Lib.hid hb1
      clear hb1
      go_wp2_with fail
      refine (HW.out _).mono ?_
      rintro e w2 ⟨rfl, h⟩
      obtain rfl := h.symm
      go_wp2_with fail
      go_ret
      exact ⟨by rw [HN.out]; rfl, _, B1.out, by rw [HN.out]; rfl⟩
  · have HN := Lib.hid (show numC a lo hi = 3 by unfold numC; rw [if_pos (by simp [h0])])
    rw [h0] at HR
    clear h0 h1
    generalize rdV a = n at *
    go_enter Tryz.func119, Tryz.ntmps119
    go_wp2_with fail
    refine (HR.out _).mono ?_
    rintro e w1 ⟨rfl, hb1⟩
    have B1 := Lib.hid hb1
    clear hb1
    go_wp2_with fail
    go_ret
    exact ⟨by rw [HN.out]; rfl, _, B1.out, by rw [HN.out]; rfl⟩
end Go.Proofs.YtajfdachpdkbcaaGreatDoor.Conf
end

section
namespace Go.Proofs.YtajfdachpdkbcaaGreatDoor.Conf
open Go.RowKit Go.Proofs.YtajfdachpdkbcaaGreatDoor.Own Go.Proofs.YtajfdachpdkbcaaGreatDoor.Rw Go.Proofs.YtajfdachpdkbcaaGreatDoor.Tree
open Go.Proofs.YtajfdachpdkbcaaGreatDoor.Digit (rdV rdC IsTick rd_some rd_none)

/-- a console's ten cells -/
def At10 (w : World) (b o : Nat) (x : Cn) : Prop :=
  w.cell? ⟨b, o, none⟩ = some (.string ⟨x.name.toArray⟩) ∧ w.cell? ⟨b, o + 1, none⟩ = some (.int .i64 x.kind) ∧ w.cell? ⟨b, o + 2, none⟩ = some (.int .i64 x.lines) ∧ w.cell? ⟨b, o + 3, none⟩ = some (.int .i64 x.bytes) ∧ w.cell? ⟨b, o + 4, none⟩ = some (.int .i64 x.gens) ∧
  w.cell? ⟨b, o + 5, none⟩ = some (.int .i64 x.size) ∧ w.cell? ⟨b, o + 6, none⟩ = some (.int .i64 x.base) ∧ w.cell? ⟨b, o + 7, none⟩ = some (.int .i64 x.cap) ∧ w.cell? ⟨b, o + 8, none⟩ = some (.int .i64 x.jit) ∧ w.cell? ⟨b, o + 9, none⟩ = some (.string ⟨x.init.toArray⟩)
theorem At10.below {w w' : World} {b o : Nat} {x : Cn} (h : At10 w b o x) (hb : Below w.heap.size w w') (hl : b < w.heap.size) : At10 w' b o x := by
  have k : ∀ j, w'.cell? ⟨b, j, none⟩ = w.cell? ⟨b, j, none⟩ := fun j => hb.cell (p := ⟨b, j, none⟩) hl
  unfold At10
  simp only [k]
  exact h
theorem con_at {w : World} {p : Option Addr} {c n : Nat} {cs : List Cn} (h : Rd w 10 p c n (cs.flatMap cnv)) {i : Nat} (hi : i < cs.length) : ∃ b o, p = some ⟨b, o, none⟩ ∧ b < w.heap.size ∧ i < n ∧ At10 w b (o + i * 10) cs[i] := by
  have hl := h.len
  rw [fm_len cnv_len] at hl
  have hn : n = cs.length := by omega
  rcases h.cells with h0 | ⟨b, o, e, hb, k⟩
  · omega
  · have g : ∀ j v, j < 10 → (cnv cs[i])[j]? = some v → w.cell? ⟨b, o + i * 10 + j, none⟩ = some v := fun j v hj hv => by
      have := k (i * 10 + j) v (by rw [fm_get cnv_len hi j hj]; exact hv)
      rwa [← Nat.add_assoc] at this
    exact ⟨b, o, e, hb, by omega, g 0 _ (by omega) rfl, g 1 _ (by omega) rfl, g 2 _ (by omega) rfl, g 3 _ (by omega) rfl, g 4 _ (by omega) rfl, g 5 _ (by omega) rfl, g 6 _ (by omega) rfl, g 7 _ (by omega) rfl, g 8 _ (by omega) rfl, g 9 _ (by omega) rfl⟩
/-- the place of the first console of that name -/
def fIdx (cs : List Cn) (a : Bs) : Int := match cs.findIdx? fun y => y.name == a with | some i => i | none => -1
theorem fIdx_at {cs : List Cn} {a : Bs} {k : Nat} (hk : k < cs.length) (h : cs[k].name = a) (hn : ∀ x ∈ cs.take k, x.name ≠ a) : fIdx cs a = k ∧ findM cs a = some cs[k] := by
  have e : cs.findIdx? (fun y => y.name == a) = some k := by
    rw [List.findIdx?_eq_some_iff_getElem]
    refine ⟨hk, by simpa using h, fun j hj => ?_⟩
    have := hn cs[j] (by rw [List.mem_take_iff_getElem]; exact ⟨j, by omega, rfl⟩)
    simpa using this
  refine ⟨by unfold fIdx; rw [e], ?_⟩
  unfold findM
  rw [List.find?_eq_some_iff_getElem]
  refine ⟨by simpa using h, k, hk, rfl, fun j hj => ?_⟩
  have := hn cs[j] (by rw [List.mem_take_iff_getElem]; exact ⟨j, by omega, rfl⟩)
  simpa using this
theorem fIdx_none {cs : List Cn} {a : Bs} (hn : ∀ x ∈ cs, x.name ≠ a) : fIdx cs a = -1 ∧ findM cs a = none := by
  have e : cs.findIdx? (fun y => y.name == a) = none := List.findIdx?_eq_none_iff.2 fun x hx => by simpa using hn x hx
  refine ⟨by unfold fIdx; rw [e], ?_⟩
  unfold findM
  rw [List.find?_eq_none]
  intro x hx; simpa using hn x hx
def confV (v0 v1 v2 v3 : Value) (b0 b1 b2 b3 b4 b5 b6 b7 b8 b9 : Bs) : Value := .agg #[v0, v1, v2, v3, .string ⟨b0.toArray⟩, .string ⟨b1.toArray⟩, .string ⟨b2.toArray⟩, .string ⟨b3.toArray⟩, .string ⟨b4.toArray⟩, .string ⟨b5.toArray⟩, .string ⟨b6.toArray⟩, .string ⟨b7.toArray⟩, .string ⟨b8.toArray⟩, .string ⟨b9.toArray⟩]
structure FdAt (cs : List Cn) (a : Bs) (w wr : World) (k : Nat) : Prop where
  below : Below w.heap.size w wr
  none : ∀ x ∈ cs.take k, x.name ≠ a

set_option maxRecDepth 100000 in
set_option maxHeartbeats 4000000 in
theorem find_calls (cs : List Cn) (a : Bs) (p : Option Addr) (k : Nat) (v1 v2 v3 : Value) (b0 b1 b2 b3 b4 b5 b6 b7 b8 b9 : Bs) (n : Nat) (hn : n = cs.length) (w : World) (h : Rd w 10 p k n (cs.flatMap cnv)) :
    Calls Tryz.prog 18 #[confV (.slice p n k) v1 v2 v3 b0 b1 b2 b3 b4 b5 b6 b7 b8 b9, .string ⟨a.toArray⟩] w fun e w' => e = .returned (.int .i64 (fIdx cs a)) ∧ Below w.heap.size w w' := by
  have HR := Lib.hid h
  have HN := Lib.hid hn
  have hmx := h.max
  have hcp := h.cap
  unfold maxLen at hmx
  clear h hn
  unfold confV
  go_enter Tryz.func18, Tryz.ntmps18
  go_wp2_with fail
  have HB0 := Lib.hid ((Below.refl w.heap.size w).alloc (Nat.le_refl _) (.cells #[.slice p n k, v1, v2, v3, .string ⟨b0.toArray⟩, .string ⟨b1.toArray⟩, .string ⟨b2.toArray⟩, .string ⟨b3.toArray⟩, .string ⟨b4.toArray⟩, .string ⟨b5.toArray⟩, .string ⟨b6.toArray⟩, .string ⟨b7.toArray⟩, .string ⟨b8.toArray⟩, .string ⟨b9.toArray⟩] 29))
  refine wp_scope_straight ?_
  go_wp2_with fail
  refine wp_label ?_
  go_wp2_with fail
  go_loopw [5, 11] (fun pv i wr => ∃ k : Nat, k ≤ n ∧ i = .int .i64 k ∧ pv = .int .i64 (-1) ∧ FdAt cs a w wr k) (fun _ i _ => n - (intOf i).toNat)
  case atStart => exact ⟨0, by omega, rfl, rfl, HB0.out, fun x hx => by simp at hx⟩
  case round =>
    obtain ⟨k, hk, rfl, rfl, C⟩ := hrel
    rename World => wr
    have HC := Lib.hid C
    have hsz := C.below.size
    clear C
    rcases Nat.lt_or_eq_of_le hk with hlt | rfl
    · have hl1 : k < cs.length := by rw [← HN.out]; exact hlt
      obtain ⟨g, o, rfl, hg, hkn, hat⟩ := con_at (HR.out.below HC.out.below) hl1
      obtain ⟨c0, c1, c2, c3, c4, c5, c6, c7, c8, c9⟩ := hat
      have q1 : (k : Int) < (n : Int) := by omega
      have HY := Lib.hid fun (he : cs[k].name = a) => (fIdx_at hl1 he HC.out.none).1
      have HNO := Lib.hid (show cs[k].name ≠ a → ∀ x ∈ cs.take (k + 1), x.name ≠ a by
        intro he x hx
        rw [List.take_succ_eq_append_getElem hl1] at hx
        rcases List.mem_append.1 hx with hx | hx
        · exact HC.out.none x hx
        · rw [List.mem_singleton.1 hx]; exact he)
      generalize cs[k] = y at *
      clear hl1
      by_cases he : y.name = a
      · have b1 : (y.name == a) = true := by simpa using he
        have HF := Lib.hid (HY.out he)
        clear he HY HNO
        go_wp2_with fail
        simp only [Exit.noGoto]
        go_ret
        exact ⟨by rw [HF.out]; rfl, (HC.out.below).alloc hsz _⟩
      · have b1 : (y.name == a) = false := by simpa using he
        have HF := Lib.hid (HNO.out he)
        clear he HY HNO
        go_wp2_with fail
        go_roundw
        case rel => exact ⟨k + 1, by omega, by go_num, rfl, (HC.out.below).alloc hsz _, HF.out⟩
        case measure => simp [intOf]; omega
    · have HF := Lib.hid (fIdx_none (cs := cs) (a := a) (by
        have := HC.out.none
        rwa [List.take_of_length_le (by have := HN.out; omega)] at this)).1
      go_wp2_with fail
      simp only [Exit.noGoto]
      go_ret
      exact ⟨by rw [HF.out]; rfl, HC.out.below⟩

/-! ### numbers -/
def ints (ts : List Int) : List Value := ts.map fun n => .int .i64 n
noncomputable def numsC (ts : List Bs) : Int := if ∀ t ∈ ts, rdC t = 0 then 0 else 3
theorem numsC_bad {ts : List Bs} {k : Nat} (hk : k < ts.length) (h : rdC ts[k] ≠ 0) : numsC ts = 3 := by
  unfold numsC
  rw [if_neg fun hh => h (hh _ (List.getElem_mem hk))]
structure NmAt (w wr : World) (ts : List Bs) (k : Nat) (v : Value) : Prop where
  own : wr.ownsRow w.heap.size 3 1 v k (ints ((ts.take k).map rdV))
  below : Below w.heap.size w wr
  ok : ∀ t ∈ ts.take k, rdC t = 0
theorem info_int : (Tryz.prog.info? 3).map (fun i => (i.zero, i.size, i.bytes)) = some (some (.int .i64 0), 1, 8) := by kernel_rfl
def NumsPost (ts : List Bs) (w : World) (e : Ending) (w' : World) : Prop := ∃ v, e = .returned (.tuple #[v, .int .i64 (numsC ts)]) ∧ Below w.heap.size w w' ∧ (numsC ts = 0 → w'.ownsRow w.heap.size 3 1 v ts.length (ints (ts.map rdV)))
theorem NmAt.step {w wr w5 w6 w1 : World} {ts : List Bs} {k : Nat} {v v' : Value} (h : NmAt w wr ts k v) (hk : k < ts.length) (hb : Below wr.heap.size wr w5) (hb6 : Below w5.heap.size w5 w6)
    (hc : rdC ts[k] = 0) (ho : w1.ownsRow w.heap.size 3 1 v' (k + 1) (ints ((ts.take k).map rdV) ++ [.int .i64 (rdV ts[k])])) (hg : w6.grownBy w1 v.ownBlock) : NmAt w w1 ts (k + 1) v' := by
  have hs := h.below.size
  have hs5 := hb.size
  have hs6 := hb6.size
  refine ⟨?_, ?_, ?_⟩
  · rw [List.take_succ_eq_append_getElem hk, List.map_append, ints, List.map_append]; exact ho
  · exact ((h.below.trans (hb.mono hs)).trans (hb6.mono (by omega))).grown hg (by omega) fun i e => (World.ownsRow.lt h.own i e).1
  · intro t ht
    rw [List.take_succ_eq_append_getElem hk] at ht
    rcases List.mem_append.1 ht with ht | ht
    · exact h.ok t ht
    · rw [List.mem_singleton.1 ht]; exact hc

set_option maxRecDepth 100000 in
set_option maxHeartbeats 4000000 in
theorem numbers_calls (ts : List Bs) (n : Nat) (hn : n = ts.length) (p : Option Addr) (c : Nat) (w : World) (h : Texts w p c ts) (hs : ∀ t ∈ ts, t.length ≤ 65536) (hm : n ≤ 65536) :
    Calls Tryz.prog 168 #[.slice p n c] w (NumsPost ts w) := by
  obtain ⟨i0, hi, hz0, hz1, hz2⟩ := info_parts info_int
  have HT := Lib.hid h
  have HN := Lib.hid hn
  have HS := Lib.hid hs
  clear h hn hs
  unfold NumsPost
  go_enter Tryz.func168, Tryz.ntmps168
  go_wp2_with fail
  go_loopw [4, 11] (fun tv i wr => ∃ k : Nat, k ≤ n ∧ i = .int .i64 k ∧ NmAt w wr ts k tv) (fun _ i _ => n - (intOf i).toNat)
  case atStart => exact ⟨0, by omega, rfl, World.ownsRow_nil _ _ _ _, Below.refl _ _, fun x hx => by simp at hx⟩
  case round =>
    obtain ⟨k, hk, rfl, C⟩ := hrel
    rename World => wr
    have HC := Lib.hid C
    have hsz := C.below.size
    obtain ⟨tp, tc, rfl, -⟩ := own_slice C.own
    clear C
    rcases Nat.lt_or_eq_of_le hk with hlt | rfl
    · have hl1 : k < ts.length := by rw [← HN.out]; exact hlt
      rcases HT.out.cells with h0 | ⟨b, o, rfl, hb, hcell⟩
      · rw [h0] at hl1; simp at hl1
      have c0 := hcell k hl1
      rw [str] at c0
      have y0 := (HC.out.below.cell (p := ⟨b, o + k, none⟩) hb).trans c0
      have q2 : (k : Int) < (n : Int) := by omega
      have HST := Lib.hid fun (w5 w6 w1 : World) (v' : Value) (hb : Below wr.heap.size wr w5) (hb6 : Below w5.heap.size w5 w6) (hc : rdC ts[k] = 0) (ho : w1.ownsRow w.heap.size 3 1 v' (k + 1) (ints ((ts.take k).map rdV) ++ [.int .i64 (rdV ts[k])])) (hg : w6.grownBy w1 (Value.slice tp k tc).ownBlock) => HC.out.step hl1 hb hb6 hc ho hg
      have HBD := Lib.hid fun (hc : rdC ts[k] ≠ 0) => numsC_bad hl1 hc
      have hlen := HS.out _ (List.getElem_mem hl1)
      generalize ts[k] = a at *
      have HAR := Lib.hid (Digit.read_calls ⟨a.toArray⟩ (by rw [show (⟨a.toArray⟩ : ByteArray).size = a.length from List.size_toArray ..]; omega))
      rw [show (⟨a.toArray⟩ : ByteArray).data.toList = a from rfl] at HAR
      clear hl1 hcell c0 hlen
      rcases rd_cases a with ⟨hc, -, -⟩ | ⟨hc, -⟩
      · have HSTEP := Lib.hid fun w5 w6 w1 v' hb hb6 ho hg => HST.out w5 w6 w1 v' hb hb6 hc ho hg
        rw [hc] at HAR
        clear hc HST HBD
        generalize rdV a = t at *
        go_wp2_with fail
        refine (HAR.out _).mono ?_
        rintro e w5 ⟨rfl, hb5⟩
        have ho5 := own_below HC.out.own hb5
        have HB5 := Lib.hid hb5
        have h5 := hb5.size
        clear hb5
        go_wp2_with (at_builtin; go_loud (refine Own.append_any rfl (.tmp 23) (.tmp 25) 132 rfl w.heap.size 3 i0 _ 1 8 Tryz.underlying132 hi hz0 hz1 hz2 rfl (by decide) _ _ _ rfl (World.ownsRow.alloc ho5 _) _ 1 1 [.int .i64 t] rfl (fun h => nomatch h) rfl (Rw.one_new _ _ _ _ rfl) (by simp [Value.oneCell']) (by unfold maxLen; omega) (by omega) (by simp; omega) ?_; intro v' w1 hown hgr; have C1 := Lib.hid (HSTEP.out w5 _ w1 v' HB5.out ((Below.refl _ _).alloc (Nat.le_refl _) _) hown hgr)))
        go_roundw
        case rel => exact ⟨k + 1, by omega, by go_num, C1.out⟩
        case measure => simp [intOf]; omega
      · have HF := Lib.hid (HBD.out (by rw [hc]; decide))
        rw [hc] at HAR
        clear hc HST HBD
        generalize rdV a = t at *
        go_wp2_with fail
        refine (HAR.out _).mono ?_
        rintro e w5 ⟨rfl, hb5⟩
        go_wp2_with fail
        go_ret2
        exact ⟨_, by rw [HF.out]; rfl, HC.out.below.trans (hb5.mono hsz), fun h => by rw [HF.out] at h; cases h⟩
    · have HF := Lib.hid (show numsC ts = 0 by
        have := HC.out.ok
        rw [List.take_of_length_le (by have := HN.out; omega)] at this
        unfold numsC; rw [if_pos this])
      have hown := HC.out.own
      rw [List.take_of_length_le (by have := HN.out; omega)] at hown
      have HO := Lib.hid hown
      clear hown
      go_wp2_with fail
      go_ret2
      exact ⟨_, by rw [HF.out]; rfl, HC.out.below, fun _ => by rw [← HN.out]; exact HO.out⟩
end Go.Proofs.YtajfdachpdkbcaaGreatDoor.Conf
end

section
namespace Go.Proofs.YtajfdachpdkbcaaGreatDoor.Conf
open Go.RowKit Go.Proofs.YtajfdachpdkbcaaGreatDoor.Own Go.Proofs.YtajfdachpdkbcaaGreatDoor.Rw Go.Proofs.YtajfdachpdkbcaaGreatDoor.Tree

def eq10 (b0 b1 b2 b3 b4 b5 b6 b7 b8 b9 d0 d1 d2 d3 d4 d5 d6 d7 d8 d9 : Bs) : Bool := b0 == d0 && (b1 == d1 && (b2 == d2 && (b3 == d3 && (b4 == d4 && (b5 == d5 && (b6 == d6 && (b7 == d7 && (b8 == d8 && (b9 == d9)))))))))
theorem eq10_iff {b0 b1 b2 b3 b4 b5 b6 b7 b8 b9 d0 d1 d2 d3 d4 d5 d6 d7 d8 d9 : Bs} : eq10 b0 b1 b2 b3 b4 b5 b6 b7 b8 b9 d0 d1 d2 d3 d4 d5 d6 d7 d8 d9 = true ↔ [b0, b1, b2, b3, b4, b5, b6, b7, b8, b9] = [d0, d1, d2, d3, d4, d5, d6, d7, d8, d9] := by simp [eq10]
theorem arr_eql (b0 b1 b2 b3 b4 b5 b6 b7 b8 b9 d0 d1 d2 d3 d4 d5 d6 d7 d8 d9 : Bs) (W : World) : (Op.equalIn 10000 27 (.agg #[.string ⟨b0.toArray⟩, .string ⟨b1.toArray⟩, .string ⟨b2.toArray⟩, .string ⟨b3.toArray⟩, .string ⟨b4.toArray⟩, .string ⟨b5.toArray⟩, .string ⟨b6.toArray⟩, .string ⟨b7.toArray⟩, .string ⟨b8.toArray⟩, .string ⟨b9.toArray⟩]) (.agg #[.string ⟨d0.toArray⟩, .string ⟨d1.toArray⟩, .string ⟨d2.toArray⟩, .string ⟨d3.toArray⟩, .string ⟨d4.toArray⟩, .string ⟨d5.toArray⟩, .string ⟨d6.toArray⟩, .string ⟨d7.toArray⟩, .string ⟨d8.toArray⟩, .string ⟨d9.toArray⟩])).run Tryz.prog W = .ok (eq10 b0 b1 b2 b3 b4 b5 b6 b7 b8 b9 d0 d1 d2 d3 d4 d5 d6 d7 d8 d9) W := by
  obtain ⟨i0, hi, -, -, -⟩ := info_parts info_str
  show (Op.equalIn (9999 + 1) _ _ _).run _ _ = _
  rw [run_equalIn_array (i := i0) W 9999 _ _ Tryz.underlying27 hi]
  rw [show List.range 10 = [0, 1, 2, 3, 4, 5, 6, 7, 8, 9] from rfl]
  unfold eq10
  have hc : Tryz.prog.cellsOf 9 = 1 := by kernel_rfl
  simp [Op.eqItems, go_sem, hc]
  repeat' split
  all_goals simp [*]
end Go.Proofs.YtajfdachpdkbcaaGreatDoor.Conf
end


/-
  Layer 13 (tree): block, all.
-/
import Derived.Test.YtabpkpeonbdinaaDoorTreeStm
namespace Go.Proofs.YtabpkpeonbdinaaDoor.Tree
open Go.RowKit Go.Proofs.YtabpkpeonbdinaaDoor.Own Go.Proofs.YtabpkpeonbdinaaDoor.Rw Go.Proofs.YtabpkpeonbdinaaDoor.Lex

theorem info_node : (Tryd.prog.info? 35).map (fun i => (i.zero, i.size, i.bytes)) = some (some (.agg #[.string ⟨#[]⟩, .slice none 0 0, .bool false, .slice none 0 0, .int .i64 0]), 5, 80) := by kernel_rfl
theorem No.forms {B : Nat} {w : World} {k b n va vl : Value} {nd : Nd} (h : No B w [k, va, b, vl, n] nd) : (∃ p c, va = .slice p nd.args.length c) ∧ ∃ p c, vl = .slice p nd.list.length c := by
  cases h with
  | cons ha xa hl xl hk hr => cases hr; exact ⟨own_form ha, own_form hl⟩
theorem five_new (w : World) (x0 x1 x2 x3 x4 : Value) (T : TypeId) (g : Nat) (hg : g = w.heap.size) : ∀ j u, [x0, x1, x2, x3, x4][j]? = some u → (w.alloc (.cells #[x0, x1, x2, x3, x4] T (0, 0))).cell? ((⟨g, 0, none⟩ : Addr).add j) = some u := by
  subst hg
  intro j u hu
  rw [add0, at_cell (at_new w _)]
  simpa using hu

def thenB (K : Nd → List Pc → Rs (List Nd)) : Rs Nd → Rs (List Nd)
  | .bad c l => .bad c l
  | .ok n r => K n r
/-- statements that were found -/
structure BlkAt (P : List Pc) (p : Option Addr) (c rb k : Nat) (w wr : World) (acc : List Nd) (v : Value) (xs : List Value) (k1 : Nat) : Prop where
  rd : Rd wr P p c rb k1
  out : Out (OnlyR rb) w wr
  hk : k ≤ k1
  own : wr.ownsRow w.heap.size 35 5 v acc.length xs
  ls : Ls wr (fun k => k < w.heap.size ∨ v.ownBlock = some k) xs acc
  few : acc.length ≤ k1
  lt : rb < w.heap.size
theorem BlkAt.own_at {P : List Pc} {p : Option Addr} {c rb k : Nat} {w wr w5 w6 w7 : World} {acc : List Nd} {v : Value} {xs : List Value} {k1 : Nat} (C : BlkAt P p c rb k w wr acc v xs k1)
    (ho5 : Out (OnlyR rb) wr w5) (hb6 : Below w5.heap.size w5 w6) (ho7 : Out (OnlyR rb) w6 w7) :
    w7.ownsRow w.heap.size 35 5 v acc.length xs ∧ Ls w7 (fun k => k < w.heap.size ∨ v.ownBlock = some k) xs acc ∧ Out (OnlyR rb) w w7 ∧ wr.heap.size ≤ w6.heap.size ∧ w6.heap.size ≤ w7.heap.size := by
  have O : Out (OnlyR rb) wr w7 := (ho5.trans (Out.ofNew (S := OnlyR rb) hb6) fun _ _ h => h).trans ho7 fun _ _ h => h
  have hl := C.lt
  exact ⟨own_out C.own O fun i e => by have := (World.ownsRow.lt C.own i e).1; show ¬ i = rb; omega, C.ls.out O fun i e => .inl (by rw [show i = rb from e]; exact hl), C.out.trans O fun _ _ h => h, Nat.le_trans ho5.size hb6.size, ho7.size⟩
theorem BlkAt.step {P : List Pc} {p : Option Addr} {c rb k : Nat} {w wr w5 w6 w7 w8 w9 : World} {acc : List Nd} {v v' : Value} {xs cs : List Value} {k1 k2 : Nat} {nd : Nd} (C : BlkAt P p c rb k w wr acc v xs k1)
    (hp : ∀ a, p = some a → a.block < w.heap.size)
    (ho5 : Out (OnlyR rb) wr w5) (hb6 : Below w5.heap.size w5 w6) (ho7 : Out (OnlyR rb) w6 w7) (hn : No w6.heap.size w7 cs nd) (hr : Rd w7 P p c rb k2) (hk : k1 + 1 ≤ k2)
    (hb8 : Below w7.heap.size w7 w8) (hown : w9.ownsRow w.heap.size 35 5 v' (acc.length + 1) (xs ++ cs)) (hg : w8.grownBy w9 v.ownBlock) (hb : v'.ownBlock = v.ownBlock ∨ v'.ownBlock = some w8.heap.size) :
    ∃ ys, BlkAt P p c rb k w w9 (acc ++ [nd]) v' ys k2 := by
  obtain ⟨h1, h2, h3, h4, h5⟩ := C.own_at ho5 hb6 ho7
  have hl := C.lt
  have hv : ∀ i, v.ownBlock = some i → w.heap.size ≤ i ∧ i < wr.heap.size := fun i e => World.ownsRow.lt C.own i e
  have hs := C.out.size
  have hf := C.few
  have hkk := C.hk
  obtain ⟨ys, y1, y2⟩ := Fo.snoc (B := w.heap.size) (C := w6.heap.size) (h2.kept hb8) (hn.below hb8) (by omega) (fun i e => by have := (hv i e).2; omega) hown hg hb
  have OG : Out (fun i => v.ownBlock = some i) w7 w9 := out_grown (Out.ofNew hb8) hg fun i e _ => e
  refine ⟨ys, ?_, ?_, by omega, y1, y2, by rw [List.length_append, List.length_singleton]; omega, hl⟩
  · exact hr.out OG (fun e => by have := (hv rb e).1; omega) fun a e h => by have := hp a e; have := (hv _ h).1; omega
  · exact h3.trans OG fun i hi e => by have := (hv i e).1; omega
theorem BlkAt.start {P : List Pc} {p : Option Addr} {c rb k : Nat} {w : World} (h : Rd w P p c rb k) : BlkAt P p c rb k w w [] (.slice none 0 0) [] k :=
  ⟨h, Out.refl _ _, Nat.le_refl _, World.ownsRow_nil _ _ _ _, .nil, Nat.zero_le _, at_lt h.at_⟩
theorem Rd.home {w : World} {P : List Pc} {p : Option Addr} {c rb k : Nat} (h : Rd w P p c rb k) (hl : P = [] → p = none) : ∀ a, p = some a → a.block < w.heap.size := by
  rintro a rfl
  rcases h.pcs.cells with h0 | ⟨b, e, hb, _⟩
  · cases hl h0
  · cases e; exact hb

set_option maxRecDepth 100000 in
set_option maxHeartbeats 4000000 in
theorem blk_calls (P : List Pc) (p : Option Addr) (c rb : Nat) (hP : P ≠ []) : ∀ (f d k : Nat) (dv : Int) (w : World), dv = d → d ≤ 4 → 0 < k → P.length - k < f → Rd w P p c rb k →
    Calls Tryd.prog 42 #[.pointer (some ⟨rb, 0, none⟩), .int .i64 dv] w fun e w' => BkPost P p c rb k w e w' (blk (lastOf P) f d [] (P.drop k)) := by
  intro f
  induction f using Nat.strongRecOn with
  | ind f ih =>
  intro d k dv w hdv hd hk0 hf h
  subst hdv
  obtain ⟨i0, hi, hz0, hz1, hz2⟩ := info_parts info_node
  have HP := Lib.hid (h.home fun e => absurd e hP)
  have H := Lib.hid h
  have IH := Lib.hid ih
  clear h ih
  go_enter Tryd.func42, Tryd.ntmps42
  go_wp2_with fail
  go_loopw [5] (fun v wr => ∃ (acc : List Nd) (xs : List Value) (k1 f1 : Nat), BlkAt P p c rb k w wr acc v xs k1 ∧ f1 ≤ f ∧ P.length - k1 < f1 ∧ blk (lastOf P) f1 d acc (P.drop k1) = blk (lastOf P) f d [] (P.drop k)) (fun _ wr => Tree.left P rb wr)
  case atStart => exact ⟨[], [], k, f, .start H.out, Nat.le_refl _, hf, rfl⟩
  case round =>
    obtain ⟨acc, xs, k1, f1, C, hf1, hf2, hbk⟩ := hrel
    rename World => wr
    have HC := Lib.hid C
    have HBK := Lib.hid hbk
    have hk1 := C.rd.le
    have hfew := C.rd.few
    have hkk := C.hk
    have hac := C.few
    have hs := C.out.size
    obtain ⟨vp, vc, rfl⟩ := own_form C.own
    clear C hbk
    obtain ⟨f2, rfl⟩ : ∃ f2, f1 = f2 + 1 := ⟨f1 - 1, by omega⟩
    rcases Nat.lt_or_eq_of_le hk1 with hl | hl
    · have HN := Lib.hid (next_ok P p c rb k1 wr HC.out.rd hl)
      have HD := Lib.hid (drop_at hl)
      generalize P[k1] = x at HN HD
      by_cases h4 : x.kind = 4
      · have HS := Lib.hid (show blk (lastOf P) f d [] (P.drop k) = .ok acc (P.drop (k1 + 1)) by rw [← HBK.out, HD.out, blk_close _ _ _ _ h4])
        obtain ⟨kx, t2, l2⟩ := x
        obtain rfl : kx = 4 := h4
        unfold pcv at HN
        go_wp2_with fail
        refine HN.out.mono ?_
        rintro e w5 ⟨rfl, hr5, ho5⟩
        go_wp2_with fail
        go_ret
        rw [HS.out]
        obtain ⟨g1, g2, g3, -, -⟩ := HC.out.own_at ho5 ((Below.refl _ _).alloc (Nat.le_refl _) (.cells #[.int .i64 4, .string ⟨t2.toArray⟩, .int .i64 l2] 67)) (Out.refl _ _)
        exact .ok rfl ⟨xs, g1, g2⟩ (hr5.kept ((Below.refl _ _).alloc (Nat.le_refl _) _)) (by omega) g3
      · have HSC := Lib.hid fun w5 (h5 : Rd w5 P p c rb (k1 + 1)) => stm_calls P p c rb (fun d r => blk (lastOf P) f2 d [] r) d (k1 + 1) hd (by omega) x w5 h5 fun h4 k2 w1 hk2 hr2 => IH.out f2 (by omega) (d + 1) k2 _ w1 (by simp) (by omega) (by omega) (by omega) hr2
        have HST := Lib.hid (show blk (lastOf P) f d [] (P.drop k) = thenB (fun n r2 => blk (lastOf P) f2 d (acc ++ [n]) r2) (stm (lastOf P) (fun d r => blk (lastOf P) f2 d [] r) d x (P.drop (k1 + 1))) by
          rw [← HBK.out, HD.out]
          cases e : stm (lastOf P) (fun d r => blk (lastOf P) f2 d [] r) d x (P.drop (k1 + 1)) with
          | bad c l => exact blk_bad _ _ _ _ h4 e
          | ok n r2 => exact blk_ok _ _ _ _ h4 e)
        obtain ⟨kx, t2, l2⟩ := x
        have b4 : (kx == 4) = false := by simpa using h4
        clear h4
        unfold pcv at HN HSC
        generalize stm (lastOf P) (fun d r => blk (lastOf P) f2 d [] r) d ⟨kx, t2, l2⟩ (P.drop (k1 + 1)) = r1 at HSC HST
        go_wp2_with fail
        refine HN.out.mono ?_
        rintro e w5 ⟨rfl, hr5, ho5⟩
        go_wp2_with fail
        refine (HSC.out _ (hr5.kept ((Below.refl _ _).alloc (Nat.le_refl _) _))).mono ?_
        intro e w7 hPost
        cases hPost with
        | bad hG =>
          obtain ⟨g, rfl, hfa, ho⟩ := hG
          refine ⟨rfl, ?_⟩
          rw [HST.out]
          exact .bad ⟨g, rfl, hfa, ((HC.out.out.trans ho5 fun _ _ h => h).alloc _).trans ho fun _ _ h => h⟩
        | @ok nd k2 va vl he hn hr7 hk7 ho7 =>
          subst he
          have HH := Lib.hid (HC.out.own_at ho5 ((Below.refl _ _).alloc (Nat.le_refl _) _) ho7)
          obtain ⟨⟨ap, ac, rfl⟩, lp, lc, rfl⟩ := hn.forms
          have hone := Lib.hid (Ls.one hn)
          have HNO := Lib.hid hn
          have HR7 := Lib.hid hr7
          have HO7 := Lib.hid ho7
          have HO5 := Lib.hid ho5
          have hs7 := HH.out.2.2.1.size
          clear hn hr7 ho7 ho5 hr5
          unfold str at HNO hone ⊢
          go_wp2_with (at_builtin; refine wpList_append_own_at _ rfl (.tmp 13) (.tmp 18) 23 rfl w.heap.size 35 i0 _ 5 80 Tryd.underlying23 hi hz0 hz1 hz2 rfl (by decide) _ _ _ rfl (World.ownsRow.alloc HH.out.1 _) _ 1 1 [.string ⟨nd.key.toArray⟩, .slice ap nd.args.length ac, .bool nd.block, .slice lp nd.list.length lc, .int .i64 nd.line] rfl rfl (five_new _ _ _ _ _ _ _ _ rfl) hone.out (by unfold maxLen; omega) (by omega) (by simp; omega) ?_; intro v' w1 hown1 hgrow1 _ hob; have C1 := Lib.hid (HC.out.step HP.out HO5.out ((Below.refl _ _).alloc (Nat.le_refl _) _) HO7.out HNO.out HR7.out hk7 ((Below.refl _ _).alloc (Nat.le_refl _) _) hown1 hgrow1 hob); clear hown1 hgrow1 hob)
          go_roundw
          case rel =>
            obtain ⟨ys, C2⟩ := C1.out
            exact ⟨_, ys, k2, f2, C2, by omega, by omega, HST.out.symm⟩
          case measure =>
            obtain ⟨ys, C2⟩ := C1.out
            rw [C2.rd.left, HC.out.rd.left]; omega
    · have HS := Lib.hid (show blk (lastOf P) f d [] (P.drop k) = .bad 3 (lastOf P) by rw [← HBK.out, drop_end hl, blk_nil])
      go_wp2_with fail
      refine (next_end P p c rb k1 wr HC.out.rd hl (by omega)).mono ?_
      rintro e w5 ⟨g, rfl, hfa, ho⟩
      refine ⟨rfl, ?_⟩
      rw [HS.out]
      exact .bad ⟨g, rfl, hfa, HC.out.out.trans ho fun _ _ h => h⟩
end Go.Proofs.YtabpkpeonbdinaaDoor.Tree

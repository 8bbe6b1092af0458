/-
  Layer 13 (tree): statement.
-/
import Derived.Test.YtabpkpeonbdinaaDoorTreeNext
namespace Go.Proofs.YtabpkpeonbdinaaDoor.Tree
open Go.RowKit Go.Proofs.YtabpkpeonbdinaaDoor.Own Go.Proofs.YtabpkpeonbdinaaDoor.Rw Go.Proofs.YtabpkpeonbdinaaDoor.Lex

/-- what statement answers, at a piece that was taken -/
inductive NdPost (P : List Pc) (p : Option Addr) (c rb k : Nat) (w : World) (e : Ending) (w' : World) : Rs Nd → Prop
  | bad {cd n : Int} (h : Gone cd n (OnlyR rb) w e w') : NdPost P p c rb k w e w' (.bad cd n)
  | ok {nd : Nd} {k1 : Nat} {va vl : Value} (he : e = .returned (.agg #[str nd.key, va, .bool nd.block, vl, .int .i64 nd.line])) (hn : No w.heap.size w' [str nd.key, va, .bool nd.block, vl, .int .i64 nd.line] nd)
      (hr : Rd w' P p c rb k1) (hk : k ≤ k1) (ho : Out (OnlyR rb) w w') : NdPost P p c rb k w e w' (.ok nd (P.drop k1))
/-- what block answers, and all -/
inductive BkPost (P : List Pc) (p : Option Addr) (c rb k : Nat) (w : World) (e : Ending) (w' : World) : Rs (List Nd) → Prop
  | bad {cd n : Int} (h : Gone cd n (OnlyR rb) w e w') : BkPost P p c rb k w e w' (.bad cd n)
  | ok {ns : List Nd} {k1 : Nat} {v : Value} (he : e = .returned v) (hf : Fo w.heap.size w' v ns)
      (hr : Rd w' P p c rb k1) (hk : k ≤ k1) (ho : Out (OnlyR rb) w w') : BkPost P p c rb k w e w' (.ok ns (P.drop k1))
def left (P : List Pc) (rb : Nat) (w : World) : Nat :=
  match w.cell? ⟨rb, 1, none⟩ with
  | some (.int _ i) => P.length - i.toNat
  | _ => 0
theorem Rd.left {w : World} {P : List Pc} {p : Option Addr} {c rb k : Nat} (h : Rd w P p c rb k) : Tree.left P rb w = P.length - k := by
  unfold Tree.left
  rw [at_cell h.at_ 1]
  simp
theorem own_form {w : World} {B e n size : Nat} {v : Value} {xs : List Value} (h : w.ownsRow B e size v n xs) : ∃ p c, v = .slice p n c := by
  rcases h.2 with ⟨rfl, h0⟩ | ⟨g, cap, cur, rfl, _⟩
  · exact ⟨none, 0, by rw [show n = 0 from h0]⟩
  · exact ⟨_, _, rfl⟩
theorem info_str : (Tryd.prog.info? 9).map (fun i => (i.zero, i.size, i.bytes)) = some (some (.string ⟨#[]⟩), 1, 16) := by kernel_rfl
theorem drop_at {P : List Pc} {k : Nat} (h : k < P.length) : P.drop k = P[k] :: P.drop (k + 1) := List.drop_eq_getElem_cons h
theorem drop_end {P : List Pc} {k : Nat} (h : k = P.length) : P.drop k = [] := List.drop_eq_nil_of_le (by omega)

/-- the arguments that were found -/
structure ArgAt (P : List Pc) (p : Option Addr) (c rb k : Nat) (tx : List UInt8) (ln : Int) (w wr : World) (al : List (List UInt8)) (av : Value) (k1 : Nat) : Prop where
  rd : Rd wr P p c rb k1
  out : Out (OnlyR rb) w wr
  hk : k ≤ k1
  res : wr.heap[w.heap.size + 1]? = some (.cells #[.string ⟨#[]⟩, .slice none 0 0, .bool false, .slice none 0 0, .int .i64 0] 35 (0, 0))
  nd : wr.heap[w.heap.size + 1 + 1]? = some (.cells #[.string ⟨tx.toArray⟩, av, .bool false, .slice none 0 0, .int .i64 ln] 35 (0, 0))
  row : wr.ownsRow (w.heap.size + 3) 9 1 av al.length (strs al)
  few : al.length ≤ 16
  is : argsOf (lastOf P) al (P.drop k1) = argsOf (lastOf P) [] (P.drop k)
  lt : rb < w.heap.size

theorem ArgAt.keep {P : List Pc} {p : Option Addr} {c rb k : Nat} {tx : List UInt8} {ln : Int} {w wr w5 W w1 : World} {al : List (List UInt8)} {av : Value} {k1 : Nat} (C : ArgAt P p c rb k tx ln w wr al av k1)
    (ho5 : Out (OnlyR rb) wr w5) (hW : Below w5.heap.size w5 W) (hg : W.grownBy w1 av.ownBlock) :
    w1.heap[w.heap.size + 1]? = some (.cells #[.string ⟨#[]⟩, .slice none 0 0, .bool false, .slice none 0 0, .int .i64 0] 35 (0, 0)) ∧
    w1.heap[w.heap.size + 1 + 1]? = some (.cells #[.string ⟨tx.toArray⟩, av, .bool false, .slice none 0 0, .int .i64 ln] 35 (0, 0)) := by
  have hl := C.lt
  have k : ∀ {b : Nat} {o : Obj}, wr.heap[b]? = some o → w.heap.size ≤ b → b < w.heap.size + 3 → w1.heap[b]? = some o := by
    intro b o ho h1 h2
    have h5 := ho5.at_ ho (by show ¬ b = rb; omega)
    have h6 := (hW.block b (at_lt h5)).trans h5
    refine (hg.block b (at_lt h6) fun e => ?_).trans h6
    have := (World.ownsRow.lt C.row b e.symm).1
    omega
  exact ⟨k C.res (by omega) (by omega), k C.nd (by omega) (by omega)⟩
theorem ArgAt.step {P : List Pc} {p : Option Addr} {c rb k : Nat} {tx : List UInt8} {ln : Int} {w wr w5 W w1 : World} {al : List (List UInt8)} {av v' : Value} {k1 : Nat} (C : ArgAt P p c rb k tx ln w wr al av k1)
    (hp : ∀ a, p = some a → a.block < w.heap.size) (hr5 : Rd w5 P p c rb (k1 + 1)) (ho5 : Out (OnlyR rb) wr w5) (hW : Below w5.heap.size w5 W) (hg : W.grownBy w1 av.ownBlock) {t2 : List UInt8}
    (hown : w1.ownsRow (w.heap.size + 3) 9 1 v' (al.length + 1) (strs al ++ [.string ⟨t2.toArray⟩])) (h16 : al.length ≠ 16) (hi : argsOf (lastOf P) (al ++ [t2]) (P.drop (k1 + 1)) = argsOf (lastOf P) [] (P.drop k)) :
    ArgAt P p c rb k tx ln w (w1.setCell ⟨w.heap.size + 1 + 1, 1, none⟩ v') (al ++ [t2]) v' (k1 + 1) := by
  obtain ⟨n1, n2⟩ := C.keep ho5 hW hg
  have hl := C.lt
  have hs := C.out.size
  have hs5 := ho5.size
  have hsW := hW.size
  have hf := C.few
  have hk := C.hk
  have OG : Out (fun i => av.ownBlock = some i) w5 w1 := out_grown (Out.ofNew hW) hg fun i e _ => e
  have OS : Out (fun i => w.heap.size < i) w5 (w1.setCell ⟨w.heap.size + 1 + 1, 1, none⟩ v') :=
    (OG.mono (S' := fun i => w.heap.size < i) fun i _ e => by have := (World.ownsRow.lt C.row i e).1; omega).setCell (p := ⟨w.heap.size + 1 + 1, 1, none⟩) (fun _ => by show w.heap.size < w.heap.size + 1 + 1; omega) v'
  refine ⟨?_, ?_, by omega, (at_set_other _ (by omega) _ _).trans n1, at_set n2 1 v', ?_, by rw [List.length_append, List.length_singleton]; omega, hi, hl⟩
  · exact hr5.out OS (by omega) fun a e => by have := hp a e; omega
  · exact (C.out.trans ho5 fun _ _ h => h).trans OS fun i hi h => by omega
  · rw [List.length_append, List.length_singleton, strs_app]; exact own_set hown (by omega) 1 v'

set_option maxRecDepth 100000 in
set_option maxHeartbeats 4000000 in
theorem stm_calls (P : List Pc) (p : Option Addr) (c rb : Nat) (B : Nat → List Pc → Rs (List Nd)) (d k : Nat) (hd : d ≤ 4) (hk0 : 0 < k) (key : Pc) (w : World) (h : Rd w P p c rb k)
    (hB : d ≠ 4 → ∀ (k1 : Nat) (w1 : World), k ≤ k1 → Rd w1 P p c rb k1 → Calls Tryd.prog 42 #[.pointer (some ⟨rb, 0, none⟩), .int .i64 ((d : Int) + 1)] w1 fun e w' => BkPost P p c rb k1 w1 e w' (B (d + 1) (P.drop k1))) :
    Calls Tryd.prog 24 #[.pointer (some ⟨rb, 0, none⟩), pcv key, .int .i64 d] w fun e w' => NdPost P p c rb k w e w' (stm (lastOf P) B d key (P.drop k)) := by
  obtain ⟨i0, hi, hz0, hz1, hz2⟩ := info_parts info_str
  have H := Lib.hid h
  have HB := Lib.hid hB
  have hlt := at_lt h.at_
  have hp : ∀ a, p = some a → a.block < w.heap.size := by
    rintro a rfl
    rcases h.pcs.cells with h0 | ⟨b, e, hb, _⟩
    · have := h.le; rw [h0] at this; simp at this; omega
    · cases e; exact hb
  have HP := Lib.hid hp
  clear h hB hp
  have HG := Lib.hid fun w => giveUp_calls 3 (by decide) key (OnlyR rb) w
  obtain ⟨kd, tx, ln⟩ := key
  unfold pcv at HG
  by_cases h1 : kd = 1
  · subst h1
    unfold pcv
    go_enter Tryd.func24, Tryd.ntmps24
    go_wp2_with fail
    go_loopw [] (fun wr => ∃ (al : List (List UInt8)) (av : Value) (k1 : Nat), ArgAt P p c rb k tx ln w wr al av k1) (fun wr => Tree.left P rb wr)
    case atStart =>
      refine ⟨[], .slice none 0 0, k, ?_, ?_, Nat.le_refl _, ?_, at_newk _ _ (by simp), World.ownsRow_nil _ _ _ _, by simp, rfl, hlt⟩
      · exact H.out.kept ((((Below.refl _ _).alloc (Nat.le_refl _) _).alloc (by simp) _).alloc (by simp; omega) _)
      · exact ((((Out.refl (OnlyR rb) w).alloc _).alloc _).alloc _)
      · exact at_old _ _ (at_newk _ _ (by simp))
    case round =>
      obtain ⟨al, av, k1, C⟩ := hrel
      rename World => wr
      have HC := Lib.hid C
      have hk1 := C.rd.le
      have hkk := C.hk
      have hs := C.out.size
      have hfew := C.few
      clear C
      rcases Nat.lt_or_eq_of_le hk1 with hl | hl
      · have HN := Lib.hid (next_ok P p c rb k1 wr HC.out.rd hl)
        have HA := Lib.hid (show argsOf (lastOf P) al (P[k1] :: P.drop (k1 + 1)) = argsOf (lastOf P) [] (P.drop k) by rw [← drop_at hl]; exact HC.out.is)
        generalize P[k1] = x at HN HA
        have HG3 := Lib.hid fun w => giveUp_calls 3 (by decide) x (OnlyR rb) w
        have HG15 := Lib.hid fun w => giveUp_calls 15 (by decide) x (OnlyR rb) w
        obtain ⟨kx, t2, l2⟩ := x
        unfold pcv at HN HG3 HG15
        rw [argsOf] at HA
        simp only at HA
        by_cases hw : kx = 1 ∨ kx = 2
        · rw [if_pos hw] at HA
          have HW := Lib.hid hw
          by_cases h16 : al.length = 16
          · rw [if_pos h16] at HA
            have b16 : ((al.length : Int) == 16) = true := by simp [h16]
            have HS := Lib.hid (show stm (lastOf P) B d ⟨1, tx, ln⟩ (P.drop k) = .bad 15 l2 by
              unfold stm
              rw [if_pos rfl, ← HA.out])
            rcases hw with rfl | rfl
            all_goals
              go_wp2_with fail
              refine HN.out.mono ?_
              rintro e w5 ⟨rfl, hr5, ho5⟩
              have n5 := ho5.at_ HC.out.nd (by have := HC.out.lt; show ¬ _ = rb; omega)
              obtain ⟨ap, ac, rfl⟩ := own_form HC.out.row
              have g1 : w5.cell? ⟨w.heap.size + 1 + 1, 1, none⟩ = some (.slice ap al.length ac) := at_cell n5 1
              have lt5 := at_lt n5
              go_wp2_with (go_at_call 41; refine (HG15.out _).mono ?_; rintro e w6 ⟨g, rfl, hf, ho⟩)
              refine ⟨rfl, ?_⟩
              rw [HS.out]
              exact .bad ⟨g, rfl, hf, ((HC.out.out.trans ho5 fun _ _ h => h).alloc _).trans ho fun _ _ h => h⟩
          · rw [if_neg h16] at HA
            have b16 : ((al.length : Int) == 16) = false := by simp; omega
            have H16 := Lib.hid h16
            clear h16
            rcases hw with rfl | rfl
            all_goals
              go_wp2_with fail
              refine HN.out.mono ?_
              rintro e w5 ⟨rfl, hr5, ho5⟩
              have n5 := ho5.at_ HC.out.nd (by have := HC.out.lt; show ¬ _ = rb; omega)
              obtain ⟨ap, ac, rfl⟩ := own_form HC.out.row
              have g1 : w5.cell? ⟨w.heap.size + 1 + 1, 1, none⟩ = some (.slice ap al.length ac) := at_cell n5 1
              have lt5 := at_lt n5
              have HR5 := Lib.hid hr5
              have HO5 := Lib.hid ho5
              have row5 := own_out HC.out.row ho5 (fun i e => by have := (World.ownsRow.lt HC.out.row i e).1; have := HC.out.lt; show ¬ i = rb; omega)
              have s5 := ho5.size
              clear hr5 ho5 n5
              go_wp2_with (at_builtin; go_loud (refine Own.append_any rfl (.tmp 35) (.tmp 38) 33 rfl (w.heap.size + 3) 9 i0 _ 1 16 Tryd.underlying33 hi hz0 hz1 hz2 rfl (by decide) _ _ _ rfl (World.ownsRow.alloc (World.ownsRow.alloc row5 _) _) _ 1 1 [.string ⟨t2.toArray⟩] rfl (fun h => nomatch h) rfl (one_new _ _ _ _ (by simp)) (by simp [Value.oneCell']) (by unfold maxLen; omega) (by omega) (by simp; omega) ?_; intro v' w1 hown1 hgrow1; have kk := HC.out.keep HO5.out (Below.alloc (Below.alloc (Below.refl w5.heap.size w5) (Nat.le_refl _) _) (by simp) _) hgrow1; have C1 := Lib.hid (HC.out.step HP.out HR5.out HO5.out (Below.alloc (Below.alloc (Below.refl w5.heap.size w5) (Nat.le_refl _) _) (by simp) _) hgrow1 hown1 H16.out HA.out); have g7 : w1.cell? ⟨w.heap.size + 1 + 1, 1, none⟩ = some (.slice ap al.length ac) := at_cell kk.2 1; have f7 : w1.frozen? ⟨w.heap.size + 1 + 1, 1, none⟩ = false := at_frozen kk.2 1; obtain ⟨p', c', rfl⟩ := own_form hown1; clear hown1 hgrow1 kk))
              go_roundw
              case rel => exact ⟨_, _, _, C1.out⟩
              case measure =>
                rw [C1.out.rd.left, HC.out.rd.left]; omega
        · rw [if_neg hw] at HA
          have w1 : (kx == 1) = false := by simp; omega
          have w2 : (kx == 2) = false := by simp; omega
          by_cases h3 : kx = 3
          · subst h3
            rw [if_pos rfl] at HA
            by_cases h4 : d = 4
            · have HS := Lib.hid (show stm (lastOf P) B d ⟨1, tx, ln⟩ (P.drop k) = .bad 15 l2 by
                unfold stm
                rw [if_pos rfl, ← HA.out]
                exact if_pos h4)
              have b4 : ((d : Int) == 4) = true := by simp [h4]
              go_wp2_with fail
              refine HN.out.mono ?_
              rintro e w5 ⟨rfl, hr5, ho5⟩
              go_wp2_with (go_at_call 41; refine (HG15.out _).mono ?_; rintro e w6 ⟨g, rfl, hf, ho⟩)
              refine ⟨rfl, ?_⟩
              rw [HS.out]
              exact .bad ⟨g, rfl, hf, ((HC.out.out.trans ho5 fun _ _ h => h).alloc _).trans ho fun _ _ h => h⟩
            · have HS := Lib.hid (show stm (lastOf P) B d ⟨1, tx, ln⟩ (P.drop k) = (match B (d + 1) (P.drop (k1 + 1)) with | .bad c l => .bad c l | .ok ns r2 => .ok (.mk tx al true ns ln) r2) by
                unfold stm
                rw [if_pos rfl, ← HA.out]
                exact if_neg h4)
              have b4 : ((d : Int) == 4) = false := by simp; omega
              have HBB := Lib.hid (HB.out h4 (k1 + 1))
              clear hw h4
              go_wp2_with fail
              refine HN.out.mono ?_
              rintro e w5 ⟨rfl, hr5, ho5⟩
              obtain ⟨ap, ac, rfl⟩ := own_form HC.out.row
              have n5 := ho5.at_ HC.out.nd (by have := HC.out.lt; show ¬ _ = rb; omega)
              have r5 := ho5.at_ HC.out.res (by have := HC.out.lt; show ¬ _ = rb; omega)
              obtain ⟨⟨g0, g1, g2, g3, g4⟩, f0, f1, f2, f3, f4⟩ := row5 n5
              have lt5 := at_lt n5
              have N5 := Lib.hid n5
              have R5 := Lib.hid r5
              have HR5 := Lib.hid hr5
              have HO5 := Lib.hid ho5
              have ROW5 := Lib.hid (own_out HC.out.row ho5 (fun i e => by have := (World.ownsRow.lt HC.out.row i e).1; have := HC.out.lt; show ¬ i = rb; omega))
              clear hr5 ho5 n5 r5
              go_wp2_with fail
              have S6 := (Out.refl (fun i => i = w.heap.size + 1 + 1) w5).setCell (p := ⟨w.heap.size + 1 + 1, 2, none⟩) (fun _ => rfl) (.bool true)
              refine (HBB.out _ (by omega) ((HR5.out.out S6 (by omega) fun a e => by have := HP.out a e; omega).kept ((Below.refl _ _).alloc (Nat.le_refl _) _))).mono ?_
              intro e w7 hP
              have N6 := at_set N5.out 2 (.bool true)
              have R6 := (at_set_other (b := w.heap.size + 1 + 1) w5 (k := w.heap.size + 1) (by omega) 2 (.bool true)).trans R5.out
              have ROW6 := own_set ROW5.out (k := w.heap.size + 1 + 1) (by omega) 2 (.bool true)
              have s6 := S6.size
              generalize w5.setCell ⟨w.heap.size + 1 + 1, 2, none⟩ (.bool true) = w6 at *
              have O6 := Lib.hid (Out.trans (HC.out.out.trans HO5.out fun _ _ h => h) S6 (S := OnlyR rb) fun i hi e => by omega)
              generalize B (d + 1) (P.drop (k1 + 1)) = r at hP HS
              cases hP with
              | bad hG =>
                obtain ⟨g, rfl, hf, ho⟩ := hG
                refine ⟨rfl, ?_⟩
                rw [HS.out]
                exact .bad ⟨g, rfl, hf, (O6.out.alloc _).trans ho fun _ _ h => h⟩
              | @ok ns k2 v he hF hr7 hk7 ho7 =>
                subst he
                obtain ⟨vp, vc, rfl⟩ := hF.shape
                have n7 := ho7.at_ (at_old _ _ N6) (by have := HC.out.lt; show ¬ _ = rb; omega)
                have r7 := ho7.at_ (at_old _ _ R6) (by have := HC.out.lt; show ¬ _ = rb; omega)
                have ROW7 := Lib.hid (own_out (World.ownsRow.alloc ROW6 _) ho7 (fun i e => by have := (World.ownsRow.lt HC.out.row i e).1; have := HC.out.lt; show ¬ i = rb; omega))
                have O7 := Lib.hid ((O6.out.alloc _).trans ho7 fun _ _ h => h)
                obtain ⟨⟨x0, x1, x2, x3, x4⟩, y0, y1, y2, y3, y4⟩ := row5 n7
                obtain ⟨⟨z0, z1, z2, z3, z4⟩, u0, u1, u2, u3, u4⟩ := row5 r7
                have s7 := ho7.size
                rw [show (w6.alloc _).heap.size = w6.heap.size + 1 by simp] at s7
                have HF := Lib.hid hF
                have HR7 := Lib.hid hr7
                have N7 := Lib.hid n7
                have R7 := Lib.hid r7
                have lt7 := at_lt n7
                have lt8 := at_lt r7
                clear hF hr7 ho7 n7 r7 N6 R6 ROW6 g0 g1 g2 g3 g4 f0 f1 f2 f3 f4
                go_wp2_with fail
                have S8 := (Out.refl (fun i => i = w.heap.size + 1 + 1) w7).setCell (p := ⟨w.heap.size + 1 + 1, 3, none⟩) (fun _ => rfl) (.slice vp ns.length vc)
                have R8 := (at_set_other (b := w.heap.size + 1 + 1) w7 (k := w.heap.size + 1) (by omega) 3 (.slice vp ns.length vc)).trans R7.out
                have l8 := S8.size
                have E := set5_row R8 (.string ⟨tx.toArray⟩) (.slice ap al.length ac) (.bool true) (.slice vp ns.length vc) (.int .i64 ln)
                have S9 := set5_self (w7.setCell ⟨w.heap.size + 1 + 1, 3, none⟩ (.slice vp ns.length vc)) (w.heap.size + 1) (.string ⟨tx.toArray⟩) (.slice ap al.length ac) (.bool true) (.slice vp ns.length vc) (.int .i64 ln)
                refine bodyPost_ret (results_cell_row rfl _ _ (w.heap.size + 1) _ #[.string ⟨tx.toArray⟩, .slice ap al.length ac, .bool true, .slice vp ns.length vc, .int .i64 ln] _ _ rfl E Tryd.underlying35 rfl (by kernel_rfl)) rfl ?_
                rw [HS.out]
                generalize (((((((w7.setCell ⟨w.heap.size + 1 + 1, 3, none⟩ (.slice vp ns.length vc)).setCell ⟨w.heap.size + 1, 0, none⟩ (.string ⟨tx.toArray⟩)).setCell ⟨w.heap.size + 1, 1, none⟩ (.slice ap al.length ac)).setCell ⟨w.heap.size + 1, 2, none⟩ (.bool true)).setCell ⟨w.heap.size + 1, 3, none⟩ (.slice vp ns.length vc)).setCell ⟨w.heap.size + 1, 4, none⟩ (.int .i64 ln))) = w9 at *
                generalize w7.setCell ⟨w.heap.size + 1 + 1, 3, none⟩ (.slice vp ns.length vc) = w8 at *
                have S79 : Out (fun i => i = w.heap.size + 1 ∨ i = w.heap.size + 1 + 1) w7 w9 := (S8.mono fun i _ e => .inr e).trans S9 fun i _ e => .inl e
                refine .ok (nd := .mk tx al true ns ln) (k1 := k2) (va := .slice ap al.length ac) (vl := .slice vp ns.length vc) rfl ?_ ?_ (by omega) (O7.out.trans S79 fun i hi e => by omega)
                · exact No.mk (own_base (own_out ROW7.out S79 fun i e h => by have := (World.ownsRow.lt ROW7.out i e).1; omega) (by omega)) ((HF.out.out S79 fun i e => by rw [show (w6.alloc _).heap.size = w6.heap.size + 1 by simp]; omega).base (by rw [show (w6.alloc _).heap.size = w6.heap.size + 1 by simp]; omega))
                · exact HR7.out.out S79 (by omega) fun a e h => by have := HP.out a e; omega
          · rw [if_neg h3] at HA
            have w3 : (kx == 3) = false := by simp; omega
            by_cases h5 : kx = 5
            · subst h5
              rw [if_pos rfl] at HA
              have HS := Lib.hid (show stm (lastOf P) B d ⟨1, tx, ln⟩ (P.drop k) = .ok (.mk tx al false [] ln) (P.drop (k1 + 1)) by
                unfold stm
                rw [if_pos rfl, ← HA.out])
              go_wp2_with fail
              refine HN.out.mono ?_
              rintro e w5 ⟨rfl, hr5, ho5⟩
              obtain ⟨ap, ac, rfl⟩ := own_form HC.out.row
              have n5 := ho5.at_ HC.out.nd (by have := HC.out.lt; show ¬ _ = rb; omega)
              have r5 := ho5.at_ HC.out.res (by have := HC.out.lt; show ¬ _ = rb; omega)
              obtain ⟨⟨g0, g1, g2, g3, g4⟩, -⟩ := row5 n5
              obtain ⟨⟨z0, z1, z2, z3, z4⟩, f0, f1, f2, f3, f4⟩ := row5 r5
              have lt6 := at_lt r5
              have lt5 := at_lt n5
              have N5 := Lib.hid n5
              have R5 := Lib.hid r5
              have HR5 := Lib.hid hr5
              have HO5 := Lib.hid ho5
              have row5 := Lib.hid (own_out HC.out.row ho5 (fun i e => by have := (World.ownsRow.lt HC.out.row i e).1; have := HC.out.lt; show ¬ i = rb; omega))
              clear hr5 ho5 n5 r5
              go_wp2_with fail
              have E := set5_row R5.out (.string ⟨tx.toArray⟩) (.slice ap al.length ac) (.bool false) (.slice none 0 0) (.int .i64 ln)
              have S5 := set5_self w5 (w.heap.size + 1) (.string ⟨tx.toArray⟩) (.slice ap al.length ac) (.bool false) (.slice none 0 0) (.int .i64 ln)
              refine bodyPost_ret (results_cell_row rfl _ _ (w.heap.size + 1) _ #[.string ⟨tx.toArray⟩, .slice ap al.length ac, .bool false, .slice none 0 0, .int .i64 ln] _ _ rfl (at_old _ _ E) Tryd.underlying35 rfl (by kernel_rfl)) rfl ?_
              rw [HS.out]
              generalize (((((w5.setCell ⟨w.heap.size + 1, 0, none⟩ (.string ⟨tx.toArray⟩)).setCell ⟨w.heap.size + 1, 1, none⟩ (.slice ap al.length ac)).setCell ⟨w.heap.size + 1, 2, none⟩ (.bool false)).setCell ⟨w.heap.size + 1, 3, none⟩ (.slice none 0 0)).setCell ⟨w.heap.size + 1, 4, none⟩ (.int .i64 ln)) = w8 at *
              have hO := Out.trans (HC.out.out.trans HO5.out fun _ _ h => h) S5 (S := OnlyR rb) fun i hi e => by omega
              refine .ok (nd := .mk tx al false [] ln) (k1 := k1 + 1) (va := .slice ap al.length ac) (vl := .slice none 0 0) rfl ?_ ?_ (by omega) (hO.alloc _)
              · exact No.mk (World.ownsRow.alloc (own_base (own_out row5.out S5 fun i e => by have := (World.ownsRow.lt row5.out i e).1; show ¬ i = _; omega) (by omega)) _) (Fo.nil _ _)
              · exact (HR5.out.out S5 (by omega) fun a e => by have := HP.out a e; omega).kept ((Below.refl _ _).alloc (Nat.le_refl _) _)
            · rw [if_neg h5] at HA
              have w4 : (kx == 5) = false := by simp; omega
              have HS := Lib.hid (show stm (lastOf P) B d ⟨1, tx, ln⟩ (P.drop k) = .bad 3 l2 by
                unfold stm
                rw [if_pos rfl, ← HA.out])
              clear hw h3 h5
              go_wp2_with fail
              refine HN.out.mono ?_
              rintro e w5 ⟨rfl, hr5, ho5⟩
              go_wp2_with (go_at_call 41; refine (HG3.out _).mono ?_; rintro e w6 ⟨g, rfl, hf, ho⟩)
              refine ⟨rfl, ?_⟩
              rw [HS.out]
              exact .bad ⟨g, rfl, hf, ((HC.out.out.trans ho5 fun _ _ h => h).alloc _).trans ho fun _ _ h => h⟩
      · have HS := Lib.hid (show stm (lastOf P) B d ⟨1, tx, ln⟩ (P.drop k) = .bad 3 (lastOf P) by
          unfold stm
          rw [if_pos rfl, ← HC.out.is, drop_end hl]; rfl)
        go_wp2_with fail
        refine (next_end P p c rb k1 wr HC.out.rd hl (by omega)).mono ?_
        rintro e w5 ⟨g, rfl, hf, ho⟩
        refine ⟨rfl, ?_⟩
        rw [HS.out]
        exact .bad ⟨g, rfl, hf, HC.out.out.trans ho fun _ _ h => h⟩
  · have HS := Lib.hid (show stm (lastOf P) B d ⟨kd, tx, ln⟩ (P.drop k) = .bad 3 ln from if_neg h1)
    have b1 : (kd != 1) = true := by simpa using h1
    clear h1
    unfold pcv
    go_enter Tryd.func24, Tryd.ntmps24
    go_wp2_with (go_at_call 41; refine (HG.out _).mono ?_; rintro e w5 ⟨g, rfl, hf, ho⟩)
    refine ⟨rfl, ?_⟩
    rw [HS.out]
    exact .bad ⟨g, rfl, hf, (((Out.refl (OnlyR rb) w).alloc _).alloc _).trans ho fun _ _ h => h⟩
end Go.Proofs.YtabpkpeonbdinaaDoor.Tree

/-
Layer 19 (line): the law's acts: Send. Written by gen_lindo.py.
Layer 19 (line): the document's own Break, walked.
Layer 19 (line): the law's acts: Break. Written by gen_lindo.py.
Layer 19 (line): the law's acts: Send. Written by gen_lindo.py.
Layer 2 (digit): the program's Put, walked.
-/
import Derived.Test.YtnkhdpenmekhdaaGreatPPack8
import Derived.ScopeJumps
import Derived.WalkMore
section
namespace Go.Proofs.YtnkhdpenmekhdaaGreat.Lin
open Go.RowKit Go.Proofs.YtnkhdpenmekhdaaGreat.Own Go.Proofs.YtnkhdpenmekhdaaGreat.Brk Go.Proofs.YtnkhdpenmekhdaaGreat.Calc Go.Proofs.YtnkhdpenmekhdaaGreat.Tree Go.Proofs.YtnkhdpenmekhdaaGreat.Run Go.Proofs.YtnkhdpenmekhdaaGreat.Bkf

set_option maxRecDepth 100000 in
set_option maxHeartbeats 8000000 in
theorem do_send7 {w : World} {S : Nat → Prop} {k : Nat} {x : Ln} {v : Value} (P : Pr w S k x v) (kk g r now : Int) (ok : Bool) (s : List UInt8) (q : Option Addr) (m cq : Nat) (h0 : 0 ≤ kk) (h1 : kk ≤ 255) (hk : kk % 10 = 7) (hs : s.length ≤ 2000) :
    Calls Tryz.prog 7 #[.pointer (some ⟨k, 0, none⟩), v, .agg #[.int .u8 kk, .int .u8 g, .bool ok, .int .i64 r, .string ⟨s.toArray⟩, .slice q m cq], .int .i64 now] w (DoPost w S k (sendL x s)) := by
  have hRf := P.rf
  obtain ⟨x0, x1, x2, x3, x4, x5, xp6, xl6, xk6, xp7, xl7, xk7, x8, x9, x10, rfl⟩ := hRf.cells
  have hS := P.mem.lt
  have HS := Lib.hid hS
  obtain ⟨bt, hbt⟩ : ∃ b, sendB x s = b := ⟨_, rfl⟩
  obtain ⟨Yl, hY⟩ : ∃ y, sendL x s = y := ⟨_, rfl⟩
  obtain ⟨O, hO⟩ : ∃ y, sendO x s = y := ⟨_, rfl⟩
  obtain ⟨n, hn⟩ : ∃ y, O.length = y := ⟨_, rfl⟩
  have HN := Lib.hid hn
  have HM := Lib.hid (fun W (hW : Below w.heap.size w W) => P.mem.below hW)
  have hOK : ∀ W, Below w.heap.size w W → ∀ L p c, OKS S w L p c → Ops W L p c := fun W hW L p c h => h W (Out.ofNew hW)
  have HRef : Hid (∀ W, Below w.heap.size w W → Calls Tryz.prog 30 #[.agg #[.int .i64 x0, .int .i64 x1, .int .i64 x2, .int .i64 x3, .int .i64 x4, .int .i64 x5, .slice xp6 xl6 xk6, .slice xp7 xl7 xk7, .int .i64 x8, .int .i64 x9, .string x10], .string ⟨s.toArray⟩] W fun e w' => ∃ z0 z1 z2 z3 z4 z5 zp6 zl6 zk6 zp7 zl7 zk7 z8 z9 z10 p c, e = .returned (.tuple #[.agg #[.int .i64 z0, .int .i64 z1, .int .i64 z2, .int .i64 z3, .int .i64 z4, .int .i64 z5, .slice zp6 zl6 zk6, .slice zp7 zl7 zk7, .int .i64 z8, .int .i64 z9, .string z10], .slice p n c, .bool bt]) ∧ Rf (OKS S w) Yl (.agg #[.int .i64 z0, .int .i64 z1, .int .i64 z2, .int .i64 z3, .int .i64 z4, .int .i64 z5, .slice zp6 zl6 zk6, .slice zp7 zl7 zk7, .int .i64 z8, .int .i64 z9, .string z10]) ∧ Below W.heap.size W w' ∧ ∀ V, Out S w' V → Outs V O p c) := Lib.hid fun W hW => by
    refine (rsend_calls s hs W P.rf).mono fun e w' he => ?_
    rw [hY, hO, hbt] at he
    exact ref_post3 (fun i hi => Nat.lt_of_lt_of_le (hS i hi) hW.size) hn he
  have HPr : Hid (∀ W, Below w.heap.size w W → Mem W k S x → Calls Tryz.prog 16 #[.pointer (some ⟨k, 0, none⟩), .string ⟨s.toArray⟩] W fun e w' => ∃ S' p c, e = .returned (.tuple #[.slice p n c, .bool bt]) ∧ Mem w' k S' Yl ∧ Step S W S' w' ∧ ∀ V, Out S' w' V → Outs V O p c) := Lib.hid fun W hWb hW => by
    refine (send_calls s hW).mono fun e w' he => ?_
    rw [hY, hO, hbt] at he
    obtain ⟨v5, rfl, he⟩ := he
    obtain ⟨S', p, c, e5, h5, h6, h7⟩ := prog_post HN.out he
    injection e5 with e5
    subst e5
    exact ⟨S', p, c, rfl, h5, h6, h7⟩
  have A0 := Lib.hid (DoB.start w #[.int .i64 x0, .int .i64 x1, .int .i64 x2, .int .i64 x3, .int .i64 x4, .int .i64 x5, .slice xp6 xl6 xk6, .slice xp7 xl7 xk7, .int .i64 x8, .int .i64 x9, .string x10] #[.int .u8 kk, .int .u8 g, .bool ok, .int .i64 r, .string ⟨s.toArray⟩, .slice q m cq])
  have B0 := Lib.hid (start3 w #[.int .i64 x0, .int .i64 x1, .int .i64 x2, .int .i64 x3, .int .i64 x4, .int .i64 x5, .slice xp6 xl6 xk6, .slice xp7 xl7 xk7, .int .i64 x8, .int .i64 x9, .string x10] #[.int .u8 kk, .int .u8 g, .bool ok, .int .i64 r, .string ⟨s.toArray⟩, .slice q m cq])
  rw [hY]
  clear P hRf hY hO hn hS hOK hbt
  go_enter Tryz.func7, Tryz.ntmps7
  go_wp2_with fail
  refine (HRef.out _ B0.out).mono ?_
  rintro e w1 ⟨z0, z1, z2, z3, z4, z5, zp6, zl6, zk6, zp7, zl7, zk7, z8, z9, z10, p', c', rfl, hR1, hb1, hU1⟩
  have HR1 := Lib.hid hR1
  have HU1 := Lib.hid hU1
  have A1 := Lib.hid ((A0.out.step hb1).step ((Below.refl _ w1).alloc (Nat.le_refl _) (.cells #[.int .i64 z0, .int .i64 z1, .int .i64 z2, .int .i64 z3, .int .i64 z4, .int .i64 z5, .slice zp6 zl6 zk6, .slice zp7 zl7 zk7, .int .i64 z8, .int .i64 z9, .string z10] 32 (0, 0))))
  have B1 := Lib.hid ((B0.out.trans (hb1.mono B0.out.size)).alloc (Nat.le_trans B0.out.size hb1.size) (.cells #[.int .i64 z0, .int .i64 z1, .int .i64 z2, .int .i64 z3, .int .i64 z4, .int .i64 z5, .slice zp6 zl6 zk6, .slice zp7 zl7 zk7, .int .i64 z8, .int .i64 z9, .string z10] 32 (0, 0)))
  have hy := at_new w1 (.cells #[.int .i64 z0, .int .i64 z1, .int .i64 z2, .int .i64 z3, .int .i64 z4, .int .i64 z5, .slice zp6 zl6 zk6, .slice zp7 zl7 zk7, .int .i64 z8, .int .i64 z9, .string z10] 32 (0, 0))
  have hz1 := Lib.hid (show w.heap.size + 2 < w1.heap.size from (A0.out.step hb1).size)
  have hb2 := Lib.hid ((Below.refl _ w1).alloc (Nat.le_refl _) (.cells #[.int .i64 z0, .int .i64 z1, .int .i64 z2, .int .i64 z3, .int .i64 z4, .int .i64 z5, .slice zp6 zl6 zk6, .slice zp7 zl7 zk7, .int .i64 z8, .int .i64 z9, .string z10] 32 (0, 0)))
  have hz2 : w.heap.size + 1 < w1.heap.size := by have := hz1.out; omega
  have o4 := (at_cell (A0.out.step hb1).b6 4 : _ = some _)
  have qb : (bt == bt) = true := by simp
  clear hR1 hb1 hU1
  go_wp2_with fail
  obtain ⟨Y, hY⟩ : ∃ Y, w1.heap.size = Y := ⟨_, rfl⟩
  rw [hY] at hy ⊢
  obtain ⟨W2, hW2⟩ : ∃ W, w1.alloc (.cells #[.int .i64 z0, .int .i64 z1, .int .i64 z2, .int .i64 z3, .int .i64 z4, .int .i64 z5, .slice zp6 zl6 zk6, .slice zp7 zl7 zk7, .int .i64 z8, .int .i64 z9, .string z10] 32 (0, 0)) = W := ⟨_, rfl⟩
  rw [hW2] at A1 B1 hy hb2 ⊢
  have HYY := Lib.hid hY
  clear hW2 hY
  obtain ⟨d0, d1, d2, d3, d4, d5, d6, d7, d8, d9, d10⟩ := row11 hy
  have lY := at_lt hy
  have lX : w.heap.size + 1 < W2.heap.size := by have := A1.out.size; omega
  have nY : ¬ S Y := fun hk => by have := HS.out _ hk; have := hz1.out; have := HYY.out; omega
  have nX : ¬ S (w.heap.size + 1) := fun hk => by have := HS.out _ hk; omega
  have eYZ : Y ≠ w.heap.size + 1 + 1 := by have := hz1.out; have := HYY.out; omega
  refine (HPr.out _ (by first | exact B1.out | exact Brk.below_drew B1.out) (HM.out _ (by first | exact B1.out | exact Brk.below_drew B1.out))).mono ?_; rintro e w5 ⟨S5, p5, c5, rfl, M5, T5, U5⟩; replace T5 : Hid (Step S W2 S5 w5) := Lib.hid ⟨⟨T5.out.os, T5.out.tape, T5.out.output, T5.out.size, T5.out.block⟩, T5.new⟩; have O5 := Lib.hid T5.out.out; have HU5 : Hid (∀ V, Below w5.heap.size w5 V → Outs V O p5 c5 ∧ Outs V O p' c') := Lib.hid fun V hV => ⟨U5 V (Out.ofNew hV), HU1.out V (((Out.ofNew (S := S) hb2.out).trans O5.out fun _ _ h => h).trans (Out.ofNew (S := S) hV) fun _ _ h => h)⟩; have H5 := Lib.hid (⟨(O5.out.cell (p := ⟨Y, 0, none⟩) lY nY).trans d0, (O5.out.cell (p := ⟨Y, 1, none⟩) lY nY).trans d1, (O5.out.cell (p := ⟨Y, 2, none⟩) lY nY).trans d2, (O5.out.cell (p := ⟨Y, 3, none⟩) lY nY).trans d3, (O5.out.cell (p := ⟨Y, 4, none⟩) lY nY).trans d4, (O5.out.cell (p := ⟨Y, 5, none⟩) lY nY).trans d5, (O5.out.cell (p := ⟨Y, 6, none⟩) lY nY).trans d6, (O5.out.cell (p := ⟨Y, 7, none⟩) lY nY).trans d7, (O5.out.cell (p := ⟨Y, 8, none⟩) lY nY).trans d8, (O5.out.cell (p := ⟨Y, 9, none⟩) lY nY).trans d9, (O5.out.cell (p := ⟨Y, 10, none⟩) lY nY).trans d10⟩ : w5.cell? ⟨Y, 0, none⟩ = some (.int .i64 z0) ∧ w5.cell? ⟨Y, 1, none⟩ = some (.int .i64 z1) ∧ w5.cell? ⟨Y, 2, none⟩ = some (.int .i64 z2) ∧ w5.cell? ⟨Y, 3, none⟩ = some (.int .i64 z3) ∧ w5.cell? ⟨Y, 4, none⟩ = some (.int .i64 z4) ∧ w5.cell? ⟨Y, 5, none⟩ = some (.int .i64 z5) ∧ w5.cell? ⟨Y, 6, none⟩ = some (.slice zp6 zl6 zk6) ∧ w5.cell? ⟨Y, 7, none⟩ = some (.slice zp7 zl7 zk7) ∧ w5.cell? ⟨Y, 8, none⟩ = some (.int .i64 z8) ∧ w5.cell? ⟨Y, 9, none⟩ = some (.int .i64 z9) ∧ w5.cell? ⟨Y, 10, none⟩ = some (.string z10)); have l6 := Nat.lt_of_lt_of_le lY O5.out.size; have l6' := Nat.lt_of_lt_of_le lX O5.out.size; have A5 := Lib.hid (A1.out.out O5.out HS.out); replace M5 := Lib.hid M5; clear U5
  clear d0 d1 d2 d3 d4 d5 d6 d7 d8 d9 d10
  obtain ⟨d0, d1, d2, d3, d4, d5, d6, d7, d8, d9, d10⟩ := H5.out
  go_wp2_with fail
  go_region_held3 (fun w' => w'.cell? ⟨Y, 0, none⟩ = some (.int .i64 z0) ∧ w'.cell? ⟨Y, 1, none⟩ = some (.int .i64 z1) ∧ w'.cell? ⟨Y, 2, none⟩ = some (.int .i64 z2) ∧ w'.cell? ⟨Y, 3, none⟩ = some (.int .i64 z3) ∧ w'.cell? ⟨Y, 4, none⟩ = some (.int .i64 z4) ∧ w'.cell? ⟨Y, 5, none⟩ = some (.int .i64 z5) ∧ w'.cell? ⟨Y, 6, none⟩ = some (.slice zp6 zl6 zk6) ∧ w'.cell? ⟨Y, 7, none⟩ = some (.slice zp7 zl7 zk7) ∧ w'.cell? ⟨Y, 8, none⟩ = some (.int .i64 z8) ∧ w'.cell? ⟨Y, 9, none⟩ = some (.int .i64 z9) ∧ w'.cell? ⟨Y, 10, none⟩ = some (.string z10))
    (first
      | with_reducible exact H5.out
      | with_reducible exact H6.out
      | with_reducible exact ⟨((out_drew1 w5).cell (p := ⟨Y, 0, none⟩) l6 id).trans H5.out.1, ((out_drew1 w5).cell (p := ⟨Y, 1, none⟩) l6 id).trans H5.out.2.1, ((out_drew1 w5).cell (p := ⟨Y, 2, none⟩) l6 id).trans H5.out.2.2.1, ((out_drew1 w5).cell (p := ⟨Y, 3, none⟩) l6 id).trans H5.out.2.2.2.1, ((out_drew1 w5).cell (p := ⟨Y, 4, none⟩) l6 id).trans H5.out.2.2.2.2.1, ((out_drew1 w5).cell (p := ⟨Y, 5, none⟩) l6 id).trans H5.out.2.2.2.2.2.1, ((out_drew1 w5).cell (p := ⟨Y, 6, none⟩) l6 id).trans H5.out.2.2.2.2.2.2.1, ((out_drew1 w5).cell (p := ⟨Y, 7, none⟩) l6 id).trans H5.out.2.2.2.2.2.2.2.1, ((out_drew1 w5).cell (p := ⟨Y, 8, none⟩) l6 id).trans H5.out.2.2.2.2.2.2.2.2.1, ((out_drew1 w5).cell (p := ⟨Y, 9, none⟩) l6 id).trans H5.out.2.2.2.2.2.2.2.2.2.1, ((out_drew1 w5).cell (p := ⟨Y, 10, none⟩) l6 id).trans H5.out.2.2.2.2.2.2.2.2.2.2⟩
      | with_reducible exact ⟨((out11 w6 (w.heap.size + 1 + 1) (.int .i64 z0) (.int .i64 z1) (.int .i64 z2) (.int .i64 z3) (.int .i64 z4) (.int .i64 z5) (.slice zp6 zl6 zk6) (.slice zp7 zl7 zk7) (.int .i64 z8) (.int .i64 z9) (.string z10)).cell (p := ⟨Y, 0, none⟩) u6 eYZ).trans H6.out.1, ((out11 w6 (w.heap.size + 1 + 1) (.int .i64 z0) (.int .i64 z1) (.int .i64 z2) (.int .i64 z3) (.int .i64 z4) (.int .i64 z5) (.slice zp6 zl6 zk6) (.slice zp7 zl7 zk7) (.int .i64 z8) (.int .i64 z9) (.string z10)).cell (p := ⟨Y, 1, none⟩) u6 eYZ).trans H6.out.2.1, ((out11 w6 (w.heap.size + 1 + 1) (.int .i64 z0) (.int .i64 z1) (.int .i64 z2) (.int .i64 z3) (.int .i64 z4) (.int .i64 z5) (.slice zp6 zl6 zk6) (.slice zp7 zl7 zk7) (.int .i64 z8) (.int .i64 z9) (.string z10)).cell (p := ⟨Y, 2, none⟩) u6 eYZ).trans H6.out.2.2.1, ((out11 w6 (w.heap.size + 1 + 1) (.int .i64 z0) (.int .i64 z1) (.int .i64 z2) (.int .i64 z3) (.int .i64 z4) (.int .i64 z5) (.slice zp6 zl6 zk6) (.slice zp7 zl7 zk7) (.int .i64 z8) (.int .i64 z9) (.string z10)).cell (p := ⟨Y, 3, none⟩) u6 eYZ).trans H6.out.2.2.2.1, ((out11 w6 (w.heap.size + 1 + 1) (.int .i64 z0) (.int .i64 z1) (.int .i64 z2) (.int .i64 z3) (.int .i64 z4) (.int .i64 z5) (.slice zp6 zl6 zk6) (.slice zp7 zl7 zk7) (.int .i64 z8) (.int .i64 z9) (.string z10)).cell (p := ⟨Y, 4, none⟩) u6 eYZ).trans H6.out.2.2.2.2.1, ((out11 w6 (w.heap.size + 1 + 1) (.int .i64 z0) (.int .i64 z1) (.int .i64 z2) (.int .i64 z3) (.int .i64 z4) (.int .i64 z5) (.slice zp6 zl6 zk6) (.slice zp7 zl7 zk7) (.int .i64 z8) (.int .i64 z9) (.string z10)).cell (p := ⟨Y, 5, none⟩) u6 eYZ).trans H6.out.2.2.2.2.2.1, ((out11 w6 (w.heap.size + 1 + 1) (.int .i64 z0) (.int .i64 z1) (.int .i64 z2) (.int .i64 z3) (.int .i64 z4) (.int .i64 z5) (.slice zp6 zl6 zk6) (.slice zp7 zl7 zk7) (.int .i64 z8) (.int .i64 z9) (.string z10)).cell (p := ⟨Y, 6, none⟩) u6 eYZ).trans H6.out.2.2.2.2.2.2.1, ((out11 w6 (w.heap.size + 1 + 1) (.int .i64 z0) (.int .i64 z1) (.int .i64 z2) (.int .i64 z3) (.int .i64 z4) (.int .i64 z5) (.slice zp6 zl6 zk6) (.slice zp7 zl7 zk7) (.int .i64 z8) (.int .i64 z9) (.string z10)).cell (p := ⟨Y, 7, none⟩) u6 eYZ).trans H6.out.2.2.2.2.2.2.2.1, ((out11 w6 (w.heap.size + 1 + 1) (.int .i64 z0) (.int .i64 z1) (.int .i64 z2) (.int .i64 z3) (.int .i64 z4) (.int .i64 z5) (.slice zp6 zl6 zk6) (.slice zp7 zl7 zk7) (.int .i64 z8) (.int .i64 z9) (.string z10)).cell (p := ⟨Y, 8, none⟩) u6 eYZ).trans H6.out.2.2.2.2.2.2.2.2.1, ((out11 w6 (w.heap.size + 1 + 1) (.int .i64 z0) (.int .i64 z1) (.int .i64 z2) (.int .i64 z3) (.int .i64 z4) (.int .i64 z5) (.slice zp6 zl6 zk6) (.slice zp7 zl7 zk7) (.int .i64 z8) (.int .i64 z9) (.string z10)).cell (p := ⟨Y, 9, none⟩) u6 eYZ).trans H6.out.2.2.2.2.2.2.2.2.2.1, ((out11 w6 (w.heap.size + 1 + 1) (.int .i64 z0) (.int .i64 z1) (.int .i64 z2) (.int .i64 z3) (.int .i64 z4) (.int .i64 z5) (.slice zp6 zl6 zk6) (.slice zp7 zl7 zk7) (.int .i64 z8) (.int .i64 z9) (.string z10)).cell (p := ⟨Y, 10, none⟩) u6 eYZ).trans H6.out.2.2.2.2.2.2.2.2.2.2⟩)
    (first
      | (go_at_call 20; refine (same_outs O n HN.out _ _ _ _ _ (HU5.out _ (by first | exact Below.refl _ _ | exact Brk.below_drew (Below.refl _ _))).1 (HU5.out _ (by first | exact Below.refl _ _ | exact Brk.below_drew (Below.refl _ _))).2).mono ?_; rintro e w6 ⟨rfl, hb6⟩; replace hb6 : Below w5.heap.size w5 w6 := ⟨hb6.os, hb6.tape, hb6.output, hb6.size, hb6.block⟩; have H6 := Lib.hid (⟨((Out.ofNew (S := fun _ => False) hb6).cell (p := ⟨Y, 0, none⟩) l6 id).trans H5.out.1, ((Out.ofNew (S := fun _ => False) hb6).cell (p := ⟨Y, 1, none⟩) l6 id).trans H5.out.2.1, ((Out.ofNew (S := fun _ => False) hb6).cell (p := ⟨Y, 2, none⟩) l6 id).trans H5.out.2.2.1, ((Out.ofNew (S := fun _ => False) hb6).cell (p := ⟨Y, 3, none⟩) l6 id).trans H5.out.2.2.2.1, ((Out.ofNew (S := fun _ => False) hb6).cell (p := ⟨Y, 4, none⟩) l6 id).trans H5.out.2.2.2.2.1, ((Out.ofNew (S := fun _ => False) hb6).cell (p := ⟨Y, 5, none⟩) l6 id).trans H5.out.2.2.2.2.2.1, ((Out.ofNew (S := fun _ => False) hb6).cell (p := ⟨Y, 6, none⟩) l6 id).trans H5.out.2.2.2.2.2.2.1, ((Out.ofNew (S := fun _ => False) hb6).cell (p := ⟨Y, 7, none⟩) l6 id).trans H5.out.2.2.2.2.2.2.2.1, ((Out.ofNew (S := fun _ => False) hb6).cell (p := ⟨Y, 8, none⟩) l6 id).trans H5.out.2.2.2.2.2.2.2.2.1, ((Out.ofNew (S := fun _ => False) hb6).cell (p := ⟨Y, 9, none⟩) l6 id).trans H5.out.2.2.2.2.2.2.2.2.2.1, ((Out.ofNew (S := fun _ => False) hb6).cell (p := ⟨Y, 10, none⟩) l6 id).trans H5.out.2.2.2.2.2.2.2.2.2.2⟩ : w6.cell? ⟨Y, 0, none⟩ = some (.int .i64 z0) ∧ w6.cell? ⟨Y, 1, none⟩ = some (.int .i64 z1) ∧ w6.cell? ⟨Y, 2, none⟩ = some (.int .i64 z2) ∧ w6.cell? ⟨Y, 3, none⟩ = some (.int .i64 z3) ∧ w6.cell? ⟨Y, 4, none⟩ = some (.int .i64 z4) ∧ w6.cell? ⟨Y, 5, none⟩ = some (.int .i64 z5) ∧ w6.cell? ⟨Y, 6, none⟩ = some (.slice zp6 zl6 zk6) ∧ w6.cell? ⟨Y, 7, none⟩ = some (.slice zp7 zl7 zk7) ∧ w6.cell? ⟨Y, 8, none⟩ = some (.int .i64 z8) ∧ w6.cell? ⟨Y, 9, none⟩ = some (.int .i64 z9) ∧ w6.cell? ⟨Y, 10, none⟩ = some (.string z10)); have A6 := Lib.hid (A5.out.step hb6); obtain ⟨m0, m1, m2, m3, m4, m5, m6, m7, m8, m9, m10⟩ := row11 A6.out.b8; obtain ⟨f0, f1, f2, f3, f4, f5, f6, f7, f8, f9, f10⟩ := frz11 A6.out.b8; have u6 := Nat.lt_of_lt_of_le l6 hb6.size; have u6' := Nat.lt_of_lt_of_le l6' hb6.size))
  all_goals
    have HX := Lib.hid hb6
    clear HRef HPr A0 B0 d0 d1 d2 d3 d4 d5 d6 d7 d8 d9 d10 nY nX eYZ lY lX hb6 hy H6 H5
    go_wp2_with fail
    have hOUT : Out (fun i => i = w.heap.size + 1 + 1) w6 (((((((((((w6.setCell ⟨w.heap.size + 1 + 1, 0, none⟩ (.int .i64 z0)).setCell ⟨w.heap.size + 1 + 1, 1, none⟩ (.int .i64 z1)).setCell ⟨w.heap.size + 1 + 1, 2, none⟩ (.int .i64 z2)).setCell ⟨w.heap.size + 1 + 1, 3, none⟩ (.int .i64 z3)).setCell ⟨w.heap.size + 1 + 1, 4, none⟩ (.int .i64 z4)).setCell ⟨w.heap.size + 1 + 1, 5, none⟩ (.int .i64 z5)).setCell ⟨w.heap.size + 1 + 1, 6, none⟩ (.slice zp6 zl6 zk6)).setCell ⟨w.heap.size + 1 + 1, 7, none⟩ (.slice zp7 zl7 zk7)).setCell ⟨w.heap.size + 1 + 1, 8, none⟩ (.int .i64 z8)).setCell ⟨w.heap.size + 1 + 1, 9, none⟩ (.int .i64 z9)).setCell ⟨w.heap.size + 1 + 1, 10, none⟩ (.string z10)) := out11 _ _ _ _ _ _ _ _ _ _ _ _ _
    have hROW : (((((((((((w6.setCell ⟨w.heap.size + 1 + 1, 0, none⟩ (.int .i64 z0)).setCell ⟨w.heap.size + 1 + 1, 1, none⟩ (.int .i64 z1)).setCell ⟨w.heap.size + 1 + 1, 2, none⟩ (.int .i64 z2)).setCell ⟨w.heap.size + 1 + 1, 3, none⟩ (.int .i64 z3)).setCell ⟨w.heap.size + 1 + 1, 4, none⟩ (.int .i64 z4)).setCell ⟨w.heap.size + 1 + 1, 5, none⟩ (.int .i64 z5)).setCell ⟨w.heap.size + 1 + 1, 6, none⟩ (.slice zp6 zl6 zk6)).setCell ⟨w.heap.size + 1 + 1, 7, none⟩ (.slice zp7 zl7 zk7)).setCell ⟨w.heap.size + 1 + 1, 8, none⟩ (.int .i64 z8)).setCell ⟨w.heap.size + 1 + 1, 9, none⟩ (.int .i64 z9)).setCell ⟨w.heap.size + 1 + 1, 10, none⟩ (.string z10)).heap[w.heap.size + 1 + 1]? = some (.cells #[.int .i64 z0, .int .i64 z1, .int .i64 z2, .int .i64 z3, .int .i64 z4, .int .i64 z5, .slice zp6 zl6 zk6, .slice zp7 zl7 zk7, .int .i64 z8, .int .i64 z9, .string z10] 32 (0, 0)) := set11 A6.out.b8 _ _ _ _ _ _ _ _ _ _ _
    clear m0 m1 m2 m3 m4 m5 m6 m7 m8 m9 m10 f0 f1 f2 f3 f4 f5 f6 f7 f8 f9 f10
    obtain ⟨m0, m1, m2, m3, m4, m5, m6, m7, m8, m9, m10⟩ := row11 hROW
    generalize (((((((((((w6.setCell ⟨w.heap.size + 1 + 1, 0, none⟩ (.int .i64 z0)).setCell ⟨w.heap.size + 1 + 1, 1, none⟩ (.int .i64 z1)).setCell ⟨w.heap.size + 1 + 1, 2, none⟩ (.int .i64 z2)).setCell ⟨w.heap.size + 1 + 1, 3, none⟩ (.int .i64 z3)).setCell ⟨w.heap.size + 1 + 1, 4, none⟩ (.int .i64 z4)).setCell ⟨w.heap.size + 1 + 1, 5, none⟩ (.int .i64 z5)).setCell ⟨w.heap.size + 1 + 1, 6, none⟩ (.slice zp6 zl6 zk6)).setCell ⟨w.heap.size + 1 + 1, 7, none⟩ (.slice zp7 zl7 zk7)).setCell ⟨w.heap.size + 1 + 1, 8, none⟩ (.int .i64 z8)).setCell ⟨w.heap.size + 1 + 1, 9, none⟩ (.int .i64 z9)).setCell ⟨w.heap.size + 1 + 1, 10, none⟩ (.string z10)) = WF at *
    refine bodyPost_ret (v := .tuple #[.agg #[.int .i64 z0, .int .i64 z1, .int .i64 z2, .int .i64 z3, .int .i64 z4, .int .i64 z5, .slice zp6 zl6 zk6, .slice zp7 zl7 zk7, .int .i64 z8, .int .i64 z9, .string z10], .bool true]) ?_ rfl ?_
    · simp [results, Tryz.results7, go_sem, m0, m1, m2, m3, m4, m5, m6, m7, m8, m9, m10]
    · exact do_fin HS.out A1.out.size B1.out M5.out T5.out HR1.out HX.out A6.out.b8 hOUT rfl
end Go.Proofs.YtnkhdpenmekhdaaGreat.Lin
end

section
namespace Go.Proofs.YtnkhdpenmekhdaaGreat.Lin
open Go.RowKit Go.Proofs.YtnkhdpenmekhdaaGreat.Own Go.Proofs.YtnkhdpenmekhdaaGreat.Brk Go.Proofs.YtnkhdpenmekhdaaGreat.Calc Go.Proofs.YtnkhdpenmekhdaaGreat.Tree Go.Proofs.YtnkhdpenmekhdaaGreat.Run Go.Proofs.YtnkhdpenmekhdaaGreat.Bkf

section
variable {OK : List Op → Option Addr → Nat → Prop} {x : Ln} {v : Value}
set_option maxRecDepth 100000 in
set_option maxHeartbeats 2000000 in
theorem rbreak_calls (now : Int) (ops : List Op) (m : Nat) (hm : ops.length = m) (hl : m ≤ 1000) (p : Option Addr) (c : Nat) (hops : OK ops p c) (w : World) (hOK : ∀ L p c, OK L p c → Ops w L p c) (h : Rf OK x v) : Calls Tryz.prog 31 #[v, .int .i64 now, .slice p m c] w fun e w' => ∃ v' u, e = .returned (.tuple #[v', u, .int .i64 (brkC x now ops)]) ∧ Rf OK (brkL x now ops) v' ∧ MineO w' w.heap.size u (brkO x now ops) ∧ Below w.heap.size w w' := by
  have HR := Lib.hid h
  obtain ⟨at_, pF, cF, pL, lL, cL, start, done, h⟩ := h
  obtain ⟨rfl, hf, hw, hr, hg, hi⟩ := h
  have HF := Lib.hid hf
  have HG := Lib.hid hg
  have HRUN := Lib.hid hr
  have HIDLE := Lib.hid hi
  have HOK := Lib.hid hOK
  clear hf hw hr hg hi hOK
  unfold lnC at *
  have HB := Lib.hid (late_calls now)
  have HOPS := Lib.hid hops
  have HMM := Lib.hid hm
  have hno : ∀ cd, brkC x now ops = cd → cd ≠ 0 → brkL x now ops = x ∧ brkO x now ops = [] := fun cd e h0 => ⟨by unfold brkL; rw [if_neg (by rw [e]; exact h0)], by unfold brkO; rw [if_neg (by rw [e]; exact h0)]⟩
  have hyes : brkC x now ops = 0 → brkL x now ops = goL (runs x 5 ops now) now ∧ brkO x now ops = goO (runs x 5 ops now) now := fun e => ⟨by unfold brkL; rw [if_pos e], by unfold brkO; rw [if_pos e]⟩
  clear hops hm
  by_cases h4 : x.st = 4
  · have t4 : (x.st == 4) = true := by simpa using h4
    have t4' : (x.st != 4) = false := by simp [h4]
    by_cases hn : bef now = true
    · have hC : brkC x now ops = chk now ops := by unfold brkC; rw [if_pos h4, if_pos hn]
      have hnb := bef_iff.1 hn
      rw [hn] at HB
      obtain ⟨cd, hcd⟩ : ∃ cd, chk now ops = cd := ⟨_, rfl⟩
      have HCD := Lib.hid hcd
      by_cases h0 : cd = 0
      · subst h0
        have HE := Lib.hid (And.intro (hC.trans hcd) (hyes (hC.trans hcd)))
        have HRF : Hid (Rf OK (runs x 5 ops now) (.agg #[.int .i64 x.b, .int .i64 x.c, .int .i64 x.j, .int .i64 5, .int .i64 x.n, .int .i64 at_, .slice pF x.F.length cF, .slice p m c, .int .i64 now, .int .i64 (now - 1), .string ⟨x.H.toArray⟩])) := Lib.hid ⟨at_, pF, cF, p, m, c, now, now - 1, rfl, HF.out, fun e => by have e : (5 : Int) = 1 := e; omega, fun _ => ⟨ops, HOPS.out, HMM.out, hl, hcd, rfl, rfl, rfl⟩, good_runs HG.out (.inr rfl) hcd (by rw [HMM.out]; exact hl), fun h => absurd (goes_runs (.inr rfl) _ _) h⟩
        clear hn hC hno hyes hcd h4
        go_enter Tryz.func31, Tryz.ntmps31
        go_wp2_with (go_at_call 50; refine (HB.out _).mono ?_; rintro e w' ⟨rfl, rfl⟩)
        have hAA := ((Below.refl w.heap.size w).alloc (Nat.le_refl _) (.cells #[.int .i64 x.b, .int .i64 x.c, .int .i64 x.j, .int .i64 x.st, .int .i64 x.n, .int .i64 at_, .slice pF x.F.length cF, .slice pL lL cL, .int .i64 start, .int .i64 done, .string ⟨x.H.toArray⟩] 32 (0, 0))).alloc (by simp) (.cells #[.int .i64 0, .int .i64 0, .int .i64 0, .int .i64 0, .int .i64 0, .int .i64 0, .slice none 0 0, .slice none 0 0, .int .i64 0, .int .i64 0, .string ⟨#[]⟩] 32 (0, 0))
        have hNN := at_old (w.alloc (.cells #[.int .i64 x.b, .int .i64 x.c, .int .i64 x.j, .int .i64 x.st, .int .i64 x.n, .int .i64 at_, .slice pF x.F.length cF, .slice pL lL cL, .int .i64 start, .int .i64 done, .string ⟨x.H.toArray⟩] 32 (0, 0))) (.cells #[.int .i64 0, .int .i64 0, .int .i64 0, .int .i64 0, .int .i64 0, .int .i64 0, .slice none 0 0, .slice none 0 0, .int .i64 0, .int .i64 0, .string ⟨#[]⟩] 32 (0, 0)) (at_new w (.cells #[.int .i64 x.b, .int .i64 x.c, .int .i64 x.j, .int .i64 x.st, .int .i64 x.n, .int .i64 at_, .slice pF x.F.length cF, .slice pL lL cL, .int .i64 start, .int .i64 done, .string ⟨x.H.toArray⟩] 32 (0, 0)))
        have hMM0 := at_newk (w.alloc (.cells #[.int .i64 x.b, .int .i64 x.c, .int .i64 x.j, .int .i64 x.st, .int .i64 x.n, .int .i64 at_, .slice pF x.F.length cF, .slice pL lL cL, .int .i64 start, .int .i64 done, .string ⟨x.H.toArray⟩] 32 (0, 0))) (.cells #[.int .i64 0, .int .i64 0, .int .i64 0, .int .i64 0, .int .i64 0, .int .i64 0, .slice none 0 0, .slice none 0 0, .int .i64 0, .int .i64 0, .string ⟨#[]⟩] 32 (0, 0)) (k := w.heap.size + 1) (by simp)
        have hSS : ((w.alloc (.cells #[.int .i64 x.b, .int .i64 x.c, .int .i64 x.j, .int .i64 x.st, .int .i64 x.n, .int .i64 at_, .slice pF x.F.length cF, .slice pL lL cL, .int .i64 start, .int .i64 done, .string ⟨x.H.toArray⟩] 32 (0, 0))).alloc (.cells #[.int .i64 0, .int .i64 0, .int .i64 0, .int .i64 0, .int .i64 0, .int .i64 0, .slice none 0 0, .slice none 0 0, .int .i64 0, .int .i64 0, .string ⟨#[]⟩] 32 (0, 0))).heap.size = w.heap.size + 1 + 1 := by simp
        generalize (w.alloc (.cells #[.int .i64 x.b, .int .i64 x.c, .int .i64 x.j, .int .i64 x.st, .int .i64 x.n, .int .i64 at_, .slice pF x.F.length cF, .slice pL lL cL, .int .i64 start, .int .i64 done, .string ⟨x.H.toArray⟩] 32)).alloc (.cells #[.int .i64 0, .int .i64 0, .int .i64 0, .int .i64 0, .int .i64 0, .int .i64 0, .slice none 0 0, .slice none 0 0, .int .i64 0, .int .i64 0, .string ⟨#[]⟩] 32) = W at *
        refine (Run.rcheck_calls ops m HMM.out now p c W ((HOK.out _ _ _ HOPS.out).below hAA)).mono ?_
        rintro e w4 ⟨rfl, hB4⟩
        rw [HCD.out]
        have hbx4 := (hB4.block _ (at_lt hNN)).trans hNN
        have hrs4 := (hB4.block _ (at_lt hMM0)).trans hMM0
        have HB4 := Lib.hid (hAA.trans (hB4.mono hAA.size))
        have HBX4 := Lib.hid hbx4
        have HRS4 := Lib.hid hrs4
        have hs4 : w.heap.size + 1 + 1 ≤ w4.heap.size := by have := hB4.size; omega
        obtain ⟨c0, c1, c2, c3, c4, c5, c6, c7, c8, c9, c10⟩ := row11 hbx4
        obtain ⟨f0, f1, f2, f3, f4, f5, f6, f7, f8, f9, f10⟩ := frz11 hbx4
        obtain ⟨r0, r1, r2, r3, r4, r5, r6, r7, r8, r9, r10⟩ := row11 hrs4
        obtain ⟨g0, g1, g2, g3, g4, g5, g6, g7, g8, g9, g10⟩ := frz11 hrs4
        clear hAA hMM0 hNN hB4 hbx4 hrs4 hSS
        go_wp2_with fail
        have hO6 : Out (fun i => i = w.heap.size) w4 ((((w4.setCell ⟨w.heap.size, 3, none⟩ (.int .i64 5)).setCell ⟨w.heap.size, 7, none⟩ (.slice p m c)).setCell ⟨w.heap.size, 8, none⟩ (.int .i64 now)).setCell ⟨w.heap.size, 9, none⟩ (.int .i64 (now - 1))) := ((((Out.refl (fun i => i = w.heap.size) w4).setCell (p := ⟨w.heap.size, 3, none⟩) (fun _ => rfl) _).setCell (p := ⟨w.heap.size, 7, none⟩) (fun _ => rfl) _).setCell (p := ⟨w.heap.size, 8, none⟩) (fun _ => rfl) _).setCell (p := ⟨w.heap.size, 9, none⟩) (fun _ => rfl) _
        have hMM := hO6.at_ HRS4.out (by omega)
        have hbx6 : ((((w4.setCell ⟨w.heap.size, 3, none⟩ (.int .i64 5)).setCell ⟨w.heap.size, 7, none⟩ (.slice p m c)).setCell ⟨w.heap.size, 8, none⟩ (.int .i64 now)).setCell ⟨w.heap.size, 9, none⟩ (.int .i64 (now - 1))).heap[w.heap.size]? = some (.cells #[.int .i64 x.b, .int .i64 x.c, .int .i64 x.j, .int .i64 5, .int .i64 x.n, .int .i64 at_, .slice pF x.F.length cF, .slice p m c, .int .i64 now, .int .i64 (now - 1), .string ⟨x.H.toArray⟩] 32 (0, 0)) := at_set (at_set (at_set (at_set HBX4.out 3 _) 7 _) 8 _) 9 _
        have hs6 : ((((w4.setCell ⟨w.heap.size, 3, none⟩ (.int .i64 5)).setCell ⟨w.heap.size, 7, none⟩ (.slice p m c)).setCell ⟨w.heap.size, 8, none⟩ (.int .i64 now)).setCell ⟨w.heap.size, 9, none⟩ (.int .i64 (now - 1))).heap.size = w4.heap.size := by simp [World.setCell]
        clear c0 c1 c2 c3 c4 c5 c6 c7 c8 c9 c10 f0 f1 f2 f3 f4 f5 f6 f7 f8 f9 f10 r0 r1 r2 r3 r4 r5 r6 r7 r8 r9 r10 g0 g1 g2 g3 g4 g5 g6 g7 g8 g9 g10
        generalize ((((w4.setCell ⟨w.heap.size, 3, none⟩ (.int .i64 5)).setCell ⟨w.heap.size, 7, none⟩ (.slice p m c)).setCell ⟨w.heap.size, 8, none⟩ (.int .i64 now)).setCell ⟨w.heap.size, 9, none⟩ (.int .i64 (now - 1))) = W6 at *
        have hAA := HB4.out.trans (hO6.below HB4.out.size fun i e => by omega)
        refine (rgoOn_calls now (goes_runs (.inr rfl) _ _) W6 (fun L p c h => (HOK.out L p c h).below hAA) HRF.out).mono ?_
        rintro e w5 ⟨v5, u5, rfl, hR5, hM5, hB5⟩
        obtain ⟨y, hy⟩ : ∃ y, goL (runs x 5 ops now) now = y := ⟨_, rfl⟩
        rw [hy] at hR5
        have HY := Lib.hid hy
        have HR5 := Lib.hid hR5
        obtain ⟨aty, pFy, cFy, pLy, lLy, cLy, sy, dy, hR5⟩ := hR5
        obtain ⟨rfl, -, -, -, -, -⟩ := hR5
        have HB5 := Lib.hid (hAA.trans (hB5.mono hAA.size))
        have hrs5 := (hB5.block _ (at_lt hMM)).trans hMM
        have HRS5 := Lib.hid hrs5
        have HM5 := Lib.hid hM5
        obtain ⟨r0, r1, r2, r3, r4, r5, r6, r7, r8, r9, r10⟩ := row11 hrs5
        obtain ⟨g0, g1, g2, g3, g4, g5, g6, g7, g8, g9, g10⟩ := frz11 hrs5
        have hs5 := hB5.size
        unfold lnC
        have hbx5 := (hB5.block _ (at_lt hbx6)).trans hbx6
        have HBX5 := Lib.hid hbx5
        obtain ⟨c0, c1, c2, c3, c4, c5, c6, c7, c8, c9, c10⟩ := row11 hbx5
        obtain ⟨f0, f1, f2, f3, f4, f5, f6, f7, f8, f9, f10⟩ := frz11 hbx5
        clear hAA hMM hB5 hrs5 hy hM5 hbx5 hbx6
        go_wp2_with fail
        have hO8 : Out (fun i => i = w.heap.size) w5 (((((((((((w5.setCell ⟨w.heap.size, 0, none⟩ (.int .i64 y.b)).setCell ⟨w.heap.size, 1, none⟩ (.int .i64 y.c)).setCell ⟨w.heap.size, 2, none⟩ (.int .i64 y.j)).setCell ⟨w.heap.size, 3, none⟩ (.int .i64 y.st)).setCell ⟨w.heap.size, 4, none⟩ (.int .i64 y.n)).setCell ⟨w.heap.size, 5, none⟩ (.int .i64 aty)).setCell ⟨w.heap.size, 6, none⟩ (.slice pFy y.F.length cFy)).setCell ⟨w.heap.size, 7, none⟩ (.slice pLy lLy cLy)).setCell ⟨w.heap.size, 8, none⟩ (.int .i64 sy)).setCell ⟨w.heap.size, 9, none⟩ (.int .i64 dy)).setCell ⟨w.heap.size, 10, none⟩ (.string ⟨y.H.toArray⟩)) := out11 _ _ _ _ _ _ _ _ _ _ _ _ _
        have hRS8 := hO8.at_ HRS5.out (by omega)
        generalize (((((((((((w5.setCell ⟨w.heap.size, 0, none⟩ (.int .i64 y.b)).setCell ⟨w.heap.size, 1, none⟩ (.int .i64 y.c)).setCell ⟨w.heap.size, 2, none⟩ (.int .i64 y.j)).setCell ⟨w.heap.size, 3, none⟩ (.int .i64 y.st)).setCell ⟨w.heap.size, 4, none⟩ (.int .i64 y.n)).setCell ⟨w.heap.size, 5, none⟩ (.int .i64 aty)).setCell ⟨w.heap.size, 6, none⟩ (.slice pFy y.F.length cFy)).setCell ⟨w.heap.size, 7, none⟩ (.slice pLy lLy cLy)).setCell ⟨w.heap.size, 8, none⟩ (.int .i64 sy)).setCell ⟨w.heap.size, 9, none⟩ (.int .i64 dy)).setCell ⟨w.heap.size, 10, none⟩ (.string ⟨y.H.toArray⟩)) = W7 at *
        have hOUT : Out (fun i => i = w.heap.size + 1) W7 (((((((((((W7.setCell ⟨w.heap.size + 1, 0, none⟩ (.int .i64 y.b)).setCell ⟨w.heap.size + 1, 1, none⟩ (.int .i64 y.c)).setCell ⟨w.heap.size + 1, 2, none⟩ (.int .i64 y.j)).setCell ⟨w.heap.size + 1, 3, none⟩ (.int .i64 y.st)).setCell ⟨w.heap.size + 1, 4, none⟩ (.int .i64 y.n)).setCell ⟨w.heap.size + 1, 5, none⟩ (.int .i64 aty)).setCell ⟨w.heap.size + 1, 6, none⟩ (.slice pFy y.F.length cFy)).setCell ⟨w.heap.size + 1, 7, none⟩ (.slice pLy lLy cLy)).setCell ⟨w.heap.size + 1, 8, none⟩ (.int .i64 sy)).setCell ⟨w.heap.size + 1, 9, none⟩ (.int .i64 dy)).setCell ⟨w.heap.size + 1, 10, none⟩ (.string ⟨y.H.toArray⟩)) := out11 _ _ _ _ _ _ _ _ _ _ _ _ _
        have hROW : (((((((((((W7.setCell ⟨w.heap.size + 1, 0, none⟩ (.int .i64 y.b)).setCell ⟨w.heap.size + 1, 1, none⟩ (.int .i64 y.c)).setCell ⟨w.heap.size + 1, 2, none⟩ (.int .i64 y.j)).setCell ⟨w.heap.size + 1, 3, none⟩ (.int .i64 y.st)).setCell ⟨w.heap.size + 1, 4, none⟩ (.int .i64 y.n)).setCell ⟨w.heap.size + 1, 5, none⟩ (.int .i64 aty)).setCell ⟨w.heap.size + 1, 6, none⟩ (.slice pFy y.F.length cFy)).setCell ⟨w.heap.size + 1, 7, none⟩ (.slice pLy lLy cLy)).setCell ⟨w.heap.size + 1, 8, none⟩ (.int .i64 sy)).setCell ⟨w.heap.size + 1, 9, none⟩ (.int .i64 dy)).setCell ⟨w.heap.size + 1, 10, none⟩ (.string ⟨y.H.toArray⟩)).heap[w.heap.size + 1]? = some (.cells #[.int .i64 y.b, .int .i64 y.c, .int .i64 y.j, .int .i64 y.st, .int .i64 y.n, .int .i64 aty, .slice pFy y.F.length cFy, .slice pLy lLy cLy, .int .i64 sy, .int .i64 dy, .string ⟨y.H.toArray⟩] 32 (0, 0)) := set11 hRS8 _ _ _ _ _ _ _ _ _ _ _
        obtain ⟨k0, k1, k2, k3, k4, k5, k6, k7, k8, k9, k10⟩ := row11 hROW
        generalize (((((((((((W7.setCell ⟨w.heap.size + 1, 0, none⟩ (.int .i64 y.b)).setCell ⟨w.heap.size + 1, 1, none⟩ (.int .i64 y.c)).setCell ⟨w.heap.size + 1, 2, none⟩ (.int .i64 y.j)).setCell ⟨w.heap.size + 1, 3, none⟩ (.int .i64 y.st)).setCell ⟨w.heap.size + 1, 4, none⟩ (.int .i64 y.n)).setCell ⟨w.heap.size + 1, 5, none⟩ (.int .i64 aty)).setCell ⟨w.heap.size + 1, 6, none⟩ (.slice pFy y.F.length cFy)).setCell ⟨w.heap.size + 1, 7, none⟩ (.slice pLy lLy cLy)).setCell ⟨w.heap.size + 1, 8, none⟩ (.int .i64 sy)).setCell ⟨w.heap.size + 1, 9, none⟩ (.int .i64 dy)).setCell ⟨w.heap.size + 1, 10, none⟩ (.string ⟨y.H.toArray⟩)) = WF at *
        refine bodyPost_ret (v := .tuple #[.agg #[.int .i64 y.b, .int .i64 y.c, .int .i64 y.j, .int .i64 y.st, .int .i64 y.n, .int .i64 aty, .slice pFy y.F.length cFy, .slice pLy lLy cLy, .int .i64 sy, .int .i64 dy, .string ⟨y.H.toArray⟩], u5, .int .i64 0]) ?_ rfl ?_
        · simp [results, Tryz.results31, go_sem, k0, k1, k2, k3, k4, k5, k6, k7, k8, k9, k10]
        have h1 := own_out (own2_base HM5.out (show w.heap.size ≤ W6.heap.size by omega)) hO8 fun g hg e => by have := (own_lt HM5.out hg).1; omega
        have := own_out h1 hOUT fun g hg e => by have := (own_lt HM5.out hg).1; omega
        have hO9 : Out (fun i => i = w.heap.size ∨ i = w.heap.size + 1) w5 WF := (hO8.mono fun _ _ e => .inl e).trans (hOUT.mono fun _ _ e => .inr e) fun _ _ h => h
        exact ⟨_, _, by rw [HE.out.1], by rw [HE.out.2.1, HY.out]; exact HR5.out, by rw [HE.out.2.2]; exact this, HB5.out.trans (hO9.below HB5.out.size fun i e => by omega)⟩
      · have HE := Lib.hid (And.intro (hC.trans hcd) (hno _ (hC.trans hcd) h0))
        have h0b : (cd == 0) = false := by simpa using h0
        clear hn hC hno hyes hcd h4 h0
        go_enter Tryz.func31, Tryz.ntmps31
        go_wp2_with (go_at_call 50; refine (HB.out _).mono ?_; rintro e w' ⟨rfl, rfl⟩)
        have hAA := ((Below.refl w.heap.size w).alloc (Nat.le_refl _) (.cells #[.int .i64 x.b, .int .i64 x.c, .int .i64 x.j, .int .i64 x.st, .int .i64 x.n, .int .i64 at_, .slice pF x.F.length cF, .slice pL lL cL, .int .i64 start, .int .i64 done, .string ⟨x.H.toArray⟩] 32 (0, 0))).alloc (by simp) (.cells #[.int .i64 0, .int .i64 0, .int .i64 0, .int .i64 0, .int .i64 0, .int .i64 0, .slice none 0 0, .slice none 0 0, .int .i64 0, .int .i64 0, .string ⟨#[]⟩] 32 (0, 0))
        have hNN := at_old (w.alloc (.cells #[.int .i64 x.b, .int .i64 x.c, .int .i64 x.j, .int .i64 x.st, .int .i64 x.n, .int .i64 at_, .slice pF x.F.length cF, .slice pL lL cL, .int .i64 start, .int .i64 done, .string ⟨x.H.toArray⟩] 32 (0, 0))) (.cells #[.int .i64 0, .int .i64 0, .int .i64 0, .int .i64 0, .int .i64 0, .int .i64 0, .slice none 0 0, .slice none 0 0, .int .i64 0, .int .i64 0, .string ⟨#[]⟩] 32 (0, 0)) (at_new w (.cells #[.int .i64 x.b, .int .i64 x.c, .int .i64 x.j, .int .i64 x.st, .int .i64 x.n, .int .i64 at_, .slice pF x.F.length cF, .slice pL lL cL, .int .i64 start, .int .i64 done, .string ⟨x.H.toArray⟩] 32 (0, 0)))
        have hMM0 := at_newk (w.alloc (.cells #[.int .i64 x.b, .int .i64 x.c, .int .i64 x.j, .int .i64 x.st, .int .i64 x.n, .int .i64 at_, .slice pF x.F.length cF, .slice pL lL cL, .int .i64 start, .int .i64 done, .string ⟨x.H.toArray⟩] 32 (0, 0))) (.cells #[.int .i64 0, .int .i64 0, .int .i64 0, .int .i64 0, .int .i64 0, .int .i64 0, .slice none 0 0, .slice none 0 0, .int .i64 0, .int .i64 0, .string ⟨#[]⟩] 32 (0, 0)) (k := w.heap.size + 1) (by simp)
        have hSS : ((w.alloc (.cells #[.int .i64 x.b, .int .i64 x.c, .int .i64 x.j, .int .i64 x.st, .int .i64 x.n, .int .i64 at_, .slice pF x.F.length cF, .slice pL lL cL, .int .i64 start, .int .i64 done, .string ⟨x.H.toArray⟩] 32 (0, 0))).alloc (.cells #[.int .i64 0, .int .i64 0, .int .i64 0, .int .i64 0, .int .i64 0, .int .i64 0, .slice none 0 0, .slice none 0 0, .int .i64 0, .int .i64 0, .string ⟨#[]⟩] 32 (0, 0))).heap.size = w.heap.size + 1 + 1 := by simp
        generalize (w.alloc (.cells #[.int .i64 x.b, .int .i64 x.c, .int .i64 x.j, .int .i64 x.st, .int .i64 x.n, .int .i64 at_, .slice pF x.F.length cF, .slice pL lL cL, .int .i64 start, .int .i64 done, .string ⟨x.H.toArray⟩] 32)).alloc (.cells #[.int .i64 0, .int .i64 0, .int .i64 0, .int .i64 0, .int .i64 0, .int .i64 0, .slice none 0 0, .slice none 0 0, .int .i64 0, .int .i64 0, .string ⟨#[]⟩] 32) = W at *
        refine (Run.rcheck_calls ops m HMM.out now p c W ((HOK.out _ _ _ HOPS.out).below hAA)).mono ?_
        rintro e w4 ⟨rfl, hB4⟩
        rw [HCD.out]
        have hbx4 := (hB4.block _ (at_lt hNN)).trans hNN
        have hrs4 := (hB4.block _ (at_lt hMM0)).trans hMM0
        have HB4 := Lib.hid (hAA.trans (hB4.mono hAA.size))
        have HBX4 := Lib.hid hbx4
        have HRS4 := Lib.hid hrs4
        have hs4 : w.heap.size + 1 + 1 ≤ w4.heap.size := by have := hB4.size; omega
        obtain ⟨c0, c1, c2, c3, c4, c5, c6, c7, c8, c9, c10⟩ := row11 hbx4
        obtain ⟨f0, f1, f2, f3, f4, f5, f6, f7, f8, f9, f10⟩ := frz11 hbx4
        obtain ⟨r0, r1, r2, r3, r4, r5, r6, r7, r8, r9, r10⟩ := row11 hrs4
        obtain ⟨g0, g1, g2, g3, g4, g5, g6, g7, g8, g9, g10⟩ := frz11 hrs4
        clear hAA hMM0 hNN hB4 hbx4 hrs4 hSS
        go_wp2_with fail
        have hOUT : Out (fun i => i = w.heap.size + 1) w4 (((((((((((w4.setCell ⟨w.heap.size + 1, 0, none⟩ (.int .i64 x.b)).setCell ⟨w.heap.size + 1, 1, none⟩ (.int .i64 x.c)).setCell ⟨w.heap.size + 1, 2, none⟩ (.int .i64 x.j)).setCell ⟨w.heap.size + 1, 3, none⟩ (.int .i64 x.st)).setCell ⟨w.heap.size + 1, 4, none⟩ (.int .i64 x.n)).setCell ⟨w.heap.size + 1, 5, none⟩ (.int .i64 at_)).setCell ⟨w.heap.size + 1, 6, none⟩ (.slice pF x.F.length cF)).setCell ⟨w.heap.size + 1, 7, none⟩ (.slice pL lL cL)).setCell ⟨w.heap.size + 1, 8, none⟩ (.int .i64 start)).setCell ⟨w.heap.size + 1, 9, none⟩ (.int .i64 done)).setCell ⟨w.heap.size + 1, 10, none⟩ (.string ⟨x.H.toArray⟩)) := out11 _ _ _ _ _ _ _ _ _ _ _ _ _
        have hROW : (((((((((((w4.setCell ⟨w.heap.size + 1, 0, none⟩ (.int .i64 x.b)).setCell ⟨w.heap.size + 1, 1, none⟩ (.int .i64 x.c)).setCell ⟨w.heap.size + 1, 2, none⟩ (.int .i64 x.j)).setCell ⟨w.heap.size + 1, 3, none⟩ (.int .i64 x.st)).setCell ⟨w.heap.size + 1, 4, none⟩ (.int .i64 x.n)).setCell ⟨w.heap.size + 1, 5, none⟩ (.int .i64 at_)).setCell ⟨w.heap.size + 1, 6, none⟩ (.slice pF x.F.length cF)).setCell ⟨w.heap.size + 1, 7, none⟩ (.slice pL lL cL)).setCell ⟨w.heap.size + 1, 8, none⟩ (.int .i64 start)).setCell ⟨w.heap.size + 1, 9, none⟩ (.int .i64 done)).setCell ⟨w.heap.size + 1, 10, none⟩ (.string ⟨x.H.toArray⟩)).heap[w.heap.size + 1]? = some (.cells #[.int .i64 x.b, .int .i64 x.c, .int .i64 x.j, .int .i64 x.st, .int .i64 x.n, .int .i64 at_, .slice pF x.F.length cF, .slice pL lL cL, .int .i64 start, .int .i64 done, .string ⟨x.H.toArray⟩] 32 (0, 0)) := set11 HRS4.out _ _ _ _ _ _ _ _ _ _ _
        obtain ⟨k0, k1, k2, k3, k4, k5, k6, k7, k8, k9, k10⟩ := row11 hROW
        generalize (((((((((((w4.setCell ⟨w.heap.size + 1, 0, none⟩ (.int .i64 x.b)).setCell ⟨w.heap.size + 1, 1, none⟩ (.int .i64 x.c)).setCell ⟨w.heap.size + 1, 2, none⟩ (.int .i64 x.j)).setCell ⟨w.heap.size + 1, 3, none⟩ (.int .i64 x.st)).setCell ⟨w.heap.size + 1, 4, none⟩ (.int .i64 x.n)).setCell ⟨w.heap.size + 1, 5, none⟩ (.int .i64 at_)).setCell ⟨w.heap.size + 1, 6, none⟩ (.slice pF x.F.length cF)).setCell ⟨w.heap.size + 1, 7, none⟩ (.slice pL lL cL)).setCell ⟨w.heap.size + 1, 8, none⟩ (.int .i64 start)).setCell ⟨w.heap.size + 1, 9, none⟩ (.int .i64 done)).setCell ⟨w.heap.size + 1, 10, none⟩ (.string ⟨x.H.toArray⟩)) = WF at *
        refine bodyPost_ret (v := .tuple #[.agg #[.int .i64 x.b, .int .i64 x.c, .int .i64 x.j, .int .i64 x.st, .int .i64 x.n, .int .i64 at_, .slice pF x.F.length cF, .slice pL lL cL, .int .i64 start, .int .i64 done, .string ⟨x.H.toArray⟩], .slice none 0 0, .int .i64 cd]) ?_ rfl ?_
        · simp [results, Tryz.results31, go_sem, k0, k1, k2, k3, k4, k5, k6, k7, k8, k9, k10]
        exact ⟨_, _, by rw [HE.out.1], by rw [HE.out.2.1]; exact HR.out, by rw [HE.out.2.2]; exact mineO_nil _ _, HB4.out.trans (hOUT.below HB4.out.size fun i e => by omega)⟩
    · have hn2 : bef now = false := by simpa using hn
      have hC : brkC x now ops = 1 := by unfold brkC; rw [if_pos h4, if_neg hn]
      have HE := Lib.hid (And.intro hC (hno _ hC (by omega)))
      rw [hn2] at HB
      clear h4 hn hn2 hC hno hyes
      go_enter Tryz.func31, Tryz.ntmps31
      go_wp2_with (go_at_call 50; refine (HB.out _).mono ?_; rintro e w' ⟨rfl, rfl⟩)
      refine bodyPost_ret (v := .tuple #[.agg #[.int .i64 x.b, .int .i64 x.c, .int .i64 x.j, .int .i64 x.st, .int .i64 x.n, .int .i64 at_, .slice pF x.F.length cF, .slice pL lL cL, .int .i64 start, .int .i64 done, .string ⟨x.H.toArray⟩], .slice none 0 0, .int .i64 1]) ?_ rfl ⟨_, _, by rw [HE.out.1], by rw [HE.out.2.1]; exact HR.out, by rw [HE.out.2.2]; exact mineO_nil _ _, ((Below.refl _ _).alloc (Nat.le_refl _) _).alloc (by simp) _⟩
      simp [results, Tryz.results31, go_sem]
  · have hC : brkC x now ops = 9 := by unfold brkC; rw [if_neg h4]
    have HE := Lib.hid (And.intro hC (hno _ hC (by omega)))
    have t4 : (x.st == 4) = false := by simpa using h4
    have t4' : (x.st != 4) = true := by simp [h4]
    clear h4 hC hno hyes
    go_enter Tryz.func31, Tryz.ntmps31
    go_wp2_with (go_at_call 50; refine (HB.out _).mono ?_; rintro e w' ⟨rfl, rfl⟩)
    refine bodyPost_ret (v := .tuple #[.agg #[.int .i64 x.b, .int .i64 x.c, .int .i64 x.j, .int .i64 x.st, .int .i64 x.n, .int .i64 at_, .slice pF x.F.length cF, .slice pL lL cL, .int .i64 start, .int .i64 done, .string ⟨x.H.toArray⟩], .slice none 0 0, .int .i64 9]) ?_ rfl ⟨_, _, by rw [HE.out.1], by rw [HE.out.2.1]; exact HR.out, by rw [HE.out.2.2]; exact mineO_nil _ _, ((Below.refl _ _).alloc (Nat.le_refl _) _).alloc (by simp) _⟩
    simp [results, Tryz.results31, go_sem]
end
end Go.Proofs.YtnkhdpenmekhdaaGreat.Lin
end

section
namespace Go.Proofs.YtnkhdpenmekhdaaGreat.Lin
open Go.RowKit Go.Proofs.YtnkhdpenmekhdaaGreat.Own Go.Proofs.YtnkhdpenmekhdaaGreat.Brk Go.Proofs.YtnkhdpenmekhdaaGreat.Calc Go.Proofs.YtnkhdpenmekhdaaGreat.Tree Go.Proofs.YtnkhdpenmekhdaaGreat.Run Go.Proofs.YtnkhdpenmekhdaaGreat.Bkf

set_option maxRecDepth 100000 in
set_option maxHeartbeats 8000000 in
theorem do_brk {w : World} {S : Nat → Prop} {k : Nat} {x : Ln} {v : Value} (P : Pr w S k x v) (kk g r now : Int) (ok : Bool) (s : List UInt8) (q : Option Addr) (m cq : Nat) (h0 : 0 ≤ kk) (h1 : kk ≤ 255) (hk : kk % 10 = 9) (L : List Op) (hL : L.length = m) (hm : m ≤ 1000) (hops : OKS S w L q cq)  :
    Calls Tryz.prog 7 #[.pointer (some ⟨k, 0, none⟩), v, .agg #[.int .u8 kk, .int .u8 g, .bool ok, .int .i64 r, .string ⟨s.toArray⟩, .slice q m cq], .int .i64 now] w (DoPost w S k (brkL x now L)) := by
  have hRf := P.rf
  obtain ⟨x0, x1, x2, x3, x4, x5, xp6, xl6, xk6, xp7, xl7, xk7, x8, x9, x10, rfl⟩ := hRf.cells
  have hS := P.mem.lt
  have HS := Lib.hid hS
  obtain ⟨bt, hbt⟩ : ∃ b, brkC x now L = b := ⟨_, rfl⟩
  obtain ⟨Yl, hY⟩ : ∃ y, brkL x now L = y := ⟨_, rfl⟩
  obtain ⟨O, hO⟩ : ∃ y, brkO x now L = y := ⟨_, rfl⟩
  obtain ⟨n, hn⟩ : ∃ y, O.length = y := ⟨_, rfl⟩
  have HN := Lib.hid hn
  have HM := Lib.hid (fun W (hW : Below w.heap.size w W) => P.mem.below hW)
  have hOK : ∀ W, Below w.heap.size w W → ∀ L p c, OKS S w L p c → Ops W L p c := fun W hW L p c h => h W (Out.ofNew hW)
  have HRef : Hid (∀ W, Below w.heap.size w W → Calls Tryz.prog 31 #[.agg #[.int .i64 x0, .int .i64 x1, .int .i64 x2, .int .i64 x3, .int .i64 x4, .int .i64 x5, .slice xp6 xl6 xk6, .slice xp7 xl7 xk7, .int .i64 x8, .int .i64 x9, .string x10], .int .i64 now, .slice q m cq] W fun e w' => ∃ z0 z1 z2 z3 z4 z5 zp6 zl6 zk6 zp7 zl7 zk7 z8 z9 z10 p c, e = .returned (.tuple #[.agg #[.int .i64 z0, .int .i64 z1, .int .i64 z2, .int .i64 z3, .int .i64 z4, .int .i64 z5, .slice zp6 zl6 zk6, .slice zp7 zl7 zk7, .int .i64 z8, .int .i64 z9, .string z10], .slice p n c, .int .i64 bt]) ∧ Rf (OKS S w) Yl (.agg #[.int .i64 z0, .int .i64 z1, .int .i64 z2, .int .i64 z3, .int .i64 z4, .int .i64 z5, .slice zp6 zl6 zk6, .slice zp7 zl7 zk7, .int .i64 z8, .int .i64 z9, .string z10]) ∧ Below W.heap.size W w' ∧ ∀ V, Out S w' V → Outs V O p c) := Lib.hid fun W hW => by
    refine (rbreak_calls now L m hL hm q cq hops W (hOK W hW) P.rf).mono fun e w' he => ?_
    rw [hY, hO, hbt] at he
    exact ref_post3 (fun i hi => Nat.lt_of_lt_of_le (hS i hi) hW.size) hn he
  have HPr : Hid (∀ W, Below w.heap.size w W → Mem W k S x → Calls Tryz.prog 17 #[.pointer (some ⟨k, 0, none⟩), .int .i64 now, .slice q m cq] W fun e w' => ∃ S' p c, e = .returned (.tuple #[.slice p n c, .int .i64 bt]) ∧ Mem w' k S' Yl ∧ Step S W S' w' ∧ ∀ V, Out S' w' V → Outs V O p c) := Lib.hid fun W hWb hW => by
    refine (break_calls now L m hL hm q cq (hops W (Out.ofNew hWb)) hW).mono fun e w' he => ?_
    rw [hY, hO, hbt] at he
    obtain ⟨v5, rfl, he⟩ := he
    obtain ⟨S', p, c, e5, h5, h6, h7⟩ := prog_post HN.out he
    injection e5 with e5
    subst e5
    exact ⟨S', p, c, rfl, h5, h6, h7⟩
  have A0 := Lib.hid (DoB.start w #[.int .i64 x0, .int .i64 x1, .int .i64 x2, .int .i64 x3, .int .i64 x4, .int .i64 x5, .slice xp6 xl6 xk6, .slice xp7 xl7 xk7, .int .i64 x8, .int .i64 x9, .string x10] #[.int .u8 kk, .int .u8 g, .bool ok, .int .i64 r, .string ⟨s.toArray⟩, .slice q m cq])
  have B0 := Lib.hid (start3 w #[.int .i64 x0, .int .i64 x1, .int .i64 x2, .int .i64 x3, .int .i64 x4, .int .i64 x5, .slice xp6 xl6 xk6, .slice xp7 xl7 xk7, .int .i64 x8, .int .i64 x9, .string x10] #[.int .u8 kk, .int .u8 g, .bool ok, .int .i64 r, .string ⟨s.toArray⟩, .slice q m cq])
  rw [hY]
  clear P hRf hY hO hn hS hOK hbt hL hops
  go_enter Tryz.func7, Tryz.ntmps7
  go_wp2_with fail
  refine (HRef.out _ B0.out).mono ?_
  rintro e w1 ⟨z0, z1, z2, z3, z4, z5, zp6, zl6, zk6, zp7, zl7, zk7, z8, z9, z10, p', c', rfl, hR1, hb1, hU1⟩
  have HR1 := Lib.hid hR1
  have HU1 := Lib.hid hU1
  have A1 := Lib.hid ((A0.out.step hb1).step ((Below.refl _ w1).alloc (Nat.le_refl _) (.cells #[.int .i64 z0, .int .i64 z1, .int .i64 z2, .int .i64 z3, .int .i64 z4, .int .i64 z5, .slice zp6 zl6 zk6, .slice zp7 zl7 zk7, .int .i64 z8, .int .i64 z9, .string z10] 32 (0, 0))))
  have B1 := Lib.hid ((B0.out.trans (hb1.mono B0.out.size)).alloc (Nat.le_trans B0.out.size hb1.size) (.cells #[.int .i64 z0, .int .i64 z1, .int .i64 z2, .int .i64 z3, .int .i64 z4, .int .i64 z5, .slice zp6 zl6 zk6, .slice zp7 zl7 zk7, .int .i64 z8, .int .i64 z9, .string z10] 32 (0, 0)))
  have hy := at_new w1 (.cells #[.int .i64 z0, .int .i64 z1, .int .i64 z2, .int .i64 z3, .int .i64 z4, .int .i64 z5, .slice zp6 zl6 zk6, .slice zp7 zl7 zk7, .int .i64 z8, .int .i64 z9, .string z10] 32 (0, 0))
  have hz1 := Lib.hid (show w.heap.size + 2 < w1.heap.size from (A0.out.step hb1).size)
  have hb2 := Lib.hid ((Below.refl _ w1).alloc (Nat.le_refl _) (.cells #[.int .i64 z0, .int .i64 z1, .int .i64 z2, .int .i64 z3, .int .i64 z4, .int .i64 z5, .slice zp6 zl6 zk6, .slice zp7 zl7 zk7, .int .i64 z8, .int .i64 z9, .string z10] 32 (0, 0)))
  have hz2 : w.heap.size + 1 < w1.heap.size := by have := hz1.out; omega
  have o5 := (at_cell (A0.out.step hb1).b6 5 : _ = some _)
  have qb : (bt == bt) = true := by simp
  clear hR1 hb1 hU1
  go_wp2_with fail
  obtain ⟨Y, hY⟩ : ∃ Y, w1.heap.size = Y := ⟨_, rfl⟩
  rw [hY] at hy ⊢
  obtain ⟨W2, hW2⟩ : ∃ W, w1.alloc (.cells #[.int .i64 z0, .int .i64 z1, .int .i64 z2, .int .i64 z3, .int .i64 z4, .int .i64 z5, .slice zp6 zl6 zk6, .slice zp7 zl7 zk7, .int .i64 z8, .int .i64 z9, .string z10] 32 (0, 0)) = W := ⟨_, rfl⟩
  rw [hW2] at A1 B1 hy hb2 ⊢
  have HYY := Lib.hid hY
  clear hW2 hY
  obtain ⟨d0, d1, d2, d3, d4, d5, d6, d7, d8, d9, d10⟩ := row11 hy
  have lY := at_lt hy
  have lX : w.heap.size + 1 < W2.heap.size := by have := A1.out.size; omega
  have nY : ¬ S Y := fun hk => by have := HS.out _ hk; have := hz1.out; have := HYY.out; omega
  have nX : ¬ S (w.heap.size + 1) := fun hk => by have := HS.out _ hk; omega
  have eYZ : Y ≠ w.heap.size + 1 + 1 := by have := hz1.out; have := HYY.out; omega
  refine (HPr.out _ (by first | exact B1.out | exact Brk.below_drew B1.out) (HM.out _ (by first | exact B1.out | exact Brk.below_drew B1.out))).mono ?_; rintro e w5 ⟨S5, p5, c5, rfl, M5, T5, U5⟩; replace T5 : Hid (Step S W2 S5 w5) := Lib.hid ⟨⟨T5.out.os, T5.out.tape, T5.out.output, T5.out.size, T5.out.block⟩, T5.new⟩; have O5 := Lib.hid T5.out.out; have HU5 : Hid (∀ V, Below w5.heap.size w5 V → Outs V O p5 c5 ∧ Outs V O p' c') := Lib.hid fun V hV => ⟨U5 V (Out.ofNew hV), HU1.out V (((Out.ofNew (S := S) hb2.out).trans O5.out fun _ _ h => h).trans (Out.ofNew (S := S) hV) fun _ _ h => h)⟩; have H5 := Lib.hid (⟨(O5.out.cell (p := ⟨Y, 0, none⟩) lY nY).trans d0, (O5.out.cell (p := ⟨Y, 1, none⟩) lY nY).trans d1, (O5.out.cell (p := ⟨Y, 2, none⟩) lY nY).trans d2, (O5.out.cell (p := ⟨Y, 3, none⟩) lY nY).trans d3, (O5.out.cell (p := ⟨Y, 4, none⟩) lY nY).trans d4, (O5.out.cell (p := ⟨Y, 5, none⟩) lY nY).trans d5, (O5.out.cell (p := ⟨Y, 6, none⟩) lY nY).trans d6, (O5.out.cell (p := ⟨Y, 7, none⟩) lY nY).trans d7, (O5.out.cell (p := ⟨Y, 8, none⟩) lY nY).trans d8, (O5.out.cell (p := ⟨Y, 9, none⟩) lY nY).trans d9, (O5.out.cell (p := ⟨Y, 10, none⟩) lY nY).trans d10⟩ : w5.cell? ⟨Y, 0, none⟩ = some (.int .i64 z0) ∧ w5.cell? ⟨Y, 1, none⟩ = some (.int .i64 z1) ∧ w5.cell? ⟨Y, 2, none⟩ = some (.int .i64 z2) ∧ w5.cell? ⟨Y, 3, none⟩ = some (.int .i64 z3) ∧ w5.cell? ⟨Y, 4, none⟩ = some (.int .i64 z4) ∧ w5.cell? ⟨Y, 5, none⟩ = some (.int .i64 z5) ∧ w5.cell? ⟨Y, 6, none⟩ = some (.slice zp6 zl6 zk6) ∧ w5.cell? ⟨Y, 7, none⟩ = some (.slice zp7 zl7 zk7) ∧ w5.cell? ⟨Y, 8, none⟩ = some (.int .i64 z8) ∧ w5.cell? ⟨Y, 9, none⟩ = some (.int .i64 z9) ∧ w5.cell? ⟨Y, 10, none⟩ = some (.string z10)); have l6 := Nat.lt_of_lt_of_le lY O5.out.size; have l6' := Nat.lt_of_lt_of_le lX O5.out.size; have A5 := Lib.hid (A1.out.out O5.out HS.out); replace M5 := Lib.hid M5; clear U5
  clear d0 d1 d2 d3 d4 d5 d6 d7 d8 d9 d10
  obtain ⟨d0, d1, d2, d3, d4, d5, d6, d7, d8, d9, d10⟩ := H5.out
  go_wp2_with fail
  go_region_held3 (fun w' => w'.cell? ⟨Y, 0, none⟩ = some (.int .i64 z0) ∧ w'.cell? ⟨Y, 1, none⟩ = some (.int .i64 z1) ∧ w'.cell? ⟨Y, 2, none⟩ = some (.int .i64 z2) ∧ w'.cell? ⟨Y, 3, none⟩ = some (.int .i64 z3) ∧ w'.cell? ⟨Y, 4, none⟩ = some (.int .i64 z4) ∧ w'.cell? ⟨Y, 5, none⟩ = some (.int .i64 z5) ∧ w'.cell? ⟨Y, 6, none⟩ = some (.slice zp6 zl6 zk6) ∧ w'.cell? ⟨Y, 7, none⟩ = some (.slice zp7 zl7 zk7) ∧ w'.cell? ⟨Y, 8, none⟩ = some (.int .i64 z8) ∧ w'.cell? ⟨Y, 9, none⟩ = some (.int .i64 z9) ∧ w'.cell? ⟨Y, 10, none⟩ = some (.string z10))
    (first
      | with_reducible exact H5.out
      | with_reducible exact H6.out
      | with_reducible exact ⟨((out_drew1 w5).cell (p := ⟨Y, 0, none⟩) l6 id).trans H5.out.1, ((out_drew1 w5).cell (p := ⟨Y, 1, none⟩) l6 id).trans H5.out.2.1, ((out_drew1 w5).cell (p := ⟨Y, 2, none⟩) l6 id).trans H5.out.2.2.1, ((out_drew1 w5).cell (p := ⟨Y, 3, none⟩) l6 id).trans H5.out.2.2.2.1, ((out_drew1 w5).cell (p := ⟨Y, 4, none⟩) l6 id).trans H5.out.2.2.2.2.1, ((out_drew1 w5).cell (p := ⟨Y, 5, none⟩) l6 id).trans H5.out.2.2.2.2.2.1, ((out_drew1 w5).cell (p := ⟨Y, 6, none⟩) l6 id).trans H5.out.2.2.2.2.2.2.1, ((out_drew1 w5).cell (p := ⟨Y, 7, none⟩) l6 id).trans H5.out.2.2.2.2.2.2.2.1, ((out_drew1 w5).cell (p := ⟨Y, 8, none⟩) l6 id).trans H5.out.2.2.2.2.2.2.2.2.1, ((out_drew1 w5).cell (p := ⟨Y, 9, none⟩) l6 id).trans H5.out.2.2.2.2.2.2.2.2.2.1, ((out_drew1 w5).cell (p := ⟨Y, 10, none⟩) l6 id).trans H5.out.2.2.2.2.2.2.2.2.2.2⟩
      | with_reducible exact ⟨((out11 w6 (w.heap.size + 1 + 1) (.int .i64 z0) (.int .i64 z1) (.int .i64 z2) (.int .i64 z3) (.int .i64 z4) (.int .i64 z5) (.slice zp6 zl6 zk6) (.slice zp7 zl7 zk7) (.int .i64 z8) (.int .i64 z9) (.string z10)).cell (p := ⟨Y, 0, none⟩) u6 eYZ).trans H6.out.1, ((out11 w6 (w.heap.size + 1 + 1) (.int .i64 z0) (.int .i64 z1) (.int .i64 z2) (.int .i64 z3) (.int .i64 z4) (.int .i64 z5) (.slice zp6 zl6 zk6) (.slice zp7 zl7 zk7) (.int .i64 z8) (.int .i64 z9) (.string z10)).cell (p := ⟨Y, 1, none⟩) u6 eYZ).trans H6.out.2.1, ((out11 w6 (w.heap.size + 1 + 1) (.int .i64 z0) (.int .i64 z1) (.int .i64 z2) (.int .i64 z3) (.int .i64 z4) (.int .i64 z5) (.slice zp6 zl6 zk6) (.slice zp7 zl7 zk7) (.int .i64 z8) (.int .i64 z9) (.string z10)).cell (p := ⟨Y, 2, none⟩) u6 eYZ).trans H6.out.2.2.1, ((out11 w6 (w.heap.size + 1 + 1) (.int .i64 z0) (.int .i64 z1) (.int .i64 z2) (.int .i64 z3) (.int .i64 z4) (.int .i64 z5) (.slice zp6 zl6 zk6) (.slice zp7 zl7 zk7) (.int .i64 z8) (.int .i64 z9) (.string z10)).cell (p := ⟨Y, 3, none⟩) u6 eYZ).trans H6.out.2.2.2.1, ((out11 w6 (w.heap.size + 1 + 1) (.int .i64 z0) (.int .i64 z1) (.int .i64 z2) (.int .i64 z3) (.int .i64 z4) (.int .i64 z5) (.slice zp6 zl6 zk6) (.slice zp7 zl7 zk7) (.int .i64 z8) (.int .i64 z9) (.string z10)).cell (p := ⟨Y, 4, none⟩) u6 eYZ).trans H6.out.2.2.2.2.1, ((out11 w6 (w.heap.size + 1 + 1) (.int .i64 z0) (.int .i64 z1) (.int .i64 z2) (.int .i64 z3) (.int .i64 z4) (.int .i64 z5) (.slice zp6 zl6 zk6) (.slice zp7 zl7 zk7) (.int .i64 z8) (.int .i64 z9) (.string z10)).cell (p := ⟨Y, 5, none⟩) u6 eYZ).trans H6.out.2.2.2.2.2.1, ((out11 w6 (w.heap.size + 1 + 1) (.int .i64 z0) (.int .i64 z1) (.int .i64 z2) (.int .i64 z3) (.int .i64 z4) (.int .i64 z5) (.slice zp6 zl6 zk6) (.slice zp7 zl7 zk7) (.int .i64 z8) (.int .i64 z9) (.string z10)).cell (p := ⟨Y, 6, none⟩) u6 eYZ).trans H6.out.2.2.2.2.2.2.1, ((out11 w6 (w.heap.size + 1 + 1) (.int .i64 z0) (.int .i64 z1) (.int .i64 z2) (.int .i64 z3) (.int .i64 z4) (.int .i64 z5) (.slice zp6 zl6 zk6) (.slice zp7 zl7 zk7) (.int .i64 z8) (.int .i64 z9) (.string z10)).cell (p := ⟨Y, 7, none⟩) u6 eYZ).trans H6.out.2.2.2.2.2.2.2.1, ((out11 w6 (w.heap.size + 1 + 1) (.int .i64 z0) (.int .i64 z1) (.int .i64 z2) (.int .i64 z3) (.int .i64 z4) (.int .i64 z5) (.slice zp6 zl6 zk6) (.slice zp7 zl7 zk7) (.int .i64 z8) (.int .i64 z9) (.string z10)).cell (p := ⟨Y, 8, none⟩) u6 eYZ).trans H6.out.2.2.2.2.2.2.2.2.1, ((out11 w6 (w.heap.size + 1 + 1) (.int .i64 z0) (.int .i64 z1) (.int .i64 z2) (.int .i64 z3) (.int .i64 z4) (.int .i64 z5) (.slice zp6 zl6 zk6) (.slice zp7 zl7 zk7) (.int .i64 z8) (.int .i64 z9) (.string z10)).cell (p := ⟨Y, 9, none⟩) u6 eYZ).trans H6.out.2.2.2.2.2.2.2.2.2.1, ((out11 w6 (w.heap.size + 1 + 1) (.int .i64 z0) (.int .i64 z1) (.int .i64 z2) (.int .i64 z3) (.int .i64 z4) (.int .i64 z5) (.slice zp6 zl6 zk6) (.slice zp7 zl7 zk7) (.int .i64 z8) (.int .i64 z9) (.string z10)).cell (p := ⟨Y, 10, none⟩) u6 eYZ).trans H6.out.2.2.2.2.2.2.2.2.2.2⟩)
    (first
      | (go_at_call 20; refine (same_outs O n HN.out _ _ _ _ _ (HU5.out _ (by first | exact Below.refl _ _ | exact Brk.below_drew (Below.refl _ _))).1 (HU5.out _ (by first | exact Below.refl _ _ | exact Brk.below_drew (Below.refl _ _))).2).mono ?_; rintro e w6 ⟨rfl, hb6⟩; replace hb6 : Below w5.heap.size w5 w6 := ⟨hb6.os, hb6.tape, hb6.output, hb6.size, hb6.block⟩; have H6 := Lib.hid (⟨((Out.ofNew (S := fun _ => False) hb6).cell (p := ⟨Y, 0, none⟩) l6 id).trans H5.out.1, ((Out.ofNew (S := fun _ => False) hb6).cell (p := ⟨Y, 1, none⟩) l6 id).trans H5.out.2.1, ((Out.ofNew (S := fun _ => False) hb6).cell (p := ⟨Y, 2, none⟩) l6 id).trans H5.out.2.2.1, ((Out.ofNew (S := fun _ => False) hb6).cell (p := ⟨Y, 3, none⟩) l6 id).trans H5.out.2.2.2.1, ((Out.ofNew (S := fun _ => False) hb6).cell (p := ⟨Y, 4, none⟩) l6 id).trans H5.out.2.2.2.2.1, ((Out.ofNew (S := fun _ => False) hb6).cell (p := ⟨Y, 5, none⟩) l6 id).trans H5.out.2.2.2.2.2.1, ((Out.ofNew (S := fun _ => False) hb6).cell (p := ⟨Y, 6, none⟩) l6 id).trans H5.out.2.2.2.2.2.2.1, ((Out.ofNew (S := fun _ => False) hb6).cell (p := ⟨Y, 7, none⟩) l6 id).trans H5.out.2.2.2.2.2.2.2.1, ((Out.ofNew (S := fun _ => False) hb6).cell (p := ⟨Y, 8, none⟩) l6 id).trans H5.out.2.2.2.2.2.2.2.2.1, ((Out.ofNew (S := fun _ => False) hb6).cell (p := ⟨Y, 9, none⟩) l6 id).trans H5.out.2.2.2.2.2.2.2.2.2.1, ((Out.ofNew (S := fun _ => False) hb6).cell (p := ⟨Y, 10, none⟩) l6 id).trans H5.out.2.2.2.2.2.2.2.2.2.2⟩ : w6.cell? ⟨Y, 0, none⟩ = some (.int .i64 z0) ∧ w6.cell? ⟨Y, 1, none⟩ = some (.int .i64 z1) ∧ w6.cell? ⟨Y, 2, none⟩ = some (.int .i64 z2) ∧ w6.cell? ⟨Y, 3, none⟩ = some (.int .i64 z3) ∧ w6.cell? ⟨Y, 4, none⟩ = some (.int .i64 z4) ∧ w6.cell? ⟨Y, 5, none⟩ = some (.int .i64 z5) ∧ w6.cell? ⟨Y, 6, none⟩ = some (.slice zp6 zl6 zk6) ∧ w6.cell? ⟨Y, 7, none⟩ = some (.slice zp7 zl7 zk7) ∧ w6.cell? ⟨Y, 8, none⟩ = some (.int .i64 z8) ∧ w6.cell? ⟨Y, 9, none⟩ = some (.int .i64 z9) ∧ w6.cell? ⟨Y, 10, none⟩ = some (.string z10)); have A6 := Lib.hid (A5.out.step hb6); obtain ⟨m0, m1, m2, m3, m4, m5, m6, m7, m8, m9, m10⟩ := row11 A6.out.b8; obtain ⟨f0, f1, f2, f3, f4, f5, f6, f7, f8, f9, f10⟩ := frz11 A6.out.b8; have u6 := Nat.lt_of_lt_of_le l6 hb6.size; have u6' := Nat.lt_of_lt_of_le l6' hb6.size))
  all_goals
    have HX := Lib.hid hb6
    clear HRef HPr A0 B0 d0 d1 d2 d3 d4 d5 d6 d7 d8 d9 d10 nY nX eYZ lY lX hb6 hy H6 H5
    go_wp2_with fail
    have hOUT : Out (fun i => i = w.heap.size + 1 + 1) w6 (((((((((((w6.setCell ⟨w.heap.size + 1 + 1, 0, none⟩ (.int .i64 z0)).setCell ⟨w.heap.size + 1 + 1, 1, none⟩ (.int .i64 z1)).setCell ⟨w.heap.size + 1 + 1, 2, none⟩ (.int .i64 z2)).setCell ⟨w.heap.size + 1 + 1, 3, none⟩ (.int .i64 z3)).setCell ⟨w.heap.size + 1 + 1, 4, none⟩ (.int .i64 z4)).setCell ⟨w.heap.size + 1 + 1, 5, none⟩ (.int .i64 z5)).setCell ⟨w.heap.size + 1 + 1, 6, none⟩ (.slice zp6 zl6 zk6)).setCell ⟨w.heap.size + 1 + 1, 7, none⟩ (.slice zp7 zl7 zk7)).setCell ⟨w.heap.size + 1 + 1, 8, none⟩ (.int .i64 z8)).setCell ⟨w.heap.size + 1 + 1, 9, none⟩ (.int .i64 z9)).setCell ⟨w.heap.size + 1 + 1, 10, none⟩ (.string z10)) := out11 _ _ _ _ _ _ _ _ _ _ _ _ _
    have hROW : (((((((((((w6.setCell ⟨w.heap.size + 1 + 1, 0, none⟩ (.int .i64 z0)).setCell ⟨w.heap.size + 1 + 1, 1, none⟩ (.int .i64 z1)).setCell ⟨w.heap.size + 1 + 1, 2, none⟩ (.int .i64 z2)).setCell ⟨w.heap.size + 1 + 1, 3, none⟩ (.int .i64 z3)).setCell ⟨w.heap.size + 1 + 1, 4, none⟩ (.int .i64 z4)).setCell ⟨w.heap.size + 1 + 1, 5, none⟩ (.int .i64 z5)).setCell ⟨w.heap.size + 1 + 1, 6, none⟩ (.slice zp6 zl6 zk6)).setCell ⟨w.heap.size + 1 + 1, 7, none⟩ (.slice zp7 zl7 zk7)).setCell ⟨w.heap.size + 1 + 1, 8, none⟩ (.int .i64 z8)).setCell ⟨w.heap.size + 1 + 1, 9, none⟩ (.int .i64 z9)).setCell ⟨w.heap.size + 1 + 1, 10, none⟩ (.string z10)).heap[w.heap.size + 1 + 1]? = some (.cells #[.int .i64 z0, .int .i64 z1, .int .i64 z2, .int .i64 z3, .int .i64 z4, .int .i64 z5, .slice zp6 zl6 zk6, .slice zp7 zl7 zk7, .int .i64 z8, .int .i64 z9, .string z10] 32 (0, 0)) := set11 A6.out.b8 _ _ _ _ _ _ _ _ _ _ _
    clear m0 m1 m2 m3 m4 m5 m6 m7 m8 m9 m10 f0 f1 f2 f3 f4 f5 f6 f7 f8 f9 f10
    obtain ⟨m0, m1, m2, m3, m4, m5, m6, m7, m8, m9, m10⟩ := row11 hROW
    generalize (((((((((((w6.setCell ⟨w.heap.size + 1 + 1, 0, none⟩ (.int .i64 z0)).setCell ⟨w.heap.size + 1 + 1, 1, none⟩ (.int .i64 z1)).setCell ⟨w.heap.size + 1 + 1, 2, none⟩ (.int .i64 z2)).setCell ⟨w.heap.size + 1 + 1, 3, none⟩ (.int .i64 z3)).setCell ⟨w.heap.size + 1 + 1, 4, none⟩ (.int .i64 z4)).setCell ⟨w.heap.size + 1 + 1, 5, none⟩ (.int .i64 z5)).setCell ⟨w.heap.size + 1 + 1, 6, none⟩ (.slice zp6 zl6 zk6)).setCell ⟨w.heap.size + 1 + 1, 7, none⟩ (.slice zp7 zl7 zk7)).setCell ⟨w.heap.size + 1 + 1, 8, none⟩ (.int .i64 z8)).setCell ⟨w.heap.size + 1 + 1, 9, none⟩ (.int .i64 z9)).setCell ⟨w.heap.size + 1 + 1, 10, none⟩ (.string z10)) = WF at *
    refine bodyPost_ret (v := .tuple #[.agg #[.int .i64 z0, .int .i64 z1, .int .i64 z2, .int .i64 z3, .int .i64 z4, .int .i64 z5, .slice zp6 zl6 zk6, .slice zp7 zl7 zk7, .int .i64 z8, .int .i64 z9, .string z10], .bool true]) ?_ rfl ?_
    · simp [results, Tryz.results7, go_sem, m0, m1, m2, m3, m4, m5, m6, m7, m8, m9, m10]
    · exact do_fin HS.out A1.out.size B1.out M5.out T5.out HR1.out HX.out A6.out.b8 hOUT rfl
end Go.Proofs.YtnkhdpenmekhdaaGreat.Lin
end

section
namespace Go.Proofs.YtnkhdpenmekhdaaGreat.Lin
open Go.RowKit Go.Proofs.YtnkhdpenmekhdaaGreat.Own Go.Proofs.YtnkhdpenmekhdaaGreat.Brk Go.Proofs.YtnkhdpenmekhdaaGreat.Calc Go.Proofs.YtnkhdpenmekhdaaGreat.Tree Go.Proofs.YtnkhdpenmekhdaaGreat.Run Go.Proofs.YtnkhdpenmekhdaaGreat.Bkf

set_option maxRecDepth 100000 in
set_option maxHeartbeats 8000000 in
theorem do_send8 {w : World} {S : Nat → Prop} {k : Nat} {x : Ln} {v : Value} (P : Pr w S k x v) (kk g r now : Int) (ok : Bool) (s : List UInt8) (q : Option Addr) (m cq : Nat) (h0 : 0 ≤ kk) (h1 : kk ≤ 255) (hk : kk % 10 = 8) (hs : s.length ≤ 2000) :
    Calls Tryz.prog 7 #[.pointer (some ⟨k, 0, none⟩), v, .agg #[.int .u8 kk, .int .u8 g, .bool ok, .int .i64 r, .string ⟨s.toArray⟩, .slice q m cq], .int .i64 now] w (DoPost w S k (sendL x s)) := by
  have hRf := P.rf
  obtain ⟨x0, x1, x2, x3, x4, x5, xp6, xl6, xk6, xp7, xl7, xk7, x8, x9, x10, rfl⟩ := hRf.cells
  have hS := P.mem.lt
  have HS := Lib.hid hS
  obtain ⟨bt, hbt⟩ : ∃ b, sendB x s = b := ⟨_, rfl⟩
  obtain ⟨Yl, hY⟩ : ∃ y, sendL x s = y := ⟨_, rfl⟩
  obtain ⟨O, hO⟩ : ∃ y, sendO x s = y := ⟨_, rfl⟩
  obtain ⟨n, hn⟩ : ∃ y, O.length = y := ⟨_, rfl⟩
  have HN := Lib.hid hn
  have HM := Lib.hid (fun W (hW : Below w.heap.size w W) => P.mem.below hW)
  have hOK : ∀ W, Below w.heap.size w W → ∀ L p c, OKS S w L p c → Ops W L p c := fun W hW L p c h => h W (Out.ofNew hW)
  have HRef : Hid (∀ W, Below w.heap.size w W → Calls Tryz.prog 30 #[.agg #[.int .i64 x0, .int .i64 x1, .int .i64 x2, .int .i64 x3, .int .i64 x4, .int .i64 x5, .slice xp6 xl6 xk6, .slice xp7 xl7 xk7, .int .i64 x8, .int .i64 x9, .string x10], .string ⟨s.toArray⟩] W fun e w' => ∃ z0 z1 z2 z3 z4 z5 zp6 zl6 zk6 zp7 zl7 zk7 z8 z9 z10 p c, e = .returned (.tuple #[.agg #[.int .i64 z0, .int .i64 z1, .int .i64 z2, .int .i64 z3, .int .i64 z4, .int .i64 z5, .slice zp6 zl6 zk6, .slice zp7 zl7 zk7, .int .i64 z8, .int .i64 z9, .string z10], .slice p n c, .bool bt]) ∧ Rf (OKS S w) Yl (.agg #[.int .i64 z0, .int .i64 z1, .int .i64 z2, .int .i64 z3, .int .i64 z4, .int .i64 z5, .slice zp6 zl6 zk6, .slice zp7 zl7 zk7, .int .i64 z8, .int .i64 z9, .string z10]) ∧ Below W.heap.size W w' ∧ ∀ V, Out S w' V → Outs V O p c) := Lib.hid fun W hW => by
    refine (rsend_calls s hs W P.rf).mono fun e w' he => ?_
    rw [hY, hO, hbt] at he
    exact ref_post3 (fun i hi => Nat.lt_of_lt_of_le (hS i hi) hW.size) hn he
  have HPr : Hid (∀ W, Below w.heap.size w W → Mem W k S x → Calls Tryz.prog 16 #[.pointer (some ⟨k, 0, none⟩), .string ⟨s.toArray⟩] W fun e w' => ∃ S' p c, e = .returned (.tuple #[.slice p n c, .bool bt]) ∧ Mem w' k S' Yl ∧ Step S W S' w' ∧ ∀ V, Out S' w' V → Outs V O p c) := Lib.hid fun W hWb hW => by
    refine (send_calls s hW).mono fun e w' he => ?_
    rw [hY, hO, hbt] at he
    obtain ⟨v5, rfl, he⟩ := he
    obtain ⟨S', p, c, e5, h5, h6, h7⟩ := prog_post HN.out he
    injection e5 with e5
    subst e5
    exact ⟨S', p, c, rfl, h5, h6, h7⟩
  have A0 := Lib.hid (DoB.start w #[.int .i64 x0, .int .i64 x1, .int .i64 x2, .int .i64 x3, .int .i64 x4, .int .i64 x5, .slice xp6 xl6 xk6, .slice xp7 xl7 xk7, .int .i64 x8, .int .i64 x9, .string x10] #[.int .u8 kk, .int .u8 g, .bool ok, .int .i64 r, .string ⟨s.toArray⟩, .slice q m cq])
  have B0 := Lib.hid (start3 w #[.int .i64 x0, .int .i64 x1, .int .i64 x2, .int .i64 x3, .int .i64 x4, .int .i64 x5, .slice xp6 xl6 xk6, .slice xp7 xl7 xk7, .int .i64 x8, .int .i64 x9, .string x10] #[.int .u8 kk, .int .u8 g, .bool ok, .int .i64 r, .string ⟨s.toArray⟩, .slice q m cq])
  rw [hY]
  clear P hRf hY hO hn hS hOK hbt
  go_enter Tryz.func7, Tryz.ntmps7
  go_wp2_with fail
  refine (HRef.out _ B0.out).mono ?_
  rintro e w1 ⟨z0, z1, z2, z3, z4, z5, zp6, zl6, zk6, zp7, zl7, zk7, z8, z9, z10, p', c', rfl, hR1, hb1, hU1⟩
  have HR1 := Lib.hid hR1
  have HU1 := Lib.hid hU1
  have A1 := Lib.hid ((A0.out.step hb1).step ((Below.refl _ w1).alloc (Nat.le_refl _) (.cells #[.int .i64 z0, .int .i64 z1, .int .i64 z2, .int .i64 z3, .int .i64 z4, .int .i64 z5, .slice zp6 zl6 zk6, .slice zp7 zl7 zk7, .int .i64 z8, .int .i64 z9, .string z10] 32 (0, 0))))
  have B1 := Lib.hid ((B0.out.trans (hb1.mono B0.out.size)).alloc (Nat.le_trans B0.out.size hb1.size) (.cells #[.int .i64 z0, .int .i64 z1, .int .i64 z2, .int .i64 z3, .int .i64 z4, .int .i64 z5, .slice zp6 zl6 zk6, .slice zp7 zl7 zk7, .int .i64 z8, .int .i64 z9, .string z10] 32 (0, 0)))
  have hy := at_new w1 (.cells #[.int .i64 z0, .int .i64 z1, .int .i64 z2, .int .i64 z3, .int .i64 z4, .int .i64 z5, .slice zp6 zl6 zk6, .slice zp7 zl7 zk7, .int .i64 z8, .int .i64 z9, .string z10] 32 (0, 0))
  have hz1 := Lib.hid (show w.heap.size + 2 < w1.heap.size from (A0.out.step hb1).size)
  have hb2 := Lib.hid ((Below.refl _ w1).alloc (Nat.le_refl _) (.cells #[.int .i64 z0, .int .i64 z1, .int .i64 z2, .int .i64 z3, .int .i64 z4, .int .i64 z5, .slice zp6 zl6 zk6, .slice zp7 zl7 zk7, .int .i64 z8, .int .i64 z9, .string z10] 32 (0, 0)))
  have hz2 : w.heap.size + 1 < w1.heap.size := by have := hz1.out; omega
  have o4 := (at_cell (A0.out.step hb1).b6 4 : _ = some _)
  have qb : (bt == bt) = true := by simp
  clear hR1 hb1 hU1
  go_wp2_with fail
  obtain ⟨Y, hY⟩ : ∃ Y, w1.heap.size = Y := ⟨_, rfl⟩
  rw [hY] at hy ⊢
  obtain ⟨W2, hW2⟩ : ∃ W, w1.alloc (.cells #[.int .i64 z0, .int .i64 z1, .int .i64 z2, .int .i64 z3, .int .i64 z4, .int .i64 z5, .slice zp6 zl6 zk6, .slice zp7 zl7 zk7, .int .i64 z8, .int .i64 z9, .string z10] 32 (0, 0)) = W := ⟨_, rfl⟩
  rw [hW2] at A1 B1 hy hb2 ⊢
  have HYY := Lib.hid hY
  clear hW2 hY
  obtain ⟨d0, d1, d2, d3, d4, d5, d6, d7, d8, d9, d10⟩ := row11 hy
  have lY := at_lt hy
  have lX : w.heap.size + 1 < W2.heap.size := by have := A1.out.size; omega
  have nY : ¬ S Y := fun hk => by have := HS.out _ hk; have := hz1.out; have := HYY.out; omega
  have nX : ¬ S (w.heap.size + 1) := fun hk => by have := HS.out _ hk; omega
  have eXZ : w.heap.size + 1 ≠ w.heap.size + 1 + 1 := by omega
  have eYZ : Y ≠ w.heap.size + 1 + 1 := by have := hz1.out; have := HYY.out; omega
  refine (HPr.out _ (by first | exact B1.out | exact Brk.below_drew B1.out) (HM.out _ (by first | exact B1.out | exact Brk.below_drew B1.out))).mono ?_; rintro e w5 ⟨S5, p5, c5, rfl, M5, T5, U5⟩; replace T5 : Hid (Step S W2 S5 w5) := Lib.hid ⟨⟨T5.out.os, T5.out.tape, T5.out.output, T5.out.size, T5.out.block⟩, T5.new⟩; have O5 := Lib.hid T5.out.out; have HU5 : Hid (∀ V, Below w5.heap.size w5 V → Outs V O p5 c5 ∧ Outs V O p' c') := Lib.hid fun V hV => ⟨U5 V (Out.ofNew hV), HU1.out V (((Out.ofNew (S := S) hb2.out).trans O5.out fun _ _ h => h).trans (Out.ofNew (S := S) hV) fun _ _ h => h)⟩; have H5 := Lib.hid (⟨(O5.out.cell (p := ⟨Y, 0, none⟩) lY nY).trans d0, (O5.out.cell (p := ⟨Y, 1, none⟩) lY nY).trans d1, (O5.out.cell (p := ⟨Y, 2, none⟩) lY nY).trans d2, (O5.out.cell (p := ⟨Y, 3, none⟩) lY nY).trans d3, (O5.out.cell (p := ⟨Y, 4, none⟩) lY nY).trans d4, (O5.out.cell (p := ⟨Y, 5, none⟩) lY nY).trans d5, (O5.out.cell (p := ⟨Y, 6, none⟩) lY nY).trans d6, (O5.out.cell (p := ⟨Y, 7, none⟩) lY nY).trans d7, (O5.out.cell (p := ⟨Y, 8, none⟩) lY nY).trans d8, (O5.out.cell (p := ⟨Y, 9, none⟩) lY nY).trans d9, (O5.out.cell (p := ⟨Y, 10, none⟩) lY nY).trans d10⟩ : w5.cell? ⟨Y, 0, none⟩ = some (.int .i64 z0) ∧ w5.cell? ⟨Y, 1, none⟩ = some (.int .i64 z1) ∧ w5.cell? ⟨Y, 2, none⟩ = some (.int .i64 z2) ∧ w5.cell? ⟨Y, 3, none⟩ = some (.int .i64 z3) ∧ w5.cell? ⟨Y, 4, none⟩ = some (.int .i64 z4) ∧ w5.cell? ⟨Y, 5, none⟩ = some (.int .i64 z5) ∧ w5.cell? ⟨Y, 6, none⟩ = some (.slice zp6 zl6 zk6) ∧ w5.cell? ⟨Y, 7, none⟩ = some (.slice zp7 zl7 zk7) ∧ w5.cell? ⟨Y, 8, none⟩ = some (.int .i64 z8) ∧ w5.cell? ⟨Y, 9, none⟩ = some (.int .i64 z9) ∧ w5.cell? ⟨Y, 10, none⟩ = some (.string z10)); have l6 := Nat.lt_of_lt_of_le lY O5.out.size; have l6' := Nat.lt_of_lt_of_le lX O5.out.size; have A5 := Lib.hid (A1.out.out O5.out HS.out); replace M5 := Lib.hid M5; clear U5
  clear d0 d1 d2 d3 d4 d5 d6 d7 d8 d9 d10
  obtain ⟨d0, d1, d2, d3, d4, d5, d6, d7, d8, d9, d10⟩ := H5.out
  go_wp2_with fail
  go_region_held3 (fun w' => w'.cell? ⟨Y, 0, none⟩ = some (.int .i64 z0) ∧ w'.cell? ⟨Y, 1, none⟩ = some (.int .i64 z1) ∧ w'.cell? ⟨Y, 2, none⟩ = some (.int .i64 z2) ∧ w'.cell? ⟨Y, 3, none⟩ = some (.int .i64 z3) ∧ w'.cell? ⟨Y, 4, none⟩ = some (.int .i64 z4) ∧ w'.cell? ⟨Y, 5, none⟩ = some (.int .i64 z5) ∧ w'.cell? ⟨Y, 6, none⟩ = some (.slice zp6 zl6 zk6) ∧ w'.cell? ⟨Y, 7, none⟩ = some (.slice zp7 zl7 zk7) ∧ w'.cell? ⟨Y, 8, none⟩ = some (.int .i64 z8) ∧ w'.cell? ⟨Y, 9, none⟩ = some (.int .i64 z9) ∧ w'.cell? ⟨Y, 10, none⟩ = some (.string z10))
    (first
      | with_reducible exact H5.out
      | with_reducible exact H6.out
      | with_reducible exact ⟨((out_drew1 w5).cell (p := ⟨Y, 0, none⟩) l6 id).trans H5.out.1, ((out_drew1 w5).cell (p := ⟨Y, 1, none⟩) l6 id).trans H5.out.2.1, ((out_drew1 w5).cell (p := ⟨Y, 2, none⟩) l6 id).trans H5.out.2.2.1, ((out_drew1 w5).cell (p := ⟨Y, 3, none⟩) l6 id).trans H5.out.2.2.2.1, ((out_drew1 w5).cell (p := ⟨Y, 4, none⟩) l6 id).trans H5.out.2.2.2.2.1, ((out_drew1 w5).cell (p := ⟨Y, 5, none⟩) l6 id).trans H5.out.2.2.2.2.2.1, ((out_drew1 w5).cell (p := ⟨Y, 6, none⟩) l6 id).trans H5.out.2.2.2.2.2.2.1, ((out_drew1 w5).cell (p := ⟨Y, 7, none⟩) l6 id).trans H5.out.2.2.2.2.2.2.2.1, ((out_drew1 w5).cell (p := ⟨Y, 8, none⟩) l6 id).trans H5.out.2.2.2.2.2.2.2.2.1, ((out_drew1 w5).cell (p := ⟨Y, 9, none⟩) l6 id).trans H5.out.2.2.2.2.2.2.2.2.2.1, ((out_drew1 w5).cell (p := ⟨Y, 10, none⟩) l6 id).trans H5.out.2.2.2.2.2.2.2.2.2.2⟩
      | with_reducible exact ⟨((out11 w6 (w.heap.size + 1 + 1) (.int .i64 z0) (.int .i64 z1) (.int .i64 z2) (.int .i64 z3) (.int .i64 z4) (.int .i64 z5) (.slice zp6 zl6 zk6) (.slice zp7 zl7 zk7) (.int .i64 z8) (.int .i64 z9) (.string z10)).cell (p := ⟨Y, 0, none⟩) u6 eYZ).trans H6.out.1, ((out11 w6 (w.heap.size + 1 + 1) (.int .i64 z0) (.int .i64 z1) (.int .i64 z2) (.int .i64 z3) (.int .i64 z4) (.int .i64 z5) (.slice zp6 zl6 zk6) (.slice zp7 zl7 zk7) (.int .i64 z8) (.int .i64 z9) (.string z10)).cell (p := ⟨Y, 1, none⟩) u6 eYZ).trans H6.out.2.1, ((out11 w6 (w.heap.size + 1 + 1) (.int .i64 z0) (.int .i64 z1) (.int .i64 z2) (.int .i64 z3) (.int .i64 z4) (.int .i64 z5) (.slice zp6 zl6 zk6) (.slice zp7 zl7 zk7) (.int .i64 z8) (.int .i64 z9) (.string z10)).cell (p := ⟨Y, 2, none⟩) u6 eYZ).trans H6.out.2.2.1, ((out11 w6 (w.heap.size + 1 + 1) (.int .i64 z0) (.int .i64 z1) (.int .i64 z2) (.int .i64 z3) (.int .i64 z4) (.int .i64 z5) (.slice zp6 zl6 zk6) (.slice zp7 zl7 zk7) (.int .i64 z8) (.int .i64 z9) (.string z10)).cell (p := ⟨Y, 3, none⟩) u6 eYZ).trans H6.out.2.2.2.1, ((out11 w6 (w.heap.size + 1 + 1) (.int .i64 z0) (.int .i64 z1) (.int .i64 z2) (.int .i64 z3) (.int .i64 z4) (.int .i64 z5) (.slice zp6 zl6 zk6) (.slice zp7 zl7 zk7) (.int .i64 z8) (.int .i64 z9) (.string z10)).cell (p := ⟨Y, 4, none⟩) u6 eYZ).trans H6.out.2.2.2.2.1, ((out11 w6 (w.heap.size + 1 + 1) (.int .i64 z0) (.int .i64 z1) (.int .i64 z2) (.int .i64 z3) (.int .i64 z4) (.int .i64 z5) (.slice zp6 zl6 zk6) (.slice zp7 zl7 zk7) (.int .i64 z8) (.int .i64 z9) (.string z10)).cell (p := ⟨Y, 5, none⟩) u6 eYZ).trans H6.out.2.2.2.2.2.1, ((out11 w6 (w.heap.size + 1 + 1) (.int .i64 z0) (.int .i64 z1) (.int .i64 z2) (.int .i64 z3) (.int .i64 z4) (.int .i64 z5) (.slice zp6 zl6 zk6) (.slice zp7 zl7 zk7) (.int .i64 z8) (.int .i64 z9) (.string z10)).cell (p := ⟨Y, 6, none⟩) u6 eYZ).trans H6.out.2.2.2.2.2.2.1, ((out11 w6 (w.heap.size + 1 + 1) (.int .i64 z0) (.int .i64 z1) (.int .i64 z2) (.int .i64 z3) (.int .i64 z4) (.int .i64 z5) (.slice zp6 zl6 zk6) (.slice zp7 zl7 zk7) (.int .i64 z8) (.int .i64 z9) (.string z10)).cell (p := ⟨Y, 7, none⟩) u6 eYZ).trans H6.out.2.2.2.2.2.2.2.1, ((out11 w6 (w.heap.size + 1 + 1) (.int .i64 z0) (.int .i64 z1) (.int .i64 z2) (.int .i64 z3) (.int .i64 z4) (.int .i64 z5) (.slice zp6 zl6 zk6) (.slice zp7 zl7 zk7) (.int .i64 z8) (.int .i64 z9) (.string z10)).cell (p := ⟨Y, 8, none⟩) u6 eYZ).trans H6.out.2.2.2.2.2.2.2.2.1, ((out11 w6 (w.heap.size + 1 + 1) (.int .i64 z0) (.int .i64 z1) (.int .i64 z2) (.int .i64 z3) (.int .i64 z4) (.int .i64 z5) (.slice zp6 zl6 zk6) (.slice zp7 zl7 zk7) (.int .i64 z8) (.int .i64 z9) (.string z10)).cell (p := ⟨Y, 9, none⟩) u6 eYZ).trans H6.out.2.2.2.2.2.2.2.2.2.1, ((out11 w6 (w.heap.size + 1 + 1) (.int .i64 z0) (.int .i64 z1) (.int .i64 z2) (.int .i64 z3) (.int .i64 z4) (.int .i64 z5) (.slice zp6 zl6 zk6) (.slice zp7 zl7 zk7) (.int .i64 z8) (.int .i64 z9) (.string z10)).cell (p := ⟨Y, 10, none⟩) u6 eYZ).trans H6.out.2.2.2.2.2.2.2.2.2.2⟩)
    (first
      | (go_at_call 20; refine (same_outs O n HN.out _ _ _ _ _ (HU5.out _ (by first | exact Below.refl _ _ | exact Brk.below_drew (Below.refl _ _))).1 (HU5.out _ (by first | exact Below.refl _ _ | exact Brk.below_drew (Below.refl _ _))).2).mono ?_; rintro e w6 ⟨rfl, hb6⟩; replace hb6 : Below w5.heap.size w5 w6 := ⟨hb6.os, hb6.tape, hb6.output, hb6.size, hb6.block⟩; have H6 := Lib.hid (⟨((Out.ofNew (S := fun _ => False) hb6).cell (p := ⟨Y, 0, none⟩) l6 id).trans H5.out.1, ((Out.ofNew (S := fun _ => False) hb6).cell (p := ⟨Y, 1, none⟩) l6 id).trans H5.out.2.1, ((Out.ofNew (S := fun _ => False) hb6).cell (p := ⟨Y, 2, none⟩) l6 id).trans H5.out.2.2.1, ((Out.ofNew (S := fun _ => False) hb6).cell (p := ⟨Y, 3, none⟩) l6 id).trans H5.out.2.2.2.1, ((Out.ofNew (S := fun _ => False) hb6).cell (p := ⟨Y, 4, none⟩) l6 id).trans H5.out.2.2.2.2.1, ((Out.ofNew (S := fun _ => False) hb6).cell (p := ⟨Y, 5, none⟩) l6 id).trans H5.out.2.2.2.2.2.1, ((Out.ofNew (S := fun _ => False) hb6).cell (p := ⟨Y, 6, none⟩) l6 id).trans H5.out.2.2.2.2.2.2.1, ((Out.ofNew (S := fun _ => False) hb6).cell (p := ⟨Y, 7, none⟩) l6 id).trans H5.out.2.2.2.2.2.2.2.1, ((Out.ofNew (S := fun _ => False) hb6).cell (p := ⟨Y, 8, none⟩) l6 id).trans H5.out.2.2.2.2.2.2.2.2.1, ((Out.ofNew (S := fun _ => False) hb6).cell (p := ⟨Y, 9, none⟩) l6 id).trans H5.out.2.2.2.2.2.2.2.2.2.1, ((Out.ofNew (S := fun _ => False) hb6).cell (p := ⟨Y, 10, none⟩) l6 id).trans H5.out.2.2.2.2.2.2.2.2.2.2⟩ : w6.cell? ⟨Y, 0, none⟩ = some (.int .i64 z0) ∧ w6.cell? ⟨Y, 1, none⟩ = some (.int .i64 z1) ∧ w6.cell? ⟨Y, 2, none⟩ = some (.int .i64 z2) ∧ w6.cell? ⟨Y, 3, none⟩ = some (.int .i64 z3) ∧ w6.cell? ⟨Y, 4, none⟩ = some (.int .i64 z4) ∧ w6.cell? ⟨Y, 5, none⟩ = some (.int .i64 z5) ∧ w6.cell? ⟨Y, 6, none⟩ = some (.slice zp6 zl6 zk6) ∧ w6.cell? ⟨Y, 7, none⟩ = some (.slice zp7 zl7 zk7) ∧ w6.cell? ⟨Y, 8, none⟩ = some (.int .i64 z8) ∧ w6.cell? ⟨Y, 9, none⟩ = some (.int .i64 z9) ∧ w6.cell? ⟨Y, 10, none⟩ = some (.string z10)); have A6 := Lib.hid (A5.out.step hb6); obtain ⟨m0, m1, m2, m3, m4, m5, m6, m7, m8, m9, m10⟩ := row11 A6.out.b8; obtain ⟨f0, f1, f2, f3, f4, f5, f6, f7, f8, f9, f10⟩ := frz11 A6.out.b8; have u6 := Nat.lt_of_lt_of_le l6 hb6.size; have u6' := Nat.lt_of_lt_of_le l6' hb6.size))
  all_goals
    have HX := Lib.hid hb6
    clear HRef HPr A0 B0 d0 d1 d2 d3 d4 d5 d6 d7 d8 d9 d10 nY nX eYZ eXZ lY lX hb6 hy H6 H5
    go_wp2_with fail
    have hOUT : Out (fun i => i = w.heap.size + 1 + 1) w6 (((((((((((w6.setCell ⟨w.heap.size + 1 + 1, 0, none⟩ (.int .i64 z0)).setCell ⟨w.heap.size + 1 + 1, 1, none⟩ (.int .i64 z1)).setCell ⟨w.heap.size + 1 + 1, 2, none⟩ (.int .i64 z2)).setCell ⟨w.heap.size + 1 + 1, 3, none⟩ (.int .i64 z3)).setCell ⟨w.heap.size + 1 + 1, 4, none⟩ (.int .i64 z4)).setCell ⟨w.heap.size + 1 + 1, 5, none⟩ (.int .i64 z5)).setCell ⟨w.heap.size + 1 + 1, 6, none⟩ (.slice zp6 zl6 zk6)).setCell ⟨w.heap.size + 1 + 1, 7, none⟩ (.slice zp7 zl7 zk7)).setCell ⟨w.heap.size + 1 + 1, 8, none⟩ (.int .i64 z8)).setCell ⟨w.heap.size + 1 + 1, 9, none⟩ (.int .i64 z9)).setCell ⟨w.heap.size + 1 + 1, 10, none⟩ (.string z10)) := out11 _ _ _ _ _ _ _ _ _ _ _ _ _
    have hROW : (((((((((((w6.setCell ⟨w.heap.size + 1 + 1, 0, none⟩ (.int .i64 z0)).setCell ⟨w.heap.size + 1 + 1, 1, none⟩ (.int .i64 z1)).setCell ⟨w.heap.size + 1 + 1, 2, none⟩ (.int .i64 z2)).setCell ⟨w.heap.size + 1 + 1, 3, none⟩ (.int .i64 z3)).setCell ⟨w.heap.size + 1 + 1, 4, none⟩ (.int .i64 z4)).setCell ⟨w.heap.size + 1 + 1, 5, none⟩ (.int .i64 z5)).setCell ⟨w.heap.size + 1 + 1, 6, none⟩ (.slice zp6 zl6 zk6)).setCell ⟨w.heap.size + 1 + 1, 7, none⟩ (.slice zp7 zl7 zk7)).setCell ⟨w.heap.size + 1 + 1, 8, none⟩ (.int .i64 z8)).setCell ⟨w.heap.size + 1 + 1, 9, none⟩ (.int .i64 z9)).setCell ⟨w.heap.size + 1 + 1, 10, none⟩ (.string z10)).heap[w.heap.size + 1 + 1]? = some (.cells #[.int .i64 z0, .int .i64 z1, .int .i64 z2, .int .i64 z3, .int .i64 z4, .int .i64 z5, .slice zp6 zl6 zk6, .slice zp7 zl7 zk7, .int .i64 z8, .int .i64 z9, .string z10] 32 (0, 0)) := set11 A6.out.b8 _ _ _ _ _ _ _ _ _ _ _
    clear m0 m1 m2 m3 m4 m5 m6 m7 m8 m9 m10 f0 f1 f2 f3 f4 f5 f6 f7 f8 f9 f10
    obtain ⟨m0, m1, m2, m3, m4, m5, m6, m7, m8, m9, m10⟩ := row11 hROW
    generalize (((((((((((w6.setCell ⟨w.heap.size + 1 + 1, 0, none⟩ (.int .i64 z0)).setCell ⟨w.heap.size + 1 + 1, 1, none⟩ (.int .i64 z1)).setCell ⟨w.heap.size + 1 + 1, 2, none⟩ (.int .i64 z2)).setCell ⟨w.heap.size + 1 + 1, 3, none⟩ (.int .i64 z3)).setCell ⟨w.heap.size + 1 + 1, 4, none⟩ (.int .i64 z4)).setCell ⟨w.heap.size + 1 + 1, 5, none⟩ (.int .i64 z5)).setCell ⟨w.heap.size + 1 + 1, 6, none⟩ (.slice zp6 zl6 zk6)).setCell ⟨w.heap.size + 1 + 1, 7, none⟩ (.slice zp7 zl7 zk7)).setCell ⟨w.heap.size + 1 + 1, 8, none⟩ (.int .i64 z8)).setCell ⟨w.heap.size + 1 + 1, 9, none⟩ (.int .i64 z9)).setCell ⟨w.heap.size + 1 + 1, 10, none⟩ (.string z10)) = WF at *
    refine bodyPost_ret (v := .tuple #[.agg #[.int .i64 z0, .int .i64 z1, .int .i64 z2, .int .i64 z3, .int .i64 z4, .int .i64 z5, .slice zp6 zl6 zk6, .slice zp7 zl7 zk7, .int .i64 z8, .int .i64 z9, .string z10], .bool true]) ?_ rfl ?_
    · simp [results, Tryz.results7, go_sem, m0, m1, m2, m3, m4, m5, m6, m7, m8, m9, m10]
    · exact do_fin HS.out A1.out.size B1.out M5.out T5.out HR1.out HX.out A6.out.b8 hOUT rfl
end Go.Proofs.YtnkhdpenmekhdaaGreat.Lin
end

section
namespace Go.Proofs.YtnkhdpenmekhdaaGreat.Digit
open Go.RowKit

theorem ret_u64 {a b : Int} (h : a = b) : Ending.returned (.int .u64 a) = .returned (.int .u64 b) := by rw [h]

theorem neg_u64 {n : Int} (h1 : -9223372036854775808 ≤ n) (h : n < 0) : IntKind.u64.wrap (-IntKind.u64.wrap n) = (n.natAbs : Int) := by
  have e : ∀ x : Int, IntKind.u64.wrap x = x % 18446744073709551616 := fun x => by rfl
  rw [e, e]; omega

theorem size_calls (n : Int) (h1 : -9223372036854775808 ≤ n) (h2 : n ≤ 9223372036854775807) (w : World) :
    Calls Tryz.prog 96 #[.int .i64 n] w fun e w' => e = .returned (.int .u64 (n.natAbs : Int)) ∧ w = w' := by
  by_cases h : n < 0
  · go_enter Tryz.func96, Tryz.ntmps96
    go_wp2_with fail
    go_ret
    exact ⟨ret_u64 (neg_u64 h1 h), rfl⟩
  · go_enter Tryz.func96, Tryz.ntmps96
    go_wp2_with fail
    go_ret
    exact ⟨ret_u64 (by omega), rfl⟩

theorem set_cells {w : World} {b : Nat} {C : Array Value} {t : TypeId} (h : w.heap[b]? = some (.cells C t (0, 0))) (i : Nat) (v : Value) : (w.setCell ⟨b, i, none⟩ v).heap[b]? = some (.cells (C.setIfInBounds i v) t (0, 0)) := by
  have hlt := lt_of_block h
  have h' : w.heap[b] = .cells C t (0, 0) := by simpa [Array.getElem?_eq_getElem hlt] using h
  show (w.heap.modify b _)[b]? = _
  rw [Array.getElem?_eq_getElem (by simpa using hlt), Array.getElem_modify_self, h']
  rfl

/-- the array's cells from p on hold the bytes ds -/
def ArrAt (w : World) (t : TypeId) (B p : Nat) (ds : List UInt8) : Prop :=
  ∃ C, w.heap[B]? = some (.cells C t (0, 0)) ∧ C.size = 20 ∧ ds.length + p = 20 ∧ ∀ i (h : i < ds.length), C[p + i]? = some (.int .u8 (ds[i].toNat : Int))

theorem arr_start {w : World} {t : TypeId} {C : Array Value} (hC : C.size = 20) : ArrAt (w.alloc (.cells C t)) t w.heap.size 20 [] :=
  ⟨C, by show (w.heap.push _)[w.heap.size]? = _; simp, hC, rfl, fun i h => absurd h (by simp)⟩
theorem arr_push {w : World} {t : TypeId} {B p : Nat} {ds : List UInt8} (h : ArrAt w t B p ds) (hp : 1 ≤ p) {c : Int} (h0 : 0 ≤ c) (h1 : c < 256) : ArrAt (w.setCell ⟨B, p - 1, none⟩ (.int .u8 c)) t B (p - 1) (c.toNat.toUInt8 :: ds) := by
  obtain ⟨C, hC, hs, hl, hd⟩ := h
  refine ⟨_, set_cells hC _ _, by simp [hs], by simp; omega, fun i hi => ?_⟩
  cases i with
  | zero => simp [Array.getElem?_setIfInBounds, hs]; omega
  | succ i =>
    have := hd i (by simpa using hi)
    rw [Array.getElem?_setIfInBounds, if_neg (by omega), show p - 1 + (i + 1) = p + i by omega, this]; rfl
theorem arr_cell {w : World} {t : TypeId} {B p : Nat} {ds : List UInt8} (h : ArrAt w t B p ds) {i : Nat} (hi : i < 20) : ∃ x, w.cell? ⟨B, i, none⟩ = some x ∧ w.frozen? ⟨B, i, none⟩ = false := by
  obtain ⟨C, hC, hs, -, -⟩ := h
  refine ⟨C[i]'(by omega), ?_, by simp [World.frozen?, hC]⟩
  simp [World.cell?, hC]
theorem arr_text {P : Program} {w : World} {t : TypeId} {B p : Nat} {ds : List UInt8} (h : ArrAt w t B p ds) (src dst e : TypeId) (hs : P.underlying src = some (.slice e)) (he : P.underlying e = some (.int .u8)) (hd : P.underlying dst = some .string) (n cap : Nat) (hn : n = 20 - p) :
    (convert src dst (.slice (some ⟨B, p, none⟩) n cap)).run P w = .ok (.string ⟨ds.toArray⟩) w := by
  obtain ⟨C, hC, hsz, hl, hdd⟩ := h
  rw [show n = ds.length by omega]
  refine run_convert_bytes_back w src dst e _ cap ds hs he hd (fun j hj => ?_)
  rw [← hdd j hj]
  have : (⟨B, p, none⟩ : Addr).add j = ⟨B, p + j, none⟩ := by unfold Addr.add; split <;> simp_all
  rw [this]
  simp [World.cell?, hC]

/-- a[l:] of the array -/
theorem arr_slice (W : World) (B q : Nat) (l : Int) (hl : l = q) (hq : q < 20) :
    (Instr.sliceAt 144 (.pointer (some ⟨B, 0, none⟩)) (some (.int .i64 l)) none none).run Tryz.prog W = .ok (.slice (some ⟨B, q, none⟩) (20 - q) (20 - q)) W := by
  have hal : Tryz.prog.arrayLen 144 = 20 := by simp [Program.arrayLen, Tryz.underlying144]
  have hel : Tryz.prog.elem 144 = 5 := by simp [Program.elem, Tryz.underlying144]
  subst hl
  rw [run_sliceAt_array_l W 144 ⟨B, 0, none⟩ (by rw [hal, hel]; exact Tryz.underlying144) .i64 q (by omega) (by rw [hal]; omega), hal, hel, Tryz.sizeOf5]
  have h20 : ¬ 20 = q := by omega
  simp [Result.andThen, slicedAt, h20, Addr.add]
  exact fun h => h.symm

theorem decN_step {m r : Nat} {ds : List UInt8} (h : decN m = decN r ++ ds) (hr : ¬ r < 10) : decN m = decN (r / 10) ++ hexd (r % 10) :: ds := by
  rw [h, decN_ge hr]; simp
theorem decN_last {m r : Nat} {ds : List UInt8} (h : decN m = decN r ++ ds) (hr : r < 10) : decN m = hexd (r % 10) :: ds := by
  rw [h, decN_lt hr, Nat.mod_eq_of_lt hr]; rfl
theorem byte_hexd {r : Nat} : (48 + (r : Int) % 10).toNat.toUInt8 = hexd (r % 10) := by
  unfold hexd; rw [if_pos (by omega), show (48 + (r : Int) % 10).toNat = 48 + r % 10 by omega]

def PutAt (n : Int) (w : World) (a' : Act) (w' : World) : Prop :=
  ∃ (p r : Nat) (P R : Int) (ds : List UInt8) (u8 u9 u10 u11 u12 u13 u14 u15 u16 u17 u18 u19 : Value),
      a' = { tmps := #[.int .i64 n, undef, .string ⟨#[]⟩, .pointer (some ⟨w.heap.size, 0, none⟩), .int .i64 P, .int .u64 R, .int .i64 n, .int .u64 n.natAbs, u8, u9, u10, u11, u12, u13, u14, u15, u16, u17, u18, u19, undef, undef, undef, undef, undef, undef, undef, undef, undef], defers := [] } ∧
      P = p ∧ R = r ∧ 2 ≤ p ∧ p ≤ 20 ∧ r < 10 ^ (p - 1) ∧ decN n.natAbs = decN r ++ ds ∧ ArrAt w' 144 w.heap.size p ds ∧ Below w.heap.size w w'

theorem lt_10 {p r : Nat} (h : r < 10 ^ (p - 1)) (hp : 2 ≤ p) (hr : ¬ r < 10) : 3 ≤ p ∧ r / 10 < 10 ^ (p - 1 - 1) := by
  obtain ⟨k, rfl⟩ : ∃ k, p = k + 2 := ⟨p - 2, by omega⟩
  simp only [Nat.add_one_sub_one, show k + 2 - 1 = k + 1 from rfl] at h ⊢
  cases k with
  | zero => simp at h; omega
  | succ k => rw [Nat.pow_succ] at h; exact ⟨by omega, by omega⟩
theorem dec_neg {n : Int} (h : n < 0) : dec n = 45 :: decN n.natAbs := by rw [dec, if_pos h]
theorem dec_pos {n : Int} (h : ¬ n < 0) : dec n = decN n.natAbs := by rw [dec, if_neg h, show n.toNat = n.natAbs by omega]

set_option maxRecDepth 100000 in
set_option maxHeartbeats 1000000 in
theorem put_calls (n : Int) (h1 : -9223372036854775808 ≤ n) (h2 : n ≤ 9223372036854775807) (w : World) :
    Calls Tryz.prog 91 #[.int .i64 n] w fun e w' => e = .returned (.string ⟨(dec n).toArray⟩) ∧ Below w.heap.size w w' := by
  go_enter Tryz.func91, Tryz.ntmps91
  go_wp2
  refine wp_scope_jumps 0 (PutAt n w) (fun a' _ => (intOf (a'.tmps.getD 5 undef)).toNat) rfl ?_ ?_
  · go_wp2_with (go_at_call 96; refine (size_calls _ (by omega) (by omega) _).mono ?_; rintro e w' ⟨rfl, rfl⟩)
    go_step3
    have ha := arr_start (w := w) (t := 144) (C := Array.replicate 20 (.int .u8 0)) rfl
    have hb : Below w.heap.size w (w.alloc (.cells (Array.replicate 20 (.int .u8 0)) 144)) := (Below.refl _ _).alloc (Nat.le_refl _) _
    have hd : decN n.natAbs = decN n.natAbs ++ [] := by simp
    have hr : n.natAbs < 10 ^ 19 := by omega
    simp only [Array.replicate, List.replicate] at ha hb
    generalize w.alloc _ = w' at ha hb ⊢
    obtain ⟨x, hx, hf⟩ := arr_cell ha (i := 19) (by omega)
    have ha1 := arr_push ha (by omega) (c := 48 + (n.natAbs : Int) % 10) (by omega) (by omega)
    rw [byte_hexd, show 20 - 1 = 19 from rfl] at ha1
    have HD := Lib.hid hd; clear hd
    have HR := Lib.hid hr; clear hr
    have HA := Lib.hid ha; clear ha
    by_cases h10 : n.natAbs < 10
    · have HL := Lib.hid (decN_last HD.out h10)
      by_cases hn : n < 0
      · obtain ⟨x2, hx2, hf2⟩ := arr_cell HA.out (i := 18) (by omega)
        have ha2 := arr_push ha1 (by omega) (c := 45) (by omega) (by omega)
        have hcv := arr_text (P := Tryz.prog) ha2 117 9 5 Tryz.underlying117 Tryz.underlying5 Tryz.underlying9 2 2 rfl
        have hsl := fun W => arr_slice W w.heap.size 18 18 (by omega) (by omega)
        clear ha2 ha1
        go_wp2_with fail
        simp only [Exit.jump]
        go_ret
        exact ⟨ret_string (by rw [dec_neg hn, HL.out]), (hb.setCell (Nat.le_refl _) _).setCell (Nat.le_refl _) _⟩
      · have hcv := arr_text (P := Tryz.prog) ha1 117 9 5 Tryz.underlying117 Tryz.underlying5 Tryz.underlying9 1 1 rfl
        have hsl := fun W => arr_slice W w.heap.size 19 19 (by omega) (by omega)
        clear ha1
        go_wp2_with fail
        simp only [Exit.jump]
        go_ret
        exact ⟨ret_string (by rw [dec_pos (by omega), HL.out]), hb.setCell (Nat.le_refl _) _⟩
    · have HA1 := Lib.hid ha1; clear ha1
      have HS := Lib.hid (decN_step HD.out h10)
      have HT := Lib.hid (lt_10 (p := 20) HR.out (by omega) h10)
      go_wp2_with fail
      go_step3
      exact ⟨rfl, 19, n.natAbs / 10, _, _, _, _, _, _, _, _, _, _, _, _, _, _, _, rfl, rfl, by omega, by omega, by omega, HT.out.2, HS.out, HA1.out, hb.setCell (Nat.le_refl _) _⟩
  · rintro a' w' ⟨p, r, P, R, ds, u8, u9, u10, u11, u12, u13, u14, u15, u16, u17, u18, u19, rfl, rfl, rfl, hp2, hp20, hr, hd, ha, hb⟩
    obtain ⟨x, hx, hf⟩ := arr_cell ha (i := p - 1) (by omega)
    have ha1 := arr_push ha (by omega) (c := 48 + (r : Int) % 10) (by omega) (by omega)
    rw [byte_hexd] at ha1
    have HD := Lib.hid hd; clear hd
    have hr19 : r < 10000000000000000000 := Nat.lt_of_lt_of_le hr (Nat.pow_le_pow_right (n := 10) (by omega) (show p - 1 ≤ 19 by omega))
    have HR := Lib.hid hr; clear hr
    have HA := Lib.hid ha; clear ha
    by_cases h10 : r < 10
    · have HL := Lib.hid (decN_last HD.out h10)
      by_cases hn : n < 0
      · obtain ⟨x2, hx2, hf2⟩ := arr_cell HA.out (i := p - 1 - 1) (by omega)
        have ha2 := arr_push ha1 (by omega) (c := 45) (by omega) (by omega)
        have hcv := arr_text (P := Tryz.prog) ha2 117 9 5 Tryz.underlying117 Tryz.underlying5 Tryz.underlying9 (20 - (p - 1 - 1)) (20 - (p - 1 - 1)) rfl
        have hsl := fun W => arr_slice W w.heap.size (p - 1 - 1) ((p : Int) - 1 - 1) (by omega) (by omega)
        clear ha2 ha1
        go_wp2_with fail
        simp only [Exit.jump]
        go_ret
        exact ⟨ret_string (by rw [dec_neg hn, HL.out]), (hb.setCell (Nat.le_refl _) _).setCell (Nat.le_refl _) _⟩
      · have hcv := arr_text (P := Tryz.prog) ha1 117 9 5 Tryz.underlying117 Tryz.underlying5 Tryz.underlying9 (20 - (p - 1)) (20 - (p - 1)) rfl
        have hsl := fun W => arr_slice W w.heap.size (p - 1) ((p : Int) - 1) (by omega) (by omega)
        clear ha1
        go_wp2_with fail
        simp only [Exit.jump]
        go_ret
        exact ⟨ret_string (by rw [dec_pos (by omega), HL.out]), hb.setCell (Nat.le_refl _) _⟩
    · have HA1 := Lib.hid ha1; clear ha1
      have HS := Lib.hid (decN_step HD.out h10)
      have HT := Lib.hid (lt_10 HR.out hp2 h10)
      go_wp2_with fail
      go_step3
      refine ⟨rfl, ⟨p - 1, r / 10, _, _, _, _, _, _, _, _, _, _, _, _, _, _, _, rfl, by omega, by omega, by have := HT.out; omega, by omega, HT.out.2, HS.out, HA1.out, hb.setCell (Nat.le_refl _) _⟩, ?_⟩
      simp [intOf]; omega

end Go.Proofs.YtnkhdpenmekhdaaGreat.Digit
end


/-
Layer 19 (line): the law's acts: Start. Written by gen_lindo.py.
Layer 19 (line): the law's acts: Stop. Written by gen_lindo.py.
Layer 19 (line): the document's own Opened, Lost, walked.
Layer 19 (line): the law's acts: Opened. Written by gen_lindo.py.
-/
import Derived.Test.YtnkhdpenmekhdaaGreatPPack6
section
namespace Go.Proofs.YtnkhdpenmekhdaaGreat.Lin
open Go.RowKit Go.Proofs.YtnkhdpenmekhdaaGreat.Own Go.Proofs.YtnkhdpenmekhdaaGreat.Brk Go.Proofs.YtnkhdpenmekhdaaGreat.Calc Go.Proofs.YtnkhdpenmekhdaaGreat.Tree Go.Proofs.YtnkhdpenmekhdaaGreat.Run Go.Proofs.YtnkhdpenmekhdaaGreat.Bkf

set_option maxRecDepth 100000 in
set_option maxHeartbeats 8000000 in
theorem do_start {w : World} {S : Nat → Prop} {k : Nat} {x : Ln} {v : Value} (P : Pr w S k x v) (kk g r now : Int) (ok : Bool) (s : List UInt8) (q : Option Addr) (m cq : Nat) (h0 : 0 ≤ kk) (h1 : kk ≤ 255) (hk : kk % 10 = 3)  :
    Calls Tryz.prog 7 #[.pointer (some ⟨k, 0, none⟩), v, .agg #[.int .u8 kk, .int .u8 g, .bool ok, .int .i64 r, .string ⟨s.toArray⟩, .slice q m cq], .int .i64 now] w (DoPost w S k (startL x)) := by
  have hRf := P.rf
  obtain ⟨x0, x1, x2, x3, x4, x5, xp6, xl6, xk6, xp7, xl7, xk7, x8, x9, x10, rfl⟩ := hRf.cells
  have hS := P.mem.lt
  have HS := Lib.hid hS
  obtain ⟨Yl, hY⟩ : ∃ y, startL x = y := ⟨_, rfl⟩
  obtain ⟨O, hO⟩ : ∃ y, startO x = y := ⟨_, rfl⟩
  obtain ⟨n, hn⟩ : ∃ y, O.length = y := ⟨_, rfl⟩
  have HN := Lib.hid hn
  have HM := Lib.hid (fun W (hW : Below w.heap.size w W) => P.mem.below hW)
  have hOK : ∀ W, Below w.heap.size w W → ∀ L p c, OKS S w L p c → Ops W L p c := fun W hW L p c h => h W (Out.ofNew hW)
  have HRef : Hid (∀ W, Below w.heap.size w W → Calls Tryz.prog 26 #[.agg #[.int .i64 x0, .int .i64 x1, .int .i64 x2, .int .i64 x3, .int .i64 x4, .int .i64 x5, .slice xp6 xl6 xk6, .slice xp7 xl7 xk7, .int .i64 x8, .int .i64 x9, .string x10]] W fun e w' => ∃ z0 z1 z2 z3 z4 z5 zp6 zl6 zk6 zp7 zl7 zk7 z8 z9 z10 p c, e = .returned (.tuple #[.agg #[.int .i64 z0, .int .i64 z1, .int .i64 z2, .int .i64 z3, .int .i64 z4, .int .i64 z5, .slice zp6 zl6 zk6, .slice zp7 zl7 zk7, .int .i64 z8, .int .i64 z9, .string z10], .slice p n c]) ∧ Rf (OKS S w) Yl (.agg #[.int .i64 z0, .int .i64 z1, .int .i64 z2, .int .i64 z3, .int .i64 z4, .int .i64 z5, .slice zp6 zl6 zk6, .slice zp7 zl7 zk7, .int .i64 z8, .int .i64 z9, .string z10]) ∧ Below W.heap.size W w' ∧ ∀ V, Out S w' V → Outs V O p c) := Lib.hid fun W hW => by
    refine (rstart_calls W (P.rf)).mono fun e w' he => ?_
    rw [hY, hO] at he
    exact ref_post (fun i hi => Nat.lt_of_lt_of_le (hS i hi) hW.size) hn he
  have HPr : Hid (∀ W, Below w.heap.size w W → Mem W k S x → Calls Tryz.prog 13 #[.pointer (some ⟨k, 0, none⟩)] W fun e w' => ∃ S' p c, e = .returned (.slice p n c) ∧ Mem w' k S' Yl ∧ Step S W S' w' ∧ ∀ V, Out S' w' V → Outs V O p c) := Lib.hid fun W hWb hW => by
    refine (start_calls hW).mono fun e w' he => ?_
    rw [hY, hO] at he
    exact prog_post HN.out he
  have A0 := Lib.hid (DoB.start w #[.int .i64 x0, .int .i64 x1, .int .i64 x2, .int .i64 x3, .int .i64 x4, .int .i64 x5, .slice xp6 xl6 xk6, .slice xp7 xl7 xk7, .int .i64 x8, .int .i64 x9, .string x10] #[.int .u8 kk, .int .u8 g, .bool ok, .int .i64 r, .string ⟨s.toArray⟩, .slice q m cq])
  have B0 := Lib.hid (start3 w #[.int .i64 x0, .int .i64 x1, .int .i64 x2, .int .i64 x3, .int .i64 x4, .int .i64 x5, .slice xp6 xl6 xk6, .slice xp7 xl7 xk7, .int .i64 x8, .int .i64 x9, .string x10] #[.int .u8 kk, .int .u8 g, .bool ok, .int .i64 r, .string ⟨s.toArray⟩, .slice q m cq])
  rw [hY]
  clear P hRf hY hO hn hS hOK
  go_enter Tryz.func7, Tryz.ntmps7
  go_wp2_with fail
  refine (HRef.out _ B0.out).mono ?_
  rintro e w1 ⟨z0, z1, z2, z3, z4, z5, zp6, zl6, zk6, zp7, zl7, zk7, z8, z9, z10, p', c', rfl, hR1, hb1, hU1⟩
  have HR1 := Lib.hid hR1
  have HU1 := Lib.hid hU1
  have A1 := Lib.hid ((A0.out.step hb1).step ((Below.refl _ w1).alloc (Nat.le_refl _) (.cells #[.int .i64 z0, .int .i64 z1, .int .i64 z2, .int .i64 z3, .int .i64 z4, .int .i64 z5, .slice zp6 zl6 zk6, .slice zp7 zl7 zk7, .int .i64 z8, .int .i64 z9, .string z10] 32 (0, 0))))
  have B1 := Lib.hid ((B0.out.trans (hb1.mono B0.out.size)).alloc (Nat.le_trans B0.out.size hb1.size) (.cells #[.int .i64 z0, .int .i64 z1, .int .i64 z2, .int .i64 z3, .int .i64 z4, .int .i64 z5, .slice zp6 zl6 zk6, .slice zp7 zl7 zk7, .int .i64 z8, .int .i64 z9, .string z10] 32 (0, 0)))
  have hy := at_new w1 (.cells #[.int .i64 z0, .int .i64 z1, .int .i64 z2, .int .i64 z3, .int .i64 z4, .int .i64 z5, .slice zp6 zl6 zk6, .slice zp7 zl7 zk7, .int .i64 z8, .int .i64 z9, .string z10] 32 (0, 0))
  have hz1 := Lib.hid (show w.heap.size + 2 < w1.heap.size from (A0.out.step hb1).size)
  have hb2 := Lib.hid ((Below.refl _ w1).alloc (Nat.le_refl _) (.cells #[.int .i64 z0, .int .i64 z1, .int .i64 z2, .int .i64 z3, .int .i64 z4, .int .i64 z5, .slice zp6 zl6 zk6, .slice zp7 zl7 zk7, .int .i64 z8, .int .i64 z9, .string z10] 32 (0, 0)))
  clear hR1 hb1 hU1
  go_wp2_with fail
  obtain ⟨Y, hY⟩ : ∃ Y, w1.heap.size = Y := ⟨_, rfl⟩
  rw [hY] at hy ⊢
  obtain ⟨W2, hW2⟩ : ∃ W, w1.alloc (.cells #[.int .i64 z0, .int .i64 z1, .int .i64 z2, .int .i64 z3, .int .i64 z4, .int .i64 z5, .slice zp6 zl6 zk6, .slice zp7 zl7 zk7, .int .i64 z8, .int .i64 z9, .string z10] 32 (0, 0)) = W := ⟨_, rfl⟩
  rw [hW2] at A1 B1 hy hb2 ⊢
  have HYY := Lib.hid hY
  clear hW2 hY
  obtain ⟨d0, d1, d2, d3, d4, d5, d6, d7, d8, d9, d10⟩ := row11 hy
  have lY := at_lt hy
  have lX : w.heap.size + 1 < W2.heap.size := by have := A1.out.size; omega
  have nY : ¬ S Y := fun hk => by have := HS.out _ hk; have := hz1.out; have := HYY.out; omega
  have nX : ¬ S (w.heap.size + 1) := fun hk => by have := HS.out _ hk; omega
  have eYZ : Y ≠ w.heap.size + 1 + 1 := by have := hz1.out; have := HYY.out; omega
  go_region_held3 (fun w' => w'.cell? ⟨Y, 0, none⟩ = some (.int .i64 z0) ∧ w'.cell? ⟨Y, 1, none⟩ = some (.int .i64 z1) ∧ w'.cell? ⟨Y, 2, none⟩ = some (.int .i64 z2) ∧ w'.cell? ⟨Y, 3, none⟩ = some (.int .i64 z3) ∧ w'.cell? ⟨Y, 4, none⟩ = some (.int .i64 z4) ∧ w'.cell? ⟨Y, 5, none⟩ = some (.int .i64 z5) ∧ w'.cell? ⟨Y, 6, none⟩ = some (.slice zp6 zl6 zk6) ∧ w'.cell? ⟨Y, 7, none⟩ = some (.slice zp7 zl7 zk7) ∧ w'.cell? ⟨Y, 8, none⟩ = some (.int .i64 z8) ∧ w'.cell? ⟨Y, 9, none⟩ = some (.int .i64 z9) ∧ w'.cell? ⟨Y, 10, none⟩ = some (.string z10))
    (first
      | with_reducible exact ⟨d0, d1, d2, d3, d4, d5, d6, d7, d8, d9, d10⟩
      | with_reducible exact H6.out
      | with_reducible exact H5.out
      | with_reducible exact ⟨((out_drew1 W2).cell (p := ⟨Y, 0, none⟩) lY id).trans d0, ((out_drew1 W2).cell (p := ⟨Y, 1, none⟩) lY id).trans d1, ((out_drew1 W2).cell (p := ⟨Y, 2, none⟩) lY id).trans d2, ((out_drew1 W2).cell (p := ⟨Y, 3, none⟩) lY id).trans d3, ((out_drew1 W2).cell (p := ⟨Y, 4, none⟩) lY id).trans d4, ((out_drew1 W2).cell (p := ⟨Y, 5, none⟩) lY id).trans d5, ((out_drew1 W2).cell (p := ⟨Y, 6, none⟩) lY id).trans d6, ((out_drew1 W2).cell (p := ⟨Y, 7, none⟩) lY id).trans d7, ((out_drew1 W2).cell (p := ⟨Y, 8, none⟩) lY id).trans d8, ((out_drew1 W2).cell (p := ⟨Y, 9, none⟩) lY id).trans d9, ((out_drew1 W2).cell (p := ⟨Y, 10, none⟩) lY id).trans d10⟩
      | with_reducible exact ⟨((out11 w6 (w.heap.size + 1 + 1) (.int .i64 z0) (.int .i64 z1) (.int .i64 z2) (.int .i64 z3) (.int .i64 z4) (.int .i64 z5) (.slice zp6 zl6 zk6) (.slice zp7 zl7 zk7) (.int .i64 z8) (.int .i64 z9) (.string z10)).cell (p := ⟨Y, 0, none⟩) u6 eYZ).trans H6.out.1, ((out11 w6 (w.heap.size + 1 + 1) (.int .i64 z0) (.int .i64 z1) (.int .i64 z2) (.int .i64 z3) (.int .i64 z4) (.int .i64 z5) (.slice zp6 zl6 zk6) (.slice zp7 zl7 zk7) (.int .i64 z8) (.int .i64 z9) (.string z10)).cell (p := ⟨Y, 1, none⟩) u6 eYZ).trans H6.out.2.1, ((out11 w6 (w.heap.size + 1 + 1) (.int .i64 z0) (.int .i64 z1) (.int .i64 z2) (.int .i64 z3) (.int .i64 z4) (.int .i64 z5) (.slice zp6 zl6 zk6) (.slice zp7 zl7 zk7) (.int .i64 z8) (.int .i64 z9) (.string z10)).cell (p := ⟨Y, 2, none⟩) u6 eYZ).trans H6.out.2.2.1, ((out11 w6 (w.heap.size + 1 + 1) (.int .i64 z0) (.int .i64 z1) (.int .i64 z2) (.int .i64 z3) (.int .i64 z4) (.int .i64 z5) (.slice zp6 zl6 zk6) (.slice zp7 zl7 zk7) (.int .i64 z8) (.int .i64 z9) (.string z10)).cell (p := ⟨Y, 3, none⟩) u6 eYZ).trans H6.out.2.2.2.1, ((out11 w6 (w.heap.size + 1 + 1) (.int .i64 z0) (.int .i64 z1) (.int .i64 z2) (.int .i64 z3) (.int .i64 z4) (.int .i64 z5) (.slice zp6 zl6 zk6) (.slice zp7 zl7 zk7) (.int .i64 z8) (.int .i64 z9) (.string z10)).cell (p := ⟨Y, 4, none⟩) u6 eYZ).trans H6.out.2.2.2.2.1, ((out11 w6 (w.heap.size + 1 + 1) (.int .i64 z0) (.int .i64 z1) (.int .i64 z2) (.int .i64 z3) (.int .i64 z4) (.int .i64 z5) (.slice zp6 zl6 zk6) (.slice zp7 zl7 zk7) (.int .i64 z8) (.int .i64 z9) (.string z10)).cell (p := ⟨Y, 5, none⟩) u6 eYZ).trans H6.out.2.2.2.2.2.1, ((out11 w6 (w.heap.size + 1 + 1) (.int .i64 z0) (.int .i64 z1) (.int .i64 z2) (.int .i64 z3) (.int .i64 z4) (.int .i64 z5) (.slice zp6 zl6 zk6) (.slice zp7 zl7 zk7) (.int .i64 z8) (.int .i64 z9) (.string z10)).cell (p := ⟨Y, 6, none⟩) u6 eYZ).trans H6.out.2.2.2.2.2.2.1, ((out11 w6 (w.heap.size + 1 + 1) (.int .i64 z0) (.int .i64 z1) (.int .i64 z2) (.int .i64 z3) (.int .i64 z4) (.int .i64 z5) (.slice zp6 zl6 zk6) (.slice zp7 zl7 zk7) (.int .i64 z8) (.int .i64 z9) (.string z10)).cell (p := ⟨Y, 7, none⟩) u6 eYZ).trans H6.out.2.2.2.2.2.2.2.1, ((out11 w6 (w.heap.size + 1 + 1) (.int .i64 z0) (.int .i64 z1) (.int .i64 z2) (.int .i64 z3) (.int .i64 z4) (.int .i64 z5) (.slice zp6 zl6 zk6) (.slice zp7 zl7 zk7) (.int .i64 z8) (.int .i64 z9) (.string z10)).cell (p := ⟨Y, 8, none⟩) u6 eYZ).trans H6.out.2.2.2.2.2.2.2.2.1, ((out11 w6 (w.heap.size + 1 + 1) (.int .i64 z0) (.int .i64 z1) (.int .i64 z2) (.int .i64 z3) (.int .i64 z4) (.int .i64 z5) (.slice zp6 zl6 zk6) (.slice zp7 zl7 zk7) (.int .i64 z8) (.int .i64 z9) (.string z10)).cell (p := ⟨Y, 9, none⟩) u6 eYZ).trans H6.out.2.2.2.2.2.2.2.2.2.1, ((out11 w6 (w.heap.size + 1 + 1) (.int .i64 z0) (.int .i64 z1) (.int .i64 z2) (.int .i64 z3) (.int .i64 z4) (.int .i64 z5) (.slice zp6 zl6 zk6) (.slice zp7 zl7 zk7) (.int .i64 z8) (.int .i64 z9) (.string z10)).cell (p := ⟨Y, 10, none⟩) u6 eYZ).trans H6.out.2.2.2.2.2.2.2.2.2.2⟩)
    (first
      | (go_at_call 13; refine (HPr.out _ (by first | exact B1.out | exact Brk.below_drew B1.out) (HM.out _ (by first | exact B1.out | exact Brk.below_drew B1.out))).mono ?_; rintro e w5 ⟨S5, p5, c5, rfl, M5, T5, U5⟩; replace T5 : Hid (Step S W2 S5 w5) := Lib.hid ⟨⟨T5.out.os, T5.out.tape, T5.out.output, T5.out.size, T5.out.block⟩, T5.new⟩; have O5 := Lib.hid T5.out.out; have HU5 : Hid (∀ V, Below w5.heap.size w5 V → Outs V O p5 c5 ∧ Outs V O p' c') := Lib.hid fun V hV => ⟨U5 V (Out.ofNew hV), HU1.out V (((Out.ofNew (S := S) hb2.out).trans O5.out fun _ _ h => h).trans (Out.ofNew (S := S) hV) fun _ _ h => h)⟩; have H5 := Lib.hid (⟨(O5.out.cell (p := ⟨Y, 0, none⟩) lY nY).trans d0, (O5.out.cell (p := ⟨Y, 1, none⟩) lY nY).trans d1, (O5.out.cell (p := ⟨Y, 2, none⟩) lY nY).trans d2, (O5.out.cell (p := ⟨Y, 3, none⟩) lY nY).trans d3, (O5.out.cell (p := ⟨Y, 4, none⟩) lY nY).trans d4, (O5.out.cell (p := ⟨Y, 5, none⟩) lY nY).trans d5, (O5.out.cell (p := ⟨Y, 6, none⟩) lY nY).trans d6, (O5.out.cell (p := ⟨Y, 7, none⟩) lY nY).trans d7, (O5.out.cell (p := ⟨Y, 8, none⟩) lY nY).trans d8, (O5.out.cell (p := ⟨Y, 9, none⟩) lY nY).trans d9, (O5.out.cell (p := ⟨Y, 10, none⟩) lY nY).trans d10⟩ : w5.cell? ⟨Y, 0, none⟩ = some (.int .i64 z0) ∧ w5.cell? ⟨Y, 1, none⟩ = some (.int .i64 z1) ∧ w5.cell? ⟨Y, 2, none⟩ = some (.int .i64 z2) ∧ w5.cell? ⟨Y, 3, none⟩ = some (.int .i64 z3) ∧ w5.cell? ⟨Y, 4, none⟩ = some (.int .i64 z4) ∧ w5.cell? ⟨Y, 5, none⟩ = some (.int .i64 z5) ∧ w5.cell? ⟨Y, 6, none⟩ = some (.slice zp6 zl6 zk6) ∧ w5.cell? ⟨Y, 7, none⟩ = some (.slice zp7 zl7 zk7) ∧ w5.cell? ⟨Y, 8, none⟩ = some (.int .i64 z8) ∧ w5.cell? ⟨Y, 9, none⟩ = some (.int .i64 z9) ∧ w5.cell? ⟨Y, 10, none⟩ = some (.string z10)); have l6 := Nat.lt_of_lt_of_le lY O5.out.size; have l6' := Nat.lt_of_lt_of_le lX O5.out.size; have A5 := Lib.hid (A1.out.out O5.out HS.out); replace M5 := Lib.hid M5; clear U5)
      | (go_at_call 20; refine (same_outs O n HN.out _ _ _ _ _ (HU5.out _ (by first | exact Below.refl _ _ | exact Brk.below_drew (Below.refl _ _))).1 (HU5.out _ (by first | exact Below.refl _ _ | exact Brk.below_drew (Below.refl _ _))).2).mono ?_; rintro e w6 ⟨rfl, hb6⟩; replace hb6 : Below w5.heap.size w5 w6 := ⟨hb6.os, hb6.tape, hb6.output, hb6.size, hb6.block⟩; have H6 := Lib.hid (⟨((Out.ofNew (S := fun _ => False) hb6).cell (p := ⟨Y, 0, none⟩) l6 id).trans H5.out.1, ((Out.ofNew (S := fun _ => False) hb6).cell (p := ⟨Y, 1, none⟩) l6 id).trans H5.out.2.1, ((Out.ofNew (S := fun _ => False) hb6).cell (p := ⟨Y, 2, none⟩) l6 id).trans H5.out.2.2.1, ((Out.ofNew (S := fun _ => False) hb6).cell (p := ⟨Y, 3, none⟩) l6 id).trans H5.out.2.2.2.1, ((Out.ofNew (S := fun _ => False) hb6).cell (p := ⟨Y, 4, none⟩) l6 id).trans H5.out.2.2.2.2.1, ((Out.ofNew (S := fun _ => False) hb6).cell (p := ⟨Y, 5, none⟩) l6 id).trans H5.out.2.2.2.2.2.1, ((Out.ofNew (S := fun _ => False) hb6).cell (p := ⟨Y, 6, none⟩) l6 id).trans H5.out.2.2.2.2.2.2.1, ((Out.ofNew (S := fun _ => False) hb6).cell (p := ⟨Y, 7, none⟩) l6 id).trans H5.out.2.2.2.2.2.2.2.1, ((Out.ofNew (S := fun _ => False) hb6).cell (p := ⟨Y, 8, none⟩) l6 id).trans H5.out.2.2.2.2.2.2.2.2.1, ((Out.ofNew (S := fun _ => False) hb6).cell (p := ⟨Y, 9, none⟩) l6 id).trans H5.out.2.2.2.2.2.2.2.2.2.1, ((Out.ofNew (S := fun _ => False) hb6).cell (p := ⟨Y, 10, none⟩) l6 id).trans H5.out.2.2.2.2.2.2.2.2.2.2⟩ : w6.cell? ⟨Y, 0, none⟩ = some (.int .i64 z0) ∧ w6.cell? ⟨Y, 1, none⟩ = some (.int .i64 z1) ∧ w6.cell? ⟨Y, 2, none⟩ = some (.int .i64 z2) ∧ w6.cell? ⟨Y, 3, none⟩ = some (.int .i64 z3) ∧ w6.cell? ⟨Y, 4, none⟩ = some (.int .i64 z4) ∧ w6.cell? ⟨Y, 5, none⟩ = some (.int .i64 z5) ∧ w6.cell? ⟨Y, 6, none⟩ = some (.slice zp6 zl6 zk6) ∧ w6.cell? ⟨Y, 7, none⟩ = some (.slice zp7 zl7 zk7) ∧ w6.cell? ⟨Y, 8, none⟩ = some (.int .i64 z8) ∧ w6.cell? ⟨Y, 9, none⟩ = some (.int .i64 z9) ∧ w6.cell? ⟨Y, 10, none⟩ = some (.string z10)); have A6 := Lib.hid (A5.out.step hb6); obtain ⟨m0, m1, m2, m3, m4, m5, m6, m7, m8, m9, m10⟩ := row11 A6.out.b8; obtain ⟨f0, f1, f2, f3, f4, f5, f6, f7, f8, f9, f10⟩ := frz11 A6.out.b8; have u6 := Nat.lt_of_lt_of_le l6 hb6.size; have u6' := Nat.lt_of_lt_of_le l6' hb6.size))
  all_goals
    have HX := Lib.hid hb6
    clear HRef HPr A0 B0 d0 d1 d2 d3 d4 d5 d6 d7 d8 d9 d10 nY nX eYZ lY lX hb6 hy H6 H5
    go_wp2_with fail
    have hOUT : Out (fun i => i = w.heap.size + 1 + 1) w6 (((((((((((w6.setCell ⟨w.heap.size + 1 + 1, 0, none⟩ (.int .i64 z0)).setCell ⟨w.heap.size + 1 + 1, 1, none⟩ (.int .i64 z1)).setCell ⟨w.heap.size + 1 + 1, 2, none⟩ (.int .i64 z2)).setCell ⟨w.heap.size + 1 + 1, 3, none⟩ (.int .i64 z3)).setCell ⟨w.heap.size + 1 + 1, 4, none⟩ (.int .i64 z4)).setCell ⟨w.heap.size + 1 + 1, 5, none⟩ (.int .i64 z5)).setCell ⟨w.heap.size + 1 + 1, 6, none⟩ (.slice zp6 zl6 zk6)).setCell ⟨w.heap.size + 1 + 1, 7, none⟩ (.slice zp7 zl7 zk7)).setCell ⟨w.heap.size + 1 + 1, 8, none⟩ (.int .i64 z8)).setCell ⟨w.heap.size + 1 + 1, 9, none⟩ (.int .i64 z9)).setCell ⟨w.heap.size + 1 + 1, 10, none⟩ (.string z10)) := out11 _ _ _ _ _ _ _ _ _ _ _ _ _
    have hROW : (((((((((((w6.setCell ⟨w.heap.size + 1 + 1, 0, none⟩ (.int .i64 z0)).setCell ⟨w.heap.size + 1 + 1, 1, none⟩ (.int .i64 z1)).setCell ⟨w.heap.size + 1 + 1, 2, none⟩ (.int .i64 z2)).setCell ⟨w.heap.size + 1 + 1, 3, none⟩ (.int .i64 z3)).setCell ⟨w.heap.size + 1 + 1, 4, none⟩ (.int .i64 z4)).setCell ⟨w.heap.size + 1 + 1, 5, none⟩ (.int .i64 z5)).setCell ⟨w.heap.size + 1 + 1, 6, none⟩ (.slice zp6 zl6 zk6)).setCell ⟨w.heap.size + 1 + 1, 7, none⟩ (.slice zp7 zl7 zk7)).setCell ⟨w.heap.size + 1 + 1, 8, none⟩ (.int .i64 z8)).setCell ⟨w.heap.size + 1 + 1, 9, none⟩ (.int .i64 z9)).setCell ⟨w.heap.size + 1 + 1, 10, none⟩ (.string z10)).heap[w.heap.size + 1 + 1]? = some (.cells #[.int .i64 z0, .int .i64 z1, .int .i64 z2, .int .i64 z3, .int .i64 z4, .int .i64 z5, .slice zp6 zl6 zk6, .slice zp7 zl7 zk7, .int .i64 z8, .int .i64 z9, .string z10] 32 (0, 0)) := set11 A6.out.b8 _ _ _ _ _ _ _ _ _ _ _
    clear m0 m1 m2 m3 m4 m5 m6 m7 m8 m9 m10 f0 f1 f2 f3 f4 f5 f6 f7 f8 f9 f10
    obtain ⟨m0, m1, m2, m3, m4, m5, m6, m7, m8, m9, m10⟩ := row11 hROW
    generalize (((((((((((w6.setCell ⟨w.heap.size + 1 + 1, 0, none⟩ (.int .i64 z0)).setCell ⟨w.heap.size + 1 + 1, 1, none⟩ (.int .i64 z1)).setCell ⟨w.heap.size + 1 + 1, 2, none⟩ (.int .i64 z2)).setCell ⟨w.heap.size + 1 + 1, 3, none⟩ (.int .i64 z3)).setCell ⟨w.heap.size + 1 + 1, 4, none⟩ (.int .i64 z4)).setCell ⟨w.heap.size + 1 + 1, 5, none⟩ (.int .i64 z5)).setCell ⟨w.heap.size + 1 + 1, 6, none⟩ (.slice zp6 zl6 zk6)).setCell ⟨w.heap.size + 1 + 1, 7, none⟩ (.slice zp7 zl7 zk7)).setCell ⟨w.heap.size + 1 + 1, 8, none⟩ (.int .i64 z8)).setCell ⟨w.heap.size + 1 + 1, 9, none⟩ (.int .i64 z9)).setCell ⟨w.heap.size + 1 + 1, 10, none⟩ (.string z10)) = WF at *
    refine bodyPost_ret (v := .tuple #[.agg #[.int .i64 z0, .int .i64 z1, .int .i64 z2, .int .i64 z3, .int .i64 z4, .int .i64 z5, .slice zp6 zl6 zk6, .slice zp7 zl7 zk7, .int .i64 z8, .int .i64 z9, .string z10], .bool true]) ?_ rfl ?_
    · simp [results, Tryz.results7, go_sem, m0, m1, m2, m3, m4, m5, m6, m7, m8, m9, m10]
    · exact do_fin HS.out A1.out.size B1.out M5.out T5.out HR1.out HX.out A6.out.b8 hOUT rfl
end Go.Proofs.YtnkhdpenmekhdaaGreat.Lin
end

section
namespace Go.Proofs.YtnkhdpenmekhdaaGreat.Lin
open Go.RowKit Go.Proofs.YtnkhdpenmekhdaaGreat.Own Go.Proofs.YtnkhdpenmekhdaaGreat.Brk Go.Proofs.YtnkhdpenmekhdaaGreat.Calc Go.Proofs.YtnkhdpenmekhdaaGreat.Tree Go.Proofs.YtnkhdpenmekhdaaGreat.Run Go.Proofs.YtnkhdpenmekhdaaGreat.Bkf

set_option maxRecDepth 100000 in
set_option maxHeartbeats 8000000 in
theorem do_stop {w : World} {S : Nat → Prop} {k : Nat} {x : Ln} {v : Value} (P : Pr w S k x v) (kk g r now : Int) (ok : Bool) (s : List UInt8) (q : Option Addr) (m cq : Nat) (h0 : 0 ≤ kk) (h1 : kk ≤ 255) (hk : kk % 10 = 4)  :
    Calls Tryz.prog 7 #[.pointer (some ⟨k, 0, none⟩), v, .agg #[.int .u8 kk, .int .u8 g, .bool ok, .int .i64 r, .string ⟨s.toArray⟩, .slice q m cq], .int .i64 now] w (DoPost w S k (stopL x)) := by
  have hRf := P.rf
  obtain ⟨x0, x1, x2, x3, x4, x5, xp6, xl6, xk6, xp7, xl7, xk7, x8, x9, x10, rfl⟩ := hRf.cells
  have hS := P.mem.lt
  have HS := Lib.hid hS
  obtain ⟨Yl, hY⟩ : ∃ y, stopL x = y := ⟨_, rfl⟩
  obtain ⟨O, hO⟩ : ∃ y, stopO x = y := ⟨_, rfl⟩
  obtain ⟨n, hn⟩ : ∃ y, O.length = y := ⟨_, rfl⟩
  have HN := Lib.hid hn
  have HM := Lib.hid (fun W (hW : Below w.heap.size w W) => P.mem.below hW)
  have hOK : ∀ W, Below w.heap.size w W → ∀ L p c, OKS S w L p c → Ops W L p c := fun W hW L p c h => h W (Out.ofNew hW)
  have HRef : Hid (∀ W, Below w.heap.size w W → Calls Tryz.prog 27 #[.agg #[.int .i64 x0, .int .i64 x1, .int .i64 x2, .int .i64 x3, .int .i64 x4, .int .i64 x5, .slice xp6 xl6 xk6, .slice xp7 xl7 xk7, .int .i64 x8, .int .i64 x9, .string x10]] W fun e w' => ∃ z0 z1 z2 z3 z4 z5 zp6 zl6 zk6 zp7 zl7 zk7 z8 z9 z10 p c, e = .returned (.tuple #[.agg #[.int .i64 z0, .int .i64 z1, .int .i64 z2, .int .i64 z3, .int .i64 z4, .int .i64 z5, .slice zp6 zl6 zk6, .slice zp7 zl7 zk7, .int .i64 z8, .int .i64 z9, .string z10], .slice p n c]) ∧ Rf (OKS S w) Yl (.agg #[.int .i64 z0, .int .i64 z1, .int .i64 z2, .int .i64 z3, .int .i64 z4, .int .i64 z5, .slice zp6 zl6 zk6, .slice zp7 zl7 zk7, .int .i64 z8, .int .i64 z9, .string z10]) ∧ Below W.heap.size W w' ∧ ∀ V, Out S w' V → Outs V O p c) := Lib.hid fun W hW => by
    refine (rstop_calls W (P.rf)).mono fun e w' he => ?_
    rw [hY, hO] at he
    exact ref_post (fun i hi => Nat.lt_of_lt_of_le (hS i hi) hW.size) hn he
  have HPr : Hid (∀ W, Below w.heap.size w W → Mem W k S x → Calls Tryz.prog 19 #[.pointer (some ⟨k, 0, none⟩)] W fun e w' => ∃ S' p c, e = .returned (.slice p n c) ∧ Mem w' k S' Yl ∧ Step S W S' w' ∧ ∀ V, Out S' w' V → Outs V O p c) := Lib.hid fun W hWb hW => by
    refine (stop_calls hW).mono fun e w' he => ?_
    rw [hY, hO] at he
    exact prog_post HN.out he
  have A0 := Lib.hid (DoB.start w #[.int .i64 x0, .int .i64 x1, .int .i64 x2, .int .i64 x3, .int .i64 x4, .int .i64 x5, .slice xp6 xl6 xk6, .slice xp7 xl7 xk7, .int .i64 x8, .int .i64 x9, .string x10] #[.int .u8 kk, .int .u8 g, .bool ok, .int .i64 r, .string ⟨s.toArray⟩, .slice q m cq])
  have B0 := Lib.hid (start3 w #[.int .i64 x0, .int .i64 x1, .int .i64 x2, .int .i64 x3, .int .i64 x4, .int .i64 x5, .slice xp6 xl6 xk6, .slice xp7 xl7 xk7, .int .i64 x8, .int .i64 x9, .string x10] #[.int .u8 kk, .int .u8 g, .bool ok, .int .i64 r, .string ⟨s.toArray⟩, .slice q m cq])
  rw [hY]
  clear P hRf hY hO hn hS hOK
  go_enter Tryz.func7, Tryz.ntmps7
  go_wp2_with fail
  refine (HRef.out _ B0.out).mono ?_
  rintro e w1 ⟨z0, z1, z2, z3, z4, z5, zp6, zl6, zk6, zp7, zl7, zk7, z8, z9, z10, p', c', rfl, hR1, hb1, hU1⟩
  have HR1 := Lib.hid hR1
  have HU1 := Lib.hid hU1
  have A1 := Lib.hid ((A0.out.step hb1).step ((Below.refl _ w1).alloc (Nat.le_refl _) (.cells #[.int .i64 z0, .int .i64 z1, .int .i64 z2, .int .i64 z3, .int .i64 z4, .int .i64 z5, .slice zp6 zl6 zk6, .slice zp7 zl7 zk7, .int .i64 z8, .int .i64 z9, .string z10] 32 (0, 0))))
  have B1 := Lib.hid ((B0.out.trans (hb1.mono B0.out.size)).alloc (Nat.le_trans B0.out.size hb1.size) (.cells #[.int .i64 z0, .int .i64 z1, .int .i64 z2, .int .i64 z3, .int .i64 z4, .int .i64 z5, .slice zp6 zl6 zk6, .slice zp7 zl7 zk7, .int .i64 z8, .int .i64 z9, .string z10] 32 (0, 0)))
  have hy := at_new w1 (.cells #[.int .i64 z0, .int .i64 z1, .int .i64 z2, .int .i64 z3, .int .i64 z4, .int .i64 z5, .slice zp6 zl6 zk6, .slice zp7 zl7 zk7, .int .i64 z8, .int .i64 z9, .string z10] 32 (0, 0))
  have hz1 := Lib.hid (show w.heap.size + 2 < w1.heap.size from (A0.out.step hb1).size)
  have hb2 := Lib.hid ((Below.refl _ w1).alloc (Nat.le_refl _) (.cells #[.int .i64 z0, .int .i64 z1, .int .i64 z2, .int .i64 z3, .int .i64 z4, .int .i64 z5, .slice zp6 zl6 zk6, .slice zp7 zl7 zk7, .int .i64 z8, .int .i64 z9, .string z10] 32 (0, 0)))
  clear hR1 hb1 hU1
  go_wp2_with fail
  obtain ⟨Y, hY⟩ : ∃ Y, w1.heap.size = Y := ⟨_, rfl⟩
  rw [hY] at hy ⊢
  obtain ⟨W2, hW2⟩ : ∃ W, w1.alloc (.cells #[.int .i64 z0, .int .i64 z1, .int .i64 z2, .int .i64 z3, .int .i64 z4, .int .i64 z5, .slice zp6 zl6 zk6, .slice zp7 zl7 zk7, .int .i64 z8, .int .i64 z9, .string z10] 32 (0, 0)) = W := ⟨_, rfl⟩
  rw [hW2] at A1 B1 hy hb2 ⊢
  have HYY := Lib.hid hY
  clear hW2 hY
  obtain ⟨d0, d1, d2, d3, d4, d5, d6, d7, d8, d9, d10⟩ := row11 hy
  have lY := at_lt hy
  have lX : w.heap.size + 1 < W2.heap.size := by have := A1.out.size; omega
  have nY : ¬ S Y := fun hk => by have := HS.out _ hk; have := hz1.out; have := HYY.out; omega
  have nX : ¬ S (w.heap.size + 1) := fun hk => by have := HS.out _ hk; omega
  have eYZ : Y ≠ w.heap.size + 1 + 1 := by have := hz1.out; have := HYY.out; omega
  go_region_held3 (fun w' => w'.cell? ⟨Y, 0, none⟩ = some (.int .i64 z0) ∧ w'.cell? ⟨Y, 1, none⟩ = some (.int .i64 z1) ∧ w'.cell? ⟨Y, 2, none⟩ = some (.int .i64 z2) ∧ w'.cell? ⟨Y, 3, none⟩ = some (.int .i64 z3) ∧ w'.cell? ⟨Y, 4, none⟩ = some (.int .i64 z4) ∧ w'.cell? ⟨Y, 5, none⟩ = some (.int .i64 z5) ∧ w'.cell? ⟨Y, 6, none⟩ = some (.slice zp6 zl6 zk6) ∧ w'.cell? ⟨Y, 7, none⟩ = some (.slice zp7 zl7 zk7) ∧ w'.cell? ⟨Y, 8, none⟩ = some (.int .i64 z8) ∧ w'.cell? ⟨Y, 9, none⟩ = some (.int .i64 z9) ∧ w'.cell? ⟨Y, 10, none⟩ = some (.string z10))
    (first
      | with_reducible exact ⟨d0, d1, d2, d3, d4, d5, d6, d7, d8, d9, d10⟩
      | with_reducible exact H6.out
      | with_reducible exact H5.out
      | with_reducible exact ⟨((out_drew1 W2).cell (p := ⟨Y, 0, none⟩) lY id).trans d0, ((out_drew1 W2).cell (p := ⟨Y, 1, none⟩) lY id).trans d1, ((out_drew1 W2).cell (p := ⟨Y, 2, none⟩) lY id).trans d2, ((out_drew1 W2).cell (p := ⟨Y, 3, none⟩) lY id).trans d3, ((out_drew1 W2).cell (p := ⟨Y, 4, none⟩) lY id).trans d4, ((out_drew1 W2).cell (p := ⟨Y, 5, none⟩) lY id).trans d5, ((out_drew1 W2).cell (p := ⟨Y, 6, none⟩) lY id).trans d6, ((out_drew1 W2).cell (p := ⟨Y, 7, none⟩) lY id).trans d7, ((out_drew1 W2).cell (p := ⟨Y, 8, none⟩) lY id).trans d8, ((out_drew1 W2).cell (p := ⟨Y, 9, none⟩) lY id).trans d9, ((out_drew1 W2).cell (p := ⟨Y, 10, none⟩) lY id).trans d10⟩
      | with_reducible exact ⟨((out11 w6 (w.heap.size + 1 + 1) (.int .i64 z0) (.int .i64 z1) (.int .i64 z2) (.int .i64 z3) (.int .i64 z4) (.int .i64 z5) (.slice zp6 zl6 zk6) (.slice zp7 zl7 zk7) (.int .i64 z8) (.int .i64 z9) (.string z10)).cell (p := ⟨Y, 0, none⟩) u6 eYZ).trans H6.out.1, ((out11 w6 (w.heap.size + 1 + 1) (.int .i64 z0) (.int .i64 z1) (.int .i64 z2) (.int .i64 z3) (.int .i64 z4) (.int .i64 z5) (.slice zp6 zl6 zk6) (.slice zp7 zl7 zk7) (.int .i64 z8) (.int .i64 z9) (.string z10)).cell (p := ⟨Y, 1, none⟩) u6 eYZ).trans H6.out.2.1, ((out11 w6 (w.heap.size + 1 + 1) (.int .i64 z0) (.int .i64 z1) (.int .i64 z2) (.int .i64 z3) (.int .i64 z4) (.int .i64 z5) (.slice zp6 zl6 zk6) (.slice zp7 zl7 zk7) (.int .i64 z8) (.int .i64 z9) (.string z10)).cell (p := ⟨Y, 2, none⟩) u6 eYZ).trans H6.out.2.2.1, ((out11 w6 (w.heap.size + 1 + 1) (.int .i64 z0) (.int .i64 z1) (.int .i64 z2) (.int .i64 z3) (.int .i64 z4) (.int .i64 z5) (.slice zp6 zl6 zk6) (.slice zp7 zl7 zk7) (.int .i64 z8) (.int .i64 z9) (.string z10)).cell (p := ⟨Y, 3, none⟩) u6 eYZ).trans H6.out.2.2.2.1, ((out11 w6 (w.heap.size + 1 + 1) (.int .i64 z0) (.int .i64 z1) (.int .i64 z2) (.int .i64 z3) (.int .i64 z4) (.int .i64 z5) (.slice zp6 zl6 zk6) (.slice zp7 zl7 zk7) (.int .i64 z8) (.int .i64 z9) (.string z10)).cell (p := ⟨Y, 4, none⟩) u6 eYZ).trans H6.out.2.2.2.2.1, ((out11 w6 (w.heap.size + 1 + 1) (.int .i64 z0) (.int .i64 z1) (.int .i64 z2) (.int .i64 z3) (.int .i64 z4) (.int .i64 z5) (.slice zp6 zl6 zk6) (.slice zp7 zl7 zk7) (.int .i64 z8) (.int .i64 z9) (.string z10)).cell (p := ⟨Y, 5, none⟩) u6 eYZ).trans H6.out.2.2.2.2.2.1, ((out11 w6 (w.heap.size + 1 + 1) (.int .i64 z0) (.int .i64 z1) (.int .i64 z2) (.int .i64 z3) (.int .i64 z4) (.int .i64 z5) (.slice zp6 zl6 zk6) (.slice zp7 zl7 zk7) (.int .i64 z8) (.int .i64 z9) (.string z10)).cell (p := ⟨Y, 6, none⟩) u6 eYZ).trans H6.out.2.2.2.2.2.2.1, ((out11 w6 (w.heap.size + 1 + 1) (.int .i64 z0) (.int .i64 z1) (.int .i64 z2) (.int .i64 z3) (.int .i64 z4) (.int .i64 z5) (.slice zp6 zl6 zk6) (.slice zp7 zl7 zk7) (.int .i64 z8) (.int .i64 z9) (.string z10)).cell (p := ⟨Y, 7, none⟩) u6 eYZ).trans H6.out.2.2.2.2.2.2.2.1, ((out11 w6 (w.heap.size + 1 + 1) (.int .i64 z0) (.int .i64 z1) (.int .i64 z2) (.int .i64 z3) (.int .i64 z4) (.int .i64 z5) (.slice zp6 zl6 zk6) (.slice zp7 zl7 zk7) (.int .i64 z8) (.int .i64 z9) (.string z10)).cell (p := ⟨Y, 8, none⟩) u6 eYZ).trans H6.out.2.2.2.2.2.2.2.2.1, ((out11 w6 (w.heap.size + 1 + 1) (.int .i64 z0) (.int .i64 z1) (.int .i64 z2) (.int .i64 z3) (.int .i64 z4) (.int .i64 z5) (.slice zp6 zl6 zk6) (.slice zp7 zl7 zk7) (.int .i64 z8) (.int .i64 z9) (.string z10)).cell (p := ⟨Y, 9, none⟩) u6 eYZ).trans H6.out.2.2.2.2.2.2.2.2.2.1, ((out11 w6 (w.heap.size + 1 + 1) (.int .i64 z0) (.int .i64 z1) (.int .i64 z2) (.int .i64 z3) (.int .i64 z4) (.int .i64 z5) (.slice zp6 zl6 zk6) (.slice zp7 zl7 zk7) (.int .i64 z8) (.int .i64 z9) (.string z10)).cell (p := ⟨Y, 10, none⟩) u6 eYZ).trans H6.out.2.2.2.2.2.2.2.2.2.2⟩)
    (first
      | (go_at_call 19; refine (HPr.out _ (by first | exact B1.out | exact Brk.below_drew B1.out) (HM.out _ (by first | exact B1.out | exact Brk.below_drew B1.out))).mono ?_; rintro e w5 ⟨S5, p5, c5, rfl, M5, T5, U5⟩; replace T5 : Hid (Step S W2 S5 w5) := Lib.hid ⟨⟨T5.out.os, T5.out.tape, T5.out.output, T5.out.size, T5.out.block⟩, T5.new⟩; have O5 := Lib.hid T5.out.out; have HU5 : Hid (∀ V, Below w5.heap.size w5 V → Outs V O p5 c5 ∧ Outs V O p' c') := Lib.hid fun V hV => ⟨U5 V (Out.ofNew hV), HU1.out V (((Out.ofNew (S := S) hb2.out).trans O5.out fun _ _ h => h).trans (Out.ofNew (S := S) hV) fun _ _ h => h)⟩; have H5 := Lib.hid (⟨(O5.out.cell (p := ⟨Y, 0, none⟩) lY nY).trans d0, (O5.out.cell (p := ⟨Y, 1, none⟩) lY nY).trans d1, (O5.out.cell (p := ⟨Y, 2, none⟩) lY nY).trans d2, (O5.out.cell (p := ⟨Y, 3, none⟩) lY nY).trans d3, (O5.out.cell (p := ⟨Y, 4, none⟩) lY nY).trans d4, (O5.out.cell (p := ⟨Y, 5, none⟩) lY nY).trans d5, (O5.out.cell (p := ⟨Y, 6, none⟩) lY nY).trans d6, (O5.out.cell (p := ⟨Y, 7, none⟩) lY nY).trans d7, (O5.out.cell (p := ⟨Y, 8, none⟩) lY nY).trans d8, (O5.out.cell (p := ⟨Y, 9, none⟩) lY nY).trans d9, (O5.out.cell (p := ⟨Y, 10, none⟩) lY nY).trans d10⟩ : w5.cell? ⟨Y, 0, none⟩ = some (.int .i64 z0) ∧ w5.cell? ⟨Y, 1, none⟩ = some (.int .i64 z1) ∧ w5.cell? ⟨Y, 2, none⟩ = some (.int .i64 z2) ∧ w5.cell? ⟨Y, 3, none⟩ = some (.int .i64 z3) ∧ w5.cell? ⟨Y, 4, none⟩ = some (.int .i64 z4) ∧ w5.cell? ⟨Y, 5, none⟩ = some (.int .i64 z5) ∧ w5.cell? ⟨Y, 6, none⟩ = some (.slice zp6 zl6 zk6) ∧ w5.cell? ⟨Y, 7, none⟩ = some (.slice zp7 zl7 zk7) ∧ w5.cell? ⟨Y, 8, none⟩ = some (.int .i64 z8) ∧ w5.cell? ⟨Y, 9, none⟩ = some (.int .i64 z9) ∧ w5.cell? ⟨Y, 10, none⟩ = some (.string z10)); have l6 := Nat.lt_of_lt_of_le lY O5.out.size; have l6' := Nat.lt_of_lt_of_le lX O5.out.size; have A5 := Lib.hid (A1.out.out O5.out HS.out); replace M5 := Lib.hid M5; clear U5)
      | (go_at_call 20; refine (same_outs O n HN.out _ _ _ _ _ (HU5.out _ (by first | exact Below.refl _ _ | exact Brk.below_drew (Below.refl _ _))).1 (HU5.out _ (by first | exact Below.refl _ _ | exact Brk.below_drew (Below.refl _ _))).2).mono ?_; rintro e w6 ⟨rfl, hb6⟩; replace hb6 : Below w5.heap.size w5 w6 := ⟨hb6.os, hb6.tape, hb6.output, hb6.size, hb6.block⟩; have H6 := Lib.hid (⟨((Out.ofNew (S := fun _ => False) hb6).cell (p := ⟨Y, 0, none⟩) l6 id).trans H5.out.1, ((Out.ofNew (S := fun _ => False) hb6).cell (p := ⟨Y, 1, none⟩) l6 id).trans H5.out.2.1, ((Out.ofNew (S := fun _ => False) hb6).cell (p := ⟨Y, 2, none⟩) l6 id).trans H5.out.2.2.1, ((Out.ofNew (S := fun _ => False) hb6).cell (p := ⟨Y, 3, none⟩) l6 id).trans H5.out.2.2.2.1, ((Out.ofNew (S := fun _ => False) hb6).cell (p := ⟨Y, 4, none⟩) l6 id).trans H5.out.2.2.2.2.1, ((Out.ofNew (S := fun _ => False) hb6).cell (p := ⟨Y, 5, none⟩) l6 id).trans H5.out.2.2.2.2.2.1, ((Out.ofNew (S := fun _ => False) hb6).cell (p := ⟨Y, 6, none⟩) l6 id).trans H5.out.2.2.2.2.2.2.1, ((Out.ofNew (S := fun _ => False) hb6).cell (p := ⟨Y, 7, none⟩) l6 id).trans H5.out.2.2.2.2.2.2.2.1, ((Out.ofNew (S := fun _ => False) hb6).cell (p := ⟨Y, 8, none⟩) l6 id).trans H5.out.2.2.2.2.2.2.2.2.1, ((Out.ofNew (S := fun _ => False) hb6).cell (p := ⟨Y, 9, none⟩) l6 id).trans H5.out.2.2.2.2.2.2.2.2.2.1, ((Out.ofNew (S := fun _ => False) hb6).cell (p := ⟨Y, 10, none⟩) l6 id).trans H5.out.2.2.2.2.2.2.2.2.2.2⟩ : w6.cell? ⟨Y, 0, none⟩ = some (.int .i64 z0) ∧ w6.cell? ⟨Y, 1, none⟩ = some (.int .i64 z1) ∧ w6.cell? ⟨Y, 2, none⟩ = some (.int .i64 z2) ∧ w6.cell? ⟨Y, 3, none⟩ = some (.int .i64 z3) ∧ w6.cell? ⟨Y, 4, none⟩ = some (.int .i64 z4) ∧ w6.cell? ⟨Y, 5, none⟩ = some (.int .i64 z5) ∧ w6.cell? ⟨Y, 6, none⟩ = some (.slice zp6 zl6 zk6) ∧ w6.cell? ⟨Y, 7, none⟩ = some (.slice zp7 zl7 zk7) ∧ w6.cell? ⟨Y, 8, none⟩ = some (.int .i64 z8) ∧ w6.cell? ⟨Y, 9, none⟩ = some (.int .i64 z9) ∧ w6.cell? ⟨Y, 10, none⟩ = some (.string z10)); have A6 := Lib.hid (A5.out.step hb6); obtain ⟨m0, m1, m2, m3, m4, m5, m6, m7, m8, m9, m10⟩ := row11 A6.out.b8; obtain ⟨f0, f1, f2, f3, f4, f5, f6, f7, f8, f9, f10⟩ := frz11 A6.out.b8; have u6 := Nat.lt_of_lt_of_le l6 hb6.size; have u6' := Nat.lt_of_lt_of_le l6' hb6.size))
  all_goals
    have HX := Lib.hid hb6
    clear HRef HPr A0 B0 d0 d1 d2 d3 d4 d5 d6 d7 d8 d9 d10 nY nX eYZ lY lX hb6 hy H6 H5
    go_wp2_with fail
    have hOUT : Out (fun i => i = w.heap.size + 1 + 1) w6 (((((((((((w6.setCell ⟨w.heap.size + 1 + 1, 0, none⟩ (.int .i64 z0)).setCell ⟨w.heap.size + 1 + 1, 1, none⟩ (.int .i64 z1)).setCell ⟨w.heap.size + 1 + 1, 2, none⟩ (.int .i64 z2)).setCell ⟨w.heap.size + 1 + 1, 3, none⟩ (.int .i64 z3)).setCell ⟨w.heap.size + 1 + 1, 4, none⟩ (.int .i64 z4)).setCell ⟨w.heap.size + 1 + 1, 5, none⟩ (.int .i64 z5)).setCell ⟨w.heap.size + 1 + 1, 6, none⟩ (.slice zp6 zl6 zk6)).setCell ⟨w.heap.size + 1 + 1, 7, none⟩ (.slice zp7 zl7 zk7)).setCell ⟨w.heap.size + 1 + 1, 8, none⟩ (.int .i64 z8)).setCell ⟨w.heap.size + 1 + 1, 9, none⟩ (.int .i64 z9)).setCell ⟨w.heap.size + 1 + 1, 10, none⟩ (.string z10)) := out11 _ _ _ _ _ _ _ _ _ _ _ _ _
    have hROW : (((((((((((w6.setCell ⟨w.heap.size + 1 + 1, 0, none⟩ (.int .i64 z0)).setCell ⟨w.heap.size + 1 + 1, 1, none⟩ (.int .i64 z1)).setCell ⟨w.heap.size + 1 + 1, 2, none⟩ (.int .i64 z2)).setCell ⟨w.heap.size + 1 + 1, 3, none⟩ (.int .i64 z3)).setCell ⟨w.heap.size + 1 + 1, 4, none⟩ (.int .i64 z4)).setCell ⟨w.heap.size + 1 + 1, 5, none⟩ (.int .i64 z5)).setCell ⟨w.heap.size + 1 + 1, 6, none⟩ (.slice zp6 zl6 zk6)).setCell ⟨w.heap.size + 1 + 1, 7, none⟩ (.slice zp7 zl7 zk7)).setCell ⟨w.heap.size + 1 + 1, 8, none⟩ (.int .i64 z8)).setCell ⟨w.heap.size + 1 + 1, 9, none⟩ (.int .i64 z9)).setCell ⟨w.heap.size + 1 + 1, 10, none⟩ (.string z10)).heap[w.heap.size + 1 + 1]? = some (.cells #[.int .i64 z0, .int .i64 z1, .int .i64 z2, .int .i64 z3, .int .i64 z4, .int .i64 z5, .slice zp6 zl6 zk6, .slice zp7 zl7 zk7, .int .i64 z8, .int .i64 z9, .string z10] 32 (0, 0)) := set11 A6.out.b8 _ _ _ _ _ _ _ _ _ _ _
    clear m0 m1 m2 m3 m4 m5 m6 m7 m8 m9 m10 f0 f1 f2 f3 f4 f5 f6 f7 f8 f9 f10
    obtain ⟨m0, m1, m2, m3, m4, m5, m6, m7, m8, m9, m10⟩ := row11 hROW
    generalize (((((((((((w6.setCell ⟨w.heap.size + 1 + 1, 0, none⟩ (.int .i64 z0)).setCell ⟨w.heap.size + 1 + 1, 1, none⟩ (.int .i64 z1)).setCell ⟨w.heap.size + 1 + 1, 2, none⟩ (.int .i64 z2)).setCell ⟨w.heap.size + 1 + 1, 3, none⟩ (.int .i64 z3)).setCell ⟨w.heap.size + 1 + 1, 4, none⟩ (.int .i64 z4)).setCell ⟨w.heap.size + 1 + 1, 5, none⟩ (.int .i64 z5)).setCell ⟨w.heap.size + 1 + 1, 6, none⟩ (.slice zp6 zl6 zk6)).setCell ⟨w.heap.size + 1 + 1, 7, none⟩ (.slice zp7 zl7 zk7)).setCell ⟨w.heap.size + 1 + 1, 8, none⟩ (.int .i64 z8)).setCell ⟨w.heap.size + 1 + 1, 9, none⟩ (.int .i64 z9)).setCell ⟨w.heap.size + 1 + 1, 10, none⟩ (.string z10)) = WF at *
    refine bodyPost_ret (v := .tuple #[.agg #[.int .i64 z0, .int .i64 z1, .int .i64 z2, .int .i64 z3, .int .i64 z4, .int .i64 z5, .slice zp6 zl6 zk6, .slice zp7 zl7 zk7, .int .i64 z8, .int .i64 z9, .string z10], .bool true]) ?_ rfl ?_
    · simp [results, Tryz.results7, go_sem, m0, m1, m2, m3, m4, m5, m6, m7, m8, m9, m10]
    · exact do_fin HS.out A1.out.size B1.out M5.out T5.out HR1.out HX.out A6.out.b8 hOUT rfl
end Go.Proofs.YtnkhdpenmekhdaaGreat.Lin
end

section
namespace Go.Proofs.YtnkhdpenmekhdaaGreat.Lin
open Go.RowKit Go.Proofs.YtnkhdpenmekhdaaGreat.Own Go.Proofs.YtnkhdpenmekhdaaGreat.Brk Go.Proofs.YtnkhdpenmekhdaaGreat.Calc Go.Proofs.YtnkhdpenmekhdaaGreat.Tree Go.Proofs.YtnkhdpenmekhdaaGreat.Run Go.Proofs.YtnkhdpenmekhdaaGreat.Bkf

section
variable {OK : List Op → Option Addr → Nat → Prop} {x : Ln} {v : Value}
set_option maxRecDepth 100000 in
set_option maxHeartbeats 1500000 in
theorem ropened_calls (now r : Int) (ok : Bool) (hb : x.n < 1000000000000000000) (w : World) (hOK : ∀ L p c, OK L p c → Ops w L p c) (h : Rf OK x v) : Calls Tryz.prog 28 #[v, .int .i64 now, .bool ok, .int .i64 r] w (RGives OK w (openL x now ok r) (openO x now ok)) := by
  have HR := Lib.hid h
  obtain ⟨at_, pF, cF, pL, lL, cL, start, done, h⟩ := h
  obtain ⟨rfl, hf, hw, hr, hg, hi⟩ := h
  have HF := Lib.hid hf
  have HG := Lib.hid hg
  have HRUN := Lib.hid hr
  have HIDLE := Lib.hid hi
  have HOK := Lib.hid hOK
  clear hf hw hr hg hi hOK
  unfold lnC at *
  have HB := Lib.hid (late_calls now)
  by_cases hs : x.st = 2
  · by_cases hn : bef now = true
    · have HN := Lib.hid hn
      have hB : openB x now = true := by unfold openB; simp [hs, hn]
      rw [hn] at HB
      have hnb := bef_iff.1 hn
      cases ok with
      | false =>
        have HL : Hid (openL x now false r = failL x now r) := Lib.hid (by unfold openL; rw [if_pos hB]; rfl)
        have HO : Hid (openO x now false = []) := Lib.hid (by unfold openO; rw [if_neg (by simp)])
        have HR2 : Hid (Rf OK x (.agg #[.int .i64 x.b, .int .i64 x.c, .int .i64 x.j, .int .i64 2, .int .i64 x.n, .int .i64 at_, .slice pF x.F.length cF, .slice pL lL cL, .int .i64 start, .int .i64 done, .string ⟨x.H.toArray⟩])) := Lib.hid (by have := HR.out; rwa [hs] at this)
        clear hn hB
        go_enter Tryz.func28, Tryz.ntmps28
        go_wp2_with (go_at_call 50; refine (HB.out _).mono ?_; rintro e w' ⟨rfl, rfl⟩)
        have hAA := ((Below.refl w.heap.size w).alloc (Nat.le_refl _) (.cells #[.int .i64 x.b, .int .i64 x.c, .int .i64 x.j, .int .i64 2, .int .i64 x.n, .int .i64 at_, .slice pF x.F.length cF, .slice pL lL cL, .int .i64 start, .int .i64 done, .string ⟨x.H.toArray⟩] 32 (0, 0))).alloc (by simp) (.cells #[.int .i64 0, .int .i64 0, .int .i64 0, .int .i64 0, .int .i64 0, .int .i64 0, .slice none 0 0, .slice none 0 0, .int .i64 0, .int .i64 0, .string ⟨#[]⟩] 32 (0, 0))
        have hMM := at_newk (w.alloc (.cells #[.int .i64 x.b, .int .i64 x.c, .int .i64 x.j, .int .i64 2, .int .i64 x.n, .int .i64 at_, .slice pF x.F.length cF, .slice pL lL cL, .int .i64 start, .int .i64 done, .string ⟨x.H.toArray⟩] 32 (0, 0))) (.cells #[.int .i64 0, .int .i64 0, .int .i64 0, .int .i64 0, .int .i64 0, .int .i64 0, .slice none 0 0, .slice none 0 0, .int .i64 0, .int .i64 0, .string ⟨#[]⟩] 32 (0, 0)) (k := w.heap.size + 1) (by simp)
        have hSS : ((w.alloc (.cells #[.int .i64 x.b, .int .i64 x.c, .int .i64 x.j, .int .i64 2, .int .i64 x.n, .int .i64 at_, .slice pF x.F.length cF, .slice pL lL cL, .int .i64 start, .int .i64 done, .string ⟨x.H.toArray⟩] 32 (0, 0))).alloc (.cells #[.int .i64 0, .int .i64 0, .int .i64 0, .int .i64 0, .int .i64 0, .int .i64 0, .slice none 0 0, .slice none 0 0, .int .i64 0, .int .i64 0, .string ⟨#[]⟩] 32 (0, 0))).heap.size = w.heap.size + 1 + 1 := by simp
        generalize (w.alloc (.cells #[.int .i64 x.b, .int .i64 x.c, .int .i64 x.j, .int .i64 2, .int .i64 x.n, .int .i64 at_, .slice pF x.F.length cF, .slice pL lL cL, .int .i64 start, .int .i64 done, .string ⟨x.H.toArray⟩] 32)).alloc (.cells #[.int .i64 0, .int .i64 0, .int .i64 0, .int .i64 0, .int .i64 0, .int .i64 0, .slice none 0 0, .slice none 0 0, .int .i64 0, .int .i64 0, .string ⟨#[]⟩] 32) = W at *
        refine (rfailed_calls now r HN.out hb W HR2.out).mono ?_
        rintro e w5 ⟨v5, rfl, hR5, hB5⟩
        obtain ⟨y, hy⟩ : ∃ y, failL x now r = y := ⟨_, rfl⟩
        rw [hy] at hR5
        have HY := Lib.hid hy
        have HR5 := Lib.hid hR5
        obtain ⟨aty, pFy, cFy, pLy, lLy, cLy, sy, dy, hR5⟩ := hR5
        obtain ⟨rfl, -, -, -, -, -⟩ := hR5
        have HB5 := Lib.hid (hAA.trans (hB5.mono hAA.size))
        have hrs5 := (hB5.block _ (at_lt hMM)).trans hMM
        have HRS5 := Lib.hid hrs5
        obtain ⟨r0, r1, r2, r3, r4, r5, r6, r7, r8, r9, r10⟩ := row11 hrs5
        obtain ⟨g0, g1, g2, g3, g4, g5, g6, g7, g8, g9, g10⟩ := frz11 hrs5
        have hs5 := hB5.size
        unfold lnC
        clear hAA hMM hB5 hrs5 hy
        go_wp2_with fail
        have hOUT : Out (fun i => i = w.heap.size + 1) w5 (((((((((((w5.setCell ⟨w.heap.size + 1, 0, none⟩ (.int .i64 y.b)).setCell ⟨w.heap.size + 1, 1, none⟩ (.int .i64 y.c)).setCell ⟨w.heap.size + 1, 2, none⟩ (.int .i64 y.j)).setCell ⟨w.heap.size + 1, 3, none⟩ (.int .i64 y.st)).setCell ⟨w.heap.size + 1, 4, none⟩ (.int .i64 y.n)).setCell ⟨w.heap.size + 1, 5, none⟩ (.int .i64 aty)).setCell ⟨w.heap.size + 1, 6, none⟩ (.slice pFy y.F.length cFy)).setCell ⟨w.heap.size + 1, 7, none⟩ (.slice pLy lLy cLy)).setCell ⟨w.heap.size + 1, 8, none⟩ (.int .i64 sy)).setCell ⟨w.heap.size + 1, 9, none⟩ (.int .i64 dy)).setCell ⟨w.heap.size + 1, 10, none⟩ (.string ⟨y.H.toArray⟩)) := out11 _ _ _ _ _ _ _ _ _ _ _ _ _
        have hROW : (((((((((((w5.setCell ⟨w.heap.size + 1, 0, none⟩ (.int .i64 y.b)).setCell ⟨w.heap.size + 1, 1, none⟩ (.int .i64 y.c)).setCell ⟨w.heap.size + 1, 2, none⟩ (.int .i64 y.j)).setCell ⟨w.heap.size + 1, 3, none⟩ (.int .i64 y.st)).setCell ⟨w.heap.size + 1, 4, none⟩ (.int .i64 y.n)).setCell ⟨w.heap.size + 1, 5, none⟩ (.int .i64 aty)).setCell ⟨w.heap.size + 1, 6, none⟩ (.slice pFy y.F.length cFy)).setCell ⟨w.heap.size + 1, 7, none⟩ (.slice pLy lLy cLy)).setCell ⟨w.heap.size + 1, 8, none⟩ (.int .i64 sy)).setCell ⟨w.heap.size + 1, 9, none⟩ (.int .i64 dy)).setCell ⟨w.heap.size + 1, 10, none⟩ (.string ⟨y.H.toArray⟩)).heap[w.heap.size + 1]? = some (.cells #[.int .i64 y.b, .int .i64 y.c, .int .i64 y.j, .int .i64 y.st, .int .i64 y.n, .int .i64 aty, .slice pFy y.F.length cFy, .slice pLy lLy cLy, .int .i64 sy, .int .i64 dy, .string ⟨y.H.toArray⟩] 32 (0, 0)) := set11 HRS5.out _ _ _ _ _ _ _ _ _ _ _
        obtain ⟨k0, k1, k2, k3, k4, k5, k6, k7, k8, k9, k10⟩ := row11 hROW
        generalize (((((((((((w5.setCell ⟨w.heap.size + 1, 0, none⟩ (.int .i64 y.b)).setCell ⟨w.heap.size + 1, 1, none⟩ (.int .i64 y.c)).setCell ⟨w.heap.size + 1, 2, none⟩ (.int .i64 y.j)).setCell ⟨w.heap.size + 1, 3, none⟩ (.int .i64 y.st)).setCell ⟨w.heap.size + 1, 4, none⟩ (.int .i64 y.n)).setCell ⟨w.heap.size + 1, 5, none⟩ (.int .i64 aty)).setCell ⟨w.heap.size + 1, 6, none⟩ (.slice pFy y.F.length cFy)).setCell ⟨w.heap.size + 1, 7, none⟩ (.slice pLy lLy cLy)).setCell ⟨w.heap.size + 1, 8, none⟩ (.int .i64 sy)).setCell ⟨w.heap.size + 1, 9, none⟩ (.int .i64 dy)).setCell ⟨w.heap.size + 1, 10, none⟩ (.string ⟨y.H.toArray⟩)) = WF at *
        refine bodyPost_ret (v := .tuple #[.agg #[.int .i64 y.b, .int .i64 y.c, .int .i64 y.j, .int .i64 y.st, .int .i64 y.n, .int .i64 aty, .slice pFy y.F.length cFy, .slice pLy lLy cLy, .int .i64 sy, .int .i64 dy, .string ⟨y.H.toArray⟩], .slice none 0 0]) ?_ rfl ?_
        · simp [results, Tryz.results28, go_sem, k0, k1, k2, k3, k4, k5, k6, k7, k8, k9, k10]
        exact ⟨_, _, rfl, by rw [HL.out, HY.out]; exact HR5.out, by rw [HO.out]; exact mineO_nil _ _, HB5.out.trans (hOUT.below HB5.out.size fun i e => by omega)⟩
      | true =>
        have hcf := HG.out.first now hn
        have HL : Hid (openL x now true r = goL (runs (zero x) 3 x.F now) now) := Lib.hid (by unfold openL; rw [if_pos hB, if_pos rfl, begL_yes hcf])
        have HO : Hid (openO x now true = goO (runs (zero x) 3 x.F now) now) := Lib.hid (by unfold openO; rw [if_pos ⟨hB, rfl⟩, begO_yes hcf])
        have HRF : Hid (Rf OK (runs (zero x) 3 x.F now) (.agg #[.int .i64 x.b, .int .i64 x.c, .int .i64 x.j, .int .i64 3, .int .i64 0, .int .i64 at_, .slice pF x.F.length cF, .slice pF x.F.length cF, .int .i64 now, .int .i64 (now - 1), .string ⟨x.H.toArray⟩])) := Lib.hid ⟨at_, pF, cF, pF, x.F.length, cF, now, now - 1, rfl, HF.out, fun e => by have e : (3 : Int) = 1 := e; omega, fun _ => ⟨x.F, HF.out, rfl, HG.out.few, hcf, rfl, rfl, rfl⟩, good_runs (good_zero HG.out) (.inl rfl) hcf HG.out.few, fun h => absurd (goes_runs (.inl rfl) _ _) h⟩
        clear hn hB hcf
        go_enter Tryz.func28, Tryz.ntmps28
        go_wp2_with (go_at_call 50; refine (HB.out _).mono ?_; rintro e w' ⟨rfl, rfl⟩)
        have hAA := ((Below.refl w.heap.size w).alloc (Nat.le_refl _) (.cells #[.int .i64 x.b, .int .i64 x.c, .int .i64 x.j, .int .i64 3, .int .i64 0, .int .i64 at_, .slice pF x.F.length cF, .slice pF x.F.length cF, .int .i64 now, .int .i64 (now - 1), .string ⟨x.H.toArray⟩] 32 (0, 0))).alloc (by simp) (.cells #[.int .i64 0, .int .i64 0, .int .i64 0, .int .i64 0, .int .i64 0, .int .i64 0, .slice none 0 0, .slice none 0 0, .int .i64 0, .int .i64 0, .string ⟨#[]⟩] 32 (0, 0))
        have hMM := at_newk (w.alloc (.cells #[.int .i64 x.b, .int .i64 x.c, .int .i64 x.j, .int .i64 3, .int .i64 0, .int .i64 at_, .slice pF x.F.length cF, .slice pF x.F.length cF, .int .i64 now, .int .i64 (now - 1), .string ⟨x.H.toArray⟩] 32 (0, 0))) (.cells #[.int .i64 0, .int .i64 0, .int .i64 0, .int .i64 0, .int .i64 0, .int .i64 0, .slice none 0 0, .slice none 0 0, .int .i64 0, .int .i64 0, .string ⟨#[]⟩] 32 (0, 0)) (k := w.heap.size + 1) (by simp)
        have hSS : ((w.alloc (.cells #[.int .i64 x.b, .int .i64 x.c, .int .i64 x.j, .int .i64 3, .int .i64 0, .int .i64 at_, .slice pF x.F.length cF, .slice pF x.F.length cF, .int .i64 now, .int .i64 (now - 1), .string ⟨x.H.toArray⟩] 32 (0, 0))).alloc (.cells #[.int .i64 0, .int .i64 0, .int .i64 0, .int .i64 0, .int .i64 0, .int .i64 0, .slice none 0 0, .slice none 0 0, .int .i64 0, .int .i64 0, .string ⟨#[]⟩] 32 (0, 0))).heap.size = w.heap.size + 1 + 1 := by simp
        generalize (w.alloc (.cells #[.int .i64 x.b, .int .i64 x.c, .int .i64 x.j, .int .i64 3, .int .i64 0, .int .i64 at_, .slice pF x.F.length cF, .slice pF x.F.length cF, .int .i64 now, .int .i64 (now - 1), .string ⟨x.H.toArray⟩] 32)).alloc (.cells #[.int .i64 0, .int .i64 0, .int .i64 0, .int .i64 0, .int .i64 0, .int .i64 0, .slice none 0 0, .slice none 0 0, .int .i64 0, .int .i64 0, .string ⟨#[]⟩] 32) = W at *
        refine (rgoOn_calls now (goes_runs (.inl rfl) _ _) W (fun L p c h => (HOK.out L p c h).below hAA) HRF.out).mono ?_
        rintro e w5 ⟨v5, u5, rfl, hR5, hM5, hB5⟩
        obtain ⟨y, hy⟩ : ∃ y, goL (runs (zero x) 3 x.F now) now = y := ⟨_, rfl⟩
        rw [hy] at hR5
        have HY := Lib.hid hy
        have HR5 := Lib.hid hR5
        obtain ⟨aty, pFy, cFy, pLy, lLy, cLy, sy, dy, hR5⟩ := hR5
        obtain ⟨rfl, -, -, -, -, -⟩ := hR5
        have HB5 := Lib.hid (hAA.trans (hB5.mono hAA.size))
        have hrs5 := (hB5.block _ (at_lt hMM)).trans hMM
        have HRS5 := Lib.hid hrs5
        have HM5 := Lib.hid hM5
        obtain ⟨r0, r1, r2, r3, r4, r5, r6, r7, r8, r9, r10⟩ := row11 hrs5
        obtain ⟨g0, g1, g2, g3, g4, g5, g6, g7, g8, g9, g10⟩ := frz11 hrs5
        have hs5 := hB5.size
        unfold lnC
        clear hAA hMM hB5 hrs5 hy hM5
        go_wp2_with fail
        have hOUT : Out (fun i => i = w.heap.size + 1) w5 (((((((((((w5.setCell ⟨w.heap.size + 1, 0, none⟩ (.int .i64 y.b)).setCell ⟨w.heap.size + 1, 1, none⟩ (.int .i64 y.c)).setCell ⟨w.heap.size + 1, 2, none⟩ (.int .i64 y.j)).setCell ⟨w.heap.size + 1, 3, none⟩ (.int .i64 y.st)).setCell ⟨w.heap.size + 1, 4, none⟩ (.int .i64 y.n)).setCell ⟨w.heap.size + 1, 5, none⟩ (.int .i64 aty)).setCell ⟨w.heap.size + 1, 6, none⟩ (.slice pFy y.F.length cFy)).setCell ⟨w.heap.size + 1, 7, none⟩ (.slice pLy lLy cLy)).setCell ⟨w.heap.size + 1, 8, none⟩ (.int .i64 sy)).setCell ⟨w.heap.size + 1, 9, none⟩ (.int .i64 dy)).setCell ⟨w.heap.size + 1, 10, none⟩ (.string ⟨y.H.toArray⟩)) := out11 _ _ _ _ _ _ _ _ _ _ _ _ _
        have hROW : (((((((((((w5.setCell ⟨w.heap.size + 1, 0, none⟩ (.int .i64 y.b)).setCell ⟨w.heap.size + 1, 1, none⟩ (.int .i64 y.c)).setCell ⟨w.heap.size + 1, 2, none⟩ (.int .i64 y.j)).setCell ⟨w.heap.size + 1, 3, none⟩ (.int .i64 y.st)).setCell ⟨w.heap.size + 1, 4, none⟩ (.int .i64 y.n)).setCell ⟨w.heap.size + 1, 5, none⟩ (.int .i64 aty)).setCell ⟨w.heap.size + 1, 6, none⟩ (.slice pFy y.F.length cFy)).setCell ⟨w.heap.size + 1, 7, none⟩ (.slice pLy lLy cLy)).setCell ⟨w.heap.size + 1, 8, none⟩ (.int .i64 sy)).setCell ⟨w.heap.size + 1, 9, none⟩ (.int .i64 dy)).setCell ⟨w.heap.size + 1, 10, none⟩ (.string ⟨y.H.toArray⟩)).heap[w.heap.size + 1]? = some (.cells #[.int .i64 y.b, .int .i64 y.c, .int .i64 y.j, .int .i64 y.st, .int .i64 y.n, .int .i64 aty, .slice pFy y.F.length cFy, .slice pLy lLy cLy, .int .i64 sy, .int .i64 dy, .string ⟨y.H.toArray⟩] 32 (0, 0)) := set11 HRS5.out _ _ _ _ _ _ _ _ _ _ _
        obtain ⟨k0, k1, k2, k3, k4, k5, k6, k7, k8, k9, k10⟩ := row11 hROW
        generalize (((((((((((w5.setCell ⟨w.heap.size + 1, 0, none⟩ (.int .i64 y.b)).setCell ⟨w.heap.size + 1, 1, none⟩ (.int .i64 y.c)).setCell ⟨w.heap.size + 1, 2, none⟩ (.int .i64 y.j)).setCell ⟨w.heap.size + 1, 3, none⟩ (.int .i64 y.st)).setCell ⟨w.heap.size + 1, 4, none⟩ (.int .i64 y.n)).setCell ⟨w.heap.size + 1, 5, none⟩ (.int .i64 aty)).setCell ⟨w.heap.size + 1, 6, none⟩ (.slice pFy y.F.length cFy)).setCell ⟨w.heap.size + 1, 7, none⟩ (.slice pLy lLy cLy)).setCell ⟨w.heap.size + 1, 8, none⟩ (.int .i64 sy)).setCell ⟨w.heap.size + 1, 9, none⟩ (.int .i64 dy)).setCell ⟨w.heap.size + 1, 10, none⟩ (.string ⟨y.H.toArray⟩)) = WF at *
        refine bodyPost_ret (v := .tuple #[.agg #[.int .i64 y.b, .int .i64 y.c, .int .i64 y.j, .int .i64 y.st, .int .i64 y.n, .int .i64 aty, .slice pFy y.F.length cFy, .slice pLy lLy cLy, .int .i64 sy, .int .i64 dy, .string ⟨y.H.toArray⟩], u5]) ?_ rfl ?_
        · simp [results, Tryz.results28, go_sem, k0, k1, k2, k3, k4, k5, k6, k7, k8, k9, k10]
        have := own_out (own2_base HM5.out (show w.heap.size ≤ W.heap.size by omega)) hOUT fun g hg e => by have := (own_lt HM5.out hg).1; omega
        exact ⟨_, _, rfl, by rw [HL.out, HY.out]; exact HR5.out, by rw [HO.out]; exact this, HB5.out.trans (hOUT.below HB5.out.size fun i e => by omega)⟩
    · have hB : ¬ openB x now = true := by unfold openB; simp [hn]
      have HL : Hid (openL x now ok r = x) := Lib.hid (by unfold openL; rw [if_neg hB])
      have HO : Hid (openO x now ok = []) := Lib.hid (by unfold openO; rw [if_neg (fun h => hB h.1)])
      rw [show bef now = false by simpa using hn] at HB
      clear hn hB
      go_enter Tryz.func28, Tryz.ntmps28
      go_wp2_with (go_at_call 50; refine (HB.out _).mono ?_; rintro e w' ⟨rfl, rfl⟩)
      refine bodyPost_ret (v := .tuple #[.agg #[.int .i64 x.b, .int .i64 x.c, .int .i64 x.j, .int .i64 x.st, .int .i64 x.n, .int .i64 at_, .slice pF x.F.length cF, .slice pL lL cL, .int .i64 start, .int .i64 done, .string ⟨x.H.toArray⟩], .slice none 0 0]) ?_ rfl ⟨_, _, rfl, by rw [HL.out]; exact HR.out, by rw [HO.out]; exact mineO_nil _ _, ?_⟩
      · simp [results, Tryz.results28, go_sem, hs]
      · exact ((Below.refl _ _).alloc (Nat.le_refl _) _).alloc (by simp) _
  · have hB : ¬ openB x now = true := by unfold openB; simp [hs]
    have HL : Hid (openL x now ok r = x) := Lib.hid (by unfold openL; rw [if_neg hB])
    have HO : Hid (openO x now ok = []) := Lib.hid (by unfold openO; rw [if_neg (fun h => hB h.1)])
    have hst := HG.out.st
    have h5 : x.st = 0 ∨ x.st = 1 ∨ x.st = 3 ∨ x.st = 4 ∨ x.st = 5 := by omega
    clear hB hs hst
    rcases h5 with hs | hs | hs | hs | hs <;>
    · go_enter Tryz.func28, Tryz.ntmps28
      go_wp2_with (go_at_call 50; refine (HB.out _).mono ?_; rintro e w' ⟨rfl, rfl⟩)
      refine bodyPost_ret (v := .tuple #[.agg #[.int .i64 x.b, .int .i64 x.c, .int .i64 x.j, .int .i64 x.st, .int .i64 x.n, .int .i64 at_, .slice pF x.F.length cF, .slice pL lL cL, .int .i64 start, .int .i64 done, .string ⟨x.H.toArray⟩], .slice none 0 0]) ?_ rfl ⟨_, _, rfl, by rw [HL.out]; exact HR.out, by rw [HO.out]; exact mineO_nil _ _, ?_⟩
      · simp [results, Tryz.results28, go_sem, hs]
      · exact ((Below.refl _ _).alloc (Nat.le_refl _) _).alloc (by simp) _
set_option maxRecDepth 100000 in
set_option maxHeartbeats 1500000 in
theorem rlost_calls (now r : Int) (hb : x.n < 1000000000000000000) (w : World) (hOK : ∀ L p c, OK L p c → Ops w L p c) (h : Rf OK x v) : Calls Tryz.prog 29 #[v, .int .i64 now, .int .i64 r] w fun e w' => ∃ v', e = .returned (.tuple #[v', .bool (lostB x now)]) ∧ Rf OK (lostL x now r) v' ∧ Below w.heap.size w w' := by
  have HR := Lib.hid h
  obtain ⟨at_, pF, cF, pL, lL, cL, start, done, h⟩ := h
  obtain ⟨rfl, hf, hw, hr, hg, hi⟩ := h
  have HF := Lib.hid hf
  have HG := Lib.hid hg
  have HRUN := Lib.hid hr
  have HIDLE := Lib.hid hi
  have HOK := Lib.hid hOK
  clear hf hw hr hg hi hOK
  unfold lnC at *
  have HB := Lib.hid (late_calls now)
  by_cases hB : lostB x now = true
  · have HL : Hid (lostB x now = true ∧ lostL x now r = failL x now r) := Lib.hid ⟨hB, by unfold lostL; rw [if_pos hB]⟩
    have hq : 3 ≤ x.st ∧ bef now = true := by unfold lostB at hB; simpa using hB
    have HN := Lib.hid hq.2
    rw [hq.2] at HB
    have z1 : ¬ x.st < 3 := by omega
    clear hB hq
    go_enter Tryz.func29, Tryz.ntmps29
    go_wp2_with (go_at_call 50; refine (HB.out _).mono ?_; rintro e w' ⟨rfl, rfl⟩)
    have hAA := ((Below.refl w.heap.size w).alloc (Nat.le_refl _) (.cells #[.int .i64 x.b, .int .i64 x.c, .int .i64 x.j, .int .i64 x.st, .int .i64 x.n, .int .i64 at_, .slice pF x.F.length cF, .slice pL lL cL, .int .i64 start, .int .i64 done, .string ⟨x.H.toArray⟩] 32 (0, 0))).alloc (by simp) (.cells #[.int .i64 0, .int .i64 0, .int .i64 0, .int .i64 0, .int .i64 0, .int .i64 0, .slice none 0 0, .slice none 0 0, .int .i64 0, .int .i64 0, .string ⟨#[]⟩] 32 (0, 0))
    have hMM := at_newk (w.alloc (.cells #[.int .i64 x.b, .int .i64 x.c, .int .i64 x.j, .int .i64 x.st, .int .i64 x.n, .int .i64 at_, .slice pF x.F.length cF, .slice pL lL cL, .int .i64 start, .int .i64 done, .string ⟨x.H.toArray⟩] 32 (0, 0))) (.cells #[.int .i64 0, .int .i64 0, .int .i64 0, .int .i64 0, .int .i64 0, .int .i64 0, .slice none 0 0, .slice none 0 0, .int .i64 0, .int .i64 0, .string ⟨#[]⟩] 32 (0, 0)) (k := w.heap.size + 1) (by simp)
    have hSS : ((w.alloc (.cells #[.int .i64 x.b, .int .i64 x.c, .int .i64 x.j, .int .i64 x.st, .int .i64 x.n, .int .i64 at_, .slice pF x.F.length cF, .slice pL lL cL, .int .i64 start, .int .i64 done, .string ⟨x.H.toArray⟩] 32 (0, 0))).alloc (.cells #[.int .i64 0, .int .i64 0, .int .i64 0, .int .i64 0, .int .i64 0, .int .i64 0, .slice none 0 0, .slice none 0 0, .int .i64 0, .int .i64 0, .string ⟨#[]⟩] 32 (0, 0))).heap.size = w.heap.size + 1 + 1 := by simp
    generalize (w.alloc (.cells #[.int .i64 x.b, .int .i64 x.c, .int .i64 x.j, .int .i64 x.st, .int .i64 x.n, .int .i64 at_, .slice pF x.F.length cF, .slice pL lL cL, .int .i64 start, .int .i64 done, .string ⟨x.H.toArray⟩] 32)).alloc (.cells #[.int .i64 0, .int .i64 0, .int .i64 0, .int .i64 0, .int .i64 0, .int .i64 0, .slice none 0 0, .slice none 0 0, .int .i64 0, .int .i64 0, .string ⟨#[]⟩] 32) = W at *
    refine (rfailed_calls now r HN.out hb W HR.out).mono ?_
    rintro e w5 ⟨v5, rfl, hR5, hB5⟩
    obtain ⟨y, hy⟩ : ∃ y, failL x now r = y := ⟨_, rfl⟩
    rw [hy] at hR5
    have HY := Lib.hid hy
    have HR5 := Lib.hid hR5
    obtain ⟨aty, pFy, cFy, pLy, lLy, cLy, sy, dy, hR5⟩ := hR5
    obtain ⟨rfl, -, -, -, -, -⟩ := hR5
    have HB5 := Lib.hid (hAA.trans (hB5.mono hAA.size))
    have hrs5 := (hB5.block _ (at_lt hMM)).trans hMM
    have HRS5 := Lib.hid hrs5
    obtain ⟨r0, r1, r2, r3, r4, r5, r6, r7, r8, r9, r10⟩ := row11 hrs5
    obtain ⟨g0, g1, g2, g3, g4, g5, g6, g7, g8, g9, g10⟩ := frz11 hrs5
    have hs5 := hB5.size
    unfold lnC
    clear hAA hMM hB5 hrs5 hy
    go_wp2_with fail
    have hOUT : Out (fun i => i = w.heap.size + 1) w5 (((((((((((w5.setCell ⟨w.heap.size + 1, 0, none⟩ (.int .i64 y.b)).setCell ⟨w.heap.size + 1, 1, none⟩ (.int .i64 y.c)).setCell ⟨w.heap.size + 1, 2, none⟩ (.int .i64 y.j)).setCell ⟨w.heap.size + 1, 3, none⟩ (.int .i64 y.st)).setCell ⟨w.heap.size + 1, 4, none⟩ (.int .i64 y.n)).setCell ⟨w.heap.size + 1, 5, none⟩ (.int .i64 aty)).setCell ⟨w.heap.size + 1, 6, none⟩ (.slice pFy y.F.length cFy)).setCell ⟨w.heap.size + 1, 7, none⟩ (.slice pLy lLy cLy)).setCell ⟨w.heap.size + 1, 8, none⟩ (.int .i64 sy)).setCell ⟨w.heap.size + 1, 9, none⟩ (.int .i64 dy)).setCell ⟨w.heap.size + 1, 10, none⟩ (.string ⟨y.H.toArray⟩)) := out11 _ _ _ _ _ _ _ _ _ _ _ _ _
    have hROW : (((((((((((w5.setCell ⟨w.heap.size + 1, 0, none⟩ (.int .i64 y.b)).setCell ⟨w.heap.size + 1, 1, none⟩ (.int .i64 y.c)).setCell ⟨w.heap.size + 1, 2, none⟩ (.int .i64 y.j)).setCell ⟨w.heap.size + 1, 3, none⟩ (.int .i64 y.st)).setCell ⟨w.heap.size + 1, 4, none⟩ (.int .i64 y.n)).setCell ⟨w.heap.size + 1, 5, none⟩ (.int .i64 aty)).setCell ⟨w.heap.size + 1, 6, none⟩ (.slice pFy y.F.length cFy)).setCell ⟨w.heap.size + 1, 7, none⟩ (.slice pLy lLy cLy)).setCell ⟨w.heap.size + 1, 8, none⟩ (.int .i64 sy)).setCell ⟨w.heap.size + 1, 9, none⟩ (.int .i64 dy)).setCell ⟨w.heap.size + 1, 10, none⟩ (.string ⟨y.H.toArray⟩)).heap[w.heap.size + 1]? = some (.cells #[.int .i64 y.b, .int .i64 y.c, .int .i64 y.j, .int .i64 y.st, .int .i64 y.n, .int .i64 aty, .slice pFy y.F.length cFy, .slice pLy lLy cLy, .int .i64 sy, .int .i64 dy, .string ⟨y.H.toArray⟩] 32 (0, 0)) := set11 HRS5.out _ _ _ _ _ _ _ _ _ _ _
    obtain ⟨k0, k1, k2, k3, k4, k5, k6, k7, k8, k9, k10⟩ := row11 hROW
    generalize (((((((((((w5.setCell ⟨w.heap.size + 1, 0, none⟩ (.int .i64 y.b)).setCell ⟨w.heap.size + 1, 1, none⟩ (.int .i64 y.c)).setCell ⟨w.heap.size + 1, 2, none⟩ (.int .i64 y.j)).setCell ⟨w.heap.size + 1, 3, none⟩ (.int .i64 y.st)).setCell ⟨w.heap.size + 1, 4, none⟩ (.int .i64 y.n)).setCell ⟨w.heap.size + 1, 5, none⟩ (.int .i64 aty)).setCell ⟨w.heap.size + 1, 6, none⟩ (.slice pFy y.F.length cFy)).setCell ⟨w.heap.size + 1, 7, none⟩ (.slice pLy lLy cLy)).setCell ⟨w.heap.size + 1, 8, none⟩ (.int .i64 sy)).setCell ⟨w.heap.size + 1, 9, none⟩ (.int .i64 dy)).setCell ⟨w.heap.size + 1, 10, none⟩ (.string ⟨y.H.toArray⟩)) = WF at *
    refine bodyPost_ret (v := .tuple #[.agg #[.int .i64 y.b, .int .i64 y.c, .int .i64 y.j, .int .i64 y.st, .int .i64 y.n, .int .i64 aty, .slice pFy y.F.length cFy, .slice pLy lLy cLy, .int .i64 sy, .int .i64 dy, .string ⟨y.H.toArray⟩], .bool true]) ?_ rfl ?_
    · simp [results, Tryz.results29, go_sem, k0, k1, k2, k3, k4, k5, k6, k7, k8, k9, k10]
    exact ⟨_, by rw [HL.out.1], by rw [HL.out.2, HY.out]; exact HR5.out, HB5.out.trans (hOUT.below HB5.out.size fun i e => by omega)⟩
  · have HL : Hid (lostB x now = false ∧ lostL x now r = x) := Lib.hid ⟨by simpa using hB, by unfold lostL; rw [if_neg hB]⟩
    by_cases h3 : x.st < 3
    · clear hB
      go_enter Tryz.func29, Tryz.ntmps29
      go_wp2_with (go_at_call 50; refine (HB.out _).mono ?_; rintro e w' ⟨rfl, rfl⟩)
      refine bodyPost_ret (v := .tuple #[.agg #[.int .i64 x.b, .int .i64 x.c, .int .i64 x.j, .int .i64 x.st, .int .i64 x.n, .int .i64 at_, .slice pF x.F.length cF, .slice pL lL cL, .int .i64 start, .int .i64 done, .string ⟨x.H.toArray⟩], .bool false]) ?_ rfl ⟨_, by rw [HL.out.1], by rw [HL.out.2]; exact HR.out, ?_⟩
      · simp [results, Tryz.results29, go_sem]
      · exact ((Below.refl _ _).alloc (Nat.le_refl _) _).alloc (by simp) _
    · have hn : bef now = false := by
        unfold lostB at hB
        rw [decide_eq_true (show 3 ≤ x.st by omega)] at hB
        simpa using hB
      rw [hn] at HB
      clear hB hn
      go_enter Tryz.func29, Tryz.ntmps29
      go_wp2_with (go_at_call 50; refine (HB.out _).mono ?_; rintro e w' ⟨rfl, rfl⟩)
      refine bodyPost_ret (v := .tuple #[.agg #[.int .i64 x.b, .int .i64 x.c, .int .i64 x.j, .int .i64 x.st, .int .i64 x.n, .int .i64 at_, .slice pF x.F.length cF, .slice pL lL cL, .int .i64 start, .int .i64 done, .string ⟨x.H.toArray⟩], .bool false]) ?_ rfl ⟨_, by rw [HL.out.1], by rw [HL.out.2]; exact HR.out, ?_⟩
      · simp [results, Tryz.results29, go_sem]
      · exact ((Below.refl _ _).alloc (Nat.le_refl _) _).alloc (by simp) _
end
end Go.Proofs.YtnkhdpenmekhdaaGreat.Lin
end

section
namespace Go.Proofs.YtnkhdpenmekhdaaGreat.Lin
open Go.RowKit Go.Proofs.YtnkhdpenmekhdaaGreat.Own Go.Proofs.YtnkhdpenmekhdaaGreat.Brk Go.Proofs.YtnkhdpenmekhdaaGreat.Calc Go.Proofs.YtnkhdpenmekhdaaGreat.Tree Go.Proofs.YtnkhdpenmekhdaaGreat.Run Go.Proofs.YtnkhdpenmekhdaaGreat.Bkf

set_option maxRecDepth 100000 in
set_option maxHeartbeats 8000000 in
theorem do_opened {w : World} {S : Nat → Prop} {k : Nat} {x : Ln} {v : Value} (P : Pr w S k x v) (kk g r now : Int) (ok : Bool) (s : List UInt8) (q : Option Addr) (m cq : Nat) (h0 : 0 ≤ kk) (h1 : kk ≤ 255) (hk : kk % 10 = 5) (hb : x.n < 1000000000000000000) :
    Calls Tryz.prog 7 #[.pointer (some ⟨k, 0, none⟩), v, .agg #[.int .u8 kk, .int .u8 g, .bool ok, .int .i64 r, .string ⟨s.toArray⟩, .slice q m cq], .int .i64 now] w (DoPost w S k (openL x now ok r)) := by
  have hRf := P.rf
  obtain ⟨x0, x1, x2, x3, x4, x5, xp6, xl6, xk6, xp7, xl7, xk7, x8, x9, x10, rfl⟩ := hRf.cells
  have hS := P.mem.lt
  have HS := Lib.hid hS
  obtain ⟨Yl, hY⟩ : ∃ y, openL x now ok r = y := ⟨_, rfl⟩
  obtain ⟨O, hO⟩ : ∃ y, openO x now ok = y := ⟨_, rfl⟩
  obtain ⟨n, hn⟩ : ∃ y, O.length = y := ⟨_, rfl⟩
  have HN := Lib.hid hn
  have HM := Lib.hid (fun W (hW : Below w.heap.size w W) => P.mem.below hW)
  have hOK : ∀ W, Below w.heap.size w W → ∀ L p c, OKS S w L p c → Ops W L p c := fun W hW L p c h => h W (Out.ofNew hW)
  have HRef : Hid (∀ W, Below w.heap.size w W → Calls Tryz.prog 28 #[.agg #[.int .i64 x0, .int .i64 x1, .int .i64 x2, .int .i64 x3, .int .i64 x4, .int .i64 x5, .slice xp6 xl6 xk6, .slice xp7 xl7 xk7, .int .i64 x8, .int .i64 x9, .string x10], .int .i64 now, .bool ok, .int .i64 r] W fun e w' => ∃ z0 z1 z2 z3 z4 z5 zp6 zl6 zk6 zp7 zl7 zk7 z8 z9 z10 p c, e = .returned (.tuple #[.agg #[.int .i64 z0, .int .i64 z1, .int .i64 z2, .int .i64 z3, .int .i64 z4, .int .i64 z5, .slice zp6 zl6 zk6, .slice zp7 zl7 zk7, .int .i64 z8, .int .i64 z9, .string z10], .slice p n c]) ∧ Rf (OKS S w) Yl (.agg #[.int .i64 z0, .int .i64 z1, .int .i64 z2, .int .i64 z3, .int .i64 z4, .int .i64 z5, .slice zp6 zl6 zk6, .slice zp7 zl7 zk7, .int .i64 z8, .int .i64 z9, .string z10]) ∧ Below W.heap.size W w' ∧ ∀ V, Out S w' V → Outs V O p c) := Lib.hid fun W hW => by
    refine (ropened_calls now r ok hb W (hOK W hW) (P.rf)).mono fun e w' he => ?_
    rw [hY, hO] at he
    exact ref_post (fun i hi => Nat.lt_of_lt_of_le (hS i hi) hW.size) hn he
  have HPr : Hid (∀ W, Below w.heap.size w W → Mem W k S x → Calls Tryz.prog 14 #[.pointer (some ⟨k, 0, none⟩), .int .i64 now, .bool ok, .int .i64 r] W fun e w' => ∃ S' p c, e = .returned (.slice p n c) ∧ Mem w' k S' Yl ∧ Step S W S' w' ∧ ∀ V, Out S' w' V → Outs V O p c) := Lib.hid fun W hWb hW => by
    refine (opened_calls now r ok hb hW).mono fun e w' he => ?_
    rw [hY, hO] at he
    exact prog_post HN.out he
  have A0 := Lib.hid (DoB.start w #[.int .i64 x0, .int .i64 x1, .int .i64 x2, .int .i64 x3, .int .i64 x4, .int .i64 x5, .slice xp6 xl6 xk6, .slice xp7 xl7 xk7, .int .i64 x8, .int .i64 x9, .string x10] #[.int .u8 kk, .int .u8 g, .bool ok, .int .i64 r, .string ⟨s.toArray⟩, .slice q m cq])
  have B0 := Lib.hid (start3 w #[.int .i64 x0, .int .i64 x1, .int .i64 x2, .int .i64 x3, .int .i64 x4, .int .i64 x5, .slice xp6 xl6 xk6, .slice xp7 xl7 xk7, .int .i64 x8, .int .i64 x9, .string x10] #[.int .u8 kk, .int .u8 g, .bool ok, .int .i64 r, .string ⟨s.toArray⟩, .slice q m cq])
  rw [hY]
  clear P hRf hY hO hn hS hOK
  go_enter Tryz.func7, Tryz.ntmps7
  go_wp2_with fail
  refine (HRef.out _ B0.out).mono ?_
  rintro e w1 ⟨z0, z1, z2, z3, z4, z5, zp6, zl6, zk6, zp7, zl7, zk7, z8, z9, z10, p', c', rfl, hR1, hb1, hU1⟩
  have HR1 := Lib.hid hR1
  have HU1 := Lib.hid hU1
  have A1 := Lib.hid ((A0.out.step hb1).step ((Below.refl _ w1).alloc (Nat.le_refl _) (.cells #[.int .i64 z0, .int .i64 z1, .int .i64 z2, .int .i64 z3, .int .i64 z4, .int .i64 z5, .slice zp6 zl6 zk6, .slice zp7 zl7 zk7, .int .i64 z8, .int .i64 z9, .string z10] 32 (0, 0))))
  have B1 := Lib.hid ((B0.out.trans (hb1.mono B0.out.size)).alloc (Nat.le_trans B0.out.size hb1.size) (.cells #[.int .i64 z0, .int .i64 z1, .int .i64 z2, .int .i64 z3, .int .i64 z4, .int .i64 z5, .slice zp6 zl6 zk6, .slice zp7 zl7 zk7, .int .i64 z8, .int .i64 z9, .string z10] 32 (0, 0)))
  have hy := at_new w1 (.cells #[.int .i64 z0, .int .i64 z1, .int .i64 z2, .int .i64 z3, .int .i64 z4, .int .i64 z5, .slice zp6 zl6 zk6, .slice zp7 zl7 zk7, .int .i64 z8, .int .i64 z9, .string z10] 32 (0, 0))
  have hz1 := Lib.hid (show w.heap.size + 2 < w1.heap.size from (A0.out.step hb1).size)
  have hb2 := Lib.hid ((Below.refl _ w1).alloc (Nat.le_refl _) (.cells #[.int .i64 z0, .int .i64 z1, .int .i64 z2, .int .i64 z3, .int .i64 z4, .int .i64 z5, .slice zp6 zl6 zk6, .slice zp7 zl7 zk7, .int .i64 z8, .int .i64 z9, .string z10] 32 (0, 0)))
  clear hR1 hb1 hU1
  go_wp2_with fail
  obtain ⟨Y, hY⟩ : ∃ Y, w1.heap.size = Y := ⟨_, rfl⟩
  rw [hY] at hy ⊢
  obtain ⟨W2, hW2⟩ : ∃ W, w1.alloc (.cells #[.int .i64 z0, .int .i64 z1, .int .i64 z2, .int .i64 z3, .int .i64 z4, .int .i64 z5, .slice zp6 zl6 zk6, .slice zp7 zl7 zk7, .int .i64 z8, .int .i64 z9, .string z10] 32 (0, 0)) = W := ⟨_, rfl⟩
  rw [hW2] at A1 B1 hy hb2 ⊢
  have HYY := Lib.hid hY
  clear hW2 hY
  obtain ⟨d0, d1, d2, d3, d4, d5, d6, d7, d8, d9, d10⟩ := row11 hy
  have a0 : W2.cell? ⟨w.heap.size + 1, 2, none⟩ = some (.bool ok) := at_cell A1.out.b6 2
  have a1 : W2.cell? ⟨w.heap.size + 1, 3, none⟩ = some (.int .i64 r) := at_cell A1.out.b6 3
  have lY := at_lt hy
  have lX : w.heap.size + 1 < W2.heap.size := by have := A1.out.size; omega
  have nY : ¬ S Y := fun hk => by have := HS.out _ hk; have := hz1.out; have := HYY.out; omega
  have nX : ¬ S (w.heap.size + 1) := fun hk => by have := HS.out _ hk; omega
  have eXZ : w.heap.size + 1 ≠ w.heap.size + 1 + 1 := by omega
  have eYZ : Y ≠ w.heap.size + 1 + 1 := by have := hz1.out; have := HYY.out; omega
  go_region_held3 (fun w' => w'.cell? ⟨Y, 0, none⟩ = some (.int .i64 z0) ∧ w'.cell? ⟨Y, 1, none⟩ = some (.int .i64 z1) ∧ w'.cell? ⟨Y, 2, none⟩ = some (.int .i64 z2) ∧ w'.cell? ⟨Y, 3, none⟩ = some (.int .i64 z3) ∧ w'.cell? ⟨Y, 4, none⟩ = some (.int .i64 z4) ∧ w'.cell? ⟨Y, 5, none⟩ = some (.int .i64 z5) ∧ w'.cell? ⟨Y, 6, none⟩ = some (.slice zp6 zl6 zk6) ∧ w'.cell? ⟨Y, 7, none⟩ = some (.slice zp7 zl7 zk7) ∧ w'.cell? ⟨Y, 8, none⟩ = some (.int .i64 z8) ∧ w'.cell? ⟨Y, 9, none⟩ = some (.int .i64 z9) ∧ w'.cell? ⟨Y, 10, none⟩ = some (.string z10) ∧ w'.cell? ⟨w.heap.size + 1, 2, none⟩ = some (.bool ok) ∧ w'.cell? ⟨w.heap.size + 1, 3, none⟩ = some (.int .i64 r))
    (first
      | with_reducible exact ⟨d0, d1, d2, d3, d4, d5, d6, d7, d8, d9, d10, a0, a1⟩
      | with_reducible exact H6.out
      | with_reducible exact H5.out
      | with_reducible exact ⟨((out_drew1 W2).cell (p := ⟨Y, 0, none⟩) lY id).trans d0, ((out_drew1 W2).cell (p := ⟨Y, 1, none⟩) lY id).trans d1, ((out_drew1 W2).cell (p := ⟨Y, 2, none⟩) lY id).trans d2, ((out_drew1 W2).cell (p := ⟨Y, 3, none⟩) lY id).trans d3, ((out_drew1 W2).cell (p := ⟨Y, 4, none⟩) lY id).trans d4, ((out_drew1 W2).cell (p := ⟨Y, 5, none⟩) lY id).trans d5, ((out_drew1 W2).cell (p := ⟨Y, 6, none⟩) lY id).trans d6, ((out_drew1 W2).cell (p := ⟨Y, 7, none⟩) lY id).trans d7, ((out_drew1 W2).cell (p := ⟨Y, 8, none⟩) lY id).trans d8, ((out_drew1 W2).cell (p := ⟨Y, 9, none⟩) lY id).trans d9, ((out_drew1 W2).cell (p := ⟨Y, 10, none⟩) lY id).trans d10, ((out_drew1 W2).cell (p := ⟨w.heap.size + 1, 2, none⟩) lX id).trans a0, ((out_drew1 W2).cell (p := ⟨w.heap.size + 1, 3, none⟩) lX id).trans a1⟩
      | with_reducible exact ⟨((out11 w6 (w.heap.size + 1 + 1) (.int .i64 z0) (.int .i64 z1) (.int .i64 z2) (.int .i64 z3) (.int .i64 z4) (.int .i64 z5) (.slice zp6 zl6 zk6) (.slice zp7 zl7 zk7) (.int .i64 z8) (.int .i64 z9) (.string z10)).cell (p := ⟨Y, 0, none⟩) u6 eYZ).trans H6.out.1, ((out11 w6 (w.heap.size + 1 + 1) (.int .i64 z0) (.int .i64 z1) (.int .i64 z2) (.int .i64 z3) (.int .i64 z4) (.int .i64 z5) (.slice zp6 zl6 zk6) (.slice zp7 zl7 zk7) (.int .i64 z8) (.int .i64 z9) (.string z10)).cell (p := ⟨Y, 1, none⟩) u6 eYZ).trans H6.out.2.1, ((out11 w6 (w.heap.size + 1 + 1) (.int .i64 z0) (.int .i64 z1) (.int .i64 z2) (.int .i64 z3) (.int .i64 z4) (.int .i64 z5) (.slice zp6 zl6 zk6) (.slice zp7 zl7 zk7) (.int .i64 z8) (.int .i64 z9) (.string z10)).cell (p := ⟨Y, 2, none⟩) u6 eYZ).trans H6.out.2.2.1, ((out11 w6 (w.heap.size + 1 + 1) (.int .i64 z0) (.int .i64 z1) (.int .i64 z2) (.int .i64 z3) (.int .i64 z4) (.int .i64 z5) (.slice zp6 zl6 zk6) (.slice zp7 zl7 zk7) (.int .i64 z8) (.int .i64 z9) (.string z10)).cell (p := ⟨Y, 3, none⟩) u6 eYZ).trans H6.out.2.2.2.1, ((out11 w6 (w.heap.size + 1 + 1) (.int .i64 z0) (.int .i64 z1) (.int .i64 z2) (.int .i64 z3) (.int .i64 z4) (.int .i64 z5) (.slice zp6 zl6 zk6) (.slice zp7 zl7 zk7) (.int .i64 z8) (.int .i64 z9) (.string z10)).cell (p := ⟨Y, 4, none⟩) u6 eYZ).trans H6.out.2.2.2.2.1, ((out11 w6 (w.heap.size + 1 + 1) (.int .i64 z0) (.int .i64 z1) (.int .i64 z2) (.int .i64 z3) (.int .i64 z4) (.int .i64 z5) (.slice zp6 zl6 zk6) (.slice zp7 zl7 zk7) (.int .i64 z8) (.int .i64 z9) (.string z10)).cell (p := ⟨Y, 5, none⟩) u6 eYZ).trans H6.out.2.2.2.2.2.1, ((out11 w6 (w.heap.size + 1 + 1) (.int .i64 z0) (.int .i64 z1) (.int .i64 z2) (.int .i64 z3) (.int .i64 z4) (.int .i64 z5) (.slice zp6 zl6 zk6) (.slice zp7 zl7 zk7) (.int .i64 z8) (.int .i64 z9) (.string z10)).cell (p := ⟨Y, 6, none⟩) u6 eYZ).trans H6.out.2.2.2.2.2.2.1, ((out11 w6 (w.heap.size + 1 + 1) (.int .i64 z0) (.int .i64 z1) (.int .i64 z2) (.int .i64 z3) (.int .i64 z4) (.int .i64 z5) (.slice zp6 zl6 zk6) (.slice zp7 zl7 zk7) (.int .i64 z8) (.int .i64 z9) (.string z10)).cell (p := ⟨Y, 7, none⟩) u6 eYZ).trans H6.out.2.2.2.2.2.2.2.1, ((out11 w6 (w.heap.size + 1 + 1) (.int .i64 z0) (.int .i64 z1) (.int .i64 z2) (.int .i64 z3) (.int .i64 z4) (.int .i64 z5) (.slice zp6 zl6 zk6) (.slice zp7 zl7 zk7) (.int .i64 z8) (.int .i64 z9) (.string z10)).cell (p := ⟨Y, 8, none⟩) u6 eYZ).trans H6.out.2.2.2.2.2.2.2.2.1, ((out11 w6 (w.heap.size + 1 + 1) (.int .i64 z0) (.int .i64 z1) (.int .i64 z2) (.int .i64 z3) (.int .i64 z4) (.int .i64 z5) (.slice zp6 zl6 zk6) (.slice zp7 zl7 zk7) (.int .i64 z8) (.int .i64 z9) (.string z10)).cell (p := ⟨Y, 9, none⟩) u6 eYZ).trans H6.out.2.2.2.2.2.2.2.2.2.1, ((out11 w6 (w.heap.size + 1 + 1) (.int .i64 z0) (.int .i64 z1) (.int .i64 z2) (.int .i64 z3) (.int .i64 z4) (.int .i64 z5) (.slice zp6 zl6 zk6) (.slice zp7 zl7 zk7) (.int .i64 z8) (.int .i64 z9) (.string z10)).cell (p := ⟨Y, 10, none⟩) u6 eYZ).trans H6.out.2.2.2.2.2.2.2.2.2.2.1, ((out11 w6 (w.heap.size + 1 + 1) (.int .i64 z0) (.int .i64 z1) (.int .i64 z2) (.int .i64 z3) (.int .i64 z4) (.int .i64 z5) (.slice zp6 zl6 zk6) (.slice zp7 zl7 zk7) (.int .i64 z8) (.int .i64 z9) (.string z10)).cell (p := ⟨w.heap.size + 1, 2, none⟩) u6' eXZ).trans H6.out.2.2.2.2.2.2.2.2.2.2.2.1, ((out11 w6 (w.heap.size + 1 + 1) (.int .i64 z0) (.int .i64 z1) (.int .i64 z2) (.int .i64 z3) (.int .i64 z4) (.int .i64 z5) (.slice zp6 zl6 zk6) (.slice zp7 zl7 zk7) (.int .i64 z8) (.int .i64 z9) (.string z10)).cell (p := ⟨w.heap.size + 1, 3, none⟩) u6' eXZ).trans H6.out.2.2.2.2.2.2.2.2.2.2.2.2⟩)
    (first
      | (go_at_call 14; refine (HPr.out _ (by first | exact B1.out | exact Brk.below_drew B1.out) (HM.out _ (by first | exact B1.out | exact Brk.below_drew B1.out))).mono ?_; rintro e w5 ⟨S5, p5, c5, rfl, M5, T5, U5⟩; replace T5 : Hid (Step S W2 S5 w5) := Lib.hid ⟨⟨T5.out.os, T5.out.tape, T5.out.output, T5.out.size, T5.out.block⟩, T5.new⟩; have O5 := Lib.hid T5.out.out; have HU5 : Hid (∀ V, Below w5.heap.size w5 V → Outs V O p5 c5 ∧ Outs V O p' c') := Lib.hid fun V hV => ⟨U5 V (Out.ofNew hV), HU1.out V (((Out.ofNew (S := S) hb2.out).trans O5.out fun _ _ h => h).trans (Out.ofNew (S := S) hV) fun _ _ h => h)⟩; have H5 := Lib.hid (⟨(O5.out.cell (p := ⟨Y, 0, none⟩) lY nY).trans d0, (O5.out.cell (p := ⟨Y, 1, none⟩) lY nY).trans d1, (O5.out.cell (p := ⟨Y, 2, none⟩) lY nY).trans d2, (O5.out.cell (p := ⟨Y, 3, none⟩) lY nY).trans d3, (O5.out.cell (p := ⟨Y, 4, none⟩) lY nY).trans d4, (O5.out.cell (p := ⟨Y, 5, none⟩) lY nY).trans d5, (O5.out.cell (p := ⟨Y, 6, none⟩) lY nY).trans d6, (O5.out.cell (p := ⟨Y, 7, none⟩) lY nY).trans d7, (O5.out.cell (p := ⟨Y, 8, none⟩) lY nY).trans d8, (O5.out.cell (p := ⟨Y, 9, none⟩) lY nY).trans d9, (O5.out.cell (p := ⟨Y, 10, none⟩) lY nY).trans d10, (O5.out.cell (p := ⟨w.heap.size + 1, 2, none⟩) lX nX).trans a0, (O5.out.cell (p := ⟨w.heap.size + 1, 3, none⟩) lX nX).trans a1⟩ : w5.cell? ⟨Y, 0, none⟩ = some (.int .i64 z0) ∧ w5.cell? ⟨Y, 1, none⟩ = some (.int .i64 z1) ∧ w5.cell? ⟨Y, 2, none⟩ = some (.int .i64 z2) ∧ w5.cell? ⟨Y, 3, none⟩ = some (.int .i64 z3) ∧ w5.cell? ⟨Y, 4, none⟩ = some (.int .i64 z4) ∧ w5.cell? ⟨Y, 5, none⟩ = some (.int .i64 z5) ∧ w5.cell? ⟨Y, 6, none⟩ = some (.slice zp6 zl6 zk6) ∧ w5.cell? ⟨Y, 7, none⟩ = some (.slice zp7 zl7 zk7) ∧ w5.cell? ⟨Y, 8, none⟩ = some (.int .i64 z8) ∧ w5.cell? ⟨Y, 9, none⟩ = some (.int .i64 z9) ∧ w5.cell? ⟨Y, 10, none⟩ = some (.string z10) ∧ w5.cell? ⟨w.heap.size + 1, 2, none⟩ = some (.bool ok) ∧ w5.cell? ⟨w.heap.size + 1, 3, none⟩ = some (.int .i64 r)); have l6 := Nat.lt_of_lt_of_le lY O5.out.size; have l6' := Nat.lt_of_lt_of_le lX O5.out.size; have A5 := Lib.hid (A1.out.out O5.out HS.out); replace M5 := Lib.hid M5; clear U5)
      | (go_at_call 20; refine (same_outs O n HN.out _ _ _ _ _ (HU5.out _ (by first | exact Below.refl _ _ | exact Brk.below_drew (Below.refl _ _))).1 (HU5.out _ (by first | exact Below.refl _ _ | exact Brk.below_drew (Below.refl _ _))).2).mono ?_; rintro e w6 ⟨rfl, hb6⟩; replace hb6 : Below w5.heap.size w5 w6 := ⟨hb6.os, hb6.tape, hb6.output, hb6.size, hb6.block⟩; have H6 := Lib.hid (⟨((Out.ofNew (S := fun _ => False) hb6).cell (p := ⟨Y, 0, none⟩) l6 id).trans H5.out.1, ((Out.ofNew (S := fun _ => False) hb6).cell (p := ⟨Y, 1, none⟩) l6 id).trans H5.out.2.1, ((Out.ofNew (S := fun _ => False) hb6).cell (p := ⟨Y, 2, none⟩) l6 id).trans H5.out.2.2.1, ((Out.ofNew (S := fun _ => False) hb6).cell (p := ⟨Y, 3, none⟩) l6 id).trans H5.out.2.2.2.1, ((Out.ofNew (S := fun _ => False) hb6).cell (p := ⟨Y, 4, none⟩) l6 id).trans H5.out.2.2.2.2.1, ((Out.ofNew (S := fun _ => False) hb6).cell (p := ⟨Y, 5, none⟩) l6 id).trans H5.out.2.2.2.2.2.1, ((Out.ofNew (S := fun _ => False) hb6).cell (p := ⟨Y, 6, none⟩) l6 id).trans H5.out.2.2.2.2.2.2.1, ((Out.ofNew (S := fun _ => False) hb6).cell (p := ⟨Y, 7, none⟩) l6 id).trans H5.out.2.2.2.2.2.2.2.1, ((Out.ofNew (S := fun _ => False) hb6).cell (p := ⟨Y, 8, none⟩) l6 id).trans H5.out.2.2.2.2.2.2.2.2.1, ((Out.ofNew (S := fun _ => False) hb6).cell (p := ⟨Y, 9, none⟩) l6 id).trans H5.out.2.2.2.2.2.2.2.2.2.1, ((Out.ofNew (S := fun _ => False) hb6).cell (p := ⟨Y, 10, none⟩) l6 id).trans H5.out.2.2.2.2.2.2.2.2.2.2.1, ((Out.ofNew (S := fun _ => False) hb6).cell (p := ⟨w.heap.size + 1, 2, none⟩) l6' id).trans H5.out.2.2.2.2.2.2.2.2.2.2.2.1, ((Out.ofNew (S := fun _ => False) hb6).cell (p := ⟨w.heap.size + 1, 3, none⟩) l6' id).trans H5.out.2.2.2.2.2.2.2.2.2.2.2.2⟩ : w6.cell? ⟨Y, 0, none⟩ = some (.int .i64 z0) ∧ w6.cell? ⟨Y, 1, none⟩ = some (.int .i64 z1) ∧ w6.cell? ⟨Y, 2, none⟩ = some (.int .i64 z2) ∧ w6.cell? ⟨Y, 3, none⟩ = some (.int .i64 z3) ∧ w6.cell? ⟨Y, 4, none⟩ = some (.int .i64 z4) ∧ w6.cell? ⟨Y, 5, none⟩ = some (.int .i64 z5) ∧ w6.cell? ⟨Y, 6, none⟩ = some (.slice zp6 zl6 zk6) ∧ w6.cell? ⟨Y, 7, none⟩ = some (.slice zp7 zl7 zk7) ∧ w6.cell? ⟨Y, 8, none⟩ = some (.int .i64 z8) ∧ w6.cell? ⟨Y, 9, none⟩ = some (.int .i64 z9) ∧ w6.cell? ⟨Y, 10, none⟩ = some (.string z10) ∧ w6.cell? ⟨w.heap.size + 1, 2, none⟩ = some (.bool ok) ∧ w6.cell? ⟨w.heap.size + 1, 3, none⟩ = some (.int .i64 r)); have A6 := Lib.hid (A5.out.step hb6); obtain ⟨m0, m1, m2, m3, m4, m5, m6, m7, m8, m9, m10⟩ := row11 A6.out.b8; obtain ⟨f0, f1, f2, f3, f4, f5, f6, f7, f8, f9, f10⟩ := frz11 A6.out.b8; have u6 := Nat.lt_of_lt_of_le l6 hb6.size; have u6' := Nat.lt_of_lt_of_le l6' hb6.size))
  all_goals
    have HX := Lib.hid hb6
    clear HRef HPr A0 B0 d0 d1 d2 d3 d4 d5 d6 d7 d8 d9 d10 a0 a1 nY nX eYZ eXZ lY lX hb6 hy H6 H5
    go_wp2_with fail
    have hOUT : Out (fun i => i = w.heap.size + 1 + 1) w6 (((((((((((w6.setCell ⟨w.heap.size + 1 + 1, 0, none⟩ (.int .i64 z0)).setCell ⟨w.heap.size + 1 + 1, 1, none⟩ (.int .i64 z1)).setCell ⟨w.heap.size + 1 + 1, 2, none⟩ (.int .i64 z2)).setCell ⟨w.heap.size + 1 + 1, 3, none⟩ (.int .i64 z3)).setCell ⟨w.heap.size + 1 + 1, 4, none⟩ (.int .i64 z4)).setCell ⟨w.heap.size + 1 + 1, 5, none⟩ (.int .i64 z5)).setCell ⟨w.heap.size + 1 + 1, 6, none⟩ (.slice zp6 zl6 zk6)).setCell ⟨w.heap.size + 1 + 1, 7, none⟩ (.slice zp7 zl7 zk7)).setCell ⟨w.heap.size + 1 + 1, 8, none⟩ (.int .i64 z8)).setCell ⟨w.heap.size + 1 + 1, 9, none⟩ (.int .i64 z9)).setCell ⟨w.heap.size + 1 + 1, 10, none⟩ (.string z10)) := out11 _ _ _ _ _ _ _ _ _ _ _ _ _
    have hROW : (((((((((((w6.setCell ⟨w.heap.size + 1 + 1, 0, none⟩ (.int .i64 z0)).setCell ⟨w.heap.size + 1 + 1, 1, none⟩ (.int .i64 z1)).setCell ⟨w.heap.size + 1 + 1, 2, none⟩ (.int .i64 z2)).setCell ⟨w.heap.size + 1 + 1, 3, none⟩ (.int .i64 z3)).setCell ⟨w.heap.size + 1 + 1, 4, none⟩ (.int .i64 z4)).setCell ⟨w.heap.size + 1 + 1, 5, none⟩ (.int .i64 z5)).setCell ⟨w.heap.size + 1 + 1, 6, none⟩ (.slice zp6 zl6 zk6)).setCell ⟨w.heap.size + 1 + 1, 7, none⟩ (.slice zp7 zl7 zk7)).setCell ⟨w.heap.size + 1 + 1, 8, none⟩ (.int .i64 z8)).setCell ⟨w.heap.size + 1 + 1, 9, none⟩ (.int .i64 z9)).setCell ⟨w.heap.size + 1 + 1, 10, none⟩ (.string z10)).heap[w.heap.size + 1 + 1]? = some (.cells #[.int .i64 z0, .int .i64 z1, .int .i64 z2, .int .i64 z3, .int .i64 z4, .int .i64 z5, .slice zp6 zl6 zk6, .slice zp7 zl7 zk7, .int .i64 z8, .int .i64 z9, .string z10] 32 (0, 0)) := set11 A6.out.b8 _ _ _ _ _ _ _ _ _ _ _
    clear m0 m1 m2 m3 m4 m5 m6 m7 m8 m9 m10 f0 f1 f2 f3 f4 f5 f6 f7 f8 f9 f10
    obtain ⟨m0, m1, m2, m3, m4, m5, m6, m7, m8, m9, m10⟩ := row11 hROW
    generalize (((((((((((w6.setCell ⟨w.heap.size + 1 + 1, 0, none⟩ (.int .i64 z0)).setCell ⟨w.heap.size + 1 + 1, 1, none⟩ (.int .i64 z1)).setCell ⟨w.heap.size + 1 + 1, 2, none⟩ (.int .i64 z2)).setCell ⟨w.heap.size + 1 + 1, 3, none⟩ (.int .i64 z3)).setCell ⟨w.heap.size + 1 + 1, 4, none⟩ (.int .i64 z4)).setCell ⟨w.heap.size + 1 + 1, 5, none⟩ (.int .i64 z5)).setCell ⟨w.heap.size + 1 + 1, 6, none⟩ (.slice zp6 zl6 zk6)).setCell ⟨w.heap.size + 1 + 1, 7, none⟩ (.slice zp7 zl7 zk7)).setCell ⟨w.heap.size + 1 + 1, 8, none⟩ (.int .i64 z8)).setCell ⟨w.heap.size + 1 + 1, 9, none⟩ (.int .i64 z9)).setCell ⟨w.heap.size + 1 + 1, 10, none⟩ (.string z10)) = WF at *
    refine bodyPost_ret (v := .tuple #[.agg #[.int .i64 z0, .int .i64 z1, .int .i64 z2, .int .i64 z3, .int .i64 z4, .int .i64 z5, .slice zp6 zl6 zk6, .slice zp7 zl7 zk7, .int .i64 z8, .int .i64 z9, .string z10], .bool true]) ?_ rfl ?_
    · simp [results, Tryz.results7, go_sem, m0, m1, m2, m3, m4, m5, m6, m7, m8, m9, m10]
    · exact do_fin HS.out A1.out.size B1.out M5.out T5.out HR1.out HX.out A6.out.b8 hOUT rfl
end Go.Proofs.YtnkhdpenmekhdaaGreat.Lin
end


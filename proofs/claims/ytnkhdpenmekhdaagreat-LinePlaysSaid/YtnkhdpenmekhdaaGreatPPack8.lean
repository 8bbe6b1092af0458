/-
Layer 19 (line): the document's own Tick, Send, walked.
Layer 19 (line): the law's acts: Tick. Written by gen_lindo.py.
Layer 19 (line): the law's acts: Lost. Written by gen_lindo.py.
-/
import Derived.Test.YtnkhdpenmekhdaaGreatPPack7
section
namespace Go.Proofs.YtnkhdpenmekhdaaGreat.Lin
open Go.RowKit Go.Proofs.YtnkhdpenmekhdaaGreat.Own Go.Proofs.YtnkhdpenmekhdaaGreat.Brk Go.Proofs.YtnkhdpenmekhdaaGreat.Calc Go.Proofs.YtnkhdpenmekhdaaGreat.Tree Go.Proofs.YtnkhdpenmekhdaaGreat.Run Go.Proofs.YtnkhdpenmekhdaaGreat.Bkf

section
variable {OK : List Op → Option Addr → Nat → Prop} {x : Ln} {v : Value}
set_option maxRecDepth 100000 in
set_option maxHeartbeats 8000000 in
theorem rtick_calls (now : Int) (w : World) (hOK : ∀ L p c, OK L p c → Ops w L p c) (h : Rf OK x v) : Calls Tryz.prog 32 #[v, .int .i64 now] w (RGives OK w (tickL x now) (tickO x now)) := by
  have HR := Lib.hid h
  obtain ⟨at_, pF, cF, pL, lL, cL, start, done, h⟩ := h
  obtain ⟨rfl, hf, hw, hr, hg, hi⟩ := h
  have HF := Lib.hid hf
  have HG := Lib.hid hg
  have HRUN := Lib.hid hr
  have HIDLE := Lib.hid hi
  have HOK := Lib.hid hOK
  clear hf hw hr hg hi hOK
  unfold lnC at *
  have HB := Lib.hid (late_calls now)
  have hTB : tickB x now = (nextI x && (decide (nextV x ≤ now) && bef now)) := rfl
  have HTB := Lib.hid hTB
  clear hTB
  go_enter Tryz.func32, Tryz.ntmps32
  go_wp2_with fail
  have hAA := ((Below.refl w.heap.size w).alloc (Nat.le_refl _) (.cells #[.int .i64 x.b, .int .i64 x.c, .int .i64 x.j, .int .i64 x.st, .int .i64 x.n, .int .i64 at_, .slice pF x.F.length cF, .slice pL lL cL, .int .i64 start, .int .i64 done, .string ⟨x.H.toArray⟩] 32 (0, 0))).alloc (by simp) (.cells #[.int .i64 0, .int .i64 0, .int .i64 0, .int .i64 0, .int .i64 0, .int .i64 0, .slice none 0 0, .slice none 0 0, .int .i64 0, .int .i64 0, .string ⟨#[]⟩] 32 (0, 0))
  have hNN := at_old (w.alloc (.cells #[.int .i64 x.b, .int .i64 x.c, .int .i64 x.j, .int .i64 x.st, .int .i64 x.n, .int .i64 at_, .slice pF x.F.length cF, .slice pL lL cL, .int .i64 start, .int .i64 done, .string ⟨x.H.toArray⟩] 32 (0, 0))) (.cells #[.int .i64 0, .int .i64 0, .int .i64 0, .int .i64 0, .int .i64 0, .int .i64 0, .slice none 0 0, .slice none 0 0, .int .i64 0, .int .i64 0, .string ⟨#[]⟩] 32 (0, 0)) (at_new w (.cells #[.int .i64 x.b, .int .i64 x.c, .int .i64 x.j, .int .i64 x.st, .int .i64 x.n, .int .i64 at_, .slice pF x.F.length cF, .slice pL lL cL, .int .i64 start, .int .i64 done, .string ⟨x.H.toArray⟩] 32 (0, 0)))
  have hMM0 := at_newk (w.alloc (.cells #[.int .i64 x.b, .int .i64 x.c, .int .i64 x.j, .int .i64 x.st, .int .i64 x.n, .int .i64 at_, .slice pF x.F.length cF, .slice pL lL cL, .int .i64 start, .int .i64 done, .string ⟨x.H.toArray⟩] 32 (0, 0))) (.cells #[.int .i64 0, .int .i64 0, .int .i64 0, .int .i64 0, .int .i64 0, .int .i64 0, .slice none 0 0, .slice none 0 0, .int .i64 0, .int .i64 0, .string ⟨#[]⟩] 32 (0, 0)) (k := w.heap.size + 1) (by simp)
  have hSS : ((w.alloc (.cells #[.int .i64 x.b, .int .i64 x.c, .int .i64 x.j, .int .i64 x.st, .int .i64 x.n, .int .i64 at_, .slice pF x.F.length cF, .slice pL lL cL, .int .i64 start, .int .i64 done, .string ⟨x.H.toArray⟩] 32 (0, 0))).alloc (.cells #[.int .i64 0, .int .i64 0, .int .i64 0, .int .i64 0, .int .i64 0, .int .i64 0, .slice none 0 0, .slice none 0 0, .int .i64 0, .int .i64 0, .string ⟨#[]⟩] 32 (0, 0))).heap.size = w.heap.size + 1 + 1 := by simp
  generalize (w.alloc (.cells #[.int .i64 x.b, .int .i64 x.c, .int .i64 x.j, .int .i64 x.st, .int .i64 x.n, .int .i64 at_, .slice pF x.F.length cF, .slice pL lL cL, .int .i64 start, .int .i64 done, .string ⟨x.H.toArray⟩] 32)).alloc (.cells #[.int .i64 0, .int .i64 0, .int .i64 0, .int .i64 0, .int .i64 0, .int .i64 0, .slice none 0 0, .slice none 0 0, .int .i64 0, .int .i64 0, .string ⟨#[]⟩] 32) = W at *
  refine (rnext_line W (fun L p c h => (HOK.out L p c h).below hAA) HR.out).mono ?_
  rintro e w4 ⟨rfl, hB4⟩
  have hbx4 := (hB4.block _ (at_lt hNN)).trans hNN
  have hrs4 := (hB4.block _ (at_lt hMM0)).trans hMM0
  have HB4 := Lib.hid (hAA.trans (hB4.mono hAA.size))
  have HBX4 := Lib.hid hbx4
  have HRS4 := Lib.hid hrs4
  have hs4 : w.heap.size + 1 + 1 ≤ w4.heap.size := by have := hB4.size; omega
  obtain ⟨c0, c1, c2, c3, c4, c5, c6, c7, c8, c9, c10⟩ := row11 hbx4
  obtain ⟨f0, f1, f2, f3, f4, f5, f6, f7, f8, f9, f10⟩ := frz11 hbx4
  obtain ⟨r0, r1, r2, r3, r4, r5, r6, r7, r8, r9, r10⟩ := row11 hrs4
  obtain ⟨g0, g1, g2, g3, g4, g5, g6, g7, g8, g9, g10⟩ := frz11 hrs4
  clear hAA hMM0 hNN hB4 hbx4 hrs4 hSS
  cases hni : nextI x with
  | false =>
    have HT := Lib.hid (tick_no (x := x) (now := now) (by rw [HTB.out, hni]; rfl))
    clear hni
    go_wp2_with (go_at_call 50; refine (HB.out _).mono ?_; rintro e w' ⟨rfl, rfl⟩)
    have hOUT : Out (fun i => i = w.heap.size + 1) w4 (((((((((((w4.setCell ⟨w.heap.size + 1, 0, none⟩ (.int .i64 x.b)).setCell ⟨w.heap.size + 1, 1, none⟩ (.int .i64 x.c)).setCell ⟨w.heap.size + 1, 2, none⟩ (.int .i64 x.j)).setCell ⟨w.heap.size + 1, 3, none⟩ (.int .i64 x.st)).setCell ⟨w.heap.size + 1, 4, none⟩ (.int .i64 x.n)).setCell ⟨w.heap.size + 1, 5, none⟩ (.int .i64 at_)).setCell ⟨w.heap.size + 1, 6, none⟩ (.slice pF x.F.length cF)).setCell ⟨w.heap.size + 1, 7, none⟩ (.slice pL lL cL)).setCell ⟨w.heap.size + 1, 8, none⟩ (.int .i64 start)).setCell ⟨w.heap.size + 1, 9, none⟩ (.int .i64 done)).setCell ⟨w.heap.size + 1, 10, none⟩ (.string ⟨x.H.toArray⟩)) := out11 _ _ _ _ _ _ _ _ _ _ _ _ _
    have hROW : (((((((((((w4.setCell ⟨w.heap.size + 1, 0, none⟩ (.int .i64 x.b)).setCell ⟨w.heap.size + 1, 1, none⟩ (.int .i64 x.c)).setCell ⟨w.heap.size + 1, 2, none⟩ (.int .i64 x.j)).setCell ⟨w.heap.size + 1, 3, none⟩ (.int .i64 x.st)).setCell ⟨w.heap.size + 1, 4, none⟩ (.int .i64 x.n)).setCell ⟨w.heap.size + 1, 5, none⟩ (.int .i64 at_)).setCell ⟨w.heap.size + 1, 6, none⟩ (.slice pF x.F.length cF)).setCell ⟨w.heap.size + 1, 7, none⟩ (.slice pL lL cL)).setCell ⟨w.heap.size + 1, 8, none⟩ (.int .i64 start)).setCell ⟨w.heap.size + 1, 9, none⟩ (.int .i64 done)).setCell ⟨w.heap.size + 1, 10, none⟩ (.string ⟨x.H.toArray⟩)).heap[w.heap.size + 1]? = some (.cells #[.int .i64 x.b, .int .i64 x.c, .int .i64 x.j, .int .i64 x.st, .int .i64 x.n, .int .i64 at_, .slice pF x.F.length cF, .slice pL lL cL, .int .i64 start, .int .i64 done, .string ⟨x.H.toArray⟩] 32 (0, 0)) := set11 HRS4.out _ _ _ _ _ _ _ _ _ _ _
    obtain ⟨k0, k1, k2, k3, k4, k5, k6, k7, k8, k9, k10⟩ := row11 hROW
    generalize (((((((((((w4.setCell ⟨w.heap.size + 1, 0, none⟩ (.int .i64 x.b)).setCell ⟨w.heap.size + 1, 1, none⟩ (.int .i64 x.c)).setCell ⟨w.heap.size + 1, 2, none⟩ (.int .i64 x.j)).setCell ⟨w.heap.size + 1, 3, none⟩ (.int .i64 x.st)).setCell ⟨w.heap.size + 1, 4, none⟩ (.int .i64 x.n)).setCell ⟨w.heap.size + 1, 5, none⟩ (.int .i64 at_)).setCell ⟨w.heap.size + 1, 6, none⟩ (.slice pF x.F.length cF)).setCell ⟨w.heap.size + 1, 7, none⟩ (.slice pL lL cL)).setCell ⟨w.heap.size + 1, 8, none⟩ (.int .i64 start)).setCell ⟨w.heap.size + 1, 9, none⟩ (.int .i64 done)).setCell ⟨w.heap.size + 1, 10, none⟩ (.string ⟨x.H.toArray⟩)) = WF at *
    refine bodyPost_ret (v := .tuple #[.agg #[.int .i64 x.b, .int .i64 x.c, .int .i64 x.j, .int .i64 x.st, .int .i64 x.n, .int .i64 at_, .slice pF x.F.length cF, .slice pL lL cL, .int .i64 start, .int .i64 done, .string ⟨x.H.toArray⟩], .slice none 0 0]) ?_ rfl ?_
    · simp [results, Tryz.results32, go_sem, k0, k1, k2, k3, k4, k5, k6, k7, k8, k9, k10]
    exact ⟨_, _, rfl, by rw [HT.out.1]; exact HR.out, by rw [HT.out.2]; exact mineO_nil _ _, HB4.out.trans (hOUT.below HB4.out.size fun i e => by omega)⟩
  | true =>
    by_cases hv : nextV x ≤ now
    · by_cases hn : bef now = true
      · have hT : tickB x now = true := by rw [HTB.out]; simp [hv, hn, hni]
        rw [hn] at HB
        by_cases h1 : x.st = 1
        · have HT := Lib.hid (tick_wait hT h1)
          have HH := Lib.hid (HIDLE.out (by rintro (e | e) <;> omega))
          have t1 : (x.st == 1) = true := by simpa using h1
          obtain ⟨nv, hnv⟩ : ∃ nv, nextV x = nv := ⟨_, rfl⟩
          rw [hnv] at hv ⊢
          have q1 : ¬ now < nv := by omega
          clear hni hn hT h1 hnv hv
          go_upto_region 6 with (go_at_call 50; refine (HB.out _).mono ?_; rintro e w' ⟨rfl, rfl⟩)
          have hO6 : Out (fun i => i = w.heap.size) w4 (w4.setCell ⟨w.heap.size, 3, none⟩ (.int .i64 2)) := (Out.refl (fun i => i = w.heap.size) w4).setCell (p := ⟨w.heap.size, 3, none⟩) (fun _ => rfl) _
          have hRS6 := hO6.at_ HRS4.out (by omega)
          have hBX6 := at_set HBX4.out 3 (.int .i64 2)
          have hs6 : (w4.setCell ⟨w.heap.size, 3, none⟩ (.int .i64 2)).heap.size = w4.heap.size := by simp [World.setCell]
          have hb6 : w.heap.size + 1 < w4.heap.size := by omega
          clear c0 c1 c2 c3 c4 c5 c6 c7 c8 c9 c10 f0 f1 f2 f3 f4 f5 f6 f7 f8 f9 f10 r0 r1 r2 r3 r4 r5 r6 r7 r8 r9 r10 g0 g1 g2 g3 g4 g5 g6 g7 g8 g9 g10
          generalize (w4.setCell ⟨w.heap.size, 3, none⟩ (.int .i64 2)) = W6 at *
          have hRD := at_old W6 (.cells #[.int .i64 1, .string ⟨#[]⟩] 62) hRS6
          have hBD := at_old W6 (.cells #[.int .i64 1, .string ⟨#[]⟩] 62) hBX6
          obtain ⟨bc0, bc1, bc2, bc3, bc4, bc5, bc6, bc7, bc8, bc9, bc10⟩ := row11 (hBX6)
          obtain ⟨bf0, bf1, bf2, bf3, bf4, bf5, bf6, bf7, bf8, bf9, bf10⟩ := frz11 (hBX6)
          obtain ⟨sc0, sc1, sc2, sc3, sc4, sc5, sc6, sc7, sc8, sc9, sc10⟩ := row11 (hRS6)
          obtain ⟨sf0, sf1, sf2, sf3, sf4, sf5, sf6, sf7, sf8, sf9, sf10⟩ := frz11 (hRS6)
          obtain ⟨dc0, dc1, dc2, dc3, dc4, dc5, dc6, dc7, dc8, dc9, dc10⟩ := row11 (hRD)
          obtain ⟨df0, df1, df2, df3, df4, df5, df6, df7, df8, df9, df10⟩ := frz11 (hRD)
          obtain ⟨e0, e1, e2, e3, e4, e5, e6, e7, e8, e9, e10⟩ := row11 (hBD)
          have hRSH := Lib.hid hRS6
          have hRDH := Lib.hid hRD
          clear hRS6 hBX6 hRD hBD
          go_wp2_with fail
          all_goals first
          | · skip
              have hOUT : Out (fun i => i = w.heap.size + 1) (W6.alloc (.cells #[.int .i64 1, .string ⟨#[]⟩] 62)) ((((((((((((W6.alloc (.cells #[.int .i64 1, .string ⟨#[]⟩] 62)).setCell ⟨w.heap.size + 1, 0, none⟩ (.int .i64 x.b)).setCell ⟨w.heap.size + 1, 1, none⟩ (.int .i64 x.c)).setCell ⟨w.heap.size + 1, 2, none⟩ (.int .i64 x.j)).setCell ⟨w.heap.size + 1, 3, none⟩ (.int .i64 2)).setCell ⟨w.heap.size + 1, 4, none⟩ (.int .i64 x.n)).setCell ⟨w.heap.size + 1, 5, none⟩ (.int .i64 at_)).setCell ⟨w.heap.size + 1, 6, none⟩ (.slice pF x.F.length cF)).setCell ⟨w.heap.size + 1, 7, none⟩ (.slice pL lL cL)).setCell ⟨w.heap.size + 1, 8, none⟩ (.int .i64 start)).setCell ⟨w.heap.size + 1, 9, none⟩ (.int .i64 done)).setCell ⟨w.heap.size + 1, 10, none⟩ (.string ⟨x.H.toArray⟩)) := out11 _ _ _ _ _ _ _ _ _ _ _ _ _
              have hROW : ((((((((((((W6.alloc (.cells #[.int .i64 1, .string ⟨#[]⟩] 62)).setCell ⟨w.heap.size + 1, 0, none⟩ (.int .i64 x.b)).setCell ⟨w.heap.size + 1, 1, none⟩ (.int .i64 x.c)).setCell ⟨w.heap.size + 1, 2, none⟩ (.int .i64 x.j)).setCell ⟨w.heap.size + 1, 3, none⟩ (.int .i64 2)).setCell ⟨w.heap.size + 1, 4, none⟩ (.int .i64 x.n)).setCell ⟨w.heap.size + 1, 5, none⟩ (.int .i64 at_)).setCell ⟨w.heap.size + 1, 6, none⟩ (.slice pF x.F.length cF)).setCell ⟨w.heap.size + 1, 7, none⟩ (.slice pL lL cL)).setCell ⟨w.heap.size + 1, 8, none⟩ (.int .i64 start)).setCell ⟨w.heap.size + 1, 9, none⟩ (.int .i64 done)).setCell ⟨w.heap.size + 1, 10, none⟩ (.string ⟨x.H.toArray⟩)).heap[w.heap.size + 1]? = some (.cells #[.int .i64 x.b, .int .i64 x.c, .int .i64 x.j, .int .i64 2, .int .i64 x.n, .int .i64 at_, .slice pF x.F.length cF, .slice pL lL cL, .int .i64 start, .int .i64 done, .string ⟨x.H.toArray⟩] 32 (0, 0)) := set11 hRDH.out _ _ _ _ _ _ _ _ _ _ _
              have hs7 := hs6
              have hOne0 := one_res W6 (1, []) (w.heap.size + 1 + 1) w4.heap.size (by omega) hs6.symm
              have hOne : MineO ((((((((((((W6.alloc (.cells #[.int .i64 1, .string ⟨#[]⟩] 62)).setCell ⟨w.heap.size + 1, 0, none⟩ (.int .i64 x.b)).setCell ⟨w.heap.size + 1, 1, none⟩ (.int .i64 x.c)).setCell ⟨w.heap.size + 1, 2, none⟩ (.int .i64 x.j)).setCell ⟨w.heap.size + 1, 3, none⟩ (.int .i64 2)).setCell ⟨w.heap.size + 1, 4, none⟩ (.int .i64 x.n)).setCell ⟨w.heap.size + 1, 5, none⟩ (.int .i64 at_)).setCell ⟨w.heap.size + 1, 6, none⟩ (.slice pF x.F.length cF)).setCell ⟨w.heap.size + 1, 7, none⟩ (.slice pL lL cL)).setCell ⟨w.heap.size + 1, 8, none⟩ (.int .i64 start)).setCell ⟨w.heap.size + 1, 9, none⟩ (.int .i64 done)).setCell ⟨w.heap.size + 1, 10, none⟩ (.string ⟨x.H.toArray⟩)) w.heap.size (.slice (some ⟨w4.heap.size, 0, none⟩) 1 1) [(1, [])] := mineO_base (own_out hOne0 hOUT (mineO_at hOne0 fun i e => by omega)) (by omega)
              have hO7 : Out (fun i => i = w.heap.size ∨ i = w.heap.size + 1) w4 ((((((((((((W6.alloc (.cells #[.int .i64 1, .string ⟨#[]⟩] 62)).setCell ⟨w.heap.size + 1, 0, none⟩ (.int .i64 x.b)).setCell ⟨w.heap.size + 1, 1, none⟩ (.int .i64 x.c)).setCell ⟨w.heap.size + 1, 2, none⟩ (.int .i64 x.j)).setCell ⟨w.heap.size + 1, 3, none⟩ (.int .i64 2)).setCell ⟨w.heap.size + 1, 4, none⟩ (.int .i64 x.n)).setCell ⟨w.heap.size + 1, 5, none⟩ (.int .i64 at_)).setCell ⟨w.heap.size + 1, 6, none⟩ (.slice pF x.F.length cF)).setCell ⟨w.heap.size + 1, 7, none⟩ (.slice pL lL cL)).setCell ⟨w.heap.size + 1, 8, none⟩ (.int .i64 start)).setCell ⟨w.heap.size + 1, 9, none⟩ (.int .i64 done)).setCell ⟨w.heap.size + 1, 10, none⟩ (.string ⟨x.H.toArray⟩)) := ((hO6.mono fun _ _ e => .inl e).alloc _).trans (hOUT.mono fun _ _ e => .inr e) fun _ _ h => h
              obtain ⟨k0, k1, k2, k3, k4, k5, k6, k7, k8, k9, k10⟩ := row11 hROW
              clear hOne0 hOUT
              generalize ((((((((((((W6.alloc (.cells #[.int .i64 1, .string ⟨#[]⟩] 62)).setCell ⟨w.heap.size + 1, 0, none⟩ (.int .i64 x.b)).setCell ⟨w.heap.size + 1, 1, none⟩ (.int .i64 x.c)).setCell ⟨w.heap.size + 1, 2, none⟩ (.int .i64 x.j)).setCell ⟨w.heap.size + 1, 3, none⟩ (.int .i64 2)).setCell ⟨w.heap.size + 1, 4, none⟩ (.int .i64 x.n)).setCell ⟨w.heap.size + 1, 5, none⟩ (.int .i64 at_)).setCell ⟨w.heap.size + 1, 6, none⟩ (.slice pF x.F.length cF)).setCell ⟨w.heap.size + 1, 7, none⟩ (.slice pL lL cL)).setCell ⟨w.heap.size + 1, 8, none⟩ (.int .i64 start)).setCell ⟨w.heap.size + 1, 9, none⟩ (.int .i64 done)).setCell ⟨w.heap.size + 1, 10, none⟩ (.string ⟨x.H.toArray⟩)) = WG at *
              refine bodyPost_ret (v := .tuple #[.agg #[.int .i64 x.b, .int .i64 x.c, .int .i64 x.j, .int .i64 2, .int .i64 x.n, .int .i64 at_, .slice pF x.F.length cF, .slice pL lL cL, .int .i64 start, .int .i64 done, .string ⟨x.H.toArray⟩], .slice (some ⟨w4.heap.size, 0, none⟩) 1 1]) ?_ rfl ⟨_, _, rfl, ?_, ?_, ?_⟩
              · simp [results, Tryz.results32, go_sem]
              · rw [HT.out.1, HH.out]
                exact rf_calm HF.out (good_calm HG.out 2 (by omega) (by omega) (by omega)) (by omega) (by omega) (by omega)
              · rw [HT.out.2]
                exact hOne
              · exact HB4.out.trans (hO7.below HB4.out.size fun i e => by rcases e with rfl | rfl <;> simp)
          | · skip
              have hOUT : Out (fun i => i = w.heap.size + 1) W6 (((((((((((W6.setCell ⟨w.heap.size + 1, 0, none⟩ (.int .i64 x.b)).setCell ⟨w.heap.size + 1, 1, none⟩ (.int .i64 x.c)).setCell ⟨w.heap.size + 1, 2, none⟩ (.int .i64 x.j)).setCell ⟨w.heap.size + 1, 3, none⟩ (.int .i64 2)).setCell ⟨w.heap.size + 1, 4, none⟩ (.int .i64 x.n)).setCell ⟨w.heap.size + 1, 5, none⟩ (.int .i64 at_)).setCell ⟨w.heap.size + 1, 6, none⟩ (.slice pF x.F.length cF)).setCell ⟨w.heap.size + 1, 7, none⟩ (.slice pL lL cL)).setCell ⟨w.heap.size + 1, 8, none⟩ (.int .i64 start)).setCell ⟨w.heap.size + 1, 9, none⟩ (.int .i64 done)).setCell ⟨w.heap.size + 1, 10, none⟩ (.string ⟨x.H.toArray⟩)) := out11 _ _ _ _ _ _ _ _ _ _ _ _ _
              have hROW : (((((((((((W6.setCell ⟨w.heap.size + 1, 0, none⟩ (.int .i64 x.b)).setCell ⟨w.heap.size + 1, 1, none⟩ (.int .i64 x.c)).setCell ⟨w.heap.size + 1, 2, none⟩ (.int .i64 x.j)).setCell ⟨w.heap.size + 1, 3, none⟩ (.int .i64 2)).setCell ⟨w.heap.size + 1, 4, none⟩ (.int .i64 x.n)).setCell ⟨w.heap.size + 1, 5, none⟩ (.int .i64 at_)).setCell ⟨w.heap.size + 1, 6, none⟩ (.slice pF x.F.length cF)).setCell ⟨w.heap.size + 1, 7, none⟩ (.slice pL lL cL)).setCell ⟨w.heap.size + 1, 8, none⟩ (.int .i64 start)).setCell ⟨w.heap.size + 1, 9, none⟩ (.int .i64 done)).setCell ⟨w.heap.size + 1, 10, none⟩ (.string ⟨x.H.toArray⟩)).heap[w.heap.size + 1]? = some (.cells #[.int .i64 x.b, .int .i64 x.c, .int .i64 x.j, .int .i64 2, .int .i64 x.n, .int .i64 at_, .slice pF x.F.length cF, .slice pL lL cL, .int .i64 start, .int .i64 done, .string ⟨x.H.toArray⟩] 32 (0, 0)) := set11 hRSH.out _ _ _ _ _ _ _ _ _ _ _
              have hs7 : (((((((((((W6.setCell ⟨w.heap.size + 1, 0, none⟩ (.int .i64 x.b)).setCell ⟨w.heap.size + 1, 1, none⟩ (.int .i64 x.c)).setCell ⟨w.heap.size + 1, 2, none⟩ (.int .i64 x.j)).setCell ⟨w.heap.size + 1, 3, none⟩ (.int .i64 2)).setCell ⟨w.heap.size + 1, 4, none⟩ (.int .i64 x.n)).setCell ⟨w.heap.size + 1, 5, none⟩ (.int .i64 at_)).setCell ⟨w.heap.size + 1, 6, none⟩ (.slice pF x.F.length cF)).setCell ⟨w.heap.size + 1, 7, none⟩ (.slice pL lL cL)).setCell ⟨w.heap.size + 1, 8, none⟩ (.int .i64 start)).setCell ⟨w.heap.size + 1, 9, none⟩ (.int .i64 done)).setCell ⟨w.heap.size + 1, 10, none⟩ (.string ⟨x.H.toArray⟩)).heap.size = w4.heap.size := by rw [← hs6]; simp [World.setCell]
              generalize (((((((((((W6.setCell ⟨w.heap.size + 1, 0, none⟩ (.int .i64 x.b)).setCell ⟨w.heap.size + 1, 1, none⟩ (.int .i64 x.c)).setCell ⟨w.heap.size + 1, 2, none⟩ (.int .i64 x.j)).setCell ⟨w.heap.size + 1, 3, none⟩ (.int .i64 2)).setCell ⟨w.heap.size + 1, 4, none⟩ (.int .i64 x.n)).setCell ⟨w.heap.size + 1, 5, none⟩ (.int .i64 at_)).setCell ⟨w.heap.size + 1, 6, none⟩ (.slice pF x.F.length cF)).setCell ⟨w.heap.size + 1, 7, none⟩ (.slice pL lL cL)).setCell ⟨w.heap.size + 1, 8, none⟩ (.int .i64 start)).setCell ⟨w.heap.size + 1, 9, none⟩ (.int .i64 done)).setCell ⟨w.heap.size + 1, 10, none⟩ (.string ⟨x.H.toArray⟩)) = WF at *
              have hROW2 := at_old WF (.cells #[.int .i64 1, .string ⟨#[]⟩] 62) hROW
              have hOne := one_res WF (1, []) w.heap.size w4.heap.size (by omega) hs7.symm
              have hO7 : Out (fun i => i = w.heap.size ∨ i = w.heap.size + 1) w4 (WF.alloc (.cells #[.int .i64 1, .string ⟨#[]⟩] 62)) := ((hO6.mono fun _ _ e => .inl e).trans (hOUT.mono fun _ _ e => .inr e) fun _ _ h => h).alloc _
              obtain ⟨k0, k1, k2, k3, k4, k5, k6, k7, k8, k9, k10⟩ := row11 hROW2
              generalize WF.alloc (.cells #[.int .i64 1, .string ⟨#[]⟩] 62) = WG at *
              refine bodyPost_ret (v := .tuple #[.agg #[.int .i64 x.b, .int .i64 x.c, .int .i64 x.j, .int .i64 2, .int .i64 x.n, .int .i64 at_, .slice pF x.F.length cF, .slice pL lL cL, .int .i64 start, .int .i64 done, .string ⟨x.H.toArray⟩], .slice (some ⟨w4.heap.size, 0, none⟩) 1 1]) ?_ rfl ⟨_, _, rfl, ?_, ?_, ?_⟩
              · simp [results, Tryz.results32, go_sem, k0, k1, k2, k3, k4, k5, k6, k7, k8, k9, k10]
              · rw [HT.out.1, HH.out]
                exact rf_calm HF.out (good_calm HG.out 2 (by omega) (by omega) (by omega)) (by omega) (by omega) (by omega)
              · rw [HT.out.2]
                exact hOne
              · exact HB4.out.trans (hO7.below HB4.out.size fun i e => by rcases e with rfl | rfl <;> simp)
        · have hgo : goes x := by
            unfold nextI at hni
            simpa [h1] using hni
          have HT := Lib.hid (tick_go hT hgo)
          have HGO := Lib.hid hgo
          have t1 : (x.st == 1) = false := by simpa using h1
          obtain ⟨nv, hnv⟩ : ∃ nv, nextV x = nv := ⟨_, rfl⟩
          rw [hnv] at hv ⊢
          have q1 : ¬ now < nv := by omega
          clear hni hn hT h1 hnv hv hgo
          go_wp2_with (go_at_call 50; refine (HB.out _).mono ?_; rintro e w' ⟨rfl, rfl⟩)
          have hMM := HRS4.out
          refine (rgoOn_calls now HGO.out w4 (fun L p c h => (HOK.out L p c h).below HB4.out) HR.out).mono ?_
          rintro e w5 ⟨v5, u5, rfl, hR5, hM5, hB5⟩
          obtain ⟨y, hy⟩ : ∃ y, goL x now = y := ⟨_, rfl⟩
          rw [hy] at hR5
          have HY := Lib.hid hy
          have HR5 := Lib.hid hR5
          obtain ⟨aty, pFy, cFy, pLy, lLy, cLy, sy, dy, hR5⟩ := hR5
          obtain ⟨rfl, -, -, -, -, -⟩ := hR5
          have HB5 := Lib.hid (HB4.out.trans (hB5.mono HB4.out.size))
          have hrs5 := (hB5.block _ (at_lt hMM)).trans hMM
          have HRS5 := Lib.hid hrs5
          have HM5 := Lib.hid hM5
          clear c0 c1 c2 c3 c4 c5 c6 c7 c8 c9 c10 f0 f1 f2 f3 f4 f5 f6 f7 f8 f9 f10 r0 r1 r2 r3 r4 r5 r6 r7 r8 r9 r10 g0 g1 g2 g3 g4 g5 g6 g7 g8 g9 g10
          obtain ⟨r0, r1, r2, r3, r4, r5, r6, r7, r8, r9, r10⟩ := row11 hrs5
          obtain ⟨g0, g1, g2, g3, g4, g5, g6, g7, g8, g9, g10⟩ := frz11 hrs5
          have hs5 := hB5.size
          unfold lnC
          clear hMM hB5 hrs5 hy hM5
          go_wp2_with fail
          have hOUT : Out (fun i => i = w.heap.size + 1) w5 (((((((((((w5.setCell ⟨w.heap.size + 1, 0, none⟩ (.int .i64 y.b)).setCell ⟨w.heap.size + 1, 1, none⟩ (.int .i64 y.c)).setCell ⟨w.heap.size + 1, 2, none⟩ (.int .i64 y.j)).setCell ⟨w.heap.size + 1, 3, none⟩ (.int .i64 y.st)).setCell ⟨w.heap.size + 1, 4, none⟩ (.int .i64 y.n)).setCell ⟨w.heap.size + 1, 5, none⟩ (.int .i64 aty)).setCell ⟨w.heap.size + 1, 6, none⟩ (.slice pFy y.F.length cFy)).setCell ⟨w.heap.size + 1, 7, none⟩ (.slice pLy lLy cLy)).setCell ⟨w.heap.size + 1, 8, none⟩ (.int .i64 sy)).setCell ⟨w.heap.size + 1, 9, none⟩ (.int .i64 dy)).setCell ⟨w.heap.size + 1, 10, none⟩ (.string ⟨y.H.toArray⟩)) := out11 _ _ _ _ _ _ _ _ _ _ _ _ _
          have hROW : (((((((((((w5.setCell ⟨w.heap.size + 1, 0, none⟩ (.int .i64 y.b)).setCell ⟨w.heap.size + 1, 1, none⟩ (.int .i64 y.c)).setCell ⟨w.heap.size + 1, 2, none⟩ (.int .i64 y.j)).setCell ⟨w.heap.size + 1, 3, none⟩ (.int .i64 y.st)).setCell ⟨w.heap.size + 1, 4, none⟩ (.int .i64 y.n)).setCell ⟨w.heap.size + 1, 5, none⟩ (.int .i64 aty)).setCell ⟨w.heap.size + 1, 6, none⟩ (.slice pFy y.F.length cFy)).setCell ⟨w.heap.size + 1, 7, none⟩ (.slice pLy lLy cLy)).setCell ⟨w.heap.size + 1, 8, none⟩ (.int .i64 sy)).setCell ⟨w.heap.size + 1, 9, none⟩ (.int .i64 dy)).setCell ⟨w.heap.size + 1, 10, none⟩ (.string ⟨y.H.toArray⟩)).heap[w.heap.size + 1]? = some (.cells #[.int .i64 y.b, .int .i64 y.c, .int .i64 y.j, .int .i64 y.st, .int .i64 y.n, .int .i64 aty, .slice pFy y.F.length cFy, .slice pLy lLy cLy, .int .i64 sy, .int .i64 dy, .string ⟨y.H.toArray⟩] 32 (0, 0)) := set11 HRS5.out _ _ _ _ _ _ _ _ _ _ _
          obtain ⟨k0, k1, k2, k3, k4, k5, k6, k7, k8, k9, k10⟩ := row11 hROW
          generalize (((((((((((w5.setCell ⟨w.heap.size + 1, 0, none⟩ (.int .i64 y.b)).setCell ⟨w.heap.size + 1, 1, none⟩ (.int .i64 y.c)).setCell ⟨w.heap.size + 1, 2, none⟩ (.int .i64 y.j)).setCell ⟨w.heap.size + 1, 3, none⟩ (.int .i64 y.st)).setCell ⟨w.heap.size + 1, 4, none⟩ (.int .i64 y.n)).setCell ⟨w.heap.size + 1, 5, none⟩ (.int .i64 aty)).setCell ⟨w.heap.size + 1, 6, none⟩ (.slice pFy y.F.length cFy)).setCell ⟨w.heap.size + 1, 7, none⟩ (.slice pLy lLy cLy)).setCell ⟨w.heap.size + 1, 8, none⟩ (.int .i64 sy)).setCell ⟨w.heap.size + 1, 9, none⟩ (.int .i64 dy)).setCell ⟨w.heap.size + 1, 10, none⟩ (.string ⟨y.H.toArray⟩)) = WF at *
          refine bodyPost_ret (v := .tuple #[.agg #[.int .i64 y.b, .int .i64 y.c, .int .i64 y.j, .int .i64 y.st, .int .i64 y.n, .int .i64 aty, .slice pFy y.F.length cFy, .slice pLy lLy cLy, .int .i64 sy, .int .i64 dy, .string ⟨y.H.toArray⟩], u5]) ?_ rfl ?_
          · simp [results, Tryz.results32, go_sem, k0, k1, k2, k3, k4, k5, k6, k7, k8, k9, k10]
          have := own_out (own2_base HM5.out (show w.heap.size ≤ w4.heap.size by omega)) hOUT fun g hg e => by have := (own_lt HM5.out hg).1; omega
          exact ⟨_, _, rfl, by rw [HT.out.1, HY.out]; exact HR5.out, by rw [HT.out.2]; exact this, HB5.out.trans (hOUT.below HB5.out.size fun i e => by omega)⟩
      · have hn2 : bef now = false := by simpa using hn
        have HT := Lib.hid (tick_no (x := x) (now := now) (by rw [HTB.out, hn2]; simp))
        rw [hn2] at HB
        obtain ⟨nv, hnv⟩ : ∃ nv, nextV x = nv := ⟨_, rfl⟩
        rw [hnv] at hv ⊢
        have q1 : ¬ now < nv := by omega
        clear hni hn hn2 hnv hv
        go_wp2_with (go_at_call 50; refine (HB.out _).mono ?_; rintro e w' ⟨rfl, rfl⟩)
        have hOUT : Out (fun i => i = w.heap.size + 1) w4 (((((((((((w4.setCell ⟨w.heap.size + 1, 0, none⟩ (.int .i64 x.b)).setCell ⟨w.heap.size + 1, 1, none⟩ (.int .i64 x.c)).setCell ⟨w.heap.size + 1, 2, none⟩ (.int .i64 x.j)).setCell ⟨w.heap.size + 1, 3, none⟩ (.int .i64 x.st)).setCell ⟨w.heap.size + 1, 4, none⟩ (.int .i64 x.n)).setCell ⟨w.heap.size + 1, 5, none⟩ (.int .i64 at_)).setCell ⟨w.heap.size + 1, 6, none⟩ (.slice pF x.F.length cF)).setCell ⟨w.heap.size + 1, 7, none⟩ (.slice pL lL cL)).setCell ⟨w.heap.size + 1, 8, none⟩ (.int .i64 start)).setCell ⟨w.heap.size + 1, 9, none⟩ (.int .i64 done)).setCell ⟨w.heap.size + 1, 10, none⟩ (.string ⟨x.H.toArray⟩)) := out11 _ _ _ _ _ _ _ _ _ _ _ _ _
        have hROW : (((((((((((w4.setCell ⟨w.heap.size + 1, 0, none⟩ (.int .i64 x.b)).setCell ⟨w.heap.size + 1, 1, none⟩ (.int .i64 x.c)).setCell ⟨w.heap.size + 1, 2, none⟩ (.int .i64 x.j)).setCell ⟨w.heap.size + 1, 3, none⟩ (.int .i64 x.st)).setCell ⟨w.heap.size + 1, 4, none⟩ (.int .i64 x.n)).setCell ⟨w.heap.size + 1, 5, none⟩ (.int .i64 at_)).setCell ⟨w.heap.size + 1, 6, none⟩ (.slice pF x.F.length cF)).setCell ⟨w.heap.size + 1, 7, none⟩ (.slice pL lL cL)).setCell ⟨w.heap.size + 1, 8, none⟩ (.int .i64 start)).setCell ⟨w.heap.size + 1, 9, none⟩ (.int .i64 done)).setCell ⟨w.heap.size + 1, 10, none⟩ (.string ⟨x.H.toArray⟩)).heap[w.heap.size + 1]? = some (.cells #[.int .i64 x.b, .int .i64 x.c, .int .i64 x.j, .int .i64 x.st, .int .i64 x.n, .int .i64 at_, .slice pF x.F.length cF, .slice pL lL cL, .int .i64 start, .int .i64 done, .string ⟨x.H.toArray⟩] 32 (0, 0)) := set11 HRS4.out _ _ _ _ _ _ _ _ _ _ _
        obtain ⟨k0, k1, k2, k3, k4, k5, k6, k7, k8, k9, k10⟩ := row11 hROW
        generalize (((((((((((w4.setCell ⟨w.heap.size + 1, 0, none⟩ (.int .i64 x.b)).setCell ⟨w.heap.size + 1, 1, none⟩ (.int .i64 x.c)).setCell ⟨w.heap.size + 1, 2, none⟩ (.int .i64 x.j)).setCell ⟨w.heap.size + 1, 3, none⟩ (.int .i64 x.st)).setCell ⟨w.heap.size + 1, 4, none⟩ (.int .i64 x.n)).setCell ⟨w.heap.size + 1, 5, none⟩ (.int .i64 at_)).setCell ⟨w.heap.size + 1, 6, none⟩ (.slice pF x.F.length cF)).setCell ⟨w.heap.size + 1, 7, none⟩ (.slice pL lL cL)).setCell ⟨w.heap.size + 1, 8, none⟩ (.int .i64 start)).setCell ⟨w.heap.size + 1, 9, none⟩ (.int .i64 done)).setCell ⟨w.heap.size + 1, 10, none⟩ (.string ⟨x.H.toArray⟩)) = WF at *
        refine bodyPost_ret (v := .tuple #[.agg #[.int .i64 x.b, .int .i64 x.c, .int .i64 x.j, .int .i64 x.st, .int .i64 x.n, .int .i64 at_, .slice pF x.F.length cF, .slice pL lL cL, .int .i64 start, .int .i64 done, .string ⟨x.H.toArray⟩], .slice none 0 0]) ?_ rfl ?_
        · simp [results, Tryz.results32, go_sem, k0, k1, k2, k3, k4, k5, k6, k7, k8, k9, k10]
        exact ⟨_, _, rfl, by rw [HT.out.1]; exact HR.out, by rw [HT.out.2]; exact mineO_nil _ _, HB4.out.trans (hOUT.below HB4.out.size fun i e => by omega)⟩
    · have HT := Lib.hid (tick_no (x := x) (now := now) (by rw [HTB.out, decide_eq_false hv]; simp))
      obtain ⟨nv, hnv⟩ : ∃ nv, nextV x = nv := ⟨_, rfl⟩
      rw [hnv] at hv ⊢
      have q1 : now < nv := by omega
      clear hni hnv hv
      go_wp2_with (go_at_call 50; refine (HB.out _).mono ?_; rintro e w' ⟨rfl, rfl⟩)
      have hOUT : Out (fun i => i = w.heap.size + 1) w4 (((((((((((w4.setCell ⟨w.heap.size + 1, 0, none⟩ (.int .i64 x.b)).setCell ⟨w.heap.size + 1, 1, none⟩ (.int .i64 x.c)).setCell ⟨w.heap.size + 1, 2, none⟩ (.int .i64 x.j)).setCell ⟨w.heap.size + 1, 3, none⟩ (.int .i64 x.st)).setCell ⟨w.heap.size + 1, 4, none⟩ (.int .i64 x.n)).setCell ⟨w.heap.size + 1, 5, none⟩ (.int .i64 at_)).setCell ⟨w.heap.size + 1, 6, none⟩ (.slice pF x.F.length cF)).setCell ⟨w.heap.size + 1, 7, none⟩ (.slice pL lL cL)).setCell ⟨w.heap.size + 1, 8, none⟩ (.int .i64 start)).setCell ⟨w.heap.size + 1, 9, none⟩ (.int .i64 done)).setCell ⟨w.heap.size + 1, 10, none⟩ (.string ⟨x.H.toArray⟩)) := out11 _ _ _ _ _ _ _ _ _ _ _ _ _
      have hROW : (((((((((((w4.setCell ⟨w.heap.size + 1, 0, none⟩ (.int .i64 x.b)).setCell ⟨w.heap.size + 1, 1, none⟩ (.int .i64 x.c)).setCell ⟨w.heap.size + 1, 2, none⟩ (.int .i64 x.j)).setCell ⟨w.heap.size + 1, 3, none⟩ (.int .i64 x.st)).setCell ⟨w.heap.size + 1, 4, none⟩ (.int .i64 x.n)).setCell ⟨w.heap.size + 1, 5, none⟩ (.int .i64 at_)).setCell ⟨w.heap.size + 1, 6, none⟩ (.slice pF x.F.length cF)).setCell ⟨w.heap.size + 1, 7, none⟩ (.slice pL lL cL)).setCell ⟨w.heap.size + 1, 8, none⟩ (.int .i64 start)).setCell ⟨w.heap.size + 1, 9, none⟩ (.int .i64 done)).setCell ⟨w.heap.size + 1, 10, none⟩ (.string ⟨x.H.toArray⟩)).heap[w.heap.size + 1]? = some (.cells #[.int .i64 x.b, .int .i64 x.c, .int .i64 x.j, .int .i64 x.st, .int .i64 x.n, .int .i64 at_, .slice pF x.F.length cF, .slice pL lL cL, .int .i64 start, .int .i64 done, .string ⟨x.H.toArray⟩] 32 (0, 0)) := set11 HRS4.out _ _ _ _ _ _ _ _ _ _ _
      obtain ⟨k0, k1, k2, k3, k4, k5, k6, k7, k8, k9, k10⟩ := row11 hROW
      generalize (((((((((((w4.setCell ⟨w.heap.size + 1, 0, none⟩ (.int .i64 x.b)).setCell ⟨w.heap.size + 1, 1, none⟩ (.int .i64 x.c)).setCell ⟨w.heap.size + 1, 2, none⟩ (.int .i64 x.j)).setCell ⟨w.heap.size + 1, 3, none⟩ (.int .i64 x.st)).setCell ⟨w.heap.size + 1, 4, none⟩ (.int .i64 x.n)).setCell ⟨w.heap.size + 1, 5, none⟩ (.int .i64 at_)).setCell ⟨w.heap.size + 1, 6, none⟩ (.slice pF x.F.length cF)).setCell ⟨w.heap.size + 1, 7, none⟩ (.slice pL lL cL)).setCell ⟨w.heap.size + 1, 8, none⟩ (.int .i64 start)).setCell ⟨w.heap.size + 1, 9, none⟩ (.int .i64 done)).setCell ⟨w.heap.size + 1, 10, none⟩ (.string ⟨x.H.toArray⟩)) = WF at *
      refine bodyPost_ret (v := .tuple #[.agg #[.int .i64 x.b, .int .i64 x.c, .int .i64 x.j, .int .i64 x.st, .int .i64 x.n, .int .i64 at_, .slice pF x.F.length cF, .slice pL lL cL, .int .i64 start, .int .i64 done, .string ⟨x.H.toArray⟩], .slice none 0 0]) ?_ rfl ?_
      · simp [results, Tryz.results32, go_sem, k0, k1, k2, k3, k4, k5, k6, k7, k8, k9, k10]
      exact ⟨_, _, rfl, by rw [HT.out.1]; exact HR.out, by rw [HT.out.2]; exact mineO_nil _ _, HB4.out.trans (hOUT.below HB4.out.size fun i e => by omega)⟩
set_option maxRecDepth 100000 in
set_option maxHeartbeats 2000000 in
theorem rsend_calls (s : List UInt8) (hs : s.length ≤ 2000) (w : World) (h : Rf OK x v) : Calls Tryz.prog 30 #[v, .string ⟨s.toArray⟩] w fun e w' => ∃ v' u, e = .returned (.tuple #[v', u, .bool (sendB x s)]) ∧ Rf OK (sendL x s) v' ∧ MineO w' w.heap.size u (sendO x s) ∧ Below w.heap.size w w' := by
  have HR := Lib.hid h
  obtain ⟨at_, pF, cF, pL, lL, cL, start, done, h⟩ := h
  obtain ⟨rfl, hf, hw, hr, hg, hi⟩ := h
  have HF := Lib.hid hf
  have HG := Lib.hid hg
  have HRUN := Lib.hid hr
  have HIDLE := Lib.hid hi
  clear hf hw hr hg hi
  unfold lnC at *
  have hH := HG.out.held
  by_cases h4 : x.st = 4
  · have hng : ¬ goes x := by rintro (e | e) <;> omega
    have HE : Hid (sendB x s = true ∧ sendL x s = x ∧ sendO x s = oW s) := Lib.hid ⟨by unfold sendB; simp [h4], by unfold sendL; rw [if_neg (fun hf => hng hf.1)], by unfold sendO; rw [if_pos h4]⟩
    have t4 : (x.st == 4) = true := by simpa using h4
    clear h4 hng hH
    by_cases hse : s = []
    · have hi : s.isEmpty = true := by simp [hse]
      have HE := Lib.hid (⟨HE.out.1, HE.out.2.1, by rw [HE.out.2.2, hse]; unfold oW; simp⟩ : sendB x s = true ∧ sendL x s = x ∧ sendO x s = [])
      clear hse
      go_enter Tryz.func30, Tryz.ntmps30
      go_wp2_with fail
      refine bodyPost_ret (v := .tuple #[.agg #[.int .i64 x.b, .int .i64 x.c, .int .i64 x.j, .int .i64 x.st, .int .i64 x.n, .int .i64 at_, .slice pF x.F.length cF, .slice pL lL cL, .int .i64 start, .int .i64 done, .string ⟨x.H.toArray⟩], .slice none 0 0, .bool true]) ?_ rfl ⟨_, _, by rw [HE.out.1], by rw [HE.out.2.1]; exact HR.out, by rw [HE.out.2.2]; exact mineO_nil _ _, ((Below.refl _ _).alloc (Nat.le_refl _) _).alloc (by simp) _⟩
      simp [results, Tryz.results30, go_sem]
    · have hi : s.isEmpty = false := by simpa using hse
      have HW := Lib.hid (oW_one hse)
      clear hse
      go_enter Tryz.func30, Tryz.ntmps30
      go_wp2_with fail
      refine bodyPost_ret (v := .tuple #[.agg #[.int .i64 x.b, .int .i64 x.c, .int .i64 x.j, .int .i64 x.st, .int .i64 x.n, .int .i64 at_, .slice pF x.F.length cF, .slice pL lL cL, .int .i64 start, .int .i64 done, .string ⟨x.H.toArray⟩], .slice (some ⟨w.heap.size + 1 + 1, 0, none⟩) 1 1, .bool true]) ?_ rfl ⟨_, _, by rw [HE.out.1], by rw [HE.out.2.1]; exact HR.out, ?_, ?_⟩
      · simp [results, Tryz.results30, go_sem]
      · rw [HE.out.2.2, HW.out]
        exact one_res _ (3, s) _ _ (by simp; omega) (by simp)
      · exact (((Below.refl _ _).alloc (Nat.le_refl _) _).alloc (by simp) _).alloc (by simp; omega) _
  · have t4 : (x.st == 4) = false := by simpa using h4
    have hO : sendO x s = [] := by unfold sendO; rw [if_neg h4]
    by_cases hg : goes x
    · have h35 : x.st = 3 ∨ x.st = 5 := hg
      by_cases hf : s.length + x.H.length ≤ 4096
      · have HE : Hid (sendB x s = true ∧ sendL x s = { x with H := x.H ++ s } ∧ sendO x s = []) := Lib.hid ⟨by unfold sendB; simp [show fits x s from ⟨hg, hf⟩], by unfold sendL; rw [if_pos ⟨hg, hf⟩], hO⟩
        have q1 : ¬ (4096 : Int) < (x.H.length : Int) + (s.length : Int) := by omega
        have hsz : x.H.length + s.length ≤ 4096 := by omega
        have HGO := Lib.hid hg
        clear hO h4 hf hg
        have hrf : ∀ st : Int, x.st = st → Rf OK { x with H := x.H ++ s } (.agg #[.int .i64 x.b, .int .i64 x.c, .int .i64 x.j, .int .i64 st, .int .i64 x.n, .int .i64 at_, .slice pF x.F.length cF, .slice pL lL cL, .int .i64 start, .int .i64 done, .string (⟨x.H.toArray⟩ ++ ⟨s.toArray⟩)]) := fun st e => by
          subst e
          obtain ⟨a1, p1, k1, p2, l2, k2, s2, d2, h1⟩ := HR.out
          obtain ⟨e1, e2, e3, e4, e5, e6⟩ := h1
          unfold lnC at e1
          injection e1 with e1
          have hgd : Good { x with H := x.H ++ s } := ⟨e5.rule, e5.st, by show (x.H ++ s).length ≤ 4096; rw [List.length_append]; omega, e5.few, e5.first, e5.run, e5.un⟩
          refine ⟨at_, pF, cF, pL, lL, cL, start, done, ?_, HF.out, fun e => ?_, fun hgo => HRUN.out hgo, hgd, fun h => absurd HGO.out h⟩
          · rw [Go.Proofs.YtnkhdpenmekhdaaGreat.Digit.bytes_add]; rfl
          · have e : x.st = 1 := e
            rcases HGO.out with h | h <;> omega
        have HRF := Lib.hid hrf
        clear hrf
        rcases h35 with h3 | h3 <;>
        · go_enter Tryz.func30, Tryz.ntmps30
          go_wp2_with fail
          refine bodyPost_ret (v := .tuple #[.agg #[.int .i64 x.b, .int .i64 x.c, .int .i64 x.j, .int .i64 x.st, .int .i64 x.n, .int .i64 at_, .slice pF x.F.length cF, .slice pL lL cL, .int .i64 start, .int .i64 done, .string (⟨x.H.toArray⟩ ++ ⟨s.toArray⟩)], .slice none 0 0, .bool true]) ?_ rfl ⟨_, _, by rw [HE.out.1], by rw [HE.out.2.1]; exact HRF.out _ rfl, by rw [HE.out.2.2]; exact mineO_nil _ _, ((Below.refl _ _).alloc (Nat.le_refl _) _).alloc (by simp) _⟩
          simp [results, Tryz.results30, go_sem, h3]
      · have HE : Hid (sendB x s = false ∧ sendL x s = x ∧ sendO x s = []) := Lib.hid ⟨by unfold sendB; simp [h4, show ¬ fits x s from fun h => hf h.2], by unfold sendL; rw [if_neg fun h => hf h.2], hO⟩
        have q1 : (4096 : Int) < (x.H.length : Int) + (s.length : Int) := by omega
        clear hO h4 hf hg
        rcases h35 with h3 | h3 <;>
        · go_enter Tryz.func30, Tryz.ntmps30
          go_wp2_with fail
          refine bodyPost_ret (v := .tuple #[.agg #[.int .i64 x.b, .int .i64 x.c, .int .i64 x.j, .int .i64 x.st, .int .i64 x.n, .int .i64 at_, .slice pF x.F.length cF, .slice pL lL cL, .int .i64 start, .int .i64 done, .string ⟨x.H.toArray⟩], .slice none 0 0, .bool false]) ?_ rfl ⟨_, _, by rw [HE.out.1], by rw [HE.out.2.1]; exact HR.out, by rw [HE.out.2.2]; exact mineO_nil _ _, ((Below.refl _ _).alloc (Nat.le_refl _) _).alloc (by simp) _⟩
          simp [results, Tryz.results30, go_sem, h3]
    · have HE : Hid (sendB x s = false ∧ sendL x s = x ∧ sendO x s = []) := Lib.hid ⟨by unfold sendB; simp [h4, show ¬ fits x s from fun h => hg h.1], by unfold sendL; rw [if_neg fun h => hg h.1], hO⟩
      have hg2 : ¬ (x.st = 3 ∨ x.st = 5) := hg
      have h012 : x.st = 0 ∨ x.st = 1 ∨ x.st = 2 := by have := HG.out.st; omega
      clear hO h4 hg hg2
      rcases h012 with h3 | h3 | h3 <;>
      · go_enter Tryz.func30, Tryz.ntmps30
        go_wp2_with fail
        refine bodyPost_ret (v := .tuple #[.agg #[.int .i64 x.b, .int .i64 x.c, .int .i64 x.j, .int .i64 x.st, .int .i64 x.n, .int .i64 at_, .slice pF x.F.length cF, .slice pL lL cL, .int .i64 start, .int .i64 done, .string ⟨x.H.toArray⟩], .slice none 0 0, .bool false]) ?_ rfl ⟨_, _, by rw [HE.out.1], by rw [HE.out.2.1]; exact HR.out, by rw [HE.out.2.2]; exact mineO_nil _ _, ((Below.refl _ _).alloc (Nat.le_refl _) _).alloc (by simp) _⟩
        simp [results, Tryz.results30, go_sem, h3]
end
end Go.Proofs.YtnkhdpenmekhdaaGreat.Lin
end

section
namespace Go.Proofs.YtnkhdpenmekhdaaGreat.Lin
open Go.RowKit Go.Proofs.YtnkhdpenmekhdaaGreat.Own Go.Proofs.YtnkhdpenmekhdaaGreat.Brk Go.Proofs.YtnkhdpenmekhdaaGreat.Calc Go.Proofs.YtnkhdpenmekhdaaGreat.Tree Go.Proofs.YtnkhdpenmekhdaaGreat.Run Go.Proofs.YtnkhdpenmekhdaaGreat.Bkf

set_option maxRecDepth 100000 in
set_option maxHeartbeats 8000000 in
theorem do_tick {w : World} {S : Nat → Prop} {k : Nat} {x : Ln} {v : Value} (P : Pr w S k x v) (kk g r now : Int) (ok : Bool) (s : List UInt8) (q : Option Addr) (m cq : Nat) (h0 : 0 ≤ kk) (h1 : kk ≤ 255) (κ : Int) (hk : kk % 10 = κ) (g3 : (κ == 3) = false) (g4 : (κ == 4) = false) (g5 : (κ == 5) = false) (g6 : (κ == 6) = false) (g7 : (κ == 7) = false) (g8 : (κ == 8) = false) (g9 : (κ == 9) = false)  :
    Calls Tryz.prog 7 #[.pointer (some ⟨k, 0, none⟩), v, .agg #[.int .u8 kk, .int .u8 g, .bool ok, .int .i64 r, .string ⟨s.toArray⟩, .slice q m cq], .int .i64 now] w (DoPost w S k (tickL x now)) := by
  have hRf := P.rf
  obtain ⟨x0, x1, x2, x3, x4, x5, xp6, xl6, xk6, xp7, xl7, xk7, x8, x9, x10, rfl⟩ := hRf.cells
  have hS := P.mem.lt
  have HS := Lib.hid hS
  obtain ⟨Yl, hY⟩ : ∃ y, tickL x now = y := ⟨_, rfl⟩
  obtain ⟨O, hO⟩ : ∃ y, tickO x now = y := ⟨_, rfl⟩
  obtain ⟨n, hn⟩ : ∃ y, O.length = y := ⟨_, rfl⟩
  have HN := Lib.hid hn
  have HM := Lib.hid (fun W (hW : Below w.heap.size w W) => P.mem.below hW)
  have hOK : ∀ W, Below w.heap.size w W → ∀ L p c, OKS S w L p c → Ops W L p c := fun W hW L p c h => h W (Out.ofNew hW)
  have HRef : Hid (∀ W, Below w.heap.size w W → Calls Tryz.prog 32 #[.agg #[.int .i64 x0, .int .i64 x1, .int .i64 x2, .int .i64 x3, .int .i64 x4, .int .i64 x5, .slice xp6 xl6 xk6, .slice xp7 xl7 xk7, .int .i64 x8, .int .i64 x9, .string x10], .int .i64 now] W fun e w' => ∃ z0 z1 z2 z3 z4 z5 zp6 zl6 zk6 zp7 zl7 zk7 z8 z9 z10 p c, e = .returned (.tuple #[.agg #[.int .i64 z0, .int .i64 z1, .int .i64 z2, .int .i64 z3, .int .i64 z4, .int .i64 z5, .slice zp6 zl6 zk6, .slice zp7 zl7 zk7, .int .i64 z8, .int .i64 z9, .string z10], .slice p n c]) ∧ Rf (OKS S w) Yl (.agg #[.int .i64 z0, .int .i64 z1, .int .i64 z2, .int .i64 z3, .int .i64 z4, .int .i64 z5, .slice zp6 zl6 zk6, .slice zp7 zl7 zk7, .int .i64 z8, .int .i64 z9, .string z10]) ∧ Below W.heap.size W w' ∧ ∀ V, Out S w' V → Outs V O p c) := Lib.hid fun W hW => by
    refine (rtick_calls now W (hOK W hW) (P.rf)).mono fun e w' he => ?_
    rw [hY, hO] at he
    exact ref_post (fun i hi => Nat.lt_of_lt_of_le (hS i hi) hW.size) hn he
  have HPr : Hid (∀ W, Below w.heap.size w W → Mem W k S x → Calls Tryz.prog 15 #[.pointer (some ⟨k, 0, none⟩), .int .i64 now] W fun e w' => ∃ S' p c, e = .returned (.slice p n c) ∧ Mem w' k S' Yl ∧ Step S W S' w' ∧ ∀ V, Out S' w' V → Outs V O p c) := Lib.hid fun W hWb hW => by
    refine (tick_calls now hW).mono fun e w' he => ?_
    rw [hY, hO] at he
    exact prog_post HN.out he
  have A0 := Lib.hid (DoB.start w #[.int .i64 x0, .int .i64 x1, .int .i64 x2, .int .i64 x3, .int .i64 x4, .int .i64 x5, .slice xp6 xl6 xk6, .slice xp7 xl7 xk7, .int .i64 x8, .int .i64 x9, .string x10] #[.int .u8 kk, .int .u8 g, .bool ok, .int .i64 r, .string ⟨s.toArray⟩, .slice q m cq])
  have B0 := Lib.hid (start3 w #[.int .i64 x0, .int .i64 x1, .int .i64 x2, .int .i64 x3, .int .i64 x4, .int .i64 x5, .slice xp6 xl6 xk6, .slice xp7 xl7 xk7, .int .i64 x8, .int .i64 x9, .string x10] #[.int .u8 kk, .int .u8 g, .bool ok, .int .i64 r, .string ⟨s.toArray⟩, .slice q m cq])
  rw [hY]
  clear P hRf hY hO hn hS hOK
  go_enter Tryz.func7, Tryz.ntmps7
  go_wp2_with fail
  refine (HRef.out _ B0.out).mono ?_
  rintro e w1 ⟨z0, z1, z2, z3, z4, z5, zp6, zl6, zk6, zp7, zl7, zk7, z8, z9, z10, p', c', rfl, hR1, hb1, hU1⟩
  have HR1 := Lib.hid hR1
  have HU1 := Lib.hid hU1
  have A1 := Lib.hid ((A0.out.step hb1).step ((Below.refl _ w1).alloc (Nat.le_refl _) (.cells #[.int .i64 z0, .int .i64 z1, .int .i64 z2, .int .i64 z3, .int .i64 z4, .int .i64 z5, .slice zp6 zl6 zk6, .slice zp7 zl7 zk7, .int .i64 z8, .int .i64 z9, .string z10] 32 (0, 0))))
  have B1 := Lib.hid ((B0.out.trans (hb1.mono B0.out.size)).alloc (Nat.le_trans B0.out.size hb1.size) (.cells #[.int .i64 z0, .int .i64 z1, .int .i64 z2, .int .i64 z3, .int .i64 z4, .int .i64 z5, .slice zp6 zl6 zk6, .slice zp7 zl7 zk7, .int .i64 z8, .int .i64 z9, .string z10] 32 (0, 0)))
  have hy := at_new w1 (.cells #[.int .i64 z0, .int .i64 z1, .int .i64 z2, .int .i64 z3, .int .i64 z4, .int .i64 z5, .slice zp6 zl6 zk6, .slice zp7 zl7 zk7, .int .i64 z8, .int .i64 z9, .string z10] 32 (0, 0))
  have hz1 := Lib.hid (show w.heap.size + 2 < w1.heap.size from (A0.out.step hb1).size)
  have hb2 := Lib.hid ((Below.refl _ w1).alloc (Nat.le_refl _) (.cells #[.int .i64 z0, .int .i64 z1, .int .i64 z2, .int .i64 z3, .int .i64 z4, .int .i64 z5, .slice zp6 zl6 zk6, .slice zp7 zl7 zk7, .int .i64 z8, .int .i64 z9, .string z10] 32 (0, 0)))
  clear hR1 hb1 hU1
  go_wp2_with fail
  obtain ⟨Y, hY⟩ : ∃ Y, w1.heap.size = Y := ⟨_, rfl⟩
  rw [hY] at hy ⊢
  obtain ⟨W2, hW2⟩ : ∃ W, w1.alloc (.cells #[.int .i64 z0, .int .i64 z1, .int .i64 z2, .int .i64 z3, .int .i64 z4, .int .i64 z5, .slice zp6 zl6 zk6, .slice zp7 zl7 zk7, .int .i64 z8, .int .i64 z9, .string z10] 32 (0, 0)) = W := ⟨_, rfl⟩
  rw [hW2] at A1 B1 hy hb2 ⊢
  have HYY := Lib.hid hY
  clear hW2 hY
  obtain ⟨d0, d1, d2, d3, d4, d5, d6, d7, d8, d9, d10⟩ := row11 hy
  have lY := at_lt hy
  have lX : w.heap.size + 1 < W2.heap.size := by have := A1.out.size; omega
  have nY : ¬ S Y := fun hk => by have := HS.out _ hk; have := hz1.out; have := HYY.out; omega
  have nX : ¬ S (w.heap.size + 1) := fun hk => by have := HS.out _ hk; omega
  have eYZ : Y ≠ w.heap.size + 1 + 1 := by have := hz1.out; have := HYY.out; omega
  go_region_held3 (fun w' => w'.cell? ⟨Y, 0, none⟩ = some (.int .i64 z0) ∧ w'.cell? ⟨Y, 1, none⟩ = some (.int .i64 z1) ∧ w'.cell? ⟨Y, 2, none⟩ = some (.int .i64 z2) ∧ w'.cell? ⟨Y, 3, none⟩ = some (.int .i64 z3) ∧ w'.cell? ⟨Y, 4, none⟩ = some (.int .i64 z4) ∧ w'.cell? ⟨Y, 5, none⟩ = some (.int .i64 z5) ∧ w'.cell? ⟨Y, 6, none⟩ = some (.slice zp6 zl6 zk6) ∧ w'.cell? ⟨Y, 7, none⟩ = some (.slice zp7 zl7 zk7) ∧ w'.cell? ⟨Y, 8, none⟩ = some (.int .i64 z8) ∧ w'.cell? ⟨Y, 9, none⟩ = some (.int .i64 z9) ∧ w'.cell? ⟨Y, 10, none⟩ = some (.string z10))
    (first
      | with_reducible exact ⟨d0, d1, d2, d3, d4, d5, d6, d7, d8, d9, d10⟩
      | with_reducible exact H6.out
      | with_reducible exact H5.out
      | with_reducible exact ⟨((out_drew1 W2).cell (p := ⟨Y, 0, none⟩) lY id).trans d0, ((out_drew1 W2).cell (p := ⟨Y, 1, none⟩) lY id).trans d1, ((out_drew1 W2).cell (p := ⟨Y, 2, none⟩) lY id).trans d2, ((out_drew1 W2).cell (p := ⟨Y, 3, none⟩) lY id).trans d3, ((out_drew1 W2).cell (p := ⟨Y, 4, none⟩) lY id).trans d4, ((out_drew1 W2).cell (p := ⟨Y, 5, none⟩) lY id).trans d5, ((out_drew1 W2).cell (p := ⟨Y, 6, none⟩) lY id).trans d6, ((out_drew1 W2).cell (p := ⟨Y, 7, none⟩) lY id).trans d7, ((out_drew1 W2).cell (p := ⟨Y, 8, none⟩) lY id).trans d8, ((out_drew1 W2).cell (p := ⟨Y, 9, none⟩) lY id).trans d9, ((out_drew1 W2).cell (p := ⟨Y, 10, none⟩) lY id).trans d10⟩
      | with_reducible exact ⟨((out11 w6 (w.heap.size + 1 + 1) (.int .i64 z0) (.int .i64 z1) (.int .i64 z2) (.int .i64 z3) (.int .i64 z4) (.int .i64 z5) (.slice zp6 zl6 zk6) (.slice zp7 zl7 zk7) (.int .i64 z8) (.int .i64 z9) (.string z10)).cell (p := ⟨Y, 0, none⟩) u6 eYZ).trans H6.out.1, ((out11 w6 (w.heap.size + 1 + 1) (.int .i64 z0) (.int .i64 z1) (.int .i64 z2) (.int .i64 z3) (.int .i64 z4) (.int .i64 z5) (.slice zp6 zl6 zk6) (.slice zp7 zl7 zk7) (.int .i64 z8) (.int .i64 z9) (.string z10)).cell (p := ⟨Y, 1, none⟩) u6 eYZ).trans H6.out.2.1, ((out11 w6 (w.heap.size + 1 + 1) (.int .i64 z0) (.int .i64 z1) (.int .i64 z2) (.int .i64 z3) (.int .i64 z4) (.int .i64 z5) (.slice zp6 zl6 zk6) (.slice zp7 zl7 zk7) (.int .i64 z8) (.int .i64 z9) (.string z10)).cell (p := ⟨Y, 2, none⟩) u6 eYZ).trans H6.out.2.2.1, ((out11 w6 (w.heap.size + 1 + 1) (.int .i64 z0) (.int .i64 z1) (.int .i64 z2) (.int .i64 z3) (.int .i64 z4) (.int .i64 z5) (.slice zp6 zl6 zk6) (.slice zp7 zl7 zk7) (.int .i64 z8) (.int .i64 z9) (.string z10)).cell (p := ⟨Y, 3, none⟩) u6 eYZ).trans H6.out.2.2.2.1, ((out11 w6 (w.heap.size + 1 + 1) (.int .i64 z0) (.int .i64 z1) (.int .i64 z2) (.int .i64 z3) (.int .i64 z4) (.int .i64 z5) (.slice zp6 zl6 zk6) (.slice zp7 zl7 zk7) (.int .i64 z8) (.int .i64 z9) (.string z10)).cell (p := ⟨Y, 4, none⟩) u6 eYZ).trans H6.out.2.2.2.2.1, ((out11 w6 (w.heap.size + 1 + 1) (.int .i64 z0) (.int .i64 z1) (.int .i64 z2) (.int .i64 z3) (.int .i64 z4) (.int .i64 z5) (.slice zp6 zl6 zk6) (.slice zp7 zl7 zk7) (.int .i64 z8) (.int .i64 z9) (.string z10)).cell (p := ⟨Y, 5, none⟩) u6 eYZ).trans H6.out.2.2.2.2.2.1, ((out11 w6 (w.heap.size + 1 + 1) (.int .i64 z0) (.int .i64 z1) (.int .i64 z2) (.int .i64 z3) (.int .i64 z4) (.int .i64 z5) (.slice zp6 zl6 zk6) (.slice zp7 zl7 zk7) (.int .i64 z8) (.int .i64 z9) (.string z10)).cell (p := ⟨Y, 6, none⟩) u6 eYZ).trans H6.out.2.2.2.2.2.2.1, ((out11 w6 (w.heap.size + 1 + 1) (.int .i64 z0) (.int .i64 z1) (.int .i64 z2) (.int .i64 z3) (.int .i64 z4) (.int .i64 z5) (.slice zp6 zl6 zk6) (.slice zp7 zl7 zk7) (.int .i64 z8) (.int .i64 z9) (.string z10)).cell (p := ⟨Y, 7, none⟩) u6 eYZ).trans H6.out.2.2.2.2.2.2.2.1, ((out11 w6 (w.heap.size + 1 + 1) (.int .i64 z0) (.int .i64 z1) (.int .i64 z2) (.int .i64 z3) (.int .i64 z4) (.int .i64 z5) (.slice zp6 zl6 zk6) (.slice zp7 zl7 zk7) (.int .i64 z8) (.int .i64 z9) (.string z10)).cell (p := ⟨Y, 8, none⟩) u6 eYZ).trans H6.out.2.2.2.2.2.2.2.2.1, ((out11 w6 (w.heap.size + 1 + 1) (.int .i64 z0) (.int .i64 z1) (.int .i64 z2) (.int .i64 z3) (.int .i64 z4) (.int .i64 z5) (.slice zp6 zl6 zk6) (.slice zp7 zl7 zk7) (.int .i64 z8) (.int .i64 z9) (.string z10)).cell (p := ⟨Y, 9, none⟩) u6 eYZ).trans H6.out.2.2.2.2.2.2.2.2.2.1, ((out11 w6 (w.heap.size + 1 + 1) (.int .i64 z0) (.int .i64 z1) (.int .i64 z2) (.int .i64 z3) (.int .i64 z4) (.int .i64 z5) (.slice zp6 zl6 zk6) (.slice zp7 zl7 zk7) (.int .i64 z8) (.int .i64 z9) (.string z10)).cell (p := ⟨Y, 10, none⟩) u6 eYZ).trans H6.out.2.2.2.2.2.2.2.2.2.2⟩)
    (first
      | (go_at_call 15; refine (HPr.out _ (by first | exact B1.out | exact Brk.below_drew B1.out) (HM.out _ (by first | exact B1.out | exact Brk.below_drew B1.out))).mono ?_; rintro e w5 ⟨S5, p5, c5, rfl, M5, T5, U5⟩; replace T5 : Hid (Step S W2 S5 w5) := Lib.hid ⟨⟨T5.out.os, T5.out.tape, T5.out.output, T5.out.size, T5.out.block⟩, T5.new⟩; have O5 := Lib.hid T5.out.out; have HU5 : Hid (∀ V, Below w5.heap.size w5 V → Outs V O p5 c5 ∧ Outs V O p' c') := Lib.hid fun V hV => ⟨U5 V (Out.ofNew hV), HU1.out V (((Out.ofNew (S := S) hb2.out).trans O5.out fun _ _ h => h).trans (Out.ofNew (S := S) hV) fun _ _ h => h)⟩; have H5 := Lib.hid (⟨(O5.out.cell (p := ⟨Y, 0, none⟩) lY nY).trans d0, (O5.out.cell (p := ⟨Y, 1, none⟩) lY nY).trans d1, (O5.out.cell (p := ⟨Y, 2, none⟩) lY nY).trans d2, (O5.out.cell (p := ⟨Y, 3, none⟩) lY nY).trans d3, (O5.out.cell (p := ⟨Y, 4, none⟩) lY nY).trans d4, (O5.out.cell (p := ⟨Y, 5, none⟩) lY nY).trans d5, (O5.out.cell (p := ⟨Y, 6, none⟩) lY nY).trans d6, (O5.out.cell (p := ⟨Y, 7, none⟩) lY nY).trans d7, (O5.out.cell (p := ⟨Y, 8, none⟩) lY nY).trans d8, (O5.out.cell (p := ⟨Y, 9, none⟩) lY nY).trans d9, (O5.out.cell (p := ⟨Y, 10, none⟩) lY nY).trans d10⟩ : w5.cell? ⟨Y, 0, none⟩ = some (.int .i64 z0) ∧ w5.cell? ⟨Y, 1, none⟩ = some (.int .i64 z1) ∧ w5.cell? ⟨Y, 2, none⟩ = some (.int .i64 z2) ∧ w5.cell? ⟨Y, 3, none⟩ = some (.int .i64 z3) ∧ w5.cell? ⟨Y, 4, none⟩ = some (.int .i64 z4) ∧ w5.cell? ⟨Y, 5, none⟩ = some (.int .i64 z5) ∧ w5.cell? ⟨Y, 6, none⟩ = some (.slice zp6 zl6 zk6) ∧ w5.cell? ⟨Y, 7, none⟩ = some (.slice zp7 zl7 zk7) ∧ w5.cell? ⟨Y, 8, none⟩ = some (.int .i64 z8) ∧ w5.cell? ⟨Y, 9, none⟩ = some (.int .i64 z9) ∧ w5.cell? ⟨Y, 10, none⟩ = some (.string z10)); have l6 := Nat.lt_of_lt_of_le lY O5.out.size; have l6' := Nat.lt_of_lt_of_le lX O5.out.size; have A5 := Lib.hid (A1.out.out O5.out HS.out); replace M5 := Lib.hid M5; clear U5)
      | (go_at_call 20; refine (same_outs O n HN.out _ _ _ _ _ (HU5.out _ (by first | exact Below.refl _ _ | exact Brk.below_drew (Below.refl _ _))).1 (HU5.out _ (by first | exact Below.refl _ _ | exact Brk.below_drew (Below.refl _ _))).2).mono ?_; rintro e w6 ⟨rfl, hb6⟩; replace hb6 : Below w5.heap.size w5 w6 := ⟨hb6.os, hb6.tape, hb6.output, hb6.size, hb6.block⟩; have H6 := Lib.hid (⟨((Out.ofNew (S := fun _ => False) hb6).cell (p := ⟨Y, 0, none⟩) l6 id).trans H5.out.1, ((Out.ofNew (S := fun _ => False) hb6).cell (p := ⟨Y, 1, none⟩) l6 id).trans H5.out.2.1, ((Out.ofNew (S := fun _ => False) hb6).cell (p := ⟨Y, 2, none⟩) l6 id).trans H5.out.2.2.1, ((Out.ofNew (S := fun _ => False) hb6).cell (p := ⟨Y, 3, none⟩) l6 id).trans H5.out.2.2.2.1, ((Out.ofNew (S := fun _ => False) hb6).cell (p := ⟨Y, 4, none⟩) l6 id).trans H5.out.2.2.2.2.1, ((Out.ofNew (S := fun _ => False) hb6).cell (p := ⟨Y, 5, none⟩) l6 id).trans H5.out.2.2.2.2.2.1, ((Out.ofNew (S := fun _ => False) hb6).cell (p := ⟨Y, 6, none⟩) l6 id).trans H5.out.2.2.2.2.2.2.1, ((Out.ofNew (S := fun _ => False) hb6).cell (p := ⟨Y, 7, none⟩) l6 id).trans H5.out.2.2.2.2.2.2.2.1, ((Out.ofNew (S := fun _ => False) hb6).cell (p := ⟨Y, 8, none⟩) l6 id).trans H5.out.2.2.2.2.2.2.2.2.1, ((Out.ofNew (S := fun _ => False) hb6).cell (p := ⟨Y, 9, none⟩) l6 id).trans H5.out.2.2.2.2.2.2.2.2.2.1, ((Out.ofNew (S := fun _ => False) hb6).cell (p := ⟨Y, 10, none⟩) l6 id).trans H5.out.2.2.2.2.2.2.2.2.2.2⟩ : w6.cell? ⟨Y, 0, none⟩ = some (.int .i64 z0) ∧ w6.cell? ⟨Y, 1, none⟩ = some (.int .i64 z1) ∧ w6.cell? ⟨Y, 2, none⟩ = some (.int .i64 z2) ∧ w6.cell? ⟨Y, 3, none⟩ = some (.int .i64 z3) ∧ w6.cell? ⟨Y, 4, none⟩ = some (.int .i64 z4) ∧ w6.cell? ⟨Y, 5, none⟩ = some (.int .i64 z5) ∧ w6.cell? ⟨Y, 6, none⟩ = some (.slice zp6 zl6 zk6) ∧ w6.cell? ⟨Y, 7, none⟩ = some (.slice zp7 zl7 zk7) ∧ w6.cell? ⟨Y, 8, none⟩ = some (.int .i64 z8) ∧ w6.cell? ⟨Y, 9, none⟩ = some (.int .i64 z9) ∧ w6.cell? ⟨Y, 10, none⟩ = some (.string z10)); have A6 := Lib.hid (A5.out.step hb6); obtain ⟨m0, m1, m2, m3, m4, m5, m6, m7, m8, m9, m10⟩ := row11 A6.out.b8; obtain ⟨f0, f1, f2, f3, f4, f5, f6, f7, f8, f9, f10⟩ := frz11 A6.out.b8; have u6 := Nat.lt_of_lt_of_le l6 hb6.size; have u6' := Nat.lt_of_lt_of_le l6' hb6.size))
  all_goals
    have HX := Lib.hid hb6
    clear HRef HPr A0 B0 d0 d1 d2 d3 d4 d5 d6 d7 d8 d9 d10 nY nX eYZ lY lX hb6 hy H6 H5
    go_wp2_with fail
    have hOUT : Out (fun i => i = w.heap.size + 1 + 1) w6 (((((((((((w6.setCell ⟨w.heap.size + 1 + 1, 0, none⟩ (.int .i64 z0)).setCell ⟨w.heap.size + 1 + 1, 1, none⟩ (.int .i64 z1)).setCell ⟨w.heap.size + 1 + 1, 2, none⟩ (.int .i64 z2)).setCell ⟨w.heap.size + 1 + 1, 3, none⟩ (.int .i64 z3)).setCell ⟨w.heap.size + 1 + 1, 4, none⟩ (.int .i64 z4)).setCell ⟨w.heap.size + 1 + 1, 5, none⟩ (.int .i64 z5)).setCell ⟨w.heap.size + 1 + 1, 6, none⟩ (.slice zp6 zl6 zk6)).setCell ⟨w.heap.size + 1 + 1, 7, none⟩ (.slice zp7 zl7 zk7)).setCell ⟨w.heap.size + 1 + 1, 8, none⟩ (.int .i64 z8)).setCell ⟨w.heap.size + 1 + 1, 9, none⟩ (.int .i64 z9)).setCell ⟨w.heap.size + 1 + 1, 10, none⟩ (.string z10)) := out11 _ _ _ _ _ _ _ _ _ _ _ _ _
    have hROW : (((((((((((w6.setCell ⟨w.heap.size + 1 + 1, 0, none⟩ (.int .i64 z0)).setCell ⟨w.heap.size + 1 + 1, 1, none⟩ (.int .i64 z1)).setCell ⟨w.heap.size + 1 + 1, 2, none⟩ (.int .i64 z2)).setCell ⟨w.heap.size + 1 + 1, 3, none⟩ (.int .i64 z3)).setCell ⟨w.heap.size + 1 + 1, 4, none⟩ (.int .i64 z4)).setCell ⟨w.heap.size + 1 + 1, 5, none⟩ (.int .i64 z5)).setCell ⟨w.heap.size + 1 + 1, 6, none⟩ (.slice zp6 zl6 zk6)).setCell ⟨w.heap.size + 1 + 1, 7, none⟩ (.slice zp7 zl7 zk7)).setCell ⟨w.heap.size + 1 + 1, 8, none⟩ (.int .i64 z8)).setCell ⟨w.heap.size + 1 + 1, 9, none⟩ (.int .i64 z9)).setCell ⟨w.heap.size + 1 + 1, 10, none⟩ (.string z10)).heap[w.heap.size + 1 + 1]? = some (.cells #[.int .i64 z0, .int .i64 z1, .int .i64 z2, .int .i64 z3, .int .i64 z4, .int .i64 z5, .slice zp6 zl6 zk6, .slice zp7 zl7 zk7, .int .i64 z8, .int .i64 z9, .string z10] 32 (0, 0)) := set11 A6.out.b8 _ _ _ _ _ _ _ _ _ _ _
    clear m0 m1 m2 m3 m4 m5 m6 m7 m8 m9 m10 f0 f1 f2 f3 f4 f5 f6 f7 f8 f9 f10
    obtain ⟨m0, m1, m2, m3, m4, m5, m6, m7, m8, m9, m10⟩ := row11 hROW
    generalize (((((((((((w6.setCell ⟨w.heap.size + 1 + 1, 0, none⟩ (.int .i64 z0)).setCell ⟨w.heap.size + 1 + 1, 1, none⟩ (.int .i64 z1)).setCell ⟨w.heap.size + 1 + 1, 2, none⟩ (.int .i64 z2)).setCell ⟨w.heap.size + 1 + 1, 3, none⟩ (.int .i64 z3)).setCell ⟨w.heap.size + 1 + 1, 4, none⟩ (.int .i64 z4)).setCell ⟨w.heap.size + 1 + 1, 5, none⟩ (.int .i64 z5)).setCell ⟨w.heap.size + 1 + 1, 6, none⟩ (.slice zp6 zl6 zk6)).setCell ⟨w.heap.size + 1 + 1, 7, none⟩ (.slice zp7 zl7 zk7)).setCell ⟨w.heap.size + 1 + 1, 8, none⟩ (.int .i64 z8)).setCell ⟨w.heap.size + 1 + 1, 9, none⟩ (.int .i64 z9)).setCell ⟨w.heap.size + 1 + 1, 10, none⟩ (.string z10)) = WF at *
    refine bodyPost_ret (v := .tuple #[.agg #[.int .i64 z0, .int .i64 z1, .int .i64 z2, .int .i64 z3, .int .i64 z4, .int .i64 z5, .slice zp6 zl6 zk6, .slice zp7 zl7 zk7, .int .i64 z8, .int .i64 z9, .string z10], .bool true]) ?_ rfl ?_
    · simp [results, Tryz.results7, go_sem, m0, m1, m2, m3, m4, m5, m6, m7, m8, m9, m10]
    · exact do_fin HS.out A1.out.size B1.out M5.out T5.out HR1.out HX.out A6.out.b8 hOUT rfl
end Go.Proofs.YtnkhdpenmekhdaaGreat.Lin
end

section
namespace Go.Proofs.YtnkhdpenmekhdaaGreat.Lin
open Go.RowKit Go.Proofs.YtnkhdpenmekhdaaGreat.Own Go.Proofs.YtnkhdpenmekhdaaGreat.Brk Go.Proofs.YtnkhdpenmekhdaaGreat.Calc Go.Proofs.YtnkhdpenmekhdaaGreat.Tree Go.Proofs.YtnkhdpenmekhdaaGreat.Run Go.Proofs.YtnkhdpenmekhdaaGreat.Bkf

set_option maxRecDepth 100000 in
set_option maxHeartbeats 8000000 in
theorem do_lost {w : World} {S : Nat → Prop} {k : Nat} {x : Ln} {v : Value} (P : Pr w S k x v) (kk g r now : Int) (ok : Bool) (s : List UInt8) (q : Option Addr) (m cq : Nat) (h0 : 0 ≤ kk) (h1 : kk ≤ 255) (hk : kk % 10 = 6) (hb : x.n < 1000000000000000000) :
    Calls Tryz.prog 7 #[.pointer (some ⟨k, 0, none⟩), v, .agg #[.int .u8 kk, .int .u8 g, .bool ok, .int .i64 r, .string ⟨s.toArray⟩, .slice q m cq], .int .i64 now] w (DoPost w S k (lostL x now r)) := by
  have hRf := P.rf
  obtain ⟨x0, x1, x2, x3, x4, x5, xp6, xl6, xk6, xp7, xl7, xk7, x8, x9, x10, rfl⟩ := hRf.cells
  have hS := P.mem.lt
  have HS := Lib.hid hS
  obtain ⟨bt, hbt⟩ : ∃ b, lostB x now = b := ⟨_, rfl⟩
  have qb : (bt == bt) = true := by simp
  obtain ⟨Yl, hY⟩ : ∃ y, lostL x now r = y := ⟨_, rfl⟩
  have HM := Lib.hid (fun W (hW : Below w.heap.size w W) => P.mem.below hW)
  have hOK : ∀ W, Below w.heap.size w W → ∀ L p c, OKS S w L p c → Ops W L p c := fun W hW L p c h => h W (Out.ofNew hW)
  have HRef : Hid (∀ W, Below w.heap.size w W → Calls Tryz.prog 29 #[.agg #[.int .i64 x0, .int .i64 x1, .int .i64 x2, .int .i64 x3, .int .i64 x4, .int .i64 x5, .slice xp6 xl6 xk6, .slice xp7 xl7 xk7, .int .i64 x8, .int .i64 x9, .string x10], .int .i64 now, .int .i64 r] W fun e w' => ∃ z0 z1 z2 z3 z4 z5 zp6 zl6 zk6 zp7 zl7 zk7 z8 z9 z10, e = .returned (.tuple #[.agg #[.int .i64 z0, .int .i64 z1, .int .i64 z2, .int .i64 z3, .int .i64 z4, .int .i64 z5, .slice zp6 zl6 zk6, .slice zp7 zl7 zk7, .int .i64 z8, .int .i64 z9, .string z10], .bool bt]) ∧ Rf (OKS S w) Yl (.agg #[.int .i64 z0, .int .i64 z1, .int .i64 z2, .int .i64 z3, .int .i64 z4, .int .i64 z5, .slice zp6 zl6 zk6, .slice zp7 zl7 zk7, .int .i64 z8, .int .i64 z9, .string z10]) ∧ Below W.heap.size W w') := Lib.hid fun W hW => by
    refine (rlost_calls now r hb W (hOK W hW) (P.rf)).mono fun e w' he => ?_
    rw [hY, hbt] at he
    obtain ⟨v', rfl, hr, hb2⟩ := he
    obtain ⟨z0, z1, z2, z3, z4, z5, zp6, zl6, zk6, zp7, zl7, zk7, z8, z9, z10, rfl⟩ := hr.cells
    exact ⟨_, _, _, _, _, _, _, _, _, _, _, _, _, _, _, rfl, hr, hb2⟩
  have HPr : Hid (∀ W, Below w.heap.size w W → Mem W k S x → Calls Tryz.prog 18 #[.pointer (some ⟨k, 0, none⟩), .int .i64 now, .int .i64 r] W fun e w' => ∃ S', e = .returned (.bool bt) ∧ Mem w' k S' Yl ∧ Step S W S' w') := Lib.hid fun W hWb hW => by
    refine (lost_calls now r hb hW).mono fun e w' he => ?_
    rw [hY, hbt] at he
    obtain ⟨rfl, S', h5, h6⟩ := he
    exact ⟨S', rfl, h5, h6⟩
  have A0 := Lib.hid (DoB.start w #[.int .i64 x0, .int .i64 x1, .int .i64 x2, .int .i64 x3, .int .i64 x4, .int .i64 x5, .slice xp6 xl6 xk6, .slice xp7 xl7 xk7, .int .i64 x8, .int .i64 x9, .string x10] #[.int .u8 kk, .int .u8 g, .bool ok, .int .i64 r, .string ⟨s.toArray⟩, .slice q m cq])
  have B0 := Lib.hid (start3 w #[.int .i64 x0, .int .i64 x1, .int .i64 x2, .int .i64 x3, .int .i64 x4, .int .i64 x5, .slice xp6 xl6 xk6, .slice xp7 xl7 xk7, .int .i64 x8, .int .i64 x9, .string x10] #[.int .u8 kk, .int .u8 g, .bool ok, .int .i64 r, .string ⟨s.toArray⟩, .slice q m cq])
  rw [hY]
  clear P hRf hY hbt hS hOK
  go_enter Tryz.func7, Tryz.ntmps7
  go_wp2_with fail
  refine (HRef.out _ B0.out).mono ?_
  rintro e w1 ⟨z0, z1, z2, z3, z4, z5, zp6, zl6, zk6, zp7, zl7, zk7, z8, z9, z10, rfl, hR1, hb1⟩
  have HR1 := Lib.hid hR1
  have A1 := Lib.hid ((A0.out.step hb1).step ((Below.refl _ w1).alloc (Nat.le_refl _) (.cells #[.int .i64 z0, .int .i64 z1, .int .i64 z2, .int .i64 z3, .int .i64 z4, .int .i64 z5, .slice zp6 zl6 zk6, .slice zp7 zl7 zk7, .int .i64 z8, .int .i64 z9, .string z10] 32 (0, 0))))
  have B1 := Lib.hid ((B0.out.trans (hb1.mono B0.out.size)).alloc (Nat.le_trans B0.out.size hb1.size) (.cells #[.int .i64 z0, .int .i64 z1, .int .i64 z2, .int .i64 z3, .int .i64 z4, .int .i64 z5, .slice zp6 zl6 zk6, .slice zp7 zl7 zk7, .int .i64 z8, .int .i64 z9, .string z10] 32 (0, 0)))
  have hy := at_new w1 (.cells #[.int .i64 z0, .int .i64 z1, .int .i64 z2, .int .i64 z3, .int .i64 z4, .int .i64 z5, .slice zp6 zl6 zk6, .slice zp7 zl7 zk7, .int .i64 z8, .int .i64 z9, .string z10] 32 (0, 0))
  have hz1 := Lib.hid (show w.heap.size + 2 < w1.heap.size from (A0.out.step hb1).size)
  have hb2 := Lib.hid ((Below.refl _ w1).alloc (Nat.le_refl _) (.cells #[.int .i64 z0, .int .i64 z1, .int .i64 z2, .int .i64 z3, .int .i64 z4, .int .i64 z5, .slice zp6 zl6 zk6, .slice zp7 zl7 zk7, .int .i64 z8, .int .i64 z9, .string z10] 32 (0, 0)))
  clear hR1 hb1
  go_wp2_with fail
  obtain ⟨Y, hY⟩ : ∃ Y, w1.heap.size = Y := ⟨_, rfl⟩
  rw [hY] at hy ⊢
  obtain ⟨W2, hW2⟩ : ∃ W, w1.alloc (.cells #[.int .i64 z0, .int .i64 z1, .int .i64 z2, .int .i64 z3, .int .i64 z4, .int .i64 z5, .slice zp6 zl6 zk6, .slice zp7 zl7 zk7, .int .i64 z8, .int .i64 z9, .string z10] 32 (0, 0)) = W := ⟨_, rfl⟩
  rw [hW2] at A1 B1 hy hb2 ⊢
  have HYY := Lib.hid hY
  clear hW2 hY
  obtain ⟨d0, d1, d2, d3, d4, d5, d6, d7, d8, d9, d10⟩ := row11 hy
  have a0 : W2.cell? ⟨w.heap.size + 1, 3, none⟩ = some (.int .i64 r) := at_cell A1.out.b6 3
  have lY := at_lt hy
  have lX : w.heap.size + 1 < W2.heap.size := by have := A1.out.size; omega
  have nY : ¬ S Y := fun hk => by have := HS.out _ hk; have := hz1.out; have := HYY.out; omega
  have nX : ¬ S (w.heap.size + 1) := fun hk => by have := HS.out _ hk; omega
  have eXZ : w.heap.size + 1 ≠ w.heap.size + 1 + 1 := by omega
  have eYZ : Y ≠ w.heap.size + 1 + 1 := by have := hz1.out; have := HYY.out; omega
  go_region_held3 (fun w' => w'.cell? ⟨Y, 0, none⟩ = some (.int .i64 z0) ∧ w'.cell? ⟨Y, 1, none⟩ = some (.int .i64 z1) ∧ w'.cell? ⟨Y, 2, none⟩ = some (.int .i64 z2) ∧ w'.cell? ⟨Y, 3, none⟩ = some (.int .i64 z3) ∧ w'.cell? ⟨Y, 4, none⟩ = some (.int .i64 z4) ∧ w'.cell? ⟨Y, 5, none⟩ = some (.int .i64 z5) ∧ w'.cell? ⟨Y, 6, none⟩ = some (.slice zp6 zl6 zk6) ∧ w'.cell? ⟨Y, 7, none⟩ = some (.slice zp7 zl7 zk7) ∧ w'.cell? ⟨Y, 8, none⟩ = some (.int .i64 z8) ∧ w'.cell? ⟨Y, 9, none⟩ = some (.int .i64 z9) ∧ w'.cell? ⟨Y, 10, none⟩ = some (.string z10) ∧ w'.cell? ⟨w.heap.size + 1, 3, none⟩ = some (.int .i64 r))
    (first
      | with_reducible exact ⟨d0, d1, d2, d3, d4, d5, d6, d7, d8, d9, d10, a0⟩
      | with_reducible exact H5.out
      | with_reducible exact ⟨((out_drew1 W2).cell (p := ⟨Y, 0, none⟩) lY id).trans d0, ((out_drew1 W2).cell (p := ⟨Y, 1, none⟩) lY id).trans d1, ((out_drew1 W2).cell (p := ⟨Y, 2, none⟩) lY id).trans d2, ((out_drew1 W2).cell (p := ⟨Y, 3, none⟩) lY id).trans d3, ((out_drew1 W2).cell (p := ⟨Y, 4, none⟩) lY id).trans d4, ((out_drew1 W2).cell (p := ⟨Y, 5, none⟩) lY id).trans d5, ((out_drew1 W2).cell (p := ⟨Y, 6, none⟩) lY id).trans d6, ((out_drew1 W2).cell (p := ⟨Y, 7, none⟩) lY id).trans d7, ((out_drew1 W2).cell (p := ⟨Y, 8, none⟩) lY id).trans d8, ((out_drew1 W2).cell (p := ⟨Y, 9, none⟩) lY id).trans d9, ((out_drew1 W2).cell (p := ⟨Y, 10, none⟩) lY id).trans d10, ((out_drew1 W2).cell (p := ⟨w.heap.size + 1, 3, none⟩) lX id).trans a0⟩
      | with_reducible exact ⟨((out11 w5 (w.heap.size + 1 + 1) (.int .i64 z0) (.int .i64 z1) (.int .i64 z2) (.int .i64 z3) (.int .i64 z4) (.int .i64 z5) (.slice zp6 zl6 zk6) (.slice zp7 zl7 zk7) (.int .i64 z8) (.int .i64 z9) (.string z10)).cell (p := ⟨Y, 0, none⟩) l6 eYZ).trans H5.out.1, ((out11 w5 (w.heap.size + 1 + 1) (.int .i64 z0) (.int .i64 z1) (.int .i64 z2) (.int .i64 z3) (.int .i64 z4) (.int .i64 z5) (.slice zp6 zl6 zk6) (.slice zp7 zl7 zk7) (.int .i64 z8) (.int .i64 z9) (.string z10)).cell (p := ⟨Y, 1, none⟩) l6 eYZ).trans H5.out.2.1, ((out11 w5 (w.heap.size + 1 + 1) (.int .i64 z0) (.int .i64 z1) (.int .i64 z2) (.int .i64 z3) (.int .i64 z4) (.int .i64 z5) (.slice zp6 zl6 zk6) (.slice zp7 zl7 zk7) (.int .i64 z8) (.int .i64 z9) (.string z10)).cell (p := ⟨Y, 2, none⟩) l6 eYZ).trans H5.out.2.2.1, ((out11 w5 (w.heap.size + 1 + 1) (.int .i64 z0) (.int .i64 z1) (.int .i64 z2) (.int .i64 z3) (.int .i64 z4) (.int .i64 z5) (.slice zp6 zl6 zk6) (.slice zp7 zl7 zk7) (.int .i64 z8) (.int .i64 z9) (.string z10)).cell (p := ⟨Y, 3, none⟩) l6 eYZ).trans H5.out.2.2.2.1, ((out11 w5 (w.heap.size + 1 + 1) (.int .i64 z0) (.int .i64 z1) (.int .i64 z2) (.int .i64 z3) (.int .i64 z4) (.int .i64 z5) (.slice zp6 zl6 zk6) (.slice zp7 zl7 zk7) (.int .i64 z8) (.int .i64 z9) (.string z10)).cell (p := ⟨Y, 4, none⟩) l6 eYZ).trans H5.out.2.2.2.2.1, ((out11 w5 (w.heap.size + 1 + 1) (.int .i64 z0) (.int .i64 z1) (.int .i64 z2) (.int .i64 z3) (.int .i64 z4) (.int .i64 z5) (.slice zp6 zl6 zk6) (.slice zp7 zl7 zk7) (.int .i64 z8) (.int .i64 z9) (.string z10)).cell (p := ⟨Y, 5, none⟩) l6 eYZ).trans H5.out.2.2.2.2.2.1, ((out11 w5 (w.heap.size + 1 + 1) (.int .i64 z0) (.int .i64 z1) (.int .i64 z2) (.int .i64 z3) (.int .i64 z4) (.int .i64 z5) (.slice zp6 zl6 zk6) (.slice zp7 zl7 zk7) (.int .i64 z8) (.int .i64 z9) (.string z10)).cell (p := ⟨Y, 6, none⟩) l6 eYZ).trans H5.out.2.2.2.2.2.2.1, ((out11 w5 (w.heap.size + 1 + 1) (.int .i64 z0) (.int .i64 z1) (.int .i64 z2) (.int .i64 z3) (.int .i64 z4) (.int .i64 z5) (.slice zp6 zl6 zk6) (.slice zp7 zl7 zk7) (.int .i64 z8) (.int .i64 z9) (.string z10)).cell (p := ⟨Y, 7, none⟩) l6 eYZ).trans H5.out.2.2.2.2.2.2.2.1, ((out11 w5 (w.heap.size + 1 + 1) (.int .i64 z0) (.int .i64 z1) (.int .i64 z2) (.int .i64 z3) (.int .i64 z4) (.int .i64 z5) (.slice zp6 zl6 zk6) (.slice zp7 zl7 zk7) (.int .i64 z8) (.int .i64 z9) (.string z10)).cell (p := ⟨Y, 8, none⟩) l6 eYZ).trans H5.out.2.2.2.2.2.2.2.2.1, ((out11 w5 (w.heap.size + 1 + 1) (.int .i64 z0) (.int .i64 z1) (.int .i64 z2) (.int .i64 z3) (.int .i64 z4) (.int .i64 z5) (.slice zp6 zl6 zk6) (.slice zp7 zl7 zk7) (.int .i64 z8) (.int .i64 z9) (.string z10)).cell (p := ⟨Y, 9, none⟩) l6 eYZ).trans H5.out.2.2.2.2.2.2.2.2.2.1, ((out11 w5 (w.heap.size + 1 + 1) (.int .i64 z0) (.int .i64 z1) (.int .i64 z2) (.int .i64 z3) (.int .i64 z4) (.int .i64 z5) (.slice zp6 zl6 zk6) (.slice zp7 zl7 zk7) (.int .i64 z8) (.int .i64 z9) (.string z10)).cell (p := ⟨Y, 10, none⟩) l6 eYZ).trans H5.out.2.2.2.2.2.2.2.2.2.2.1, ((out11 w5 (w.heap.size + 1 + 1) (.int .i64 z0) (.int .i64 z1) (.int .i64 z2) (.int .i64 z3) (.int .i64 z4) (.int .i64 z5) (.slice zp6 zl6 zk6) (.slice zp7 zl7 zk7) (.int .i64 z8) (.int .i64 z9) (.string z10)).cell (p := ⟨w.heap.size + 1, 3, none⟩) l6' eXZ).trans H5.out.2.2.2.2.2.2.2.2.2.2.2⟩)
    (first
      | (go_at_call 18; refine (HPr.out _ (by first | exact B1.out | exact Brk.below_drew B1.out) (HM.out _ (by first | exact B1.out | exact Brk.below_drew B1.out))).mono ?_; rintro e w5 ⟨S5, rfl, M5, T5⟩; replace T5 : Hid (Step S W2 S5 w5) := Lib.hid ⟨⟨T5.out.os, T5.out.tape, T5.out.output, T5.out.size, T5.out.block⟩, T5.new⟩; have O5 := Lib.hid T5.out.out; skip; have H5 := Lib.hid (⟨(O5.out.cell (p := ⟨Y, 0, none⟩) lY nY).trans d0, (O5.out.cell (p := ⟨Y, 1, none⟩) lY nY).trans d1, (O5.out.cell (p := ⟨Y, 2, none⟩) lY nY).trans d2, (O5.out.cell (p := ⟨Y, 3, none⟩) lY nY).trans d3, (O5.out.cell (p := ⟨Y, 4, none⟩) lY nY).trans d4, (O5.out.cell (p := ⟨Y, 5, none⟩) lY nY).trans d5, (O5.out.cell (p := ⟨Y, 6, none⟩) lY nY).trans d6, (O5.out.cell (p := ⟨Y, 7, none⟩) lY nY).trans d7, (O5.out.cell (p := ⟨Y, 8, none⟩) lY nY).trans d8, (O5.out.cell (p := ⟨Y, 9, none⟩) lY nY).trans d9, (O5.out.cell (p := ⟨Y, 10, none⟩) lY nY).trans d10, (O5.out.cell (p := ⟨w.heap.size + 1, 3, none⟩) lX nX).trans a0⟩ : w5.cell? ⟨Y, 0, none⟩ = some (.int .i64 z0) ∧ w5.cell? ⟨Y, 1, none⟩ = some (.int .i64 z1) ∧ w5.cell? ⟨Y, 2, none⟩ = some (.int .i64 z2) ∧ w5.cell? ⟨Y, 3, none⟩ = some (.int .i64 z3) ∧ w5.cell? ⟨Y, 4, none⟩ = some (.int .i64 z4) ∧ w5.cell? ⟨Y, 5, none⟩ = some (.int .i64 z5) ∧ w5.cell? ⟨Y, 6, none⟩ = some (.slice zp6 zl6 zk6) ∧ w5.cell? ⟨Y, 7, none⟩ = some (.slice zp7 zl7 zk7) ∧ w5.cell? ⟨Y, 8, none⟩ = some (.int .i64 z8) ∧ w5.cell? ⟨Y, 9, none⟩ = some (.int .i64 z9) ∧ w5.cell? ⟨Y, 10, none⟩ = some (.string z10) ∧ w5.cell? ⟨w.heap.size + 1, 3, none⟩ = some (.int .i64 r)); have l6 := Nat.lt_of_lt_of_le lY O5.out.size; have l6' := Nat.lt_of_lt_of_le lX O5.out.size; have A5 := Lib.hid (A1.out.out O5.out HS.out); replace M5 := Lib.hid M5; obtain ⟨m0, m1, m2, m3, m4, m5, m6, m7, m8, m9, m10⟩ := row11 A5.out.b8; obtain ⟨f0, f1, f2, f3, f4, f5, f6, f7, f8, f9, f10⟩ := frz11 A5.out.b8; clear O5))
  all_goals
    clear HRef HPr A0 B0 d0 d1 d2 d3 d4 d5 d6 d7 d8 d9 d10 a0 nY nX eYZ eXZ lY lX hy H5
    go_wp2_with fail
    have hOUT : Out (fun i => i = w.heap.size + 1 + 1) w5 (((((((((((w5.setCell ⟨w.heap.size + 1 + 1, 0, none⟩ (.int .i64 z0)).setCell ⟨w.heap.size + 1 + 1, 1, none⟩ (.int .i64 z1)).setCell ⟨w.heap.size + 1 + 1, 2, none⟩ (.int .i64 z2)).setCell ⟨w.heap.size + 1 + 1, 3, none⟩ (.int .i64 z3)).setCell ⟨w.heap.size + 1 + 1, 4, none⟩ (.int .i64 z4)).setCell ⟨w.heap.size + 1 + 1, 5, none⟩ (.int .i64 z5)).setCell ⟨w.heap.size + 1 + 1, 6, none⟩ (.slice zp6 zl6 zk6)).setCell ⟨w.heap.size + 1 + 1, 7, none⟩ (.slice zp7 zl7 zk7)).setCell ⟨w.heap.size + 1 + 1, 8, none⟩ (.int .i64 z8)).setCell ⟨w.heap.size + 1 + 1, 9, none⟩ (.int .i64 z9)).setCell ⟨w.heap.size + 1 + 1, 10, none⟩ (.string z10)) := out11 _ _ _ _ _ _ _ _ _ _ _ _ _
    have hROW : (((((((((((w5.setCell ⟨w.heap.size + 1 + 1, 0, none⟩ (.int .i64 z0)).setCell ⟨w.heap.size + 1 + 1, 1, none⟩ (.int .i64 z1)).setCell ⟨w.heap.size + 1 + 1, 2, none⟩ (.int .i64 z2)).setCell ⟨w.heap.size + 1 + 1, 3, none⟩ (.int .i64 z3)).setCell ⟨w.heap.size + 1 + 1, 4, none⟩ (.int .i64 z4)).setCell ⟨w.heap.size + 1 + 1, 5, none⟩ (.int .i64 z5)).setCell ⟨w.heap.size + 1 + 1, 6, none⟩ (.slice zp6 zl6 zk6)).setCell ⟨w.heap.size + 1 + 1, 7, none⟩ (.slice zp7 zl7 zk7)).setCell ⟨w.heap.size + 1 + 1, 8, none⟩ (.int .i64 z8)).setCell ⟨w.heap.size + 1 + 1, 9, none⟩ (.int .i64 z9)).setCell ⟨w.heap.size + 1 + 1, 10, none⟩ (.string z10)).heap[w.heap.size + 1 + 1]? = some (.cells #[.int .i64 z0, .int .i64 z1, .int .i64 z2, .int .i64 z3, .int .i64 z4, .int .i64 z5, .slice zp6 zl6 zk6, .slice zp7 zl7 zk7, .int .i64 z8, .int .i64 z9, .string z10] 32 (0, 0)) := set11 A5.out.b8 _ _ _ _ _ _ _ _ _ _ _
    clear m0 m1 m2 m3 m4 m5 m6 m7 m8 m9 m10 f0 f1 f2 f3 f4 f5 f6 f7 f8 f9 f10
    obtain ⟨m0, m1, m2, m3, m4, m5, m6, m7, m8, m9, m10⟩ := row11 hROW
    generalize (((((((((((w5.setCell ⟨w.heap.size + 1 + 1, 0, none⟩ (.int .i64 z0)).setCell ⟨w.heap.size + 1 + 1, 1, none⟩ (.int .i64 z1)).setCell ⟨w.heap.size + 1 + 1, 2, none⟩ (.int .i64 z2)).setCell ⟨w.heap.size + 1 + 1, 3, none⟩ (.int .i64 z3)).setCell ⟨w.heap.size + 1 + 1, 4, none⟩ (.int .i64 z4)).setCell ⟨w.heap.size + 1 + 1, 5, none⟩ (.int .i64 z5)).setCell ⟨w.heap.size + 1 + 1, 6, none⟩ (.slice zp6 zl6 zk6)).setCell ⟨w.heap.size + 1 + 1, 7, none⟩ (.slice zp7 zl7 zk7)).setCell ⟨w.heap.size + 1 + 1, 8, none⟩ (.int .i64 z8)).setCell ⟨w.heap.size + 1 + 1, 9, none⟩ (.int .i64 z9)).setCell ⟨w.heap.size + 1 + 1, 10, none⟩ (.string z10)) = WF at *
    refine bodyPost_ret (v := .tuple #[.agg #[.int .i64 z0, .int .i64 z1, .int .i64 z2, .int .i64 z3, .int .i64 z4, .int .i64 z5, .slice zp6 zl6 zk6, .slice zp7 zl7 zk7, .int .i64 z8, .int .i64 z9, .string z10], .bool true]) ?_ rfl ?_
    · simp [results, Tryz.results7, go_sem, m0, m1, m2, m3, m4, m5, m6, m7, m8, m9, m10]
    · exact do_fin HS.out A1.out.size B1.out M5.out T5.out HR1.out (Below.refl _ _) A5.out.b8 hOUT rfl
end Go.Proofs.YtnkhdpenmekhdaaGreat.Lin
end


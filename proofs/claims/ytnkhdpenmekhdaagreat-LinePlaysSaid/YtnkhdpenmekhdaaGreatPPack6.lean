/-
Layer 19 (line): State, Held, isMade, befalls, told, written, turn, open, walked.
Layer 19 (line): goOn, walked.
Layer 19 (line): failed, begin, Next, Start, Stop, Opened, Lost, Tick, Send, Break, walked.
Layer 19 (line): Next, Start, Stop, Opened, Lost, Tick, Send, Break, walked.
Layer 2 (digit): the document's own answers, walked: digits, decimals.
Layer 19 (line): Tick, Send, Break, walked.
Layer 19 (line): the law's acts: their frame. Written by gen_lindo.py.
-/
import Derived.Test.YtnkhdpenmekhdaaGreatPPack5
import Derived.WalkKit
import Derived.BigQuiet
import Derived.Deep.AppendLies
import Derived.OwnWalk
import Derived.WalkSpells
import Derived.Test.YtnkhdpenmekhdaaGreatProg
import Derived.Lib.Hide
section
namespace Go.Proofs.YtnkhdpenmekhdaaGreat.Lin
open Go.RowKit Go.Proofs.YtnkhdpenmekhdaaGreat.Own Go.Proofs.YtnkhdpenmekhdaaGreat.Brk Go.Proofs.YtnkhdpenmekhdaaGreat.Calc Go.Proofs.YtnkhdpenmekhdaaGreat.Tree Go.Proofs.YtnkhdpenmekhdaaGreat.Run Go.Proofs.YtnkhdpenmekhdaaGreat.Bkf

section
variable {w : World} {k kw cF : Nat} {S : Nat → Prop} {x : Ln} {pF : Option Addr} {sv : Value}
set_option maxHeartbeats 1000000 in
theorem state_at (h : MemAt w k S x kw pF cF sv) :
    Calls Tryz.prog 10 #[.pointer (some ⟨k, 0, none⟩)] w fun e w' => e = .returned (.int .i64 x.st) ∧ w = w' := by
  have c3 := at_cell h.row 3
  clear h
  go_enter Tryz.func10, Tryz.ntmps10
  go_wp2_with fail
  go_ret
  exact ⟨rfl, rfl⟩
theorem state_calls (h : Mem w k S x) : Calls Tryz.prog 10 #[.pointer (some ⟨k, 0, none⟩)] w fun e w' => e = .returned (.int .i64 x.st) ∧ w = w' := by
  obtain ⟨kw, pF, cF, sv, h⟩ := h
  exact state_at h
set_option maxHeartbeats 1000000 in
theorem held_calls (h : Mem w k S x) : Calls Tryz.prog 11 #[.pointer (some ⟨k, 0, none⟩)] w fun e w' => e = .returned (.int .i64 x.H.length) ∧ w = w' := by
  obtain ⟨kw, pF, cF, sv, h⟩ := h
  have c6 := at_cell h.row 6
  clear h
  go_enter Tryz.func11, Tryz.ntmps11
  go_wp2_with fail
  go_ret
  exact ⟨rfl, rfl⟩
theorem neq_told (w : World) : Sem.run Tryz.prog (binOp .neq 44 toldV .nilFunc) w = .ok (.bool true) w := by kernel_rfl
set_option maxRecDepth 100000 in
set_option maxHeartbeats 1000000 in
theorem made_at (h : MemAt w k S x kw pF cF sv) :
    Calls Tryz.prog 36 #[.pointer (some ⟨k, 0, none⟩)] w fun e w' => e = .returned (.bool true) ∧ w = w' := by
  have c2 : w.cell? ⟨k, 2, none⟩ = some toldV := at_cell h.row 2
  have HN := neq_told w
  unfold toldV at c2 HN
  clear h
  go_enter Tryz.func36, Tryz.ntmps36
  go_wp2_with fail
  go_ret
  exact ⟨rfl, rfl⟩
set_option maxHeartbeats 1000000 in
theorem turn_row {a0 a1 a2 a3 a4 a5 a6 : Value} (s : Int) (hr : w.heap[k]? = some (.cells #[a0, a1, a2, a3, a4, a5, a6] 47 (0, 0))) :
    Calls Tryz.prog 44 #[.pointer (some ⟨k, 0, none⟩), .int .i64 s] w fun e w' => e = .returned (.tuple #[]) ∧ w'.heap[k]? = some (.cells #[a0, a1, a2, .int .i64 s, .int .i64 0, .pointer none, .string ⟨#[]⟩] 47 (0, 0)) ∧ Out (fun i => i = k) w w' := by
  have HR := Lib.hid hr
  have f3 := at_frozen hr 3
  have f4 := at_frozen hr 4
  have f5 := at_frozen hr 5
  have f6 := at_frozen hr 6
  have c3 := at_cell hr 3
  have c4 := at_cell hr 4
  have c5 := at_cell hr 5
  have c6 := at_cell hr 6
  have hl := at_lt hr
  clear hr
  go_enter Tryz.func44, Tryz.ntmps44
  go_wp2_with fail
  go_end0
  exact ⟨rfl, at_set (at_set (at_set (at_set HR.out 3 _) 4 _) 5 _) 6 _, ((((Out.refl (fun i => i = k) w).setCell (p := ⟨k, 3, none⟩) (fun _ => rfl) _).setCell (p := ⟨k, 4, none⟩) (fun _ => rfl) _).setCell (p := ⟨k, 5, none⟩) (fun _ => rfl) _).setCell (p := ⟨k, 6, none⟩) (fun _ => rfl) _⟩
theorem turn_calls (s : Int) (hs : 0 ≤ s ∧ s ≤ 5) (h3 : s ≠ 3) (h5 : s ≠ 5) (h : MemAt w k S x kw pF cF sv) :
    Calls Tryz.prog 44 #[.pointer (some ⟨k, 0, none⟩), .int .i64 s] w fun e w' => e = .returned (.tuple #[]) ∧ MemAt w' k S (calm x s) kw pF cF (.pointer none) ∧ Out (fun i => i = k) w w' := by
  refine (turn_row s h.row).mono ?_
  rintro e w' ⟨rfl, hr, ho⟩
  exact ⟨rfl, h.set (x' := calm x s) hr ho rfl rfl rfl rfl rfl (fun hg => by rcases hg with e | e <;> simp [calm] at e <;> omega) (good_calm h.good s hs h3 h5), ho⟩
end
def befO (now : Int) : Bool := Calc.hold now 0 549755813888 == now
theorem befO_is (now : Int) : befO now = bef now := by
  unfold befO bef Calc.hold
  split
  · rename_i h
    rcases h with h | h
    · have : ¬ 0 ≤ now := by omega
      simp [this]; omega
    · omega
  · rename_i h
    split
    · have : ¬ now ≤ 549755813888 := by omega
      simp [this]; omega
    · have h1 : 0 ≤ now := by omega
      have h2 : now ≤ 549755813888 := by omega
      simp [h1, h2]
set_option maxHeartbeats 1000000 in
theorem bef_calls (now : Int) (w : World) :
    Calls Tryz.prog 39 #[.int .i64 now] w fun e w' => e = .returned (.bool (bef now)) ∧ w = w' := by
  have HB := Lib.hid (befO_is now)
  unfold befO at HB
  go_enter Tryz.func39, Tryz.ntmps39
  go_wp2_with (go_at_call 55; refine (hold_calls _ _ _ _).mono ?_; rintro e w' ⟨rfl, rfl⟩)
  go_ret
  exact ⟨by rw [← HB.out]; rfl, rfl⟩
def ouV (x : Ou) : Value := .agg #[.int .i64 x.1, .string ⟨x.2.toArray⟩]
set_option maxRecDepth 100000 in
set_option maxHeartbeats 2000000 in
theorem told_calls (x : Op) (w : World) :
    Calls Tryz.prog 23 #[.agg #[.int .i64 x.k, .string ⟨x.s.toArray⟩, .int .i64 x.n]] w fun e w' => e = .returned (.agg #[.int .i64 (oF x).1, .string ⟨(oF x).2.toArray⟩]) ∧ Below w.heap.size w w' := by
  obtain ⟨k, s, n⟩ := x
  by_cases hk : k = 1
  · subst hk
    have H := Lib.hid (oF_one (x := ⟨1, s, n⟩) rfl)
    go_enter Tryz.func23, Tryz.ntmps23
    go_wp2_with fail
    refine bodyPost_ret (results_cell_row rfl _ _ (w.heap.size + 1) _ #[.int .i64 3, .string ⟨s.toArray⟩] _ _ rfl (at_newk _ _ (by simp)) Tryz.underlying62 rfl (by kernel_rfl)) rfl ⟨by rw [H.out], ((Below.refl _ _).alloc (Nat.le_refl _) _).alloc (by simp) _⟩
  · have H := Lib.hid (oF_no (x := ⟨k, s, n⟩) hk)
    have hk2 : (k == 1) = false := by simpa using hk
    clear hk
    go_enter Tryz.func23, Tryz.ntmps23
    go_wp2_with fail
    refine bodyPost_ret (results_cell_row rfl _ _ (w.heap.size + 1) _ #[.int .i64 4, .string ⟨#[]⟩] _ _ rfl (at_newk _ _ (by simp)) Tryz.underlying62 rfl (by kernel_rfl)) rfl ⟨by rw [H.out], ((Below.refl _ _).alloc (Nat.le_refl _) _).alloc (by simp) _⟩
set_option maxHeartbeats 2000000 in
theorem written_calls (s : List UInt8) (w : World) :
    Calls Tryz.prog 43 #[.string ⟨s.toArray⟩] w fun e w' => ∃ v, e = .returned v ∧ MineO w' w.heap.size v (oW s) ∧ Below w.heap.size w w' := by
  by_cases hs : s = []
  · subst hs
    go_enter Tryz.func43, Tryz.ntmps43
    go_wp2_with fail
    go_ret
    exact ⟨_, rfl, mineO_nil _ _, Below.refl _ _⟩
  · have hi : s.isEmpty = false := by simpa using hs
    have H := Lib.hid (oW_one hs)
    clear hs
    go_enter Tryz.func43, Tryz.ntmps43
    go_wp2_with fail
    go_ret
    exact ⟨_, rfl, by rw [H.out]; exact mineO_one w (3, s) _ rfl, (Below.refl _ _).alloc (Nat.le_refl _) _⟩
section
variable {w : World} {k kw cF : Nat} {S : Nat → Prop} {x : Ln} {pF : Option Addr} {sv : Value}
set_option maxHeartbeats 2000000 in
theorem open_calls (h : MemAt w k S x kw pF cF sv) :
    Calls Tryz.prog 38 #[.pointer (some ⟨k, 0, none⟩)] w (Gives w k S (calm x 2) [(1, [])]) := by
  have HT := Lib.hid (turn_calls 2 (by omega) (by omega) (by omega) h)
  have hS := Lib.hid h.own
  clear h
  go_enter Tryz.func38, Tryz.ntmps38
  go_wp2_with fail
  refine HT.out.mono ?_
  rintro e w1 ⟨rfl, hM, ho⟩
  have HM := Lib.hid hM
  have HO := Lib.hid (ho.mono (S' := S) fun i _ e => by rw [e]; exact hS.out)
  clear hM ho
  go_wp2_with fail
  go_ret
  have hm := mineO_one w1 (1, []) _ rfl
  have hb : Below w1.heap.size w1 (w1.alloc (.cells #[.int .i64 1, .string ⟨#[]⟩] 62 (0, 0))) := (Below.refl _ _).alloc (Nat.le_refl _) _
  obtain ⟨p, c, e, hst⟩ := mineO_stay hm (mineO_at hm HM.out.lt)
  cases e
  exact ⟨S, _, _, rfl, ⟨_, _, _, _, HM.out.below hb⟩, (Step.ofOut HO.out).trans (Step.below hb), hst⟩
end
end Go.Proofs.YtnkhdpenmekhdaaGreat.Lin
end

section
namespace Go.Proofs.YtnkhdpenmekhdaaGreat.Lin
open Go.RowKit Go.Proofs.YtnkhdpenmekhdaaGreat.Own Go.Proofs.YtnkhdpenmekhdaaGreat.Brk Go.Proofs.YtnkhdpenmekhdaaGreat.Calc Go.Proofs.YtnkhdpenmekhdaaGreat.Tree Go.Proofs.YtnkhdpenmekhdaaGreat.Run Go.Proofs.YtnkhdpenmekhdaaGreat.Bkf

theorem take_next {T : List Op} {q : Nat} (h : q < T.length) : (T.take (q + 1)).map oF = (T.take q).map oF ++ [oF T[q]] := by
  rw [List.take_succ_eq_append_getElem h, List.map_append]; rfl
theorem two_new (w : World) (x y : Value) (T : TypeId) (g : Nat) (hg : g = w.heap.size) : ∀ ad, some (⟨g, 0, none⟩ : Addr) = some ad → ∀ j u, [x, y][j]? = some u → (w.alloc (.cells #[x, y] T (0, 0))).cell? (ad.add j) = some u := by
  subst hg
  rintro ad ⟨⟩ j u hu
  rw [add0, at_cell (at_new w _)]
  simpa using hu
theorem two_fresh (w : World) (x y : Value) (T : TypeId) (g : Nat) (hg : g = w.heap.size) : ∀ j u, [x, y][j]? = some u → (w.alloc (.cells #[x, y] T (0, 0))).cell? ((⟨g, 0, none⟩ : Addr).add j) = some u := fun j u hu => two_new w x y T g hg _ rfl j u hu
/-- a step is told, in a region that draws its order -/
theorem step_told {ops : Array Oper} {o : Oper} {a : Act} {w : World} {K : Act → World → Prop} {Q : Exit → Act → World → Prop} {E : Prop} (hgd : o.guard = none) (t u : Nat) (ts : Array TypeId) (ho : o.op = .call { callee := .value (.tmp t), args := #[.tmp u], argTypes := ts }) (y : Op) (z : Ou) (hz : oF y = z)
    (h1 : a.tmps[t]? = some toldV) (h2 : a.tmps[u]? = some (.agg #[.int .i64 y.k, .string ⟨y.s.toArray⟩, .int .i64 y.n])) (h : ∀ w', Below w.heap.size w w' → K (a.put o.dst (.agg #[.int .i64 z.1, .string ⟨z.2.toArray⟩])) w') : if Region.wanted o (yielded ops a.tmps) = true then Oper.wp Tryz.prog o a w K Q else E := by
  have hw : Region.wanted o (yielded ops a.tmps) = true := by simp [Region.wanted, hgd]
  rw [if_pos hw]
  subst hz
  unfold toldV at h1
  obtain ⟨d, op, ty, ps, af, gd⟩ := o
  cases ho
  unfold Oper.wp
  simp [go_sem, h1, h2, Oper.upon]
  refine (told_calls y w).mono ?_
  rintro e w2 ⟨rfl, hb⟩
  exact h w2 hb
set_option maxRecDepth 100000 in
set_option maxHeartbeats 4000000 in
theorem goOn_at {w : World} {k kw cF : Nat} {S : Nat → Prop} {x : Ln} {pF : Option Addr} {sv : Value} (now : Int) (hnow : x.was ≤ now) (hg : goes x) (h : MemAt w k S x kw pF cF sv) :
    Calls Tryz.prog 42 #[.pointer (some ⟨k, 0, none⟩), .int .i64 now] w (Gives w k S (goL x now) (goO x now)) := by
  obtain ⟨i0, hi, hz0, hz1, hz2⟩ := info_parts info_ou
  obtain ⟨kb, kq, rfl, hkb, n1, n2, n3, hA⟩ := h.run hg
  obtain ⟨hE, hP⟩ := h.good.run hg
  have HST := Lib.hid (step_calls now hP hA hnow)
  have c5 : w.cell? ⟨k, 5, none⟩ = some (.pointer (some ⟨kb, 0, none⟩)) := at_cell h.row 5
  have H0 := Lib.hid h
  have HG := Lib.hid hg
  have HN := Lib.hid (And.intro hkb (And.intro n1 (And.intro n2 n3)))
  have htl : (told x.D x.was now).length ≤ 1000 := Nat.le_trans (told_len _ _ _) hP.few
  obtain ⟨T, hT⟩ : ∃ T, told x.D x.was now = T := ⟨_, rfl⟩
  have HT := Lib.hid hT
  rw [hT] at htl
  clear h hg hkb n1 n2 n3 hA hE hP hT
  go_enter Tryz.func42, Tryz.ntmps42
  go_wp2_with fail
  refine HST.out.mono ?_
  rintro e w1 ⟨v, rfl, hM, hA1, hO1⟩
  rw [HT.out] at hM
  obtain ⟨pv, cv, rfl, hops⟩ := hM.ops
  have HOP := Lib.hid hops
  have HA1 := Lib.hid hA1
  have HO1 := Lib.hid hO1
  have hcap := hops.cap
  have hmax := hops.max
  unfold maxLen at hmax
  obtain ⟨m, hm⟩ : ∃ m, T.length = m := ⟨_, rfl⟩
  rw [hm] at htl hcap
  rw [hm]
  have HM := Lib.hid hm
  have HR1 : Hid (w1.heap[k]? = _) := Lib.hid (hO1.at_ H0.out.row fun e => HN.out.2.1 e.symm)
  clear hM hA1 hO1 hops hm c5
  go_wp2_with fail
  go_loopw [5, 15] (fun u i wr => ∃ q : Nat, q ≤ m ∧ i = .int .i64 q ∧ MineO wr w1.heap.size u ((T.take q).map oF) ∧ Below w1.heap.size w1 wr) (fun _ i _ => m - (Go.RowKit.intOf i).toNat)
  case atStart => exact ⟨0, Nat.zero_le _, rfl, mineO_nil _ _, Below.refl _ _⟩
  case round =>
    obtain ⟨q, hq, rfl, hown, hB⟩ := hrel
    rcases Nat.lt_or_eq_of_le hq with hlt | rfl
    · have hkl : q < T.length := by rw [HM.out]; exact hlt
      rcases HOP.out.cells with h0 | ⟨bo, oo, rfl, hbl, hc⟩
      · rw [h0] at hkl; simp at hkl
      · obtain ⟨d0, d1, d2⟩ := hc q hkl
        rw [← hB.cell (p := ⟨bo, _, none⟩) hbl] at d0 d1 d2
        have q1 : (q : Int) < (m : Int) := by omega
        have HX := Lib.hid (take_next hkl)
        have hown := mineO_m hown (m := q) (by rw [List.length_map, List.length_take, HM.out]; omega)
        have HOW := Lib.hid hown
        have HB := Lib.hid hB
        have HW := Lib.hid (at_new wr (.cells #[.int .i64 T[q].k, .string ⟨T[q].s.toArray⟩, .int .i64 T[q].n] 58 (0, 0)))
        have hr2 := (hB.alloc hB.size (.cells #[.int .i64 T[q].k, .string ⟨T[q].s.toArray⟩, .int .i64 T[q].n] 58 (0, 0))).block k (at_lt HR1.out) |>.trans HR1.out
        have e2 : (wr.alloc (.cells #[.int .i64 T[q].k, .string ⟨T[q].s.toArray⟩, .int .i64 T[q].n] 58 (0, 0))).cell? ⟨k, 2, none⟩ = some toldV := at_cell hr2 2
        have HB2 := Lib.hid ((Below.refl wr.heap.size wr).alloc (Nat.le_refl _) (.cells #[.int .i64 T[q].k, .string ⟨T[q].s.toArray⟩, .int .i64 T[q].n] 58 (0, 0)))
        have HSZ : Hid ((wr.alloc (.cells #[.int .i64 T[q].k, .string ⟨T[q].s.toArray⟩, .int .i64 T[q].n] 58 (0, 0))).heap.size = wr.heap.size + 1) := Lib.hid (by simp)
        generalize T[q] = y at *
        obtain ⟨yk, ys, yn⟩ := y
        simp only at d0 d1 d2 e2 HW HB2 HSZ
        obtain ⟨z, hz⟩ : ∃ z, oF ⟨yk, ys, yn⟩ = z := ⟨_, rfl⟩
        rw [hz] at HX
        have HZ := Lib.hid hz
        clear hc hown hB hr2 hz
        go_wp2_with fail
        generalize wr.alloc (.cells #[.int .i64 yk, .string ⟨ys.toArray⟩, .int .i64 yn] 58) = W at *
        have g0 : W.cell? ⟨wr.heap.size, 0, none⟩ = _ := at_cell HW.out 0
        have g1 : W.cell? ⟨wr.heap.size, 1, none⟩ = _ := at_cell HW.out 1
        have g2 : W.cell? ⟨wr.heap.size, 2, none⟩ = _ := at_cell HW.out 2
        clear d0 d1 d2
        unfold toldV at e2
        go_region_law (first
          | (refine step_told rfl 23 24 _ rfl ⟨yk, ys, yn⟩ z HZ.out rfl rfl ?_; intro w5 hb5'; have hb5 : Below W.heap.size W w5 := ⟨hb5'.os, hb5'.tape, hb5'.output, hb5'.size, hb5'.block⟩; clear hb5')
          | (refine step_append_lies _ rfl (.tmp 19) (.tmp 26) 49 rfl w1.heap.size 62 i0 _ 2 24 Tryz.underlying49 hi hz0 hz1 hz2 rfl (by decide) _ _ _ rfl (World.ownsRow.alloc (own_below (own_below HOW.out HB2.out) (show Below W.heap.size W w5 from hb5)) _) ⟨w5.heap.size, 0, none⟩ 1 1 [.int .i64 z.1, .string ⟨z.2.toArray⟩] rfl rfl (two_fresh w5 _ _ _ _ rfl) (by simp [Value.oneCell']) (by omega) (by unfold maxLen; omega) (by omega) (by have := HB.out.size; have := HB2.out.size; have := hb5.size; simp at *; omega) _ rfl ?_; intro g cap w6 own6 grow6 at6 lt6))
        all_goals
          have hb1 : Below w1.heap.size w1 W := HB.out.trans (HB2.out.mono HB.out.size)
          have hb2 := hb1.trans (hb5.mono hb1.size)
          have hB7 := Lib.hid ((hb2.alloc hb2.size (.cells #[.int .i64 z.1, .string ⟨z.2.toArray⟩] 62 (0, 0))).grown grow6 (by have := hb2.size; simp; omega) fun k' hk' => (own_lt HOW.out hk').1)
          clear hb1 hb2 hb5
          go_wp2_with fail
          go_roundw
          case rel => exact ⟨q + 1, hlt, by go_num, by rw [HX.out]; exact mineO_more (x := z) own6 (by rw [List.length_map, List.length_take, HM.out]; omega), hB7.out⟩
          case measure => simp [Go.RowKit.intOf]; omega
    · have hrow := (hB.block k (at_lt HR1.out)).trans HR1.out
      have c5 : wr.cell? ⟨k, 5, none⟩ = some (.pointer (some ⟨kb, 0, none⟩)) := at_cell hrow 5
      have c6 : wr.cell? ⟨k, 6, none⟩ = some (.string ⟨x.H.toArray⟩) := at_cell hrow 6
      have HAr := Lib.hid (show Asked wr kb kq x.D x.E now from IsRun.below HA1.out hB)
      have HD := Lib.hid (done_at HAr.out)
      have he : T.take q = T := List.take_of_length_le (by rw [HM.out]; exact Nat.le_refl _)
      rw [he, ← HT.out] at hown
      clear he
      have HOW := Lib.hid hown
      have HB := Lib.hid hB
      have HRW := Lib.hid hrow
      clear hown hB hrow
      by_cases hE : now < x.E
      · have hn : nxB x.E now = true := decide_eq_true hE
        rw [hn] at HD
        go_wp2_with (go_at_call 54; refine HD.out.mono ?_; rintro e w' ⟨rfl, rfl⟩)
        go_ret
        obtain ⟨p, c, e, hst⟩ := mineO_stay (S := S) HOW.out (mineO_at HOW.out fun i hi => Nat.lt_of_lt_of_le (H0.out.lt i hi) HO1.out.size)
        cases e
        obtain ⟨h1, h2, h3, h4⟩ := HN.out
        have hM := (H0.out.asked HG.out h1 h2 h3 h4 HA1.out HO1.out hE).below HB.out
        refine ⟨S, p, c, ?_, ⟨_, _, _, _, by rw [goL_on hE]; exact hM⟩, (Step.ofOut (HO1.out.mono fun i _ e => by rw [e]; exact h1)).trans (Step.below HB.out), ?_⟩
        · rw [goO_on hE]; rfl
        · rw [goO_on hE]; exact hst
      · have hn : nxB x.E now = false := decide_eq_false hE
        rw [hn] at HD
        go_wp2_with (go_at_call 54; refine HD.out.mono ?_; rintro e w' ⟨rfl, rfl⟩)
        refine (written_calls x.H wr).mono ?_
        rintro e w2 ⟨v2, rfl, hM2, hB2⟩
        obtain ⟨ao, c2, rfl, hsn, hsc⟩ := mineO_src hM2
        have HL2 : (oW x.H).length ≤ 1 := by unfold oW; split <;> simp
        obtain ⟨m2, hm2⟩ : ∃ m2, (oW x.H).length = m2 := ⟨_, rfl⟩
        rw [hm2] at hsn HL2
        rw [hm2]
        have HSN := Lib.hid hsn
        have HSC := Lib.hid hsc
        have HB2 := Lib.hid hB2
        have HM2 := Lib.hid hm2
        have HOW2 := Lib.hid (mineO_m (own_below HOW.out hB2) (m := q) (by rw [List.length_map, HT.out, HM.out]))
        have hs2 := hB2.size
        have hs1 := HB.out.size
        clear hM2 hB2 hsn hsc hm2 c5 c6
        go_wp2_with (at_builtin; go_loud (refine Own.append_any rfl (.tmp 34) (.tmp 39) 49 rfl w1.heap.size 62 i0 _ 2 24 Tryz.underlying49 hi hz0 hz1 hz2 rfl (by decide) _ _ _ rfl HOW2.out ao m2 c2 (uv (oW x.H)) rfl HSN.out (by rw [uv_len, HM2.out]) HSC.out (uv_cells _) (by unfold maxLen; omega) (by omega) (by omega) ?_; intro v' w3 hown hgr; have HOW3 := Lib.hid hown; have HGR := Lib.hid hgr; clear hown hgr))
        have hb3 := (HB.out.trans (HB2.out.mono HB.out.size)).grown HGR.out (by omega) fun k' hk' => (own_lt HOW2.out hk').1
        have HB3 := Lib.hid hb3
        have hr3 := (hb3.block k (at_lt HR1.out)).trans HR1.out
        have HTR := Lib.hid (turn_row 4 hr3)
        clear hb3 hr3
        refine HTR.out.mono ?_
        rintro e w4 ⟨rfl, hr4, hO4⟩
        have HR4 := Lib.hid hr4
        have HO4 := Lib.hid hO4
        clear hr4 hO4
        go_wp2_with fail
        go_ret
        obtain ⟨h1, h2, h3, h4⟩ := HN.out
        have hkw : k < w.heap.size := H0.out.lt k H0.out.own
        have hkww : kw < w.heap.size := H0.out.lt kw H0.out.ownw
        have hs1 := HO1.out.size
        have hk4 : ∀ g, Value.ownBlock v' = some g → ¬ g = k := fun g hg e => by have := (own_lt HOW3.out hg).1; omega
        have hown4 := own_out HOW3.out HO4.out hk4
        have hO : Out S w w4 := ((HO1.out.mono fun i _ e => by rw [e]; exact h1).trans (Own.Out.ofNew HB3.out) fun _ _ h => h).trans (HO4.out.mono fun i _ e => by rw [e]; exact H0.out.own) fun _ _ h => h
        have hwt : w4.heap[kw]? = w.heap[kw]? := (HO4.out.block kw (by have := HB3.out.size; omega) H0.out.ne).trans ((HB3.out.block kw (by omega)).trans (HO1.out.block kw hkww fun e => h3 e.symm))
        have hM := H0.out.calmed (s := 4) hO hwt HR4.out (by omega) (by omega) (by omega)
        have hown5 : MineO w4 w1.heap.size v' (goO x now) := by
          rw [goO_off (show ¬ now < x.E by omega)]
          unfold MineO dueO
          rw [uv_app, show ((told x.D x.was now).map oF ++ oW x.H).length = q + m2 by rw [List.length_append, List.length_map, HT.out, HM.out, HM2.out]]
          exact hown4
        obtain ⟨p, c, e, hst⟩ := mineO_stay (S := S) hown5 (mineO_at hown5 fun i hi => Nat.lt_of_lt_of_le (H0.out.lt i hi) hs1)
        refine ⟨S, p, c, ?_, ⟨_, _, _, _, by rw [goL_off (show ¬ now < x.E by omega)]; exact hM⟩, Step.ofOut hO, hst⟩
        rw [← e]; rfl
end Go.Proofs.YtnkhdpenmekhdaaGreat.Lin
end

section
namespace Go.Proofs.YtnkhdpenmekhdaaGreat.Lin
open Go.RowKit Go.Proofs.YtnkhdpenmekhdaaGreat.Own Go.Proofs.YtnkhdpenmekhdaaGreat.Brk Go.Proofs.YtnkhdpenmekhdaaGreat.Calc Go.Proofs.YtnkhdpenmekhdaaGreat.Tree Go.Proofs.YtnkhdpenmekhdaaGreat.Run Go.Proofs.YtnkhdpenmekhdaaGreat.Bkf

/-- what a call does that answers otherwise -/
def Does (w : World) (k : Nat) (S : Nat → Prop) (y : Ln) (w' : World) : Prop := ∃ S', Mem w' k S' y ∧ Step S w S' w'
theorem gives_none {w w' : World} {k : Nat} {S : Nat → Prop} {y : Ln} (h : Does w k S y w') : Gives w k S y [] (.returned (.slice none 0 0)) w' := by
  obtain ⟨S', h1, h2⟩ := h
  exact ⟨S', none, 0, rfl, h1, h2, fun W _ => ⟨Nat.le_refl _, by unfold maxLen; omega, .inl rfl⟩⟩
theorem does_same {w : World} {k : Nat} {S : Nat → Prop} {x : Ln} (h : Mem w k S x) : Does w k S x w := ⟨S, h, Step.refl _ _⟩
theorem Does.then_ {w w1 w2 : World} {k : Nat} {S S1 : Nat → Prop} {y : Ln} (h1 : Step S w S1 w1) (h : Does w1 k S1 y w2) : Does w k S y w2 := by
  obtain ⟨S', h2, h3⟩ := h
  exact ⟨S', h2, h1.trans h3⟩
theorem Gives.then_ {w w1 w2 : World} {k : Nat} {S S1 : Nat → Prop} {y : Ln} {O : List Ou} {e : Ending} (h1 : Step S w S1 w1) (h : Gives w1 k S1 y O e w2) : Gives w k S y O e w2 := by
  obtain ⟨S', p, c, rfl, h2, h3, h4⟩ := h
  exact ⟨S', p, c, rfl, h2, h1.trans h3, h4⟩

section
variable {w : World} {k kw cF : Nat} {S : Nat → Prop} {x : Ln} {pF : Option Addr} {sv : Value}
/-- steps begin in memory -/
theorem MemAt.begun {w1 : World} {b q : Nat} {s now : Int} {ops : List Op} (h : MemAt w k S x kw pF cF sv) (hs : s = 3 ∨ s = 5) (hc : chk now ops = 0) (hl : ops.length ≤ 1000) (hA : Asked w1 b q (dues now ops) (ends now ops) (now - 1)) (hb : w.heap.size ≤ b) (hq : w.heap.size ≤ q) (hB : Below w.heap.size w w1) :
    MemAt ((w1.setCell ⟨k, 3, none⟩ (.int .i64 s)).setCell ⟨k, 5, none⟩ (.pointer (some ⟨b, 0, none⟩))) k (fun i => S i ∨ i = b) (runs x s ops now) kw pF cF (.pointer (some ⟨b, 0, none⟩)) ∧ Step S w (fun i => S i ∨ i = b) ((w1.setCell ⟨k, 3, none⟩ (.int .i64 s)).setCell ⟨k, 5, none⟩ (.pointer (some ⟨b, 0, none⟩))) := by
  have h1 := h.below hB
  have hk := h.lt k h.own
  have hkw := h.lt kw h.ownw
  have hO : Out (fun i => i = k) w1 ((w1.setCell ⟨k, 3, none⟩ (.int .i64 s)).setCell ⟨k, 5, none⟩ (.pointer (some ⟨b, 0, none⟩))) := ((Out.refl (fun i => i = k) w1).setCell (p := ⟨k, 3, none⟩) (fun _ => rfl) _).setCell (p := ⟨k, 5, none⟩) (fun _ => rfl) _
  have hO2 : Out S w ((w1.setCell ⟨k, 3, none⟩ (.int .i64 s)).setCell ⟨k, 5, none⟩ (.pointer (some ⟨b, 0, none⟩))) := (Out.ofNew hB).trans (hO.mono fun i _ e => by rw [e]; exact h.own) fun _ _ h => h
  have hA2 : Asked ((w1.setCell ⟨k, 3, none⟩ (.int .i64 s)).setCell ⟨k, 5, none⟩ (.pointer (some ⟨b, 0, none⟩))) b q (dues now ops) (ends now ops) (now - 1) := IsRun.out hA hO (by omega) (by omega)
  have hst : Step S w (fun i => S i ∨ i = b) ((w1.setCell ⟨k, 3, none⟩ (.int .i64 s)).setCell ⟨k, 5, none⟩ (.pointer (some ⟨b, 0, none⟩))) := ⟨hO2, fun i hi => hi.imp id fun e => by rw [e]; exact hb⟩
  refine ⟨⟨at_set (at_set h1.row 3 _) 5 _, .inl h.own, .inl h.ownw, h.ne, h1.wait.out hO h.ne, fun i hi => ?_, fun W hW => h.first W (hst.outs hW fun _ h => h), fun _ => ⟨b, q, rfl, .inr rfl, by omega, by omega, ?_, hA2⟩, good_runs h.good hs hc hl⟩, hst⟩
  · rcases hi with hi | rfl
    · exact Nat.lt_of_lt_of_le (h.lt i hi) hO2.size
    · exact hA2.at_lt
  · rintro (hi | hi)
    · have := h.lt q hi; omega
    · exact hA2.ne hi
set_option maxRecDepth 100000 in
set_option maxHeartbeats 4000000 in
theorem begin_yes (s now : Int) (hs : s = 3 ∨ s = 5) (ops : List Op) (m : Nat) (hm : ops.length = m) (hl : m ≤ 1000) (p : Option Addr) (c : Nat) (hops : Ops w ops p c) (hc : chk now ops = 0) (h : MemAt w k S x kw pF cF sv) :
    Calls Tryz.prog 41 #[.pointer (some ⟨k, 0, none⟩), .int .i64 s, .slice p m c, .int .i64 now] w fun e w' => ∃ v, e = .returned (.tuple #[v, .int .i64 0]) ∧ Gives w k S (goL (runs x s ops now) now) (goO (runs x s ops now) now) (.returned v) w' := by
  have HN := Lib.hid (Run.new_yes ops m hm hl now (now - 1) (by omega) p c w hops hc)
  have H0 := Lib.hid h
  have HC := Lib.hid hc
  have HS := Lib.hid hs
  have HL : Hid (ops.length ≤ 1000) := Lib.hid (by omega)
  have hk := h.lt k h.own
  have hr := h.row
  clear h hc hs hm hops
  go_enter Tryz.func41, Tryz.ntmps41
  go_wp2_with fail
  refine HN.out.mono ?_
  rintro e w1 ⟨b, q, rfl, hA, hb, hq, hB⟩
  have hM := H0.out.begun HS.out HC.out HL.out hA hb hq hB
  have HM := Lib.hid hM.1
  have HST := Lib.hid hM.2
  have hr1 := (hB.block k hk).trans hr
  have f3 := at_frozen hr1 3
  have f5 := at_frozen hr1 5
  have c3 := at_cell hr1 3
  have c5 := at_cell hr1 5
  have hk1 := at_lt hr1
  clear hM hr hr1 hA hb hq hB
  go_wp2_with fail
  refine (goOn_at now (by show now - 1 ≤ now; omega) (goes_runs HS.out ops now) HM.out).mono ?_
  rintro e w3 hG
  obtain ⟨S', p', c', rfl, h2, h3, h4⟩ := hG
  have HR := Lib.hid (Gives.then_ HST.out ⟨S', p', c', rfl, h2, h3, h4⟩)
  clear h2 h3 h4
  go_wp2_with fail
  go_ret2
  exact ⟨_, rfl, HR.out⟩
set_option maxRecDepth 100000 in
set_option maxHeartbeats 4000000 in
theorem begin_no (s now : Int) (ops : List Op) (m : Nat) (hm : ops.length = m) (hl : m ≤ 1000) (p : Option Addr) (c : Nat) (hops : Ops w ops p c) (cd : Int) (hc : chk now ops = cd) (h0 : cd ≠ 0) (h : MemAt w k S x kw pF cF sv) :
    Calls Tryz.prog 41 #[.pointer (some ⟨k, 0, none⟩), .int .i64 s, .slice p m c, .int .i64 now] w fun e w' => ∃ v, e = .returned (.tuple #[v, .int .i64 cd]) ∧ Gives w k S x [] (.returned v) w' := by
  have HN := Lib.hid (Run.new_no ops m hm hl now p c w hops cd hc h0)
  have H0 := Lib.hid h
  have hcb : (cd == 0) = false := by simpa using h0
  clear h hc hm hops h0
  go_enter Tryz.func41, Tryz.ntmps41
  go_wp2_with fail
  refine HN.out.mono ?_
  rintro e w1 ⟨rfl, hB⟩
  have HB := Lib.hid hB
  clear hB
  go_wp2_with fail
  go_ret2
  exact ⟨_, rfl, gives_none ⟨S, ⟨_, _, _, _, H0.out.below HB.out⟩, Step.below HB.out⟩⟩
set_option maxRecDepth 100000 in
set_option maxHeartbeats 4000000 in
theorem failed_calls (now r : Int) (hn : bef now = true) (hb : x.n < 1000000000000000000) (h : MemAt w k S x kw pF cF sv) :
    Calls Tryz.prog 40 #[.pointer (some ⟨k, 0, none⟩), .int .i64 now, .int .i64 r] w fun e w' => e = .returned (.tuple #[]) ∧ Does w k S (failL x now r) w' := by
  have HF := Lib.hid (fail_calls h.good.rule hb h.wait now r)
  have H0 := Lib.hid h
  have HT := Lib.hid (bef_tick hn)
  have HG := Lib.hid (good_fail h.good now r)
  have c0 : w.cell? ⟨k, 0, none⟩ = some (.pointer (some ⟨kw, 0, none⟩)) := at_cell h.row 0
  clear h hn hb
  go_enter Tryz.func40, Tryz.ntmps40
  go_wp2_with fail
  refine HF.out.mono ?_
  rintro e w1 (⟨h1, _⟩ | ⟨_, hno, rfl, hb⟩ | ⟨_, hyes, rfl, hW, ho⟩)
  · rw [HT.out] at h1; cases h1
  · have HNO : Hid (failL x now r = _) := Lib.hid (failL_no (x := x) (now := now) (r := r) (by unfold atL; rw [hno]; simp))
    have HM1 := Lib.hid (H0.out.below hb)
    have HB1 := Lib.hid (Step.below (S := S) hb)
    clear hno hb c0
    go_wp2_with fail
    refine (turn_calls 1 (by omega) (by omega) (by omega) HM1.out).mono ?_
    rintro e w2 ⟨rfl, hM2, hO2⟩
    have f4 := at_frozen hM2.row 4
    have c4 := at_cell hM2.row 4
    have hk2 := at_lt hM2.row
    have HM2 := Lib.hid hM2
    have HO2 := Lib.hid hO2
    clear hM2 hO2
    go_wp2_with fail
    go_end0
    refine ⟨rfl, S, ⟨kw, pF, cF, _, HM2.out.set (x' := failL x now r) (by rw [HNO.out]; exact at_set HM2.out.row 4 _) ((Out.refl (fun i => i = k) _).setCell (p := ⟨k, 4, none⟩) (fun _ => rfl) _) (by rw [HNO.out]; rfl) (by rw [HNO.out]; rfl) (by rw [HNO.out]; rfl) (by rw [HNO.out]; rfl) (by rw [HNO.out]; rfl) (fun hg => by rw [HNO.out] at hg; rcases hg with e | e <;> simp at e) HG.out⟩, ?_⟩
    have ho : Out S w1 w2 := HO2.out.mono fun i _ e => by rw [e]; exact H0.out.own
    exact HB1.out.trans ((Step.ofOut ho).trans (Step.ofOut ((Out.refl S _).setCell (p := ⟨k, 4, none⟩) (fun _ => H0.out.own) _)))
  · have HYE : Hid (failL x now r = _) := Lib.hid (failL_yes (x := x) (now := now) (r := r) hyes)
    have HM1 := Lib.hid (H0.out.turned (n' := x.n + 1) hW ho)
    have HB1 := Lib.hid (Step.ofOut (ho.mono (S' := S) fun i _ e => by rw [e]; exact H0.out.ownw))
    obtain ⟨av, hav⟩ : ∃ av, atR x.b x.c x.j x.n now r = av := ⟨_, rfl⟩
    have HAV : Hid (atL x now r = av) := Lib.hid hav
    rw [hav]
    clear hyes hW ho c0 hav
    go_wp2_with fail
    refine (turn_calls 1 (by omega) (by omega) (by omega) HM1.out).mono ?_
    rintro e w2 ⟨rfl, hM2, hO2⟩
    have f4 := at_frozen hM2.row 4
    have c4 := at_cell hM2.row 4
    have hk2 := at_lt hM2.row
    have HM2 := Lib.hid hM2
    have HO2 := Lib.hid hO2
    clear hM2 hO2
    go_wp2_with fail
    go_end0
    refine ⟨rfl, S, ⟨kw, pF, cF, _, HM2.out.set (x' := failL x now r) (by rw [HYE.out, HAV.out]; exact at_set HM2.out.row 4 _) ((Out.refl (fun i => i = k) _).setCell (p := ⟨k, 4, none⟩) (fun _ => rfl) _) (by rw [HYE.out]; rfl) (by rw [HYE.out]; rfl) (by rw [HYE.out]; rfl) (by rw [HYE.out]; rfl) (by rw [HYE.out]; rfl) (fun hg => by rw [HYE.out] at hg; rcases hg with e | e <;> simp at e) HG.out⟩, ?_⟩
    have ho : Out S w1 w2 := HO2.out.mono fun i _ e => by rw [e]; exact H0.out.own
    exact HB1.out.trans ((Step.ofOut ho).trans (Step.ofOut ((Out.refl S _).setCell (p := ⟨k, 4, none⟩) (fun _ => H0.out.own) _)))
end
end Go.Proofs.YtnkhdpenmekhdaaGreat.Lin
end

section
namespace Go.Proofs.YtnkhdpenmekhdaaGreat.Lin
open Go.RowKit Go.Proofs.YtnkhdpenmekhdaaGreat.Own Go.Proofs.YtnkhdpenmekhdaaGreat.Brk Go.Proofs.YtnkhdpenmekhdaaGreat.Calc Go.Proofs.YtnkhdpenmekhdaaGreat.Tree Go.Proofs.YtnkhdpenmekhdaaGreat.Run Go.Proofs.YtnkhdpenmekhdaaGreat.Bkf

/-- the tests of a state -/
theorem st_tests {s : Int} (h : 0 ≤ s ∧ s ≤ 5) :
    (s = 0 ∧ (s == 0) = true ∧ (s == 1) = false ∧ (s == 2) = false ∧ (s == 3) = false ∧ (s == 4) = false ∧ (s == 5) = false) ∨
    (s = 1 ∧ (s == 0) = false ∧ (s == 1) = true ∧ (s == 2) = false ∧ (s == 3) = false ∧ (s == 4) = false ∧ (s == 5) = false) ∨
    (s = 2 ∧ (s == 0) = false ∧ (s == 1) = false ∧ (s == 2) = true ∧ (s == 3) = false ∧ (s == 4) = false ∧ (s == 5) = false) ∨
    (s = 3 ∧ (s == 0) = false ∧ (s == 1) = false ∧ (s == 2) = false ∧ (s == 3) = true ∧ (s == 4) = false ∧ (s == 5) = false) ∨
    (s = 4 ∧ (s == 0) = false ∧ (s == 1) = false ∧ (s == 2) = false ∧ (s == 3) = false ∧ (s == 4) = true ∧ (s == 5) = false) ∨
    (s = 5 ∧ (s == 0) = false ∧ (s == 1) = false ∧ (s == 2) = false ∧ (s == 3) = false ∧ (s == 4) = false ∧ (s == 5) = true) := by
  rcases (by omega : s = 0 ∨ s = 1 ∨ s = 2 ∨ s = 3 ∨ s = 4 ∨ s = 5) with rfl | rfl | rfl | rfl | rfl | rfl <;> decide
section
variable {w : World} {k kw cF : Nat} {S : Nat → Prop} {x : Ln} {pF : Option Addr} {sv : Value}
theorem next_go {x : Ln} (h : goes x) : nextV x = nxV x.D x.E x.was ∧ nextI x = true := by
  unfold nextV nextI
  have : x.st ≠ 1 := by rcases h with h | h <;> omega
  rw [if_neg this, if_pos h]
  simp [h]
theorem next_wait {x : Ln} (h : x.st = 1) : nextV x = x.un ∧ nextI x = true := by
  unfold nextV nextI
  rw [if_pos h]
  simp [h]
theorem next_no {x : Ln} (h : x.st ≠ 1) (hg : ¬ goes x) : nextV x = 0 ∧ nextI x = false := by
  unfold nextV nextI
  rw [if_neg h, if_neg hg]
  simp [h, hg]
set_option maxRecDepth 100000 in
set_option maxHeartbeats 2000000 in
theorem next_line (h : MemAt w k S x kw pF cF sv) :
    Calls Tryz.prog 8 #[.pointer (some ⟨k, 0, none⟩)] w fun e w' => e = .returned (.tuple #[.int .i64 (nextV x), .bool (nextI x)]) ∧ w = w' := by
  have HS := Lib.hid (state_at h)
  have c4 : w.cell? ⟨k, 4, none⟩ = some (.int .i64 x.un) := at_cell h.row 4
  have c5 : w.cell? ⟨k, 5, none⟩ = some sv := at_cell h.row 5
  have hrun := h.run
  have hgr := h.good.run
  have htests := st_tests h.good.st
  clear h
  by_cases hg : goes x
  · have HV := Lib.hid (next_go hg)
    obtain ⟨kb, kq, rfl, _, _, _, _, hA⟩ := hrun hg
    have HA := Lib.hid (next_at hA)
    rw [show nxB x.E x.was = true from decide_eq_true (hgr hg).1] at HA
    have hg2 : x.st = 3 ∨ x.st = 5 := hg
    clear hrun hgr hg hA
    rcases htests with ⟨hs, t0, t1, t2, t3, t4, t5⟩ | ⟨hs, t0, t1, t2, t3, t4, t5⟩ | ⟨hs, t0, t1, t2, t3, t4, t5⟩ | ⟨hs, t0, t1, t2, t3, t4, t5⟩ | ⟨hs, t0, t1, t2, t3, t4, t5⟩ | ⟨hs, t0, t1, t2, t3, t4, t5⟩
    · omega
    · omega
    · omega
    · clear hs hg2
      go_enter Tryz.func8, Tryz.ntmps8
      go_wp2_with (first | (go_at_call 10; refine HS.out.mono ?_; rintro e w' ⟨rfl, rfl⟩) | (go_at_call 33; refine HA.out.mono ?_; rintro e w' ⟨rfl, rfl⟩))
      go_ret2
      exact ⟨by rw [HV.out.1, HV.out.2]; rfl, rfl⟩
    · omega
    · clear hs hg2
      go_enter Tryz.func8, Tryz.ntmps8
      go_wp2_with (first | (go_at_call 10; refine HS.out.mono ?_; rintro e w' ⟨rfl, rfl⟩) | (go_at_call 33; refine HA.out.mono ?_; rintro e w' ⟨rfl, rfl⟩))
      go_ret2
      exact ⟨by rw [HV.out.1, HV.out.2]; rfl, rfl⟩
  · have hg2 : ¬ (x.st = 3 ∨ x.st = 5) := hg
    by_cases h1 : x.st = 1
    · have HV := Lib.hid (next_wait h1)
      have t1 : (x.st == 1) = true := by simpa using h1
      clear hrun hgr hg htests hg2 h1 c5
      go_enter Tryz.func8, Tryz.ntmps8
      go_wp2_with (go_at_call 10; refine HS.out.mono ?_; rintro e w' ⟨rfl, rfl⟩)
      go_ret2
      exact ⟨by rw [HV.out.1, HV.out.2]; rfl, rfl⟩
    · have HV := Lib.hid (next_no h1 hg)
      have t1 : (x.st == 1) = false := by simpa using h1
      have t3 : (x.st == 3) = false := by simp; omega
      have t5 : (x.st == 5) = false := by simp; omega
      clear hrun hgr hg htests hg2 h1 c5 c4
      go_enter Tryz.func8, Tryz.ntmps8
      go_wp2_with (go_at_call 10; refine HS.out.mono ?_; rintro e w' ⟨rfl, rfl⟩)
      go_ret2
      exact ⟨by rw [HV.out.1, HV.out.2]; rfl, rfl⟩
theorem next_calls (h : Mem w k S x) : Calls Tryz.prog 8 #[.pointer (some ⟨k, 0, none⟩)] w fun e w' => e = .returned (.tuple #[.int .i64 (nextV x), .bool (nextI x)]) ∧ w = w' := by
  obtain ⟨kw, pF, cF, sv, h⟩ := h
  exact next_line h
set_option maxRecDepth 100000 in
set_option maxHeartbeats 2000000 in
theorem start_calls (h : Mem w k S x) : Calls Tryz.prog 13 #[.pointer (some ⟨k, 0, none⟩)] w (Gives w k S (startL x) (startO x)) := by
  have HM := Lib.hid h
  obtain ⟨kw, pF, cF, sv, h⟩ := h
  have HI := Lib.hid (made_at h)
  have c3 : w.cell? ⟨k, 3, none⟩ = some (.int .i64 x.st) := at_cell h.row 3
  have c0 : w.cell? ⟨k, 0, none⟩ = some (.pointer (some ⟨kw, 0, none⟩)) := at_cell h.row 0
  have H0 := Lib.hid h
  by_cases hs : x.st = 0
  · have HL : Hid (startL x = _) := Lib.hid (if_pos hs)
    have HO : Hid (startO x = _) := Lib.hid (if_pos hs)
    have t0 : (x.st == 0) = true := by simpa using hs
    have HG := Lib.hid (good_calls h.wait (by omega))
    clear h hs
    go_enter Tryz.func13, Tryz.ntmps13
    go_wp2_with (go_at_call 36; refine HI.out.mono ?_; rintro e w' ⟨rfl, rfl⟩)
    refine HG.out.mono ?_
    rintro e w1 ⟨rfl, hW, ho⟩
    have HM1 := Lib.hid (H0.out.turned (n' := 0) hW ho)
    have HS1 := Lib.hid (Step.ofOut (ho.mono (S' := S) fun i _ e => by rw [e]; exact H0.out.ownw))
    clear hW ho c3 c0
    go_wp2_with fail
    refine (open_calls HM1.out).mono ?_
    rintro e w2 ⟨S', p, c, rfl, h2, h3, h4⟩
    have HR := Lib.hid (Gives.then_ HS1.out ⟨S', p, c, rfl, h2, h3, h4⟩)
    clear h2 h3 h4
    go_wp2_with fail
    go_ret
    rw [HL.out, HO.out]
    exact HR.out
  · have HL : Hid (startL x = x) := Lib.hid (if_neg hs)
    have HO : Hid (startO x = []) := Lib.hid (if_neg hs)
    have t0 : (x.st == 0) = false := by simpa using hs
    clear h hs
    go_enter Tryz.func13, Tryz.ntmps13
    go_wp2_with (go_at_call 36; refine HI.out.mono ?_; rintro e w' ⟨rfl, rfl⟩)
    go_ret
    rw [HL.out, HO.out]
    exact gives_none (does_same HM.out)
theorem one_out {w : World} {S : Nat → Prop} {x : Ln} {k : Nat} (h : Mem w k S x) (z : Ou) : Gives w k S x [z] (.returned (.slice (some ⟨w.heap.size, 0, none⟩) 1 1)) (w.alloc (.cells #[.int .i64 z.1, .string ⟨z.2.toArray⟩] 62 (0, 0))) := by
  have hm := mineO_one w z _ rfl
  have hb : Below w.heap.size w (w.alloc (.cells #[.int .i64 z.1, .string ⟨z.2.toArray⟩] 62 (0, 0))) := (Below.refl _ _).alloc (Nat.le_refl _) _
  obtain ⟨p, c, e, hst⟩ := mineO_stay hm (mineO_at hm h.lt)
  cases e
  exact ⟨S, _, _, rfl, h.below hb, Step.below hb, hst⟩
set_option maxRecDepth 100000 in
set_option maxHeartbeats 2000000 in
theorem stop_calls (h : Mem w k S x) : Calls Tryz.prog 19 #[.pointer (some ⟨k, 0, none⟩)] w (Gives w k S (stopL x) (stopO x)) := by
  have HM := Lib.hid h
  obtain ⟨kw, pF, cF, sv, h⟩ := h
  have HS := Lib.hid (state_at h)
  have H0 := Lib.hid h
  by_cases hs : x.st = 0
  · have HL : Hid (stopL x = x) := Lib.hid (if_pos hs)
    have HO : Hid (stopO x = []) := Lib.hid (if_pos (.inl hs))
    have t0 : (x.st == 0) = true := by simpa using hs
    clear h hs
    go_enter Tryz.func19, Tryz.ntmps19
    go_wp2_with (go_at_call 10; refine HS.out.mono ?_; rintro e w' ⟨rfl, rfl⟩)
    go_ret
    rw [HL.out, HO.out]
    exact gives_none (does_same HM.out)
  · have HL : Hid (stopL x = calm x 0) := Lib.hid (if_neg hs)
    have t0 : (x.st == 0) = false := by simpa using hs
    have HT := Lib.hid (turn_calls 0 (by omega) (by omega) (by omega) h)
    clear h
    by_cases h1 : x.st = 1
    · have HO : Hid (stopO x = []) := Lib.hid (if_pos (.inr h1))
      have t1 : (x.st == 1) = true := by simpa using h1
      clear hs h1
      go_enter Tryz.func19, Tryz.ntmps19
      go_wp2_with (go_at_call 10; refine HS.out.mono ?_; rintro e w' ⟨rfl, rfl⟩)
      refine HT.out.mono ?_
      rintro e w1 ⟨rfl, hM1, ho⟩
      have HM1 := Lib.hid hM1
      have HS1 := Lib.hid (Step.ofOut (ho.mono (S' := S) fun i _ e => by rw [e]; exact H0.out.own))
      clear hM1 ho
      go_wp2_with fail
      go_ret
      rw [HL.out, HO.out]
      exact gives_none ⟨S, ⟨_, _, _, _, HM1.out⟩, HS1.out⟩
    · have HO : Hid (stopO x = [(2, [])]) := Lib.hid (if_neg (by omega))
      have t1 : (x.st == 1) = false := by simpa using h1
      clear hs h1
      go_enter Tryz.func19, Tryz.ntmps19
      go_wp2_with (go_at_call 10; refine HS.out.mono ?_; rintro e w' ⟨rfl, rfl⟩)
      refine HT.out.mono ?_
      rintro e w1 ⟨rfl, hM1, ho⟩
      have HM1 := Lib.hid hM1
      have HS1 := Lib.hid (Step.ofOut (ho.mono (S' := S) fun i _ e => by rw [e]; exact H0.out.own))
      clear hM1 ho
      go_wp2_with fail
      go_ret
      rw [HL.out, HO.out]
      exact Gives.then_ HS1.out (one_out ⟨_, _, _, _, HM1.out⟩ (2, []))
set_option maxRecDepth 100000 in
set_option maxHeartbeats 4000000 in
theorem opened_calls (now r : Int) (ok : Bool) (hb : x.n < 1000000000000000000) (h : Mem w k S x) : Calls Tryz.prog 14 #[.pointer (some ⟨k, 0, none⟩), .int .i64 now, .bool ok, .int .i64 r] w (Gives w k S (openL x now ok r) (openO x now ok)) := by
  have HM := Lib.hid h
  obtain ⟨kw, pF, cF, sv, h⟩ := h
  have HS := Lib.hid (state_at h)
  have H0 := Lib.hid h
  have HB := Lib.hid (bef_calls now)
  by_cases hs : x.st = 2
  · have t2 : (x.st == 2) = true := by simpa using hs
    by_cases hn : bef now = true
    · have hB : openB x now = true := by unfold openB; simp [hs, hn]
      rw [hn] at HB
      cases ok with
      | false =>
        have HL : Hid (openL x now false r = failL x now r) := Lib.hid (by unfold openL; rw [if_pos hB]; rfl)
        have HO : Hid (openO x now false = []) := Lib.hid (by unfold openO; rw [if_neg (by simp)])
        have HF := Lib.hid (failed_calls now r hn hb h)
        have t2' : (x.st != 2) = false := by simp [hs]
        clear h hn hB hb
        go_enter Tryz.func14, Tryz.ntmps14
        go_wp2_with (first | (go_at_call 10; refine HS.out.mono ?_; rintro e w' ⟨rfl, rfl⟩) | (go_at_call 39; refine (HB.out _).mono ?_; rintro e w' ⟨rfl, rfl⟩))
        refine HF.out.mono ?_
        rintro e w1 ⟨rfl, hD⟩
        have HD := Lib.hid hD
        clear hD
        go_wp2_with fail
        go_ret
        rw [HL.out, HO.out]
        exact gives_none HD.out
      | true =>
        have hcf := h.good.first now hn
        have HL : Hid (openL x now true r = goL (runs (zero x) 3 x.F now) now) := Lib.hid (by unfold openL; rw [if_pos hB, if_pos rfl, begL_yes hcf])
        have HO : Hid (openO x now true = goO (runs (zero x) 3 x.F now) now) := Lib.hid (by unfold openO; rw [if_pos ⟨hB, rfl⟩, begO_yes hcf])
        have HG := Lib.hid (good_calls h.wait (by omega))
        have c0 : w.cell? ⟨k, 0, none⟩ = some (.pointer (some ⟨kw, 0, none⟩)) := at_cell h.row 0
        have HCF := Lib.hid hcf
        have t2' : (x.st != 2) = false := by simp [hs]
        clear h hn hB hb hcf
        go_enter Tryz.func14, Tryz.ntmps14
        go_wp2_with (first | (go_at_call 10; refine HS.out.mono ?_; rintro e w' ⟨rfl, rfl⟩) | (go_at_call 39; refine (HB.out _).mono ?_; rintro e w' ⟨rfl, rfl⟩))
        refine HG.out.mono ?_
        rintro e w1 ⟨rfl, hW, ho⟩
        have HM1 : Hid (MemAt w1 k S (zero x) kw pF cF sv) := Lib.hid (H0.out.turned (n' := 0) hW ho)
        have HS1 := Lib.hid (Step.ofOut (ho.mono (S' := S) fun i _ e => by rw [e]; exact H0.out.ownw))
        have c1 : w1.cell? ⟨k, 1, none⟩ = some (.slice pF x.F.length cF) := at_cell HM1.out.row 1
        clear hW ho c0
        obtain ⟨m, hm⟩ : ∃ m, x.F.length = m := ⟨_, rfl⟩
        rw [hm] at c1
        have HMM := Lib.hid hm
        clear hm
        go_wp2_with fail
        refine (begin_yes 3 now (.inl rfl) x.F m HMM.out (by rw [← HMM.out]; exact H0.out.good.few) pF cF (HM1.out.first w1 (Out.refl _ _)) HCF.out HM1.out).mono ?_
        rintro e w2 ⟨v, rfl, hG⟩
        obtain ⟨S', p, c, e, h2, h3, h4⟩ := hG
        cases e
        have HR := Lib.hid (Gives.then_ HS1.out ⟨S', p, c, rfl, h2, h3, h4⟩)
        clear h2 h3 h4 c1
        go_wp2_with fail
        go_ret
        rw [HL.out, HO.out]
        exact HR.out
    · have hB : ¬ openB x now = true := by unfold openB; simp [hs, hn]
      have HL : Hid (openL x now ok r = x) := Lib.hid (by unfold openL; rw [if_neg hB])
      have HO : Hid (openO x now ok = []) := Lib.hid (by unfold openO; rw [if_neg (fun h => hB h.1)])
      rw [show bef now = false by simpa using hn] at HB
      clear h hn hB hb
      go_enter Tryz.func14, Tryz.ntmps14
      go_wp2_with (first | (go_at_call 10; refine HS.out.mono ?_; rintro e w' ⟨rfl, rfl⟩) | (go_at_call 39; refine (HB.out _).mono ?_; rintro e w' ⟨rfl, rfl⟩))
      go_ret
      rw [HL.out, HO.out]
      exact gives_none (does_same HM.out)
  · have hB : ¬ openB x now = true := by unfold openB; simp [hs]
    have HL : Hid (openL x now ok r = x) := Lib.hid (by unfold openL; rw [if_neg hB])
    have HO : Hid (openO x now ok = []) := Lib.hid (by unfold openO; rw [if_neg (fun h => hB h.1)])
    have hst := h.good.st
    have h5 : x.st = 0 ∨ x.st = 1 ∨ x.st = 3 ∨ x.st = 4 ∨ x.st = 5 := by omega
    clear h hB hb hs hst
    rcases h5 with hs | hs | hs | hs | hs <;>
    · go_enter Tryz.func14, Tryz.ntmps14
      go_wp2_with (first | (go_at_call 10; refine HS.out.mono ?_; rintro e w' ⟨rfl, rfl⟩) | (go_at_call 39; refine (HB.out _).mono ?_; rintro e w' ⟨rfl, rfl⟩))
      go_ret
      rw [HL.out, HO.out]
      exact gives_none (does_same HM.out)
set_option maxRecDepth 100000 in
set_option maxHeartbeats 4000000 in
theorem lost_calls (now r : Int) (hb : x.n < 1000000000000000000) (h : Mem w k S x) : Calls Tryz.prog 18 #[.pointer (some ⟨k, 0, none⟩), .int .i64 now, .int .i64 r] w fun e w' => e = .returned (.bool (lostB x now)) ∧ Does w k S (lostL x now r) w' := by
  have HM := Lib.hid h
  obtain ⟨kw, pF, cF, sv, h⟩ := h
  have HS := Lib.hid (state_at h)
  have HB := Lib.hid (bef_calls now)
  by_cases hn : bef now = true
  · rw [hn] at HB
    have HF := Lib.hid (failed_calls now r hn hb h)
    rcases st_tests h.good.st with ⟨hs, t0, t1, t2, t3, t4, t5⟩ | ⟨hs, t0, t1, t2, t3, t4, t5⟩ | ⟨hs, t0, t1, t2, t3, t4, t5⟩ | ⟨hs, t0, t1, t2, t3, t4, t5⟩ | ⟨hs, t0, t1, t2, t3, t4, t5⟩ | ⟨hs, t0, t1, t2, t3, t4, t5⟩
    iterate 3
      · have hB : lostB x now = false := by unfold lostB; simp [hs, hn]
        have HL : Hid (lostB x now = false ∧ lostL x now r = x) := Lib.hid ⟨hB, by unfold lostL; rw [if_neg (by rw [hB]; simp)]⟩
        clear h hn hb hB hs
        go_enter Tryz.func18, Tryz.ntmps18
        go_wp2_with (first | (go_at_call 10; refine HS.out.mono ?_; rintro e w' ⟨rfl, rfl⟩) | (go_at_call 39; refine (HB.out _).mono ?_; rintro e w' ⟨rfl, rfl⟩))
        go_ret
        exact ⟨by rw [HL.out.1]; rfl, by rw [HL.out.2]; exact does_same HM.out⟩
    all_goals
      have hB : lostB x now = true := by unfold lostB; simp [hs, hn]
      have HL : Hid (lostB x now = true ∧ lostL x now r = failL x now r) := Lib.hid ⟨hB, by unfold lostL; rw [if_pos hB]⟩
      clear h hn hb hB hs
      go_enter Tryz.func18, Tryz.ntmps18
      go_wp2_with (first | (go_at_call 10; refine HS.out.mono ?_; rintro e w' ⟨rfl, rfl⟩) | (go_at_call 39; refine (HB.out _).mono ?_; rintro e w' ⟨rfl, rfl⟩))
      refine HF.out.mono ?_
      rintro e w1 ⟨rfl, hD⟩
      have HD := Lib.hid hD
      clear hD
      go_wp2_with fail
      go_ret
      exact ⟨by rw [HL.out.1]; rfl, by rw [HL.out.2]; exact HD.out⟩
  · have hn2 : bef now = false := by simpa using hn
    rw [hn2] at HB
    have hB : lostB x now = false := by unfold lostB; simp [hn2]
    have HL : Hid (lostB x now = false ∧ lostL x now r = x) := Lib.hid ⟨hB, by unfold lostL; rw [if_neg (by rw [hB]; simp)]⟩
    clear h hn hb hB hn2
    go_enter Tryz.func18, Tryz.ntmps18
    go_wp2_with (first | (go_at_call 10; refine HS.out.mono ?_; rintro e w' ⟨rfl, rfl⟩) | (go_at_call 39; refine (HB.out _).mono ?_; rintro e w' ⟨rfl, rfl⟩))
    go_ret
    exact ⟨by rw [HL.out.1]; rfl, by rw [HL.out.2]; exact does_same HM.out⟩
end
end Go.Proofs.YtnkhdpenmekhdaaGreat.Lin
end

section
namespace Go.Proofs.YtnkhdpenmekhdaaGreat.Digit
open Go.RowKit

theorem ret_string {a b : ByteArray} (h : a = b) : Ending.returned (.string a) = .returned (.string b) := by rw [h]

theorem bytes_add (a b : List UInt8) : ((⟨a.toArray⟩ : ByteArray) ++ ⟨b.toArray⟩) = ⟨(a ++ b).toArray⟩ := by
  apply ByteArray.ext; simp

set_option maxHeartbeats 400000 in
theorem rdigit_calls (n : Int) (h0 : 0 ≤ n) (h1 : n < 16) (w : World) :
    Calls Tryz.prog 77 #[.int .i64 n] w fun e w' => e = .returned (.string ⟨#[hexd n.toNat]⟩) ∧ w = w' := by
  have h : n = 0 ∨ n = 1 ∨ n = 2 ∨ n = 3 ∨ n = 4 ∨ n = 5 ∨ n = 6 ∨ n = 7 ∨ n = 8 ∨ n = 9 ∨ n = 10 ∨ n = 11 ∨ n = 12 ∨ n = 13 ∨ n = 14 ∨ n = 15 := by omega
  rcases h with rfl | rfl | rfl | rfl | rfl | rfl | rfl | rfl | rfl | rfl | rfl | rfl | rfl | rfl | rfl | rfl
  all_goals
    go_enter Tryz.func77, Tryz.ntmps77
    go_wp2
    go_ret
    exact ⟨rfl, rfl⟩

theorem rput_any (k : Nat) : ∀ (n : Int) (w : World), n.natAbs < k → -9223372036854775808 ≤ n → n ≤ 9223372036854775807 →
    Calls Tryz.prog 76 #[.int .i64 n] w fun e w' => e = .returned (.string ⟨(dec n).toArray⟩) ∧ w = w' := by
  induction k with
  | zero => intro n w hk; omega
  | succ k ih =>
    intro n w hk h1 h2
    by_cases hp : 0 ≤ n
    · by_cases h10 : n < 10
      · go_enter Tryz.func76, Tryz.ntmps76
        go_wp2_with (go_at_call 77; refine (rdigit_calls _ (by omega) (by omega) _).mono ?_; rintro e w' ⟨rfl, rfl⟩)
        go_ret
        exact ⟨ret_string (by rw [dec_lt (by omega) (by omega)]), rfl⟩
      · have H := Lib.hid (dec_ge (n := n) (by omega))
        have L := dec_len (n := n / 10) (by omega) (by omega)
        go_enter Tryz.func76, Tryz.ntmps76
        go_wp2_with (first | (go_at_call 77; refine (rdigit_calls _ (by omega) (by omega) _).mono ?_; rintro e w' ⟨rfl, rfl⟩) | (go_at_call 76; refine (ih _ _ (by omega) (by omega) (by omega)).mono ?_; rintro e w' ⟨rfl, rfl⟩))
        go_ret
        exact ⟨ret_string (by rw [H.out]; exact bytes_add _ [_]), rfl⟩
    · by_cases h10 : -10 < n
      · go_enter Tryz.func76, Tryz.ntmps76
        go_wp2_with (go_at_call 77; refine (rdigit_calls _ (by omega) (by omega) _).mono ?_; rintro e w' ⟨rfl, rfl⟩)
        go_ret
        exact ⟨ret_string (by rw [dec_neg_lt (by omega) (by omega)]; rfl), rfl⟩
      · have H := Lib.hid (dec_le (n := n) (by omega))
        obtain ⟨t1, t2, t3, t4⟩ := tdiv_facts (n := n) (by omega)
        have L := dec_len (n := n.tdiv 10) (by omega) (by omega)
        by_cases hm : n.tmod 10 < 0
        · go_enter Tryz.func76, Tryz.ntmps76
          go_wp2_with (first | (go_at_call 77; refine (rdigit_calls _ (by omega) (by omega) _).mono ?_; rintro e w' ⟨rfl, rfl⟩) | (go_at_call 76; refine (ih _ _ (by omega) (by omega) (by omega)).mono ?_; rintro e w' ⟨rfl, rfl⟩))
          go_ret
          exact ⟨ret_string (by rw [H.out]; exact bytes_add _ [_]), rfl⟩
        · go_enter Tryz.func76, Tryz.ntmps76
          go_wp2_with (first | (go_at_call 77; refine (rdigit_calls _ (by omega) (by omega) _).mono ?_; rintro e w' ⟨rfl, rfl⟩) | (go_at_call 76; refine (ih _ _ (by omega) (by omega) (by omega)).mono ?_; rintro e w' ⟨rfl, rfl⟩))
          go_ret
          exact ⟨ret_string (by rw [H.out, show n.tmod 10 = 0 by omega]; exact bytes_add _ [_]), rfl⟩
theorem rput_calls (n : Int) (h1 : -9223372036854775808 ≤ n) (h2 : n ≤ 9223372036854775807) (w : World) :
    Calls Tryz.prog 76 #[.int .i64 n] w fun e w' => e = .returned (.string ⟨(dec n).toArray⟩) ∧ w = w' :=
  rput_any (n.natAbs + 1) n w (by omega) h1 h2

theorem ret_byte {a b c d : Int} (h : a = b) (g : c = d) : Ending.returned (.tuple #[.int .u8 a, .int .i64 c]) = .returned (.tuple #[.int .u8 b, .int .i64 d]) := by rw [h, g]
theorem ret_num {a b c d : Int} (h : a = b) (g : c = d) : Ending.returned (.tuple #[.int .i64 a, .int .i64 c]) = .returned (.tuple #[.int .i64 b, .int .i64 d]) := by rw [h, g]
theorem size_mk (l : List UInt8) : (⟨l.toArray⟩ : ByteArray).size = l.length := rfl
def lenOf : Value → Nat | .string b => b.size | _ => 0

theorem string_cons (c : UInt8) (l : List UInt8) : Value.string ((⟨#[c]⟩ : ByteArray) ++ ⟨l.toArray⟩) = .string ⟨(c :: l).toArray⟩ := congrArg _ (bytes_add [c] l)

end Go.Proofs.YtnkhdpenmekhdaaGreat.Digit
end

section
namespace Go.Proofs.YtnkhdpenmekhdaaGreat.Lin
open Go.RowKit Go.Proofs.YtnkhdpenmekhdaaGreat.Own Go.Proofs.YtnkhdpenmekhdaaGreat.Brk Go.Proofs.YtnkhdpenmekhdaaGreat.Calc Go.Proofs.YtnkhdpenmekhdaaGreat.Tree Go.Proofs.YtnkhdpenmekhdaaGreat.Run Go.Proofs.YtnkhdpenmekhdaaGreat.Bkf

theorem nx_gt {D : List (Int × Op)} {E was : Int} (h : was < E) : was < nxV D E was := by
  unfold nxV
  rw [if_pos h]
  split
  · exact h
  · rename_i p r hr
    have : p ∈ rest D was := by rw [hr]; exact List.mem_cons_self
    unfold rest at this
    simpa using (List.mem_filter.1 this).2
theorem tick_no {x : Ln} {now : Int} (h : tickB x now = false) : tickL x now = x ∧ tickO x now = [] := by
  unfold tickL tickO
  rw [h]
  exact ⟨rfl, rfl⟩
theorem tick_wait {x : Ln} {now : Int} (h : tickB x now = true) (hs : x.st = 1) : tickL x now = calm x 2 ∧ tickO x now = [(1, [])] := by
  unfold tickL tickO
  rw [if_pos h, if_pos h, if_pos hs, if_pos hs]
  exact ⟨rfl, rfl⟩
theorem tick_go {x : Ln} {now : Int} (h : tickB x now = true) (hs : goes x) : tickL x now = goL x now ∧ tickO x now = goO x now := by
  have : x.st ≠ 1 := by rcases hs with h | h <;> omega
  unfold tickL tickO
  rw [if_pos h, if_pos h, if_neg this, if_neg this]
  exact ⟨rfl, rfl⟩
section
variable {w : World} {k kw cF : Nat} {S : Nat → Prop} {x : Ln} {pF : Option Addr} {sv : Value}
set_option maxRecDepth 100000 in
set_option maxHeartbeats 4000000 in
theorem tick_calls (now : Int) (h : Mem w k S x) : Calls Tryz.prog 15 #[.pointer (some ⟨k, 0, none⟩), .int .i64 now] w (Gives w k S (tickL x now) (tickO x now)) := by
  have HM := Lib.hid h
  obtain ⟨kw, pF, cF, sv, h⟩ := h
  have HX := Lib.hid (next_line h)
  have HB := Lib.hid (bef_calls now)
  have c3 : w.cell? ⟨k, 3, none⟩ = some (.int .i64 x.st) := at_cell h.row 3
  have hTB : tickB x now = (nextI x && (decide (nextV x ≤ now) && bef now)) := rfl
  cases hni : nextI x with
  | false =>
    rw [hni] at HX hTB
    have HT := Lib.hid (tick_no (x := x) (now := now) (by rw [hTB]; rfl))
    clear h hni hTB
    go_enter Tryz.func15, Tryz.ntmps15
    go_wp2_with (first | (go_at_call 8; refine HX.out.mono ?_; rintro e w' ⟨rfl, rfl⟩) | (go_at_call 39; refine (HB.out _).mono ?_; rintro e w' ⟨rfl, rfl⟩))
    go_ret
    rw [HT.out.1, HT.out.2]
    exact gives_none (does_same HM.out)
  | true =>
    rw [hni] at HX hTB
    by_cases hv : nextV x ≤ now
    · have HV := Lib.hid hv
      by_cases hn : bef now = true
      · have hT : tickB x now = true := by rw [hTB]; simp [hv, hn]
        rw [hn] at HB
        by_cases h1 : x.st = 1
        · have HT := Lib.hid (tick_wait hT h1)
          have HO := Lib.hid (open_calls h)
          have t1 : (x.st == 1) = true := by simpa using h1
          obtain ⟨nv, hnv⟩ : ∃ nv, nextV x = nv := ⟨_, rfl⟩
          rw [hnv] at HX hv
          have q1 : ¬ now < nv := by omega
          clear h hni hTB hn hT h1 hnv hv
          go_enter Tryz.func15, Tryz.ntmps15
          go_wp2_with (first | (go_at_call 8; refine HX.out.mono ?_; rintro e w' ⟨rfl, rfl⟩) | (go_at_call 39; refine (HB.out _).mono ?_; rintro e w' ⟨rfl, rfl⟩))
          refine HO.out.mono ?_
          rintro e w2 ⟨S', p, c, rfl, h2, h3, h4⟩
          have HR : Hid (Gives w k S (calm x 2) [(1, [])] (.returned (.slice p 1 c)) w2) := Lib.hid ⟨S', p, c, rfl, h2, h3, h4⟩
          clear h2 h3 h4
          go_wp2_with fail
          go_ret
          rw [HT.out.1, HT.out.2]
          exact HR.out
        · have hg : goes x := by
            unfold nextI at hni
            simpa [h1] using hni
          have HT := Lib.hid (tick_go hT hg)
          have hnx := (next_go hg).1
          have hgt := nx_gt (D := x.D) (h.good.run hg).1
          have HO := Lib.hid (goOn_at now (by omega) hg h)
          have t1 : (x.st == 1) = false := by simpa using h1
          obtain ⟨nv, hnv⟩ : ∃ nv, nextV x = nv := ⟨_, rfl⟩
          rw [hnv] at HX hv
          have q1 : ¬ now < nv := by omega
          clear h hni hTB hn hT h1 hnv hv hnx hgt hg
          go_enter Tryz.func15, Tryz.ntmps15
          go_wp2_with (first | (go_at_call 8; refine HX.out.mono ?_; rintro e w' ⟨rfl, rfl⟩) | (go_at_call 39; refine (HB.out _).mono ?_; rintro e w' ⟨rfl, rfl⟩))
          refine HO.out.mono ?_
          rintro e w2 ⟨S', p, c, rfl, h2, h3, h4⟩
          have HR := Lib.hid (show Gives w k S (goL x now) (goO x now) _ w2 from ⟨S', p, c, rfl, h2, h3, h4⟩)
          clear h2 h3 h4
          go_wp2_with fail
          go_ret
          rw [HT.out.1, HT.out.2]
          exact HR.out
      · have hn2 : bef now = false := by simpa using hn
        have HT := Lib.hid (tick_no (x := x) (now := now) (by rw [hTB, hn2]; simp))
        rw [hn2] at HB
        obtain ⟨nv, hnv⟩ : ∃ nv, nextV x = nv := ⟨_, rfl⟩
        rw [hnv] at HX hv
        have q1 : ¬ now < nv := by omega
        clear h hni hTB hn hn2 hnv hv
        go_enter Tryz.func15, Tryz.ntmps15
        go_wp2_with (first | (go_at_call 8; refine HX.out.mono ?_; rintro e w' ⟨rfl, rfl⟩) | (go_at_call 39; refine (HB.out _).mono ?_; rintro e w' ⟨rfl, rfl⟩))
        go_ret
        rw [HT.out.1, HT.out.2]
        exact gives_none (does_same HM.out)
    · have HT := Lib.hid (tick_no (x := x) (now := now) (by rw [hTB, decide_eq_false hv]; simp))
      obtain ⟨nv, hnv⟩ : ∃ nv, nextV x = nv := ⟨_, rfl⟩
      rw [hnv] at HX hv
      have q1 : now < nv := by omega
      clear h hni hTB hnv hv
      go_enter Tryz.func15, Tryz.ntmps15
      go_wp2_with (first | (go_at_call 8; refine HX.out.mono ?_; rintro e w' ⟨rfl, rfl⟩) | (go_at_call 39; refine (HB.out _).mono ?_; rintro e w' ⟨rfl, rfl⟩))
      go_ret
      rw [HT.out.1, HT.out.2]
      exact gives_none (does_same HM.out)
theorem gives_mine {w' : World} {v : Value} {O : List Ou} (h : Mem w k S x) (hm : MineO w' w.heap.size v O) (hb : Below w.heap.size w w') : Gives w k S x O (.returned v) w' := by
  obtain ⟨p, c, rfl, hst⟩ := mineO_stay (S := S) hm (mineO_at hm h.lt)
  exact ⟨S, _, _, rfl, h.below hb, Step.below hb, hst⟩
set_option maxRecDepth 100000 in
set_option maxHeartbeats 4000000 in
theorem send_calls (s : List UInt8) (h : Mem w k S x) : Calls Tryz.prog 16 #[.pointer (some ⟨k, 0, none⟩), .string ⟨s.toArray⟩] w fun e w' => ∃ v, e = .returned (.tuple #[v, .bool (sendB x s)]) ∧ Gives w k S (sendL x s) (sendO x s) (.returned v) w' := by
  have HM := Lib.hid h
  obtain ⟨kw, pF, cF, sv, h⟩ := h
  have HS := Lib.hid (state_at h)
  have c6 : w.cell? ⟨k, 6, none⟩ = some (.string ⟨x.H.toArray⟩) := at_cell h.row 6
  have f6 := at_frozen h.row 6
  have hk := h.lt k h.own
  have hH := h.good.held
  have H0 := Lib.hid h
  by_cases h4 : x.st = 4
  · have hng : ¬ goes x := by rintro (e | e) <;> omega
    have HE : Hid (sendB x s = true ∧ sendL x s = x ∧ sendO x s = oW s) := Lib.hid ⟨by unfold sendB; simp [h4], by unfold sendL; rw [if_neg (fun hf => hng hf.1)], by unfold sendO; rw [if_pos h4]⟩
    have t4 : (x.st == 4) = true := by simpa using h4
    clear h h4 hng c6 f6 hH
    go_enter Tryz.func16, Tryz.ntmps16
    go_wp2_with (go_at_call 10; refine HS.out.mono ?_; rintro e w' ⟨rfl, rfl⟩)
    refine (written_calls s w).mono ?_
    rintro e w1 ⟨v, rfl, hm, hb⟩
    have HR := Lib.hid (gives_mine HM.out hm hb)
    clear hm hb
    go_wp2_with fail
    go_ret2
    exact ⟨v, by rw [HE.out.1]; rfl, by rw [HE.out.2.1, HE.out.2.2]; exact HR.out⟩
  · have t4 : (x.st == 4) = false := by simpa using h4
    have HO : Hid (sendO x s = []) := Lib.hid (by unfold sendO; rw [if_neg h4])
    by_cases hg : goes x
    · by_cases hf : s.length + x.H.length ≤ 4096
      · have HF : Hid (sendB x s = true ∧ sendL x s = { x with H := x.H ++ s }) := Lib.hid ⟨by unfold sendB; simp [show fits x s from ⟨hg, hf⟩], by unfold sendL; rw [if_pos ⟨hg, hf⟩]⟩
        have hgd : Good { x with H := x.H ++ s } := ⟨h.good.rule, h.good.st, by show (x.H ++ s).length ≤ 4096; rw [List.length_append]; omega, h.good.few, h.good.first, h.good.run, h.good.un⟩
        have HGD := Lib.hid hgd
        have q1 : ¬ (4096 : Int) - (x.H.length : Int) < (s.length : Int) := by omega
        have hsz : x.H.length + s.length ≤ 4096 := by omega
        have h35 : ((x.st == 3) = true) ∨ ((x.st == 3) = false ∧ (x.st == 5) = true) := by rcases hg with e | e <;> simp [e]
        clear h h4 hf hg hgd
        rcases h35 with t3 | ⟨t3, t5⟩ <;>
        · go_enter Tryz.func16, Tryz.ntmps16
          go_wp2_with (go_at_call 10; refine HS.out.mono ?_; rintro e w' ⟨rfl, rfl⟩)
          go_ret2
          refine ⟨_, by rw [HF.out.1]; rfl, ?_⟩
          rw [HO.out, HF.out.2]
          have ho : Out (fun i => i = k) w (w.setCell ⟨k, 6, none⟩ (.string ⟨(x.H ++ s).toArray⟩)) := (Out.refl (fun i => i = k) w).setCell (p := ⟨k, 6, none⟩) (fun _ => rfl) _
          have hM := H0.out.set (x' := { x with H := x.H ++ s }) (at_set H0.out.row 6 _) ho rfl rfl rfl rfl rfl (fun hg => ⟨hg, rfl, rfl, rfl, rfl⟩) HGD.out
          have hR := gives_none ⟨S, ⟨_, _, _, _, hM⟩, Step.ofOut (ho.mono (S' := S) fun i _ e => by rw [e]; exact H0.out.own)⟩
          rw [← Go.Proofs.YtnkhdpenmekhdaaGreat.Digit.bytes_add] at hR
          exact hR
      · have HF : Hid (sendB x s = false ∧ sendL x s = x) := Lib.hid ⟨by unfold sendB; simp [h4, show ¬ fits x s from fun h => hf h.2], by unfold sendL; rw [if_neg fun h => hf h.2]⟩
        have q1 : (4096 : Int) - (x.H.length : Int) < (s.length : Int) := by omega
        have h35 : ((x.st == 3) = true) ∨ ((x.st == 3) = false ∧ (x.st == 5) = true) := by rcases hg with e | e <;> simp [e]
        clear h h4 hf hg
        rcases h35 with t3 | ⟨t3, t5⟩ <;>
        · go_enter Tryz.func16, Tryz.ntmps16
          go_wp2_with (go_at_call 10; refine HS.out.mono ?_; rintro e w' ⟨rfl, rfl⟩)
          go_ret2
          exact ⟨_, by rw [HF.out.1]; rfl, by rw [HO.out, HF.out.2]; exact gives_none (does_same HM.out)⟩
    · have HF : Hid (sendB x s = false ∧ sendL x s = x) := Lib.hid ⟨by unfold sendB; simp [h4, show ¬ fits x s from fun h => hg h.1], by unfold sendL; rw [if_neg fun h => hg h.1]⟩
      have hg2 : ¬ (x.st = 3 ∨ x.st = 5) := hg
      have t3 : (x.st == 3) = false := by simp; omega
      have t5 : (x.st == 5) = false := by simp; omega
      clear h h4 hg hg2 c6 f6
      go_enter Tryz.func16, Tryz.ntmps16
      go_wp2_with (go_at_call 10; refine HS.out.mono ?_; rintro e w' ⟨rfl, rfl⟩)
      go_ret2
      exact ⟨_, by rw [HF.out.1]; rfl, by rw [HO.out, HF.out.2]; exact gives_none (does_same HM.out)⟩
set_option maxRecDepth 100000 in
set_option maxHeartbeats 4000000 in
theorem break_calls (now : Int) (ops : List Op) (m : Nat) (hm : ops.length = m) (hl : m ≤ 1000) (p : Option Addr) (c : Nat) (hops : Ops w ops p c) (h : Mem w k S x) : Calls Tryz.prog 17 #[.pointer (some ⟨k, 0, none⟩), .int .i64 now, .slice p m c] w fun e w' => ∃ v, e = .returned (.tuple #[v, .int .i64 (brkC x now ops)]) ∧ Gives w k S (brkL x now ops) (brkO x now ops) (.returned v) w' := by
  have HM := Lib.hid h
  obtain ⟨kw, pF, cF, sv, h⟩ := h
  have HI := Lib.hid (made_at h)
  have HB := Lib.hid (bef_calls now)
  have c3 : w.cell? ⟨k, 3, none⟩ = some (.int .i64 x.st) := at_cell h.row 3
  have hno : ∀ cd, brkC x now ops = cd → cd ≠ 0 → brkL x now ops = x ∧ brkO x now ops = [] := fun cd e h0 => ⟨by unfold brkL; rw [if_neg (by rw [e]; exact h0)], by unfold brkO; rw [if_neg (by rw [e]; exact h0)]⟩
  have hyes : brkC x now ops = 0 → brkL x now ops = goL (runs x 5 ops now) now ∧ brkO x now ops = goO (runs x 5 ops now) now := fun e => ⟨by unfold brkL; rw [if_pos e], by unfold brkO; rw [if_pos e]⟩
  by_cases h4 : x.st = 4
  · have t4 : (x.st == 4) = true := by simpa using h4
    have t4' : (x.st != 4) = false := by simp [h4]
    by_cases hn : bef now = true
    · have hC : brkC x now ops = chk now ops := by unfold brkC; rw [if_pos h4, if_pos hn]
      rw [hn] at HB
      have HC := Lib.hid hC
      by_cases h0 : chk now ops = 0
      · have HE := Lib.hid (hyes (hC.trans h0))
        have HG := Lib.hid (begin_yes 5 now (.inr rfl) ops m hm hl p c hops h0 h)
        have H00 := Lib.hid h0
        clear h h4 hn hC hno hyes hm hops h0
        go_enter Tryz.func17, Tryz.ntmps17
        go_wp2_with (first | (go_at_call 36; refine HI.out.mono ?_; rintro e w' ⟨rfl, rfl⟩) | (go_at_call 39; refine (HB.out _).mono ?_; rintro e w' ⟨rfl, rfl⟩))
        refine HG.out.mono ?_
        rintro e w1 ⟨v, rfl, hG⟩
        have HR := Lib.hid hG
        clear hG
        go_wp2_with fail
        go_ret2
        exact ⟨v, by rw [HC.out, H00.out]; rfl, by rw [HE.out.1, HE.out.2]; exact HR.out⟩
      · have HE := Lib.hid (hno _ hC h0)
        have HG := Lib.hid (begin_no 5 now ops m hm hl p c hops _ rfl h0 h)
        clear h h4 hn hC hno hyes hm hops h0
        go_enter Tryz.func17, Tryz.ntmps17
        go_wp2_with (first | (go_at_call 36; refine HI.out.mono ?_; rintro e w' ⟨rfl, rfl⟩) | (go_at_call 39; refine (HB.out _).mono ?_; rintro e w' ⟨rfl, rfl⟩))
        refine HG.out.mono ?_
        rintro e w1 ⟨v, rfl, hG⟩
        have HR := Lib.hid hG
        clear hG
        go_wp2_with fail
        go_ret2
        exact ⟨v, by rw [HC.out]; rfl, by rw [HE.out.1, HE.out.2]; exact HR.out⟩
    · have hn2 : bef now = false := by simpa using hn
      have hC : brkC x now ops = 1 := by unfold brkC; rw [if_pos h4, if_neg hn]
      have HE := Lib.hid (And.intro hC (hno _ hC (by omega)))
      rw [hn2] at HB
      clear h h4 hn hn2 hC hno hyes hm hops
      go_enter Tryz.func17, Tryz.ntmps17
      go_wp2_with (first | (go_at_call 36; refine HI.out.mono ?_; rintro e w' ⟨rfl, rfl⟩) | (go_at_call 39; refine (HB.out _).mono ?_; rintro e w' ⟨rfl, rfl⟩))
      go_ret2
      exact ⟨_, by rw [HE.out.1]; rfl, by rw [HE.out.2.1, HE.out.2.2]; exact gives_none (does_same HM.out)⟩
  · have hC : brkC x now ops = 9 := by unfold brkC; rw [if_neg h4]
    have HE := Lib.hid (And.intro hC (hno _ hC (by omega)))
    have t4 : (x.st == 4) = false := by simpa using h4
    have t4' : (x.st != 4) = true := by simp [h4]
    clear h h4 hC hno hyes hm hops
    go_enter Tryz.func17, Tryz.ntmps17
    go_wp2_with (first | (go_at_call 36; refine HI.out.mono ?_; rintro e w' ⟨rfl, rfl⟩) | (go_at_call 39; refine (HB.out _).mono ?_; rintro e w' ⟨rfl, rfl⟩))
    go_ret2
    exact ⟨_, by rw [HE.out.1]; rfl, by rw [HE.out.2.1, HE.out.2.2]; exact gives_none (does_same HM.out)⟩
end
end Go.Proofs.YtnkhdpenmekhdaaGreat.Lin
end

section
namespace Go.Proofs.YtnkhdpenmekhdaaGreat.Lin
open Go.RowKit Go.Proofs.YtnkhdpenmekhdaaGreat.Own Go.Proofs.YtnkhdpenmekhdaaGreat.Brk Go.Proofs.YtnkhdpenmekhdaaGreat.Calc Go.Proofs.YtnkhdpenmekhdaaGreat.Tree Go.Proofs.YtnkhdpenmekhdaaGreat.Run Go.Proofs.YtnkhdpenmekhdaaGreat.Bkf

/-- slices that read as ops, whatever is done to the line's blocks -/
def OKS (S : Nat → Prop) (w : World) (L : List Op) (p : Option Addr) (c : Nat) : Prop := ∀ W, Out S w W → Ops W L p c
section
variable {OK OK' : List Op → Option Addr → Nat → Prop} {x : Ln} {v : Value}
theorem Rf.mono (h : Rf OK x v) (hk : ∀ L p c, OK L p c → OK' L p c) : Rf OK' x v := by
  obtain ⟨a, pF, cF, pL, lL, cL, st, dn, h⟩ := h
  exact ⟨a, pF, cF, pL, lL, cL, st, dn, h.val, hk _ _ _ h.first, h.wait, fun g => by obtain ⟨ops, h1, h2⟩ := h.run g; exact ⟨ops, hk _ _ _ h1, h2⟩, h.good, h.idle⟩
theorem Rf.cells (h : Rf OK x v) : ∃ z0 z1 z2 z3 z4 z5 zp6 zl6 zk6 zp7 zl7 zk7 z8 z9 z10, v = .agg #[.int .i64 z0, .int .i64 z1, .int .i64 z2, .int .i64 z3, .int .i64 z4, .int .i64 z5, .slice zp6 zl6 zk6, .slice zp7 zl7 zk7, .int .i64 z8, .int .i64 z9, .string z10] := by
  obtain ⟨a, pF, cF, pL, lL, cL, st, dn, h⟩ := h
  exact ⟨_, _, _, _, _, _, _, _, _, _, _, _, _, _, _, h.val⟩
end
/-- a row in which no sign follows a text -/
def NoText (C : Array Value) : Prop := ∀ (o : Nat) (s : ByteArray), C[o]? = some (.string s) → C[o + 1]? = none
section
variable {w W V : World} {Z : Nat} {C : Array Value} {T : TypeId}
theorem ops_apart {L : List Op} {p : Option Addr} {c : Nat} (h : Ops w L p c) (hZ : w.heap[Z]? = some (.cells C T (0, 0))) (hC : NoText C) (hV : ∀ i, i < w.heap.size → i ≠ Z → V.heap[i]? = w.heap[i]?) (hs : w.heap.size ≤ V.heap.size) : Ops V L p c := by
  refine ⟨h.cap, h.max, ?_⟩
  rcases h.cells with e | ⟨b, o, e, hl, k⟩
  · exact .inl e
  · by_cases hL : L.length = 0
    · exact .inl (List.eq_nil_of_length_eq_zero hL)
    have hb : b ≠ Z := by
      rintro rfl
      obtain ⟨-, k1, k2⟩ := k 0 (by omega)
      rw [at_cell hZ] at k1 k2
      have := hC _ _ k1
      rw [this] at k2
      cases k2
    have hc : ∀ j, V.cell? ⟨b, j, none⟩ = w.cell? ⟨b, j, none⟩ := fun j => World.cell?_of_block (a := ⟨b, j, none⟩) (hV b hl hb)
    exact .inr ⟨b, o, e, Nat.lt_of_lt_of_le hl hs, fun i hi => by obtain ⟨k0, k1, k2⟩ := k i hi; rw [hc, hc, hc]; exact ⟨k0, k1, k2⟩⟩
/-- what is foreign stays, also where another row was written -/
theorem ops_still {S : Nat → Prop} {L : List Op} {p : Option Addr} {c : Nat} (h : ∀ V, Out S w V → Ops V L p c) (hZ : w.heap[Z]? = some (.cells C T (0, 0))) (hC : NoText C) (ho : Out (fun i => i = Z) w W) : ∀ V, Out S W V → Ops V L p c := by
  intro V hV
  have hz := at_lt hZ
  have hsz : w.heap.size ≤ V.heap.size := Nat.le_trans ho.size hV.size
  let V' : World := { V with heap := V.heap.set Z (.cells C T (0, 0)) (Nat.lt_of_lt_of_le hz hsz) }
  have e1 : V'.heap.size = V.heap.size := by simp [V']
  have e2 : V'.heap[Z]? = some (.cells C T (0, 0)) := by simp [V']
  have e3 : ∀ i, i ≠ Z → V'.heap[i]? = V.heap[i]? := fun i hi => by simp only [V']; rw [Array.getElem?_set_ne (by omega) (by omega)]
  have hO : Out S w V' := ⟨hV.os.trans ho.os, hV.tape.trans ho.tape, hV.output.trans ho.output, by rw [e1]; exact hsz, fun i hi hn => by
    by_cases hiz : i = Z
    · subst hiz; rw [e2, hZ]
    · rw [e3 i hiz, hV.block i (Nat.lt_of_lt_of_le hi ho.size) hn, ho.block i hi hiz]⟩
  exact ops_apart (h V' hO) e2 hC (fun i _ hi => (e3 i hi).symm) (by rw [e1]; exact Nat.le_refl _)
theorem dus_apart {q : Nat} {p : Option Addr} {L : List (Int × Op)} (h : Dus w q p L) (hZ : w.heap[Z]? = some (.cells C T (0, 0))) (hC : NoText C) (hq : q < w.heap.size) (ho : Out (fun i => i = Z) w W) : Dus W q p L := by
  by_cases hqz : q = Z
  · subst hqz
    rcases h with e | ⟨o, e, k⟩
    · exact .inl e
    · by_cases hL : L.length = 0
      · exact .inl (List.eq_nil_of_length_eq_zero hL)
      obtain ⟨-, -, k2, k3⟩ := k 0 (by omega)
      rw [at_cell hZ] at k2 k3
      have := hC _ _ k2
      rw [this] at k3
      cases k3
  · exact h.same (ho.block q hq hqz)
theorem Mem.other {S : Nat → Prop} {k : Nat} {x : Ln} (h : Mem w k S x) (hZ : w.heap[Z]? = some (.cells C T (0, 0))) (hC : NoText C) (hn : ¬ S Z) (ho : Out (fun i => i = Z) w W) : Mem W k S x := by
  obtain ⟨kw, pF, cF, sv, h⟩ := h
  refine ⟨kw, pF, cF, sv, ho.at_ h.row (fun e => hn (e ▸ h.own)), h.own, h.ownw, h.ne, h.wait.out ho (fun e => hn (e ▸ h.ownw)), fun i hi => Nat.lt_of_lt_of_le (h.lt i hi) ho.size, ops_still h.first hZ hC ho, fun hg => ?_, h.good⟩
  obtain ⟨kb, kq, e, h1, h2, h3, h4, h5⟩ := h.run hg
  refine ⟨kb, kq, e, h1, h2, h3, h4, ?_⟩
  have h6 : IsRun w kb kq _ _ _ := h5
  obtain ⟨p, n, c, hl, hr, q1, q2, q3⟩ := h6.row
  exact (⟨⟨p, n, c, hl, ho.at_ hr (fun e => hn (e ▸ h1)), q1, q2, dus_apart q3 hZ hC h6.lt ho⟩, h6.ne, Nat.lt_of_lt_of_le h6.lt ho.size⟩ : IsRun W kb kq _ _ _)
theorem no_text (b c j st n at_ : Value) (pF pL : Option Addr) (lF cF lL cL : Nat) (start done : Int) (s : ByteArray) (h0 : ∀ s, b ≠ .string s) (h1 : ∀ s, c ≠ .string s) (h2 : ∀ s, j ≠ .string s) (h3 : ∀ s, st ≠ .string s) (h4 : ∀ s, n ≠ .string s) (h5 : ∀ s, at_ ≠ .string s) :
    NoText #[b, c, j, st, n, at_, .slice pF lF cF, .slice pL lL cL, .int .i64 start, .int .i64 done, .string s] := by
  intro o s' ho
  match o, ho with
  | 0, ho => simp at ho; exact absurd ho (h0 s')
  | 1, ho => simp at ho; exact absurd ho (h1 s')
  | 2, ho => simp at ho; exact absurd ho (h2 s')
  | 3, ho => simp at ho; exact absurd ho (h3 s')
  | 4, ho => simp at ho; exact absurd ho (h4 s')
  | 5, ho => simp at ho; exact absurd ho (h5 s')
  | 6, ho => simp at ho
  | 7, ho => simp at ho
  | 8, ho => simp at ho
  | 9, ho => simp at ho
  | 10, _ => simp
  | o + 11, ho => rw [Array.getElem?_eq_none (by simp)] at ho; cases ho
end
/-- a line in memory, and the document's -/
structure Pr (w : World) (S : Nat → Prop) (k : Nat) (x : Ln) (v : Value) : Prop where
  mem : Mem w k S x
  rf : Rf (OKS S w) x v
/-- what an act answers and leaves -/
def DoPost (w : World) (S : Nat → Prop) (k : Nat) (y : Ln) (e : Ending) (w' : World) : Prop := ∃ S' v', e = .returned (.tuple #[v', .bool true]) ∧ Pr w' S' k y v' ∧ Step S w S' w'
def zeros : Array Value := #[.int .i64 0, .int .i64 0, .int .i64 0, .int .i64 0, .int .i64 0, .int .i64 0, .slice none 0 0, .slice none 0 0, .int .i64 0, .int .i64 0, .string ⟨#[]⟩]
/-- the boxes of an act -/
structure DoB (w W : World) (A B : Array Value) : Prop where
  b5 : W.heap[w.heap.size]? = some (.cells A 32 (0, 0))
  b6 : W.heap[w.heap.size + 1]? = some (.cells B 36 (0, 0))
  b8 : W.heap[w.heap.size + 1 + 1]? = some (.cells #[.int .i64 0, .int .i64 0, .int .i64 0, .int .i64 0, .int .i64 0, .int .i64 0, .slice none 0 0, .slice none 0 0, .int .i64 0, .int .i64 0, .string ⟨#[]⟩] 32 (0, 0))
  size : w.heap.size + 2 < W.heap.size
section
variable {w W W' : World} {A B : Array Value}
theorem DoB.start (w : World) (A B : Array Value) : DoB w (((w.alloc (.cells A 32 (0, 0))).alloc (.cells B 36 (0, 0))).alloc (.cells #[.int .i64 0, .int .i64 0, .int .i64 0, .int .i64 0, .int .i64 0, .int .i64 0, .slice none 0 0, .slice none 0 0, .int .i64 0, .int .i64 0, .string ⟨#[]⟩] 32 (0, 0))) A B :=
  ⟨at_old _ _ (at_old _ _ (at_new _ _)), at_old _ _ (at_newk _ _ (by simp)), at_newk _ _ (by simp), by simp⟩
theorem DoB.out (h : DoB w W A B) {S : Nat → Prop} (ho : Out S W W') (hs : ∀ k, S k → k < w.heap.size) : DoB w W' A B := by
  have hz := h.size
  exact ⟨(ho.block _ (by omega) (fun k => by have := hs _ k; omega)).trans h.b5, (ho.block _ (by omega) (fun k => by have := hs _ k; omega)).trans h.b6, (ho.block _ (by omega) (fun k => by have := hs _ k; omega)).trans h.b8, Nat.lt_of_lt_of_le hz ho.size⟩
theorem DoB.step (h : DoB w W A B) (hb : Below W.heap.size W W') : DoB w W' A B := h.out (S := fun _ => False) (Out.ofNew hb) (fun _ k => k.elim)
theorem out_drew (W : World) (m : Nat) : Out (fun _ => False) W (W.drewN m) := ⟨rfl, rfl, rfl, Nat.le_refl _, fun _ _ _ => rfl⟩
theorem out_drew1 (W : World) : Out (fun _ => False) W W.drew := ⟨rfl, rfl, rfl, Nat.le_refl _, fun _ _ _ => rfl⟩
theorem start3 (w : World) (A B : Array Value) : Below w.heap.size w (((w.alloc (.cells A 32 (0, 0))).alloc (.cells B 36 (0, 0))).alloc (.cells #[.int .i64 0, .int .i64 0, .int .i64 0, .int .i64 0, .int .i64 0, .int .i64 0, .slice none 0 0, .slice none 0 0, .int .i64 0, .int .i64 0, .string ⟨#[]⟩] 32 (0, 0))) := (((Below.refl w.heap.size w).alloc (Nat.le_refl _) _).alloc (by simp) _).alloc (by simp; omega) _
theorem ref_post {S : Nat → Prop} {y : Ln} {O : List Ou} {e : Ending} {n : Nat} {OK : List Op → Option Addr → Nat → Prop} (hS : ∀ i, S i → i < W.heap.size) (hn : O.length = n) (h : RGives OK W y O e W') :
    ∃ z0 z1 z2 z3 z4 z5 zp6 zl6 zk6 zp7 zl7 zk7 z8 z9 z10 p c, e = .returned (.tuple #[.agg #[.int .i64 z0, .int .i64 z1, .int .i64 z2, .int .i64 z3, .int .i64 z4, .int .i64 z5, .slice zp6 zl6 zk6, .slice zp7 zl7 zk7, .int .i64 z8, .int .i64 z9, .string z10], .slice p n c]) ∧ Rf OK y (.agg #[.int .i64 z0, .int .i64 z1, .int .i64 z2, .int .i64 z3, .int .i64 z4, .int .i64 z5, .slice zp6 zl6 zk6, .slice zp7 zl7 zk7, .int .i64 z8, .int .i64 z9, .string z10]) ∧ Below W.heap.size W W' ∧ ∀ V, Out S W' V → Outs V O p c := by
  obtain ⟨v, u, rfl, hr, hm, hb⟩ := h
  obtain ⟨z0, z1, z2, z3, z4, z5, zp6, zl6, zk6, zp7, zl7, zk7, z8, z9, z10, rfl⟩ := hr.cells
  obtain ⟨p, c, rfl, hU⟩ := mineO_stay hm (mineO_at hm hS)
  rw [hn]
  exact ⟨_, _, _, _, _, _, _, _, _, _, _, _, _, _, _, p, c, rfl, hr, hb, hU⟩
theorem ref_post3 {S : Nat → Prop} {y : Ln} {O : List Ou} {e : Ending} {n : Nat} {OK : List Op → Option Addr → Nat → Prop} {b : Value} (hS : ∀ i, S i → i < W.heap.size) (hn : O.length = n) (h : ∃ v' u, e = .returned (.tuple #[v', u, b]) ∧ Rf OK y v' ∧ MineO W' W.heap.size u O ∧ Below W.heap.size W W') :
    ∃ z0 z1 z2 z3 z4 z5 zp6 zl6 zk6 zp7 zl7 zk7 z8 z9 z10 p c, e = .returned (.tuple #[.agg #[.int .i64 z0, .int .i64 z1, .int .i64 z2, .int .i64 z3, .int .i64 z4, .int .i64 z5, .slice zp6 zl6 zk6, .slice zp7 zl7 zk7, .int .i64 z8, .int .i64 z9, .string z10], .slice p n c, b]) ∧ Rf OK y (.agg #[.int .i64 z0, .int .i64 z1, .int .i64 z2, .int .i64 z3, .int .i64 z4, .int .i64 z5, .slice zp6 zl6 zk6, .slice zp7 zl7 zk7, .int .i64 z8, .int .i64 z9, .string z10]) ∧ Below W.heap.size W W' ∧ ∀ V, Out S W' V → Outs V O p c := by
  obtain ⟨v, u, rfl, hr, hm, hb⟩ := h
  obtain ⟨z0, z1, z2, z3, z4, z5, zp6, zl6, zk6, zp7, zl7, zk7, z8, z9, z10, rfl⟩ := hr.cells
  obtain ⟨p, c, rfl, hU⟩ := mineO_stay hm (mineO_at hm hS)
  rw [hn]
  exact ⟨_, _, _, _, _, _, _, _, _, _, _, _, _, _, _, p, c, rfl, hr, hb, hU⟩
theorem prog_post {S : Nat → Prop} {k : Nat} {y : Ln} {O : List Ou} {e : Ending} {n : Nat} (hn : O.length = n) (h : Gives W k S y O e W') : ∃ S' p c, e = .returned (.slice p n c) ∧ Mem W' k S' y ∧ Step S W S' W' ∧ ∀ V, Out S' W' V → Outs V O p c := by
  obtain ⟨S', p, c, rfl, h1, h2, h3⟩ := h
  rw [hn]
  exact ⟨S', p, c, rfl, h1, h2, h3⟩
theorem out_of {S : Nat → Prop} {m : Nat} (h : Out S (W.drewN m) W') : Out S W W' := ⟨h.os, h.tape, h.output, h.size, h.block⟩
theorem step_of {S S' : Nat → Prop} {m : Nat} (h : Step S (W.drewN m) S' W') : Step S W S' W' := ⟨out_of h.out, h.new⟩
/-- an act's end: the line as it is behind the call, what was made, and the box that was written -/
theorem do_fin {S S5 : Nat → Prop} {k : Nat} {y : Ln} {v' : Value} {e : Ending} {w W2 w5 w6 WF : World} (hS : ∀ i, S i → i < w.heap.size) (hz : w.heap.size + 2 < W2.heap.size) (hB : Below w.heap.size w W2) (M5 : Mem w5 k S5 y) (T5 : Step S W2 S5 w5) (hR : Rf (OKS S w) y v') (hb6 : Below w5.heap.size w5 w6) (hZ : w6.heap[w.heap.size + 1 + 1]? = some (.cells #[.int .i64 0, .int .i64 0, .int .i64 0, .int .i64 0, .int .i64 0, .int .i64 0, .slice none 0 0, .slice none 0 0, .int .i64 0, .int .i64 0, .string ⟨#[]⟩] 32 (0, 0))) (hF : Out (fun i => i = w.heap.size + 1 + 1) w6 WF) (he : e = .returned (.tuple #[v', .bool true])) : DoPost w S k y e WF := by
  have hT : Step S w S5 WF := by
    have o1 : Out S w w6 := ((Out.ofNew hB).trans T5.out fun _ _ h => h).trans (Out.ofNew (S := S) hb6) fun _ _ h => h
    refine ⟨o1.trans hF fun i hi e => by omega, fun i hi => ?_⟩
    rcases T5.new i hi with h | h
    · exact .inl h
    · have := hB.size; exact .inr (by omega)
  refine ⟨S5, v', he, ⟨?_, hR.mono fun L p c h => hT.stays h⟩, hT⟩
  have hne : ¬ S5 (w.heap.size + 1 + 1) := fun h => by
    rcases T5.new _ h with h | h
    · have := hS _ h; omega
    · omega
  exact (M5.below hb6).other hZ (no_text _ _ _ _ _ _ _ _ _ _ _ _ _ _ _ (by simp) (by simp) (by simp) (by simp) (by simp) (by simp)) hne hF
end
end Go.Proofs.YtnkhdpenmekhdaaGreat.Lin
end


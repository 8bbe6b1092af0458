/-
  Layer 16 (rights): Sees.
-/
import Derived.Test.YtomnkmcabkoagaaRgtSees
import Derived.Test.YtomnkmcabkoagaaRegSat
namespace Go.Proofs.Ytomnkmcabkoagaa.Rgt
open Go.RowKit Go.Proofs.Ytomnkmcabkoagaa.Own Go.Proofs.Ytomnkmcabkoagaa.Rw Go.Proofs.Ytomnkmcabkoagaa.Tree Go.Proofs.Ytomnkmcabkoagaa.Conf

/-- the question, as what is known of a value -/
def seK (p : Option Addr) (n k : Nat) (l : List Ac) (u : Bs) : Reg.Kn := ⟨fun w v => ∃ g, v = seF g ∧ SeV w p n k l u g, fun _ _ _ hb h => h.imp fun _ h => ⟨h.1, h.2.below hb⟩, none, fun _ _ _ h => nomatch h⟩
/-- a row of places, as what is known of a value -/
def plK (B : Nat) (l : List Nat) : Reg.Kn := ⟨fun w v => w.ownsRow B 3 1 v l.length (nsv l), fun _ _ _ hb h => own_below h hb, none, fun _ _ _ h => nomatch h⟩
set_option maxRecDepth 100000 in
theorem wk_fa_apiConf_0 {o : Oper} {a : Act} {w : World} {K : Act → World → Prop} {Q : Exit → Act → World → Prop} (t b of : Nat) (ho : o.op = .fieldAddr 28 (.tmp t) 0) (h1 : a.tmps[t]? = some (.pointer (some ⟨b, of, none⟩))) (h : K (a.put o.dst (.pointer (some ⟨b, of + 0, none⟩))) w) : Oper.wp Try.prog o a w K Q := by
  obtain ⟨d, op, ty, ps, af, gd⟩ := o
  cases ho
  unfold Oper.wp
  simp [go_sem, h1, Oper.upon]
  exact h
set_option maxRecDepth 100000 in
theorem wk_ld_slapiConsole {o : Oper} {a : Act} {w : World} {K : Act → World → Prop} {Q : Exit → Act → World → Prop} (t : Nat) (ad : Addr) (v : Value) (ho : o.op = .load 22 (.tmp t)) (h1 : a.tmps[t]? = some (.pointer (some ad))) (hc : w.cell? ad = some v) (h : K (a.put o.dst v) w) : Oper.wp Try.prog o a w K Q := by
  obtain ⟨d, op, ty, ps, af, gd⟩ := o
  cases ho
  unfold Oper.wp
  simp [go_sem, h1, hc, Oper.upon]
  exact h
set_option maxRecDepth 100000 in
set_option maxHeartbeats 4000000 in
theorem wk_ldConf {o : Oper} {a : Act} {w : World} {K : Act → World → Prop} {Q : Exit → Act → World → Prop} (t b : Nat) (x0 x1 x2 x3 x4 x5 x6 x7 x8 x9 x10 x11 x12 x13 : Value) (ho : o.op = .load 28 (.tmp t)) (h1 : a.tmps[t]? = some (.pointer (some ⟨b, 0, none⟩))) (N : w.heap[b]? = some (.cells #[x0, x1, x2, x3, x4, x5, x6, x7, x8, x9, x10, x11, x12, x13] 28 (0, 0))) (h : K (a.put o.dst (.agg #[x0, x1, x2, x3, x4, x5, x6, x7, x8, x9, x10, x11, x12, x13])) w) : Oper.wp Try.prog o a w K Q := by
  have c0 : w.cell? ⟨b, 0, none⟩ = some x0 := at_cell N 0
  have c1 : w.cell? ⟨b, 1, none⟩ = some x1 := at_cell N 1
  have c2 : w.cell? ⟨b, 2, none⟩ = some x2 := at_cell N 2
  have c3 : w.cell? ⟨b, 3, none⟩ = some x3 := at_cell N 3
  have c4 : w.cell? ⟨b, 4, none⟩ = some x4 := at_cell N 4
  have c5 : w.cell? ⟨b, 5, none⟩ = some x5 := at_cell N 5
  have c6 : w.cell? ⟨b, 6, none⟩ = some x6 := at_cell N 6
  have c7 : w.cell? ⟨b, 7, none⟩ = some x7 := at_cell N 7
  have c8 : w.cell? ⟨b, 8, none⟩ = some x8 := at_cell N 8
  have c9 : w.cell? ⟨b, 9, none⟩ = some x9 := at_cell N 9
  have c10 : w.cell? ⟨b, 10, none⟩ = some x10 := at_cell N 10
  have c11 : w.cell? ⟨b, 11, none⟩ = some x11 := at_cell N 11
  have c12 : w.cell? ⟨b, 12, none⟩ = some x12 := at_cell N 12
  have c13 : w.cell? ⟨b, 13, none⟩ = some x13 := at_cell N 13
  clear N
  obtain ⟨d, op, ty, ps, af, gd⟩ := o
  cases ho
  unfold Oper.wp
  simp [go_sem, h1, Oper.upon, c0, c1, c2, c3, c4, c5, c6, c7, c8, c9, c10, c11, c12, c13]
  exact h
set_option maxRecDepth 100000 in
theorem wk_move {o : Oper} {a : Act} {w : World} {K : Act → World → Prop} {Q : Exit → Act → World → Prop} (t : Nat) (v : Value) (ho : o.op = .move (.tmp t)) (h1 : a.tmps[t]? = some v) (h : K (a.put o.dst v) w) : Oper.wp Try.prog o a w K Q := by
  obtain ⟨d, op, ty, ps, af, gd⟩ := o
  cases ho
  unfold Oper.wp
  simp [go_sem, h1, Oper.upon]
  exact h
set_option maxRecDepth 100000 in
theorem wk_call2_rightsseenBy {o : Oper} {a : Act} {w : World} {K : Act → World → Prop} {Q : Exit → Act → World → Prop} (t0 : Nat) (t1 : Nat) (v0 : Value) (v1 : Value) (ts : Array TypeId) (S : World → Value → Prop) (ho : o.op = .call { callee := .value (.func 26), args := #[.tmp t0, .tmp t1], argTypes := ts }) (h0 : a.tmps[t0]? = some v0) (h1 : a.tmps[t1]? = some v1) (h : Calls Try.prog 26 #[v0, v1] w (fun e w2 => ∃ v, e = .returned v ∧ S w2 v ∧ Below w.heap.size w w2)) (hK : ∀ v w2, S w2 v → Below w.heap.size w w2 → K (a.put o.dst v) w2) : Oper.wp Try.prog o a w K Q := by
  obtain ⟨d, op, ty, ps, af, gd⟩ := o
  cases ho
  unfold Oper.wp
  simp [go_sem, Oper.upon, h0, h1]
  refine h.mono ?_
  rintro e w2 ⟨v, rfl, hk, hb⟩
  exact hK v w2 hk hb
set_option maxRecDepth 100000 in
theorem wk_call2_rightsplacesapiConsole {o : Oper} {a : Act} {w : World} {K : Act → World → Prop} {Q : Exit → Act → World → Prop} (t0 : Nat) (t1 : Nat) (v0 : Value) (v1 : Value) (ts : Array TypeId) (S : World → Value → Prop) (ho : o.op = .call { callee := .value (.func 25), args := #[.tmp t0, .tmp t1], argTypes := ts }) (h0 : a.tmps[t0]? = some v0) (h1 : a.tmps[t1]? = some v1) (h : Calls Try.prog 25 #[v0, v1] w (fun e w2 => ∃ v, e = .returned v ∧ S w2 v ∧ Below w.heap.size w w2)) (hK : ∀ v w2, S w2 v → Below w.heap.size w w2 → K (a.put o.dst v) w2) : Oper.wp Try.prog o a w K Q := by
  obtain ⟨d, op, ty, ps, af, gd⟩ := o
  cases ho
  unfold Oper.wp
  simp [go_sem, Oper.upon, h0, h1]
  refine h.mono ?_
  rintro e w2 ⟨v, rfl, hk, hb⟩
  exact hK v w2 hk hb
set_option maxRecDepth 100000 in
theorem wk_assign {o : Oper} {a : Act} {w : World} {K : Act → World → Prop} {Q : Exit → Act → World → Prop} (t : Nat) (v : Value) (ho : o.op = .assign (.tmp t)) (h1 : a.tmps[t]? = some v) (h : K (a.put o.dst v) w) : Oper.wp Try.prog o a w K Q := by
  obtain ⟨d, op, ty, ps, af, gd⟩ := o
  cases ho
  unfold Oper.wp
  simp [go_sem, h1, Oper.upon]
  exact h

set_option maxRecDepth 100000 in
set_option maxHeartbeats 4000000 in
theorem Sees_calls (cs : List Cn) (l : List Ac) (u : Bs) (hu : u.length ≤ 65536) (hx : ∀ x ∈ cs, x.name.length ≤ 65536) (p0 p : Option Addr) (k0 n0 k n : Nat) (v1 v2 : Value) (b0 b1 b2 b3 b4 b5 b6 b7 b8 b9 : Bs) (hn0 : n0 = cs.length) (hm0 : n0 ≤ 65536) (hn : n = l.length) (hm : n ≤ 65536) (w : World) (h0 : Rd w 10 p0 k0 n0 (cs.flatMap cnv)) (h : Rd w 3 p k n (l.flatMap acv)) :
    Calls Try.prog 12 #[confV (.slice p0 n0 k0) v1 v2 (.slice p n k) b0 b1 b2 b3 b4 b5 b6 b7 b8 b9, .string ⟨u.toArray⟩] w (PlPost w (plc cs (sees l u))) := by
  have hA := (Below.refl w.heap.size w).alloc (Nat.le_refl _) (.cells #[.slice p0 n0 k0, v1, v2, .slice p n k, .string ⟨b0.toArray⟩, .string ⟨b1.toArray⟩, .string ⟨b2.toArray⟩, .string ⟨b3.toArray⟩, .string ⟨b4.toArray⟩, .string ⟨b5.toArray⟩, .string ⟨b6.toArray⟩, .string ⟨b7.toArray⟩, .string ⟨b8.toArray⟩, .string ⟨b9.toArray⟩] 28)
  have HX := Lib.hid (at_new w (.cells #[.slice p0 n0 k0, v1, v2, .slice p n k, .string ⟨b0.toArray⟩, .string ⟨b1.toArray⟩, .string ⟨b2.toArray⟩, .string ⟨b3.toArray⟩, .string ⟨b4.toArray⟩, .string ⟨b5.toArray⟩, .string ⟨b6.toArray⟩, .string ⟨b7.toArray⟩, .string ⟨b8.toArray⟩, .string ⟨b9.toArray⟩] 28))
  have HB0 := Lib.hid hA
  have HS := Lib.hid (fun (W : World) (hW : Below w.heap.size w W) => seenBy_calls l u hu p k n (.slice p0 n0 k0) v1 v2 b0 b1 b2 b3 b4 b5 b6 b7 b8 b9 hn hm W (h.below hW))
  have HP := Lib.hid (fun (W : World) (hW : Below w.heap.size w W) (g : Nat) (hs : SeV W p n k l u g) => placesC_calls cs (sees l u) 46 (enters_of Try.func46 (by kernel_rfl) rfl) ⟨g, 0, none⟩ p0 k0 n0 hn0 hm0 W (h0.below hW)
    (fun x hx1 w' hb => see_calls l u x (hx x hx1) p k n g w' ((h.below hW).below hb) (hs.below hb)))
  clear hA hn0 hn h0 h
  unfold confV at *
  unfold PlPost at *
  go_enter Try.func12, Try.ntmps12
  go_wp2_with fail
  generalize (w.alloc (.cells #[.slice p0 n0 k0, v1, v2, .slice p n k, .string ⟨b0.toArray⟩, .string ⟨b1.toArray⟩, .string ⟨b2.toArray⟩, .string ⟨b3.toArray⟩, .string ⟨b4.toArray⟩, .string ⟨b5.toArray⟩, .string ⟨b6.toArray⟩, .string ⟨b7.toArray⟩, .string ⟨b8.toArray⟩, .string ⟨b9.toArray⟩] 28)) = W at *
  refine Reg.wp_sat (by kernel_rfl) [some 5, some 6, some 7, some 8, some 9, some 10, some 4] [Reg.Kn.val (.pointer (some ⟨w.heap.size, 0 + 0, none⟩)), Reg.Kn.val (.slice p0 n0 k0), Reg.Kn.val (.agg #[.slice p0 n0 k0, v1, v2, .slice p n k, .string ⟨b0.toArray⟩, .string ⟨b1.toArray⟩, .string ⟨b2.toArray⟩, .string ⟨b3.toArray⟩, .string ⟨b4.toArray⟩, .string ⟨b5.toArray⟩, .string ⟨b6.toArray⟩, .string ⟨b7.toArray⟩, .string ⟨b8.toArray⟩, .string ⟨b9.toArray⟩]), Reg.Kn.val (.string ⟨u.toArray⟩), seK p n k l u, plK w.heap.size (plc cs (sees l u)), plK w.heap.size (plc cs (sees l u))] (List.replicate 7 true) [(5, 0), (6, 1), (7, 2), (8, 3), (9, 4), (10, 5), (4, 6)] (by kernel_rfl) (by kernel_rfl) (by kernel_rfl) (by decide) (by kernel_rfl) ?_ ?_
  · intro ii op a' w' ho hwd hdp hot hb
    have hr := Below.refl w'.heap.size w'
    have N1 := (hb.block _ (at_lt HX.out)).trans HX.out
    have B1 := HB0.out.trans (hb.mono HB0.out.size)
    match ii, ho, hwd, hdp, hot with
    | 0, ho, hwd, hdp, hot =>
      obtain rfl := Option.some.inj ho
      have e2 : a'.tmps[2]? = some (.pointer (some ⟨w.heap.size, 0, none⟩)) := (hot 2 ⟨by kernel_rfl⟩).trans rfl
      exact wk_fa_apiConf_0 2 _ _ rfl e2 ⟨_, rfl, rfl, hr⟩
    | 1, ho, hwd, hdp, hot =>
      obtain rfl := Option.some.inj ho
      have e5 : a'.tmps[5]? = some (.pointer (some ⟨w.heap.size, 0 + 0, none⟩)) := by obtain ⟨_, e, h⟩ := hdp 0 (Reg.mem_of (by kernel_rfl)) _ rfl; exact e.trans (congrArg some h)
      exact wk_ld_slapiConsole 5 _ _ rfl e5 (at_cell N1 0) ⟨_, rfl, rfl, hr⟩
    | 2, ho, hwd, hdp, hot =>
      obtain rfl := Option.some.inj ho
      have e2 : a'.tmps[2]? = some (.pointer (some ⟨w.heap.size, 0, none⟩)) := (hot 2 ⟨by kernel_rfl⟩).trans rfl
      exact wk_ldConf 2 _ _ _ _ _ _ _ _ _ _ _ _ _ _ _ rfl e2 N1 ⟨_, rfl, rfl, hr⟩
    | 3, ho, hwd, hdp, hot =>
      obtain rfl := Option.some.inj ho
      have e1 : a'.tmps[1]? = some (.string ⟨u.toArray⟩) := (hot 1 ⟨by kernel_rfl⟩).trans rfl
      exact wk_move 1 _ rfl e1 ⟨_, rfl, rfl, hr⟩
    | 4, ho, hwd, hdp, hot =>
      obtain rfl := Option.some.inj ho
      have e7 : a'.tmps[7]? = some (.agg #[.slice p0 n0 k0, v1, v2, .slice p n k, .string ⟨b0.toArray⟩, .string ⟨b1.toArray⟩, .string ⟨b2.toArray⟩, .string ⟨b3.toArray⟩, .string ⟨b4.toArray⟩, .string ⟨b5.toArray⟩, .string ⟨b6.toArray⟩, .string ⟨b7.toArray⟩, .string ⟨b8.toArray⟩, .string ⟨b9.toArray⟩]) := by obtain ⟨_, e, h⟩ := hdp 2 (Reg.mem_of (by kernel_rfl)) _ rfl; exact e.trans (congrArg some h)
      have e8 : a'.tmps[8]? = some (.string ⟨u.toArray⟩) := by obtain ⟨_, e, h⟩ := hdp 3 (Reg.mem_of (by kernel_rfl)) _ rfl; exact e.trans (congrArg some h)
      exact wk_call2_rightsseenBy 7 8 _ _ _ _ rfl e7 e8 ((HS.out _ B1).mono (by rintro e w2 ⟨g, rfl, hs, hb2⟩; exact ⟨_, rfl, ⟨g, rfl, hs⟩, hb2⟩)) fun v w2 hk hb2 => ⟨_, rfl, hk, hb2⟩
    | 5, ho, hwd, hdp, hot =>
      obtain rfl := Option.some.inj ho
      have e6 : a'.tmps[6]? = some (.slice p0 n0 k0) := by obtain ⟨_, e, h⟩ := hdp 1 (Reg.mem_of (by kernel_rfl)) _ rfl; exact e.trans (congrArg some h)
      obtain ⟨v9, e9, s9⟩ := hdp 4 (Reg.mem_of (by kernel_rfl)) _ rfl
      obtain ⟨g, rfl, hs⟩ : (seK p n k l u).sat w' v9 := s9
      exact wk_call2_rightsplacesapiConsole 6 9 _ _ _ _ rfl e6 e9 ((HP.out _ B1 _ hs).mono (by rintro e w2 ⟨v, rfl, ho, hb2⟩; exact ⟨_, rfl, own_base ho (B1.size), hb2⟩)) fun v w2 hk hb2 => ⟨_, rfl, hk, hb2⟩
    | 6, ho, hwd, hdp, hot =>
      obtain rfl := Option.some.inj ho
      obtain ⟨v10, e10, s10⟩ := hdp 5 (Reg.mem_of (by kernel_rfl)) _ rfl
      exact wk_assign 10 _ rfl e10 ⟨_, rfl, s10, hr⟩
    | ii + 7, ho, _, _, _ => exact absurd ho (by simp)
  · intro us w' hul hus hb
    obtain ⟨z0, z1, z2, z3, z4, z5, z6, rfl⟩ : ∃ z0 z1 z2 z3 z4 z5 z6, us = [z0, z1, z2, z3, z4, z5, z6] := by
      clear hus
      match us, hul with
      | [z0, z1, z2, z3, z4, z5, z6], _ => exact ⟨z0, z1, z2, z3, z4, z5, z6, rfl⟩
    have h4 : (plK w.heap.size (plc cs (sees l u))).sat w' z6 := hus 6 (4, 6) _ rfl rfl
    clear hus hul
    simp only [List.map, List.zip, List.zipWith, Reg.puts, Act.put, List.setIfInBounds_toArray, List.set_cons_succ, List.set_cons_zero]
    have B1 := HB0.out.trans (hb.mono HB0.out.size)
    go_wp2_with fail
    go_ret
    exact ⟨_, rfl, h4, B1⟩
end Go.Proofs.Ytomnkmcabkoagaa.Rgt

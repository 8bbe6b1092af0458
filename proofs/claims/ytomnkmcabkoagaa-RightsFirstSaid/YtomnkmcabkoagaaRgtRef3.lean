/-
  Layer 16 (rights): the document's own Fit, Group.
-/
import Derived.Test.YtomnkmcabkoagaaRgtRef2
namespace Go.Proofs.Ytomnkmcabkoagaa.Rgt
open Go.RowKit Go.Proofs.Ytomnkmcabkoagaa.Own Go.Proofs.Ytomnkmcabkoagaa.Rw Go.Proofs.Ytomnkmcabkoagaa.Tree Go.Proofs.Ytomnkmcabkoagaa.Conf

theorem any_next {ps : List Bs} {f : Bs → Bool} {k : Nat} (hk : k < ps.length) : (ps.take (k + 1)).any f = ((ps.take k).any f || f ps[k]) := by
  rw [List.take_succ_eq_append_getElem hk, List.any_append]; simp
set_option maxRecDepth 100000 in
theorem wf_move {o : Oper} {a : Act} {w : World} {K : Act → World → Prop} {Q : Exit → Act → World → Prop} (t : Nat) (v : Value) (ho : o.op = .move (.tmp t)) (h1 : a.tmps[t]? = some v) (h : K (a.put o.dst v) w) : Oper.wp Try.prog o a w K Q := by
  obtain ⟨d, op, ty, ps, af, gd⟩ := o
  cases ho
  unfold Oper.wp
  simp [go_sem, h1, Oper.upon]
  exact h
set_option maxRecDepth 100000 in
theorem wf_pickTct {o : Oper} {a : Act} {w : World} {K : Act → World → Prop} {Q : Exit → Act → World → Prop} (t z : Nat) (cy : Value) (v : Value) (ho : o.op = .pick (.tmp t) (.const cy) (.tmp z)) (h1 : a.tmps[t]? = some (.bool true)) (h2 : cy = v) (h : K (a.put o.dst v) w) : Oper.wp Try.prog o a w K Q := by
  obtain ⟨d, op, ty, ps, af, gd⟩ := o
  cases ho
  unfold Oper.wp
  subst h2
  simp [go_sem, h1, Oper.upon]
  exact h
set_option maxRecDepth 100000 in
theorem wf_assign {o : Oper} {a : Act} {w : World} {K : Act → World → Prop} {Q : Exit → Act → World → Prop} (t : Nat) (v : Value) (ho : o.op = .assign (.tmp t)) (h1 : a.tmps[t]? = some v) (h : K (a.put o.dst v) w) : Oper.wp Try.prog o a w K Q := by
  obtain ⟨d, op, ty, ps, af, gd⟩ := o
  cases ho
  unfold Oper.wp
  simp [go_sem, h1, Oper.upon]
  exact h
set_option maxRecDepth 100000 in
theorem wf_ix_slstring {o : Oper} {a : Act} {w : World} {K : Act → World → Prop} {Q : Exit → Act → World → Prop} (t u g of n c i : Nat) (ho : o.op = .indexAddr 45 (.tmp t) (.tmp u)) (h1 : a.tmps[t]? = some (.slice (some ⟨g, of, none⟩) n c)) (h2 : a.tmps[u]? = some (.int .i64 i)) (hi : i < n) (h : K (a.put o.dst (.pointer (some ⟨g, of + i, none⟩))) w) : Oper.wp Try.prog o a w K Q := by
  obtain ⟨d, op, ty, ps, af, gd⟩ := o
  cases ho
  unfold Oper.wp
  have hi2 : (i : Int) < (n : Int) := by omega
  simp [go_sem, h1, h2, hi2, Oper.upon]
  exact h
set_option maxRecDepth 100000 in
theorem wf_ld_string {o : Oper} {a : Act} {w : World} {K : Act → World → Prop} {Q : Exit → Act → World → Prop} (t : Nat) (ad : Addr) (v : Value) (ho : o.op = .load 9 (.tmp t)) (h1 : a.tmps[t]? = some (.pointer (some ad))) (hc : w.cell? ad = some v) (h : K (a.put o.dst v) w) : Oper.wp Try.prog o a w K Q := by
  obtain ⟨d, op, ty, ps, af, gd⟩ := o
  cases ho
  unfold Oper.wp
  simp [go_sem, h1, hc, Oper.upon]
  exact h
set_option maxRecDepth 100000 in
theorem wf_fa_apiConf_0 {o : Oper} {a : Act} {w : World} {K : Act → World → Prop} {Q : Exit → Act → World → Prop} (t b of : Nat) (ho : o.op = .fieldAddr 28 (.tmp t) 0) (h1 : a.tmps[t]? = some (.pointer (some ⟨b, of, none⟩))) (h : K (a.put o.dst (.pointer (some ⟨b, of + 0, none⟩))) w) : Oper.wp Try.prog o a w K Q := by
  obtain ⟨d, op, ty, ps, af, gd⟩ := o
  cases ho
  unfold Oper.wp
  simp [go_sem, h1, Oper.upon]
  exact h
set_option maxRecDepth 100000 in
theorem wf_ld_slapiConsole {o : Oper} {a : Act} {w : World} {K : Act → World → Prop} {Q : Exit → Act → World → Prop} (t : Nat) (ad : Addr) (v : Value) (ho : o.op = .load 22 (.tmp t)) (h1 : a.tmps[t]? = some (.pointer (some ad))) (hc : w.cell? ad = some v) (h : K (a.put o.dst v) w) : Oper.wp Try.prog o a w K Q := by
  obtain ⟨d, op, ty, ps, af, gd⟩ := o
  cases ho
  unfold Oper.wp
  simp [go_sem, h1, hc, Oper.upon]
  exact h
set_option maxRecDepth 100000 in
theorem wf_ix_slapiConsole {o : Oper} {a : Act} {w : World} {K : Act → World → Prop} {Q : Exit → Act → World → Prop} (t u g of n c i : Nat) (ho : o.op = .indexAddr 22 (.tmp t) (.tmp u)) (h1 : a.tmps[t]? = some (.slice (some ⟨g, of, none⟩) n c)) (h2 : a.tmps[u]? = some (.int .i64 i)) (hi : i < n) (h : K (a.put o.dst (.pointer (some ⟨g, of + i * 10, none⟩))) w) : Oper.wp Try.prog o a w K Q := by
  obtain ⟨d, op, ty, ps, af, gd⟩ := o
  cases ho
  unfold Oper.wp
  have hi2 : (i : Int) < (n : Int) := by omega
  simp [go_sem, h1, h2, hi2, Oper.upon]
  exact h
set_option maxRecDepth 100000 in
theorem wf_fa_apiConsole_0 {o : Oper} {a : Act} {w : World} {K : Act → World → Prop} {Q : Exit → Act → World → Prop} (t b of : Nat) (ho : o.op = .fieldAddr 47 (.tmp t) 0) (h1 : a.tmps[t]? = some (.pointer (some ⟨b, of, none⟩))) (h : K (a.put o.dst (.pointer (some ⟨b, of + 0, none⟩))) w) : Oper.wp Try.prog o a w K Q := by
  obtain ⟨d, op, ty, ps, af, gd⟩ := o
  cases ho
  unfold Oper.wp
  simp [go_sem, h1, Oper.upon]
  exact h
set_option maxRecDepth 100000 in
theorem wf_call2_wheelhouseref10Match {o : Oper} {a : Act} {w : World} {K : Act → World → Prop} {Q : Exit → Act → World → Prop} (t0 : Nat) (t1 : Nat) (v0 : Value) (v1 : Value) (ts : Array TypeId) (S : World → Value → Prop) (ho : o.op = .call { callee := .value (.func 23), args := #[.tmp t0, .tmp t1], argTypes := ts }) (h0 : a.tmps[t0]? = some v0) (h1 : a.tmps[t1]? = some v1) (h : Calls Try.prog 23 #[v0, v1] w (fun e w2 => ∃ v, e = .returned v ∧ S w2 v ∧ Below w.heap.size w w2)) (hK : ∀ v w2, S w2 v → Below w.heap.size w w2 → K (a.put o.dst v) w2) : Oper.wp Try.prog o a w K Q := by
  obtain ⟨d, op, ty, ps, af, gd⟩ := o
  cases ho
  unfold Oper.wp
  simp [go_sem, Oper.upon, h0, h1]
  refine h.mono ?_
  rintro e w2 ⟨v, rfl, hk, hb⟩
  exact hK v w2 hk hb
set_option maxRecDepth 100000 in
theorem wf_pickFct {o : Oper} {a : Act} {w : World} {K : Act → World → Prop} {Q : Exit → Act → World → Prop} (t z : Nat) (cy : Value) (v : Value) (ho : o.op = .pick (.tmp t) (.const cy) (.tmp z)) (h1 : a.tmps[t]? = some (.bool false)) (h2 : a.tmps[z]? = some v) (h : K (a.put o.dst v) w) : Oper.wp Try.prog o a w K Q := by
  obtain ⟨d, op, ty, ps, af, gd⟩ := o
  cases ho
  unfold Oper.wp
  simp [go_sem, h1, h2, Oper.upon]
  exact h
set_option maxRecDepth 100000 in
set_option maxHeartbeats 4000000 in
theorem wg_ldConf {o : Oper} {a : Act} {w : World} {K : Act → World → Prop} {Q : Exit → Act → World → Prop} (t b : Nat) (x0 x1 x2 x3 x4 x5 x6 x7 x8 x9 x10 x11 x12 x13 : Value) (ho : o.op = .load 28 (.tmp t)) (h1 : a.tmps[t]? = some (.pointer (some ⟨b, 0, none⟩))) (N : w.heap[b]? = some (.cells #[x0, x1, x2, x3, x4, x5, x6, x7, x8, x9, x10, x11, x12, x13] 28 (0, 0))) (h : K (a.put o.dst (.agg #[x0, x1, x2, x3, x4, x5, x6, x7, x8, x9, x10, x11, x12, x13])) w) : Oper.wp Try.prog o a w K Q := by
  have c0 : w.cell? ⟨b, 0, none⟩ = some x0 := at_cell N 0
  have c1 : w.cell? ⟨b, 1, none⟩ = some x1 := at_cell N 1
  have c2 : w.cell? ⟨b, 2, none⟩ = some x2 := at_cell N 2
  have c3 : w.cell? ⟨b, 3, none⟩ = some x3 := at_cell N 3
  have c4 : w.cell? ⟨b, 4, none⟩ = some x4 := at_cell N 4
  have c5 : w.cell? ⟨b, 5, none⟩ = some x5 := at_cell N 5
  have c6 : w.cell? ⟨b, 6, none⟩ = some x6 := at_cell N 6
  have c7 : w.cell? ⟨b, 7, none⟩ = some x7 := at_cell N 7
  have c8 : w.cell? ⟨b, 8, none⟩ = some x8 := at_cell N 8
  have c9 : w.cell? ⟨b, 9, none⟩ = some x9 := at_cell N 9
  have c10 : w.cell? ⟨b, 10, none⟩ = some x10 := at_cell N 10
  have c11 : w.cell? ⟨b, 11, none⟩ = some x11 := at_cell N 11
  have c12 : w.cell? ⟨b, 12, none⟩ = some x12 := at_cell N 12
  have c13 : w.cell? ⟨b, 13, none⟩ = some x13 := at_cell N 13
  clear N
  obtain ⟨d, op, ty, ps, af, gd⟩ := o
  cases ho
  unfold Oper.wp
  simp [go_sem, h1, Oper.upon, c0, c1, c2, c3, c4, c5, c6, c7, c8, c9, c10, c11, c12, c13]
  exact h
set_option maxRecDepth 100000 in
theorem wg_fa_apiConf_1 {o : Oper} {a : Act} {w : World} {K : Act → World → Prop} {Q : Exit → Act → World → Prop} (t b of : Nat) (ho : o.op = .fieldAddr 28 (.tmp t) 1) (h1 : a.tmps[t]? = some (.pointer (some ⟨b, of, none⟩))) (h : K (a.put o.dst (.pointer (some ⟨b, of + 1, none⟩))) w) : Oper.wp Try.prog o a w K Q := by
  obtain ⟨d, op, ty, ps, af, gd⟩ := o
  cases ho
  unfold Oper.wp
  simp [go_sem, h1, Oper.upon]
  exact h
set_option maxRecDepth 100000 in
theorem wg_ld_slapiGroup {o : Oper} {a : Act} {w : World} {K : Act → World → Prop} {Q : Exit → Act → World → Prop} (t : Nat) (ad : Addr) (v : Value) (ho : o.op = .load 23 (.tmp t)) (h1 : a.tmps[t]? = some (.pointer (some ad))) (hc : w.cell? ad = some v) (h : K (a.put o.dst v) w) : Oper.wp Try.prog o a w K Q := by
  obtain ⟨d, op, ty, ps, af, gd⟩ := o
  cases ho
  unfold Oper.wp
  simp [go_sem, h1, hc, Oper.upon]
  exact h
set_option maxRecDepth 100000 in
theorem wg_move {o : Oper} {a : Act} {w : World} {K : Act → World → Prop} {Q : Exit → Act → World → Prop} (t : Nat) (v : Value) (ho : o.op = .move (.tmp t)) (h1 : a.tmps[t]? = some v) (h : K (a.put o.dst v) w) : Oper.wp Try.prog o a w K Q := by
  obtain ⟨d, op, ty, ps, af, gd⟩ := o
  cases ho
  unfold Oper.wp
  simp [go_sem, h1, Oper.upon]
  exact h
set_option maxRecDepth 100000 in
theorem wg_ix_slapiGroup {o : Oper} {a : Act} {w : World} {K : Act → World → Prop} {Q : Exit → Act → World → Prop} (t u g of n c i : Nat) (ho : o.op = .indexAddr 23 (.tmp t) (.tmp u)) (h1 : a.tmps[t]? = some (.slice (some ⟨g, of, none⟩) n c)) (h2 : a.tmps[u]? = some (.int .i64 i)) (hi : i < n) (h : K (a.put o.dst (.pointer (some ⟨g, of + i * 2, none⟩))) w) : Oper.wp Try.prog o a w K Q := by
  obtain ⟨d, op, ty, ps, af, gd⟩ := o
  cases ho
  unfold Oper.wp
  have hi2 : (i : Int) < (n : Int) := by omega
  simp [go_sem, h1, h2, hi2, Oper.upon]
  exact h
set_option maxRecDepth 100000 in
theorem wg_fa_apiGroup_1 {o : Oper} {a : Act} {w : World} {K : Act → World → Prop} {Q : Exit → Act → World → Prop} (t b of : Nat) (ho : o.op = .fieldAddr 53 (.tmp t) 1) (h1 : a.tmps[t]? = some (.pointer (some ⟨b, of, none⟩))) (h : K (a.put o.dst (.pointer (some ⟨b, of + 1, none⟩))) w) : Oper.wp Try.prog o a w K Q := by
  obtain ⟨d, op, ty, ps, af, gd⟩ := o
  cases ho
  unfold Oper.wp
  simp [go_sem, h1, Oper.upon]
  exact h
set_option maxRecDepth 100000 in
theorem wg_ld_slstring {o : Oper} {a : Act} {w : World} {K : Act → World → Prop} {Q : Exit → Act → World → Prop} (t : Nat) (ad : Addr) (v : Value) (ho : o.op = .load 45 (.tmp t)) (h1 : a.tmps[t]? = some (.pointer (some ad))) (hc : w.cell? ad = some v) (h : K (a.put o.dst v) w) : Oper.wp Try.prog o a w K Q := by
  obtain ⟨d, op, ty, ps, af, gd⟩ := o
  cases ho
  unfold Oper.wp
  simp [go_sem, h1, hc, Oper.upon]
  exact h
set_option maxRecDepth 100000 in
theorem wg_call2_wheelhouseref16Fit {o : Oper} {a : Act} {w : World} {K : Act → World → Prop} {Q : Exit → Act → World → Prop} (t0 : Nat) (t1 : Nat) (v0 : Value) (v1 : Value) (ts : Array TypeId) (S : World → Value → Prop) (ho : o.op = .call { callee := .value (.func 22), args := #[.tmp t0, .tmp t1], argTypes := ts }) (h0 : a.tmps[t0]? = some v0) (h1 : a.tmps[t1]? = some v1) (h : Calls Try.prog 22 #[v0, v1] w (fun e w2 => ∃ v, e = .returned v ∧ S w2 v ∧ Below w.heap.size w w2)) (hK : ∀ v w2, S w2 v → Below w.heap.size w w2 → K (a.put o.dst v) w2) : Oper.wp Try.prog o a w K Q := by
  obtain ⟨d, op, ty, ps, af, gd⟩ := o
  cases ho
  unfold Oper.wp
  simp [go_sem, Oper.upon, h0, h1]
  refine h.mono ?_
  rintro e w2 ⟨v, rfl, hk, hb⟩
  exact hK v w2 hk hb
set_option maxRecDepth 100000 in
theorem wg_assign {o : Oper} {a : Act} {w : World} {K : Act → World → Prop} {Q : Exit → Act → World → Prop} (t : Nat) (v : Value) (ho : o.op = .assign (.tmp t)) (h1 : a.tmps[t]? = some v) (h : K (a.put o.dst v) w) : Oper.wp Try.prog o a w K Q := by
  obtain ⟨d, op, ty, ps, af, gd⟩ := o
  cases ho
  unfold Oper.wp
  simp [go_sem, h1, Oper.upon]
  exact h
set_option maxRecDepth 100000 in
theorem wg_assignc {o : Oper} {a : Act} {w : World} {K : Act → World → Prop} {Q : Exit → Act → World → Prop} (v : Value) (ho : o.op = .assign (.const v)) (h : K (a.put o.dst v) w) : Oper.wp Try.prog o a w K Q := by
  obtain ⟨d, op, ty, ps, af, gd⟩ := o
  cases ho
  unfold Oper.wp
  simp [go_sem, Oper.upon]
  exact h

set_option maxRecDepth 100000 in
set_option maxHeartbeats 4000000 in
theorem rFit_calls (cs : List Cn) (ps : List Bs) (hx : ∀ x ∈ cs, x.name.length ≤ 65536) (hp : ∀ p ∈ ps, p.length ≤ 65536) (p0 : Option Addr) (k0 n0 : Nat) (v1 v2 v3 : Value) (p : Option Addr) (m d : Nat) (hmp : m = ps.length) (b0 b1 b2 b3 b4 b5 b6 b7 b8 b9 : Bs) (hn0 : n0 = cs.length) (hm0 : n0 ≤ 65536) (w : World) (h0 : Rd w 10 p0 k0 n0 (cs.flatMap cnv)) (ht : Texts w p d ps) :
    Calls Try.prog 22 #[confV (.slice p0 n0 k0) v1 v2 v3 b0 b1 b2 b3 b4 b5 b6 b7 b8 b9, .slice p m d] w (PlPost w (plc cs fun x => ps.any fun p => fit p x.name)) := by
  obtain ⟨i0, hi, hz0, hz1, hz2⟩ := info_parts info_int
  have HX := Lib.hid (at_new w (.cells #[.slice p0 n0 k0, v1, v2, v3, .string ⟨b0.toArray⟩, .string ⟨b1.toArray⟩, .string ⟨b2.toArray⟩, .string ⟨b3.toArray⟩, .string ⟨b4.toArray⟩, .string ⟨b5.toArray⟩, .string ⟨b6.toArray⟩, .string ⟨b7.toArray⟩, .string ⟨b8.toArray⟩, .string ⟨b9.toArray⟩] 28))
  have HB0 := Lib.hid ((Below.refl w.heap.size w).alloc (Nat.le_refl _) (.cells #[.slice p0 n0 k0, v1, v2, v3, .string ⟨b0.toArray⟩, .string ⟨b1.toArray⟩, .string ⟨b2.toArray⟩, .string ⟨b3.toArray⟩, .string ⟨b4.toArray⟩, .string ⟨b5.toArray⟩, .string ⟨b6.toArray⟩, .string ⟨b7.toArray⟩, .string ⟨b8.toArray⟩, .string ⟨b9.toArray⟩] 28))
  have HR := Lib.hid h0
  have HN := Lib.hid hn0
  have HT := Lib.hid ht
  have HMP := Lib.hid hmp
  have HPS := Lib.hid hp
  have HXS := Lib.hid hx
  have hcap := h0.cap
  have hmax := h0.max
  have hcap2 := ht.cap
  unfold maxLen at hmax hcap2
  have hmd : m ≤ d := by omega
  have hmd2 : m ≤ 9223372036854775807 := by omega
  clear h0 hn0 ht hmp hp hx
  unfold confV at *
  unfold PlPost at *
  go_enter Try.func22, Try.ntmps22
  go_wp2_with fail
  generalize (w.alloc (.cells #[.slice p0 n0 k0, v1, v2, v3, .string ⟨b0.toArray⟩, .string ⟨b1.toArray⟩, .string ⟨b2.toArray⟩, .string ⟨b3.toArray⟩, .string ⟨b4.toArray⟩, .string ⟨b5.toArray⟩, .string ⟨b6.toArray⟩, .string ⟨b7.toArray⟩, .string ⟨b8.toArray⟩, .string ⟨b9.toArray⟩] 28)) = W at *
  go_loopw [5, 6] (fun tv i wr => ∃ k : Nat, k ≤ n0 ∧ i = .int .i64 k ∧ PlAt W wr (plcK cs (fun x => ps.any fun p => fit p x.name) k) tv) (fun _ i _ => n0 - (Conf.intOf i).toNat)
  case atStart => exact ⟨0, by omega, rfl, World.ownsRow_nil _ _ _ _, Below.refl _ _⟩
  case round =>
    obtain ⟨j, hk, rfl, C⟩ := hrel
    rename World => wr
    have HC := Lib.hid C
    have hsz := C.below.size
    have HB := Lib.hid (HB0.out.trans (C.below.mono HB0.out.size))
    have HX2 := Lib.hid ((C.below.block _ (at_lt HX.out)).trans HX.out)
    have e0 := (at_cell HX2.out 0 : _ = some (Value.slice p0 n0 k0))
    obtain ⟨tp, tc, rfl, -⟩ := own_slice C.own
    clear C
    rcases Nat.lt_or_eq_of_le hk with hlt | rfl
    · have hl1 : j < cs.length := by rw [← HN.out]; exact hlt
      have hlen : (plcK cs (fun x => ps.any fun p => fit p x.name) j).length ≤ j := plc_len cs _ j
      have q1 : (j : Int) < (n0 : Int) := by omega
      have HCA := Lib.hid (fun (w' : World) (hb : Below w.heap.size w w') => con_at (HR.out.below hb) hl1)
      have hxl := HXS.out _ (List.getElem_mem hl1)
      have HY := Lib.hid (plc_yes (f := fun x => ps.any fun p => fit p x.name) hl1)
      have HZ := Lib.hid (plc_no (f := fun x => ps.any fun p => fit p x.name) hl1)
      generalize cs[j] = x at *
      generalize plcK cs (fun x => ps.any fun p => fit p x.name) j = L at *
      clear hl1
      go_wp2_with fail
      go_loopw [7, 8] (fun tb tk w2 => ∃ kk : Nat, kk ≤ m ∧ tk = .int .i64 kk ∧ tb = .bool ((ps.take kk).any fun p => fit p x.name) ∧ Below wr.heap.size wr w2) (fun _ tk _ => m - (Conf.intOf tk).toNat)
      case atStart => exact ⟨0, by omega, rfl, rfl, Below.refl _ _⟩
      case round =>
        obtain ⟨kk, hkk, rfl, rfl, hb2⟩ := hrel
        rename World => w2
        have HB2 := Lib.hid (HB.out.trans (hb2.mono HB.out.size))
        have HX3 := Lib.hid ((hb2.block _ (at_lt HX2.out)).trans HX2.out)
        have HW2 := Lib.hid hb2
        have hs2 := hb2.size
        clear hb2
        rcases Nat.lt_or_eq_of_le hkk with hlt2 | rfl
        · have hl2 : kk < ps.length := by rw [← HMP.out]; exact hlt2
          obtain ⟨g2, o2, rfl, hg2, y0⟩ := tx_at (HT.out.below HB2.out) hl2
          have hpl := HPS.out _ (List.getElem_mem hl2)
          have HNX := Lib.hid (any_next (f := fun p => fit p x.name) hl2)
          obtain ⟨g, o, rfl, hg, hkn, hat⟩ := HCA.out _ HB2.out
          have c0 := hat.1
          clear hat HCA
          generalize ps[kk] = y at *
          clear hl2
          have HM := Lib.hid (rfit_calls y x.name hpl hxl)
          have q2 : (kk : Int) < (m : Int) := by omega
          cases hok : (ps.take kk).any fun p => fit p x.name with
          | true =>
            have HOK : Hid (((ps.take (kk + 1)).any fun p => fit p x.name) = true) := Lib.hid (by rw [HNX.out, hok]; rfl)
            clear hok
            go_wp2_with fail
            refine Reg.wp_sat (by kernel_rfl) [some 22, some 23, some 24, some 25, some 26, some 27, some 28, some 29, some 30, some 31, some 32, some 33, some 34, some 35, some 7] [Reg.Kn.bl true, Reg.Kn.bl true, Reg.Kn.any, Reg.Kn.any, Reg.Kn.any, Reg.Kn.any, Reg.Kn.any, Reg.Kn.any, Reg.Kn.any, Reg.Kn.any, Reg.Kn.any, Reg.Kn.any, Reg.Kn.any, Reg.Kn.bl true, Reg.Kn.bl true] [true, true, false, false, false, false, false, false, false, false, false, false, false, true, true] [(22, 0), (23, 1), (24, 2), (25, 3), (26, 4), (27, 5), (28, 6), (29, 7), (30, 8), (31, 9), (32, 10), (33, 11), (34, 12), (35, 13), (7, 14)] (by kernel_rfl) (by kernel_rfl) (by kernel_rfl) (by decide) (by kernel_rfl) ?_ ?_
            · intro ii op a' w' ho hwd hdp hot hb
              have hr := Below.refl w'.heap.size w'
              have N1 := (hb.block _ (at_lt HX3.out)).trans HX3.out
              have B1 := HB2.out.trans (hb.mono HB2.out.size)
              match ii, ho, hwd, hdp, hot with
              | 0, ho, hwd, hdp, hot =>
                obtain rfl := Option.some.inj ho
                have e7 : a'.tmps[7]? = some (.bool true) := (hot 7 ⟨by kernel_rfl⟩).trans rfl
                exact wf_move 7 _ rfl e7 ⟨_, rfl, rfl, hr⟩
              | 1, ho, hwd, hdp, hot =>
                obtain rfl := Option.some.inj ho
                have e22 : a'.tmps[22]? = some (.bool true) := by obtain ⟨_, e, h⟩ := hdp 0 (Reg.mem_of (by kernel_rfl)) _ rfl; exact e.trans (congrArg some h)
                exact wf_move 22 _ rfl e22 ⟨_, rfl, rfl, hr⟩
              | 2, _, hwd, _, _ => exact absurd hwd (by decide)
              | 3, _, hwd, _, _ => exact absurd hwd (by decide)
              | 4, _, hwd, _, _ => exact absurd hwd (by decide)
              | 5, _, hwd, _, _ => exact absurd hwd (by decide)
              | 6, _, hwd, _, _ => exact absurd hwd (by decide)
              | 7, _, hwd, _, _ => exact absurd hwd (by decide)
              | 8, _, hwd, _, _ => exact absurd hwd (by decide)
              | 9, _, hwd, _, _ => exact absurd hwd (by decide)
              | 10, _, hwd, _, _ => exact absurd hwd (by decide)
              | 11, _, hwd, _, _ => exact absurd hwd (by decide)
              | 12, _, hwd, _, _ => exact absurd hwd (by decide)
              | 13, ho, hwd, hdp, hot =>
                obtain rfl := Option.some.inj ho
                have e23 : a'.tmps[23]? = some (.bool true) := by obtain ⟨_, e, h⟩ := hdp 1 (Reg.mem_of (by kernel_rfl)) _ rfl; exact e.trans (congrArg some h)
                exact wf_pickTct 23 34 _ _ rfl e23 rfl ⟨_, rfl, rfl, hr⟩
              | 14, ho, hwd, hdp, hot =>
                obtain rfl := Option.some.inj ho
                have e35 : a'.tmps[35]? = some (.bool true) := by obtain ⟨_, e, h⟩ := hdp 13 (Reg.mem_of (by kernel_rfl)) _ rfl; exact e.trans (congrArg some h)
                exact wf_assign 35 _ rfl e35 ⟨_, rfl, rfl, hr⟩
              | ii + 15, ho, _, _, _ => exact absurd ho (by simp)
            · intro us w' hul hus hb
              obtain ⟨z0, z1, z2, z3, z4, z5, z6, z7, z8, z9, z10, z11, z12, z13, z14, rfl⟩ : ∃ z0 z1 z2 z3 z4 z5 z6 z7 z8 z9 z10 z11 z12 z13 z14, us = [z0, z1, z2, z3, z4, z5, z6, z7, z8, z9, z10, z11, z12, z13, z14] := by
                clear hus
                match us, hul with
                | [z0, z1, z2, z3, z4, z5, z6, z7, z8, z9, z10, z11, z12, z13, z14], _ => exact ⟨z0, z1, z2, z3, z4, z5, z6, z7, z8, z9, z10, z11, z12, z13, z14, rfl⟩
              have h7 : z14 = .bool true := hus 14 (7, 14) _ rfl rfl
              subst h7
              clear hus hul
              simp only [List.map, List.zip, List.zipWith, Reg.puts, Act.put, List.setIfInBounds_toArray, List.set_cons_succ, List.set_cons_zero]
              have H5 := Lib.hid (HW2.out.trans (hb.mono hs2))
              clear hb
              go_wp2_with fail
              go_roundw
              case rel => exact ⟨kk + 1, by omega, by go_num, by rw [HOK.out], H5.out⟩
              case measure => simp [Conf.intOf]; omega
          | false =>
            have HOK : Hid (((ps.take (kk + 1)).any fun p => fit p x.name) = fit y x.name) := Lib.hid (by rw [HNX.out, hok]; rfl)
            clear hok
            go_wp2_with fail
            refine Reg.wp_sat (by kernel_rfl) [some 22, some 23, some 24, some 25, some 26, some 27, some 28, some 29, some 30, some 31, some 32, some 33, some 34, some 35, some 7] [Reg.Kn.bl false, Reg.Kn.bl false, Reg.Kn.val (.slice (some ⟨g2, o2, none⟩) m d), Reg.Kn.val (.int .i64 kk), Reg.Kn.val (.pointer (some ⟨g2, o2 + kk, none⟩)), Reg.Kn.val (.string ⟨y.toArray⟩), Reg.Kn.val (.pointer (some ⟨w.heap.size, 0 + 0, none⟩)), Reg.Kn.val (.slice (some ⟨g, o, none⟩) n0 k0), Reg.Kn.val (.int .i64 j), Reg.Kn.val (.pointer (some ⟨g, o + j * 10, none⟩)), Reg.Kn.val (.pointer (some ⟨g, o + j * 10 + 0, none⟩)), Reg.Kn.val (.string ⟨x.name.toArray⟩), Reg.Kn.bl (fit y x.name), Reg.Kn.bl (fit y x.name), Reg.Kn.bl (fit y x.name)] (List.replicate 15 true) [(22, 0), (23, 1), (24, 2), (25, 3), (26, 4), (27, 5), (28, 6), (29, 7), (30, 8), (31, 9), (32, 10), (33, 11), (34, 12), (35, 13), (7, 14)] (by kernel_rfl) (by kernel_rfl) (by kernel_rfl) (by decide) (by kernel_rfl) ?_ ?_
            · intro ii op a' w' ho hwd hdp hot hb
              have hr := Below.refl w'.heap.size w'
              have N1 := (hb.block _ (at_lt HX3.out)).trans HX3.out
              have B1 := HB2.out.trans (hb.mono HB2.out.size)
              match ii, ho, hwd, hdp, hot with
              | 0, ho, hwd, hdp, hot =>
                obtain rfl := Option.some.inj ho
                have e7 : a'.tmps[7]? = some (.bool false) := (hot 7 ⟨by kernel_rfl⟩).trans rfl
                exact wf_move 7 _ rfl e7 ⟨_, rfl, rfl, hr⟩
              | 1, ho, hwd, hdp, hot =>
                obtain rfl := Option.some.inj ho
                have e22 : a'.tmps[22]? = some (.bool false) := by obtain ⟨_, e, h⟩ := hdp 0 (Reg.mem_of (by kernel_rfl)) _ rfl; exact e.trans (congrArg some h)
                exact wf_move 22 _ rfl e22 ⟨_, rfl, rfl, hr⟩
              | 2, ho, hwd, hdp, hot =>
                obtain rfl := Option.some.inj ho
                have e1 : a'.tmps[1]? = some (.slice (some ⟨g2, o2, none⟩) m d) := (hot 1 ⟨by kernel_rfl⟩).trans rfl
                exact wf_move 1 _ rfl e1 ⟨_, rfl, rfl, hr⟩
              | 3, ho, hwd, hdp, hot =>
                obtain rfl := Option.some.inj ho
                have e8 : a'.tmps[8]? = some (.int .i64 kk) := (hot 8 ⟨by kernel_rfl⟩).trans rfl
                exact wf_move 8 _ rfl e8 ⟨_, rfl, rfl, hr⟩
              | 4, ho, hwd, hdp, hot =>
                obtain rfl := Option.some.inj ho
                have e24 : a'.tmps[24]? = some (.slice (some ⟨g2, o2, none⟩) m d) := by obtain ⟨_, e, h⟩ := hdp 2 (Reg.mem_of (by kernel_rfl)) _ rfl; exact e.trans (congrArg some h)
                have e25 : a'.tmps[25]? = some (.int .i64 kk) := by obtain ⟨_, e, h⟩ := hdp 3 (Reg.mem_of (by kernel_rfl)) _ rfl; exact e.trans (congrArg some h)
                exact wf_ix_slstring 24 25 _ _ _ _ _ rfl e24 e25 hlt2 ⟨_, rfl, rfl, hr⟩
              | 5, ho, hwd, hdp, hot =>
                obtain rfl := Option.some.inj ho
                have e26 : a'.tmps[26]? = some (.pointer (some ⟨g2, o2 + kk, none⟩)) := by obtain ⟨_, e, h⟩ := hdp 4 (Reg.mem_of (by kernel_rfl)) _ rfl; exact e.trans (congrArg some h)
                exact wf_ld_string 26 _ _ rfl e26 ((hb.cell (p := ⟨g2, o2 + kk, none⟩) hg2).trans y0) ⟨_, rfl, rfl, hr⟩
              | 6, ho, hwd, hdp, hot =>
                obtain rfl := Option.some.inj ho
                have e2 : a'.tmps[2]? = some (.pointer (some ⟨w.heap.size, 0, none⟩)) := (hot 2 ⟨by kernel_rfl⟩).trans rfl
                exact wf_fa_apiConf_0 2 _ _ rfl e2 ⟨_, rfl, rfl, hr⟩
              | 7, ho, hwd, hdp, hot =>
                obtain rfl := Option.some.inj ho
                have e28 : a'.tmps[28]? = some (.pointer (some ⟨w.heap.size, 0 + 0, none⟩)) := by obtain ⟨_, e, h⟩ := hdp 6 (Reg.mem_of (by kernel_rfl)) _ rfl; exact e.trans (congrArg some h)
                exact wf_ld_slapiConsole 28 _ _ rfl e28 (at_cell N1 0) ⟨_, rfl, rfl, hr⟩
              | 8, ho, hwd, hdp, hot =>
                obtain rfl := Option.some.inj ho
                have e6 : a'.tmps[6]? = some (.int .i64 j) := (hot 6 ⟨by kernel_rfl⟩).trans rfl
                exact wf_move 6 _ rfl e6 ⟨_, rfl, rfl, hr⟩
              | 9, ho, hwd, hdp, hot =>
                obtain rfl := Option.some.inj ho
                have e29 : a'.tmps[29]? = some (.slice (some ⟨g, o, none⟩) n0 k0) := by obtain ⟨_, e, h⟩ := hdp 7 (Reg.mem_of (by kernel_rfl)) _ rfl; exact e.trans (congrArg some h)
                have e30 : a'.tmps[30]? = some (.int .i64 j) := by obtain ⟨_, e, h⟩ := hdp 8 (Reg.mem_of (by kernel_rfl)) _ rfl; exact e.trans (congrArg some h)
                exact wf_ix_slapiConsole 29 30 _ _ _ _ _ rfl e29 e30 hlt ⟨_, rfl, rfl, hr⟩
              | 10, ho, hwd, hdp, hot =>
                obtain rfl := Option.some.inj ho
                have e31 : a'.tmps[31]? = some (.pointer (some ⟨g, o + j * 10, none⟩)) := by obtain ⟨_, e, h⟩ := hdp 9 (Reg.mem_of (by kernel_rfl)) _ rfl; exact e.trans (congrArg some h)
                exact wf_fa_apiConsole_0 31 _ _ rfl e31 ⟨_, rfl, rfl, hr⟩
              | 11, ho, hwd, hdp, hot =>
                obtain rfl := Option.some.inj ho
                have e32 : a'.tmps[32]? = some (.pointer (some ⟨g, o + j * 10 + 0, none⟩)) := by obtain ⟨_, e, h⟩ := hdp 10 (Reg.mem_of (by kernel_rfl)) _ rfl; exact e.trans (congrArg some h)
                exact wf_ld_string 32 _ _ rfl e32 ((hb.cell (p := ⟨g, o + j * 10, none⟩) hg).trans c0) ⟨_, rfl, rfl, hr⟩
              | 12, ho, hwd, hdp, hot =>
                obtain rfl := Option.some.inj ho
                have e27 : a'.tmps[27]? = some (.string ⟨y.toArray⟩) := by obtain ⟨_, e, h⟩ := hdp 5 (Reg.mem_of (by kernel_rfl)) _ rfl; exact e.trans (congrArg some h)
                have e33 : a'.tmps[33]? = some (.string ⟨x.name.toArray⟩) := by obtain ⟨_, e, h⟩ := hdp 11 (Reg.mem_of (by kernel_rfl)) _ rfl; exact e.trans (congrArg some h)
                exact wf_call2_wheelhouseref10Match 27 33 _ _ _ _ rfl e27 e33 ((HM.out _).mono (by rintro e w2 ⟨rfl, hb2⟩; exact ⟨_, rfl, rfl, hb2⟩)) fun v w2 hk hb2 => ⟨_, rfl, hk, hb2⟩
              | 13, ho, hwd, hdp, hot =>
                obtain rfl := Option.some.inj ho
                have e23 : a'.tmps[23]? = some (.bool false) := by obtain ⟨_, e, h⟩ := hdp 1 (Reg.mem_of (by kernel_rfl)) _ rfl; exact e.trans (congrArg some h)
                have e34 : a'.tmps[34]? = some (.bool (fit y x.name)) := by obtain ⟨_, e, h⟩ := hdp 12 (Reg.mem_of (by kernel_rfl)) _ rfl; exact e.trans (congrArg some h)
                exact wf_pickFct 23 34 _ _ rfl e23 e34 ⟨_, rfl, rfl, hr⟩
              | 14, ho, hwd, hdp, hot =>
                obtain rfl := Option.some.inj ho
                have e35 : a'.tmps[35]? = some (.bool (fit y x.name)) := by obtain ⟨_, e, h⟩ := hdp 13 (Reg.mem_of (by kernel_rfl)) _ rfl; exact e.trans (congrArg some h)
                exact wf_assign 35 _ rfl e35 ⟨_, rfl, rfl, hr⟩
              | ii + 15, ho, _, _, _ => exact absurd ho (by simp)
            · intro us w' hul hus hb
              obtain ⟨z0, z1, z2, z3, z4, z5, z6, z7, z8, z9, z10, z11, z12, z13, z14, rfl⟩ : ∃ z0 z1 z2 z3 z4 z5 z6 z7 z8 z9 z10 z11 z12 z13 z14, us = [z0, z1, z2, z3, z4, z5, z6, z7, z8, z9, z10, z11, z12, z13, z14] := by
                clear hus
                match us, hul with
                | [z0, z1, z2, z3, z4, z5, z6, z7, z8, z9, z10, z11, z12, z13, z14], _ => exact ⟨z0, z1, z2, z3, z4, z5, z6, z7, z8, z9, z10, z11, z12, z13, z14, rfl⟩
              have h7 : z14 = .bool (fit y x.name) := hus 14 (7, 14) _ rfl rfl
              subst h7
              clear hus hul
              simp only [List.map, List.zip, List.zipWith, Reg.puts, Act.put, List.setIfInBounds_toArray, List.set_cons_succ, List.set_cons_zero]
              have H5 := Lib.hid (HW2.out.trans (hb.mono hs2))
              clear hb
              go_wp2_with fail
              go_roundw
              case rel => exact ⟨kk + 1, by omega, by go_num, by rw [HOK.out], H5.out⟩
              case measure => simp [Conf.intOf]; omega
        · have HAL : Hid (((ps.take kk).any fun p => fit p x.name) = ps.any fun p => fit p x.name) := Lib.hid (by rw [List.take_of_length_le (by have := HMP.out; omega)])
          have H5 := Lib.hid (HC.out.keep HW2.out)
          have h5 := H5.out.below.size
          cases hok : (ps.take kk).any fun p => fit p x.name with
          | true =>
            have HE := Lib.hid (HY.out (by rw [← HAL.out]; exact hok))
            clear HY HZ HAL hok
            go_wp2_with (at_builtin; go_loud (refine Own.append_any rfl (.tmp 37) (.tmp 39) 34 rfl W.heap.size 3 i0 _ 1 8 Try.underlying34 hi hz0 hz1 hz2 rfl (by decide) _ _ _ rfl (World.ownsRow.alloc H5.out.own _) _ 1 1 [.int .i64 j] rfl (fun h => nomatch h) rfl (Rw.one_new _ _ _ _ rfl) (by simp [Value.oneCell']) (by unfold maxLen; omega) (by omega) (by simp; omega) ?_; intro v' w1 hown hgr; have C1 := Lib.hid (H5.out.step (k := j) (Below.refl _ _) ((Below.refl _ _).alloc (Nat.le_refl _) _) hown hgr)))
            go_roundw
            case rel => exact ⟨j + 1, by omega, by go_num, by rw [HE.out]; exact C1.out⟩
            case measure => simp [Conf.intOf]; omega
          | false =>
            have HE := Lib.hid (HZ.out (by rw [← HAL.out]; exact hok))
            clear HY HZ HAL hok
            go_wp2_with fail
            go_roundw
            case rel => exact ⟨j + 1, by omega, by go_num, by rw [HE.out]; exact H5.out⟩
            case measure => simp [Conf.intOf]; omega
    · have HE : Hid (plcK cs (fun x => ps.any fun p => fit p x.name) j = plc cs (fun x => ps.any fun p => fit p x.name)) := Lib.hid (by unfold plc; rw [HN.out])
      go_wp2_with fail
      go_ret
      exact ⟨_, rfl, by rw [← HE.out]; exact own_base HC.out.own HB0.out.size, HB.out⟩

set_option maxRecDepth 100000 in
set_option maxHeartbeats 4000000 in
theorem rGroup_calls (c : Cf) (u : Bs) (hx : ∀ x ∈ c.cons, x.name.length ≤ 65536) (hps : ∀ g ∈ c.grps, ∀ p ∈ g.2, p.length ≤ 65536) (p0 p : Option Addr) (k0 n0 k n : Nat) (v2 v3 : Value) (b0 b1 b2 b3 b4 b5 b6 b7 b8 b9 : Bs) (hn0 : n0 = c.cons.length) (hm0 : n0 ≤ 65536) (hn : n = c.grps.length) (w : World) (h0 : Rd w 10 p0 k0 n0 (c.cons.flatMap cnv)) {gs : List Value} (h : Rd w 2 p k n gs) (hg : Gs w.heap.size w gs c.grps) :
    Calls Try.prog 18 #[confV (.slice p0 n0 k0) (.slice p n k) v2 v3 b0 b1 b2 b3 b4 b5 b6 b7 b8 b9, .string ⟨u.toArray⟩] w (GrPost w (grpM c u)) := by
  have HX := Lib.hid (at_new w (.cells #[.slice p0 n0 k0, .slice p n k, v2, v3, .string ⟨b0.toArray⟩, .string ⟨b1.toArray⟩, .string ⟨b2.toArray⟩, .string ⟨b3.toArray⟩, .string ⟨b4.toArray⟩, .string ⟨b5.toArray⟩, .string ⟨b6.toArray⟩, .string ⟨b7.toArray⟩, .string ⟨b8.toArray⟩, .string ⟨b9.toArray⟩] 28))
  have HB0 := Lib.hid ((Below.refl w.heap.size w).alloc (Nat.le_refl _) (.cells #[.slice p0 n0 k0, .slice p n k, v2, v3, .string ⟨b0.toArray⟩, .string ⟨b1.toArray⟩, .string ⟨b2.toArray⟩, .string ⟨b3.toArray⟩, .string ⟨b4.toArray⟩, .string ⟨b5.toArray⟩, .string ⟨b6.toArray⟩, .string ⟨b7.toArray⟩, .string ⟨b8.toArray⟩, .string ⟨b9.toArray⟩] 28))
  have HFF := Lib.hid (fun (ps : List Bs) (hp : ∀ p ∈ ps, p.length ≤ 65536) (q : Option Addr) (d : Nat) (W : World) (hW : Below w.heap.size w W) (ht : Texts W q d ps) => rFit_calls c.cons ps hx hp p0 k0 n0 (.slice p n k) v2 v3 q ps.length d rfl b0 b1 b2 b3 b4 b5 b6 b7 b8 b9 hn0 hm0 W (h0.below hW) ht)
  have HR := Lib.hid h
  have HG := Lib.hid hg
  have HN := Lib.hid hn
  have HPS := Lib.hid hps
  have hcap := h.cap
  have hmax := h.max
  unfold maxLen at hmax
  clear h0 hn0 h hn hg hps
  unfold confV at *
  unfold GrPost
  go_enter Try.func18, Try.ntmps18
  go_wp2_with fail
  generalize (w.alloc (.cells #[.slice p0 n0 k0, .slice p n k, v2, v3, .string ⟨b0.toArray⟩, .string ⟨b1.toArray⟩, .string ⟨b2.toArray⟩, .string ⟨b3.toArray⟩, .string ⟨b4.toArray⟩, .string ⟨b5.toArray⟩, .string ⟨b6.toArray⟩, .string ⟨b7.toArray⟩, .string ⟨b8.toArray⟩, .string ⟨b9.toArray⟩] 28)) = W at *
  have e0 := (at_cell HX.out 1 : _ = some (Value.slice p n k))
  go_loop [6] (fun i => ∃ kk : Nat, kk ≤ n ∧ i = .int .i64 kk ∧ (c.grps.take kk).find? (grpF u) = none) (fun i => n - (Conf.intOf i).toNat)
  case atStart => exact ⟨0, by omega, rfl, rfl⟩
  case round =>
    obtain ⟨kk, hk, rfl, hno⟩ := hrel
    have HNO := Lib.hid hno
    clear hno
    rcases Nat.lt_or_eq_of_le hk with hlt | rfl
    · have hl1 : kk < c.grps.length := by rw [← HN.out]; exact hlt
      obtain ⟨g, o, q, d, rfl, hg, hkn, c0, c1, ht⟩ := grp_at (HR.out.below HB0.out) ((HG.out.keep HB0.out).up HB0.out.size) hl1
      have q1 : (kk : Int) < (n : Int) := by omega
      have hpl := HPS.out _ (List.getElem_mem hl1)
      have HY := Lib.hid fun (h : grpF u c.grps[kk] = true) => (show c.grps.find? (grpF u) = some c.grps[kk] by
        conv => lhs; rw [← List.take_append_drop kk c.grps]
        rw [List.find?_append, HNO.out, List.drop_eq_getElem_cons hl1, List.find?_cons_of_pos h]
        rfl)
      have HZ := Lib.hid fun (h : grpF u c.grps[kk] = false) => (show (c.grps.take (kk + 1)).find? (grpF u) = none by
        rw [List.take_succ_eq_append_getElem hl1, List.find?_append, HNO.out]
        simp [h])
      clear HNO
      generalize c.grps[kk] = x at *
      cases hf : grpF u x with
      | false =>
        have HF := Lib.hid (HZ.out hf)
        have hb1 : (x.1 == u) = false := hf
        clear HY HZ hf hl1
        go_wp2_with fail
        go_round
        case rel => exact ⟨kk + 1, by omega, by go_num, HF.out⟩
        case measure => simp [Conf.intOf]; omega
      | true =>
        have HE := Lib.hid (grp_some (HY.out hf))
        have hb1 : (x.1 == u) = true := hf
        have HF := Lib.hid (HFF.out x.2 hpl q d)
        clear HY HZ hf hl1 HFF
        unfold PlPost at HF
        go_wp2_with fail
        refine Reg.wp_sat (by kernel_rfl) [some 22, some 23, some 24, some 25, some 26, some 27, some 28, some 29, some 4, some 5] [Reg.Kn.val (.agg #[.slice p0 n0 k0, .slice (some ⟨g, o, none⟩) n k, v2, v3, .string ⟨b0.toArray⟩, .string ⟨b1.toArray⟩, .string ⟨b2.toArray⟩, .string ⟨b3.toArray⟩, .string ⟨b4.toArray⟩, .string ⟨b5.toArray⟩, .string ⟨b6.toArray⟩, .string ⟨b7.toArray⟩, .string ⟨b8.toArray⟩, .string ⟨b9.toArray⟩]), Reg.Kn.val (.pointer (some ⟨w.heap.size, 0 + 1, none⟩)), Reg.Kn.val (.slice (some ⟨g, o, none⟩) n k), Reg.Kn.val (.int .i64 kk), Reg.Kn.val (.pointer (some ⟨g, o + kk * 2, none⟩)), Reg.Kn.val (.pointer (some ⟨g, o + kk * 2 + 1, none⟩)), Reg.Kn.val (.slice q x.2.length d), plK w.heap.size (plc c.cons fun y => x.2.any fun p => fit p y.name), plK w.heap.size (plc c.cons fun y => x.2.any fun p => fit p y.name), Reg.Kn.val (.int .i64 0)] (List.replicate 10 true) [(22, 0), (23, 1), (24, 2), (25, 3), (26, 4), (27, 5), (28, 6), (29, 7), (4, 8), (5, 9)] (by kernel_rfl) (by kernel_rfl) (by kernel_rfl) (by decide) (by kernel_rfl) ?_ ?_
        · intro ii op a' w' ho hwd hdp hot hb
          have hr := Below.refl w'.heap.size w'
          have N1 := (hb.block _ (at_lt HX.out)).trans HX.out
          have B1 := HB0.out.trans (hb.mono HB0.out.size)
          match ii, ho, hwd, hdp, hot with
          | 0, ho, hwd, hdp, hot =>
            obtain rfl := Option.some.inj ho
            have e2 : a'.tmps[2]? = some (.pointer (some ⟨w.heap.size, 0, none⟩)) := (hot 2 ⟨by kernel_rfl⟩).trans rfl
            exact wg_ldConf 2 _ _ _ _ _ _ _ _ _ _ _ _ _ _ _ rfl e2 N1 ⟨_, rfl, rfl, hr⟩
          | 1, ho, hwd, hdp, hot =>
            obtain rfl := Option.some.inj ho
            have e2 : a'.tmps[2]? = some (.pointer (some ⟨w.heap.size, 0, none⟩)) := (hot 2 ⟨by kernel_rfl⟩).trans rfl
            exact wg_fa_apiConf_1 2 _ _ rfl e2 ⟨_, rfl, rfl, hr⟩
          | 2, ho, hwd, hdp, hot =>
            obtain rfl := Option.some.inj ho
            have e23 : a'.tmps[23]? = some (.pointer (some ⟨w.heap.size, 0 + 1, none⟩)) := by obtain ⟨_, e, h⟩ := hdp 1 (Reg.mem_of (by kernel_rfl)) _ rfl; exact e.trans (congrArg some h)
            exact wg_ld_slapiGroup 23 _ _ rfl e23 (at_cell N1 1) ⟨_, rfl, rfl, hr⟩
          | 3, ho, hwd, hdp, hot =>
            obtain rfl := Option.some.inj ho
            have e6 : a'.tmps[6]? = some (.int .i64 kk) := (hot 6 ⟨by kernel_rfl⟩).trans rfl
            exact wg_move 6 _ rfl e6 ⟨_, rfl, rfl, hr⟩
          | 4, ho, hwd, hdp, hot =>
            obtain rfl := Option.some.inj ho
            have e24 : a'.tmps[24]? = some (.slice (some ⟨g, o, none⟩) n k) := by obtain ⟨_, e, h⟩ := hdp 2 (Reg.mem_of (by kernel_rfl)) _ rfl; exact e.trans (congrArg some h)
            have e25 : a'.tmps[25]? = some (.int .i64 kk) := by obtain ⟨_, e, h⟩ := hdp 3 (Reg.mem_of (by kernel_rfl)) _ rfl; exact e.trans (congrArg some h)
            exact wg_ix_slapiGroup 24 25 _ _ _ _ _ rfl e24 e25 hlt ⟨_, rfl, rfl, hr⟩
          | 5, ho, hwd, hdp, hot =>
            obtain rfl := Option.some.inj ho
            have e26 : a'.tmps[26]? = some (.pointer (some ⟨g, o + kk * 2, none⟩)) := by obtain ⟨_, e, h⟩ := hdp 4 (Reg.mem_of (by kernel_rfl)) _ rfl; exact e.trans (congrArg some h)
            exact wg_fa_apiGroup_1 26 _ _ rfl e26 ⟨_, rfl, rfl, hr⟩
          | 6, ho, hwd, hdp, hot =>
            obtain rfl := Option.some.inj ho
            have e27 : a'.tmps[27]? = some (.pointer (some ⟨g, o + kk * 2 + 1, none⟩)) := by obtain ⟨_, e, h⟩ := hdp 5 (Reg.mem_of (by kernel_rfl)) _ rfl; exact e.trans (congrArg some h)
            exact wg_ld_slstring 27 _ _ rfl e27 ((hb.cell (p := ⟨g, o + kk * 2 + 1, none⟩) hg).trans c1) ⟨_, rfl, rfl, hr⟩
          | 7, ho, hwd, hdp, hot =>
            obtain rfl := Option.some.inj ho
            have e22 : a'.tmps[22]? = some (.agg #[.slice p0 n0 k0, .slice (some ⟨g, o, none⟩) n k, v2, v3, .string ⟨b0.toArray⟩, .string ⟨b1.toArray⟩, .string ⟨b2.toArray⟩, .string ⟨b3.toArray⟩, .string ⟨b4.toArray⟩, .string ⟨b5.toArray⟩, .string ⟨b6.toArray⟩, .string ⟨b7.toArray⟩, .string ⟨b8.toArray⟩, .string ⟨b9.toArray⟩]) := by obtain ⟨_, e, h⟩ := hdp 0 (Reg.mem_of (by kernel_rfl)) _ rfl; exact e.trans (congrArg some h)
            have e28 : a'.tmps[28]? = some (.slice q x.2.length d) := by obtain ⟨_, e, h⟩ := hdp 6 (Reg.mem_of (by kernel_rfl)) _ rfl; exact e.trans (congrArg some h)
            exact wg_call2_wheelhouseref16Fit 22 28 _ _ _ _ rfl e22 e28 ((HF.out _ B1 (ht.below hb)).mono (by rintro e w2 ⟨v, rfl, ho, hb2⟩; exact ⟨_, rfl, own_base ho B1.size, hb2⟩)) fun v w2 hk hb2 => ⟨_, rfl, hk, hb2⟩
          | 8, ho, hwd, hdp, hot =>
            obtain rfl := Option.some.inj ho
            obtain ⟨v29, e29, s29⟩ := hdp 7 (Reg.mem_of (by kernel_rfl)) _ rfl
            exact wg_assign 29 _ rfl e29 ⟨_, rfl, s29, hr⟩
          | 9, ho, hwd, hdp, hot =>
            obtain rfl := Option.some.inj ho
            exact wg_assignc _ rfl ⟨_, rfl, rfl, hr⟩
          | ii + 10, ho, _, _, _ => exact absurd ho (by simp)
        · intro us w' hul hus hb
          obtain ⟨z0, z1, z2, z3, z4, z5, z6, z7, z8, z9, rfl⟩ : ∃ z0 z1 z2 z3 z4 z5 z6 z7 z8 z9, us = [z0, z1, z2, z3, z4, z5, z6, z7, z8, z9] := by
            clear hus
            match us, hul with
            | [z0, z1, z2, z3, z4, z5, z6, z7, z8, z9], _ => exact ⟨z0, z1, z2, z3, z4, z5, z6, z7, z8, z9, rfl⟩
          have h4 : (plK w.heap.size (plc c.cons fun y => x.2.any fun p => fit p y.name)).sat w' z8 := hus 8 (4, 8) _ rfl rfl
          have h5 : z9 = .int .i64 0 := hus 9 (5, 9) _ rfl rfl
          subst h5
          clear hus hul
          simp only [List.map, List.zip, List.zipWith, Reg.puts, Act.put, List.setIfInBounds_toArray, List.set_cons_succ, List.set_cons_zero]
          have HB5 := Lib.hid (HB0.out.trans (hb.mono HB0.out.size))
          clear hb
          go_wp2_with fail
          go_ret2
          exact ⟨_, by rw [HE.out]; rfl, by rw [HE.out]; exact h4, HB5.out⟩
    · have HE := Lib.hid (grp_none (by have := HNO.out; rwa [List.take_of_length_le (by have := HN.out; omega)] at this))
      go_wp2_with fail
      go_ret2
      exact ⟨_, by rw [HE.out]; rfl, by rw [HE.out]; exact World.ownsRow_nil _ _ _ _, HB0.out⟩
end Go.Proofs.Ytomnkmcabkoagaa.Rgt

/-
  Layer 16 (rights): the document's own Same, Sees.
-/
import Derived.Test.YtomnkmcabkoagaaRgtRef1
import Derived.Deep.RegionHeld3
namespace Go.Proofs.Ytomnkmcabkoagaa.Rgt
open Go.RowKit Go.Proofs.Ytomnkmcabkoagaa.Own Go.Proofs.Ytomnkmcabkoagaa.Rw Go.Proofs.Ytomnkmcabkoagaa.Tree Go.Proofs.Ytomnkmcabkoagaa.Conf

theorem nsv_len (l : List Nat) : (nsv l).length = l.length := by simp [nsv]
theorem int_at {w : World} {p : Option Addr} {c n : Nat} {L : List Nat} (h : Rd w 1 p c n (nsv L)) {i : Nat} (hi : i < L.length) : ∃ b o, p = some ⟨b, o, none⟩ ∧ b < w.heap.size ∧ i < n ∧ w.cell? ⟨b, o + i, none⟩ = some (.int .i64 L[i]) := by
  have hl := h.len
  rw [nsv_len] at hl
  rcases h.cells with h0 | ⟨b, o, e, hb, k⟩
  · omega
  · exact ⟨b, o, e, hb, by omega, k i _ (by unfold nsv; rw [List.getElem?_map, List.getElem?_eq_getElem hi]; rfl)⟩
set_option maxRecDepth 100000 in
set_option maxHeartbeats 4000000 in
theorem same_calls (L : List Nat) (p q : Option Addr) (c d n : Nat) (w : World) (h1 : Rd w 1 p c n (nsv L)) (h2 : Rd w 1 q d n (nsv L)) :
    Calls Try.prog 11 #[.slice p n c, .slice q n d] w fun e w' => e = .returned (.bool true) ∧ Below w.heap.size w w' := by
  have H1 := Lib.hid h1
  have H2 := Lib.hid h2
  have hl : L.length = n := by have := h1.len; rw [nsv_len] at this; omega
  have c1 := h1.cap
  have c2 := h2.cap
  have m1 := h1.max
  unfold maxLen at m1
  clear h1 h2
  go_enter Try.func11, Try.ntmps11
  go_wp2_with fail
  go_loopw [5] (fun i wr => ∃ k : Nat, k ≤ n ∧ i = .int .i64 k ∧ Below w.heap.size w wr) (fun i _ => n - (Conf.intOf i).toNat)
  case atStart => exact ⟨0, by omega, rfl, Below.refl _ _⟩
  case round =>
    obtain ⟨k, hk, rfl, hb⟩ := hrel
    rename World => wr
    rcases Nat.lt_or_eq_of_le hk with hlt | rfl
    · have hl1 : k < L.length := by omega
      obtain ⟨g, o, rfl, hg, -, y1⟩ := int_at (H1.out.below hb) hl1
      obtain ⟨g2, o2, rfl, hg2, -, y2⟩ := int_at (H2.out.below hb) hl1
      have q1 : (k : Int) < (n : Int) := by omega
      generalize L[k] = x at *
      have HB := Lib.hid hb
      clear hb hl hl1
      go_wp2_with fail
      go_quiet (fail)
      go_wp2_with fail
      go_roundw
      case rel => exact ⟨k + 1, by omega, by go_num, below_drew HB.out⟩
      case measure => simp [Conf.intOf]; omega
    · go_wp2_with fail
      go_ret
      exact ⟨rfl, hb⟩
set_option maxRecDepth 100000 in
set_option maxHeartbeats 4000000 in
theorem ws_ldConf {o : Oper} {a : Act} {w : World} {K : Act → World → Prop} {Q : Exit → Act → World → Prop} (t b : Nat) (x0 x1 x2 x3 x4 x5 x6 x7 x8 x9 x10 x11 x12 x13 : Value) (ho : o.op = .load 28 (.tmp t)) (h1 : a.tmps[t]? = some (.pointer (some ⟨b, 0, none⟩))) (N : w.heap[b]? = some (.cells #[x0, x1, x2, x3, x4, x5, x6, x7, x8, x9, x10, x11, x12, x13] 28 (0, 0))) (h : K (a.put o.dst (.agg #[x0, x1, x2, x3, x4, x5, x6, x7, x8, x9, x10, x11, x12, x13])) w) : Oper.wp Try.prog o a w K Q := by
  have c0 : w.cell? ⟨b, 0, none⟩ = some x0 := at_cell N 0
  have c1 : w.cell? ⟨b, 1, none⟩ = some x1 := at_cell N 1
  have c2 : w.cell? ⟨b, 2, none⟩ = some x2 := at_cell N 2
  have c3 : w.cell? ⟨b, 3, none⟩ = some x3 := at_cell N 3
  have c4 : w.cell? ⟨b, 4, none⟩ = some x4 := at_cell N 4
  have c5 : w.cell? ⟨b, 5, none⟩ = some x5 := at_cell N 5
  have c6 : w.cell? ⟨b, 6, none⟩ = some x6 := at_cell N 6
  have c7 : w.cell? ⟨b, 7, none⟩ = some x7 := at_cell N 7
  have c8 : w.cell? ⟨b, 8, none⟩ = some x8 := at_cell N 8
  have c9 : w.cell? ⟨b, 9, none⟩ = some x9 := at_cell N 9
  have c10 : w.cell? ⟨b, 10, none⟩ = some x10 := at_cell N 10
  have c11 : w.cell? ⟨b, 11, none⟩ = some x11 := at_cell N 11
  have c12 : w.cell? ⟨b, 12, none⟩ = some x12 := at_cell N 12
  have c13 : w.cell? ⟨b, 13, none⟩ = some x13 := at_cell N 13
  clear N
  obtain ⟨d, op, ty, ps, af, gd⟩ := o
  cases ho
  unfold Oper.wp
  simp [go_sem, h1, Oper.upon, c0, c1, c2, c3, c4, c5, c6, c7, c8, c9, c10, c11, c12, c13]
  exact h
set_option maxRecDepth 100000 in
theorem ws_move {o : Oper} {a : Act} {w : World} {K : Act → World → Prop} {Q : Exit → Act → World → Prop} (t : Nat) (v : Value) (ho : o.op = .move (.tmp t)) (h1 : a.tmps[t]? = some v) (h : K (a.put o.dst v) w) : Oper.wp Try.prog o a w K Q := by
  obtain ⟨d, op, ty, ps, af, gd⟩ := o
  cases ho
  unfold Oper.wp
  simp [go_sem, h1, Oper.upon]
  exact h
set_option maxRecDepth 100000 in
theorem ws_fa_apiConf_0 {o : Oper} {a : Act} {w : World} {K : Act → World → Prop} {Q : Exit → Act → World → Prop} (t b of : Nat) (ho : o.op = .fieldAddr 28 (.tmp t) 0) (h1 : a.tmps[t]? = some (.pointer (some ⟨b, of, none⟩))) (h : K (a.put o.dst (.pointer (some ⟨b, of + 0, none⟩))) w) : Oper.wp Try.prog o a w K Q := by
  obtain ⟨d, op, ty, ps, af, gd⟩ := o
  cases ho
  unfold Oper.wp
  simp [go_sem, h1, Oper.upon]
  exact h
set_option maxRecDepth 100000 in
theorem ws_ld_slapiConsole {o : Oper} {a : Act} {w : World} {K : Act → World → Prop} {Q : Exit → Act → World → Prop} (t : Nat) (ad : Addr) (v : Value) (ho : o.op = .load 22 (.tmp t)) (h1 : a.tmps[t]? = some (.pointer (some ad))) (hc : w.cell? ad = some v) (h : K (a.put o.dst v) w) : Oper.wp Try.prog o a w K Q := by
  obtain ⟨d, op, ty, ps, af, gd⟩ := o
  cases ho
  unfold Oper.wp
  simp [go_sem, h1, hc, Oper.upon]
  exact h
set_option maxRecDepth 100000 in
theorem ws_ix_slapiConsole {o : Oper} {a : Act} {w : World} {K : Act → World → Prop} {Q : Exit → Act → World → Prop} (t u g of n c i : Nat) (ho : o.op = .indexAddr 22 (.tmp t) (.tmp u)) (h1 : a.tmps[t]? = some (.slice (some ⟨g, of, none⟩) n c)) (h2 : a.tmps[u]? = some (.int .i64 i)) (hi : i < n) (h : K (a.put o.dst (.pointer (some ⟨g, of + i * 10, none⟩))) w) : Oper.wp Try.prog o a w K Q := by
  obtain ⟨d, op, ty, ps, af, gd⟩ := o
  cases ho
  unfold Oper.wp
  have hi2 : (i : Int) < (n : Int) := by omega
  simp [go_sem, h1, h2, hi2, Oper.upon]
  exact h
set_option maxRecDepth 100000 in
theorem ws_fa_apiConsole_0 {o : Oper} {a : Act} {w : World} {K : Act → World → Prop} {Q : Exit → Act → World → Prop} (t b of : Nat) (ho : o.op = .fieldAddr 47 (.tmp t) 0) (h1 : a.tmps[t]? = some (.pointer (some ⟨b, of, none⟩))) (h : K (a.put o.dst (.pointer (some ⟨b, of + 0, none⟩))) w) : Oper.wp Try.prog o a w K Q := by
  obtain ⟨d, op, ty, ps, af, gd⟩ := o
  cases ho
  unfold Oper.wp
  simp [go_sem, h1, Oper.upon]
  exact h
set_option maxRecDepth 100000 in
theorem ws_ld_string {o : Oper} {a : Act} {w : World} {K : Act → World → Prop} {Q : Exit → Act → World → Prop} (t : Nat) (ad : Addr) (v : Value) (ho : o.op = .load 9 (.tmp t)) (h1 : a.tmps[t]? = some (.pointer (some ad))) (hc : w.cell? ad = some v) (h : K (a.put o.dst v) w) : Oper.wp Try.prog o a w K Q := by
  obtain ⟨d, op, ty, ps, af, gd⟩ := o
  cases ho
  unfold Oper.wp
  simp [go_sem, h1, hc, Oper.upon]
  exact h
set_option maxRecDepth 100000 in
theorem ws_call3_wheelhouseref16Level {o : Oper} {a : Act} {w : World} {K : Act → World → Prop} {Q : Exit → Act → World → Prop} (t0 : Nat) (t1 : Nat) (t2 : Nat) (v0 : Value) (v1 : Value) (v2 : Value) (ts : Array TypeId) (S : World → Value → Prop) (ho : o.op = .call { callee := .value (.func 8), args := #[.tmp t0, .tmp t1, .tmp t2], argTypes := ts }) (h0 : a.tmps[t0]? = some v0) (h1 : a.tmps[t1]? = some v1) (h2 : a.tmps[t2]? = some v2) (h : Calls Try.prog 8 #[v0, v1, v2] w (fun e w2 => ∃ v, e = .returned v ∧ S w2 v ∧ Below w.heap.size w w2)) (hK : ∀ v w2, S w2 v → Below w.heap.size w w2 → K (a.put o.dst v) w2) : Oper.wp Try.prog o a w K Q := by
  obtain ⟨d, op, ty, ps, af, gd⟩ := o
  cases ho
  unfold Oper.wp
  simp [go_sem, Oper.upon, h0, h1, h2]
  refine h.mono ?_
  rintro e w2 ⟨v, rfl, hk, hb⟩
  exact hK v w2 hk hb
set_option maxRecDepth 100000 in
theorem ws_geq_intc {o : Oper} {a : Act} {w : World} {K : Act → World → Prop} {Q : Exit → Act → World → Prop} (t : Nat) (x y : Int) (q : Bool) (ho : o.op = .binOp .geq 3 (.tmp t) (.const (.int .i64 y)) 3) (h1 : a.tmps[t]? = some (.int .i64 x)) (hq : (decide (y ≤ x)) = q) (h : K (a.put o.dst (.bool q)) w) : Oper.wp Try.prog o a w K Q := by
  obtain ⟨d, op, ty, ps, af, gd⟩ := o
  cases ho
  unfold Oper.wp
  subst hq
  simp [go_sem, h1, Oper.upon]
  exact h

set_option maxRecDepth 100000 in
set_option maxHeartbeats 4000000 in
theorem rSees_calls (cs : List Cn) (l : List Ac) (hl : Sml l) (u : Bs) (hu : u.length ≤ 65536) (hx : ∀ x ∈ cs, x.name.length ≤ 65536) (p0 p : Option Addr) (k0 n0 k n : Nat) (v1 v2 : Value) (b0 b1 b2 b3 b4 b5 b6 b7 b8 b9 : Bs) (hn0 : n0 = cs.length) (hm0 : n0 ≤ 65536) (hn : n = l.length) (w : World) (h0 : Rd w 10 p0 k0 n0 (cs.flatMap cnv)) (h : Rd w 3 p k n (l.flatMap acv)) :
    Calls Try.prog 13 #[confV (.slice p0 n0 k0) v1 v2 (.slice p n k) b0 b1 b2 b3 b4 b5 b6 b7 b8 b9, .string ⟨u.toArray⟩] w (PlPost w (plc cs (sees l u))) := by
  obtain ⟨i0, hi, hz0, hz1, hz2⟩ := info_parts info_int
  have HX := Lib.hid (at_new w (.cells #[.slice p0 n0 k0, v1, v2, .slice p n k, .string ⟨b0.toArray⟩, .string ⟨b1.toArray⟩, .string ⟨b2.toArray⟩, .string ⟨b3.toArray⟩, .string ⟨b4.toArray⟩, .string ⟨b5.toArray⟩, .string ⟨b6.toArray⟩, .string ⟨b7.toArray⟩, .string ⟨b8.toArray⟩, .string ⟨b9.toArray⟩] 28))
  have HB0 := Lib.hid ((Below.refl w.heap.size w).alloc (Nat.le_refl _) (.cells #[.slice p0 n0 k0, v1, v2, .slice p n k, .string ⟨b0.toArray⟩, .string ⟨b1.toArray⟩, .string ⟨b2.toArray⟩, .string ⟨b3.toArray⟩, .string ⟨b4.toArray⟩, .string ⟨b5.toArray⟩, .string ⟨b6.toArray⟩, .string ⟨b7.toArray⟩, .string ⟨b8.toArray⟩, .string ⟨b9.toArray⟩] 28))
  have HL0 := Lib.hid (fun (x : Cn) (hx1 : x ∈ cs) (W : World) (hW : Below w.heap.size w W) => rLevel_calls l hl u x.name hu (hx x hx1) p k n (.slice p0 n0 k0) v1 v2 b0 b1 b2 b3 b4 b5 b6 b7 b8 b9 hn W (h.below hW))
  have HR := Lib.hid h0
  have HN := Lib.hid hn0
  have hcap := h0.cap
  have hmax := h0.max
  unfold maxLen at hmax
  clear h h0 hn hn0 hl
  unfold confV at *
  unfold PlPost at *
  go_enter Try.func13, Try.ntmps13
  go_wp2_with fail
  generalize (w.alloc (.cells #[.slice p0 n0 k0, v1, v2, .slice p n k, .string ⟨b0.toArray⟩, .string ⟨b1.toArray⟩, .string ⟨b2.toArray⟩, .string ⟨b3.toArray⟩, .string ⟨b4.toArray⟩, .string ⟨b5.toArray⟩, .string ⟨b6.toArray⟩, .string ⟨b7.toArray⟩, .string ⟨b8.toArray⟩, .string ⟨b9.toArray⟩] 28)) = W at *
  go_loopw [5, 6] (fun tv i wr => ∃ k : Nat, k ≤ n0 ∧ i = .int .i64 k ∧ PlAt W wr (plcK cs (sees l u) k) tv) (fun _ i _ => n0 - (Conf.intOf i).toNat)
  case atStart => exact ⟨0, by omega, rfl, World.ownsRow_nil _ _ _ _, Below.refl _ _⟩
  case round =>
    obtain ⟨j, hk, rfl, C⟩ := hrel
    rename World => wr
    have HC := Lib.hid C
    have hsz := C.below.size
    have HB := Lib.hid (HB0.out.trans (C.below.mono HB0.out.size))
    have HX2 := Lib.hid ((C.below.block _ (at_lt HX.out)).trans HX.out)
    have e0 := (at_cell HX2.out 0 : _ = some (Value.slice p0 n0 k0))
    obtain ⟨tp, tc, rfl, -⟩ := own_slice C.own
    clear C
    rcases Nat.lt_or_eq_of_le hk with hlt | rfl
    · have hl1 : j < cs.length := by rw [← HN.out]; exact hlt
      have hlen : (plcK cs (sees l u) j).length ≤ j := plc_len cs _ j
      obtain ⟨g, o, rfl, hg, hkn, hat⟩ := con_at (HR.out.below HB.out) hl1
      have c0 := hat.1
      clear hat
      have q1 : (j : Int) < (n0 : Int) := by omega
      have HL := Lib.hid (HL0.out cs[j] (List.getElem_mem hl1))
      cases hf : sees l u cs[j] with
      | true =>
        have HE := Lib.hid (plc_yes hl1 hf)
        have hq : decide ((1 : Int) ≤ lvlM l u cs[j].name) = true := hf
        clear HL0
        generalize cs[j] = x at *
        clear hl1 hf
        generalize plcK cs (sees l u) j = L at *
        go_wp2_with fail
        refine Reg.wp_sat (by kernel_rfl) [some 14, some 15, some 16, some 17, some 18, some 19, some 20, some 21, some 22, some 23] [Reg.Kn.val (.agg #[.slice (some ⟨g, o, none⟩) n0 k0, v1, v2, .slice p n k, .string ⟨b0.toArray⟩, .string ⟨b1.toArray⟩, .string ⟨b2.toArray⟩, .string ⟨b3.toArray⟩, .string ⟨b4.toArray⟩, .string ⟨b5.toArray⟩, .string ⟨b6.toArray⟩, .string ⟨b7.toArray⟩, .string ⟨b8.toArray⟩, .string ⟨b9.toArray⟩]), Reg.Kn.val (.string ⟨u.toArray⟩), Reg.Kn.val (.pointer (some ⟨w.heap.size, 0 + 0, none⟩)), Reg.Kn.val (.slice (some ⟨g, o, none⟩) n0 k0), Reg.Kn.val (.int .i64 j), Reg.Kn.val (.pointer (some ⟨g, o + j * 10, none⟩)), Reg.Kn.val (.pointer (some ⟨g, o + j * 10 + 0, none⟩)), Reg.Kn.val (.string ⟨x.name.toArray⟩), Reg.Kn.val (.int .i64 (lvlM l u x.name)), Reg.Kn.bl true] (List.replicate 10 true) [(14, 0), (15, 1), (16, 2), (17, 3), (18, 4), (19, 5), (20, 6), (21, 7), (22, 8), (23, 9)] (by kernel_rfl) (by kernel_rfl) (by kernel_rfl) (by decide) (by kernel_rfl) ?_ ?_
        · intro ii op a' w' ho hwd hdp hot hb
          have hr := Below.refl w'.heap.size w'
          have N1 := (hb.block _ (at_lt HX2.out)).trans HX2.out
          have B1 := HB.out.trans (hb.mono HB.out.size)
          match ii, ho, hwd, hdp, hot with
          | 0, ho, hwd, hdp, hot =>
            obtain rfl := Option.some.inj ho
            have e2 : a'.tmps[2]? = some (.pointer (some ⟨w.heap.size, 0, none⟩)) := (hot 2 ⟨by kernel_rfl⟩).trans rfl
            exact ws_ldConf 2 _ _ _ _ _ _ _ _ _ _ _ _ _ _ _ rfl e2 N1 ⟨_, rfl, rfl, hr⟩
          | 1, ho, hwd, hdp, hot =>
            obtain rfl := Option.some.inj ho
            have e1 : a'.tmps[1]? = some (.string ⟨u.toArray⟩) := (hot 1 ⟨by kernel_rfl⟩).trans rfl
            exact ws_move 1 _ rfl e1 ⟨_, rfl, rfl, hr⟩
          | 2, ho, hwd, hdp, hot =>
            obtain rfl := Option.some.inj ho
            have e2 : a'.tmps[2]? = some (.pointer (some ⟨w.heap.size, 0, none⟩)) := (hot 2 ⟨by kernel_rfl⟩).trans rfl
            exact ws_fa_apiConf_0 2 _ _ rfl e2 ⟨_, rfl, rfl, hr⟩
          | 3, ho, hwd, hdp, hot =>
            obtain rfl := Option.some.inj ho
            have e16 : a'.tmps[16]? = some (.pointer (some ⟨w.heap.size, 0 + 0, none⟩)) := by obtain ⟨_, e, h⟩ := hdp 2 (Reg.mem_of (by kernel_rfl)) _ rfl; exact e.trans (congrArg some h)
            exact ws_ld_slapiConsole 16 _ _ rfl e16 (at_cell N1 0) ⟨_, rfl, rfl, hr⟩
          | 4, ho, hwd, hdp, hot =>
            obtain rfl := Option.some.inj ho
            have e6 : a'.tmps[6]? = some (.int .i64 j) := (hot 6 ⟨by kernel_rfl⟩).trans rfl
            exact ws_move 6 _ rfl e6 ⟨_, rfl, rfl, hr⟩
          | 5, ho, hwd, hdp, hot =>
            obtain rfl := Option.some.inj ho
            have e17 : a'.tmps[17]? = some (.slice (some ⟨g, o, none⟩) n0 k0) := by obtain ⟨_, e, h⟩ := hdp 3 (Reg.mem_of (by kernel_rfl)) _ rfl; exact e.trans (congrArg some h)
            have e18 : a'.tmps[18]? = some (.int .i64 j) := by obtain ⟨_, e, h⟩ := hdp 4 (Reg.mem_of (by kernel_rfl)) _ rfl; exact e.trans (congrArg some h)
            exact ws_ix_slapiConsole 17 18 _ _ _ _ _ rfl e17 e18 hlt ⟨_, rfl, rfl, hr⟩
          | 6, ho, hwd, hdp, hot =>
            obtain rfl := Option.some.inj ho
            have e19 : a'.tmps[19]? = some (.pointer (some ⟨g, o + j * 10, none⟩)) := by obtain ⟨_, e, h⟩ := hdp 5 (Reg.mem_of (by kernel_rfl)) _ rfl; exact e.trans (congrArg some h)
            exact ws_fa_apiConsole_0 19 _ _ rfl e19 ⟨_, rfl, rfl, hr⟩
          | 7, ho, hwd, hdp, hot =>
            obtain rfl := Option.some.inj ho
            have e20 : a'.tmps[20]? = some (.pointer (some ⟨g, o + j * 10 + 0, none⟩)) := by obtain ⟨_, e, h⟩ := hdp 6 (Reg.mem_of (by kernel_rfl)) _ rfl; exact e.trans (congrArg some h)
            exact ws_ld_string 20 _ _ rfl e20 ((hb.cell (p := ⟨g, o + j * 10, none⟩) hg).trans c0) ⟨_, rfl, rfl, hr⟩
          | 8, ho, hwd, hdp, hot =>
            obtain rfl := Option.some.inj ho
            have e14 : a'.tmps[14]? = some (.agg #[.slice (some ⟨g, o, none⟩) n0 k0, v1, v2, .slice p n k, .string ⟨b0.toArray⟩, .string ⟨b1.toArray⟩, .string ⟨b2.toArray⟩, .string ⟨b3.toArray⟩, .string ⟨b4.toArray⟩, .string ⟨b5.toArray⟩, .string ⟨b6.toArray⟩, .string ⟨b7.toArray⟩, .string ⟨b8.toArray⟩, .string ⟨b9.toArray⟩]) := by obtain ⟨_, e, h⟩ := hdp 0 (Reg.mem_of (by kernel_rfl)) _ rfl; exact e.trans (congrArg some h)
            have e15 : a'.tmps[15]? = some (.string ⟨u.toArray⟩) := by obtain ⟨_, e, h⟩ := hdp 1 (Reg.mem_of (by kernel_rfl)) _ rfl; exact e.trans (congrArg some h)
            have e21 : a'.tmps[21]? = some (.string ⟨x.name.toArray⟩) := by obtain ⟨_, e, h⟩ := hdp 7 (Reg.mem_of (by kernel_rfl)) _ rfl; exact e.trans (congrArg some h)
            exact ws_call3_wheelhouseref16Level 14 15 21 _ _ _ _ _ rfl e14 e15 e21 ((HL.out _ B1).mono (by rintro e w2 ⟨rfl, hb2⟩; exact ⟨_, rfl, rfl, hb2⟩)) fun v w2 hk hb2 => ⟨_, rfl, hk, hb2⟩
          | 9, ho, hwd, hdp, hot =>
            obtain rfl := Option.some.inj ho
            have e22 : a'.tmps[22]? = some (.int .i64 (lvlM l u x.name)) := by obtain ⟨_, e, h⟩ := hdp 8 (Reg.mem_of (by kernel_rfl)) _ rfl; exact e.trans (congrArg some h)
            exact ws_geq_intc 22 _ _ _ rfl e22 hq ⟨_, rfl, rfl, hr⟩
          | ii + 10, ho, _, _, _ => exact absurd ho (by simp)
        · intro us w' hul hus hb
          obtain ⟨z0, z1, z2, z3, z4, z5, z6, z7, z8, z9, rfl⟩ : ∃ z0 z1 z2 z3 z4 z5 z6 z7 z8 z9, us = [z0, z1, z2, z3, z4, z5, z6, z7, z8, z9] := by
            clear hus
            match us, hul with
            | [z0, z1, z2, z3, z4, z5, z6, z7, z8, z9], _ => exact ⟨z0, z1, z2, z3, z4, z5, z6, z7, z8, z9, rfl⟩
          have h23 : z9 = .bool true := hus 9 (23, 9) _ rfl rfl
          subst h23
          clear hus hul
          simp only [List.map, List.zip, List.zipWith, Reg.puts, Act.put, List.setIfInBounds_toArray, List.set_cons_succ, List.set_cons_zero]
          have H5 := Lib.hid (HC.out.keep hb)
          have h5 := H5.out.below.size
          clear hb
          go_wp2_with (at_builtin; go_loud (refine Own.append_any rfl (.tmp 24) (.tmp 26) 34 rfl W.heap.size 3 i0 _ 1 8 Try.underlying34 hi hz0 hz1 hz2 rfl (by decide) _ _ _ rfl (World.ownsRow.alloc H5.out.own _) _ 1 1 [.int .i64 j] rfl (fun h => nomatch h) rfl (Rw.one_new _ _ _ _ rfl) (by simp [Value.oneCell']) (by unfold maxLen; omega) (by omega) (by simp; omega) ?_; intro v' w1 hown hgr; have C1 := Lib.hid (H5.out.step (k := j) (Below.refl _ _) ((Below.refl _ _).alloc (Nat.le_refl _) _) hown hgr)))
          go_roundw
          case rel => exact ⟨j + 1, by omega, by go_num, by rw [HE.out]; exact C1.out⟩
          case measure => simp [Conf.intOf]; omega
      | false =>
        have HE := Lib.hid (plc_no hl1 hf)
        have hq : decide ((1 : Int) ≤ lvlM l u cs[j].name) = false := hf
        clear HL0
        generalize cs[j] = x at *
        clear hl1 hf
        generalize plcK cs (sees l u) j = L at *
        go_wp2_with fail
        refine Reg.wp_sat (by kernel_rfl) [some 14, some 15, some 16, some 17, some 18, some 19, some 20, some 21, some 22, some 23] [Reg.Kn.val (.agg #[.slice (some ⟨g, o, none⟩) n0 k0, v1, v2, .slice p n k, .string ⟨b0.toArray⟩, .string ⟨b1.toArray⟩, .string ⟨b2.toArray⟩, .string ⟨b3.toArray⟩, .string ⟨b4.toArray⟩, .string ⟨b5.toArray⟩, .string ⟨b6.toArray⟩, .string ⟨b7.toArray⟩, .string ⟨b8.toArray⟩, .string ⟨b9.toArray⟩]), Reg.Kn.val (.string ⟨u.toArray⟩), Reg.Kn.val (.pointer (some ⟨w.heap.size, 0 + 0, none⟩)), Reg.Kn.val (.slice (some ⟨g, o, none⟩) n0 k0), Reg.Kn.val (.int .i64 j), Reg.Kn.val (.pointer (some ⟨g, o + j * 10, none⟩)), Reg.Kn.val (.pointer (some ⟨g, o + j * 10 + 0, none⟩)), Reg.Kn.val (.string ⟨x.name.toArray⟩), Reg.Kn.val (.int .i64 (lvlM l u x.name)), Reg.Kn.bl false] (List.replicate 10 true) [(14, 0), (15, 1), (16, 2), (17, 3), (18, 4), (19, 5), (20, 6), (21, 7), (22, 8), (23, 9)] (by kernel_rfl) (by kernel_rfl) (by kernel_rfl) (by decide) (by kernel_rfl) ?_ ?_
        · intro ii op a' w' ho hwd hdp hot hb
          have hr := Below.refl w'.heap.size w'
          have N1 := (hb.block _ (at_lt HX2.out)).trans HX2.out
          have B1 := HB.out.trans (hb.mono HB.out.size)
          match ii, ho, hwd, hdp, hot with
          | 0, ho, hwd, hdp, hot =>
            obtain rfl := Option.some.inj ho
            have e2 : a'.tmps[2]? = some (.pointer (some ⟨w.heap.size, 0, none⟩)) := (hot 2 ⟨by kernel_rfl⟩).trans rfl
            exact ws_ldConf 2 _ _ _ _ _ _ _ _ _ _ _ _ _ _ _ rfl e2 N1 ⟨_, rfl, rfl, hr⟩
          | 1, ho, hwd, hdp, hot =>
            obtain rfl := Option.some.inj ho
            have e1 : a'.tmps[1]? = some (.string ⟨u.toArray⟩) := (hot 1 ⟨by kernel_rfl⟩).trans rfl
            exact ws_move 1 _ rfl e1 ⟨_, rfl, rfl, hr⟩
          | 2, ho, hwd, hdp, hot =>
            obtain rfl := Option.some.inj ho
            have e2 : a'.tmps[2]? = some (.pointer (some ⟨w.heap.size, 0, none⟩)) := (hot 2 ⟨by kernel_rfl⟩).trans rfl
            exact ws_fa_apiConf_0 2 _ _ rfl e2 ⟨_, rfl, rfl, hr⟩
          | 3, ho, hwd, hdp, hot =>
            obtain rfl := Option.some.inj ho
            have e16 : a'.tmps[16]? = some (.pointer (some ⟨w.heap.size, 0 + 0, none⟩)) := by obtain ⟨_, e, h⟩ := hdp 2 (Reg.mem_of (by kernel_rfl)) _ rfl; exact e.trans (congrArg some h)
            exact ws_ld_slapiConsole 16 _ _ rfl e16 (at_cell N1 0) ⟨_, rfl, rfl, hr⟩
          | 4, ho, hwd, hdp, hot =>
            obtain rfl := Option.some.inj ho
            have e6 : a'.tmps[6]? = some (.int .i64 j) := (hot 6 ⟨by kernel_rfl⟩).trans rfl
            exact ws_move 6 _ rfl e6 ⟨_, rfl, rfl, hr⟩
          | 5, ho, hwd, hdp, hot =>
            obtain rfl := Option.some.inj ho
            have e17 : a'.tmps[17]? = some (.slice (some ⟨g, o, none⟩) n0 k0) := by obtain ⟨_, e, h⟩ := hdp 3 (Reg.mem_of (by kernel_rfl)) _ rfl; exact e.trans (congrArg some h)
            have e18 : a'.tmps[18]? = some (.int .i64 j) := by obtain ⟨_, e, h⟩ := hdp 4 (Reg.mem_of (by kernel_rfl)) _ rfl; exact e.trans (congrArg some h)
            exact ws_ix_slapiConsole 17 18 _ _ _ _ _ rfl e17 e18 hlt ⟨_, rfl, rfl, hr⟩
          | 6, ho, hwd, hdp, hot =>
            obtain rfl := Option.some.inj ho
            have e19 : a'.tmps[19]? = some (.pointer (some ⟨g, o + j * 10, none⟩)) := by obtain ⟨_, e, h⟩ := hdp 5 (Reg.mem_of (by kernel_rfl)) _ rfl; exact e.trans (congrArg some h)
            exact ws_fa_apiConsole_0 19 _ _ rfl e19 ⟨_, rfl, rfl, hr⟩
          | 7, ho, hwd, hdp, hot =>
            obtain rfl := Option.some.inj ho
            have e20 : a'.tmps[20]? = some (.pointer (some ⟨g, o + j * 10 + 0, none⟩)) := by obtain ⟨_, e, h⟩ := hdp 6 (Reg.mem_of (by kernel_rfl)) _ rfl; exact e.trans (congrArg some h)
            exact ws_ld_string 20 _ _ rfl e20 ((hb.cell (p := ⟨g, o + j * 10, none⟩) hg).trans c0) ⟨_, rfl, rfl, hr⟩
          | 8, ho, hwd, hdp, hot =>
            obtain rfl := Option.some.inj ho
            have e14 : a'.tmps[14]? = some (.agg #[.slice (some ⟨g, o, none⟩) n0 k0, v1, v2, .slice p n k, .string ⟨b0.toArray⟩, .string ⟨b1.toArray⟩, .string ⟨b2.toArray⟩, .string ⟨b3.toArray⟩, .string ⟨b4.toArray⟩, .string ⟨b5.toArray⟩, .string ⟨b6.toArray⟩, .string ⟨b7.toArray⟩, .string ⟨b8.toArray⟩, .string ⟨b9.toArray⟩]) := by obtain ⟨_, e, h⟩ := hdp 0 (Reg.mem_of (by kernel_rfl)) _ rfl; exact e.trans (congrArg some h)
            have e15 : a'.tmps[15]? = some (.string ⟨u.toArray⟩) := by obtain ⟨_, e, h⟩ := hdp 1 (Reg.mem_of (by kernel_rfl)) _ rfl; exact e.trans (congrArg some h)
            have e21 : a'.tmps[21]? = some (.string ⟨x.name.toArray⟩) := by obtain ⟨_, e, h⟩ := hdp 7 (Reg.mem_of (by kernel_rfl)) _ rfl; exact e.trans (congrArg some h)
            exact ws_call3_wheelhouseref16Level 14 15 21 _ _ _ _ _ rfl e14 e15 e21 ((HL.out _ B1).mono (by rintro e w2 ⟨rfl, hb2⟩; exact ⟨_, rfl, rfl, hb2⟩)) fun v w2 hk hb2 => ⟨_, rfl, hk, hb2⟩
          | 9, ho, hwd, hdp, hot =>
            obtain rfl := Option.some.inj ho
            have e22 : a'.tmps[22]? = some (.int .i64 (lvlM l u x.name)) := by obtain ⟨_, e, h⟩ := hdp 8 (Reg.mem_of (by kernel_rfl)) _ rfl; exact e.trans (congrArg some h)
            exact ws_geq_intc 22 _ _ _ rfl e22 hq ⟨_, rfl, rfl, hr⟩
          | ii + 10, ho, _, _, _ => exact absurd ho (by simp)
        · intro us w' hul hus hb
          obtain ⟨z0, z1, z2, z3, z4, z5, z6, z7, z8, z9, rfl⟩ : ∃ z0 z1 z2 z3 z4 z5 z6 z7 z8 z9, us = [z0, z1, z2, z3, z4, z5, z6, z7, z8, z9] := by
            clear hus
            match us, hul with
            | [z0, z1, z2, z3, z4, z5, z6, z7, z8, z9], _ => exact ⟨z0, z1, z2, z3, z4, z5, z6, z7, z8, z9, rfl⟩
          have h23 : z9 = .bool false := hus 9 (23, 9) _ rfl rfl
          subst h23
          clear hus hul
          simp only [List.map, List.zip, List.zipWith, Reg.puts, Act.put, List.setIfInBounds_toArray, List.set_cons_succ, List.set_cons_zero]
          have H5 := Lib.hid (HC.out.keep hb)
          clear hb
          go_wp2_with fail
          go_roundw
          case rel => exact ⟨j + 1, by omega, by go_num, by rw [HE.out]; exact H5.out⟩
          case measure => simp [Conf.intOf]; omega
    · have HE : Hid (plcK cs (sees l u) j = plc cs (sees l u)) := Lib.hid (by unfold plc; rw [HN.out])
      go_wp2_with fail
      go_ret
      exact ⟨_, rfl, by rw [← HE.out]; exact own_base HC.out.own HB0.out.size, HB.out⟩
end Go.Proofs.Ytomnkmcabkoagaa.Rgt

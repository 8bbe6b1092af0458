/-
Layer 15 (conf): the document's Same over texts (layer 10).
Layer 15 (conf): operations of the document's Same.
Layer 15 (conf): the document's Same.
Layer 15 (conf): the walk of ConfBack.
-/
import Derived.Test.YtajfdachpdkbcaaGreatDoorPack15
section
namespace Go.Proofs.YtajfdachpdkbcaaGreatDoor.Conf
open Go.RowKit Go.Proofs.YtajfdachpdkbcaaGreatDoor.Own Go.Proofs.YtajfdachpdkbcaaGreatDoor.Rw Go.Proofs.YtajfdachpdkbcaaGreatDoor.Tree

set_option maxRecDepth 100000 in
set_option maxHeartbeats 4000000 in
theorem rsame_calls (xs ys : List Bs) (p q : Option Addr) (n m c d : Nat) (hn : n = xs.length) (hm : m = ys.length) (w : World) (h1 : Rd w 1 p c n (xs.flatMap stv)) (h2 : Rd w 1 q d m (ys.flatMap stv)) :
    Calls Tryz.prog 28 #[.slice p n c, .slice q m d] w fun e w' => ∃ r, e = .returned (.bool r) ∧ (r = true ↔ xs = ys) ∧ Below w.heap.size w w' := by
  have H1 := Lib.hid h1
  have H2 := Lib.hid h2
  have hm1 := h1.max
  have hc1 := h1.cap
  have hm2 := h2.max
  have hc2 := h2.cap
  unfold maxLen at hm1 hm2
  clear h1 h2
  by_cases hnm : n = m
  · have b1 : ((n : Int) != (m : Int)) = false := by simp [hnm]
    have HNM := Lib.hid hnm
    have HN := Lib.hid hn
    have HM := Lib.hid hm
    clear hnm hn hm
    go_enter Tryz.func28, Tryz.ntmps28
    go_wp2_with fail
    go_loopw [5] (fun i wr => ∃ k : Nat, k ≤ n ∧ i = .int .i64 k ∧ Below w.heap.size w wr ∧ (xs.drop k = ys.drop k ↔ xs = ys)) (fun i _ => n - (Tree.intOf i).toNat)
    case atStart => exact ⟨0, by omega, rfl, Below.refl _ _, Iff.rfl⟩
    case round =>
      obtain ⟨k, hk, rfl, hb, hd⟩ := hrel
      rename World => wr
      have HB := Lib.hid hb
      clear hb
      rcases Nat.lt_or_eq_of_le hk with hlt | rfl
      · have hl1 : k < xs.length := by rw [← HN.out]; exact hlt
        have hl2 : k < ys.length := by rw [← HM.out, ← HNM.out]; exact hlt
        obtain ⟨g, o, rfl, hg, c1⟩ := rd_atS (H1.out.below HB.out) HN.out hl1
        obtain ⟨g', o', rfl, hg', c2⟩ := rd_atS (H2.out.below HB.out) HM.out hl2
        have q1 : (k : Int) < (n : Int) := by omega
        rw [List.drop_eq_getElem_cons hl1, List.drop_eq_getElem_cons hl2] at hd
        have HD := Lib.hid hd
        have C1 := Lib.hid c1
        have C2 := Lib.hid c2
        have HK := Lib.hid (show k < m by have := HNM.out; omega)
        generalize xs[k] = x at *
        generalize ys[k] = y at *
        clear hd hl1 hl2 c1 c2
        go_wp2_with fail
        refine Reg.wp_vals (by kernel_rfl) [17, 18, 19, 20, 21, 22, 23, 24, 25] [.slice (some ⟨g, o, none⟩) n c, .int .i64 k, .pointer (some ⟨g, o + k * 1, none⟩), stV x, .slice (some ⟨g', o', none⟩) m d, .int .i64 k, .pointer (some ⟨g', o' + k * 1, none⟩), stV y, .bool (!eqSt x y)] (by kernel_rfl) ?_ ?_
        · intro i op a' ho hdp hot
          have t0 : a'.tmps[0]? = some _ := (hot 0 (by decide)).trans rfl
          have t1 : a'.tmps[1]? = some _ := (hot 1 (by decide)).trans rfl
          have t5 : a'.tmps[5]? = some _ := (hot 5 (by decide)).trans rfl
          match i, ho, hdp with
          | 0, ho, hdp => obtain rfl := Option.some.inj ho; exact wp_mvS 0 _ rfl t0 ⟨rfl, rfl⟩
          | 1, ho, hdp => obtain rfl := Option.some.inj ho; exact wp_mvS 5 _ rfl t5 ⟨rfl, rfl⟩
          | 2, ho, hdp => obtain rfl := Option.some.inj ho; exact wp_ixS 17 18 _ _ _ _ _ rfl (hdp 0 (Reg.mem_of (by kernel_rfl))) (hdp 1 (Reg.mem_of (by kernel_rfl))) hlt ⟨rfl, rfl⟩
          | 3, ho, hdp => obtain rfl := Option.some.inj ho; exact wp_ldS 19 _ _ x rfl (hdp 2 (Reg.mem_of (by kernel_rfl))) C1.out ⟨rfl, rfl⟩
          | 4, ho, hdp => obtain rfl := Option.some.inj ho; exact wp_mvS 1 _ rfl t1 ⟨rfl, rfl⟩
          | 5, ho, hdp => obtain rfl := Option.some.inj ho; exact wp_mvS 5 _ rfl t5 ⟨rfl, rfl⟩
          | 6, ho, hdp => obtain rfl := Option.some.inj ho; exact wp_ixS 21 22 _ _ _ _ _ rfl (hdp 4 (Reg.mem_of (by kernel_rfl))) (hdp 5 (Reg.mem_of (by kernel_rfl))) HK.out ⟨rfl, rfl⟩
          | 7, ho, hdp => obtain rfl := Option.some.inj ho; exact wp_ldS 23 _ _ y rfl (hdp 6 (Reg.mem_of (by kernel_rfl))) C2.out ⟨rfl, rfl⟩
          | 8, ho, hdp => obtain rfl := Option.some.inj ho; exact wp_neqS 20 24 x y rfl (hdp 3 (Reg.mem_of (by kernel_rfl))) (hdp 7 (Reg.mem_of (by kernel_rfl))) ⟨rfl, rfl⟩
          | i + 9, ho, _ => exact absurd ho (by simp)
        · intro us hul hus
          match us, hul, hus with
          | [x0, x1, x2, x3, x4, x5, x6, x7, x8], _, hus =>
            have h8 : x8 = .bool (!eqSt x y) := hus 8 _ rfl
            clear hus
            simp only [List.zip, List.zipWith, Reg.puts, Act.put, List.setIfInBounds_toArray, List.set_cons_succ, List.set_cons_zero]
            rcases Bool.eq_false_or_eq_true (eqSt x y) with hxy | hxy
            · have HX := Lib.hid (eqSt_iff.1 hxy)
              have h9 : x8 = .bool false := h8.trans (by rw [hxy]; rfl)
              clear hxy h8
              subst h9
              go_wp2_with fail
              go_roundw
              case rel => exact ⟨k + 1, by omega, by go_num, below_drew HB.out, by rw [← HD.out, HX.out]; simp⟩
              case measure => simp [Tree.intOf]; omega
            · have HX := Lib.hid (show ¬ xs = ys from fun e => by
                have := HD.out.2 e
                rw [List.cons.injEq] at this
                rw [eqSt_iff.2 this.1] at hxy; cases hxy)
              have h9 : x8 = .bool true := h8.trans (by rw [hxy]; rfl)
              clear hxy h8
              subst h9
              go_wp2_with fail
              go_ret
              exact ⟨false, rfl, ⟨fun h => (by cases h), fun h => absurd h HX.out⟩, below_drew HB.out⟩
      · have HT := Lib.hid (show xs = ys from hd.1 (by rw [List.drop_eq_nil_of_le (by have := HN.out; omega), List.drop_eq_nil_of_le (by have := HM.out; have := HNM.out; omega)]))
        clear hd
        go_wp2_with fail
        go_ret
        exact ⟨true, rfl, ⟨fun _ => HT.out, fun _ => rfl⟩, HB.out⟩
  · have b1 : ((n : Int) != (m : Int)) = true := by simp; omega
    have HT := Lib.hid (show ¬ xs = ys from fun e => hnm (by rw [hn, hm, e]))
    clear hn hm
    go_enter Tryz.func28, Tryz.ntmps28
    go_wp2_with fail
    go_ret
    exact ⟨false, rfl, ⟨fun h => (by cases h), fun h => absurd h HT.out⟩, Below.refl _ _⟩
end Go.Proofs.YtajfdachpdkbcaaGreatDoor.Conf
end

section
namespace Go.Proofs.YtajfdachpdkbcaaGreatDoor.Conf
open Go.RowKit Go.Proofs.YtajfdachpdkbcaaGreatDoor.Own Go.Proofs.YtajfdachpdkbcaaGreatDoor.Rw Go.Proofs.YtajfdachpdkbcaaGreatDoor.Tree

theorem cf_ext' {a b : Cf} (h0 : a.cons = b.cons) (h1 : a.grps = b.grps) (h2 : a.usrs = b.usrs) (h3 : a.accs = b.accs) (h4 : a.brks = b.brks) : a = b := by
  cases a; cases b; cases h0; cases h1; cases h2; cases h3; cases h4; rfl
section
variable {o : Oper} {a : Act} {w : World} {K : Act → World → Prop} {Q : Exit → Act → World → Prop}
theorem wp_fC (k : Nat) (hk : k < 4) (t b : Nat) (ho : o.op = .fieldAddr 29 (.tmp t) k) (h1 : a.tmps[t]? = some (.pointer (some ⟨b, 0, none⟩))) (h : K (a.put o.dst (.pointer (some ⟨b, k, none⟩))) w) : Oper.wp Tryz.prog o a w K Q := by
  obtain ⟨d, op, ty, ps, af, gd⟩ := o
  cases ho
  unfold Oper.wp
  match k, hk with
  | 0, _ => simp [go_sem, h1, Oper.upon]; exact h
  | 1, _ => simp [go_sem, h1, Oper.upon]; exact h
  | 2, _ => simp [go_sem, h1, Oper.upon]; exact h
  | 3, _ => simp [go_sem, h1, Oper.upon]; exact h
theorem wp_fG (k : Nat) (hk : k < 2) (t b off : Nat) (ho : o.op = .fieldAddr 65 (.tmp t) k) (h1 : a.tmps[t]? = some (.pointer (some ⟨b, off, none⟩))) (h : K (a.put o.dst (.pointer (some ⟨b, off + k, none⟩))) w) : Oper.wp Tryz.prog o a w K Q := by
  obtain ⟨d, op, ty, ps, af, gd⟩ := o
  cases ho
  unfold Oper.wp
  match k, hk with
  | 0, _ => simp [go_sem, h1, Oper.upon]; exact h
  | 1, _ => simp [go_sem, h1, Oper.upon]; exact h
theorem wp_ixG (t u g off n c k : Nat) (ho : o.op = .indexAddr 24 (.tmp t) (.tmp u)) (h1 : a.tmps[t]? = some (.slice (some ⟨g, off, none⟩) n c)) (h2 : a.tmps[u]? = some (.int .i64 k)) (hk : k < n) (h : K (a.put o.dst (.pointer (some ⟨g, off + k * 2, none⟩))) w) : Oper.wp Tryz.prog o a w K Q := by
  obtain ⟨d, op, ty, ps, af, gd⟩ := o
  cases ho
  have q1 : (k : Int) < (n : Int) := by omega
  unfold Oper.wp
  simp [go_sem, h1, h2, q1, Oper.upon]
  exact h
theorem wp_rsame (t u : Nat) (x y : Value) (ts : Array TypeId) (ho : o.op = .call { callee := .value (.func 28), args := #[.tmp t, .tmp u], argTypes := ts }) (h1 : a.tmps[t]? = some x) (h2 : a.tmps[u]? = some y) (h : Calls Tryz.prog 28 #[x, y] w (fun e w2 => ∃ v, e = .returned v ∧ K (a.put o.dst v) w2)) : Oper.wp Tryz.prog o a w K Q := by
  obtain ⟨d, op, ty, ps, af, gd⟩ := o
  cases ho
  unfold Oper.wp
  simp [go_sem, Oper.upon, h1, h2]
  refine h.mono ?_
  rintro e w2 ⟨v, rfl, hk⟩
  exact hk
theorem wp_not (t : Nat) (b : Bool) (ho : o.op = .unOp .not 4 (.tmp t)) (h1 : a.tmps[t]? = some (.bool b)) (h : K (a.put o.dst (.bool (!b))) w) : Oper.wp Tryz.prog o a w K Q := by
  obtain ⟨d, op, ty, ps, af, gd⟩ := o
  cases ho
  unfold Oper.wp
  simp [go_sem, h1, Oper.upon]
  exact h
theorem wp_pickT (t u : Nat) (v : Value) (ho : o.op = .pick (.tmp t) (.const (.bool true)) (.tmp u)) (h1 : a.tmps[t]? = some (.bool false)) (h2 : a.tmps[u]? = some v) (h : K (a.put o.dst v) w) : Oper.wp Tryz.prog o a w K Q := by
  obtain ⟨d, op, ty, ps, af, gd⟩ := o
  cases ho
  unfold Oper.wp
  simp [go_sem, h1, h2, Oper.upon]
  exact h
theorem wp_pickT1 (t u : Nat) (ho : o.op = .pick (.tmp t) (.const (.bool true)) (.tmp u)) (h1 : a.tmps[t]? = some (.bool true)) (h : K (a.put o.dst (.bool true)) w) : Oper.wp Tryz.prog o a w K Q := by
  obtain ⟨d, op, ty, ps, af, gd⟩ := o
  cases ho
  unfold Oper.wp
  simp [go_sem, h1, Oper.upon]
  exact h
theorem wp_lslC (t : Nat) (ad : Addr) (v : Value) (ho : o.op = .load 23 (.tmp t)) (h1 : a.tmps[t]? = some (.pointer (some ad))) (hc : w.cell? ad = some v) (h : K (a.put o.dst v) w) : Oper.wp Tryz.prog o a w K Q := by
  obtain ⟨d, op, ty, ps, af, gd⟩ := o
  cases ho
  unfold Oper.wp
  simp [go_sem, h1, hc, Oper.upon]
  exact h
theorem wp_lslG (t : Nat) (ad : Addr) (v : Value) (ho : o.op = .load 24 (.tmp t)) (h1 : a.tmps[t]? = some (.pointer (some ad))) (hc : w.cell? ad = some v) (h : K (a.put o.dst v) w) : Oper.wp Tryz.prog o a w K Q := by
  obtain ⟨d, op, ty, ps, af, gd⟩ := o
  cases ho
  unfold Oper.wp
  simp [go_sem, h1, hc, Oper.upon]
  exact h
theorem wp_lslU (t : Nat) (ad : Addr) (v : Value) (ho : o.op = .load 25 (.tmp t)) (h1 : a.tmps[t]? = some (.pointer (some ad))) (hc : w.cell? ad = some v) (h : K (a.put o.dst v) w) : Oper.wp Tryz.prog o a w K Q := by
  obtain ⟨d, op, ty, ps, af, gd⟩ := o
  cases ho
  unfold Oper.wp
  simp [go_sem, h1, hc, Oper.upon]
  exact h
theorem wp_lslA (t : Nat) (ad : Addr) (v : Value) (ho : o.op = .load 26 (.tmp t)) (h1 : a.tmps[t]? = some (.pointer (some ad))) (hc : w.cell? ad = some v) (h : K (a.put o.dst v) w) : Oper.wp Tryz.prog o a w K Q := by
  obtain ⟨d, op, ty, ps, af, gd⟩ := o
  cases ho
  unfold Oper.wp
  simp [go_sem, h1, hc, Oper.upon]
  exact h
theorem wp_lslS (t : Nat) (ad : Addr) (v : Value) (ho : o.op = .load 55 (.tmp t)) (h1 : a.tmps[t]? = some (.pointer (some ad))) (hc : w.cell? ad = some v) (h : K (a.put o.dst v) w) : Oper.wp Tryz.prog o a w K Q := by
  obtain ⟨d, op, ty, ps, af, gd⟩ := o
  cases ho
  unfold Oper.wp
  simp [go_sem, h1, hc, Oper.upon]
  exact h
end
end Go.Proofs.YtajfdachpdkbcaaGreatDoor.Conf
end

section
namespace Go.Proofs.YtajfdachpdkbcaaGreatDoor.Conf
open Go.RowKit Go.Proofs.YtajfdachpdkbcaaGreatDoor.Own Go.Proofs.YtajfdachpdkbcaaGreatDoor.Rw Go.Proofs.YtajfdachpdkbcaaGreatDoor.Tree

set_option maxRecDepth 100000 in
set_option maxHeartbeats 16000000 in
theorem refSame_conf (a b : Cf) (v0 v1 v2 v3 u0 u1 u2 u3 : Value) (b0 b1 b2 b3 b4 b5 b6 b7 b8 b9 d0 d1 d2 d3 d4 d5 d6 d7 d8 d9 : Bs) (w : World) (ha : CfR w v0 v1 v2 v3 a) (hb : CfR w u0 u1 u2 u3 b) (hta : a.brks = [b0, b1, b2, b3, b4, b5, b6, b7, b8, b9]) (htb : b.brks = [d0, d1, d2, d3, d4, d5, d6, d7, d8, d9]) :
    Calls Tryz.prog 9 #[confV v0 v1 v2 v3 b0 b1 b2 b3 b4 b5 b6 b7 b8 b9, confV u0 u1 u2 u3 d0 d1 d2 d3 d4 d5 d6 d7 d8 d9] w fun e w' => ∃ r, e = .returned (.bool r) ∧ (r = true ↔ a = b) ∧ Below w.heap.size w w' := by
  have HA := Lib.hid ha
  have HB := Lib.hid hb
  obtain ⟨p0, k0, rfl, -⟩ := ha.cons
  obtain ⟨p1, k1, _, rfl, -, -⟩ := ha.grps
  obtain ⟨p2, k2, rfl, -⟩ := ha.usrs
  obtain ⟨p3, k3, rfl, -⟩ := ha.accs
  obtain ⟨q0, m0, rfl, -⟩ := hb.cons
  obtain ⟨q1, m1, _, rfl, -, -⟩ := hb.grps
  obtain ⟨q2, m2, rfl, -⟩ := hb.usrs
  obtain ⟨q3, m3, rfl, -⟩ := hb.accs
  have TA := Lib.hid hta
  have TB := Lib.hid htb
  clear ha hb hta htb
  have BW := Lib.hid (((Below.refl w.heap.size w).alloc (Nat.le_refl _) (.cells #[.slice p0 a.cons.length k0, .slice p1 a.grps.length k1, .slice p2 a.usrs.length k2, .slice p3 a.accs.length k3, .string ⟨b0.toArray⟩, .string ⟨b1.toArray⟩, .string ⟨b2.toArray⟩, .string ⟨b3.toArray⟩, .string ⟨b4.toArray⟩, .string ⟨b5.toArray⟩, .string ⟨b6.toArray⟩, .string ⟨b7.toArray⟩, .string ⟨b8.toArray⟩, .string ⟨b9.toArray⟩] 29)).alloc (by simp) (.cells #[.slice q0 b.cons.length m0, .slice q1 b.grps.length m1, .slice q2 b.usrs.length m2, .slice q3 b.accs.length m3, .string ⟨d0.toArray⟩, .string ⟨d1.toArray⟩, .string ⟨d2.toArray⟩, .string ⟨d3.toArray⟩, .string ⟨d4.toArray⟩, .string ⟨d5.toArray⟩, .string ⟨d6.toArray⟩, .string ⟨d7.toArray⟩, .string ⟨d8.toArray⟩, .string ⟨d9.toArray⟩] 29))
  have NA := (((Below.refl (w.alloc (.cells #[.slice p0 a.cons.length k0, .slice p1 a.grps.length k1, .slice p2 a.usrs.length k2, .slice p3 a.accs.length k3, .string ⟨b0.toArray⟩, .string ⟨b1.toArray⟩, .string ⟨b2.toArray⟩, .string ⟨b3.toArray⟩, .string ⟨b4.toArray⟩, .string ⟨b5.toArray⟩, .string ⟨b6.toArray⟩, .string ⟨b7.toArray⟩, .string ⟨b8.toArray⟩, .string ⟨b9.toArray⟩] 29)).heap.size (w.alloc (.cells #[.slice p0 a.cons.length k0, .slice p1 a.grps.length k1, .slice p2 a.usrs.length k2, .slice p3 a.accs.length k3, .string ⟨b0.toArray⟩, .string ⟨b1.toArray⟩, .string ⟨b2.toArray⟩, .string ⟨b3.toArray⟩, .string ⟨b4.toArray⟩, .string ⟨b5.toArray⟩, .string ⟨b6.toArray⟩, .string ⟨b7.toArray⟩, .string ⟨b8.toArray⟩, .string ⟨b9.toArray⟩] 29))).alloc (Nat.le_refl _) (.cells #[.slice q0 b.cons.length m0, .slice q1 b.grps.length m1, .slice q2 b.usrs.length m2, .slice q3 b.accs.length m3, .string ⟨d0.toArray⟩, .string ⟨d1.toArray⟩, .string ⟨d2.toArray⟩, .string ⟨d3.toArray⟩, .string ⟨d4.toArray⟩, .string ⟨d5.toArray⟩, .string ⟨d6.toArray⟩, .string ⟨d7.toArray⟩, .string ⟨d8.toArray⟩, .string ⟨d9.toArray⟩] 29)).block _ (at_lt (at_new w (.cells #[.slice p0 a.cons.length k0, .slice p1 a.grps.length k1, .slice p2 a.usrs.length k2, .slice p3 a.accs.length k3, .string ⟨b0.toArray⟩, .string ⟨b1.toArray⟩, .string ⟨b2.toArray⟩, .string ⟨b3.toArray⟩, .string ⟨b4.toArray⟩, .string ⟨b5.toArray⟩, .string ⟨b6.toArray⟩, .string ⟨b7.toArray⟩, .string ⟨b8.toArray⟩, .string ⟨b9.toArray⟩] 29)))).trans (at_new w (.cells #[.slice p0 a.cons.length k0, .slice p1 a.grps.length k1, .slice p2 a.usrs.length k2, .slice p3 a.accs.length k3, .string ⟨b0.toArray⟩, .string ⟨b1.toArray⟩, .string ⟨b2.toArray⟩, .string ⟨b3.toArray⟩, .string ⟨b4.toArray⟩, .string ⟨b5.toArray⟩, .string ⟨b6.toArray⟩, .string ⟨b7.toArray⟩, .string ⟨b8.toArray⟩, .string ⟨b9.toArray⟩] 29))
  have NB := at_new (w.alloc (.cells #[.slice p0 a.cons.length k0, .slice p1 a.grps.length k1, .slice p2 a.usrs.length k2, .slice p3 a.accs.length k3, .string ⟨b0.toArray⟩, .string ⟨b1.toArray⟩, .string ⟨b2.toArray⟩, .string ⟨b3.toArray⟩, .string ⟨b4.toArray⟩, .string ⟨b5.toArray⟩, .string ⟨b6.toArray⟩, .string ⟨b7.toArray⟩, .string ⟨b8.toArray⟩, .string ⟨b9.toArray⟩] 29)) (.cells #[.slice q0 b.cons.length m0, .slice q1 b.grps.length m1, .slice q2 b.usrs.length m2, .slice q3 b.accs.length m3, .string ⟨d0.toArray⟩, .string ⟨d1.toArray⟩, .string ⟨d2.toArray⟩, .string ⟨d3.toArray⟩, .string ⟨d4.toArray⟩, .string ⟨d5.toArray⟩, .string ⟨d6.toArray⟩, .string ⟨d7.toArray⟩, .string ⟨d8.toArray⟩, .string ⟨d9.toArray⟩] 29)
  rw [show (w.alloc (.cells #[.slice p0 a.cons.length k0, .slice p1 a.grps.length k1, .slice p2 a.usrs.length k2, .slice p3 a.accs.length k3, .string ⟨b0.toArray⟩, .string ⟨b1.toArray⟩, .string ⟨b2.toArray⟩, .string ⟨b3.toArray⟩, .string ⟨b4.toArray⟩, .string ⟨b5.toArray⟩, .string ⟨b6.toArray⟩, .string ⟨b7.toArray⟩, .string ⟨b8.toArray⟩, .string ⟨b9.toArray⟩] 29)).heap.size = w.heap.size + 1 by simp] at NB
  have HNA := Lib.hid NA
  have HNB := Lib.hid NB
  clear NA NB
  unfold confV
  by_cases l0 : a.cons.length = b.cons.length
  case neg =>
    have e0 : ((a.cons.length : Int) != (b.cons.length : Int)) = true := by simp; omega
    have HX := Lib.hid (show ¬ a = b from fun e => l0 (by rw [e]))
    go_enter Tryz.func9, Tryz.ntmps9
    go_wp2_with fail
    go_ret
    exact ⟨false, rfl, ⟨fun h => (by cases h), fun h => absurd h HX.out⟩, BW.out⟩
  have e0 : ((a.cons.length : Int) != (b.cons.length : Int)) = false := by simp [l0]
  have L0 := Lib.hid l0
  clear l0
  by_cases l1 : a.grps.length = b.grps.length
  case neg =>
    have e1 : ((a.grps.length : Int) != (b.grps.length : Int)) = true := by simp; omega
    have HX := Lib.hid (show ¬ a = b from fun e => l1 (by rw [e]))
    go_enter Tryz.func9, Tryz.ntmps9
    go_wp2_with fail
    go_ret
    exact ⟨false, rfl, ⟨fun h => (by cases h), fun h => absurd h HX.out⟩, BW.out⟩
  have e1 : ((a.grps.length : Int) != (b.grps.length : Int)) = false := by simp [l1]
  have L1 := Lib.hid l1
  clear l1
  by_cases l2 : a.usrs.length = b.usrs.length
  case neg =>
    have e2 : ((a.usrs.length : Int) != (b.usrs.length : Int)) = true := by simp; omega
    have HX := Lib.hid (show ¬ a = b from fun e => l2 (by rw [e]))
    go_enter Tryz.func9, Tryz.ntmps9
    go_wp2_with fail
    go_ret
    exact ⟨false, rfl, ⟨fun h => (by cases h), fun h => absurd h HX.out⟩, BW.out⟩
  have e2 : ((a.usrs.length : Int) != (b.usrs.length : Int)) = false := by simp [l2]
  have L2 := Lib.hid l2
  clear l2
  by_cases l3 : a.accs.length = b.accs.length
  case neg =>
    have e3 : ((a.accs.length : Int) != (b.accs.length : Int)) = true := by simp; omega
    have HX := Lib.hid (show ¬ a = b from fun e => l3 (by rw [e]))
    go_enter Tryz.func9, Tryz.ntmps9
    go_wp2_with fail
    go_ret
    exact ⟨false, rfl, ⟨fun h => (by cases h), fun h => absurd h HX.out⟩, BW.out⟩
  have e3 : ((a.accs.length : Int) != (b.accs.length : Int)) = false := by simp [l3]
  have L3 := Lib.hid l3
  clear l3
  obtain ⟨r, hr⟩ : ∃ r, r = eq10 b0 b1 b2 b3 b4 b5 b6 b7 b8 b9 d0 d1 d2 d3 d4 d5 d6 d7 d8 d9 := ⟨_, rfl⟩
  have HQ := arr_eql b0 b1 b2 b3 b4 b5 b6 b7 b8 b9 d0 d1 d2 d3 d4 d5 d6 d7 d8 d9
  rw [← hr] at HQ
  have HRR := Lib.hid hr
  clear hr
  cases r with
  | false =>
    have HX := Lib.hid (show ¬ a = b from fun e => by
      have : eq10 b0 b1 b2 b3 b4 b5 b6 b7 b8 b9 d0 d1 d2 d3 d4 d5 d6 d7 d8 d9 = true := eq10_iff.2 (by rw [← TA.out, ← TB.out, e])
      rw [← HRR.out] at this; cases this)
    go_enter Tryz.func9, Tryz.ntmps9
    go_wp2_with fail
    go_ret
    exact ⟨false, rfl, ⟨fun h => (by cases h), fun h => absurd h HX.out⟩, BW.out⟩
  | true =>
  have E4 := Lib.hid (TA.out.trans ((eq10_iff.1 HRR.out.symm).trans TB.out.symm))
  clear HRR
  go_enter Tryz.func9, Tryz.ntmps9
  go_wp2_with fail
  generalize ((w.alloc (.cells #[.slice p0 a.cons.length k0, .slice p1 a.grps.length k1, .slice p2 a.usrs.length k2, .slice p3 a.accs.length k3, .string ⟨b0.toArray⟩, .string ⟨b1.toArray⟩, .string ⟨b2.toArray⟩, .string ⟨b3.toArray⟩, .string ⟨b4.toArray⟩, .string ⟨b5.toArray⟩, .string ⟨b6.toArray⟩, .string ⟨b7.toArray⟩, .string ⟨b8.toArray⟩, .string ⟨b9.toArray⟩] 29)).alloc (.cells #[.slice q0 b.cons.length m0, .slice q1 b.grps.length m1, .slice q2 b.usrs.length m2, .slice q3 b.accs.length m3, .string ⟨d0.toArray⟩, .string ⟨d1.toArray⟩, .string ⟨d2.toArray⟩, .string ⟨d3.toArray⟩, .string ⟨d4.toArray⟩, .string ⟨d5.toArray⟩, .string ⟨d6.toArray⟩, .string ⟨d7.toArray⟩, .string ⟨d8.toArray⟩, .string ⟨d9.toArray⟩] 29)) = W at *
  clear HQ e0 e1 e2 e3
  have XB := Lib.hid (Below.refl W.heap.size W)
  go_loopw [5] (fun i wr => ∃ k : Nat, k ≤ a.cons.length ∧ i = .int .i64 k ∧ Below W.heap.size W wr ∧ (a.cons.drop k = b.cons.drop k ↔ a.cons = b.cons)) (fun i _ => a.cons.length - (Tree.intOf i).toNat)
  case atStart => exact ⟨0, by omega, rfl, XB.out, Iff.rfl⟩
  case round =>
    clear XB
    obtain ⟨k, hk, rfl, hb, hd⟩ := hrel
    rename World => wr
    have XB := Lib.hid hb
    clear hb
    have NA := (XB.out.block _ (at_lt HNA.out)).trans HNA.out
    have NB := (XB.out.block _ (at_lt HNB.out)).trans HNB.out
    have BR := Lib.hid (BW.out.trans (XB.out.mono BW.out.size))
    obtain ⟨_, _, hv, r1⟩ := (HA.out.below BR.out).cons
    obtain ⟨_, _, hu, r2⟩ := (HB.out.below BR.out).cons
    injection hv with z1 z5 z2
    injection hu with z3 z6 z4
    subst z1 z2 z3 z4
    clear z5 z6
    have hm1 := r1.max
    have hc1 := r1.cap
    have hm2 := r2.max
    have hc2 := r2.cap
    unfold maxLen at hm1 hm2
    have ca := (at_cell NA 0 : _ = some (Value.slice p0 a.cons.length k0))
    have cb := (at_cell NB 0 : _ = some (Value.slice q0 b.cons.length m0))
    clear NA NB
    rcases Nat.lt_or_eq_of_le hk with hlt | rfl
    · have hl2 : k < b.cons.length := by rw [← L0.out]; exact hlt
      obtain ⟨g, o, rfl, hg, c1⟩ := rd_atC r1 rfl hlt
      obtain ⟨g', o', rfl, hg', c2⟩ := rd_atC r2 rfl hl2
      have q1 : (k : Int) < (a.cons.length : Int) := by omega
      rw [List.drop_eq_getElem_cons hlt, List.drop_eq_getElem_cons hl2] at hd
      have HD := Lib.hid hd
      have HK := Lib.hid hl2
      have C1 := Lib.hid c1
      have C2 := Lib.hid c2
      generalize a.cons[k] = x at *
      generalize b.cons[k] = y at *
      clear hd hl2 c1 c2 r1 r2
      go_wp2_with fail
      refine Reg.wp_vals (by kernel_rfl) [57, 58, 59, 60, 61, 62, 63, 64, 65, 66, 67] [.pointer (some ⟨w.heap.size, 0, none⟩), (.slice (some ⟨g, o, none⟩) a.cons.length k0), .int .i64 k, .pointer (some ⟨g, o + k * 10, none⟩), cnV x, .pointer (some ⟨w.heap.size + 1, 0, none⟩), (.slice (some ⟨g', o', none⟩) b.cons.length m0), .int .i64 k, .pointer (some ⟨g', o' + k * 10, none⟩), cnV y, .bool (!eqCn x y)] (by kernel_rfl) ?_ ?_
      · intro i op a' ho hdp hot
        have t2 : a'.tmps[2]? = some _ := (hot 2 (by decide)).trans rfl
        have t3 : a'.tmps[3]? = some _ := (hot 3 (by decide)).trans rfl
        have tv : a'.tmps[5]? = some _ := (hot 5 (by decide)).trans rfl
        match i, ho, hdp with
        | 0, ho, hdp => obtain rfl := Option.some.inj ho; exact wp_fC 0 (by decide) 2 _ rfl t2 ⟨rfl, rfl⟩
        | 1, ho, hdp => obtain rfl := Option.some.inj ho; exact wp_lslC 57 _ _ rfl (hdp 0 (Reg.mem_of (by kernel_rfl))) ca ⟨rfl, rfl⟩
        | 2, ho, hdp => obtain rfl := Option.some.inj ho; exact wp_mvC 5 _ rfl tv ⟨rfl, rfl⟩
        | 3, ho, hdp => obtain rfl := Option.some.inj ho; exact wp_ixC 58 59 _ _ _ _ _ rfl (hdp 1 (Reg.mem_of (by kernel_rfl))) (hdp 2 (Reg.mem_of (by kernel_rfl))) hlt ⟨rfl, rfl⟩
        | 4, ho, hdp => obtain rfl := Option.some.inj ho; exact wp_ldC 60 _ _ x rfl (hdp 3 (Reg.mem_of (by kernel_rfl))) C1.out ⟨rfl, rfl⟩
        | 5, ho, hdp => obtain rfl := Option.some.inj ho; exact wp_fC 0 (by decide) 3 _ rfl t3 ⟨rfl, rfl⟩
        | 6, ho, hdp => obtain rfl := Option.some.inj ho; exact wp_lslC 62 _ _ rfl (hdp 5 (Reg.mem_of (by kernel_rfl))) cb ⟨rfl, rfl⟩
        | 7, ho, hdp => obtain rfl := Option.some.inj ho; exact wp_mvC 5 _ rfl tv ⟨rfl, rfl⟩
        | 8, ho, hdp => obtain rfl := Option.some.inj ho; exact wp_ixC 63 64 _ _ _ _ _ rfl (hdp 6 (Reg.mem_of (by kernel_rfl))) (hdp 7 (Reg.mem_of (by kernel_rfl))) HK.out ⟨rfl, rfl⟩
        | 9, ho, hdp => obtain rfl := Option.some.inj ho; exact wp_ldC 65 _ _ y rfl (hdp 8 (Reg.mem_of (by kernel_rfl))) C2.out ⟨rfl, rfl⟩
        | 10, ho, hdp => obtain rfl := Option.some.inj ho; exact wp_neqC 61 66 x y rfl (hdp 4 (Reg.mem_of (by kernel_rfl))) (hdp 9 (Reg.mem_of (by kernel_rfl))) ⟨rfl, rfl⟩
        | i + 11, ho, _ => exact absurd ho (by simp)
      · intro us hul hus
        match us, hul, hus with
        | [x0, x1, x2, x3, x4, x5, x6, x7, x8, x9, x10], _, hus =>
          have h8 : x10 = .bool (!eqCn x y) := hus 10 _ rfl
          clear hus
          have XC := Lib.hid (show Below W.heap.size W wr.drew from below_drew XB.out)
          simp only [List.zip, List.zipWith, Reg.puts, Act.put, List.setIfInBounds_toArray, List.set_cons_succ, List.set_cons_zero]
          rcases Bool.eq_false_or_eq_true (eqCn x y) with hxy | hxy
          · have HX := Lib.hid (eqCn_iff.1 hxy)
            have h9 : x10 = .bool false := h8.trans (by rw [hxy]; rfl)
            clear hxy h8
            subst h9
            go_wp2_with fail
            go_roundw
            case rel => exact ⟨k + 1, by omega, by go_num, XC.out, by rw [← HD.out, HX.out]; simp⟩
            case measure => simp [Tree.intOf]; omega
          · have HX := Lib.hid (show ¬ a = b from fun e => by
              have := HD.out.2 (by rw [e])
              rw [List.cons.injEq] at this
              rw [eqCn_iff.2 this.1] at hxy; cases hxy)
            have h9 : x10 = .bool true := h8.trans (by rw [hxy]; rfl)
            clear hxy h8
            subst h9
            go_wp2_with fail
            go_ret
            exact ⟨false, rfl, ⟨fun h => (by cases h), fun h => absurd h HX.out⟩, BW.out.trans (XC.out.mono BW.out.size)⟩
    · have E0 := Lib.hid (show a.cons = b.cons from hd.1 (by rw [List.drop_eq_nil_of_le (Nat.le_refl _), List.drop_eq_nil_of_le (by have := L0.out; omega)]))
      clear hd r1 r2
      have NA := (XB.out.block _ (at_lt HNA.out)).trans HNA.out
      have NB := (XB.out.block _ (at_lt HNB.out)).trans HNB.out
      have ca := (at_cell NA 1 : _ = some (Value.slice p1 a.grps.length k1))
      have cb := (at_cell NB 1 : _ = some (Value.slice q1 b.grps.length m1))
      clear NA NB
      go_wp2_with fail
      go_loopw [6] (fun i wr => ∃ k : Nat, k ≤ a.grps.length ∧ i = .int .i64 k ∧ Below W.heap.size W wr ∧ (a.grps.drop k = b.grps.drop k ↔ a.grps = b.grps)) (fun i _ => a.grps.length - (Tree.intOf i).toNat)
      case atStart => exact ⟨0, by omega, rfl, XB.out, Iff.rfl⟩
      case round =>
        clear XB ca cb
        obtain ⟨k, hk, rfl, hb, hd⟩ := hrel
        rename World => wr
        have XB := Lib.hid hb
        clear hb
        have NA := (XB.out.block _ (at_lt HNA.out)).trans HNA.out
        have NB := (XB.out.block _ (at_lt HNB.out)).trans HNB.out
        have BR := Lib.hid (BW.out.trans (XB.out.mono BW.out.size))
        obtain ⟨_, _, gs, hv, r1, g1⟩ := (HA.out.below BR.out).grps
        obtain ⟨_, _, hs, hu, r2, g2⟩ := (HB.out.below BR.out).grps
        injection hv with z1 z5 z2
        injection hu with z3 z6 z4
        subst z1 z2 z3 z4
        clear z5 z6
        have hm1 := r1.max
        have hc1 := r1.cap
        have hm2 := r2.max
        have hc2 := r2.cap
        unfold maxLen at hm1 hm2
        have ca := (at_cell NA 1 : _ = some (Value.slice p1 a.grps.length k1))
        have cb := (at_cell NB 1 : _ = some (Value.slice q1 b.grps.length m1))
        clear NA NB
        rcases Nat.lt_or_eq_of_le hk with hlt | rfl
        · have hl2 : k < b.grps.length := by rw [← L1.out]; exact hlt
          obtain ⟨g, o, pp, cc, rfl, hg, ⟨c0, c1⟩, ht1⟩ := grp_at r1 g1 rfl hlt
          obtain ⟨g', o', pp', cc', rfl, hg', ⟨d0, d1⟩, ht2⟩ := grp_at r2 g2 rfl hl2
          have q1 : (k : Int) < (a.grps.length : Int) := by omega
          rw [List.drop_eq_getElem_cons hlt, List.drop_eq_getElem_cons hl2] at hd
          have HD := Lib.hid hd
          have HK := Lib.hid hl2
          generalize a.grps[k] = x at *
          generalize b.grps[k] = y at *
          obtain ⟨xn, xp⟩ := x
          obtain ⟨yn, yp⟩ := y
          dsimp only at c0 c1 d0 d1 ht1 ht2
          obtain ⟨q, hq⟩ : ∃ q : Bool, (q = true ↔ xp = yp) := ⟨decide _, decide_eq_true_iff⟩
          have HQ := Lib.hid hq
          have HT1 := Lib.hid ht1
          have HT2 := Lib.hid ht2
          have C0 := Lib.hid c0
          have C1 := Lib.hid c1
          have D0 := Lib.hid d0
          have D1 := Lib.hid d1
          have CAA := Lib.hid ca
          have CBB := Lib.hid cb
          clear hd hl2 r1 r2 g1 g2 ht1 ht2 c0 c1 d0 d1 hq
          go_wp2_with fail
          rcases Bool.eq_false_or_eq_true (eqSt xn yn) with hxn' | hxn'
          · have hxn : (!eqSt xn yn) = false := by rw [hxn']; rfl
            refine Reg.wp_valsG (by kernel_rfl) [some 75, some 76, some 77, some 78, some 79, some 80, some 81, some 82, some 83, some 84, some 85, some 86, some 87, some 88, some 89, some 90, some 91, some 92, some 93, some 94, some 95, some 96, some 97, some 98, some 99, some 100, some 101, some 102, some 103] [.pointer (some ⟨w.heap.size, 1, none⟩), (.slice (some ⟨g, o, none⟩) a.grps.length k1), .int .i64 k, .pointer (some ⟨g, o + k * 2, none⟩), .pointer (some ⟨g, o + k * 2 + 0, none⟩), stV xn, .pointer (some ⟨w.heap.size + 1, 1, none⟩), (.slice (some ⟨g', o', none⟩) b.grps.length m1), .int .i64 k, .pointer (some ⟨g', o' + k * 2, none⟩), .pointer (some ⟨g', o' + k * 2 + 0, none⟩), stV yn, .bool false, .bool false, .pointer (some ⟨w.heap.size, 1, none⟩), (.slice (some ⟨g, o, none⟩) a.grps.length k1), .int .i64 k, .pointer (some ⟨g, o + k * 2, none⟩), .pointer (some ⟨g, o + k * 2 + 1, none⟩), .slice pp xp.length cc, .pointer (some ⟨w.heap.size + 1, 1, none⟩), (.slice (some ⟨g', o', none⟩) b.grps.length m1), .int .i64 k, .pointer (some ⟨g', o' + k * 2, none⟩), .pointer (some ⟨g', o' + k * 2 + 1, none⟩), .slice pp' yp.length cc', .bool q, .bool (!q), .bool (!q)] [true, true, true, true, true, true, true, true, true, true, true, true, true, true, true, true, true, true, true, true, true, true, true, true, true, true, true, true, true] [(75, 0), (76, 1), (77, 2), (78, 3), (79, 4), (80, 5), (81, 6), (82, 7), (83, 8), (84, 9), (85, 10), (86, 11), (87, 12), (88, 13), (89, 14), (90, 15), (91, 16), (92, 17), (93, 18), (94, 19), (95, 20), (96, 21), (97, 22), (98, 23), (99, 24), (100, 25), (101, 26), (102, 27), (103, 28)] (by kernel_rfl) (by kernel_rfl) (by kernel_rfl) (by decide) (by kernel_rfl) ?_ ?_
            · intro i op a' w' ho hwd hdp hot hb
              have t2 : a'.tmps[2]? = some _ := (hot 2 (by decide)).trans rfl
              have t3 : a'.tmps[3]? = some _ := (hot 3 (by decide)).trans rfl
              have tv : a'.tmps[6]? = some _ := (hot 6 (by decide)).trans rfl
              have hr := Below.refl w'.heap.size w'
              have cA := (hb.cell (p := ⟨w.heap.size, 1, none⟩) (Nat.lt_of_lt_of_le (at_lt HNA.out) XB.out.size)).trans CAA.out
              have cB := (hb.cell (p := ⟨w.heap.size + 1, 1, none⟩) (Nat.lt_of_lt_of_le (at_lt HNB.out) XB.out.size)).trans CBB.out
              match i, ho, hwd, hdp with
              | 0, ho, hwd, hdp => obtain rfl := Option.some.inj ho; exact wp_fC 1 (by decide) 2 _ rfl t2 ⟨rfl, hr⟩
              | 1, ho, hwd, hdp => obtain rfl := Option.some.inj ho; exact wp_lslG 75 _ _ rfl (hdp 0 (Reg.mem_of (by kernel_rfl)) _ rfl) cA ⟨rfl, hr⟩
              | 2, ho, hwd, hdp => obtain rfl := Option.some.inj ho; exact wp_mvC 6 _ rfl tv ⟨rfl, hr⟩
              | 3, ho, hwd, hdp => obtain rfl := Option.some.inj ho; exact wp_ixG 76 77 _ _ _ _ _ rfl (hdp 1 (Reg.mem_of (by kernel_rfl)) _ rfl) (hdp 2 (Reg.mem_of (by kernel_rfl)) _ rfl) hlt ⟨rfl, hr⟩
              | 4, ho, hwd, hdp => obtain rfl := Option.some.inj ho; exact wp_fG 0 (by decide) 78 _ _ rfl (hdp 3 (Reg.mem_of (by kernel_rfl)) _ rfl) ⟨rfl, hr⟩
              | 5, ho, hwd, hdp => obtain rfl := Option.some.inj ho; exact wp_load_str 79 _ _ rfl (hdp 4 (Reg.mem_of (by kernel_rfl)) _ rfl) ((hb.cell (p := ⟨g, o + k * 2 + 0, none⟩) hg).trans C0.out) ⟨rfl, hr⟩
              | 6, ho, hwd, hdp => obtain rfl := Option.some.inj ho; exact wp_fC 1 (by decide) 3 _ rfl t3 ⟨rfl, hr⟩
              | 7, ho, hwd, hdp => obtain rfl := Option.some.inj ho; exact wp_lslG 81 _ _ rfl (hdp 6 (Reg.mem_of (by kernel_rfl)) _ rfl) cB ⟨rfl, hr⟩
              | 8, ho, hwd, hdp => obtain rfl := Option.some.inj ho; exact wp_mvC 6 _ rfl tv ⟨rfl, hr⟩
              | 9, ho, hwd, hdp => obtain rfl := Option.some.inj ho; exact wp_ixG 82 83 _ _ _ _ _ rfl (hdp 7 (Reg.mem_of (by kernel_rfl)) _ rfl) (hdp 8 (Reg.mem_of (by kernel_rfl)) _ rfl) HK.out ⟨rfl, hr⟩
              | 10, ho, hwd, hdp => obtain rfl := Option.some.inj ho; exact wp_fG 0 (by decide) 84 _ _ rfl (hdp 9 (Reg.mem_of (by kernel_rfl)) _ rfl) ⟨rfl, hr⟩
              | 11, ho, hwd, hdp => obtain rfl := Option.some.inj ho; exact wp_load_str 85 _ _ rfl (hdp 10 (Reg.mem_of (by kernel_rfl)) _ rfl) ((hb.cell (p := ⟨g', o' + k * 2 + 0, none⟩) hg').trans D0.out) ⟨rfl, hr⟩
              | 12, ho, hwd, hdp => obtain rfl := Option.some.inj ho; exact wp_neqS 80 86 xn yn rfl (hdp 5 (Reg.mem_of (by kernel_rfl)) _ rfl) (hdp 11 (Reg.mem_of (by kernel_rfl)) _ rfl) ⟨by rw [hxn]; rfl, hr⟩
              | 13, ho, hwd, hdp => obtain rfl := Option.some.inj ho; exact wp_mvC 87 _ rfl (hdp 12 (Reg.mem_of (by kernel_rfl)) _ rfl) ⟨rfl, hr⟩
              | 14, ho, hwd, hdp => obtain rfl := Option.some.inj ho; exact wp_fC 1 (by decide) 2 _ rfl t2 ⟨rfl, hr⟩
              | 15, ho, hwd, hdp => obtain rfl := Option.some.inj ho; exact wp_lslG 89 _ _ rfl (hdp 14 (Reg.mem_of (by kernel_rfl)) _ rfl) cA ⟨rfl, hr⟩
              | 16, ho, hwd, hdp => obtain rfl := Option.some.inj ho; exact wp_mvC 6 _ rfl tv ⟨rfl, hr⟩
              | 17, ho, hwd, hdp => obtain rfl := Option.some.inj ho; exact wp_ixG 90 91 _ _ _ _ _ rfl (hdp 15 (Reg.mem_of (by kernel_rfl)) _ rfl) (hdp 16 (Reg.mem_of (by kernel_rfl)) _ rfl) hlt ⟨rfl, hr⟩
              | 18, ho, hwd, hdp => obtain rfl := Option.some.inj ho; exact wp_fG 1 (by decide) 92 _ _ rfl (hdp 17 (Reg.mem_of (by kernel_rfl)) _ rfl) ⟨rfl, hr⟩
              | 19, ho, hwd, hdp => obtain rfl := Option.some.inj ho; exact wp_lslS 93 _ _ rfl (hdp 18 (Reg.mem_of (by kernel_rfl)) _ rfl) ((hb.cell (p := ⟨g, o + k * 2 + 1, none⟩) hg).trans C1.out) ⟨rfl, hr⟩
              | 20, ho, hwd, hdp => obtain rfl := Option.some.inj ho; exact wp_fC 1 (by decide) 3 _ rfl t3 ⟨rfl, hr⟩
              | 21, ho, hwd, hdp => obtain rfl := Option.some.inj ho; exact wp_lslG 95 _ _ rfl (hdp 20 (Reg.mem_of (by kernel_rfl)) _ rfl) cB ⟨rfl, hr⟩
              | 22, ho, hwd, hdp => obtain rfl := Option.some.inj ho; exact wp_mvC 6 _ rfl tv ⟨rfl, hr⟩
              | 23, ho, hwd, hdp => obtain rfl := Option.some.inj ho; exact wp_ixG 96 97 _ _ _ _ _ rfl (hdp 21 (Reg.mem_of (by kernel_rfl)) _ rfl) (hdp 22 (Reg.mem_of (by kernel_rfl)) _ rfl) HK.out ⟨rfl, hr⟩
              | 24, ho, hwd, hdp => obtain rfl := Option.some.inj ho; exact wp_fG 1 (by decide) 98 _ _ rfl (hdp 23 (Reg.mem_of (by kernel_rfl)) _ rfl) ⟨rfl, hr⟩
              | 25, ho, hwd, hdp => obtain rfl := Option.some.inj ho; exact wp_lslS 99 _ _ rfl (hdp 24 (Reg.mem_of (by kernel_rfl)) _ rfl) ((hb.cell (p := ⟨g', o' + k * 2 + 1, none⟩) hg').trans D1.out) ⟨rfl, hr⟩
              | 26, ho, hwd, hdp => obtain rfl := Option.some.inj ho; exact wp_rsame 94 100 _ _ _ rfl (hdp 19 (Reg.mem_of (by kernel_rfl)) _ rfl) (hdp 25 (Reg.mem_of (by kernel_rfl)) _ rfl) ((rsame_calls xp yp pp pp' _ _ cc cc' rfl rfl w' (tx_rd (HT1.out.tx.below hb)) (tx_rd (HT2.out.tx.below hb))).mono (by rintro e w2 ⟨r, rfl, hr2, hb2⟩; exact ⟨_, rfl, by rw [show r = q from Bool.eq_iff_iff.2 (hr2.trans HQ.out.symm)]; rfl, hb2⟩))
              | 27, ho, hwd, hdp => obtain rfl := Option.some.inj ho; exact wp_not 101 _ rfl (hdp 26 (Reg.mem_of (by kernel_rfl)) _ rfl) ⟨rfl, hr⟩
              | 28, ho, hwd, hdp => obtain rfl := Option.some.inj ho; exact wp_pickT 88 102 _ rfl (hdp 13 (Reg.mem_of (by kernel_rfl)) _ rfl) (hdp 27 (Reg.mem_of (by kernel_rfl)) _ rfl) ⟨rfl, hr⟩
              | i + 29, ho, _, _ => exact absurd ho (by simp)
            · intro us w' hul hus hb
              match us, hul, hus with
              | [x0, x1, x2, x3, x4, x5, x6, x7, x8, x9, x10, x11, x12, x13, x14, x15, x16, x17, x18, x19, x20, x21, x22, x23, x24, x25, x26, x27, x28], _, hus =>
                have h8 : x28 = .bool (!q) := hus 28 (103, 28) _ rfl rfl
                clear hus
                have XC := Lib.hid (XB.out.trans (hb.mono XB.out.size))
                clear hb
                simp only [List.map, List.zip, List.zipWith, Reg.puts, Act.put, List.setIfInBounds_toArray, List.set_cons_succ, List.set_cons_zero]
                cases q with
                | true =>
                  have HX := Lib.hid (show ((xn, xp) : Bs × List Bs) = (yn, yp) by rw [eqSt_iff.1 hxn', HQ.out.1 rfl])
                  have h9 : x28 = .bool false := h8
                  clear h8 hxn hxn'
                  subst h9
                  go_wp2_with fail
                  go_roundw
                  case rel => exact ⟨k + 1, by omega, by go_num, XC.out, by rw [← HD.out, HX.out]; simp⟩
                  case measure => simp [Tree.intOf]; omega
                | false =>
                  have HX := Lib.hid (show ¬ a = b from fun e => by
                    have := HD.out.2 (by rw [e])
                    rw [List.cons.injEq, Prod.mk.injEq] at this
                    have := HQ.out.2 this.1.2
                    cases this)
                  have h9 : x28 = .bool true := h8
                  clear h8 hxn hxn'
                  subst h9
                  go_wp2_with fail
                  go_ret
                  exact ⟨false, rfl, ⟨fun h => (by cases h), fun h => absurd h HX.out⟩, BW.out.trans (XC.out.mono BW.out.size)⟩
          · have hxn : (!eqSt xn yn) = true := by rw [hxn']; rfl
            refine Reg.wp_valsG (by kernel_rfl) [some 75, some 76, some 77, some 78, some 79, some 80, some 81, some 82, some 83, some 84, some 85, some 86, some 87, some 88, some 89, some 90, some 91, some 92, some 93, some 94, some 95, some 96, some 97, some 98, some 99, some 100, some 101, some 102, some 103] [.pointer (some ⟨w.heap.size, 1, none⟩), (.slice (some ⟨g, o, none⟩) a.grps.length k1), .int .i64 k, .pointer (some ⟨g, o + k * 2, none⟩), .pointer (some ⟨g, o + k * 2 + 0, none⟩), stV xn, .pointer (some ⟨w.heap.size + 1, 1, none⟩), (.slice (some ⟨g', o', none⟩) b.grps.length m1), .int .i64 k, .pointer (some ⟨g', o' + k * 2, none⟩), .pointer (some ⟨g', o' + k * 2 + 0, none⟩), stV yn, .bool true, .bool true, .pointer (some ⟨w.heap.size, 1, none⟩), (.slice (some ⟨g, o, none⟩) a.grps.length k1), .int .i64 k, .pointer (some ⟨g, o + k * 2, none⟩), .pointer (some ⟨g, o + k * 2 + 1, none⟩), .slice pp xp.length cc, .pointer (some ⟨w.heap.size + 1, 1, none⟩), (.slice (some ⟨g', o', none⟩) b.grps.length m1), .int .i64 k, .pointer (some ⟨g', o' + k * 2, none⟩), .pointer (some ⟨g', o' + k * 2 + 1, none⟩), .slice pp' yp.length cc', .bool q, .bool (!q), .bool true] [true, true, true, true, true, true, true, true, true, true, true, true, true, true, false, false, false, false, false, false, false, false, false, false, false, false, false, false, true] [(75, 0), (76, 1), (77, 2), (78, 3), (79, 4), (80, 5), (81, 6), (82, 7), (83, 8), (84, 9), (85, 10), (86, 11), (87, 12), (88, 13), (89, 14), (90, 15), (91, 16), (92, 17), (93, 18), (94, 19), (95, 20), (96, 21), (97, 22), (98, 23), (99, 24), (100, 25), (101, 26), (102, 27), (103, 28)] (by kernel_rfl) (by kernel_rfl) (by kernel_rfl) (by decide) (by kernel_rfl) ?_ ?_
            · intro i op a' w' ho hwd hdp hot hb
              have t2 : a'.tmps[2]? = some _ := (hot 2 (by decide)).trans rfl
              have t3 : a'.tmps[3]? = some _ := (hot 3 (by decide)).trans rfl
              have tv : a'.tmps[6]? = some _ := (hot 6 (by decide)).trans rfl
              have hr := Below.refl w'.heap.size w'
              have cA := (hb.cell (p := ⟨w.heap.size, 1, none⟩) (Nat.lt_of_lt_of_le (at_lt HNA.out) XB.out.size)).trans CAA.out
              have cB := (hb.cell (p := ⟨w.heap.size + 1, 1, none⟩) (Nat.lt_of_lt_of_le (at_lt HNB.out) XB.out.size)).trans CBB.out
              match i, ho, hwd, hdp with
              | 0, ho, hwd, hdp => obtain rfl := Option.some.inj ho; exact wp_fC 1 (by decide) 2 _ rfl t2 ⟨rfl, hr⟩
              | 1, ho, hwd, hdp => obtain rfl := Option.some.inj ho; exact wp_lslG 75 _ _ rfl (hdp 0 (Reg.mem_of (by kernel_rfl)) _ rfl) cA ⟨rfl, hr⟩
              | 2, ho, hwd, hdp => obtain rfl := Option.some.inj ho; exact wp_mvC 6 _ rfl tv ⟨rfl, hr⟩
              | 3, ho, hwd, hdp => obtain rfl := Option.some.inj ho; exact wp_ixG 76 77 _ _ _ _ _ rfl (hdp 1 (Reg.mem_of (by kernel_rfl)) _ rfl) (hdp 2 (Reg.mem_of (by kernel_rfl)) _ rfl) hlt ⟨rfl, hr⟩
              | 4, ho, hwd, hdp => obtain rfl := Option.some.inj ho; exact wp_fG 0 (by decide) 78 _ _ rfl (hdp 3 (Reg.mem_of (by kernel_rfl)) _ rfl) ⟨rfl, hr⟩
              | 5, ho, hwd, hdp => obtain rfl := Option.some.inj ho; exact wp_load_str 79 _ _ rfl (hdp 4 (Reg.mem_of (by kernel_rfl)) _ rfl) ((hb.cell (p := ⟨g, o + k * 2 + 0, none⟩) hg).trans C0.out) ⟨rfl, hr⟩
              | 6, ho, hwd, hdp => obtain rfl := Option.some.inj ho; exact wp_fC 1 (by decide) 3 _ rfl t3 ⟨rfl, hr⟩
              | 7, ho, hwd, hdp => obtain rfl := Option.some.inj ho; exact wp_lslG 81 _ _ rfl (hdp 6 (Reg.mem_of (by kernel_rfl)) _ rfl) cB ⟨rfl, hr⟩
              | 8, ho, hwd, hdp => obtain rfl := Option.some.inj ho; exact wp_mvC 6 _ rfl tv ⟨rfl, hr⟩
              | 9, ho, hwd, hdp => obtain rfl := Option.some.inj ho; exact wp_ixG 82 83 _ _ _ _ _ rfl (hdp 7 (Reg.mem_of (by kernel_rfl)) _ rfl) (hdp 8 (Reg.mem_of (by kernel_rfl)) _ rfl) HK.out ⟨rfl, hr⟩
              | 10, ho, hwd, hdp => obtain rfl := Option.some.inj ho; exact wp_fG 0 (by decide) 84 _ _ rfl (hdp 9 (Reg.mem_of (by kernel_rfl)) _ rfl) ⟨rfl, hr⟩
              | 11, ho, hwd, hdp => obtain rfl := Option.some.inj ho; exact wp_load_str 85 _ _ rfl (hdp 10 (Reg.mem_of (by kernel_rfl)) _ rfl) ((hb.cell (p := ⟨g', o' + k * 2 + 0, none⟩) hg').trans D0.out) ⟨rfl, hr⟩
              | 12, ho, hwd, hdp => obtain rfl := Option.some.inj ho; exact wp_neqS 80 86 xn yn rfl (hdp 5 (Reg.mem_of (by kernel_rfl)) _ rfl) (hdp 11 (Reg.mem_of (by kernel_rfl)) _ rfl) ⟨by rw [hxn]; rfl, hr⟩
              | 13, ho, hwd, hdp => obtain rfl := Option.some.inj ho; exact wp_mvC 87 _ rfl (hdp 12 (Reg.mem_of (by kernel_rfl)) _ rfl) ⟨rfl, hr⟩
              | 14, ho, hwd, hdp => exact absurd hwd (by decide)
              | 15, ho, hwd, hdp => exact absurd hwd (by decide)
              | 16, ho, hwd, hdp => exact absurd hwd (by decide)
              | 17, ho, hwd, hdp => exact absurd hwd (by decide)
              | 18, ho, hwd, hdp => exact absurd hwd (by decide)
              | 19, ho, hwd, hdp => exact absurd hwd (by decide)
              | 20, ho, hwd, hdp => exact absurd hwd (by decide)
              | 21, ho, hwd, hdp => exact absurd hwd (by decide)
              | 22, ho, hwd, hdp => exact absurd hwd (by decide)
              | 23, ho, hwd, hdp => exact absurd hwd (by decide)
              | 24, ho, hwd, hdp => exact absurd hwd (by decide)
              | 25, ho, hwd, hdp => exact absurd hwd (by decide)
              | 26, ho, hwd, hdp => exact absurd hwd (by decide)
              | 27, ho, hwd, hdp => exact absurd hwd (by decide)
              | 28, ho, hwd, hdp => obtain rfl := Option.some.inj ho; exact wp_pickT1 88 102 rfl (hdp 13 (Reg.mem_of (by kernel_rfl)) _ rfl) ⟨rfl, hr⟩
              | i + 29, ho, _, _ => exact absurd ho (by simp)
            · intro us w' hul hus hb
              match us, hul, hus with
              | [x0, x1, x2, x3, x4, x5, x6, x7, x8, x9, x10, x11, x12, x13, x14, x15, x16, x17, x18, x19, x20, x21, x22, x23, x24, x25, x26, x27, x28], _, hus =>
                have h8 : x28 = .bool true := hus 28 (103, 28) _ rfl rfl
                clear hus
                have XC := Lib.hid (XB.out.trans (hb.mono XB.out.size))
                clear hb
                simp only [List.map, List.zip, List.zipWith, Reg.puts, Act.put, List.setIfInBounds_toArray, List.set_cons_succ, List.set_cons_zero]
                have HX := Lib.hid (show ¬ a = b from fun e => by
                  have := HD.out.2 (by rw [e])
                  rw [List.cons.injEq, Prod.mk.injEq] at this
                  rw [eqSt_iff.2 this.1.1] at hxn'; cases hxn')
                clear hxn hxn'
                subst h8
                go_wp2_with fail
                go_ret
                exact ⟨false, rfl, ⟨fun h => (by cases h), fun h => absurd h HX.out⟩, BW.out.trans (XC.out.mono BW.out.size)⟩
        · have E1 := Lib.hid (show a.grps = b.grps from hd.1 (by rw [List.drop_eq_nil_of_le (Nat.le_refl _), List.drop_eq_nil_of_le (by have := L1.out; omega)]))
          clear hd r1 r2 g1 g2
          have NA := (XB.out.block _ (at_lt HNA.out)).trans HNA.out
          have NB := (XB.out.block _ (at_lt HNB.out)).trans HNB.out
          have ca := (at_cell NA 2 : _ = some (Value.slice p2 a.usrs.length k2))
          have cb := (at_cell NB 2 : _ = some (Value.slice q2 b.usrs.length m2))
          clear NA NB
          go_wp2_with fail
          go_loopw [7] (fun i wr => ∃ k : Nat, k ≤ a.usrs.length ∧ i = .int .i64 k ∧ Below W.heap.size W wr ∧ (a.usrs.drop k = b.usrs.drop k ↔ a.usrs = b.usrs)) (fun i _ => a.usrs.length - (Tree.intOf i).toNat)
          case atStart => exact ⟨0, by omega, rfl, XB.out, Iff.rfl⟩
          case round =>
            clear XB ca cb
            obtain ⟨k, hk, rfl, hb, hd⟩ := hrel
            rename World => wr
            have XB := Lib.hid hb
            clear hb
            have NA := (XB.out.block _ (at_lt HNA.out)).trans HNA.out
            have NB := (XB.out.block _ (at_lt HNB.out)).trans HNB.out
            have BR := Lib.hid (BW.out.trans (XB.out.mono BW.out.size))
            obtain ⟨_, _, hv, r1⟩ := (HA.out.below BR.out).usrs
            obtain ⟨_, _, hu, r2⟩ := (HB.out.below BR.out).usrs
            injection hv with z1 z5 z2
            injection hu with z3 z6 z4
            subst z1 z2 z3 z4
            clear z5 z6
            have hm1 := r1.max
            have hc1 := r1.cap
            have hm2 := r2.max
            have hc2 := r2.cap
            unfold maxLen at hm1 hm2
            have ca := (at_cell NA 2 : _ = some (Value.slice p2 a.usrs.length k2))
            have cb := (at_cell NB 2 : _ = some (Value.slice q2 b.usrs.length m2))
            clear NA NB
            rcases Nat.lt_or_eq_of_le hk with hlt | rfl
            · have hl2 : k < b.usrs.length := by rw [← L2.out]; exact hlt
              obtain ⟨g, o, rfl, hg, c1⟩ := rd_atU r1 rfl hlt
              obtain ⟨g', o', rfl, hg', c2⟩ := rd_atU r2 rfl hl2
              have q1 : (k : Int) < (a.usrs.length : Int) := by omega
              rw [List.drop_eq_getElem_cons hlt, List.drop_eq_getElem_cons hl2] at hd
              have HD := Lib.hid hd
              have HK := Lib.hid hl2
              have C1 := Lib.hid c1
              have C2 := Lib.hid c2
              generalize a.usrs[k] = x at *
              generalize b.usrs[k] = y at *
              clear hd hl2 c1 c2 r1 r2
              go_wp2_with fail
              refine Reg.wp_vals (by kernel_rfl) [111, 112, 113, 114, 115, 116, 117, 118, 119, 120, 121] [.pointer (some ⟨w.heap.size, 2, none⟩), (.slice (some ⟨g, o, none⟩) a.usrs.length k2), .int .i64 k, .pointer (some ⟨g, o + k * 2, none⟩), usV x, .pointer (some ⟨w.heap.size + 1, 2, none⟩), (.slice (some ⟨g', o', none⟩) b.usrs.length m2), .int .i64 k, .pointer (some ⟨g', o' + k * 2, none⟩), usV y, .bool (!eqUs x y)] (by kernel_rfl) ?_ ?_
              · intro i op a' ho hdp hot
                have t2 : a'.tmps[2]? = some _ := (hot 2 (by decide)).trans rfl
                have t3 : a'.tmps[3]? = some _ := (hot 3 (by decide)).trans rfl
                have tv : a'.tmps[7]? = some _ := (hot 7 (by decide)).trans rfl
                match i, ho, hdp with
                | 0, ho, hdp => obtain rfl := Option.some.inj ho; exact wp_fC 2 (by decide) 2 _ rfl t2 ⟨rfl, rfl⟩
                | 1, ho, hdp => obtain rfl := Option.some.inj ho; exact wp_lslU 111 _ _ rfl (hdp 0 (Reg.mem_of (by kernel_rfl))) ca ⟨rfl, rfl⟩
                | 2, ho, hdp => obtain rfl := Option.some.inj ho; exact wp_mvU 7 _ rfl tv ⟨rfl, rfl⟩
                | 3, ho, hdp => obtain rfl := Option.some.inj ho; exact wp_ixU 112 113 _ _ _ _ _ rfl (hdp 1 (Reg.mem_of (by kernel_rfl))) (hdp 2 (Reg.mem_of (by kernel_rfl))) hlt ⟨rfl, rfl⟩
                | 4, ho, hdp => obtain rfl := Option.some.inj ho; exact wp_ldU 114 _ _ x rfl (hdp 3 (Reg.mem_of (by kernel_rfl))) C1.out ⟨rfl, rfl⟩
                | 5, ho, hdp => obtain rfl := Option.some.inj ho; exact wp_fC 2 (by decide) 3 _ rfl t3 ⟨rfl, rfl⟩
                | 6, ho, hdp => obtain rfl := Option.some.inj ho; exact wp_lslU 116 _ _ rfl (hdp 5 (Reg.mem_of (by kernel_rfl))) cb ⟨rfl, rfl⟩
                | 7, ho, hdp => obtain rfl := Option.some.inj ho; exact wp_mvU 7 _ rfl tv ⟨rfl, rfl⟩
                | 8, ho, hdp => obtain rfl := Option.some.inj ho; exact wp_ixU 117 118 _ _ _ _ _ rfl (hdp 6 (Reg.mem_of (by kernel_rfl))) (hdp 7 (Reg.mem_of (by kernel_rfl))) HK.out ⟨rfl, rfl⟩
                | 9, ho, hdp => obtain rfl := Option.some.inj ho; exact wp_ldU 119 _ _ y rfl (hdp 8 (Reg.mem_of (by kernel_rfl))) C2.out ⟨rfl, rfl⟩
                | 10, ho, hdp => obtain rfl := Option.some.inj ho; exact wp_neqU 115 120 x y rfl (hdp 4 (Reg.mem_of (by kernel_rfl))) (hdp 9 (Reg.mem_of (by kernel_rfl))) ⟨rfl, rfl⟩
                | i + 11, ho, _ => exact absurd ho (by simp)
              · intro us hul hus
                match us, hul, hus with
                | [x0, x1, x2, x3, x4, x5, x6, x7, x8, x9, x10], _, hus =>
                  have h8 : x10 = .bool (!eqUs x y) := hus 10 _ rfl
                  clear hus
                  have XC := Lib.hid (show Below W.heap.size W wr.drew from below_drew XB.out)
                  simp only [List.zip, List.zipWith, Reg.puts, Act.put, List.setIfInBounds_toArray, List.set_cons_succ, List.set_cons_zero]
                  rcases Bool.eq_false_or_eq_true (eqUs x y) with hxy | hxy
                  · have HX := Lib.hid (eqUs_iff.1 hxy)
                    have h9 : x10 = .bool false := h8.trans (by rw [hxy]; rfl)
                    clear hxy h8
                    subst h9
                    go_wp2_with fail
                    go_roundw
                    case rel => exact ⟨k + 1, by omega, by go_num, XC.out, by rw [← HD.out, HX.out]; simp⟩
                    case measure => simp [Tree.intOf]; omega
                  · have HX := Lib.hid (show ¬ a = b from fun e => by
                      have := HD.out.2 (by rw [e])
                      rw [List.cons.injEq] at this
                      rw [eqUs_iff.2 this.1] at hxy; cases hxy)
                    have h9 : x10 = .bool true := h8.trans (by rw [hxy]; rfl)
                    clear hxy h8
                    subst h9
                    go_wp2_with fail
                    go_ret
                    exact ⟨false, rfl, ⟨fun h => (by cases h), fun h => absurd h HX.out⟩, BW.out.trans (XC.out.mono BW.out.size)⟩
            · have E2 := Lib.hid (show a.usrs = b.usrs from hd.1 (by rw [List.drop_eq_nil_of_le (Nat.le_refl _), List.drop_eq_nil_of_le (by have := L2.out; omega)]))
              clear hd r1 r2
              have NA := (XB.out.block _ (at_lt HNA.out)).trans HNA.out
              have NB := (XB.out.block _ (at_lt HNB.out)).trans HNB.out
              have ca := (at_cell NA 3 : _ = some (Value.slice p3 a.accs.length k3))
              have cb := (at_cell NB 3 : _ = some (Value.slice q3 b.accs.length m3))
              clear NA NB
              go_wp2_with fail
              go_loopw [8] (fun i wr => ∃ k : Nat, k ≤ a.accs.length ∧ i = .int .i64 k ∧ Below W.heap.size W wr ∧ (a.accs.drop k = b.accs.drop k ↔ a.accs = b.accs)) (fun i _ => a.accs.length - (Tree.intOf i).toNat)
              case atStart => exact ⟨0, by omega, rfl, XB.out, Iff.rfl⟩
              case round =>
                clear XB ca cb
                obtain ⟨k, hk, rfl, hb, hd⟩ := hrel
                rename World => wr
                have XB := Lib.hid hb
                clear hb
                have NA := (XB.out.block _ (at_lt HNA.out)).trans HNA.out
                have NB := (XB.out.block _ (at_lt HNB.out)).trans HNB.out
                have BR := Lib.hid (BW.out.trans (XB.out.mono BW.out.size))
                obtain ⟨_, _, hv, r1⟩ := (HA.out.below BR.out).accs
                obtain ⟨_, _, hu, r2⟩ := (HB.out.below BR.out).accs
                injection hv with z1 z5 z2
                injection hu with z3 z6 z4
                subst z1 z2 z3 z4
                clear z5 z6
                have hm1 := r1.max
                have hc1 := r1.cap
                have hm2 := r2.max
                have hc2 := r2.cap
                unfold maxLen at hm1 hm2
                have ca := (at_cell NA 3 : _ = some (Value.slice p3 a.accs.length k3))
                have cb := (at_cell NB 3 : _ = some (Value.slice q3 b.accs.length m3))
                clear NA NB
                rcases Nat.lt_or_eq_of_le hk with hlt | rfl
                · have hl2 : k < b.accs.length := by rw [← L3.out]; exact hlt
                  obtain ⟨g, o, rfl, hg, c1⟩ := rd_atA r1 rfl hlt
                  obtain ⟨g', o', rfl, hg', c2⟩ := rd_atA r2 rfl hl2
                  have q1 : (k : Int) < (a.accs.length : Int) := by omega
                  rw [List.drop_eq_getElem_cons hlt, List.drop_eq_getElem_cons hl2] at hd
                  have HD := Lib.hid hd
                  have HK := Lib.hid hl2
                  have C1 := Lib.hid c1
                  have C2 := Lib.hid c2
                  generalize a.accs[k] = x at *
                  generalize b.accs[k] = y at *
                  clear hd hl2 c1 c2 r1 r2
                  go_wp2_with fail
                  refine Reg.wp_vals (by kernel_rfl) [129, 130, 131, 132, 133, 134, 135, 136, 137, 138, 139] [.pointer (some ⟨w.heap.size, 3, none⟩), (.slice (some ⟨g, o, none⟩) a.accs.length k3), .int .i64 k, .pointer (some ⟨g, o + k * 3, none⟩), acV x, .pointer (some ⟨w.heap.size + 1, 3, none⟩), (.slice (some ⟨g', o', none⟩) b.accs.length m3), .int .i64 k, .pointer (some ⟨g', o' + k * 3, none⟩), acV y, .bool (!eqAc x y)] (by kernel_rfl) ?_ ?_
                  · intro i op a' ho hdp hot
                    have t2 : a'.tmps[2]? = some _ := (hot 2 (by decide)).trans rfl
                    have t3 : a'.tmps[3]? = some _ := (hot 3 (by decide)).trans rfl
                    have tv : a'.tmps[8]? = some _ := (hot 8 (by decide)).trans rfl
                    match i, ho, hdp with
                    | 0, ho, hdp => obtain rfl := Option.some.inj ho; exact wp_fC 3 (by decide) 2 _ rfl t2 ⟨rfl, rfl⟩
                    | 1, ho, hdp => obtain rfl := Option.some.inj ho; exact wp_lslA 129 _ _ rfl (hdp 0 (Reg.mem_of (by kernel_rfl))) ca ⟨rfl, rfl⟩
                    | 2, ho, hdp => obtain rfl := Option.some.inj ho; exact wp_mvA 8 _ rfl tv ⟨rfl, rfl⟩
                    | 3, ho, hdp => obtain rfl := Option.some.inj ho; exact wp_ixA 130 131 _ _ _ _ _ rfl (hdp 1 (Reg.mem_of (by kernel_rfl))) (hdp 2 (Reg.mem_of (by kernel_rfl))) hlt ⟨rfl, rfl⟩
                    | 4, ho, hdp => obtain rfl := Option.some.inj ho; exact wp_ldA 132 _ _ x rfl (hdp 3 (Reg.mem_of (by kernel_rfl))) C1.out ⟨rfl, rfl⟩
                    | 5, ho, hdp => obtain rfl := Option.some.inj ho; exact wp_fC 3 (by decide) 3 _ rfl t3 ⟨rfl, rfl⟩
                    | 6, ho, hdp => obtain rfl := Option.some.inj ho; exact wp_lslA 134 _ _ rfl (hdp 5 (Reg.mem_of (by kernel_rfl))) cb ⟨rfl, rfl⟩
                    | 7, ho, hdp => obtain rfl := Option.some.inj ho; exact wp_mvA 8 _ rfl tv ⟨rfl, rfl⟩
                    | 8, ho, hdp => obtain rfl := Option.some.inj ho; exact wp_ixA 135 136 _ _ _ _ _ rfl (hdp 6 (Reg.mem_of (by kernel_rfl))) (hdp 7 (Reg.mem_of (by kernel_rfl))) HK.out ⟨rfl, rfl⟩
                    | 9, ho, hdp => obtain rfl := Option.some.inj ho; exact wp_ldA 137 _ _ y rfl (hdp 8 (Reg.mem_of (by kernel_rfl))) C2.out ⟨rfl, rfl⟩
                    | 10, ho, hdp => obtain rfl := Option.some.inj ho; exact wp_neqA 133 138 x y rfl (hdp 4 (Reg.mem_of (by kernel_rfl))) (hdp 9 (Reg.mem_of (by kernel_rfl))) ⟨rfl, rfl⟩
                    | i + 11, ho, _ => exact absurd ho (by simp)
                  · intro us hul hus
                    match us, hul, hus with
                    | [x0, x1, x2, x3, x4, x5, x6, x7, x8, x9, x10], _, hus =>
                      have h8 : x10 = .bool (!eqAc x y) := hus 10 _ rfl
                      clear hus
                      have XC := Lib.hid (show Below W.heap.size W wr.drew from below_drew XB.out)
                      simp only [List.zip, List.zipWith, Reg.puts, Act.put, List.setIfInBounds_toArray, List.set_cons_succ, List.set_cons_zero]
                      rcases Bool.eq_false_or_eq_true (eqAc x y) with hxy | hxy
                      · have HX := Lib.hid (eqAc_iff.1 hxy)
                        have h9 : x10 = .bool false := h8.trans (by rw [hxy]; rfl)
                        clear hxy h8
                        subst h9
                        go_wp2_with fail
                        go_roundw
                        case rel => exact ⟨k + 1, by omega, by go_num, XC.out, by rw [← HD.out, HX.out]; simp⟩
                        case measure => simp [Tree.intOf]; omega
                      · have HX := Lib.hid (show ¬ a = b from fun e => by
                          have := HD.out.2 (by rw [e])
                          rw [List.cons.injEq] at this
                          rw [eqAc_iff.2 this.1] at hxy; cases hxy)
                        have h9 : x10 = .bool true := h8.trans (by rw [hxy]; rfl)
                        clear hxy h8
                        subst h9
                        go_wp2_with fail
                        go_ret
                        exact ⟨false, rfl, ⟨fun h => (by cases h), fun h => absurd h HX.out⟩, BW.out.trans (XC.out.mono BW.out.size)⟩
                · have E3 := Lib.hid (show a.accs = b.accs from hd.1 (by rw [List.drop_eq_nil_of_le (Nat.le_refl _), List.drop_eq_nil_of_le (by have := L3.out; omega)]))
                  clear hd r1 r2
                  have HX := Lib.hid (cf_ext' E0.out E1.out E2.out E3.out E4.out)
                  go_wp2_with fail
                  go_ret
                  exact ⟨true, rfl, ⟨fun _ => HX.out, fun _ => rfl⟩, BR.out⟩
end Go.Proofs.YtajfdachpdkbcaaGreatDoor.Conf
end

section
namespace Go.Proofs.YtajfdachpdkbcaaGreatDoor.Conf
open Go.RowKit Go.Proofs.YtajfdachpdkbcaaGreatDoor.Own Go.Proofs.YtajfdachpdkbcaaGreatDoor.Rw Go.Proofs.YtajfdachpdkbcaaGreatDoor.Tree

theorem rd_nil (w : World) (k : Nat) : Rd w k none 0 0 [] := ⟨Nat.le_refl _, by unfold maxLen; decide, by simp, .inl rfl⟩
theorem cfR_empty (w : World) : CfR w (.slice none 0 0) (.slice none 0 0) (.slice none 0 0) (.slice none 0 0) empty :=
  ⟨⟨none, 0, rfl, rd_nil w 10⟩, ⟨none, 0, [], rfl, rd_nil w 2, .nil⟩, ⟨none, 0, rfl, rd_nil w 2⟩, ⟨none, 0, rfl, rd_nil w 3⟩⟩
set_option maxRecDepth 100000 in
set_option maxHeartbeats 16000000 in
theorem back_walk (s : ByteArray) (w : World) (hT : Flt.Tab w) :
    Calls Tryz.prog 3 #[.string s] w fun e w' => e = .returned (.bool true) ∧ Below w.heap.size w w' := by
  obtain ⟨t, rfl⟩ : ∃ t : Bs, s = ⟨t.toArray⟩ := ⟨s.data.toList, by simp⟩
  have HTab := Lib.hid hT
  clear hT
  by_cases hs : 3000 < t.length
  · have q1 : (3000 : Int) < (t.length : Int) := by omega
    clear hs
    go_enter Tryz.func3, Tryz.ntmps3
    go_wp2_with (go_at_call 6; refine (works_calls _ HTab.out).mono ?_; rintro e w1 ⟨rfl, hb⟩)
    go_ret
    exact ⟨rfl, hb⟩
  · have q1 : ¬ (3000 : Int) < (t.length : Int) := by omega
    have HS := Lib.hid hs
    clear hs
    obtain ⟨rz, hrz⟩ : ∃ rz, loadT t = rz := ⟨_, rfl⟩
    have HRZ := Lib.hid hrz
    have HL := load_calls t w
    rw [hrz] at HL
    have HL := Lib.hid HL
    clear hrz
    go_enter Tryz.func3, Tryz.ntmps3
    go_wp2_with fail
    refine HL.out.mono ?_
    clear HL
    intro e w1 hp
    cases hp with
    | @bad u c n _ he hb1 =>
      obtain ⟨T, x, rfl⟩ := he.some
      have A1 := Lib.hid ((Below.refl w1.heap.size w1).alloc (Nat.le_refl _) (.cells #[.slice none 0 0, .slice none 0 0, .slice none 0 0, .slice none 0 0, .string ⟨#[]⟩, .string ⟨#[]⟩, .string ⟨#[]⟩, .string ⟨#[]⟩, .string ⟨#[]⟩, .string ⟨#[]⟩, .string ⟨#[]⟩, .string ⟨#[]⟩, .string ⟨#[]⟩, .string ⟨#[]⟩] 29))
      have B1 := Lib.hid (hb1.trans (A1.out.mono hb1.size))
      have HP := print_conf empty _ _ _ _ [] [] [] [] [] [] [] [] [] [] (w1.alloc (.cells #[.slice none 0 0, .slice none 0 0, .slice none 0 0, .slice none 0 0, .string ⟨#[]⟩, .string ⟨#[]⟩, .string ⟨#[]⟩, .string ⟨#[]⟩, .string ⟨#[]⟩, .string ⟨#[]⟩, .string ⟨#[]⟩, .string ⟨#[]⟩, .string ⟨#[]⟩, .string ⟨#[]⟩] 29)) (cfR_empty _) rfl (ok_szd ok_empty)
      have HP := Lib.hid HP
      clear he hb1
      unfold confV at HP ⊢
      go_wp2_with fail
      refine HP.out.mono ?_
      rintro e w2 ⟨rfl, hb2⟩
      have B2 := Lib.hid (B1.out.trans (hb2.mono B1.out.size))
      clear hb2 HP
      have HW := Lib.hid (works_calls w2 (HTab.out.below B2.out))
      go_wp2_with fail
      refine HW.out.mono ?_
      rintro e w3 ⟨rfl, hb3⟩
      have B3 := Lib.hid (B2.out.trans (hb3.mono B2.out.size))
      clear hb3 HW
      go_wp2_with fail
      go_ret
      exact ⟨rfl, B3.out⟩
    | @ok cf _ v0 v1 v2 v3 b0 b1 b2 b3 b4 b5 b6 b7 b8 b9 hr ht hb1 =>
      obtain ⟨hok, htk⟩ := loadT_good HRZ.out
      obtain ⟨tt, htt⟩ := print_ok hok
      have HR := Lib.hid hr
      have HBT := Lib.hid ht
      have HOK := Lib.hid hok
      obtain ⟨p0, k0, rfl, -⟩ := hr.cons
      obtain ⟨p1, k1, _, rfl, -, -⟩ := hr.grps
      obtain ⟨p2, k2, rfl, -⟩ := hr.usrs
      obtain ⟨p3, k3, rfl, -⟩ := hr.accs
      have A1 := Lib.hid ((Below.refl w1.heap.size w1).alloc (Nat.le_refl _) (.cells #[.slice p0 cf.cons.length k0, .slice p1 cf.grps.length k1, .slice p2 cf.usrs.length k2, .slice p3 cf.accs.length k3, .string ⟨b0.toArray⟩, .string ⟨b1.toArray⟩, .string ⟨b2.toArray⟩, .string ⟨b3.toArray⟩, .string ⟨b4.toArray⟩, .string ⟨b5.toArray⟩, .string ⟨b6.toArray⟩, .string ⟨b7.toArray⟩, .string ⟨b8.toArray⟩, .string ⟨b9.toArray⟩] 29))
      have NA1 := at_new w1 (.cells #[.slice p0 cf.cons.length k0, .slice p1 cf.grps.length k1, .slice p2 cf.usrs.length k2, .slice p3 cf.accs.length k3, .string ⟨b0.toArray⟩, .string ⟨b1.toArray⟩, .string ⟨b2.toArray⟩, .string ⟨b3.toArray⟩, .string ⟨b4.toArray⟩, .string ⟨b5.toArray⟩, .string ⟨b6.toArray⟩, .string ⟨b7.toArray⟩, .string ⟨b8.toArray⟩, .string ⟨b9.toArray⟩] 29)
      have HNA := Lib.hid NA1
      have B1 := Lib.hid (hb1.trans (A1.out.mono hb1.size))
      have HP := print_conf cf _ _ _ _ b0 b1 b2 b3 b4 b5 b6 b7 b8 b9 _ (hr.below A1.out) ht (ok_szd hok)
      rw [htt] at HP
      have HP : Calls _ _ _ _ fun e w' => e = .returned (.string ⟨tt.toArray⟩) ∧ Below _ _ w' := HP
      have HP := Lib.hid HP
      have HTT := Lib.hid htt
      have HTK := Lib.hid htk
      clear hr ht hok htk htt hb1
      unfold confV at HP ⊢
      have ca0 := (at_cell NA1 0 : _ = some (Value.slice p0 cf.cons.length k0))
      have ca1 := (at_cell NA1 1 : _ = some (Value.slice p1 cf.grps.length k1))
      have ca2 := (at_cell NA1 2 : _ = some (Value.slice p2 cf.usrs.length k2))
      have ca3 := (at_cell NA1 3 : _ = some (Value.slice p3 cf.accs.length k3))
      have ca4 := (at_cell NA1 4 : _ = some (Value.string ⟨b0.toArray⟩))
      have ca5 := (at_cell NA1 5 : _ = some (Value.string ⟨b1.toArray⟩))
      have ca6 := (at_cell NA1 6 : _ = some (Value.string ⟨b2.toArray⟩))
      have ca7 := (at_cell NA1 7 : _ = some (Value.string ⟨b3.toArray⟩))
      have ca8 := (at_cell NA1 8 : _ = some (Value.string ⟨b4.toArray⟩))
      have ca9 := (at_cell NA1 9 : _ = some (Value.string ⟨b5.toArray⟩))
      have ca10 := (at_cell NA1 10 : _ = some (Value.string ⟨b6.toArray⟩))
      have ca11 := (at_cell NA1 11 : _ = some (Value.string ⟨b7.toArray⟩))
      have ca12 := (at_cell NA1 12 : _ = some (Value.string ⟨b8.toArray⟩))
      have ca13 := (at_cell NA1 13 : _ = some (Value.string ⟨b9.toArray⟩))
      clear NA1
      go_wp2_with fail
      refine HP.out.mono ?_
      rintro e w2 ⟨rfl, hb2⟩
      have B2 := Lib.hid (B1.out.trans (hb2.mono B1.out.size))
      have Z2 := Lib.hid (A1.out.trans (hb2.mono A1.out.size))
      have NA2 := (hb2.block _ (at_lt HNA.out)).trans HNA.out
      have HNA2 := Lib.hid NA2
      clear hb2 HP NA2 ca0 ca1 ca2 ca3 ca4 ca5 ca6 ca7 ca8 ca9 ca10 ca11 ca12 ca13
      by_cases hl : 60000 < tt.length
      · have q2 : (60000 : Int) < (tt.length : Int) := by omega
        clear hl
        have HW := Lib.hid (works_calls w2 (HTab.out.below B2.out))
        go_wp2_with fail
        refine HW.out.mono ?_
        rintro e w3 ⟨rfl, hb3⟩
        have B3 := Lib.hid (B2.out.trans (hb3.mono B2.out.size))
        clear hb3 HW
        go_wp2_with fail
        go_ret
        exact ⟨rfl, B3.out⟩
      · have q2 : ¬ (60000 : Int) < (tt.length : Int) := by omega
        have hback : loadT tt = .ok cf := print_back HOK.out HTT.out (by omega) (by have := HTK.out; have := HS.out; omega)
        have HBK := Lib.hid hback
        have HL := load_calls tt w2
        rw [hback] at HL
        have HL := Lib.hid HL
        clear hback hl
        go_wp2_with fail
        refine HL.out.mono ?_
        clear HL
        intro e w3 hp
        cases hp with
        | @ok _ _ u0 u1 u2 u3 d0 d1 d2 d3 d4 d5 d6 d7 d8 d9 hr3 ht3 hb3 =>
        have HR3 := Lib.hid hr3
        have HBT3 := Lib.hid ht3
        obtain ⟨q0, m0, rfl, -⟩ := hr3.cons
        obtain ⟨q1', m1, _, rfl, -, -⟩ := hr3.grps
        obtain ⟨q2', m2, rfl, -⟩ := hr3.usrs
        obtain ⟨q3, m3, rfl, -⟩ := hr3.accs
        have A3 := Lib.hid ((Below.refl w3.heap.size w3).alloc (Nat.le_refl _) (.cells #[.slice q0 cf.cons.length m0, .slice q1' cf.grps.length m1, .slice q2' cf.usrs.length m2, .slice q3 cf.accs.length m3, .string ⟨d0.toArray⟩, .string ⟨d1.toArray⟩, .string ⟨d2.toArray⟩, .string ⟨d3.toArray⟩, .string ⟨d4.toArray⟩, .string ⟨d5.toArray⟩, .string ⟨d6.toArray⟩, .string ⟨d7.toArray⟩, .string ⟨d8.toArray⟩, .string ⟨d9.toArray⟩] 29))
        have NU := Lib.hid (at_new w3 (.cells #[.slice q0 cf.cons.length m0, .slice q1' cf.grps.length m1, .slice q2' cf.usrs.length m2, .slice q3 cf.accs.length m3, .string ⟨d0.toArray⟩, .string ⟨d1.toArray⟩, .string ⟨d2.toArray⟩, .string ⟨d3.toArray⟩, .string ⟨d4.toArray⟩, .string ⟨d5.toArray⟩, .string ⟨d6.toArray⟩, .string ⟨d7.toArray⟩, .string ⟨d8.toArray⟩, .string ⟨d9.toArray⟩] 29))
        have B3 := Lib.hid (B2.out.trans ((hb3.trans (A3.out.mono hb3.size)).mono B2.out.size))
        have Z3 := Lib.hid (Z2.out.trans ((hb3.trans (A3.out.mono hb3.size)).mono Z2.out.size))
        have NA3 := Lib.hid ((A3.out.block _ (by have := at_lt HNA2.out; have := hb3.size; omega)).trans ((hb3.block _ (at_lt HNA2.out)).trans HNA2.out))
        have HRS := Lib.hid (refSame_conf cf cf _ _ _ _ _ _ _ _ d0 d1 d2 d3 d4 d5 d6 d7 d8 d9 b0 b1 b2 b3 b4 b5 b6 b7 b8 b9 _ (hr3.below A3.out) (HR.out.below Z3.out) ht3 HBT.out)
        clear hr3 ht3 hb3
        unfold confV at HRS ⊢
        have NA := NA3.out
        have NX := NU.out
        have ca0 := (at_cell NA 0 : _ = some (Value.slice p0 cf.cons.length k0))
        have ca1 := (at_cell NA 1 : _ = some (Value.slice p1 cf.grps.length k1))
        have ca2 := (at_cell NA 2 : _ = some (Value.slice p2 cf.usrs.length k2))
        have ca3 := (at_cell NA 3 : _ = some (Value.slice p3 cf.accs.length k3))
        have ca4 := (at_cell NA 4 : _ = some (Value.string ⟨b0.toArray⟩))
        have ca5 := (at_cell NA 5 : _ = some (Value.string ⟨b1.toArray⟩))
        have ca6 := (at_cell NA 6 : _ = some (Value.string ⟨b2.toArray⟩))
        have ca7 := (at_cell NA 7 : _ = some (Value.string ⟨b3.toArray⟩))
        have ca8 := (at_cell NA 8 : _ = some (Value.string ⟨b4.toArray⟩))
        have ca9 := (at_cell NA 9 : _ = some (Value.string ⟨b5.toArray⟩))
        have ca10 := (at_cell NA 10 : _ = some (Value.string ⟨b6.toArray⟩))
        have ca11 := (at_cell NA 11 : _ = some (Value.string ⟨b7.toArray⟩))
        have ca12 := (at_cell NA 12 : _ = some (Value.string ⟨b8.toArray⟩))
        have ca13 := (at_cell NA 13 : _ = some (Value.string ⟨b9.toArray⟩))
        have cu0 := (at_cell NX 0 : _ = some (Value.slice q0 cf.cons.length m0))
        have cu1 := (at_cell NX 1 : _ = some (Value.slice q1' cf.grps.length m1))
        have cu2 := (at_cell NX 2 : _ = some (Value.slice q2' cf.usrs.length m2))
        have cu3 := (at_cell NX 3 : _ = some (Value.slice q3 cf.accs.length m3))
        have cu4 := (at_cell NX 4 : _ = some (Value.string ⟨d0.toArray⟩))
        have cu5 := (at_cell NX 5 : _ = some (Value.string ⟨d1.toArray⟩))
        have cu6 := (at_cell NX 6 : _ = some (Value.string ⟨d2.toArray⟩))
        have cu7 := (at_cell NX 7 : _ = some (Value.string ⟨d3.toArray⟩))
        have cu8 := (at_cell NX 8 : _ = some (Value.string ⟨d4.toArray⟩))
        have cu9 := (at_cell NX 9 : _ = some (Value.string ⟨d5.toArray⟩))
        have cu10 := (at_cell NX 10 : _ = some (Value.string ⟨d6.toArray⟩))
        have cu11 := (at_cell NX 11 : _ = some (Value.string ⟨d7.toArray⟩))
        have cu12 := (at_cell NX 12 : _ = some (Value.string ⟨d8.toArray⟩))
        have cu13 := (at_cell NX 13 : _ = some (Value.string ⟨d9.toArray⟩))
        clear NA NX
        go_wp2_with fail
        generalize w3.alloc (.cells #[.slice q0 cf.cons.length m0, .slice q1' cf.grps.length m1, .slice q2' cf.usrs.length m2, .slice q3 cf.accs.length m3, .string ⟨d0.toArray⟩, .string ⟨d1.toArray⟩, .string ⟨d2.toArray⟩, .string ⟨d3.toArray⟩, .string ⟨d4.toArray⟩, .string ⟨d5.toArray⟩, .string ⟨d6.toArray⟩, .string ⟨d7.toArray⟩, .string ⟨d8.toArray⟩, .string ⟨d9.toArray⟩] 29) = w4 at *
        have E4 := Lib.hid (Below.refl w4.heap.size w4)
        refine HRS.out.mono ?_
        rintro e w5 ⟨r, rfl, hr, hb⟩
        obtain rfl : r = true := hr.2 (by trivial)
        have E5 := Lib.hid (E4.out.trans (hb.mono E4.out.size))
        clear hr hb HRS ca0 ca1 ca2 ca3 ca4 ca5 ca6 ca7 ca8 ca9 ca10 ca11 ca12 ca13 cu0 cu1 cu2 cu3 cu4 cu5 cu6 cu7 cu8 cu9 cu10 cu11 cu12 cu13
        have NA := (E5.out.block _ (at_lt NA3.out)).trans NA3.out
        have ca0 := (at_cell NA 0 : _ = some (Value.slice p0 cf.cons.length k0))
        have ca1 := (at_cell NA 1 : _ = some (Value.slice p1 cf.grps.length k1))
        have ca2 := (at_cell NA 2 : _ = some (Value.slice p2 cf.usrs.length k2))
        have ca3 := (at_cell NA 3 : _ = some (Value.slice p3 cf.accs.length k3))
        have ca4 := (at_cell NA 4 : _ = some (Value.string ⟨b0.toArray⟩))
        have ca5 := (at_cell NA 5 : _ = some (Value.string ⟨b1.toArray⟩))
        have ca6 := (at_cell NA 6 : _ = some (Value.string ⟨b2.toArray⟩))
        have ca7 := (at_cell NA 7 : _ = some (Value.string ⟨b3.toArray⟩))
        have ca8 := (at_cell NA 8 : _ = some (Value.string ⟨b4.toArray⟩))
        have ca9 := (at_cell NA 9 : _ = some (Value.string ⟨b5.toArray⟩))
        have ca10 := (at_cell NA 10 : _ = some (Value.string ⟨b6.toArray⟩))
        have ca11 := (at_cell NA 11 : _ = some (Value.string ⟨b7.toArray⟩))
        have ca12 := (at_cell NA 12 : _ = some (Value.string ⟨b8.toArray⟩))
        have ca13 := (at_cell NA 13 : _ = some (Value.string ⟨b9.toArray⟩))
        clear NA
        have HI := Lib.hid (is_conf cf _ _ _ _ b0 b1 b2 b3 b4 b5 b6 b7 b8 b9 w5 (HR.out.below (Z3.out.trans (E5.out.mono Z3.out.size))) HBT.out (ok_szd HOK.out))
        unfold confV at HI
        go_wp2_with fail
        refine HI.out.mono ?_
        rintro e w6 ⟨r, rfl, hr, hb⟩
        obtain rfl : r = true := hr.2 (by rw [HTT.out]; exact HBK.out)
        have E6 := Lib.hid (E5.out.trans (hb.mono E5.out.size))
        clear hr hb HI ca0 ca1 ca2 ca3 ca4 ca5 ca6 ca7 ca8 ca9 ca10 ca11 ca12 ca13
        have NA := (E6.out.block _ (at_lt NA3.out)).trans NA3.out
        have NX := (E6.out.block _ (at_lt NU.out)).trans NU.out
        have ca0 := (at_cell NA 0 : _ = some (Value.slice p0 cf.cons.length k0))
        have ca1 := (at_cell NA 1 : _ = some (Value.slice p1 cf.grps.length k1))
        have ca2 := (at_cell NA 2 : _ = some (Value.slice p2 cf.usrs.length k2))
        have ca3 := (at_cell NA 3 : _ = some (Value.slice p3 cf.accs.length k3))
        have ca4 := (at_cell NA 4 : _ = some (Value.string ⟨b0.toArray⟩))
        have ca5 := (at_cell NA 5 : _ = some (Value.string ⟨b1.toArray⟩))
        have ca6 := (at_cell NA 6 : _ = some (Value.string ⟨b2.toArray⟩))
        have ca7 := (at_cell NA 7 : _ = some (Value.string ⟨b3.toArray⟩))
        have ca8 := (at_cell NA 8 : _ = some (Value.string ⟨b4.toArray⟩))
        have ca9 := (at_cell NA 9 : _ = some (Value.string ⟨b5.toArray⟩))
        have ca10 := (at_cell NA 10 : _ = some (Value.string ⟨b6.toArray⟩))
        have ca11 := (at_cell NA 11 : _ = some (Value.string ⟨b7.toArray⟩))
        have ca12 := (at_cell NA 12 : _ = some (Value.string ⟨b8.toArray⟩))
        have ca13 := (at_cell NA 13 : _ = some (Value.string ⟨b9.toArray⟩))
        have cu0 := (at_cell NX 0 : _ = some (Value.slice q0 cf.cons.length m0))
        have cu1 := (at_cell NX 1 : _ = some (Value.slice q1' cf.grps.length m1))
        have cu2 := (at_cell NX 2 : _ = some (Value.slice q2' cf.usrs.length m2))
        have cu3 := (at_cell NX 3 : _ = some (Value.slice q3 cf.accs.length m3))
        have cu4 := (at_cell NX 4 : _ = some (Value.string ⟨d0.toArray⟩))
        have cu5 := (at_cell NX 5 : _ = some (Value.string ⟨d1.toArray⟩))
        have cu6 := (at_cell NX 6 : _ = some (Value.string ⟨d2.toArray⟩))
        have cu7 := (at_cell NX 7 : _ = some (Value.string ⟨d3.toArray⟩))
        have cu8 := (at_cell NX 8 : _ = some (Value.string ⟨d4.toArray⟩))
        have cu9 := (at_cell NX 9 : _ = some (Value.string ⟨d5.toArray⟩))
        have cu10 := (at_cell NX 10 : _ = some (Value.string ⟨d6.toArray⟩))
        have cu11 := (at_cell NX 11 : _ = some (Value.string ⟨d7.toArray⟩))
        have cu12 := (at_cell NX 12 : _ = some (Value.string ⟨d8.toArray⟩))
        have cu13 := (at_cell NX 13 : _ = some (Value.string ⟨d9.toArray⟩))
        clear NA NX
        have HSM := Lib.hid (same_conf cf cf _ _ _ _ _ _ _ _ d0 d1 d2 d3 d4 d5 d6 d7 d8 d9 b0 b1 b2 b3 b4 b5 b6 b7 b8 b9 w6 (HR3.out.below (A3.out.trans (E6.out.mono A3.out.size))) (HR.out.below (Z3.out.trans (E6.out.mono Z3.out.size))) HBT3.out HBT.out)
        unfold confV at HSM
        go_wp2_with fail
        refine HSM.out.mono ?_
        rintro e w7 ⟨r, rfl, hr, hb⟩
        obtain rfl : r = true := hr.2 (by trivial)
        have E7 := Lib.hid (E6.out.trans (hb.mono E6.out.size))
        clear hr hb HSM ca0 ca1 ca2 ca3 ca4 ca5 ca6 ca7 ca8 ca9 ca10 ca11 ca12 ca13 cu0 cu1 cu2 cu3 cu4 cu5 cu6 cu7 cu8 cu9 cu10 cu11 cu12 cu13
        have NX := (E7.out.block _ (at_lt NU.out)).trans NU.out
        have cu0 := (at_cell NX 0 : _ = some (Value.slice q0 cf.cons.length m0))
        have cu1 := (at_cell NX 1 : _ = some (Value.slice q1' cf.grps.length m1))
        have cu2 := (at_cell NX 2 : _ = some (Value.slice q2' cf.usrs.length m2))
        have cu3 := (at_cell NX 3 : _ = some (Value.slice q3 cf.accs.length m3))
        have cu4 := (at_cell NX 4 : _ = some (Value.string ⟨d0.toArray⟩))
        have cu5 := (at_cell NX 5 : _ = some (Value.string ⟨d1.toArray⟩))
        have cu6 := (at_cell NX 6 : _ = some (Value.string ⟨d2.toArray⟩))
        have cu7 := (at_cell NX 7 : _ = some (Value.string ⟨d3.toArray⟩))
        have cu8 := (at_cell NX 8 : _ = some (Value.string ⟨d4.toArray⟩))
        have cu9 := (at_cell NX 9 : _ = some (Value.string ⟨d5.toArray⟩))
        have cu10 := (at_cell NX 10 : _ = some (Value.string ⟨d6.toArray⟩))
        have cu11 := (at_cell NX 11 : _ = some (Value.string ⟨d7.toArray⟩))
        have cu12 := (at_cell NX 12 : _ = some (Value.string ⟨d8.toArray⟩))
        have cu13 := (at_cell NX 13 : _ = some (Value.string ⟨d9.toArray⟩))
        clear NX
        have HP := print_conf cf _ _ _ _ d0 d1 d2 d3 d4 d5 d6 d7 d8 d9 w7 (HR3.out.below (A3.out.trans (E7.out.mono A3.out.size))) HBT3.out (ok_szd HOK.out)
        rw [HTT.out] at HP
        have HP : Calls _ _ _ _ fun e w' => e = .returned (.string ⟨tt.toArray⟩) ∧ Below _ _ w' := HP
        have HP := Lib.hid HP
        unfold confV at HP
        go_wp2_with fail
        refine HP.out.mono ?_
        rintro e w8 ⟨rfl, hb⟩
        have E8 := Lib.hid (E7.out.trans (hb.mono E7.out.size))
        have B8 := Lib.hid (B3.out.trans (E8.out.mono B3.out.size))
        clear hb HP cu0 cu1 cu2 cu3 cu4 cu5 cu6 cu7 cu8 cu9 cu10 cu11 cu12 cu13
        have HW := Lib.hid (works_calls w8 (HTab.out.below B8.out))
        go_wp2_with fail
        refine HW.out.mono ?_
        rintro e w9 ⟨rfl, hb⟩
        have B9 := Lib.hid (B8.out.trans (hb.mono B8.out.size))
        clear hb HW
        go_wp2_with fail
        go_ret
        exact ⟨rfl, B9.out⟩
end Go.Proofs.YtajfdachpdkbcaaGreatDoor.Conf
end


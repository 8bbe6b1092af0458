/-
  Layer 16 (rights): RightsFirst: accesses appended.
-/
import Derived.Test.YtomnkmcabkoagaaRgtLawB
import Derived.Test.YtomnkmcabkoagaaRgtFewO
import Derived.Test.YtomnkmcabkoagaaRgtFirstP
import Derived.Deep.RegionHeld3
namespace Go.Proofs.Ytomnkmcabkoagaa.Rgt
open Go.RowKit Go.Proofs.Ytomnkmcabkoagaa.Own Go.Proofs.Ytomnkmcabkoagaa.Rw Go.Proofs.Ytomnkmcabkoagaa.Tree Go.Proofs.Ytomnkmcabkoagaa.Conf

theorem info_acc2 : (Try.prog.info? 50).map (fun i => (i.zero, i.size, i.bytes)) = some (some (.agg #[.string ⟨#[]⟩, .string ⟨#[]⟩, .int .i64 0]), 3, 40) := by kernel_rfl
/-- append onto a row of the call's own, whatever is to be read -/
theorem run_append_rd {w : World} {base n m d : Nat} {v : Value} {xs news : List Value} {q : Option Addr} (ty : TypeId) (hown : w.ownsRow base 50 3 v n xs) (hR : Rd w 3 q d m news) (h1 : ∀ u ∈ news, u.oneCell' = true) (hnm : n + m ≤ 1000) (hbase : base ≤ w.heap.size) :
    ∃ v' w', (Builtin.append_ #[25, 25] ty #[v, .slice q m d]).run Try.prog w = .ok v' w' ∧ w'.ownsRow base 50 3 v' (n + m) (xs ++ news) ∧ w.grownBy w' v.ownBlock := by
  obtain ⟨i0, hi, hz0, hz1, hz2⟩ := info_parts info_acc2
  cases q with
  | none =>
    obtain rfl : m = 0 := by
      rcases hR.cells with h | ⟨b, o, e, _⟩
      · exact h
      · cases e
    obtain rfl : news = [] := List.eq_nil_of_length_eq_zero (by simpa using hR.len)
    refine ⟨v, w, ?_, by simpa using hown, World.grownBy.refl _ _⟩
    rcases hown.2 with ⟨rfl, rfl⟩ | ⟨g, cap, cur, rfl, _, _, hnc, _⟩
    · simp [Builtin.append_, run_underlying Try.underlying25, sizeOf, typeInfo, hi, Builtin.lenOf, Builtin.firstCells]
    · simp [Builtin.append_, run_underlying Try.underlying25, sizeOf, typeInfo, hi, Builtin.lenOf, Builtin.firstCells, hnc, storeCells]
  | some ad =>
    have hn : ∀ j u, news[j]? = some u → w.cell? (ad.add j) = some u := by
      rcases hR.cells with h | ⟨b, o, e, _, hc⟩
      · subst h
        obtain rfl : news = [] := List.eq_nil_of_length_eq_zero (by simpa using hR.len)
        intro j u hu
        simp at hu
      · cases e
        intro j u hu
        have e : (⟨b, o, none⟩ : Addr).add j = ⟨b, o + j, none⟩ := by unfold Addr.add; split <;> simp_all
        rw [e]
        exact hc j u hu
    obtain ⟨v', w', hr, h2, h3, _, _⟩ := run_append_own_at (P := Try.prog) w base 25 ty 50 i0 _ 3 40 Try.underlying25 hi hz0 hz1 hz2 rfl (by decide) v n xs hown ad m d news hR.len hn h1 (by unfold maxLen; omega) (by omega) hbase
    exact ⟨v', w', hr, h2, h3⟩
theorem wpList_run {w : World} {ops : Array Oper} {rest : List Oper} {o : Oper} {a : Act} {Q : Exit → Act → World → Prop} (hgd : o.guard = none) (t1 t2 : Nat) (T ty : TypeId) (ho : o.op = .call { callee := .builtin .append, args := #[.tmp t1, .tmp t2], argTypes := #[T, T] }) (hty : o.type = ty) {v1 v2 v' : Value} {w' : World} (h1 : a.tmps[t1]? = some v1) (h2 : a.tmps[t2]? = some v2)
    (hr : (Builtin.append_ #[T, T] ty #[v1, v2]).run Try.prog w = .ok v' w') (h : wpList Try.prog ops Q rest (a.put o.dst v') w') : wpList Try.prog ops Q (o :: rest) a w := by
  refine wpList_plain hgd fun K hK => ?_
  exact ap_known t1 t2 T ty ho hty v1 v2 v' w' h1 h2 hr (hK _ _ h)
theorem step_ap {ops : Array Oper} {o : Oper} {a : Act} {w : World} {K : Act → World → Prop} {Q : Exit → Act → World → Prop} {E : Prop} (hgd : o.guard = none) (t1 t2 : Nat) (T ty : TypeId) (ho : o.op = .call { callee := .builtin .append, args := #[.tmp t1, .tmp t2], argTypes := #[T, T] }) (hty : o.type = ty) {v1 v2 v' : Value} {w' : World} (h1 : a.tmps[t1]? = some v1) (h2 : a.tmps[t2]? = some v2)
    (hr : (Builtin.append_ #[T, T] ty #[v1, v2]).run Try.prog w = .ok v' w') (h : K (a.put o.dst v') w') : if Region.wanted o (yielded ops a.tmps) = true then Oper.wp Try.prog o a w K Q else E := by
  rw [if_pos (by simp [Region.wanted, hgd])]
  exact ap_known t1 t2 T ty ho hty v1 v2 v' w' h1 h2 hr h
theorem acv_one (l : List Ac) : ∀ u ∈ l.flatMap acv, u.oneCell' = true := by
  intro u hu
  simp only [List.mem_flatMap] at hu
  obtain ⟨e, _, h⟩ := hu
  simp [acv] at h
  rcases h with rfl | rfl | rfl <;> rfl
theorem step_ap_rd {ops : Array Oper} {o : Oper} {a : Act} {w : World} {K : Act → World → Prop} {Q : Exit → Act → World → Prop} {E : Prop} (hgd : o.guard = none) (t1 t2 : Nat) (ho : o.op = .call { callee := .builtin .append, args := #[.tmp t1, .tmp t2], argTypes := #[25, 25] }) (hty : o.type = 25) (base n m k d : Nat) (hk : n + m = k) (v : Value) (xs news : List Value) (q : Option Addr) (h1 : a.tmps[t1]? = some v) (h2 : a.tmps[t2]? = some (.slice q m d))
    (hown : w.ownsRow base 50 3 v n xs) (hR : Rd w 3 q d m news) (h3 : ∀ u ∈ news, u.oneCell' = true) (hnm : n + m ≤ 1000) (hbase : base ≤ w.heap.size)
    (h : ∀ p c w', w'.ownsRow base 50 3 (.slice p k c) k (xs ++ news) → w.grownBy w' v.ownBlock → K (a.put o.dst (.slice p k c)) w') : if Region.wanted o (yielded ops a.tmps) = true then Oper.wp Try.prog o a w K Q else E := by
  subst hk
  obtain ⟨v', w', hr, h4, h5⟩ := run_append_rd 25 hown hR h3 hnm hbase
  obtain ⟨p, c, rfl, _⟩ := own_slice h4
  exact step_ap hgd t1 t2 _ _ ho hty h1 h2 hr (h p c w' h4 h5)
theorem own_e (w : World) (B g : Nat) (hg : g = w.heap.size) (hB : B ≤ w.heap.size) : (w.alloc (.cells #[] 50 (0, 0))).ownsRow B 50 3 (.slice (some ⟨g, 0, none⟩) 0 0) 0 [] := by
  subst hg
  exact World.ownsRow_lit w #[] 0 hB (by unfold maxLen; decide) rfl
theorem below_da (W : World) (o : Obj) : Below W.heap.size W (W.drew.alloc o) := (Below.refl W.heap.size W).drew.alloc (Nat.le_refl _) o
theorem below_daa (W : World) (o o' : Obj) : Below W.heap.size W ((W.drew.alloc o).alloc o') := (below_da W o).alloc (by simp) o'
/-- a's and b's copies, each with an access more -/
def FsAt (wd wx : World) (a b : Nat) (v0 v1 v2 : Value) (d0 d1 d2 d3 d4 d5 d6 d7 d8 d9 : Bs) (nA nB : Nat) (LA LB : List Ac) : Prop := Below wd.heap.size wd wx ∧ ∃ pA kA pB kB,
  wx.heap[a]? = some (.cells #[v0, v1, v2, .slice pA nA kA, .string ⟨d0.toArray⟩, .string ⟨d1.toArray⟩, .string ⟨d2.toArray⟩, .string ⟨d3.toArray⟩, .string ⟨d4.toArray⟩, .string ⟨d5.toArray⟩, .string ⟨d6.toArray⟩, .string ⟨d7.toArray⟩, .string ⟨d8.toArray⟩, .string ⟨d9.toArray⟩] 28 (0, 0)) ∧
  wx.heap[b]? = some (.cells #[v0, v1, v2, .slice pB nB kB, .string ⟨d0.toArray⟩, .string ⟨d1.toArray⟩, .string ⟨d2.toArray⟩, .string ⟨d3.toArray⟩, .string ⟨d4.toArray⟩, .string ⟨d5.toArray⟩, .string ⟨d6.toArray⟩, .string ⟨d7.toArray⟩, .string ⟨d8.toArray⟩, .string ⟨d9.toArray⟩] 28 (0, 0)) ∧
  Rd wx 3 pA kA nA (LA.flatMap acv) ∧ Rd wx 3 pB kB nB (LB.flatMap acv)
theorem fs_end {wd W w7 : World} {a b nA nB : Nat} {v0 v1 v2 v3 : Value} {d0 d1 d2 d3 d4 d5 d6 d7 d8 d9 : Bs} {LA LB : List Ac} {pA pB : Option Addr} {kA kB : Nat} {B : Nat} (hB : Below wd.heap.size wd W) (hb7 : Below W.heap.size W w7) (hab : a ≠ b) (hlb : wd.heap.size ≤ b) (hBb : b < B) (hBW : b < W.heap.size)
    (ha : W.heap[a]? = some (.cells #[v0, v1, v2, .slice pA nA kA, .string ⟨d0.toArray⟩, .string ⟨d1.toArray⟩, .string ⟨d2.toArray⟩, .string ⟨d3.toArray⟩, .string ⟨d4.toArray⟩, .string ⟨d5.toArray⟩, .string ⟨d6.toArray⟩, .string ⟨d7.toArray⟩, .string ⟨d8.toArray⟩, .string ⟨d9.toArray⟩] 28 (0, 0)))
    (hbr : W.heap[b]? = some (.cells #[v0, v1, v2, v3, .string ⟨d0.toArray⟩, .string ⟨d1.toArray⟩, .string ⟨d2.toArray⟩, .string ⟨d3.toArray⟩, .string ⟨d4.toArray⟩, .string ⟨d5.toArray⟩, .string ⟨d6.toArray⟩, .string ⟨d7.toArray⟩, .string ⟨d8.toArray⟩, .string ⟨d9.toArray⟩] 28 (0, 0)))
    (hoa : W.ownsRow B 50 3 (.slice pA nA kA) nA (LA.flatMap acv)) (hob : w7.ownsRow W.heap.size 50 3 (.slice pB nB kB) nB (LB.flatMap acv)) :
    FsAt wd (w7.setCell ⟨b, 3, none⟩ (.slice pB nB kB)) a b v0 v1 v2 d0 d1 d2 d3 d4 d5 d6 d7 d8 d9 nA nB LA LB := by
  have na := (hb7.block a (at_lt ha)).trans ha
  have nb := (hb7.block b hBW).trans hbr
  refine ⟨(hB.trans (hb7.mono hB.size)).setCell (p := ⟨b, 3, none⟩) hlb _, pA, kA, pB, kB, (at_set_other w7 hab 3 _).trans na, at_set nb 3 _, ?_, ?_⟩
  · have := own_set (own_below hoa hb7) hBb 3 (.slice pB nB kB)
    obtain ⟨p, c, e, hr⟩ := own_rd this
    injection e with e1 e2 e3
    subst e1 e3
    exact hr
  · have := own_set hob hBW 3 (.slice pB nB kB)
    obtain ⟨p, c, e, hr⟩ := own_rd this
    injection e with e1 e2 e3
    subst e1 e3
    exact hr
end Go.Proofs.Ytomnkmcabkoagaa.Rgt

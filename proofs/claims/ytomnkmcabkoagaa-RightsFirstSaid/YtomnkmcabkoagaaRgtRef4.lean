/-
  Layer 16 (rights): the document's own Pick.
-/
import Derived.Test.YtomnkmcabkoagaaRgtRef3
import Derived.Test.YtomnkmcabkoagaaConfRefF
import Derived.Test.YtomnkmcabkoagaaRgtPickF
namespace Go.Proofs.Ytomnkmcabkoagaa.Rgt
open Go.RowKit Go.Proofs.Ytomnkmcabkoagaa.Own Go.Proofs.Ytomnkmcabkoagaa.Rw Go.Proofs.Ytomnkmcabkoagaa.Tree Go.Proofs.Ytomnkmcabkoagaa.Conf

theorem beg_eq (c : Cf) (us u : Bs) : (plc c.cons (sees c.accs us)).filter (fun i => c.cons[i]?.any (begs u)) = begM c us u := by
  rw [plc_filter]
  unfold begM
  congr 1
  funext x
  exact Bool.and_comm _ _
def lst (l : List Nat) : Nat := l.getLast?.getD 0
theorem lst_snoc (l : List Nat) (i : Nat) : lst (l ++ [i]) = i := by simp [lst]
/-- how far the document's walk along the consoles that are seen has come -/
structure PkAt (c : Cf) (us u : Bs) (k : Nat) (b : List Nat) : Prop where
  beg : b = ((plc c.cons (sees c.accs us)).take k).filter (fun i => c.cons[i]?.any (begs u))
  none : ∀ i ∈ (plc c.cons (sees c.accs us)).take k, (i : Int) ≠ idx c.cons (nmF u)
theorem PkAt.step {c : Cf} {us u : Bs} {k i : Nat} {b : List Nat} (h : PkAt c us u k b) (hk : k < (plc c.cons (sees c.accs us)).length) (hi : (plc c.cons (sees c.accs us))[k] = i) (hne : (i : Int) ≠ idx c.cons (nmF u)) (hl : i < c.cons.length) :
    (begs u c.cons[i] = true → PkAt c us u (k + 1) (b ++ [i])) ∧ (begs u c.cons[i] = false → PkAt c us u (k + 1) b) := by
  have e : (plc c.cons (sees c.accs us)).take (k + 1) = (plc c.cons (sees c.accs us)).take k ++ [i] := by rw [List.take_succ_eq_append_getElem hk, hi]
  have hn : ∀ j ∈ (plc c.cons (sees c.accs us)).take (k + 1), (j : Int) ≠ idx c.cons (nmF u) := by
    intro j hj
    rw [e] at hj
    rcases List.mem_append.1 hj with hj | hj
    · exact h.none j hj
    · rw [List.mem_singleton.1 hj]; exact hne
  refine ⟨fun hb => ⟨?_, hn⟩, fun hb => ⟨?_, hn⟩⟩
  · rw [e, List.filter_append, ← h.beg]; simp [hl, hb]
  · rw [e, List.filter_append, ← h.beg]; simp [hl, hb]
theorem pk_hit {c : Cf} {us u : Bs} {i : Nat} (hm : i ∈ plc c.cons (sees c.accs us)) (h : (i : Int) = idx c.cons (nmF u)) : pickM c us u = (idx c.cons (nmF u), 0) := by
  obtain ⟨hl, hs⟩ := plc_mem.1 hm
  rcases idx_cases c.cons (nmF u) with ⟨e, hf⟩ | ⟨k, hk, e, hf⟩
  · omega
  · obtain rfl : i = k := by omega
    exact pk_yes hf hs
theorem PkAt.one {c : Cf} {us u : Bs} {k : Nat} {b : List Nat} (h : PkAt c us u k b) (hk : k = (plc c.cons (sees c.accs us)).length) : b = begM c us u ∧ ∀ x, c.cons.find? (nmF u) = some x → sees c.accs us x = false := by
  subst hk
  refine ⟨by rw [h.beg, List.take_length, beg_eq], fun x hx => ?_⟩
  rcases idx_cases c.cons (nmF u) with ⟨e, hf⟩ | ⟨k, hk, e, hf⟩
  · rw [hf] at hx; cases hx
  · rw [hf] at hx
    obtain rfl : c.cons[k] = x := by simpa using hx
    cases hs : sees c.accs us c.cons[k] with
    | false => rfl
    | true =>
      have := h.none k (by rw [List.take_length]; exact plc_mem.2 ⟨hk, hs⟩)
      exact absurd e.symm this
set_option maxRecDepth 100000 in
theorem wq_fa_apiConf_0 {o : Oper} {a : Act} {w : World} {K : Act → World → Prop} {Q : Exit → Act → World → Prop} (t b of : Nat) (ho : o.op = .fieldAddr 28 (.tmp t) 0) (h1 : a.tmps[t]? = some (.pointer (some ⟨b, of, none⟩))) (h : K (a.put o.dst (.pointer (some ⟨b, of + 0, none⟩))) w) : Oper.wp Try.prog o a w K Q := by
  obtain ⟨d, op, ty, ps, af, gd⟩ := o
  cases ho
  unfold Oper.wp
  simp [go_sem, h1, Oper.upon]
  exact h
set_option maxRecDepth 100000 in
theorem wq_ld_slapiConsole {o : Oper} {a : Act} {w : World} {K : Act → World → Prop} {Q : Exit → Act → World → Prop} (t : Nat) (ad : Addr) (v : Value) (ho : o.op = .load 22 (.tmp t)) (h1 : a.tmps[t]? = some (.pointer (some ad))) (hc : w.cell? ad = some v) (h : K (a.put o.dst v) w) : Oper.wp Try.prog o a w K Q := by
  obtain ⟨d, op, ty, ps, af, gd⟩ := o
  cases ho
  unfold Oper.wp
  simp [go_sem, h1, hc, Oper.upon]
  exact h
set_option maxRecDepth 100000 in
theorem wq_move {o : Oper} {a : Act} {w : World} {K : Act → World → Prop} {Q : Exit → Act → World → Prop} (t : Nat) (v : Value) (ho : o.op = .move (.tmp t)) (h1 : a.tmps[t]? = some v) (h : K (a.put o.dst v) w) : Oper.wp Try.prog o a w K Q := by
  obtain ⟨d, op, ty, ps, af, gd⟩ := o
  cases ho
  unfold Oper.wp
  simp [go_sem, h1, Oper.upon]
  exact h
set_option maxRecDepth 100000 in
theorem wq_ix_slint {o : Oper} {a : Act} {w : World} {K : Act → World → Prop} {Q : Exit → Act → World → Prop} (t u g of n c i : Nat) (ho : o.op = .indexAddr 34 (.tmp t) (.tmp u)) (h1 : a.tmps[t]? = some (.slice (some ⟨g, of, none⟩) n c)) (h2 : a.tmps[u]? = some (.int .i64 i)) (hi : i < n) (h : K (a.put o.dst (.pointer (some ⟨g, of + i, none⟩))) w) : Oper.wp Try.prog o a w K Q := by
  obtain ⟨d, op, ty, ps, af, gd⟩ := o
  cases ho
  unfold Oper.wp
  have hi2 : (i : Int) < (n : Int) := by omega
  simp [go_sem, h1, h2, hi2, Oper.upon]
  exact h
set_option maxRecDepth 100000 in
theorem wq_ld_int {o : Oper} {a : Act} {w : World} {K : Act → World → Prop} {Q : Exit → Act → World → Prop} (t : Nat) (ad : Addr) (v : Value) (ho : o.op = .load 3 (.tmp t)) (h1 : a.tmps[t]? = some (.pointer (some ad))) (hc : w.cell? ad = some v) (h : K (a.put o.dst v) w) : Oper.wp Try.prog o a w K Q := by
  obtain ⟨d, op, ty, ps, af, gd⟩ := o
  cases ho
  unfold Oper.wp
  simp [go_sem, h1, hc, Oper.upon]
  exact h
set_option maxRecDepth 100000 in
theorem wq_ix_slapiConsole {o : Oper} {a : Act} {w : World} {K : Act → World → Prop} {Q : Exit → Act → World → Prop} (t u g of n c i : Nat) (ho : o.op = .indexAddr 22 (.tmp t) (.tmp u)) (h1 : a.tmps[t]? = some (.slice (some ⟨g, of, none⟩) n c)) (h2 : a.tmps[u]? = some (.int .i64 i)) (hi : i < n) (h : K (a.put o.dst (.pointer (some ⟨g, of + i * 10, none⟩))) w) : Oper.wp Try.prog o a w K Q := by
  obtain ⟨d, op, ty, ps, af, gd⟩ := o
  cases ho
  unfold Oper.wp
  have hi2 : (i : Int) < (n : Int) := by omega
  simp [go_sem, h1, h2, hi2, Oper.upon]
  exact h
set_option maxRecDepth 100000 in
theorem wq_fa_apiConsole_0 {o : Oper} {a : Act} {w : World} {K : Act → World → Prop} {Q : Exit → Act → World → Prop} (t b of : Nat) (ho : o.op = .fieldAddr 47 (.tmp t) 0) (h1 : a.tmps[t]? = some (.pointer (some ⟨b, of, none⟩))) (h : K (a.put o.dst (.pointer (some ⟨b, of + 0, none⟩))) w) : Oper.wp Try.prog o a w K Q := by
  obtain ⟨d, op, ty, ps, af, gd⟩ := o
  cases ho
  unfold Oper.wp
  simp [go_sem, h1, Oper.upon]
  exact h
set_option maxRecDepth 100000 in
theorem wq_ld_string {o : Oper} {a : Act} {w : World} {K : Act → World → Prop} {Q : Exit → Act → World → Prop} (t : Nat) (ad : Addr) (v : Value) (ho : o.op = .load 9 (.tmp t)) (h1 : a.tmps[t]? = some (.pointer (some ad))) (hc : w.cell? ad = some v) (h : K (a.put o.dst v) w) : Oper.wp Try.prog o a w K Q := by
  obtain ⟨d, op, ty, ps, af, gd⟩ := o
  cases ho
  unfold Oper.wp
  simp [go_sem, h1, hc, Oper.upon]
  exact h
set_option maxRecDepth 100000 in
theorem wq_call2_wheelhouseref16begins {o : Oper} {a : Act} {w : World} {K : Act → World → Prop} {Q : Exit → Act → World → Prop} (t0 : Nat) (t1 : Nat) (v0 : Value) (v1 : Value) (ts : Array TypeId) (S : World → Value → Prop) (ho : o.op = .call { callee := .value (.func 40), args := #[.tmp t0, .tmp t1], argTypes := ts }) (h0 : a.tmps[t0]? = some v0) (h1 : a.tmps[t1]? = some v1) (h : Calls Try.prog 40 #[v0, v1] w (fun e w2 => ∃ v, e = .returned v ∧ S w2 v ∧ Below w.heap.size w w2)) (hK : ∀ v w2, S w2 v → Below w.heap.size w w2 → K (a.put o.dst v) w2) : Oper.wp Try.prog o a w K Q := by
  obtain ⟨d, op, ty, ps, af, gd⟩ := o
  cases ho
  unfold Oper.wp
  simp [go_sem, Oper.upon, h0, h1]
  refine h.mono ?_
  rintro e w2 ⟨v, rfl, hk, hb⟩
  exact hK v w2 hk hb

set_option maxRecDepth 100000 in
set_option maxHeartbeats 4000000 in
theorem rPick_calls (c : Cf) (hsm : Sml c.accs) (us u : Bs) (hu : us.length ≤ 65536) (hx : ∀ x ∈ c.cons, x.name.length ≤ 65536) (p0 p3 : Option Addr) (k0 n0 k3 n3 : Nat) (v1 v2 : Value) (b0 b1 b2 b3 b4 b5 b6 b7 b8 b9 : Bs) (hn0 : n0 = c.cons.length) (hm0 : n0 ≤ 65536) (hn : n3 = c.accs.length) (w : World) (h0 : Rd w 10 p0 k0 n0 (c.cons.flatMap cnv)) (h : Rd w 3 p3 k3 n3 (c.accs.flatMap acv)) :
    Calls Try.prog 20 #[confV (.slice p0 n0 k0) v1 v2 (.slice p3 n3 k3) b0 b1 b2 b3 b4 b5 b6 b7 b8 b9, .string ⟨us.toArray⟩, .string ⟨u.toArray⟩] w fun e w' => e = .returned (.tuple #[.int .i64 (pickM c us u).1, .int .i64 (pickM c us u).2]) ∧ Below w.heap.size w w' := by
  have HX := Lib.hid (at_new w (.cells #[.slice p0 n0 k0, v1, v2, .slice p3 n3 k3, .string ⟨b0.toArray⟩, .string ⟨b1.toArray⟩, .string ⟨b2.toArray⟩, .string ⟨b3.toArray⟩, .string ⟨b4.toArray⟩, .string ⟨b5.toArray⟩, .string ⟨b6.toArray⟩, .string ⟨b7.toArray⟩, .string ⟨b8.toArray⟩, .string ⟨b9.toArray⟩] 28))
  have HB0 := Lib.hid ((Below.refl w.heap.size w).alloc (Nat.le_refl _) (.cells #[.slice p0 n0 k0, v1, v2, .slice p3 n3 k3, .string ⟨b0.toArray⟩, .string ⟨b1.toArray⟩, .string ⟨b2.toArray⟩, .string ⟨b3.toArray⟩, .string ⟨b4.toArray⟩, .string ⟨b5.toArray⟩, .string ⟨b6.toArray⟩, .string ⟨b7.toArray⟩, .string ⟨b8.toArray⟩, .string ⟨b9.toArray⟩] 28))
  have HF := Lib.hid (rfind_calls c.cons u p0 k0 v1 v2 (.slice p3 n3 k3) b0 b1 b2 b3 b4 b5 b6 b7 b8 b9 n0 hn0 _ (h0.below HB0.out))
  have HS := Lib.hid (fun (W : World) (hW : Below w.heap.size w W) => rSees_calls c.cons c.accs hsm us hu hx p0 p3 k0 n0 k3 n3 v1 v2 b0 b1 b2 b3 b4 b5 b6 b7 b8 b9 hn0 hm0 hn W (h0.below hW) (h.below hW))
  have HR := Lib.hid h0
  have HN := Lib.hid hn0
  have HPM : Hid (∀ i ∈ plc c.cons (sees c.accs us), i < c.cons.length) := Lib.hid fun i hi => (plc_mem.1 hi).1
  have HPL : Hid ((plc c.cons (sees c.accs us)).length ≤ n0) := Lib.hid (by rw [hn0]; exact plc_len _ _ _)
  have hcap := h0.cap
  have hmax := h0.max
  unfold maxLen at hmax
  clear h h0 hn hn0 hsm hx
  unfold confV at *
  unfold PlPost at *
  obtain ⟨nv, hnv⟩ : ∃ nv, fIdx c.cons u = nv := ⟨_, rfl⟩
  rw [hnv] at HF
  have HNV : Hid (idx c.cons (nmF u) = nv) := Lib.hid hnv
  clear hnv
  go_enter Try.func20, Try.ntmps20
  go_wp2_with fail
  generalize (w.alloc (.cells #[.slice p0 n0 k0, v1, v2, .slice p3 n3 k3, .string ⟨b0.toArray⟩, .string ⟨b1.toArray⟩, .string ⟨b2.toArray⟩, .string ⟨b3.toArray⟩, .string ⟨b4.toArray⟩, .string ⟨b5.toArray⟩, .string ⟨b6.toArray⟩, .string ⟨b7.toArray⟩, .string ⟨b8.toArray⟩, .string ⟨b9.toArray⟩] 28)) = W at *
  refine HF.out.mono ?_
  rintro e w4 ⟨rfl, hb4⟩
  have HB4 := Lib.hid (HB0.out.trans (hb4.mono HB0.out.size))
  have N4 := (hb4.block _ (at_lt HX.out)).trans HX.out
  have HX4 := Lib.hid N4
  have y0 := (at_cell N4 0 : _ = some (Value.slice p0 n0 k0))
  have y1 := (at_cell N4 1 : _ = some (v1))
  have y2 := (at_cell N4 2 : _ = some (v2))
  have y3 := (at_cell N4 3 : _ = some (Value.slice p3 n3 k3))
  have y4 := (at_cell N4 4 : _ = some (Value.string ⟨b0.toArray⟩))
  have y5 := (at_cell N4 5 : _ = some (Value.string ⟨b1.toArray⟩))
  have y6 := (at_cell N4 6 : _ = some (Value.string ⟨b2.toArray⟩))
  have y7 := (at_cell N4 7 : _ = some (Value.string ⟨b3.toArray⟩))
  have y8 := (at_cell N4 8 : _ = some (Value.string ⟨b4.toArray⟩))
  have y9 := (at_cell N4 9 : _ = some (Value.string ⟨b5.toArray⟩))
  have y10 := (at_cell N4 10 : _ = some (Value.string ⟨b6.toArray⟩))
  have y11 := (at_cell N4 11 : _ = some (Value.string ⟨b7.toArray⟩))
  have y12 := (at_cell N4 12 : _ = some (Value.string ⟨b8.toArray⟩))
  have y13 := (at_cell N4 13 : _ = some (Value.string ⟨b9.toArray⟩))
  clear N4 hb4 HF
  go_wp2_with fail
  refine (HS.out _ HB4.out).mono ?_
  rintro e w5 ⟨v, rfl, ho, hb5⟩
  obtain ⟨q, d, rfl, hr⟩ := own_rd ho
  have HB5 := Lib.hid (HB4.out.trans (hb5.mono HB4.out.size))
  have HX5 := Lib.hid ((hb5.block _ (at_lt HX4.out)).trans HX4.out)
  have HRL := Lib.hid hr
  have hcd := hr.cap
  obtain ⟨m, hm⟩ : ∃ m, (plc c.cons (sees c.accs us)).length = m := ⟨_, rfl⟩
  have HM := Lib.hid hm
  have hml : m ≤ 65536 := by have := HPL.out; omega
  rw [hm] at hcd HRL ⊢
  clear hm hb5 hr ho HS
  clear y0 y1 y2 y3 y4 y5 y6 y7 y8 y9 y10 y11 y12 y13
  go_wp2_with fail
  go_loopw [10, 11, 12] (fun vn va vk wr => ∃ (kk : Nat) (b : List Nat), kk ≤ m ∧ vk = .int .i64 kk ∧ vn = .int .i64 b.length ∧ va = .int .i64 (lst b) ∧ b.length ≤ kk ∧ PkAt c us u kk b ∧ Below w5.heap.size w5 wr) (fun _ _ vk _ => m - (Conf.intOf vk).toNat)
  case atStart => exact ⟨0, [], by omega, rfl, rfl, rfl, by simp, ⟨rfl, fun i hi => by simp at hi⟩, Below.refl _ _⟩
  case round =>
    obtain ⟨kk, b, hk, rfl, rfl, rfl, hbk, hpk, hb2⟩ := hrel
    rename World => w2
    have HPK := Lib.hid hpk
    have HW2 := Lib.hid hb2
    have HX3 := Lib.hid ((hb2.block _ (at_lt HX5.out)).trans HX5.out)
    have HB2 := Lib.hid (HB5.out.trans (hb2.mono HB5.out.size))
    have hs2 := hb2.size
    clear hpk hb2
    rcases Nat.lt_or_eq_of_le hk with hlt | rfl
    · have hl1 : kk < (plc c.cons (sees c.accs us)).length := by rw [HM.out]; exact hlt
      obtain ⟨g2, o2, rfl, hg2, -, y0⟩ := int_at (HRL.out.below HW2.out) hl1
      have him := List.getElem_mem hl1
      have hil := HPM.out _ him
      obtain ⟨g, o, rfl, hg, hin, hat⟩ := con_at (HR.out.below HB2.out) hil
      have c0 := hat.1
      clear hat
      have q1 : (kk : Int) < (m : Int) := by omega
      have HST := Lib.hid fun hne => HPK.out.step hl1 rfl hne hil
      have HHIT := Lib.hid (pk_hit (u := u) him)
      generalize c.cons[(plc c.cons (sees c.accs us))[kk]] = x at *
      generalize (plc c.cons (sees c.accs us))[kk] = i at *
      clear him hl1 hil
      by_cases he : (i : Int) = nv
      · have HE := Lib.hid (HHIT.out (he.trans HNV.out.symm))
        have hb1 : ((i : Int) == nv) = true := by simpa using he
        clear he HST HHIT HPK
        go_wp2_with fail
        go_ret2
        exact ⟨by rw [HE.out, HNV.out]; rfl, HB2.out⟩
      have hb1 : ((i : Int) == nv) = false := by simpa using he
      have HSP := Lib.hid (HST.out (fun h => he (h.trans HNV.out)))
      clear he HST HHIT HPK
      cases hbg : begs u x with
      | true =>
        have HP2 := Lib.hid (HSP.out.1 hbg)
        have hbg : begB u x.name = true := hbg
        clear HSP
        go_wp2_with fail
        refine Reg.wp_sat (by kernel_rfl) [some 32, some 33, some 34, some 35, some 36, some 37, some 38, some 39, some 40, some 41, some 42] [Reg.Kn.val (.pointer (some ⟨w.heap.size, 0 + 0, none⟩)), Reg.Kn.val (.slice (some ⟨g, o, none⟩) n0 k0), Reg.Kn.val (.slice (some ⟨g2, o2, none⟩) m d), Reg.Kn.val (.int .i64 kk), Reg.Kn.val (.pointer (some ⟨g2, o2 + kk, none⟩)), Reg.Kn.val (.int .i64 (i : Int)), Reg.Kn.val (.pointer (some ⟨g, o + i * 10, none⟩)), Reg.Kn.val (.pointer (some ⟨g, o + i * 10 + 0, none⟩)), Reg.Kn.val (.string ⟨x.name.toArray⟩), Reg.Kn.val (.string ⟨u.toArray⟩), Reg.Kn.bl true] (List.replicate 11 true) [(32, 0), (33, 1), (34, 2), (35, 3), (36, 4), (37, 5), (38, 6), (39, 7), (40, 8), (41, 9), (42, 10)] (by kernel_rfl) (by kernel_rfl) (by kernel_rfl) (by decide) (by kernel_rfl) ?_ ?_
        · intro ii op a' w' ho hwd hdp hot hb
          have hr := Below.refl w'.heap.size w'
          have N1 := (hb.block _ (at_lt HX3.out)).trans HX3.out
          match ii, ho, hwd, hdp, hot with
          | 0, ho, hwd, hdp, hot =>
            obtain rfl := Option.some.inj ho
            have e3 : a'.tmps[3]? = some (.pointer (some ⟨w.heap.size, 0, none⟩)) := (hot 3 ⟨by kernel_rfl⟩).trans rfl
            exact wq_fa_apiConf_0 3 _ _ rfl e3 ⟨_, rfl, rfl, hr⟩
          | 1, ho, hwd, hdp, hot =>
            obtain rfl := Option.some.inj ho
            have e32 : a'.tmps[32]? = some (.pointer (some ⟨w.heap.size, 0 + 0, none⟩)) := by obtain ⟨_, e, h⟩ := hdp 0 (Reg.mem_of (by kernel_rfl)) _ rfl; exact e.trans (congrArg some h)
            exact wq_ld_slapiConsole 32 _ _ rfl e32 (at_cell N1 0) ⟨_, rfl, rfl, hr⟩
          | 2, ho, hwd, hdp, hot =>
            obtain rfl := Option.some.inj ho
            have e9 : a'.tmps[9]? = some (.slice (some ⟨g2, o2, none⟩) m d) := (hot 9 ⟨by kernel_rfl⟩).trans rfl
            exact wq_move 9 _ rfl e9 ⟨_, rfl, rfl, hr⟩
          | 3, ho, hwd, hdp, hot =>
            obtain rfl := Option.some.inj ho
            have e12 : a'.tmps[12]? = some (.int .i64 kk) := (hot 12 ⟨by kernel_rfl⟩).trans rfl
            exact wq_move 12 _ rfl e12 ⟨_, rfl, rfl, hr⟩
          | 4, ho, hwd, hdp, hot =>
            obtain rfl := Option.some.inj ho
            have e34 : a'.tmps[34]? = some (.slice (some ⟨g2, o2, none⟩) m d) := by obtain ⟨_, e, h⟩ := hdp 2 (Reg.mem_of (by kernel_rfl)) _ rfl; exact e.trans (congrArg some h)
            have e35 : a'.tmps[35]? = some (.int .i64 kk) := by obtain ⟨_, e, h⟩ := hdp 3 (Reg.mem_of (by kernel_rfl)) _ rfl; exact e.trans (congrArg some h)
            exact wq_ix_slint 34 35 _ _ _ _ _ rfl e34 e35 hlt ⟨_, rfl, rfl, hr⟩
          | 5, ho, hwd, hdp, hot =>
            obtain rfl := Option.some.inj ho
            have e36 : a'.tmps[36]? = some (.pointer (some ⟨g2, o2 + kk, none⟩)) := by obtain ⟨_, e, h⟩ := hdp 4 (Reg.mem_of (by kernel_rfl)) _ rfl; exact e.trans (congrArg some h)
            exact wq_ld_int 36 _ _ rfl e36 ((hb.cell (p := ⟨g2, o2 + kk, none⟩) hg2).trans y0) ⟨_, rfl, rfl, hr⟩
          | 6, ho, hwd, hdp, hot =>
            obtain rfl := Option.some.inj ho
            have e33 : a'.tmps[33]? = some (.slice (some ⟨g, o, none⟩) n0 k0) := by obtain ⟨_, e, h⟩ := hdp 1 (Reg.mem_of (by kernel_rfl)) _ rfl; exact e.trans (congrArg some h)
            have e37 : a'.tmps[37]? = some (.int .i64 (i : Int)) := by obtain ⟨_, e, h⟩ := hdp 5 (Reg.mem_of (by kernel_rfl)) _ rfl; exact e.trans (congrArg some h)
            exact wq_ix_slapiConsole 33 37 _ _ _ _ _ rfl e33 e37 hin ⟨_, rfl, rfl, hr⟩
          | 7, ho, hwd, hdp, hot =>
            obtain rfl := Option.some.inj ho
            have e38 : a'.tmps[38]? = some (.pointer (some ⟨g, o + i * 10, none⟩)) := by obtain ⟨_, e, h⟩ := hdp 6 (Reg.mem_of (by kernel_rfl)) _ rfl; exact e.trans (congrArg some h)
            exact wq_fa_apiConsole_0 38 _ _ rfl e38 ⟨_, rfl, rfl, hr⟩
          | 8, ho, hwd, hdp, hot =>
            obtain rfl := Option.some.inj ho
            have e39 : a'.tmps[39]? = some (.pointer (some ⟨g, o + i * 10 + 0, none⟩)) := by obtain ⟨_, e, h⟩ := hdp 7 (Reg.mem_of (by kernel_rfl)) _ rfl; exact e.trans (congrArg some h)
            exact wq_ld_string 39 _ _ rfl e39 ((hb.cell (p := ⟨g, o + i * 10, none⟩) hg).trans c0) ⟨_, rfl, rfl, hr⟩
          | 9, ho, hwd, hdp, hot =>
            obtain rfl := Option.some.inj ho
            have e2 : a'.tmps[2]? = some (.string ⟨u.toArray⟩) := (hot 2 ⟨by kernel_rfl⟩).trans rfl
            exact wq_move 2 _ rfl e2 ⟨_, rfl, rfl, hr⟩
          | 10, ho, hwd, hdp, hot =>
            obtain rfl := Option.some.inj ho
            have e40 : a'.tmps[40]? = some (.string ⟨x.name.toArray⟩) := by obtain ⟨_, e, h⟩ := hdp 8 (Reg.mem_of (by kernel_rfl)) _ rfl; exact e.trans (congrArg some h)
            have e41 : a'.tmps[41]? = some (.string ⟨u.toArray⟩) := by obtain ⟨_, e, h⟩ := hdp 9 (Reg.mem_of (by kernel_rfl)) _ rfl; exact e.trans (congrArg some h)
            exact wq_call2_wheelhouseref16begins 40 41 _ _ _ _ rfl e40 e41 ((rbegins_calls x.name u _).mono (by rintro e w2 ⟨rfl, rfl⟩; exact ⟨_, rfl, (by rw [hbg]; rfl), Below.refl _ _⟩)) fun v w2 hk hb2 => ⟨_, rfl, hk, hb2⟩
          | ii + 11, ho, _, _, _ => exact absurd ho (by simp)
        · intro us w' hul hus hb
          obtain ⟨z0, z1, z2, z3, z4, z5, z6, z7, z8, z9, z10, rfl⟩ : ∃ z0 z1 z2 z3 z4 z5 z6 z7 z8 z9 z10, us = [z0, z1, z2, z3, z4, z5, z6, z7, z8, z9, z10] := by
            clear hus
            match us, hul with
            | [z0, z1, z2, z3, z4, z5, z6, z7, z8, z9, z10], _ => exact ⟨z0, z1, z2, z3, z4, z5, z6, z7, z8, z9, z10, rfl⟩
          have h42 : z10 = .bool true := hus 10 (42, 10) _ rfl rfl
          subst h42
          clear hus hul
          simp only [List.map, List.zip, List.zipWith, Reg.puts, Act.put, List.setIfInBounds_toArray, List.set_cons_succ, List.set_cons_zero]
          have H5 := Lib.hid (HW2.out.trans (hb.mono hs2))
          have hg5 : g2 < w'.heap.size := Nat.lt_of_lt_of_le hg2 hb.size
          have y5 := (hb.cell (p := ⟨g2, o2 + kk, none⟩) hg2).trans y0
          clear hb y0
          go_wp2_with fail
          go_quiet (fail)
          go_wp2_with fail
          go_roundw
          case rel => exact ⟨kk + 1, b ++ [i], by omega, by go_num, by rw [List.length_append]; go_num, by rw [lst_snoc], by rw [List.length_append]; simp; omega, HP2.out, below_drew H5.out⟩
          case measure => simp [Conf.intOf]; omega
      | false =>
        have HP2 := Lib.hid (HSP.out.2 hbg)
        have hbg : begB u x.name = false := hbg
        clear HSP
        go_wp2_with fail
        refine Reg.wp_sat (by kernel_rfl) [some 32, some 33, some 34, some 35, some 36, some 37, some 38, some 39, some 40, some 41, some 42] [Reg.Kn.val (.pointer (some ⟨w.heap.size, 0 + 0, none⟩)), Reg.Kn.val (.slice (some ⟨g, o, none⟩) n0 k0), Reg.Kn.val (.slice (some ⟨g2, o2, none⟩) m d), Reg.Kn.val (.int .i64 kk), Reg.Kn.val (.pointer (some ⟨g2, o2 + kk, none⟩)), Reg.Kn.val (.int .i64 (i : Int)), Reg.Kn.val (.pointer (some ⟨g, o + i * 10, none⟩)), Reg.Kn.val (.pointer (some ⟨g, o + i * 10 + 0, none⟩)), Reg.Kn.val (.string ⟨x.name.toArray⟩), Reg.Kn.val (.string ⟨u.toArray⟩), Reg.Kn.bl false] (List.replicate 11 true) [(32, 0), (33, 1), (34, 2), (35, 3), (36, 4), (37, 5), (38, 6), (39, 7), (40, 8), (41, 9), (42, 10)] (by kernel_rfl) (by kernel_rfl) (by kernel_rfl) (by decide) (by kernel_rfl) ?_ ?_
        · intro ii op a' w' ho hwd hdp hot hb
          have hr := Below.refl w'.heap.size w'
          have N1 := (hb.block _ (at_lt HX3.out)).trans HX3.out
          match ii, ho, hwd, hdp, hot with
          | 0, ho, hwd, hdp, hot =>
            obtain rfl := Option.some.inj ho
            have e3 : a'.tmps[3]? = some (.pointer (some ⟨w.heap.size, 0, none⟩)) := (hot 3 ⟨by kernel_rfl⟩).trans rfl
            exact wq_fa_apiConf_0 3 _ _ rfl e3 ⟨_, rfl, rfl, hr⟩
          | 1, ho, hwd, hdp, hot =>
            obtain rfl := Option.some.inj ho
            have e32 : a'.tmps[32]? = some (.pointer (some ⟨w.heap.size, 0 + 0, none⟩)) := by obtain ⟨_, e, h⟩ := hdp 0 (Reg.mem_of (by kernel_rfl)) _ rfl; exact e.trans (congrArg some h)
            exact wq_ld_slapiConsole 32 _ _ rfl e32 (at_cell N1 0) ⟨_, rfl, rfl, hr⟩
          | 2, ho, hwd, hdp, hot =>
            obtain rfl := Option.some.inj ho
            have e9 : a'.tmps[9]? = some (.slice (some ⟨g2, o2, none⟩) m d) := (hot 9 ⟨by kernel_rfl⟩).trans rfl
            exact wq_move 9 _ rfl e9 ⟨_, rfl, rfl, hr⟩
          | 3, ho, hwd, hdp, hot =>
            obtain rfl := Option.some.inj ho
            have e12 : a'.tmps[12]? = some (.int .i64 kk) := (hot 12 ⟨by kernel_rfl⟩).trans rfl
            exact wq_move 12 _ rfl e12 ⟨_, rfl, rfl, hr⟩
          | 4, ho, hwd, hdp, hot =>
            obtain rfl := Option.some.inj ho
            have e34 : a'.tmps[34]? = some (.slice (some ⟨g2, o2, none⟩) m d) := by obtain ⟨_, e, h⟩ := hdp 2 (Reg.mem_of (by kernel_rfl)) _ rfl; exact e.trans (congrArg some h)
            have e35 : a'.tmps[35]? = some (.int .i64 kk) := by obtain ⟨_, e, h⟩ := hdp 3 (Reg.mem_of (by kernel_rfl)) _ rfl; exact e.trans (congrArg some h)
            exact wq_ix_slint 34 35 _ _ _ _ _ rfl e34 e35 hlt ⟨_, rfl, rfl, hr⟩
          | 5, ho, hwd, hdp, hot =>
            obtain rfl := Option.some.inj ho
            have e36 : a'.tmps[36]? = some (.pointer (some ⟨g2, o2 + kk, none⟩)) := by obtain ⟨_, e, h⟩ := hdp 4 (Reg.mem_of (by kernel_rfl)) _ rfl; exact e.trans (congrArg some h)
            exact wq_ld_int 36 _ _ rfl e36 ((hb.cell (p := ⟨g2, o2 + kk, none⟩) hg2).trans y0) ⟨_, rfl, rfl, hr⟩
          | 6, ho, hwd, hdp, hot =>
            obtain rfl := Option.some.inj ho
            have e33 : a'.tmps[33]? = some (.slice (some ⟨g, o, none⟩) n0 k0) := by obtain ⟨_, e, h⟩ := hdp 1 (Reg.mem_of (by kernel_rfl)) _ rfl; exact e.trans (congrArg some h)
            have e37 : a'.tmps[37]? = some (.int .i64 (i : Int)) := by obtain ⟨_, e, h⟩ := hdp 5 (Reg.mem_of (by kernel_rfl)) _ rfl; exact e.trans (congrArg some h)
            exact wq_ix_slapiConsole 33 37 _ _ _ _ _ rfl e33 e37 hin ⟨_, rfl, rfl, hr⟩
          | 7, ho, hwd, hdp, hot =>
            obtain rfl := Option.some.inj ho
            have e38 : a'.tmps[38]? = some (.pointer (some ⟨g, o + i * 10, none⟩)) := by obtain ⟨_, e, h⟩ := hdp 6 (Reg.mem_of (by kernel_rfl)) _ rfl; exact e.trans (congrArg some h)
            exact wq_fa_apiConsole_0 38 _ _ rfl e38 ⟨_, rfl, rfl, hr⟩
          | 8, ho, hwd, hdp, hot =>
            obtain rfl := Option.some.inj ho
            have e39 : a'.tmps[39]? = some (.pointer (some ⟨g, o + i * 10 + 0, none⟩)) := by obtain ⟨_, e, h⟩ := hdp 7 (Reg.mem_of (by kernel_rfl)) _ rfl; exact e.trans (congrArg some h)
            exact wq_ld_string 39 _ _ rfl e39 ((hb.cell (p := ⟨g, o + i * 10, none⟩) hg).trans c0) ⟨_, rfl, rfl, hr⟩
          | 9, ho, hwd, hdp, hot =>
            obtain rfl := Option.some.inj ho
            have e2 : a'.tmps[2]? = some (.string ⟨u.toArray⟩) := (hot 2 ⟨by kernel_rfl⟩).trans rfl
            exact wq_move 2 _ rfl e2 ⟨_, rfl, rfl, hr⟩
          | 10, ho, hwd, hdp, hot =>
            obtain rfl := Option.some.inj ho
            have e40 : a'.tmps[40]? = some (.string ⟨x.name.toArray⟩) := by obtain ⟨_, e, h⟩ := hdp 8 (Reg.mem_of (by kernel_rfl)) _ rfl; exact e.trans (congrArg some h)
            have e41 : a'.tmps[41]? = some (.string ⟨u.toArray⟩) := by obtain ⟨_, e, h⟩ := hdp 9 (Reg.mem_of (by kernel_rfl)) _ rfl; exact e.trans (congrArg some h)
            exact wq_call2_wheelhouseref16begins 40 41 _ _ _ _ rfl e40 e41 ((rbegins_calls x.name u _).mono (by rintro e w2 ⟨rfl, rfl⟩; exact ⟨_, rfl, (by rw [hbg]; rfl), Below.refl _ _⟩)) fun v w2 hk hb2 => ⟨_, rfl, hk, hb2⟩
          | ii + 11, ho, _, _, _ => exact absurd ho (by simp)
        · intro us w' hul hus hb
          obtain ⟨z0, z1, z2, z3, z4, z5, z6, z7, z8, z9, z10, rfl⟩ : ∃ z0 z1 z2 z3 z4 z5 z6 z7 z8 z9 z10, us = [z0, z1, z2, z3, z4, z5, z6, z7, z8, z9, z10] := by
            clear hus
            match us, hul with
            | [z0, z1, z2, z3, z4, z5, z6, z7, z8, z9, z10], _ => exact ⟨z0, z1, z2, z3, z4, z5, z6, z7, z8, z9, z10, rfl⟩
          have h42 : z10 = .bool false := hus 10 (42, 10) _ rfl rfl
          subst h42
          clear hus hul
          simp only [List.map, List.zip, List.zipWith, Reg.puts, Act.put, List.setIfInBounds_toArray, List.set_cons_succ, List.set_cons_zero]
          have H5 := Lib.hid (HW2.out.trans (hb.mono hs2))
          clear hb
          go_wp2_with fail
          go_roundw
          case rel => exact ⟨kk + 1, b, by omega, by go_num, rfl, rfl, by omega, HP2.out, H5.out⟩
          case measure => simp [Conf.intOf]; omega
    · obtain ⟨e1, hone⟩ := HPK.out.one HM.out.symm
      clear HPK
      match b, e1, hbk with
      | [], e1, hbk =>
        rcases idx_cases c.cons (nmF u) with ⟨e2, hf⟩ | ⟨k5, hk5, e2, hf⟩
        · have HE := Lib.hid (pk_none hf e1.symm)
          obtain rfl : nv = -1 := HNV.out.symm.trans e2
          clear hone e1 e2 hf
          go_wp2_with fail
          go_ret2
          exact ⟨by rw [HE.out]; rfl, HB2.out⟩
        · have HE := Lib.hid (pk_denied hf (hone _ hf) e1.symm)
          obtain rfl : nv = (k5 : Int) := HNV.out.symm.trans e2
          clear hone e1 e2 hf hk5
          go_wp2_with fail
          go_ret2
          exact ⟨by rw [HE.out]; rfl, HB2.out⟩
      | [i], e1, hbk =>
        have HE := Lib.hid (pk_one hone e1.symm)
        clear hone e1
        simp only [List.length_singleton, show lst [i] = i from rfl]
        go_wp2_with fail
        go_ret2
        exact ⟨by rw [HE.out]; rfl, HB2.out⟩
      | i :: j :: r, e1, hbk =>
        have HE := Lib.hid (pk_many hone e1.symm)
        obtain ⟨n8, hn8, hl8⟩ : ∃ n8, (i :: j :: r).length = n8 ∧ 2 ≤ n8 := ⟨_, rfl, by simp⟩
        generalize lst (i :: j :: r) = a8
        rw [hn8] at hbk ⊢
        have hb1 : ((n8 : Int) == 1) = false := by simp; omega
        have hb2 : (1 : Int) < (n8 : Int) := by omega
        clear hone e1 hn8
        go_wp2_with fail
        go_ret2
        exact ⟨by rw [HE.out]; rfl, HB2.out⟩
end Go.Proofs.Ytomnkmcabkoagaa.Rgt

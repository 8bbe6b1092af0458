/-
A region that draws its order, in a round of a range over a function (XRegSpec4, XRegChain inside such a fence).
Layer 17 (runner): New, walked: a range over a function.
Layer 17 (runner): New, as a contract.
Layer 17 (runner): a runner that was asked up to some time.
Layer 18 (backoff) in plain Lean: which rules there may be, and how long is waited.
-/
import Derived.Test.YtnkhdpenmekhdaaGreatPPack2
import Derived.OrdersIn
import Derived.RangeFuncCalls
import Derived.TacticsIn
import Derived.RangeFuncBox
import Derived.Maps.AppendAt
import Derived.Deep.AppendLies
section
namespace Go.Proofs.YtnkhdpenmekhdaaGreat.Reg
open Go Go.RowKit
def noDefer (ops : Array Oper) : Bool := ops.all fun o => match o.op with
  | .defer _ => false
  | _ => true
theorem noDefer_at {ops : Array Oper} {i : Nat} {o : Oper} (h : noDefer ops = true) (ho : ops[i]? = some o) : ∀ c, o.op ≠ .defer c := by
  intro c e
  unfold noDefer at h
  rw [Array.all_eq_true'] at h
  have := h o (Array.mem_of_getElem? ho)
  rw [e] at this
  cases this
section
variable {P : Program} {Q : Exit → Act → World → Prop}
theorem rowsIn_of {lo m : Nat} {row : String} {args : Array Value} {w : World} {R : Value → World → Prop} (h : Rows P row args w R) : RowsIn (Fence.wide.inRound lo) m P row args w R := fun c cs _ =>
  let ⟨v, w', r, s⟩ := h c cs
  ⟨v, w', r, stepsIn_wide.2 s⟩
theorem wpIn_of {lo m : Nat} {o : Oper} {a : Act} {w : World} {K : Act → World → Prop} (hd : ∀ c, o.op ≠ .defer c) (h : Oper.wp P o a w K Q) : Oper.wpIn (Fence.wide.inRound lo) m P o a w K Q := by
  refine ⟨fun _ _ => trivial, ?_⟩
  rw [Fence.inRound_round, Oper.semAt_some lo _ o hd]
  unfold Oper.wp at h
  generalize (execOp a.eval o).run P w = r at *
  cases r with
  | ok x w' =>
    cases x <;> simp only [Oper.upon, Oper.uponIn] at h ⊢ <;>
      first
        | exact h
        | exact ⟨fun e => by simp [Fence.wide, Fence.inRound] at e, CallsIn.inRound lo (callsIn_wide.2 (h.mono fun e w2 he => by cases e <;> exact he))⟩
        | exact ⟨fun e => by simp [Fence.wide, Fence.inRound] at e, rowsIn_of h⟩
  | halt x w' => cases x <;> simp only [Oper.upon, Oper.uponIn] at h ⊢ <;> exact h
variable {ops : Array Oper} {ds : List (Option Nat)} {n : Nat}
variable {Sp : Nat → World → Value → Prop} {J : Array Bool → Act → World → Prop} {a0 : Act}
theorem any_guarded4_in {lo m : Nat} (hnd0 : noDefer ops = true) (hok : okG ops ds a0.tmps.size = true)
    (step : ∀ i o listed a w, ops[i]? = some o → HSees ops ds Sp J a0 listed i a w →
      (Region.wanted o (yielded ops a.tmps) = true → Oper.wp P o a w (Leaves4 Sp J listed i o.dst a w) Q) ∧ (Region.wanted o (yielded ops a.tmps) = false → Leaves4 Sp J listed i o.dst a w (a.put o.dst undef) w))
    (fin : ∀ listed a w, (∀ i, i < ops.size → listed.getD i false = true) → HHolds ops ds Sp J a0 listed a w → Q .normal a w) :
    ∀ (fuel : Nat) (listed : Array Bool) (a : Act) (w : World), listed.size = ops.size → left listed ≤ fuel → HHolds ops ds Sp J a0 listed a w → wpAnyIn (Fence.wide.inRound lo) m P .any ops Q fuel listed a w
  | 0, listed, a, w, hl, hf, h => by
    have hall : ∀ i, i < ops.size → listed.getD i false = true := fun i hi => left_zero (by omega) (by omega)
    exact ⟨all_ready hl hall, fin listed a w hall h⟩
  | fuel + 1, listed, a, w, hl, hf, h => by
    refine ⟨fun hr => fin listed a w (readyG_all hok hl hr) h, fun i hi => ?_⟩
    obtain ⟨hun, o, ho, hdep⟩ := mem_ready.1 hi
    have hi' : i < ops.size := (Array.getElem?_eq_some_iff.1 ho).1
    have hk := okG_at hok ho
    have hun2 : listed.getD i false = false := by rw [getD_mem (by omega)] at hun ⊢; exact hun
    have hdeps : ∀ j ∈ deps ops i, j < ops.size ∧ listed.getD j false = true := fun j hj => by
      have hlt := hk.deps j hj
      unfold deps at hj
      rw [ho] at hj
      obtain ⟨e, he, rfl⟩ := List.mem_map.1 hj
      have he := List.mem_filter.1 he
      exact ⟨by omega, hdep e (by simpa using he.1) he.2⟩
    have hstep := step i o listed a w ho ⟨hl, hun2, h.closed, fun j hj => h.done j (hdeps j hj).1 (hdeps j hj).2, h.other, h.inv, fun j hj => (hdeps j hj).2, h.size⟩
    have key : ∀ a' w', Leaves4 Sp J listed i o.dst a w a' w' → wpAnyIn (Fence.wide.inRound lo) m P .any ops Q fuel (listed.setIfInBounds i true) a' w' := by
      rintro a' w' ⟨v, rfl, hv, hmono, hJ⟩
      refine any_guarded4_in hnd0 hok step fin fuel _ _ _ (by simpa using hl) (by have := left_set (listed := listed) (i := i) (by omega) hun; omega) ⟨?_, ?_, ?_, ?_, ?_, hJ⟩
      · rw [put_size]; exact h.size
      · rw [put_defers]; exact h.defers
      · intro k hk2 hlk j hj
        by_cases hik : i = k
        · subst hik
          exact getD_set_true (hdeps j hj).2
        · rw [getD_set_ne false hik] at hlk
          exact getD_set_true (h.closed k hk2 hlk j hj)
      · intro t ht
        have hit : (listed.setIfInBounds i true).getD i false = true := by
          rw [getD_mem (by simpa using (by omega : i < listed.size))]; simp
        rw [put_ne a v (by rw [hk.dst]; exact ht i hi' hit)]
        exact h.other t fun k hk2 hlk => ht k hk2 (getD_set_true hlk)
      · intro j hj hlj
        by_cases hij : i = j
        · subst hij
          refine ⟨v, fun d hd => ?_, hv⟩
          rw [hk.dst, hd]
          exact put_at a v (by rw [h.size]; exact hk.lt d hd)
        · rw [getD_set_ne false hij] at hlj
          obtain ⟨u, e1, e2⟩ := h.done j hj hlj
          refine ⟨u, fun d hd => ?_, hmono j u (Ne.symm hij) hlj e2⟩
          rw [put_ne a v (by rw [hk.dst]; exact okG_apart hok hj hi' (Ne.symm hij) hd)]
          exact e1 d hd
    unfold wpOpIn
    rw [ho]
    dsimp only
    cases hw : Region.wanted o (yielded ops a.tmps) with
    | true =>
      rw [if_pos rfl]
      exact wpIn_of (noDefer_at hnd0 ho) (Oper.wp_mono key (hstep.1 hw))
    | false =>
      rw [if_neg (by simp)]
      exact ⟨fun _ _ => trivial, key _ _ (hstep.2 hw)⟩
/-- the region, each operation told once; the frame behind it: 'slots' are the temporaries that it writes, each with its operation -/
theorem wp_guarded4_in {lo m : Nat} (hnd0 : noDefer ops = true) {id : Nat} {a : Act} {w : World} (hm : P.follows .mixedOrders = true) (ds : List (Option Nat)) (Sp : Nat → World → Value → Prop) (J : Array Bool → Act → World → Prop) (slots : List (Nat × Nat)) (hok : okG ops ds a.tmps.size = true)
    (hsl : (slots.all fun p => decide (p.2 < ops.size) && dsAt ds p.2 == some p.1) = true) (hnd : (slots.map (·.1)).Nodup) (hall : ((List.range ops.size).all fun i => (dsAt ds i).all fun d => (slots.map (·.1)).contains d) = true)
    (h0 : J (Array.replicate ops.size false) a w.drew)
    (step : ∀ i o listed a' w', ops[i]? = some o → HSees ops ds Sp J a listed i a' w' →
      (Region.wanted o (yielded ops a'.tmps) = true → Oper.wp P o a' w' (Leaves4 Sp J listed i o.dst a' w') Q) ∧ (Region.wanted o (yielded ops a'.tmps) = false → Leaves4 Sp J listed i o.dst a' w' (a'.put o.dst undef) w'))
    (fin : ∀ listed (vs : List Value) w', vs.length = slots.length → (∀ (k : Nat) (p : Nat × Nat) (v : Value), slots[k]? = some p → vs[k]? = some v → Sp p.2 w' v ∧ (puts a ((slots.map (·.1)).zip vs)).tmps[p.1]? = some v) → (∀ i, i < ops.size → ∃ v, Sp i w' v) → (∀ i, i < ops.size → listed.getD i false = true) → J listed (puts a ((slots.map (·.1)).zip vs)) w' → Q .normal (puts a ((slots.map (·.1)).zip vs)) w') :
    (Code.region id ops true).wpIn (Fence.wide.inRound lo) m P Q a w := by
  refine wpIn_region_any hm ?_
  refine any_guarded4_in (a0 := a) hnd0 hok step (fun listed a' w' hal h => ?_) _ _ _ _ (by simp) ?_ ⟨rfl, rfl, fun k hk hf => ?_, fun _ _ => rfl, fun i hi hf => ?_, h0⟩
  · simp only [List.all_eq_true, Bool.and_eq_true, decide_eq_true_eq, beq_iff_eq] at hsl
    have hv : ∀ p ∈ slots, ∃ v, a'.tmps[p.1]? = some v ∧ Sp p.2 w' v := fun p hp => by
      obtain ⟨h1, h2⟩ := hsl p hp
      obtain ⟨v, e, hs⟩ := h.done p.2 h1 (hal _ h1)
      exact ⟨v, e p.1 h2, hs⟩
    let vs := slots.map fun p => a'.tmps.getD p.1 undef
    have hfr := frame_eq h.size h.defers ((slots.map (·.1)).zip vs) (by
      rw [List.map_fst_zip (by simp [vs])]; exact hnd) (fun p hp => by
      have hp2 := (List.of_mem_zip (a := p.1) (b := p.2) hp).1
      obtain ⟨q, hq, e⟩ := List.mem_map.1 hp2
      obtain ⟨h1, h2⟩ := hsl q hq
      rw [← e]
      exact (okG_at hok (Array.getElem?_eq_some_iff.2 ⟨h1, rfl⟩)).lt _ h2) (fun p hp => by
      obtain ⟨k, hk, e⟩ := List.mem_iff_getElem.1 hp
      rw [List.getElem_zip] at e
      rw [← e]
      rw [List.length_zip] at hk
      have hk1 : k < slots.length := by simp at hk; omega
      obtain ⟨v, e1, _⟩ := hv slots[k] (List.getElem_mem hk1)
      simp only [vs, List.getElem_map]
      rw [arr_getD e1]; exact e1) (fun t ht => h.other t fun i hi _ e => by
      simp only [List.all_eq_true, List.mem_range] at hall
      have h3 := hall i hi
      rw [e] at h3
      have h3 : t ∈ slots.map (·.1) := by simpa using h3
      obtain ⟨k, hk, e2⟩ := List.mem_iff_getElem.1 h3
      have hkl : k < ((slots.map (·.1)).zip vs).length := by rw [List.length_zip]; simp [vs] at hk ⊢; omega
      exact ht _ (List.getElem_mem hkl) (by rw [List.getElem_zip]; exact e2))
    have hinv := h.inv
    rw [hfr] at hinv
    rw [hfr]
    refine fin listed vs w' (by simp [vs]) (fun k p v hp hvk => ?_) (fun i hi => (h.done i hi (hal i hi)).imp fun v hv => hv.2) hal hinv
    obtain ⟨hk1, rfl⟩ := List.getElem?_eq_some_iff.1 hp
    obtain ⟨hk2, rfl⟩ := List.getElem?_eq_some_iff.1 hvk
    obtain ⟨u, e1, e2⟩ := hv slots[k] (List.getElem_mem hk1)
    have h3 : vs[k] = a'.tmps.getD slots[k].1 undef := by simp only [vs, List.getElem_map]
    have hv2 : vs[k] = u := by rw [h3, arr_getD e1]
    rw [hv2]
    exact ⟨e2, by rw [← hfr]; exact e1⟩
  · exact Nat.le_trans List.countP_le_length (by simp)
  · simp [hk] at hf
  · simp [hi] at hf
theorem wp_chain_in {lo m : Nat} (hnd0 : noDefer ops = true) {id : Nat} {a : Act} {w : World} (hm : P.follows .mixedOrders = true) (ds : List (Option Nat)) (vs : List Value) (ib ia is : Nat) (S0 S1 S2 S3 : World) (slots : List (Nat × Nat)) (hok : okG ops ds a.tmps.size = true) (hng : noGuard ops = true)
    (hsl : (slots.all fun p => decide (p.2 < ops.size) && dsAt ds p.2 == some p.1) = true) (hnd : (slots.map (·.1)).Nodup) (hall : ((List.range ops.size).all fun i => (dsAt ds i).all fun d => (slots.map (·.1)).contains d) = true)
    (hix : (decide (ib < ia) && (decide (ia < is) && (decide (is < ops.size) && ((deps ops ia).contains ib && (deps ops is).contains ia)))) = true) (hS0 : w.drew = S0)
    (step : ∀ i o a' w', ops[i]? = some o → (∀ j ∈ deps ops i, ∀ d, dsAt ds j = some d → a'.tmps[d]? = some (vs.getD j undef)) → (∀ t, Fr ops ds i t → a'.tmps[t]? = a.tmps[t]?) → Now ops ib ia is S0 S1 S2 S3 i w' →
      Oper.wp P o a' w' (fun a2 w2 => a2 = a'.put o.dst (vs.getD i undef) ∧ w2 = nxt ib ia is S1 S2 S3 i w') Q)
    (fin : ∀ us : List Value, us.length = slots.length → (∀ (k : Nat) (p : Nat × Nat) (v : Value), slots[k]? = some p → us[k]? = some v → v = vs.getD p.2 undef) → Q .normal (puts a ((slots.map (·.1)).zip us)) S3) : (Code.region id ops true).wpIn (Fence.wide.inRound lo) m P Q a w := by
  simp only [Bool.and_eq_true, decide_eq_true_eq] at hix
  obtain ⟨h1, h2, h3, h4, h5⟩ := hix
  have hb : ib ∈ deps ops ia := by simpa using h4
  have ha : ia ∈ deps ops is := by simpa using h5
  refine wp_guarded4_in hnd0 hm ds (fun i _ v => v = vs.getD i undef) (fun listed _ w' => w' = wld ib ia is S0 S1 S2 S3 listed) slots hok hsl hnd hall ?_ ?_ ?_
  · rw [hS0]
    unfold wld
    simp [h3, show ia < ops.size by omega, show ib < ops.size by omega]
  · intro i o listed a' w' ho hs
    have hi : i < ops.size := (Array.getElem?_eq_some_iff.1 ho).1
    have hg : o.guard = none := by
      unfold noGuard at hng
      rw [Array.all_eq_true'] at hng
      have := hng o (Array.mem_of_getElem? ho)
      simpa using this
    have hca : listed.getD ia false = true → listed.getD ib false = true := fun h => hs.closed ia (by omega) h ib hb
    have hcs : listed.getD is false = true → listed.getD ia false = true := fun h => hs.closed is h3 h ia ha
    have hun := hs.un
    have hsz := hs.size
    have hw : Region.wanted o (yielded ops a'.tmps) = true := wanted_none hg
    refine ⟨fun _ => ?_, fun h => by rw [hw] at h; cases h⟩
    have hinv : w' = wld ib ia is S0 S1 S2 S3 listed := hs.inv
    have hdep : ∀ j ∈ deps ops i, ∀ d, dsAt ds j = some d → a'.tmps[d]? = some (vs.getD j undef) := fun j hj d hd => by
      obtain ⟨v, e, rfl⟩ := hs.dep j hj
      exact e d hd
    have hother : ∀ t, Fr ops ds i t → a'.tmps[t]? = a.tmps[t]? := fun t hf => hs.other t fun k hk hlk e => by
      have ht := hf.out
      unfold freeAt at ht
      simp only [List.all_eq_true, List.mem_range, Bool.or_eq_true, bne_iff_ne, ne_eq] at ht
      rcases ht k hk with h | h
      · exact h e
      · have := marks_listed hs.closed ops.size (Nat.le_refl _) k h hlk
        rw [hun] at this; cases this
    have F : ∀ {x : Bool}, (x = true → False) → x = false := fun {x} h => by cases x <;> simp_all
    have hnow : Now ops ib ia is S0 S1 S2 S3 i w' := by
      refine ⟨fun e => ?_, fun e => ?_, fun e => ?_, fun e => ?_, ?_⟩
      · subst e
        have e1 : listed.getD ia false = false := F fun h => by have := hca h; rw [hun] at this; cases this
        have e2 : listed.getD is false = false := F fun h => by have := hcs h; rw [e1] at this; cases this
        rw [hinv]; unfold wld; rw [e1, e2, hun]; rfl
      · subst e
        have e2 : listed.getD is false = false := F fun h => by have := hcs h; rw [hun] at this; cases this
        have e3 : listed.getD ib false = true := hs.lst ib hb
        rw [hinv]; unfold wld; rw [e2, hun, e3]; rfl
      · subst e
        have e3 : listed.getD ia false = true := hs.lst ia ha
        rw [hinv]; unfold wld; rw [hun, e3]; rfl
      · have e1 : listed.getD ia false = false := F fun h => by
          have := marks_listed hs.closed ops.size (Nat.le_refl _) ia e h
          rw [hun] at this; cases this
        have e2 : listed.getD is false = false := F fun h => by have := hcs h; rw [e1] at this; cases this
        rw [hinv]; unfold wld; rw [e1, e2]
        cases listed.getD ib false with
        | true => right; rfl
        | false => left; rfl
      · rw [hinv]; unfold wld
        split
        · exact .inr (.inr (.inr rfl))
        · split
          · exact .inr (.inr (.inl rfl))
          · split
            · exact .inr (.inl rfl)
            · exact .inl rfl
    refine Oper.wp_mono ?_ (step i o a' w' ho hdep hother hnow)
    rintro a2 w2 ⟨rfl, rfl⟩
    refine ⟨_, rfl, rfl, fun j u _ _ h => h, ?_⟩
    have G : ∀ k, (listed.setIfInBounds i true).getD k false = (if i = k then true else listed.getD k false) := fun k => by
      by_cases e : i = k
      · subst e; rw [if_pos rfl]; simp [hsz, hi]
      · rw [if_neg e]; exact getD_set_ne false e
    show nxt ib ia is S1 S2 S3 i w' = wld ib ia is S0 S1 S2 S3 (listed.setIfInBounds i true)
    unfold nxt wld
    rw [G, G, G]
    by_cases e1 : i = is
    · subst e1; simp
    by_cases e2 : i = ia
    · subst e2
      have e4 : listed.getD is false = false := F fun h => by have := hcs h; rw [hun] at this; cases this
      simp [e1, e4]
    by_cases e3 : i = ib
    · subst e3
      have e4 : listed.getD ia false = false := F fun h => by have := hca h; rw [hun] at this; cases this
      have e5 : listed.getD is false = false := F fun h => by have := hcs h; rw [e4] at this; cases this
      simp [e1, e2, e4, e5]
    · simp only [e1, e2, e3, if_false]
      rw [hinv]; rfl
  · intro listed us w' hl hu _ hal hJ
    have hJ : w' = wld ib ia is S0 S1 S2 S3 listed := hJ
    have e1 := hal is h3
    rw [hJ]
    have : wld ib ia is S0 S1 S2 S3 listed = S3 := by unfold wld; rw [e1]; rfl
    rw [this]
    exact fin us hl fun k p v hp hv => (hu k p v hp hv).1
end
end Go.Proofs.YtnkhdpenmekhdaaGreat.Reg
end

section
namespace Go.Proofs.YtnkhdpenmekhdaaGreat.Run
open Go.RowKit Go.Shelf Go.Proofs.YtnkhdpenmekhdaaGreat.Own Go.Proofs.YtnkhdpenmekhdaaGreat.Brk Go.Proofs.YtnkhdpenmekhdaaGreat.Calc Go.Proofs.YtnkhdpenmekhdaaGreat.Tree
attribute [local go_sem] Oper.semAt_some

theorem info_due : (Tryz.prog.info? 102).map (fun i => (i.zero, i.size, i.bytes)) = some (some (.agg #[.int .i64 0, .int .i64 0, .string ⟨#[]⟩, .int .i64 0]), 4, 40) := by kernel_rfl
section
variable {o : Oper} {a : Act} {w : World} {K : Act → World → Prop} {Q : Exit → Act → World → Prop}
theorem nil_known (t : Nat) (ad : Addr) (ho : o.op = .nilCheck (.tmp t)) (h1 : a.tmps[t]? = some (.pointer (some ad))) (h : K (a.put o.dst (.pointer (some ad))) w) : Oper.wp Tryz.prog o a w K Q := by
  obtain ⟨d, op, ty, ps, af, gd⟩ := o
  cases ho
  unfold Oper.wp
  simp [go_sem, h1, Oper.upon]
  exact h
theorem ld3_known (t b : Nat) (x y z : Value) (ho : o.op = .load 58 (.tmp t)) (h1 : a.tmps[t]? = some (.pointer (some ⟨b, 0, none⟩))) (hb : w.heap[b]? = some (.cells #[x, y, z] 58 (0, 0))) (h : K (a.put o.dst (.agg #[x, y, z])) w) : Oper.wp Tryz.prog o a w K Q := by
  obtain ⟨c0, c1, c2⟩ := row3 hb
  clear hb
  obtain ⟨d, op, ty, ps, af, gd⟩ := o
  cases ho
  unfold Oper.wp
  simp [go_sem, h1, c0, c1, c2, Oper.upon]
  exact h
theorem bld_known (t u : Nat) (xa xk : Int) (s : ByteArray) (xn : Int) (ho : o.op = .build 102 #[(0, .tmp t), (1, .tmp u)]) (h1 : a.tmps[t]? = some (.int .i64 xa)) (h2 : a.tmps[u]? = some (.agg #[.int .i64 xk, .string s, .int .i64 xn])) (h : K (a.put o.dst (.agg #[.int .i64 xa, .int .i64 xk, .string s, .int .i64 xn])) w) : Oper.wp Tryz.prog o a w K Q := by
  obtain ⟨d, op, ty, ps, af, gd⟩ := o
  cases ho
  unfold Oper.wp
  simp [go_sem, h1, h2, Oper.upon]
  exact h
theorem bs4_known (t : Nat) (x y z v : Value) (ho : o.op = .buildSlice 98 1 #[(0, .tmp t)]) (h1 : a.tmps[t]? = some (.agg #[x, y, z, v])) (h : K (a.put o.dst (.slice (some ⟨w.heap.size, 0, none⟩) 1 1)) (w.alloc (.cells #[x, y, z, v] 102))) : Oper.wp Tryz.prog o a w K Q := by
  obtain ⟨d, op, ty, ps, af, gd⟩ := o
  cases ho
  unfold Oper.wp
  simp [go_sem, h1, Oper.upon]
  exact h
theorem ap_known (t1 t2 : Nat) (T ty : TypeId) (ho : o.op = .call { callee := .builtin .append, args := #[.tmp t1, .tmp t2], argTypes := #[T, T] }) (hty : o.type = ty) (v1 v2 v' : Value) (w' : World) (h1 : a.tmps[t1]? = some v1) (h2 : a.tmps[t2]? = some v2)
    (hr : (Builtin.append_ #[T, T] ty #[v1, v2]).run Tryz.prog w = .ok v' w') (h : K (a.put o.dst v') w') : Oper.wp Tryz.prog o a w K Q := by
  have e1 := Reg.eval_tmp h1
  have e2 := Reg.eval_tmp h2
  unfold Oper.wp execOp
  simp only [ho, resolve, invoke, builtin, Sem.run_bind, Sem.run_pure, Result.andThen_ok, List.map_toArray, List.map_cons, List.map_nil, e1, e2, hty, hr]
  exact h
theorem st_known (t u : Nat) (ad : Addr) (q : Option Addr) (n c : Nat) {v0 : Value} (ho : o.op = .store 98 (.tmp t) (.tmp u)) (hd : o.dst = none) (h1 : a.tmps[t]? = some (.pointer (some ad))) (h2 : a.tmps[u]? = some (.slice q n c)) (hc : w.cell? ad = some v0) (hf : w.frozen? ad = false)
    (h : K a (w.setCell ad (.slice q n c))) : Oper.wp Tryz.prog o a w K Q := by
  obtain ⟨d, op, ty, ps, af, gd⟩ := o
  cases ho
  cases hd
  unfold Oper.wp
  simp [go_sem, h1, h2, hc, hf, Oper.upon]
  exact h
end
set_option maxRecDepth 100000 in
theorem nw_ld_runnerRunner {o : Oper} {a : Act} {w : World} {K : Act → World → Prop} {Q : Exit → Act → World → Prop} (t : Nat) (ad : Addr) (v : Value) (ho : o.op = .load 45 (.tmp t)) (h1 : a.tmps[t]? = some (.pointer (some ad))) (hc : w.cell? ad = some v) (h : K (a.put o.dst v) w) : Oper.wp Tryz.prog o a w K Q := by
  obtain ⟨d, op, ty, ps, af, gd⟩ := o
  cases ho
  unfold Oper.wp
  simp [go_sem, h1, hc, Oper.upon]
  exact h
set_option maxRecDepth 100000 in
theorem nw_fa_runnerRunner_0 {o : Oper} {a : Act} {w : World} {K : Act → World → Prop} {Q : Exit → Act → World → Prop} (t b of : Nat) (ho : o.op = .fieldAddr 100 (.tmp t) 0) (h1 : a.tmps[t]? = some (.pointer (some ⟨b, of, none⟩))) (h : K (a.put o.dst (.pointer (some ⟨b, of + 0, none⟩))) w) : Oper.wp Tryz.prog o a w K Q := by
  obtain ⟨d, op, ty, ps, af, gd⟩ := o
  cases ho
  unfold Oper.wp
  simp [go_sem, h1, Oper.upon]
  exact h
set_option maxRecDepth 100000 in
theorem nw_ld_slrunnerdue {o : Oper} {a : Act} {w : World} {K : Act → World → Prop} {Q : Exit → Act → World → Prop} (t : Nat) (ad : Addr) (v : Value) (ho : o.op = .load 98 (.tmp t)) (h1 : a.tmps[t]? = some (.pointer (some ad))) (hc : w.cell? ad = some v) (h : K (a.put o.dst v) w) : Oper.wp Tryz.prog o a w K Q := by
  obtain ⟨d, op, ty, ps, af, gd⟩ := o
  cases ho
  unfold Oper.wp
  simp [go_sem, h1, hc, Oper.upon]
  exact h
set_option maxRecDepth 100000 in
theorem nw_move {o : Oper} {a : Act} {w : World} {K : Act → World → Prop} {Q : Exit → Act → World → Prop} (t : Nat) (v : Value) (ho : o.op = .move (.tmp t)) (h1 : a.tmps[t]? = some v) (h : K (a.put o.dst v) w) : Oper.wp Tryz.prog o a w K Q := by
  obtain ⟨d, op, ty, ps, af, gd⟩ := o
  cases ho
  unfold Oper.wp
  simp [go_sem, h1, Oper.upon]
  exact h
/-- a block of cells abides the turn of a block that is none -/
theorem cells_kept {W W' : World} {row : Option Nat} {b : Nat} {c : Array Value} {T : TypeId} {f : Nat × Nat} (h : W.heap[b]? = some (.cells c T f)) (hg : W.grownBy W' row) (hr : ∀ r, row = some r → ∃ o : Obj, W.heap[r]? = some o ∧ o.isCells = false) : W'.heap[b]? = some (.cells c T f) :=
  (hg.block b (at_lt h) fun e => by
    obtain ⟨o, ho, hc⟩ := hr b e.symm
    rw [h] at ho; cases ho; cases hc).trans h
theorem row_kept {W W' : World} {row : Option Nat} {B e size n : Nat} {v : Value} {xs : List Value} (h : W.ownsRow B e size v n xs) (hg : W.grownBy W' row) (hr : ∀ r, row = some r → ∃ o : Obj, W.heap[r]? = some o ∧ o.isCells = false) : W'.ownsRow B e size v n xs := by
  refine h.kept hg ?_
  rcases h.2 with ⟨rfl, _⟩ | ⟨g, cap, cur, rfl, _, hgb, _⟩
  · exact .inl rfl
  · refine .inr fun e' => ?_
    obtain ⟨o, ho, hc⟩ := hr g (by simpa [Value.ownBlock] using e'.symm)
    rw [hgb] at ho; cases ho; cases hc
theorem keeps_below {B : Nat} {W W' : World} (h : Below W.heap.size W W') : KeepsFrom B W W' := ⟨h.size, fun k _ _ hk _ => (h.block k (at_lt hk)).trans hk⟩
theorem own_type {w : World} {B size n b : Nat} {e T : TypeId} {v : Value} {xs : List Value} {C : Array Value} {fr : Nat × Nat} (h : w.ownsRow B e size v n xs) (hb : w.heap[b]? = some (.cells C T fr)) (hT : e ≠ T) : v.ownBlock ≠ some b := by
  intro hk
  rcases h.2 with ⟨rfl, _⟩ | ⟨g, cap, cur, rfl, _, hh, _⟩
  · cases hk
  · obtain rfl : g = b := by simpa [Value.ownBlock] using hk
    rw [hb] at hh
    simp at hh
    exact hT hh.2.1.symm
theorem kp_below {n₀ : Nat} {A B : World} (h : Below A.heap.size A B) (hn : n₀ ≤ A.heap.size) : Kp n₀ A B := ⟨h.mono hn, fun _ _ hk => (h.block _ (at_lt hk)).trans hk⟩
theorem kp_set {n₀ b i : Nat} {A : World} {c : Array Value} {T : TypeId} (h : A.heap[b]? = some (.cells c T (0, 0))) (hT : T ≠ 58) (hb : n₀ ≤ b) (v : Value) : Kp n₀ A (A.setCell ⟨b, i, none⟩ v) :=
  ⟨(Below.refl n₀ A).setCell (p := ⟨b, i, none⟩) hb v, fun k cs hk => by
    refine (at_set_other A (fun e => ?_) i v).trans hk
    subst e
    rw [h] at hk
    simp at hk
    exact hT hk.2⟩
theorem kp_grown {n₀ : Nat} {A B : World} {row : Option Nat} (hg : A.grownBy B row) (hr : ∀ k, row = some k → n₀ ≤ k ∧ ∀ cs, A.heap[k]? ≠ some (Obj.cells cs 58 (0, 0))) (hn : n₀ ≤ A.heap.size) : Kp n₀ A B :=
  ⟨(Below.refl n₀ A).grown hg hn fun k e => (hr k e).1, fun k cs hk => (hg.block k (at_lt hk) fun e => (hr k e.symm).2 cs hk).trans hk⟩
/-- the sends and breaks that came; when all that came is done -/
def lefts (pre : List (Int × Op)) : List (Int × Op) := pre.filter fun y => decide (y.2.k ≠ 2)
def endP (now : Int) (pre : List (Int × Op)) : Int := match pre.getLast? with
  | none => now
  | some y => y.1 + y.2.n
theorem endP_snoc (now : Int) (pre : List (Int × Op)) (x : Int × Op) : endP now (pre ++ [x]) = x.1 + x.2.n := by unfold endP; rw [List.getLast?_append]; rfl
theorem lefts_wait (pre : List (Int × Op)) {x : Int × Op} (h : x.2.k = 2) : lefts (pre ++ [x]) = lefts pre := by unfold lefts; rw [List.filter_append, List.filter_cons, if_neg (by simpa using h)]; simp
theorem lefts_one (pre : List (Int × Op)) {x : Int × Op} (h : x.2.k ≠ 2) : lefts (pre ++ [x]) = lefts pre ++ [x] := by unfold lefts; rw [List.filter_append, List.filter_cons, if_pos (by simpa using h)]; simp
theorem lefts_len (pre : List (Int × Op)) : (lefts pre).length ≤ pre.length := List.length_filter_le _ _
/-- how far New has come -/
structure NewAt (w : World) (now : Int) (pre : List (Int × Op)) (W : World) : Prop where
  t4 : W.heap[w.heap.size]? = some (.cells #[.pointer none] 45 (0, 0))
  t5 : W.heap[w.heap.size + 1]? = some (.cells #[.int .i64 0] 27 (0, 0))
  t6 : W.heap[w.heap.size + 1 + 1 + 1]? = some (.cells #[.pointer (some ⟨w.heap.size + 1 + 1, 0, none⟩)] 45 (0, 0))
  run : ∃ v, W.heap[w.heap.size + 1 + 1]? = some (.cells #[v, .int .i64 (endP now pre), .bool true] 100 (0, 0)) ∧ W.ownsRow w.heap.size 102 4 v (lefts pre).length (dv (lefts pre))
  good : ∀ y ∈ pre, ovC y.1 y.2 = 0
  below : Below w.heap.size w W
theorem NewAt.own (w : World) (now : Int) (B : Nat) (hB : w.heap.size ≤ B) : OwnFrom B (fun pre W => NewAt w now pre W) := fun pre X Y row hs hg hr => by
  have hr2 := fun r e => (hr r e).2
  obtain ⟨v, h1, h2⟩ := hs.run
  exact ⟨cells_kept hs.t4 hg hr2, cells_kept hs.t5 hg hr2, cells_kept hs.t6 hg hr2, ⟨v, cells_kept h1 hg hr2, row_kept h2 hg hr2⟩, hs.good, hs.below.grown hg hs.below.size fun k e => Nat.le_trans hB (hr k e).1⟩
theorem NewAt.keep {w W W' : World} {now : Int} {pre : List (Int × Op)} (h : NewAt w now pre W) (hb : Below W.heap.size W W') : NewAt w now pre W' := by
  obtain ⟨v, h1, h2⟩ := h.run
  have K : ∀ {b : Nat} {o : Obj}, W.heap[b]? = some o → W'.heap[b]? = some o := fun hk => (hb.block _ (at_lt hk)).trans hk
  exact ⟨K h.t4, K h.t5, K h.t6, ⟨v, K h1, own_below h2 hb⟩, h.good, h.below.trans (hb.mono h.below.size)⟩
/-- New gives up -/
structure NewNo (w : World) (pre : List (Int × Op)) (W : World) : Prop where
  t4 : W.heap[w.heap.size]? = some (.cells #[.pointer none] 45 (0, 0))
  bad : ∃ pre' x, pre = pre' ++ [x] ∧ (∀ y ∈ pre', ovC y.1 y.2 = 0) ∧ ovC x.1 x.2 ≠ 0 ∧ W.heap[w.heap.size + 1]? = some (.cells #[.int .i64 (ovC x.1 x.2)] 27 (0, 0))
  below : Below w.heap.size w W
theorem NewNo.own (w : World) (B : Nat) (hB : w.heap.size ≤ B) : OwnFrom B (fun pre W => NewNo w pre W) := fun pre X Y row hs hg hr => by
  have hr2 := fun r e => (hr r e).2
  obtain ⟨pre', x, h1, h2, h3, h4⟩ := hs.bad
  exact ⟨cells_kept hs.t4 hg hr2, ⟨pre', x, h1, h2, h3, cells_kept h4 hg hr2⟩, hs.below.grown hg hs.below.size fun k e => Nat.le_trans hB (hr k e).1⟩
theorem NewAt.no {w W : World} {now : Int} {pre : List (Int × Op)} {x : Int × Op} (h : NewAt w now pre W) (hx : ovC x.1 x.2 ≠ 0) : NewNo w (pre ++ [x]) ((W.setCell ⟨w.heap.size, 0, none⟩ (.pointer none)).setCell ⟨w.heap.size + 1, 0, none⟩ (.int .i64 (ovC x.1 x.2))) :=
  ⟨(at_set_other _ (by omega) _ _).trans (at_set h.t4 0 _), ⟨pre, x, rfl, h.good, hx, at_set ((at_set_other _ (by omega) _ _).trans h.t5) 0 _⟩, (h.below.setCell (p := ⟨w.heap.size, 0, none⟩) (Nat.le_refl _) _).setCell (p := ⟨w.heap.size + 1, 0, none⟩) (by simp) _⟩
theorem NewAt.wait {w W : World} {now : Int} {pre : List (Int × Op)} {x : Int × Op} (h : NewAt w now pre W) (hx : ovC x.1 x.2 = 0) (hk : x.2.k = 2) : NewAt w now (pre ++ [x]) (W.setCell ⟨w.heap.size + 1 + 1, 1, none⟩ (.int .i64 (x.1 + x.2.n))) := by
  obtain ⟨v, h1, h2⟩ := h.run
  refine ⟨(at_set_other _ (by omega) _ _).trans h.t4, (at_set_other _ (by omega) _ _).trans h.t5, (at_set_other _ (by omega) _ _).trans h.t6, ⟨v, ?_, ?_⟩, ?_, h.below.setCell (p := ⟨w.heap.size + 1 + 1, 1, none⟩) (by simp; omega) _⟩
  · rw [endP_snoc]; exact at_set h1 1 _
  · rw [lefts_wait _ hk]; exact own_out h2 ((Out.refl (fun k => k = w.heap.size + 1 + 1) W).setCell (p := ⟨w.heap.size + 1 + 1, 1, none⟩) (fun _ => rfl) _) fun k e e2 => own_type h2 h1 (by decide) (by rw [← e2]; exact e)
  · intro y hy
    rcases List.mem_append.1 hy with hy | hy
    · exact h.good y hy
    · rw [List.mem_singleton.1 hy]; exact hx
theorem NewAt.one {w W W2 : World} {now : Int} {pre : List (Int × Op)} {x : Int × Op} {v v' : Value} {nl : Nat} (h : NewAt w now pre W) (hx : ovC x.1 x.2 = 0) (hk : x.2.k ≠ 2) (h1 : W.heap[w.heap.size + 1 + 1]? = some (.cells #[v, .int .i64 (endP now pre), .bool true] 100 (0, 0))) (h2 : W.ownsRow w.heap.size 102 4 v nl (dv (lefts pre))) (hnl : nl = (lefts pre).length)
    {o : Obj} (hg : (W.drew.alloc o).grownBy W2 v.ownBlock) (ho : W2.ownsRow w.heap.size 102 4 v' (nl + 1) (dv (lefts pre) ++ dv1 x)) : NewAt w now (pre ++ [x]) ((W2.setCell ⟨w.heap.size + 1 + 1, 0, none⟩ v').setCell ⟨w.heap.size + 1 + 1, 1, none⟩ (.int .i64 (x.1 + x.2.n))) := by
  have ne : ∀ {b : Nat} {c : Array Value} {T : TypeId}, W.heap[b]? = some (.cells c T (0, 0)) → 102 ≠ T → W2.heap[b]? = some (.cells c T (0, 0)) := fun {b c T} hb hT =>
    (hg.block b (by have := at_lt hb; simp; omega) fun e => own_type h2 hb hT e.symm).trans (at_old W.drew o hb)
  have k1 := ne h1 (by decide)
  have s1 := fun {b : Nat} (hb : b ≠ w.heap.size + 1 + 1) => (at_set_other (W2.setCell ⟨w.heap.size + 1 + 1, 0, none⟩ v') hb 1 (.int .i64 (x.1 + x.2.n))).trans (at_set_other W2 hb 0 v')
  have hB : Below w.heap.size w W2 := ((h.below.trans (((Below.refl W.heap.size W).drew.alloc (Nat.le_refl _) o).mono h.below.size)).grown hg (by have := h.below.size; simp; omega) fun k e => (own_lt h2 e).1)
  refine ⟨(s1 (by omega)).trans (ne h.t4 (by decide)), (s1 (by omega)).trans (ne h.t5 (by decide)), (s1 (by omega)).trans (ne h.t6 (by decide)), ⟨v', ?_, ?_⟩, ?_, (hB.setCell (p := ⟨w.heap.size + 1 + 1, 0, none⟩) (by simp; omega) _).setCell (p := ⟨w.heap.size + 1 + 1, 1, none⟩) (by simp; omega) _⟩
  · rw [endP_snoc]; exact at_set (at_set k1 0 _) 1 _
  · rw [lefts_one _ hk, List.length_append, dv_app, ← hnl]
    have e1 : dv [x] = dv1 x := by simp [dv]
    rw [e1]
    refine own_out ho (((Out.refl (fun k => k = w.heap.size + 1 + 1) W2).setCell (p := ⟨w.heap.size + 1 + 1, 0, none⟩) (fun _ => rfl) _).setCell (p := ⟨w.heap.size + 1 + 1, 1, none⟩) (fun _ => rfl) _) fun k e e2 => own_type ho k1 (by decide) (by rw [← e2]; exact e)
  · intro y hy
    rcases List.mem_append.1 hy with hy | hy
    · exact h.good y hy
    · rw [List.mem_singleton.1 hy]; exact hx
/-- what New answers -/
def NewPost (l : List Op) (now : Int) (w : World) (e : Ending) (w' : World) : Prop :=
  (chk now l ≠ 0 ∧ e = .returned (.tuple #[.pointer none, .int .i64 (chk now l)]) ∧ Below w.heap.size w w') ∨
  (chk now l = 0 ∧ ∃ b q, e = .returned (.tuple #[.pointer (some ⟨b, 0, none⟩), .int .i64 0]) ∧ IsRun w' b q (dues now l) (ends now l) true ∧ w.heap.size ≤ b ∧ w.heap.size ≤ q ∧ Below w.heap.size w w')
theorem wrap_add {a : Int} {x : Op} (h : ovC a x = 0) : wrap64 (a + x.n) = a + x.n := by
  have := isT_iff.1 (ov_tick h)
  unfold wrap64; omega
theorem endP_cons (a : Int) (y : Int × Op) (T : List (Int × Op)) : endP a (y :: T) = endP (y.1 + y.2.n) T := by
  cases T with
  | nil => rfl
  | cons z T => unfold endP; rw [List.getLast?_cons_cons, List.getLast?_cons]
theorem lefts_cons (y : Int × Op) (T : List (Int × Op)) : lefts (y :: T) = if y.2.k = 2 then lefts T else y :: lefts T := by
  unfold lefts; rw [List.filter_cons]
  by_cases h : y.2.k = 2
  · rw [if_neg (by simpa using h), if_pos h]
  · rw [if_pos (by simpa using h), if_neg h]
theorem tm_good {a : Int} {l : List Op} (h : ∀ y ∈ tmW a l, ovC y.1 y.2 = 0) : go a l = 0 ∧ lefts (tmW a l) = dues a l ∧ endP a (tmW a l) = ends a l := by
  induction l generalizing a with
  | nil => exact ⟨rfl, rfl, rfl⟩
  | cons x r ih =>
    have h0 : ovC a x = 0 := h (a, x) (by rw [tmW]; exact List.mem_cons_self)
    rw [tmW, wrap_add h0] at h ⊢
    obtain ⟨e1, e2, e3⟩ := ih (fun y hy => h y (List.mem_cons_of_mem _ hy))
    refine ⟨by rw [go_ok h0]; exact e1, ?_, by rw [endP_cons, ends]; exact e3⟩
    rw [lefts_cons, dues, e2]
theorem tm_bad {now : Int} {l : List Op} {pre : List (Int × Op)} {x : Int × Op} (hT : isT now = true) (hg : ∀ y ∈ pre, ovC y.1 y.2 = 0) (hx : ovC x.1 x.2 ≠ 0) (hp : pre ++ [x] <+: tmW now l) : chk now l = ovC x.1 x.2 := by
  rw [chk_in hT]
  clear hT
  induction l generalizing now pre with
  | nil =>
    obtain ⟨t, ht⟩ := hp
    rw [tmW] at ht
    simp at ht
  | cons z r ih =>
    rw [tmW] at hp
    cases pre with
    | nil =>
      obtain ⟨t, ht⟩ := hp
      obtain rfl : x = (now, z) := (List.cons.inj ht).1
      exact go_no hx
    | cons y pre =>
      obtain ⟨t, ht⟩ := hp
      obtain ⟨rfl, ht2⟩ := List.cons.inj ht
      have h0 : ovC now z = 0 := hg (now, z) List.mem_cons_self
      rw [wrap_add h0] at ht2
      rw [go_ok h0]
      exact ih (fun u hu => hg u (List.mem_cons_of_mem _ hu)) ⟨t, ht2⟩
theorem NewAt.done {w W W' : World} {now : Int} {l : List Op} {D : Nat} {o : Option (List Deferred)} (h : NewAt w now (tmW now l) W) (hT : isT now = true) (hD : w.heap.size + 1 + 1 + 1 < D) (hK : W.heap[D]? = some (.deferred o)) (ho : Out (fun k => k = w.heap.size ∨ k = w.heap.size + 1 ∨ k = D) W W') :
    chk now l = 0 ∧ ∃ b q, Ending.returned (.tuple #[.pointer (some ⟨w.heap.size + 1 + 1, 0, none⟩), .int .i64 0]) = .returned (.tuple #[.pointer (some ⟨b, 0, none⟩), .int .i64 0]) ∧ IsRun W' b q (dues now l) (ends now l) true ∧ w.heap.size ≤ b ∧ w.heap.size ≤ q ∧ Below w.heap.size w W' := by
  obtain ⟨g1, g2, g3⟩ := tm_good h.good
  obtain ⟨v, h1, h2⟩ := h.run
  rw [g2] at h2
  rw [g3] at h1
  have ht := fun {b : Nat} {c : Array Value} {T : TypeId} (hb : W.heap[b]? = some (.cells c T (0, 0))) (hT : 102 ≠ T) => own_type h2 hb hT
  have hB : Below w.heap.size w W' := ⟨ho.os.trans h.below.os, ho.tape.trans h.below.tape, ho.output.trans h.below.output, Nat.le_trans h.below.size ho.size, fun k hk => (ho.block k (Nat.lt_of_lt_of_le hk h.below.size) (by omega)).trans (h.below.block k hk)⟩
  obtain ⟨p', c', rfl, hc1, hc2, hd⟩ := own_dus h2 rfl
  refine ⟨by rw [chk_in hT]; exact g1, w.heap.size + 1 + 1, ?_⟩
  have h3 := at_lt h.t6
  rcases hd with hd | ⟨q, hq, hql, hqo, hd⟩
  · exact ⟨w.heap.size + 1 + 1 + 1, rfl, IsRun.out (S := fun k => k = w.heap.size ∨ k = w.heap.size + 1 ∨ k = D) ⟨⟨p', _, c', rfl, h1, hc1, hc2, .inl hd⟩, by omega, h3⟩ ho (by omega) (by omega), by omega, by omega, hB⟩
  · have n4 : q ≠ w.heap.size := fun e => ht h.t4 (by decide) (by rw [hqo, e])
    have n5 : q ≠ w.heap.size + 1 := fun e => ht h.t5 (by decide) (by rw [hqo, e])
    have n2 : q ≠ w.heap.size + 1 + 1 := fun e => ht h1 (by decide) (by rw [hqo, e])
    have nD : q ≠ D := fun e => by
      rcases h2.2 with ⟨e2, _⟩ | ⟨g, cap, cur, e2, _, hh, _⟩
      · rw [e2] at hqo; cases hqo
      · rw [e2] at hqo
        obtain rfl : g = q := by simpa [Value.ownBlock] using hqo
        rw [e, hK] at hh; cases hh
    exact ⟨q, rfl, IsRun.out (S := fun k => k = w.heap.size ∨ k = w.heap.size + 1 ∨ k = D) ⟨⟨p', _, c', rfl, h1, hc1, hc2, hd⟩, n2, hql⟩ ho (by omega) (by omega), by omega, hq, hB⟩
theorem start_at (w : World) (now : Int) (vl vn : Value) : NewAt w now [] ((((((w.alloc (.cells #[.pointer none] 45)).alloc (.cells #[.int .i64 0] 27)).alloc (.cells #[.slice none 0 0, .int .i64 now, .bool true] 100)).alloc (.cells #[.pointer (some ⟨w.heap.size + 1 + 1, 0, none⟩)] 45)).alloc (.cells #[vl] 30)).alloc (.cells #[vn] 3)) ∧ ((((((w.alloc (.cells #[.pointer none] 45)).alloc (.cells #[.int .i64 0] 27)).alloc (.cells #[.slice none 0 0, .int .i64 now, .bool true] 100)).alloc (.cells #[.pointer (some ⟨w.heap.size + 1 + 1, 0, none⟩)] 45)).alloc (.cells #[vl] 30)).alloc (.cells #[vn] 3)).heap.size = w.heap.size + 1 + 1 + 1 + 1 + 1 + 1 ∧ ((((((w.alloc (.cells #[.pointer none] 45)).alloc (.cells #[.int .i64 0] 27)).alloc (.cells #[.slice none 0 0, .int .i64 now, .bool true] 100)).alloc (.cells #[.pointer (some ⟨w.heap.size + 1 + 1, 0, none⟩)] 45)).alloc (.cells #[vl] 30)).alloc (.cells #[vn] 3)).cell? ⟨w.heap.size + 1 + 1 + 1 + 1, 0, none⟩ = some vl ∧ ((((((w.alloc (.cells #[.pointer none] 45)).alloc (.cells #[.int .i64 0] 27)).alloc (.cells #[.slice none 0 0, .int .i64 now, .bool true] 100)).alloc (.cells #[.pointer (some ⟨w.heap.size + 1 + 1, 0, none⟩)] 45)).alloc (.cells #[vl] 30)).alloc (.cells #[vn] 3)).cell? ⟨w.heap.size + 1 + 1 + 1 + 1 + 1, 0, none⟩ = some vn := by
  have b0 := Below.refl w.heap.size w
  refine ⟨⟨?_, ?_, ?_, ⟨.slice none 0 0, ?_, World.ownsRow_nil _ _ _ _⟩, fun y hy => absurd hy List.not_mem_nil, ?_⟩, by simp, ?_, ?_⟩
  · exact at_old _ _ (at_old _ _ (at_old _ _ (at_old _ _ (at_old _ _ (at_new _ _)))))
  · exact at_old _ _ (at_old _ _ (at_old _ _ (at_old _ _ (at_newk _ _ (by simp)))))
  · exact at_old _ _ (at_old _ _ (at_newk _ _ (by simp)))
  · exact at_old _ _ (at_old _ _ (at_old _ _ (at_newk _ _ (by simp))))
  · exact (((((b0.alloc (Nat.le_refl _) _).alloc (by simp only [World.size_alloc]; omega) _).alloc (by simp only [World.size_alloc]; omega) _).alloc (by simp only [World.size_alloc]; omega) _).alloc (by simp only [World.size_alloc]; omega) _).alloc (by simp only [World.size_alloc]; omega) _
  · exact at_cell (at_old _ _ (at_newk _ _ (by simp))) 0
  · exact at_cell (at_newk _ _ (by simp)) 0
theorem ops_low {w : World} {l : List Op} {p : Option Addr} {c : Nat} (h : Ops w l p c) : ∀ b o, p = some ⟨b, o, none⟩ → b < w.heap.size ∨ l = [] := by
  intro b o e
  rcases h.cells with h0 | ⟨b', o', e', hb, _⟩
  · exact .inr h0
  · rw [e] at e'
    simp at e'
    exact .inl (by omega)
theorem kp_b {n₀ B : Nat} (hB : n₀ ≤ B) : ∀ (W : World) (l : Nat) (o o' : Obj), B ≤ l → W.heap[l]? = some o → o.isCells = false → o.isWalk = false → Kp n₀ W (W.putObj l o') := fun W l o o' hl ho hc _ =>
  ⟨(Below.refl n₀ W).grown (grownBy_putObj' W l o') (by have := at_lt ho; omega) (fun k e => by cases e; omega), fun k cs hk => ((grownBy_putObj' W l o').block k (at_lt hk) fun e => by cases e; rw [ho] at hk; cases hk; cases hc).trans hk⟩
theorem keeps_own {B e size n b0 : Nat} {A C : World} {v : Value} {xs : List Value} (hg : A.grownBy C v.ownBlock) (ho : A.ownsRow b0 e size v n xs) : KeepsFrom B A C :=
  ⟨hg.size, fun k o _ hk hc => (hg.block k (at_lt hk) fun e' => by
    rcases ho.2 with ⟨rfl, _⟩ | ⟨g, cap, cur, rfl, _, hh, _⟩
    · cases e'
    · obtain rfl : g = k := by simpa [Value.ownBlock] using e'.symm
      rw [hh] at hk; cases hk; cases hc).trans hk⟩
theorem timed_stops (F : Fence) (n : Nat) (hF : F.fn 82) (hro : F.round = none) (hn : 1 ≤ n) (Bl Bn n₀ m c : Nat) (p : Option Addr) (now : Int) (l : List Op) (hm : l.length = m) (w : World) (h1 : Bl < w.heap.size) (h2 : Bn < w.heap.size) (h3 : n₀ ≤ w.heap.size)
    (hBl : w.cell? ⟨Bl, 0, none⟩ = some (.slice p m c)) (hBn : w.cell? ⟨Bn, 0, none⟩ = some (.int .i64 now)) (hL : Ops w l p c) (hn₀ : ∀ b o, p = some ⟨b, o, none⟩ → b < n₀ ∨ l = []) :
    SeqStopsK F n Tryz.prog 82 #[.pointer (some ⟨Bn, 0, none⟩), .pointer (some ⟨Bl, 0, none⟩)] enc (Kp n₀) (fun ys => ys = tmW now l) (fun pre => pre <+: tmW now l) l.length w := fun lo J Jx W hW hJ _ hY h0 =>
  timed1_in F n hF hro hn lo Bl Bn n₀ m c p now l hm J Jx W hJ hY ((hW.cell (p := ⟨Bl, 0, none⟩) h1).trans hBl) ((hW.cell (p := ⟨Bn, 0, none⟩) h2).trans hBn) (hL.below hW) hn₀ (Nat.le_trans h3 hW.size) h0
theorem new_news {w : World} {g : Nat} {cs : List Value} {T : TypeId} (h : w.heap[g]? = some (.cells cs.toArray T (0, 0))) : ∀ j u, cs[j]? = some u → w.cell? ((⟨g, 0, none⟩ : Addr).add j) = some u := by
  intro j u hu
  rw [add0, at_cell h, List.getElem?_toArray, hu]
set_option maxRecDepth 100000 in
set_option maxHeartbeats 8000000 in
theorem new_in (l : List Op) (m : Nat) (hm : l.length = m) (hm2 : m ≤ 1000) (now : Int) (p : Option Addr) (c : Nat) (w : World) (h : Ops w l p c) (hT : isT now = true) :
    CallsIn Fence.wide 3 Tryz.prog 57 #[.slice p m c, .int .i64 now] w (NewPost l now w) := by
  have HI := Lib.hid (is_calls now)
  rw [hT] at HI
  obtain ⟨i0, hi, hz0, hz1, hz2⟩ := info_parts info_due
  have HOps := Lib.hid h
  have HTT := Lib.hid hT
  have HM := Lib.hid hm
  clear h hT hm
  refine callsIn_of_wp_marks Tryz.func57 rfl trivial ?_ rfl
  simp only [Tryz.ntmps57, List.size_toArray, List.length_cons, List.length_nil, Nat.reduceAdd, Nat.reduceSub, Array.replicate_succ, Array.replicate_zero, List.push_toArray, List.append_toArray, List.nil_append, List.cons_append]
  gi_wp2_with (first | (refine ⟨trivial, ?_⟩; gi_at_call 68; refine (callsIn_wide.2 (HI.out _)).mono ?_; rintro e w' ⟨rfl, rfl⟩) | (refine ⟨trivial, ?_⟩; gi_at_call 72; refine (timed_in _ _ trivial rfl _ _ _ _ _).mono ?_; rintro e w' ⟨rfl, rfl⟩))
  obtain ⟨hN0, hsz, cL, cN⟩ := start_at w now (.slice p m c) (.int .i64 now)
  generalize ((((((w.alloc (.cells #[.pointer none] 45)).alloc (.cells #[.int .i64 0] 27)).alloc (.cells #[.slice none 0 0, .int .i64 now, .bool true] 100)).alloc (.cells #[.pointer (some ⟨w.heap.size + 1 + 1, 0, none⟩)] 45)).alloc (.cells #[.slice p m c] 30)).alloc (.cells #[.int .i64 now] 3)) = W0 at hN0 hsz cL cN ⊢
  refine wpIn_rangeFunc_ownH (F := Fence.wide) (n := 3) rfl (by omega) (gf := 82) (lb := #[.pointer (some ⟨w.heap.size + 1 + 1 + 1 + 1 + 1, 0, none⟩), .pointer (some ⟨w.heap.size + 1 + 1 + 1 + 1, 0, none⟩)]) rfl trivial (enters_of Tryz.func82 (by kernel_rfl) rfl)
    (timed_stops _ _ trivial rfl (by omega) (w.heap.size + 1 + 1 + 1 + 1) (w.heap.size + 1 + 1 + 1 + 1 + 1) w.heap.size m c p now l HM.out W0 (by omega) (by omega) (by omega) cL cN (HOps.out.below hN0.below) (ops_low HOps.out)) kp_t (kp_b (by omega)) (Below.refl _ _) (fun _ => rfl)
    (fun pre W => NewAt w now pre W) (fun c pre W => c = .ret ∧ NewNo w pre W)
    (NewAt.own w now _ (by omega)) (fun c pre X Y row hs hg hr => ⟨hs.1, NewNo.own w _ (by omega) pre X Y row hs.2 hg hr⟩) hN0
    (fun x a' W => ∃ Bx, W.heap[Bx]? = some (.cells #[.int .i64 x.2.k, .string ⟨x.2.s.toArray⟩, .int .i64 x.2.n] 58 (0, 0)) ∧ a' = { tmps := #[.slice p m c, .int .i64 now, undef, undef, .pointer (some ⟨w.heap.size, 0, none⟩), .pointer (some ⟨w.heap.size + 1, 0, none⟩), .pointer (some ⟨w.heap.size + 1 + 1 + 1, 0, none⟩), .int .i64 x.1, .pointer (some ⟨Bx, 0, none⟩), undef, undef, .int .i64 now, .bool true, .bool false, .int .i64 now, .agg #[.slice none 0 0, .int .i64 now, .bool true], .pointer (some ⟨w.heap.size + 1 + 1, 0, none⟩), .slice p m c, .int .i64 now, .func (.func 82) #[] #[.pointer (some ⟨w.heap.size + 1 + 1 + 1 + 1 + 1, 0, none⟩), .pointer (some ⟨w.heap.size + 1 + 1 + 1 + 1, 0, none⟩)], .int .i64 x.1, .agg #[.int .i64 x.2.k, .string ⟨x.2.s.toArray⟩, .int .i64 x.2.n], undef, undef, undef, undef, undef, undef, undef, undef, undef, undef, undef, undef, undef, undef, undef, undef, undef, undef, undef, undef, undef, undef, undef, undef, undef, undef, undef, undef, undef], defers := [] })
    (fun x a' _ X Y row hs hg hr => by obtain ⟨Bx, h1, h2⟩ := hs; exact ⟨Bx, cells_kept h1 hg (fun r e => (hr r e).2), h2⟩)
    ?assign ?body ?done ?stop
  case assign =>
    rintro lo pre x W K hN hK
    unfold enc
    gi_wp2
    exact hK _ _ (keeps_below ((Below.refl _ W).alloc (Nat.le_refl _) _)) (kp_below ((Below.refl _ W).alloc (Nat.le_refl _) _) hN.below.size) (hN.keep ((Below.refl _ W).alloc (Nat.le_refl _) _)) ⟨W.heap.size, at_new W _, rfl⟩
  case body =>
    rintro lo pre x a' W hl ⟨r, hr⟩ hN ⟨Bx, hB, rfl⟩ hlt
    have h1' : 1 ≤ 3 - 1 - 1 := by omega
    obtain ⟨c0, c1, c2⟩ := row3 hB
    have HBX := Lib.hid hB
    have HN := Lib.hid hN
    have HR := Lib.hid hr
    obtain ⟨xa, xk, xs, xn⟩ := x
    have HO := Lib.hid (over_calls xa ⟨xk, xs, xn⟩)
    simp only at c0 c1 c2
    obtain ⟨cd, hcd⟩ : ∃ cd, ovC xa ⟨xk, xs, xn⟩ = cd := ⟨_, rfl⟩
    obtain ⟨vd, hvd⟩ : ∃ vd, ovV xa ⟨xk, xs, xn⟩ = vd := ⟨_, rfl⟩
    rw [hcd, hvd] at HO
    have HCD := Lib.hid hcd
    have HVD := Lib.hid hvd
    have hpl := hlt
    clear hB hN hr hcd hvd hlt
    by_cases h0 : cd = 0
    · have HV2 : Hid (vd = xa + xn) := Lib.hid (by rw [← HVD.out]; unfold ovV; rw [if_pos (by rw [HCD.out]; exact h0)])
      subst h0
      by_cases hk : xk = 2
      · subst hk
        gi_wp2_with fail
        refine ⟨trivial, ?_⟩
        gi_at_call 73
        refine (CallsIn.inRound lo (callsIn_wide.2 (HO.out _))).mono ?_
        rintro e w5 ⟨rfl, hb5⟩
        have HN5 := Lib.hid (HN.out.keep hb5)
        have hB5 := (hb5.block Bx (at_lt HBX.out)).trans HBX.out
        obtain ⟨d0, d1, d2⟩ := row3 hB5
        have e6 := at_cell HN5.out.t6 0
        obtain ⟨v, hv, hrow⟩ := HN5.out.run
        have g1 := at_cell hv 1
        have f1 := at_frozen hv 1
        have KK := Lib.hid (And.intro (keeps_below (B := W0.heap.size) hb5) (And.intro (kp_below (n₀ := w.heap.size) hb5 HN.out.below.size) (kp_set (n₀ := w.heap.size) (i := 1) hv (by decide) (by omega) (.int .i64 vd))))
        have HNW := Lib.hid (HN5.out.wait (x := (xa, ⟨2, xs, xn⟩)) HCD.out rfl)
        clear hb5 hB5 hrow hv
        gi_wp2_with fail
        exact ⟨KK.out.1.trans ((KeepsOthers.setCell _ _ _).from _), kp_t KK.out.2.1 KK.out.2.2, by rw [HV2.out]; exact HNW.out⟩
      · have k2 : (xk == 2) = false := by simpa using hk
        have k3 : (xk != 2) = true := by simpa using hk
        have HK := Lib.hid hk
        clear hk
        gi_wp2_with fail
        refine ⟨trivial, ?_⟩
        gi_at_call 73
        refine (CallsIn.inRound lo (callsIn_wide.2 (HO.out _))).mono ?_
        rintro e V ⟨rfl, hb5⟩
        have HN5 := Lib.hid (HN.out.keep hb5)
        have hB5 := (hb5.block Bx (at_lt HBX.out)).trans HBX.out
        obtain ⟨d0, d1, d2⟩ := row3 hB5
        obtain ⟨v, hv, hrow⟩ := HN5.out.run
        obtain ⟨vp, vc, rfl, -⟩ := own_slice hrow
        obtain ⟨nl, hnl⟩ : ∃ n, n = (lefts pre).length := ⟨_, rfl⟩
        rw [← hnl] at hv hrow
        have hll := lefts_len pre
        have hml : l.length ≤ 1000 := by rw [HM.out]; exact hm2
        have hVs := HN5.out.below.size
        have hownA : (V.drew.alloc (.cells #[.int .i64 xa, .int .i64 xk, .string ⟨xs.toArray⟩, .int .i64 xn] 102)).ownsRow w.heap.size 102 4 (.slice vp nl vc) nl (dv (lefts pre)) := World.ownsRow.alloc hrow _
        obtain ⟨g9, cap9, W2, hrun, own2, grow2, -, -⟩ := run_append_lies (P := Tryz.prog) (V.drew.alloc (.cells #[.int .i64 xa, .int .i64 xk, .string ⟨xs.toArray⟩, .int .i64 xn] 102)) 98 98 w.heap.size 102 i0 _ 4 40 Tryz.underlying98 hi hz0 hz1 hz2 rfl (by decide) _ nl _ hownA ⟨V.heap.size, 0, none⟩ 1 1 (dv1 (xa, ⟨xk, xs, xn⟩)) rfl (new_news (w := (V.drew.alloc (.cells #[.int .i64 xa, .int .i64 xk, .string ⟨xs.toArray⟩, .int .i64 xn] 102))) (at_new V.drew (.cells #[.int .i64 xa, .int .i64 xk, .string ⟨xs.toArray⟩, .int .i64 xn] 102))) (by simp [dv1, Value.oneCell']) (by omega) (by unfold maxLen; omega) (by omega) (by simp; omega) _ rfl
        have HRUN := Lib.hid hrun
        have ne2 : ∀ {b : Nat} {c : Array Value} {T : TypeId}, V.heap[b]? = some (.cells c T (0, 0)) → 102 ≠ T → W2.heap[b]? = some (.cells c T (0, 0)) := fun {b c T} hb hT =>
          (grow2.block b (by have := at_lt hb; simp; omega) fun e => own_type hrow hb hT e.symm).trans (at_old V.drew _ hb)
        have e62 := ne2 HN5.out.t6 (by decide)
        have eb2 := ne2 hB5 (by decide)
        have er2 := ne2 hv (by decide)
        have hxb : Bx ≠ w.heap.size + 1 + 1 := fun e => by rw [e, hv] at hB5; simp at hB5
        have HBX2 : Hid (∀ w', (w' = V.drew ∨ w' = (V.drew.alloc (.cells #[.int .i64 xa, .int .i64 xk, .string ⟨xs.toArray⟩, .int .i64 xn] 102)) ∨ w' = W2 ∨ w' = (W2.setCell ⟨w.heap.size + 1 + 1, 0, none⟩ (.slice (some ⟨g9, 0, none⟩) (nl + 1) cap9))) → w'.cell? ⟨w.heap.size + 1 + 1 + 1, 0, none⟩ = some (.pointer (some ⟨w.heap.size + 1 + 1, 0, none⟩)) ∧ w'.heap[Bx]? = some (.cells #[.int .i64 xk, .string ⟨xs.toArray⟩, .int .i64 xn] 58 (0, 0))) := Lib.hid fun w' h => by
          rcases h with rfl | rfl | rfl | rfl
          · exact ⟨at_cell (w := V) HN5.out.t6 0, hB5⟩
          · exact ⟨at_cell (at_old V.drew _ HN5.out.t6) 0, at_old V.drew _ hB5⟩
          · exact ⟨at_cell e62 0, eb2⟩
          · exact ⟨at_cell ((at_set_other W2 (by omega) 0 _).trans e62) 0, (at_set_other W2 hxb 0 _).trans eb2⟩
        have HLF : Hid (∀ w', (w' = V.drew ∨ w' = (V.drew.alloc (.cells #[.int .i64 xa, .int .i64 xk, .string ⟨xs.toArray⟩, .int .i64 xn] 102))) → w'.cell? ⟨w.heap.size + 1 + 1, 0 + 0, none⟩ = some (.slice vp nl vc)) := Lib.hid fun w' h => by
          rcases h with rfl | rfl
          · exact at_cell (w := V) hv 0
          · exact at_cell (at_old V.drew _ hv) 0
        have zc : W2.cell? ⟨w.heap.size + 1 + 1, 0 + 0, none⟩ = some (.slice vp nl vc) := at_cell er2 0
        have zf : W2.frozen? ⟨w.heap.size + 1 + 1, 0 + 0, none⟩ = false := at_frozen er2 0
        have ew6 : W2.cell? ⟨w.heap.size + 1 + 1 + 1, 0, none⟩ = some (.pointer (some ⟨w.heap.size + 1 + 1, 0, none⟩)) := at_cell e62 0
        have ew1 : W2.cell? ⟨w.heap.size + 1 + 1, 1, none⟩ = some (.int .i64 (endP now pre)) := at_cell er2 1
        have wf1 : W2.frozen? ⟨w.heap.size + 1 + 1, 1, none⟩ = false := at_frozen er2 1
        have es6 := (HBX2.out _ (.inr (.inr (.inr rfl)))).1
        have er3 := at_set er2 0 (.slice (some ⟨g9, 0, none⟩) (nl + 1) cap9)
        have eg1 : (W2.setCell ⟨w.heap.size + 1 + 1, 0, none⟩ (.slice (some ⟨g9, 0, none⟩) (nl + 1) cap9)).cell? ⟨w.heap.size + 1 + 1, 1, none⟩ = some (.int .i64 (endP now pre)) := at_cell er3 1
        have ef1 : (W2.setCell ⟨w.heap.size + 1 + 1, 0, none⟩ (.slice (some ⟨g9, 0, none⟩) (nl + 1) cap9)).frozen? ⟨w.heap.size + 1 + 1, 1, none⟩ = false := at_frozen er3 1
        have HNO := Lib.hid (HN5.out.one (x := (xa, ⟨xk, xs, xn⟩)) HCD.out HK.out hv hrow hnl grow2 own2)
        have HKP := Lib.hid (kp_t (kp_below (n₀ := w.heap.size) ((Below.refl V.heap.size V).drew.alloc (Nat.le_refl _) (.cells #[.int .i64 xa, .int .i64 xk, .string ⟨xs.toArray⟩, .int .i64 xn] 102)) hVs) (kp_t (kp_grown grow2 (fun k e => ⟨(own_lt hownA e).1, fun cs hk => own_type hownA hk (by decide) e⟩) (by simp; omega)) (kp_t (kp_set (i := 0) er2 (by decide) (by omega) (.slice (some ⟨g9, 0, none⟩) (nl + 1) cap9)) (kp_set (i := 1) er3 (by decide) (by omega) (.int .i64 vd)))))
        have HNL := Lib.hid hnl
        have HKF := Lib.hid ((keeps_below (B := W0.heap.size) ((Below.refl V.heap.size V).drew.alloc (Nat.le_refl _) (.cells #[.int .i64 xa, .int .i64 xk, .string ⟨xs.toArray⟩, .int .i64 xn] 102))).trans (keeps_own grow2 hownA))
        have KK := Lib.hid (And.intro (keeps_below (B := W0.heap.size) hb5) (kp_below (n₀ := w.heap.size) hb5 HN.out.below.size))
        clear hb5 hB5 hrow hv hownA hrun own2 grow2 ne2 e62 eb2 er2 er3 hnl hll
        gi_wp2_with fail
        refine Reg.wp_chain_in (by kernel_rfl) (by kernel_rfl) [some 34, some 35, some 36, some 37, some 38, some 39, some 40, some 41, some 42, some 43, some 44, some 45, none] [(.pointer (some ⟨w.heap.size + 1 + 1, 0, none⟩)), (.pointer (some ⟨w.heap.size + 1 + 1, 0, none⟩)), (.pointer (some ⟨w.heap.size + 1 + 1, 0, none⟩)), (.pointer (some ⟨w.heap.size + 1 + 1, 0 + 0, none⟩)), (.slice vp nl vc), (.int .i64 xa), (.agg #[.int .i64 xk, .string ⟨xs.toArray⟩, .int .i64 xn]), (.agg #[.int .i64 xa, .int .i64 xk, .string ⟨xs.toArray⟩, .int .i64 xn]), (.slice (some ⟨V.heap.size, 0, none⟩) 1 1), (.slice (some ⟨g9, 0, none⟩) (nl + 1) cap9), (.pointer (some ⟨w.heap.size + 1 + 1, 0, none⟩)), (.pointer (some ⟨w.heap.size + 1 + 1, 0 + 0, none⟩)), undef] 8 9 12 (V.drew) ((V.drew.alloc (.cells #[.int .i64 xa, .int .i64 xk, .string ⟨xs.toArray⟩, .int .i64 xn] 102))) (W2) ((W2.setCell ⟨w.heap.size + 1 + 1, 0, none⟩ (.slice (some ⟨g9, 0, none⟩) (nl + 1) cap9))) [(34, 0), (35, 1), (36, 2), (37, 3), (38, 4), (39, 5), (40, 6), (41, 7), (42, 8), (43, 9), (44, 10), (45, 11)] (by kernel_rfl) (by kernel_rfl) (by kernel_rfl) (by decide) (by kernel_rfl) (by kernel_rfl) rfl ?_ ?_
        · intro ii op a' w' ho hdp hot hst
          match ii, ho, hdp, hot, hst with
          | 0, ho, hdp, hot, hst =>
            obtain rfl := Option.some.inj ho
            have e6 : a'.tmps[6]? = some (.pointer (some ⟨w.heap.size + 1 + 1 + 1, 0, none⟩)) := (hot 6 ⟨by kernel_rfl⟩).trans rfl
            exact nw_ld_runnerRunner 6 _ _ rfl e6 (HBX2.out w' hst.any).1 ⟨rfl, rfl⟩
          | 1, ho, hdp, hot, hst =>
            obtain rfl := Option.some.inj ho
            have e6 : a'.tmps[6]? = some (.pointer (some ⟨w.heap.size + 1 + 1 + 1, 0, none⟩)) := (hot 6 ⟨by kernel_rfl⟩).trans rfl
            exact nw_ld_runnerRunner 6 _ _ rfl e6 (HBX2.out w' hst.any).1 ⟨rfl, rfl⟩
          | 2, ho, hdp, hot, hst =>
            obtain rfl := Option.some.inj ho
            have e35 : a'.tmps[35]? = some (.pointer (some ⟨w.heap.size + 1 + 1, 0, none⟩)) := hdp 1 (Reg.mem_of (by kernel_rfl)) _ rfl
            exact nil_known 35 _ rfl e35 ⟨rfl, rfl⟩
          | 3, ho, hdp, hot, hst =>
            obtain rfl := Option.some.inj ho
            have e36 : a'.tmps[36]? = some (.pointer (some ⟨w.heap.size + 1 + 1, 0, none⟩)) := hdp 2 (Reg.mem_of (by kernel_rfl)) _ rfl
            exact nw_fa_runnerRunner_0 36 _ _ rfl e36 ⟨rfl, rfl⟩
          | 4, ho, hdp, hot, hst =>
            obtain rfl := Option.some.inj ho
            have e37 : a'.tmps[37]? = some (.pointer (some ⟨w.heap.size + 1 + 1, 0 + 0, none⟩)) := hdp 3 (Reg.mem_of (by kernel_rfl)) _ rfl
            exact nw_ld_slrunnerdue 37 _ _ rfl e37 (HLF.out w' (hst.early (by kernel_rfl))) ⟨rfl, rfl⟩
          | 5, ho, hdp, hot, hst =>
            obtain rfl := Option.some.inj ho
            have e7 : a'.tmps[7]? = some (.int .i64 xa) := (hot 7 ⟨by kernel_rfl⟩).trans rfl
            exact nw_move 7 _ rfl e7 ⟨rfl, rfl⟩
          | 6, ho, hdp, hot, hst =>
            obtain rfl := Option.some.inj ho
            have e8 : a'.tmps[8]? = some (.pointer (some ⟨Bx, 0, none⟩)) := (hot 8 ⟨by kernel_rfl⟩).trans rfl
            exact ld3_known 8 _ _ _ _ rfl e8 (HBX2.out w' hst.any).2 ⟨rfl, rfl⟩
          | 7, ho, hdp, hot, hst =>
            obtain rfl := Option.some.inj ho
            have e39 : a'.tmps[39]? = some (.int .i64 xa) := hdp 5 (Reg.mem_of (by kernel_rfl)) _ rfl
            have e40 : a'.tmps[40]? = some (.agg #[.int .i64 xk, .string ⟨xs.toArray⟩, .int .i64 xn]) := hdp 6 (Reg.mem_of (by kernel_rfl)) _ rfl
            exact bld_known 39 40 _ _ _ _ rfl e39 e40 ⟨rfl, rfl⟩
          | 8, ho, hdp, hot, hst =>
            obtain rfl := Option.some.inj ho
            have e41 : a'.tmps[41]? = some (.agg #[.int .i64 xa, .int .i64 xk, .string ⟨xs.toArray⟩, .int .i64 xn]) := hdp 7 (Reg.mem_of (by kernel_rfl)) _ rfl
            have hw := hst.made rfl
            subst hw
            exact bs4_known 41 _ _ _ _ rfl e41 ⟨rfl, rfl⟩
          | 9, ho, hdp, hot, hst =>
            obtain rfl := Option.some.inj ho
            have e38 : a'.tmps[38]? = some (.slice vp nl vc) := hdp 4 (Reg.mem_of (by kernel_rfl)) _ rfl
            have e42 : a'.tmps[42]? = some (.slice (some ⟨V.heap.size, 0, none⟩) 1 1) := hdp 8 (Reg.mem_of (by kernel_rfl)) _ rfl
            have hw := hst.app rfl
            subst hw
            exact ap_known 38 42 _ _ rfl rfl _ _ _ _ e38 e42 HRUN.out ⟨rfl, rfl⟩
          | 10, ho, hdp, hot, hst =>
            obtain rfl := Option.some.inj ho
            have e34 : a'.tmps[34]? = some (.pointer (some ⟨w.heap.size + 1 + 1, 0, none⟩)) := hdp 0 (Reg.mem_of (by kernel_rfl)) _ rfl
            exact nil_known 34 _ rfl e34 ⟨rfl, rfl⟩
          | 11, ho, hdp, hot, hst =>
            obtain rfl := Option.some.inj ho
            have e44 : a'.tmps[44]? = some (.pointer (some ⟨w.heap.size + 1 + 1, 0, none⟩)) := hdp 10 (Reg.mem_of (by kernel_rfl)) _ rfl
            exact nw_fa_runnerRunner_0 44 _ _ rfl e44 ⟨rfl, rfl⟩
          | 12, ho, hdp, hot, hst =>
            obtain rfl := Option.some.inj ho
            have e45 : a'.tmps[45]? = some (.pointer (some ⟨w.heap.size + 1 + 1, 0 + 0, none⟩)) := hdp 11 (Reg.mem_of (by kernel_rfl)) _ rfl
            have e43 : a'.tmps[43]? = some (.slice (some ⟨g9, 0, none⟩) (nl + 1) cap9) := hdp 9 (Reg.mem_of (by kernel_rfl)) _ rfl
            have hw := hst.stored rfl
            subst hw
            exact st_known 45 43 _ _ _ _ rfl rfl e45 e43 zc zf ⟨rfl, rfl⟩
          | ii + 13, ho, _, _, _ => exact absurd ho (by simp)
        · intro us hul hus
          obtain ⟨z0_, z1_, z2_, z3_, z4_, z5_, z6_, z7_, z8_, z9_, z10_, z11_, rfl⟩ : ∃ z0_ z1_ z2_ z3_ z4_ z5_ z6_ z7_ z8_ z9_ z10_ z11_, us = [z0_, z1_, z2_, z3_, z4_, z5_, z6_, z7_, z8_, z9_, z10_, z11_] := by
            clear hus
            match us, hul with
            | [z0_, z1_, z2_, z3_, z4_, z5_, z6_, z7_, z8_, z9_, z10_, z11_], _ => exact ⟨z0_, z1_, z2_, z3_, z4_, z5_, z6_, z7_, z8_, z9_, z10_, z11_, rfl⟩
          clear hus hul
          simp only [List.map, List.zip, List.zipWith, Reg.puts, Act.put, List.setIfInBounds_toArray, List.set_cons_succ, List.set_cons_zero]
          gi_wp2_with fail
          exact ⟨KK.out.1.trans (HKF.out.trans (((KeepsOthers.setCell _ _ _).from _).trans ((KeepsOthers.setCell _ _ _).from _))), kp_t KK.out.2 HKP.out, by rw [HV2.out]; exact HNO.out⟩
    · have c0b : (cd != 0) = true := by simpa using h0
      have HC0 := Lib.hid h0
      clear h0
      gi_wp2_with fail
      refine ⟨trivial, ?_⟩
      gi_at_call 73
      refine (CallsIn.inRound lo (callsIn_wide.2 (HO.out _))).mono ?_
      rintro e w5 ⟨rfl, hb5⟩
      have HN5 := Lib.hid (HN.out.keep hb5)
      have g4 := at_cell HN5.out.t4 0
      have f4 := at_frozen HN5.out.t4 0
      have g5 := at_cell HN5.out.t5 0
      have f5 := at_frozen HN5.out.t5 0
      have KK := Lib.hid (keeps_below (B := W0.heap.size) hb5)
      have HNN := Lib.hid (HN5.out.no (x := (xa, ⟨xk, xs, xn⟩)) (by rw [HCD.out]; exact HC0.out))
      clear hb5
      gi_wp2_with fail
      exact ⟨KK.out.trans (((KeepsOthers.setCell _ _ _).from _).trans ((KeepsOthers.setCell _ _ _).from _)), rfl, by rw [← HCD.out]; exact HNN.out⟩
  case done =>
    rintro D ys W hD rfl hN hK
    have e6 := at_cell hN.t6 0
    have e4 := at_cell hN.t4 0
    have f4 := at_frozen hN.t4 0
    have e5 := at_cell hN.t5 0
    have f5 := at_frozen hN.t5 0
    have HN := Lib.hid hN
    have HK := Lib.hid hK
    clear hN hK
    gi_wp2
    refine ⟨by simp, .inl ⟨_, _, rfl, run_takeDeferred (((KeepsOthers.setCell _ _ _).trans (KeepsOthers.setCell _ _ _)).same D _ HK.out rfl), ?_⟩⟩
    have hKD := ((KeepsOthers.setCell W ⟨w.heap.size, 0, none⟩ (.pointer (some ⟨w.heap.size + 1 + 1, 0, none⟩))).trans (KeepsOthers.setCell _ ⟨w.heap.size + 1, 0, none⟩ (.int .i64 0))).same D _ HK.out rfl
    have hr4 := cells_kept ((at_set_other _ (by omega) _ _).trans (at_set HN.out.t4 0 (.pointer (some ⟨w.heap.size + 1 + 1, 0, none⟩))) : ((W.setCell ⟨w.heap.size, 0, none⟩ (.pointer (some ⟨w.heap.size + 1 + 1, 0, none⟩))).setCell ⟨w.heap.size + 1, 0, none⟩ (.int .i64 0)).heap[w.heap.size]? = _) (grownBy_putObj' _ D (.deferred none)) (fun r e => by cases e; exact ⟨_, hKD, rfl⟩)
    have hr5 := cells_kept (at_set ((at_set_other _ (by omega) _ _).trans HN.out.t5) 0 (.int .i64 0) : ((W.setCell ⟨w.heap.size, 0, none⟩ (.pointer (some ⟨w.heap.size + 1 + 1, 0, none⟩))).setCell ⟨w.heap.size + 1, 0, none⟩ (.int .i64 0)).heap[w.heap.size + 1]? = _) (grownBy_putObj' _ D (.deferred none)) (fun r e => by cases e; exact ⟨_, hKD, rfl⟩)
    have HP := Lib.hid (HN.out.done HTT.out (by omega) HK.out (out_grown (((Out.refl (fun k => k = w.heap.size ∨ k = w.heap.size + 1 ∨ k = D) W).setCell (p := ⟨w.heap.size, 0, none⟩) (fun _ => .inl rfl) (.pointer (some ⟨w.heap.size + 1 + 1, 0, none⟩))).setCell (p := ⟨w.heap.size + 1, 0, none⟩) (fun _ => .inr (.inl rfl)) (.int .i64 0)) (grownBy_putObj' _ D (.deferred none)) (fun k e _ => by cases e; exact .inr (.inr rfl))))
    have g4 := at_cell hr4 0
    have g5 := at_cell hr5 0
    generalize ((W.setCell ⟨w.heap.size, 0, none⟩ (.pointer (some ⟨w.heap.size + 1 + 1, 0, none⟩))).setCell ⟨w.heap.size + 1, 0, none⟩ (.int .i64 0)).putObj D (.deferred none) = WF at *
    clear hKD hr4 hr5 e4 e5 e6 f4 f5
    refine ⟨.tuple #[.pointer (some ⟨w.heap.size + 1 + 1, 0, none⟩), .int .i64 0], ?_, .inr HP.out⟩
    simp [results, Tryz.results57, go_sem, g4, g5]
  case stop =>
    rintro D c pre W hD hp ⟨rfl, hN⟩ hK
    have HK := Lib.hid hK
    obtain ⟨pre', x, hpx, hg, hb, ht5⟩ := hN.bad
    have HP := Lib.hid (tm_bad HTT.out hg hb (by rw [← hpx]; exact hp))
    have hr4 := cells_kept hN.t4 (grownBy_putObj' W D (.deferred none)) (fun r e => by cases e; exact ⟨_, HK.out, rfl⟩)
    have hr5 := cells_kept ht5 (grownBy_putObj' W D (.deferred none)) (fun r e => by cases e; exact ⟨_, HK.out, rfl⟩)
    have HB := Lib.hid (hN.below.grown (grownBy_putObj' W D (.deferred none)) hN.below.size (fun k e => by cases e; omega))
    have g4 := at_cell hr4 0
    have g5 := at_cell hr5 0
    clear hN hK hg hpx ht5 hr4 hr5
    gi_wp2
    refine ⟨by simp, .inl ⟨_, _, rfl, run_takeDeferred HK.out, ?_⟩⟩
    generalize W.putObj D (.deferred none) = WF at *
    refine ⟨.tuple #[.pointer none, .int .i64 (chk now l)], ?_, .inl ⟨by rw [HP.out]; exact hb, rfl, HB.out⟩⟩
    rw [HP.out]
    simp [results, Tryz.results57, go_sem, g4, g5]
end Go.Proofs.YtnkhdpenmekhdaaGreat.Run
end

section
namespace Go.Proofs.YtnkhdpenmekhdaaGreat.Run
open Go.RowKit Go.Proofs.YtnkhdpenmekhdaaGreat.Own Go.Proofs.YtnkhdpenmekhdaaGreat.Brk Go.Proofs.YtnkhdpenmekhdaaGreat.Calc

set_option maxRecDepth 100000 in
set_option maxHeartbeats 2000000 in
theorem new_calls (l : List Op) (m : Nat) (hm : l.length = m) (hm2 : m ≤ 1000) (now : Int) (p : Option Addr) (c : Nat) (w : World) (h : Ops w l p c) :
    Calls Tryz.prog 57 #[.slice p m c, .int .i64 now] w (NewPost l now w) := by
  cases hT : isT now with
  | true => exact callsIn_wide.1 (new_in l m hm hm2 now p c w h hT)
  | false =>
    have HI := Lib.hid (is_calls now)
    rw [hT] at HI
    have HC := Lib.hid (chk_out (l := l) hT)
    have HB := Lib.hid ((((Below.refl w.heap.size w).alloc (Nat.le_refl _) (.cells #[.pointer none] 45)).alloc (by simp) (.cells #[.int .i64 1] 27)))
    clear hT h hm
    go_enter Tryz.func57, Tryz.ntmps57
    go_wp2_with (go_at_call 68; refine (HI.out _).mono ?_; rintro e w' ⟨rfl, rfl⟩)
    have g4 := at_cell (at_old (w.alloc (.cells #[.pointer none] 45)) (.cells #[.int .i64 1] 27) (at_new w (.cells #[.pointer none] 45))) 0
    have g5 := at_cell (at_newk (w.alloc (.cells #[.pointer none] 45)) (.cells #[.int .i64 1] 27) (k := w.heap.size + 1) (by simp)) 0
    refine bodyPost_ret (v := .tuple #[.pointer none, .int .i64 1]) ?_ rfl (.inl ⟨by rw [HC.out]; decide, by rw [HC.out], HB.out⟩)
    generalize (w.alloc (.cells #[.pointer none] 45)).alloc (.cells #[.int .i64 1] 27) = WF at *
    simp [results, Tryz.results57, go_sem, g4, g5]
end Go.Proofs.YtnkhdpenmekhdaaGreat.Run
end

section
namespace Go.Proofs.YtnkhdpenmekhdaaGreat.Run
open Go.RowKit Go.Proofs.YtnkhdpenmekhdaaGreat.Own Go.Proofs.YtnkhdpenmekhdaaGreat.Brk Go.Proofs.YtnkhdpenmekhdaaGreat.Calc Go.Proofs.YtnkhdpenmekhdaaGreat.Tree

set_option maxRecDepth 100000 in
set_option maxHeartbeats 1000000 in
theorem step_off {w : World} {b q : Nat} {L : List (Int × Op)} {e : Int} (now : Int) (h : IsRun w b q L e false) :
    Calls Tryz.prog 58 #[.pointer (some ⟨b, 0, none⟩), .int .i64 now] w fun r w' => r = .returned (.slice none 0 0) ∧ w = w' := by
  have HD := Lib.hid (done_calls h)
  clear h
  go_enter Tryz.func58, Tryz.ntmps58
  go_wp2_with (go_at_call 54; refine (HD.out).mono ?_; rintro e w' ⟨rfl, rfl⟩)
  go_ret
  exact ⟨rfl, rfl⟩
/-- steps and when they are due, in order, none behind the end -/
structure Plan (D : List (Int × Op)) (E : Int) : Prop where
  sorted : D.Pairwise (fun p q => p.1 ≤ q.1)
  last : ∀ p ∈ D, p.1 ≤ E
  few : D.length ≤ 1000
/-- a runner that was asked last then -/
abbrev Asked (w : World) (b q : Nat) (D : List (Int × Op)) (E was : Int) : Prop := IsRun w b q (rest D was) E (decide (was < E))
def StPost (w : World) (b q : Nat) (D : List (Int × Op)) (E was tt : Int) (r : Ending) (w' : World) : Prop :=
  ∃ v, r = .returned v ∧ Mine w' w.heap.size v (told D was tt) ∧ Asked w' b q D E tt ∧ Out (fun k => k = b) w w'
theorem step_calls {w : World} {b q : Nat} {D : List (Int × Op)} {E was : Int} (tt : Int) (hP : Plan D E) (h : Asked w b q D E was) (hwt : was ≤ tt) :
    Calls Tryz.prog 58 #[.pointer (some ⟨b, 0, none⟩), .int .i64 tt] w (StPost w b q D E was tt) := by
  by_cases hE : was < E
  · have h' : IsRun w b q (rest D was) E true := by have := h; unfold Asked at this; rwa [decide_eq_true hE] at this
    refine (step_on tt h' (Nat.le_trans (List.length_filter_le _ _) hP.few)).mono ?_
    rintro r w' ⟨v, rfl, h1, h2, h3⟩
    refine ⟨v, rfl, ?_, ?_, h3⟩
    · unfold tk at h1; rwa [take_told hP.sorted] at h1
    · unfold lv at h2; rwa [drop_rest hwt hP.sorted] at h2
  · have h' : IsRun w b q (rest D was) E false := by have := h; unfold Asked at this; rwa [decide_eq_false hE] at this
    have hl : ∀ t, E ≤ t → ∀ p ∈ D, p.1 ≤ t := fun t ht p hp => by have := hP.last p hp; omega
    refine (step_off tt h').mono ?_
    rintro r w' ⟨rfl, rfl⟩
    refine ⟨_, rfl, by rw [told_none (hl was (by omega))]; exact mine_nil _ _, ?_, Out.refl _ _⟩
    unfold Asked
    rw [rest_none (hl tt (by omega)), decide_eq_false (by omega)]
    rwa [rest_none (hl was (by omega))] at h'
theorem next_at {w : World} {b q : Nat} {D : List (Int × Op)} {E was : Int} (h : Asked w b q D E was) :
    Calls Tryz.prog 33 #[.pointer (some ⟨b, 0, none⟩)] w fun r w' => r = .returned (.tuple #[.int .i64 (nxV D E was), .bool (nxB E was)]) ∧ w = w' := by
  refine (next_calls h).mono ?_
  rintro r w' ⟨rfl, rfl⟩
  refine ⟨?_, rfl⟩
  unfold nextV nxV nxB
  by_cases hE : was < E
  · rw [decide_eq_true hE, if_pos hE] <;> (cases rest D was <;> rfl)
  · rw [decide_eq_false hE, if_neg hE]
theorem done_at {w : World} {b q : Nat} {D : List (Int × Op)} {E was : Int} (h : Asked w b q D E was) :
    Calls Tryz.prog 54 #[.pointer (some ⟨b, 0, none⟩)] w fun r w' => r = .returned (.bool !nxB E was) ∧ w = w' := done_calls h
/-- New, where there is a runner -/
def NewYes (l : List Op) (now was : Int) (w : World) (e : Ending) (w' : World) : Prop :=
  ∃ b q, e = .returned (.tuple #[.pointer (some ⟨b, 0, none⟩), .int .i64 0]) ∧ Asked w' b q (dues now l) (ends now l) was ∧ w.heap.size ≤ b ∧ w.heap.size ≤ q ∧ Below w.heap.size w w'
theorem plan_of {now : Int} {l : List Op} (h : chk now l = 0) (hl : l.length ≤ 1000) : Plan (dues now l) (ends now l) := by
  obtain ⟨_, hg⟩ := chk_inv h
  exact ⟨dues_sorted hg, fun p hp => (dues_range hg p hp).2, Nat.le_trans (dues_len _ _) hl⟩
theorem new_yes (l : List Op) (m : Nat) (hm : l.length = m) (hm2 : m ≤ 1000) (now was : Int) (hw : was < now) (p : Option Addr) (c : Nat) (w : World) (h : Ops w l p c) (hc : chk now l = 0) :
    Calls Tryz.prog 57 #[.slice p m c, .int .i64 now] w (NewYes l now was w) := by
  refine (new_calls l m hm hm2 now p c w h).mono ?_
  rintro e w' (⟨h1, _⟩ | ⟨_, b, q, rfl, hr, h1, h2, h3⟩)
  · exact absurd hc h1
  · obtain ⟨_, hg⟩ := chk_inv hc
    have he := ends_ge hg
    refine ⟨b, q, rfl, ?_, h1, h2, h3⟩
    unfold Asked
    rw [rest_all (fun p hp => by have := dues_range hg p hp; omega), decide_eq_true (by omega)]
    exact hr
theorem new_no (l : List Op) (m : Nat) (hm : l.length = m) (hm2 : m ≤ 1000) (now : Int) (p : Option Addr) (c : Nat) (w : World) (h : Ops w l p c) (cd : Int) (hc : chk now l = cd) (h0 : cd ≠ 0) :
    Calls Tryz.prog 57 #[.slice p m c, .int .i64 now] w fun e w' => e = .returned (.tuple #[.pointer none, .int .i64 cd]) ∧ Below w.heap.size w w' := by
  refine (new_calls l m hm hm2 now p c w h).mono ?_
  rintro e w' (⟨_, rfl, h1⟩ | ⟨h2, _⟩)
  · exact ⟨by rw [hc], h1⟩
  · exact absurd (hc.symm.trans h2) h0
/-- a literal slice of ops -/
theorem ops_lit (w : World) (L : List Op) (g : Nat) (hg : g = w.heap.size) (cs : Array Value) (hcs : cs = (ov L).toArray) : Ops (w.alloc (.cells cs 58)) L (some ⟨g, 0, none⟩) L.length ∨ maxLen < L.length := by
  subst hg
  subst hcs
  rcases Nat.lt_or_ge maxLen L.length with h | h
  · exact .inr h
  · refine .inl ⟨Nat.le_refl _, h, .inr ⟨w.heap.size, 0, rfl, by simp, fun i hi => ?_⟩⟩
    have e0 := ov_get hi 0 (by omega)
    have e1 := ov_get hi 1 (by omega)
    have e2 := ov_get hi 2 (by omega)
    have hn := at_new w (.cells (ov L).toArray 58)
    rw [Nat.zero_add]
    exact ⟨(at_cell hn _).trans ((List.getElem?_toArray ..).trans e0), (at_cell hn _).trans ((List.getElem?_toArray ..).trans e1), (at_cell hn _).trans ((List.getElem?_toArray ..).trans e2)⟩
end Go.Proofs.YtnkhdpenmekhdaaGreat.Run
end

section
namespace Go.Proofs.YtnkhdpenmekhdaaGreat.Bkf
open Go.RowKit Go.Proofs.YtnkhdpenmekhdaaGreat.Calc

/-- a rule that may be -/
def okR (b c j : Int) : Prop := 1 ≤ b ∧ b ≤ 3600 ∧ b ≤ c ∧ c ≤ 86400 ∧ 0 ≤ j ∧ j ≤ 3600
instance (b c j : Int) : Decidable (okR b c j) := by unfold okR; exact inferInstance
def chkR (b c j : Int) : Int := if okR b c j then 0 else 2
theorem chk_ok {b c j : Int} (h : okR b c j) : chkR b c j = 0 := if_pos h
theorem chk_no {b c j : Int} (h : ¬ okR b c j) : chkR b c j = 2 := if_neg h

/-- what is left, from 0 on -/
def lf (r m : Int) : Int := r % m
theorem lf_rng {r m : Int} (h : 0 < m) : 0 ≤ lf r m ∧ lf r m < m := ⟨Int.emod_nonneg _ (by omega), Int.emod_lt_of_pos _ h⟩
theorem lf_tmod {r m : Int} (h : 0 < m) : (Int.tmod r m < 0 → lf r m = Int.tmod r m + m) ∧ (¬ Int.tmod r m < 0 → lf r m = Int.tmod r m) ∧ -m < Int.tmod r m ∧ Int.tmod r m < m := by
  have h2 := lf_rng (r := r) h
  have h6 := Int.tmod_eq_emod (a := r) (b := m)
  have h7 : (m.natAbs : Int) = m := Int.natAbs_of_nonneg (by omega)
  unfold lf at *
  by_cases h8 : 0 ≤ r ∨ m ∣ r
  · rw [if_pos h8] at h6
    exact ⟨fun _ => by omega, fun _ => by omega, by omega, by omega⟩
  · rw [if_neg h8] at h6
    have h9 : r % m ≠ 0 := fun e => h8 (.inr (Int.dvd_of_emod_eq_zero e))
    exact ⟨fun _ => by omega, fun _ => by omega, by omega, by omega⟩

/-- how long is waited at least behind n failures -/
def lowR (b c : Int) (n : Nat) : Int := dbl b n c
theorem low_rng {b c j : Int} (h : okR b c j) (n : Nat) : b ≤ lowR b c n ∧ lowR b c n ≤ c := dbl_mono b n c (by have := h.1; omega) h.2.2.1
theorem low_zero {b c j : Int} (h : okR b c j) : lowR b c 0 = b := by
  have := h.2.2.1
  unfold lowR dbl
  simp; omega
theorem low_up {b c j : Int} (h : okR b c j) (n : Nat) : lowR b c n ≤ lowR b c (n + 1) := by
  have h1 := low_rng h n
  have h2 := h.1
  unfold lowR at *
  rw [dbl_succ b n c (by omega) (by omega)]
  omega
theorem low_val {b c j : Int} (h : okR b c j) (n : Nat) : dblV b n c = lowR b c n := by
  obtain ⟨h1, h2, h3, h4, _, _⟩ := h
  unfold dblV
  rw [dblB_iff.2 ⟨isT_iff.2 (by omega), isT_iff.2 (by omega), h3, by omega⟩, if_pos rfl]
  rfl
/-- until when is waited -/
def atR (b c j : Int) (n : Nat) (now r : Int) : Int := now + lowR b c n + lf r (j + 1)
theorem at_rng {b c j : Int} (h : okR b c j) (n : Nat) (now r : Int) : now + lowR b c n ≤ atR b c j n now r ∧ atR b c j n now r ≤ now + lowR b c n + j := by
  have := lf_rng (r := r) (m := j + 1) (by have := h.2.2.2.2.1; omega)
  unfold atR
  omega
/-- all three together -/
theorem total_at3 {b c j : Int} (h : okR b c j) (n : Nat) (now r : Int) (hn : isT now = true) :
    total 0 [now, lowR b c n, lf r (j + 1)] = if isT (atR b c j n now r) = true then (atR b c j n now r, 0) else (0, 2) := by
  obtain ⟨n0, n1⟩ := isT_iff.1 hn
  have h1 := low_rng h n
  obtain ⟨h2, h3, h4, h5, h6, h7⟩ := h
  have h8 := lf_rng (r := r) (m := j + 1) (by omega)
  have t0 : isT 0 = true := by decide
  have tl : isT (lowR b c n) = true := isT_iff.2 (by omega)
  have tf : isT (lf r (j + 1)) = true := isT_iff.2 (by omega)
  have e0 : addC 0 now = 0 := addC_nought t0 hn (by simpa using hn)
  have v0 : addV 0 now = now := by rw [addV_some e0, Int.zero_add]
  simp only [total]
  rw [if_pos e0, v0]
  by_cases hA : isT (now + lowR b c n) = true
  · have e1 := addC_nought hn tl hA
    rw [if_pos e1, addV_some e1]
    by_cases hB : isT (atR b c j n now r) = true
    · have e2 : addC (now + lowR b c n) (lf r (j + 1)) = 0 := addC_nought hA tf hB
      rw [if_pos e2, addV_some e2, if_pos hB]
      rfl
    · have hB' : isT (now + lowR b c n + lf r (j + 1)) = false := by simpa [atR] using hB
      have e2 := addC_two hA tf hB'
      rw [if_neg (by omega), e2, if_neg hB]
  · have hA' : isT (now + lowR b c n) = false := by simpa using hA
    have e1 := addC_two hn tl hA'
    have hB : ¬ isT (atR b c j n now r) = true := fun hB => hA (by
      have := isT_iff.1 hB
      rw [isT_iff]
      unfold atR at this
      omega)
    rw [if_neg (by omega), e1, if_neg hB]
end Go.Proofs.YtnkhdpenmekhdaaGreat.Bkf
end


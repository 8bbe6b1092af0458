/-
  Layer 11 (store): Copy.
-/
import Derived.Test.YtejhggjehmioaaaDoorStoNames
import Derived.Test.YtejhggjehmioaaaDoorStoSyn
import Derived.Deep.RegionHeld3
import Derived.StillTailTactics
import Derived.Maps.OwnSet
import Derived.Maps.RangeWalk
namespace Go.Proofs.YtejhggjehmioaaaDoor.Sto
open Go.RowKit Go.Proofs.YtejhggjehmioaaaDoor.Own Go.Proofs.YtejhggjehmioaaaDoor.KM Go.Proofs.YtejhggjehmioaaaDoor.Flt
open Go.Proofs.YtejhggjehmioaaaDoor.Rw (str strs)

theorem nil_is (W : World) : (binOp .eql 65 (.slice none 0 0) (.slice none 0 0)).run Tryd.prog W = .ok (.bool true) W := by kernel_rfl
theorem some_is (a : Addr) (n c : Nat) (W : World) : (binOp .eql 65 (.slice (some a) n c) (.slice none 0 0)).run Tryd.prog W = .ok (.bool false) W := by kernel_rfl
set_option maxRecDepth 100000 in
/-- bytes copied: a row of its own, new -/
theorem clone_calls {w : World} {sl : Value} {l : Bs} (h : Bt w sl l) (hl : l.length ≤ 16777216) :
    Calls Tryd.prog 28 #[sl] w fun e w' => ∃ v, e = .returned v ∧ Bt w' v l ∧ Below w.heap.size w w' ∧ ∀ g, v.ownBlock = some g → w.heap.size ≤ g := by
  obtain ⟨i0, hi, hz0, hz1, hz2⟩ := info_parts info_byte
  rcases h.2 with ⟨rfl, h0⟩ | ⟨g, cap, cur, rfl, _, hh, h3, h4, h5, h6⟩
  · obtain rfl := List.eq_nil_of_length_eq_zero h0
    have hq := nil_is
    go_enter Tryd.func28, Tryd.ntmps28
    go_wp2_with fail
    go_ret
    exact ⟨_, rfl, Bt.nil _, Below.refl _ _, fun g hg => by cases hg⟩
  · have hr : Hid (∀ W, Below w.heap.size w W → ∀ j u, (bv l)[j]? = some u → W.cell? ((⟨g, 0, none⟩ : Addr).add j) = some u) := Lib.hid fun W hb j u hu => by
      have := World.ownsRow.cells h (g := g) rfl j u hu
      rw [add0] at this ⊢
      exact (hb.cell (p := ⟨g, j, none⟩) (at_lt hh)).trans this
    have hq := some_is
    have hO : (w.alloc (.cells #[] 5 (0, 0))).ownsRow w.heap.size 5 1 (.slice (some ⟨w.heap.size, 0, none⟩) 0 0) 0 [] := Rw.own_new w [] 5 w.heap.size rfl (by simp)
    clear h h6 hh
    go_enter Tryd.func28, Tryd.ntmps28
    go_wp2_with (at_builtin; refine append_any rfl _ _ 65 rfl w.heap.size 5 i0 _ 1 1 Tryd.underlying65 hi hz0 hz1 hz2 rfl (by decide) _ 0 [] rfl hO (some ⟨g, 0, none⟩) l.length cap (bv l) rfl (fun h => nomatch h) (by rw [bv_len, Nat.mul_one]) (fun ad had j u hu => by cases had; exact hr.out _ ((Below.refl _ _).alloc (Nat.le_refl _) _) j u hu) (bv_one _) (by unfold maxLen; omega) (by omega) (by simp) ?_; intro v1 w1 own1 grow1; replace own1 := Lib.hid own1; replace grow1 := Lib.hid grow1)
    go_ret
    refine ⟨v1, rfl, ?_, ((Below.refl _ w).alloc (Nat.le_refl _) _).grown grow1.out (by simp) (fun k hk => by cases hk; exact Nat.le_refl _), fun g' hg => ?_⟩
    · have := own1.out
      rw [Nat.zero_add, List.nil_append] at this
      exact Rw.own_base this (Nat.zero_le _)
    · rcases own1.out.2 with ⟨rfl, _⟩ | ⟨g2, cap2, cur2, rfl, hb, _⟩
      · cases hg
      · cases hg; exact hb

/-- where the copying stands -/
structure CpAt (w1 wr : World) (m m2 r : Nat) (V : List En) (D : DataW Value) (left : Lit → Bool) (F : Bs → Value) : Prop where
  map2 : ∃ n, KMap Tryd.prog 9 str wr m2 (fun a => (lk enm V a).bind fun x => if left (.string a) then none else some (.agg #[F a, .int .i64 x.fl.sure])) n
  rows : ∀ x ∈ V, left (.string (enm x)) = false → Bt wr (F (enm x)) x.fl.bs ∧ ∀ g, (F (enm x)).ownBlock = some g → r < g
  apart : ∀ x ∈ V, ∀ y ∈ V, enm x ≠ enm y → left (.string (enm x)) = false → left (.string (enm y)) = false → Ap (F (enm x)) (F (enm y))
  below : Out (fun k => k = m2 ∨ k = r) w1 wr

theorem CpAt.next {w1 wr w2 : World} {m m2 r : Nat} {V : List En} {D : DataW Value} {left : Lit → Bool} {F : Bs → Value} (h : CpAt w1 wr m m2 r V D left F) (hg : wr.grownBy w2 (some r)) (hr : m2 ≠ r) : CpAt w1 w2 m m2 r V D left F := by
  obtain ⟨n, hn⟩ := h.map2
  refine ⟨⟨n, hn.kept (hg.block _ hn.lt (fun e => hr (by cases e; rfl)))⟩, fun x hx hf => ?_, h.apart, h.below.trans (S' := fun k => k = r) ⟨hg.os, hg.tape, hg.output, hg.size, fun i hi hne => hg.block i hi (fun e => hne (by cases e; rfl))⟩ fun i _ hi => .inr hi⟩
  obtain ⟨h1, h2⟩ := h.rows x hx hf
  exact ⟨h1.kept fun g hgb => hg.block g (h1.lt hgb) (fun e => by have := h2 g hgb; cases e; omega), h2⟩
theorem CpAt.below_ {w1 wr w2 : World} {m m2 r : Nat} {V : List En} {D : DataW Value} {left : Lit → Bool} {F : Bs → Value} (h : CpAt w1 wr m m2 r V D left F) (hb : Below wr.heap.size wr w2) : CpAt w1 w2 m m2 r V D left F := by
  obtain ⟨n, hn⟩ := h.map2
  refine ⟨⟨n, hn.kept (hb.block _ hn.lt)⟩, fun x hx hf => ?_, h.apart, h.below.trans (Out.ofNew (S := fun _ => False) hb) fun i _ hi => hi.elim⟩
  obtain ⟨h1, h2⟩ := h.rows x hx hf
  exact ⟨h1.kept fun g hgb => hb.block g (h1.lt hgb), h2⟩
theorem cp_step {w1 W w5 w6 : World} {m m2 r n S : Nat} {V : List En} {D : DataW Value} {left : Lit → Bool} {F : Bs → Value} {e_ : En} {a : Bs} {v5 : Value} (h : CpAt w1 W m m2 r V D left F) (hr : Rise enm V) (hx : lk enm V a = some e_) (hS : e_.fl.sure = S) (hl : left (.string a) = true)
    (b5 : Below W.drew.heap.size W.drew w5) (R5 : Bt w5 v5 e_.fl.bs) (l5 : ∀ g, v5.ownBlock = some g → W.drew.heap.size ≤ g)
    (K6 : KMap Tryd.prog 9 str w6 m2 (put (fun a => (lk enm V a).bind fun x => if left (.string a) = true then none else some (.agg #[F a, .int .i64 x.fl.sure])) a (.agg #[v5, .int .i64 (S : Int)])) n) (O6 : Out (fun i => i = m2) w5 w6) (hrW : r < W.heap.size) (hmr : m2 < r) :
    CpAt w1 w6 m m2 r V D (fun z => left z && !z.sameKey (.string a)) (fun c => if c = a then v5 else F c) := by
  have hdr : W.drew.heap.size = W.heap.size := rfl
  have same : ∀ c, c ≠ a → (Lit.string c).sameKey (.string a) = false := fun c hc => by simpa [Lit.sameKey] using hc
  have self : (Lit.string a).sameKey (.string a) = true := by simp [Lit.sameKey]
  have hk := lk_some hx
  have old : ∀ x ∈ V, enm x ≠ a → (left (.string (enm x)) && !(Lit.string (enm x)).sameKey (.string a)) = false → left (.string (enm x)) = false := fun x _ hne hf => by rw [same _ hne] at hf; simpa using hf
  refine ⟨⟨n, K6.cong (fun c => ?_) rfl⟩, fun x hxV hf => ?_, fun x hxV y hyV hne hfx hfy => ?_, ?_⟩
  · unfold put
    by_cases hc : c = a
    · subst hc
      simp [hx, self, hS]
    · rw [if_neg hc]
      cases hcc : lk enm V c with
      | none => simp [hcc]
      | some z => simp [hcc, same c hc, hc]
  · by_cases hc : enm x = a
    · obtain rfl : x = e_ := hr.one hxV hk.1 (hc.trans hk.2.symm)
      simp only [hc, if_true]
      exact ⟨R5.kept fun g hg => O6.block g (R5.lt hg) (fun e => by have := l5 g hg; omega), fun g hg => by have := l5 g hg; omega⟩
    · simp only [hc, if_false]
      obtain ⟨h1, h2⟩ := h.rows x hxV (old x hxV hc hf)
      exact ⟨h1.kept fun g hg => (O6.block g (Nat.lt_of_lt_of_le (h1.lt hg) b5.size) (fun e => by have := h2 g hg; omega)).trans (b5.block g (h1.lt hg)), h2⟩
  · by_cases hcx : enm x = a
    · have hcy : enm y ≠ a := fun e => hne (hcx.trans e.symm)
      simp only [hcx, hcy, if_true, if_false]
      intro g hg hg2
      have := l5 g hg
      have h3 := (h.rows y hyV (old y hyV hcy hfy)).1.lt hg2
      omega
    · by_cases hcy : enm y = a
      · simp only [hcx, hcy, if_true, if_false]
        intro g hg hg2
        have := l5 g hg2
        have h3 := (h.rows x hxV (old x hxV hcx hfx)).1.lt hg
        omega
      · simp only [hcx, hcy, if_false]
        exact h.apart x hxV y hyV hne (old x hxV hcx hfx) (old y hyV hcy hfy)
  · exact (h.below.trans (Out.ofNew (S := fun _ => False) (a := W) ⟨b5.os, b5.tape, b5.output, b5.size, b5.block⟩) fun _ _ h => h.elim).trans O6 fun i _ hi => .inl hi
/-- all is copied -/
theorem cp_end {w w1 wr : World} {m : Nat} {V : List En} {D : DataW Value} {left : Lit → Bool} {F : Bs → Value} {most total bad : Int} (h : CpAt w1 wr m (w.heap.size + 1) (w.heap.size + 2) V D left F) (hl : ∀ k, left k = false) (hr : Rise enm V)
    (hn : w1.heap[w.heap.size]? = some (.cells #[.map (some (w.heap.size + 1)), .int .i64 most, .int .i64 total, .int .i64 bad] 61 (0, 0))) (hb : Below w.heap.size w w1) (hz : w1.heap.size = w.heap.size + 2) :
    ∃ bs2 m2 V2, V2.map En.fl = V.map En.fl ∧ Base wr bs2 w.heap.size m2 V2 most total bad ∧ (∀ k, bs2 k → w.heap.size ≤ k ∧ k < wr.heap.size) ∧ Below w.heap.size w wr := by
  obtain ⟨n, hm⟩ := h.map2
  have hsz := h.below.size
  have e1 : (V.map fun x => (⟨x.fl, F (enm x)⟩ : En)).map En.fl = V.map En.fl := by rw [List.map_map]; rfl
  have hR : Rise enm (V.map fun x => (⟨x.fl, F (enm x)⟩ : En)) := (rise_map (nm := enm) (nb := enm) (fun x => (⟨x.fl, F (enm x)⟩ : En)) (fun _ => rfl)).1 hr
  have hf : ∀ a, ((lk enm V a).bind fun x => if left (.string a) then none else some (.agg #[F a, .int .i64 x.fl.sure])) = look (V.map fun x => (⟨x.fl, F (enm x)⟩ : En)) a := by
    intro a
    unfold look
    rw [← lk_map (nm := enm) (nb := enm) (fun x => (⟨x.fl, F (enm x)⟩ : En)) (fun _ => rfl)]
    cases hk : lk enm V a with
    | none => rfl
    | some x =>
      have : enm x = a := (lk_some hk).2
      simp [hl, En.val, this]
  have hm2 := hm.cong hf rfl
  have hN : n = (V.map fun x => (⟨x.fl, F (enm x)⟩ : En)).length := KMap.count hm2 hR
  refine ⟨fun k => k = w.heap.size ∨ k = w.heap.size + 1 ∨ ∃ x ∈ V, (F (enm x)).ownBlock = some k, _, _, e1, ⟨h.below.at_ hn (by omega), hN ▸ hm2, hR, fun x hx => ?_, ?_, .inl rfl, .inr (.inl rfl), fun x hx g hg => ?_, by omega⟩, fun k hk => ?_, ?_⟩
  · obtain ⟨y, hy, rfl⟩ := List.mem_map.1 hx
    exact (h.rows y hy (hl _)).1
  · rw [List.pairwise_map]
    exact hr.imp_of_mem fun {x y} hx hy hlt => h.apart x hx y hy (fun e => by rw [e] at hlt; exact List.lt_irrefl _ hlt) (hl _) (hl _)
  · obtain ⟨y, hy, rfl⟩ := List.mem_map.1 hx
    have := (h.rows y hy (hl _)).2 g hg
    exact ⟨.inr (.inr ⟨y, hy, hg⟩), by omega, by omega⟩
  · rcases hk with rfl | rfl | ⟨y, hy, hg⟩
    · omega
    · omega
    · have := (h.rows y hy (hl _)).2 k hg
      exact ⟨by omega, (h.rows y hy (hl _)).1.lt hg⟩
  · exact hb.trans (h.below.below (by omega) (fun i hi => by omega))
theorem string_inv {key : Value} {kl : Lit} (h : keyOf Tryd.prog 9 key = some kl) : ∃ s, key = .string s := by
  cases key <;> simp [keyOf, Tryd.underlying9, mapKey] at h
  exact ⟨_, rfl⟩
theorem str_of (s : ByteArray) : .string s = str s.data.toList := rfl
section
variable {w : World} {bs : Nat → Prop} {b m : Nat} {V : List En} {most total bad : Int}
set_option maxRecDepth 100000 in
set_option maxHeartbeats 8000000 in
theorem copy_calls (h : Base w bs b m V most total bad) (hV : V.length ≤ 1000000) (hl : ∀ x ∈ V, x.fl.bs.length ≤ 16777216) (hnm : ∀ x ∈ V, isNm x.fl.nm = true) :
    Calls Tryd.prog 10 #[.pointer (some ⟨b, 0, none⟩)] w fun e w' => ∃ b2, e = .returned (.pointer (some ⟨b2, 0, none⟩)) ∧
      ∃ bs2 m2 V2, V2.map En.fl = V.map En.fl ∧ Base w' bs2 b2 m2 V2 most total bad ∧ (∀ k, bs2 k → w.heap.size ≤ k ∧ k < w'.heap.size) ∧ Below w.heap.size w w' := by
  have c0 := (at_cell h.box 0 : _ = some _)
  have c1 := (at_cell h.box 1 : _ = some _)
  have c2 := (at_cell h.box 2 : _ = some _)
  have c3 := (at_cell h.box 3 : _ = some _)
  have hlt := h.lt
  have hmk : ∀ (W : World) (n : Nat), (Instr.makeMap 59 (some (.int .i64 n))).run Tryd.prog W = .ok (.map (some W.heap.size)) (W.alloc (.map #[] 0)) :=
    fun W n => rfl
  have hB := Lib.hid h
  obtain ⟨w1, hw1⟩ : ∃ w1, (w.alloc (.cells #[.map (some (w.heap.size + 1)), .int .i64 most, .int .i64 total, .int .i64 bad] 61 (0, 0))).alloc (.map #[] 0) = w1 := ⟨_, rfl⟩
  have z1 : w1.heap.size = w.heap.size + 2 := by rw [← hw1]; simp
  have b1 : Below w.heap.size w w1 := by rw [← hw1]; exact ((Below.refl _ _).alloc (Nat.le_refl _) _).alloc (by simp) _
  have n1 : w1.heap[w.heap.size]? = some (.cells #[.map (some (w.heap.size + 1)), .int .i64 most, .int .i64 total, .int .i64 bad] 61 (0, 0)) := by rw [← hw1]; exact at_old _ _ (at_new _ _)
  have k1 : KMap Tryd.prog 9 str w1 (w.heap.size + 1) (fun _ => none) 0 := by
    rw [← hw1]
    have := KMap.made (P := Tryd.prog) (k := 9) (kv := str) (w.alloc (.cells #[.map (some (w.heap.size + 1)), .int .i64 most, .int .i64 total, .int .i64 bad] 61 (0, 0)))
    rwa [show (w.alloc (.cells #[.map (some (w.heap.size + 1)), .int .i64 most, .int .i64 total, .int .i64 bad] 61 (0, 0))).heap.size = w.heap.size + 1 by simp] at this
  obtain ⟨D, hO, -, -, hD1, hD2⟩ := h.owns (by unfold maxLen; omega)
  have hO1 : w1.ownsMap Tryd.prog 9 hold m V.length D := by
    obtain ⟨es, clock, hb, r⟩ := hO
    exact ⟨es, clock, (b1.block m hlt.2).trans hb, r⟩
  have hO2 : ((w.alloc (.cells #[.map (some (w.heap.size + 1)), .int .i64 most, .int .i64 total, .int .i64 bad] 61 (0, 0))).alloc (.map #[] 0)).ownsMap Tryd.prog 9 hold m V.length D := by rw [hw1]; exact hO1
  have C1 : Hid (∀ w0, w1.grownBy w0 none → CpAt w1 w0 m (w.heap.size + 1) (w.heap.size + 2) V D (Maps.has D) (fun _ => .slice none 0 0)) := Lib.hid fun w0 hg => by
    refine ⟨⟨0, (k1.kept (hg.block _ (by omega) (by simp))).cong (fun a => ?_) rfl⟩, fun x hx hf => ?_, fun x hx _ _ _ hf => ?_, ⟨hg.os, hg.tape, hg.output, hg.size, fun i hi _ => hg.block i hi (by simp)⟩⟩
    · cases hlk : lk enm V a with
      | none => rfl
      | some x => simp [hD1, look, hlk]
    all_goals
      rw [hD1, look, (h.rise.lk).2 ⟨hx, rfl⟩] at hf
      cases hf
  have HL := Lib.hid hl
  have HN := Lib.hid hnm
  have HD := Lib.hid hD2
  have HB1 := Lib.hid b1
  have HZ := Lib.hid z1
  have HN1 := Lib.hid n1
  have hmlt := hlt.2
  have HW1 := Lib.hid hw1
  have HD1 := Lib.hid hD1
  clear h hl hnm hO hO1 hD1 hD2 b1 z1 n1 k1 hw1
  go_enter Tryd.func10, Tryd.ntmps10
  go_wp2_with (first
    | (go_at_call 27; refine (made_some _ _ _ c0).mono ?_; rintro e w' ⟨rfl, rfl⟩)
    | (at_len; refine wp_len rfl _ _ rfl _ _ Tryd.underlying59 m _ _ rfl (hB.out.map.kept (w' := _) (Below.heap_alloc _ _ _ hmlt)) ?_)
    | (at_range; refine wpList_range_own _ rfl _ 59 rfl 9 67 keyed Tryd.underlying59 hold m V.length D rfl hO2 ?_; intro w0 hrg0 hg0 hs0; replace hrg0 := Lib.hid hrg0; replace hg0 := Lib.hid hg0; replace hs0 := Lib.hid hs0))
  go_frame
  have hrg0' := hrg0.out
  rw [HW1.out, HZ.out] at hrg0'
  have hg1 : w1.grownBy w0 none := by have := hg0.out; rw [HW1.out] at this; exact this
  have C2 := Lib.hid (C1.out w0 hg1)
  have HR0 := Lib.hid hrg0'
  clear hrg0 hrg0' hg0 hs0 hg1 C1 hO2 hmk c0 c1 c2 c3
  rw [HW1.out, HZ.out]
  go_loopw [4, 5] (fun _ _ wr => ∃ left cnt F, wr.ranges Tryd.prog 9 hold m (w.heap.size + 2) V.length D left cnt ∧ CpAt w1 wr m (w.heap.size + 1) (w.heap.size + 2) V D left F) (fun _ _ wr => wr.rangeLeft m (w.heap.size + 2))
  case atStart => exact ⟨_, _, _, HR0.out, C2.out⟩
  case round =>
    rename World => wo
    obtain ⟨left, cnt, F, hrg, C⟩ := hrel
    have HR := Lib.hid hrg
    have HC := Lib.hid C
    clear hrg C
    go_wp2_with (at_next; refine wpList_next_ranges _ rfl _ rfl 9 keyed hold (Value.string) (fun v : Value => v) (fun key kl hkey => string_inv hkey) (fun v y hv => ⟨v, rfl⟩) m (w.heap.size + 2) V.length D left cnt rfl HR.out ?_ ?_)
    · intro hc0 hl0
      replace hl0 := Lib.hid hl0
      go_wp2_with fail
      go_ret
      exact ⟨_, rfl, cp_end HC.out hl0.out hB.out.rise HN1.out HB1.out HZ.out⟩
    · intro x c kl y1 y2 w2 cnt2 hkey hlf hv hat hrg2 hlt2 hg2 hs2 hen
      obtain rfl := key_of hkey (str_of x)
      cases hv
      have hlook := HD.out _ _ hat
      obtain ⟨e_, hlk, rfl⟩ : ∃ e, lk enm V x.data.toList = some e ∧ c = e.val := by
        unfold look at hlook
        cases hl : lk enm V x.data.toList with
        | none => rw [hl] at hlook; cases hlook
        | some e => rw [hl] at hlook; cases hlook; exact ⟨e, rfl, rfl⟩
      have heV := lk_some hlk
      have hBe := hB.out.rows e_ heV.1
      obtain ⟨p, n, c, hsl⟩ := hBe.form
      obtain ⟨S, hS⟩ : ∃ S, e_.fl.sure = S := ⟨_, rfl⟩
      have hname := name_max (a := x) (by rw [← heV.2]; exact HN.out e_ heV.1)
      simp only [En.val, hsl, hS] at hen ⊢
      have hC2 : Hid (CpAt w1 w2 m (w.heap.size + 1) (w.heap.size + 2) V D left F) := Lib.hid (HC.out.next hg2 (by omega))
      have q0 : w2.cell? ⟨w.heap.size, 0, none⟩ = some (.map (some (w.heap.size + 1))) := by
        have := hC2.out.below.at_ HN1.out (by omega)
        exact (at_cell this 0 : _ = some _)
      have hE := Lib.hid (show lk enm V x.data.toList = some e_ ∧ e_.sl = .slice p n c ∧ e_.fl.sure = S ∧ e_.fl.bs.length ≤ 16777216 from ⟨hlk, hsl, hS, HL.out e_ heV.1⟩)
      have hR2 := Lib.hid hrg2
      have hLF := Lib.hid (And.intro hlf hlt2)
      have hzz : Hid (w.heap.size + 2 < w2.heap.size) := Lib.hid (by have := hrg2.lt; exact this)
      have hBw : Hid (Bt w (.slice p n c) e_.fl.bs) := Lib.hid (by rw [← hsl]; exact hBe)
      clear hat hrg2 hg2 hs2 hlook hlk heV hBe hsl hS hlf hlt2
      go_wp2_with fail
      obtain ⟨W, hW⟩ : ∃ W, w2.alloc (.cells #[.slice p n c, .int .i64 S] 67 (0, 0)) = W := ⟨_, rfl⟩
      have bW : Hid (Below w2.heap.size w2 W) := Lib.hid (by rw [← hW]; exact (Below.refl _ _).alloc (Nat.le_refl _) _)
      have N3 : W.heap[w2.heap.size]? = some (.cells #[.slice p n c, .int .i64 S] 67 (0, 0)) := by rw [← hW]; exact at_new _ _
      have RW := Lib.hid (show W.ranges Tryd.prog 9 hold m (w.heap.size + 2) V.length D _ cnt2 by rw [← hW]; exact hR2.out.alloc _)
      rw [hW]
      have CW := Lib.hid (hC2.out.below_ bW.out)
      have d0 : W.cell? ⟨w2.heap.size, 0, none⟩ = some (.slice p n c) := (at_cell N3 0 : _ = some _)
      have d1 : W.cell? ⟨w2.heap.size, 1, none⟩ = some (.int .i64 (S : Int)) := (at_cell N3 1 : _ = some _)
      have q1 : W.cell? ⟨w.heap.size, 0, none⟩ = some (.map (some (w.heap.size + 1))) := (bW.out.cell (World.block_lt_of_cell? _ _ q0)).trans q0
      have hlt1 : w2.heap.size < W.heap.size := at_lt N3
      have hlt2 : w.heap.size < W.heap.size := World.block_lt_of_cell? _ _ q1
      have hCl : Hid (∀ W', W'.heap = W.heap → Calls Tryd.prog 28 #[.slice p n c] W' fun e w' => ∃ v, e = .returned v ∧ Bt w' v e_.fl.bs ∧ Below W'.heap.size W' w' ∧ ∀ g, v.ownBlock = some g → W'.heap.size ≤ g) := Lib.hid fun W' hh => clone_calls (hBw.out.kept fun g hg => by
          rw [hh]
          have := hBw.out.lt hg
          have h1 := HZ.out
          exact (CW.out.below.block g (by omega) (by omega)).trans (HB1.out.block g (by omega))) hE.out.2.2.2
      obtain ⟨nm2, hKM⟩ := CW.out.map2
      have hlt3 : w.heap.size + 1 < W.heap.size := hKM.lt
      replace hKM := Lib.hid hKM
      clear hW q0 N3
      generalize hNN : w2.heap.size = N at *
      have hNm : ¬ N = w.heap.size + 1 := by have := hzz.out; omega
      have hNm2 : ¬ w.heap.size = w.heap.size + 1 := by omega
      go_region_held3 (fun w' => w'.cell? ⟨N, 0, none⟩ = some (.slice p n c) ∧ w'.cell? ⟨N, 1, none⟩ = some (.int .i64 (S : Int)) ∧ w'.cell? ⟨w.heap.size, 0, none⟩ = some (.map (some (w.heap.size + 1))))
        (first
          | exact ⟨(b5.cell hlt1).trans d0, (b5.cell hlt1).trans d1, (b5.cell hlt2).trans q1⟩
          | exact ⟨(O6.cell (Nat.lt_of_lt_of_le hlt1 b5.size) hNm).trans ((b5.cell hlt1).trans d0), (O6.cell (Nat.lt_of_lt_of_le hlt1 b5.size) hNm).trans ((b5.cell hlt1).trans d1), (O6.cell (Nat.lt_of_lt_of_le hlt2 b5.size) hNm2).trans ((b5.cell hlt2).trans q1)⟩
          | go_keep)
        (first
          | (go_at_call 28; refine (hCl.out _ (by rfl)).mono ?_; rintro e w5 ⟨v5, rfl, R5, b5, l5⟩; obtain ⟨p5, n5, c5, rfl⟩ := R5.form; replace R5 := Lib.hid R5; replace l5 := Lib.hid l5; obtain ⟨w6, hst, K6, O6⟩ := (hKM.out.kept (b5.block _ hlt3)).store keyed Tryd.underlying59 (a := x.data.toList) (str_key hname) (str_inj _) (.agg #[.slice p5 n5 c5, .int .i64 (S : Int)]); rw [← str_of x] at hst; replace K6 := Lib.hid K6))
      have hG : W.grownBy w6 (some (w.heap.size + 1)) := ⟨O6.os.trans b5.os, O6.tape.trans b5.tape, O6.output.trans b5.output, Nat.le_trans b5.size O6.size, fun i hi hne => (O6.block i (Nat.lt_of_lt_of_le hi b5.size) (fun e => hne (by rw [e]))).trans (b5.block i hi)⟩
      have hR6 := Lib.hid (RW.out.kept hG (by simp; omega) (by simp))
      have hC6 := Lib.hid (cp_step CW.out hB.out.rise hE.out.1 hE.out.2.2.1 hLF.out.1 b5 R5.out l5.out K6.out O6 (by have := hzz.out; omega) (by omega))
      clear hst O6 b5 d0 d1 q1
      go_wp2_with fail
      go_roundw
      case rel => exact ⟨_, _, _, hR6.out, hC6.out⟩
      case measure => rw [hR6.out.left_eq, HR.out.left_eq]; exact hLF.out.2
end
end Go.Proofs.YtejhggjehmioaaaDoor.Sto

/-
  Layer 11 (store): drop, Append, Sync where they go on.
-/
import Derived.Test.YtememmgnhnldaaaDoorStoGet
import Derived.StillTailTactics
import Derived.Maps.OwnSet
import Derived.Maps.OwnOps
namespace Go.Proofs.YtememmgnhnldaaaDoor.Sto
open Go.RowKit Go.Proofs.YtememmgnhnldaaaDoor.Own Go.Proofs.YtememmgnhnldaaaDoor.KM Go.Proofs.YtememmgnhnldaaaDoor.Flt
open Go.Proofs.YtememmgnhnldaaaDoor.Rw (str)

section
variable {w : World} {bs : Nat → Prop} {b m : Nat} {V : List En} {most total bad : Int}

set_option maxRecDepth 100000 in
set_option maxHeartbeats 1000000 in
theorem drop_calls (h : Base w bs b m V most total bad) (s : ByteArray) (hs : s.size ≤ maxLen) (h1 : (got (V.map En.fl) s.data.toList).bs.length ≤ total) (h2 : total ≤ 16777216) :
    Calls Tryd.prog 37 #[.pointer (some ⟨b, 0, none⟩), .string s] w fun e w' =>
      e = .returned (.tuple #[]) ∧ Base w' bs b m (wo enm V s.data.toList) most (total - (got (V.map En.fl) s.data.toList).bs.length) bad ∧ Out (fun k => k = b ∨ k = m) w w' := by
  have c0 := (at_cell h.box 0 : _ = some _)
  have c2 := (at_cell h.box 2 : _ = some _)
  have f2 := at_frozen h.box 2
  have hl := (h.kept (w' := w.drew) (fun _ _ _ => rfl)).look_ s hs
  obtain ⟨r1, _⟩ := h.got_ s.data.toList
  rw [← gotE_fl] at h1 ⊢
  obtain ⟨x, hx⟩ : ∃ x, gotE V s.data.toList = x := ⟨_, rfl⟩
  rw [hx] at r1 hl h1 ⊢
  clear hx
  obtain ⟨p, c, hsl, -⟩ := r1.shape
  obtain ⟨n, hn⟩ : ∃ n, x.fl.bs.length = n := ⟨_, rfl⟩
  rw [hn] at h1 hsl ⊢
  rw [En.val, hsl] at hl
  have hf : ∀ W : World, (Instr.field 57 (.agg #[.slice p n c, .int .i64 x.fl.sure]) 0).run Tryd.prog W = .ok (.slice p n c) W := fun W => rfl
  have hB := Lib.hid h
  have hB2 := Lib.hid (h.total_ (total - n))
  have d0 := (at_cell hB2.out.box 0 : _ = some _)
  clear h r1 hn
  go_enter Tryd.func37, Tryd.ntmps37
  go_wp2_with fail
  go_still_tail 15, (by kernel_rfl)
  change wpList _ _ _ _ _ w.drew
  go_wp2_with (at_delete; refine wp_drop rfl _ _ _ _ rfl _ keyed Tryd.underlying59 m _ _ rfl (hB2.out.map.kept (w' := _) rfl) s.data.toList rfl (str_key hs) (str_inj _) ?_; intro w2 K2 O2)
  go_end0
  refine ⟨rfl, hB2.out.del_ s.data.toList K2 ⟨O2.os, O2.tape, O2.output, O2.size, O2.block⟩, ?_⟩
  exact ((Out.refl (fun k => k = b ∨ k = m) w).setCell (p := ⟨b, 2, none⟩) (fun _ => .inl rfl) (.int .i64 (total - n))).trans (S' := fun k => k = m) ⟨O2.os, O2.tape, O2.output, O2.size, O2.block⟩ (fun i _ hi => .inr hi)
/-- what an entry's row leaves alone -/
theorem Base.others (h : Base w bs b m V most total bad) (a : Bs) {w2 : World} (ho : Out (fun k => (gotE V a).sl.ownBlock = some k) w w2) : w2.heap[b]? = w.heap[b]? ∧ w2.heap[m]? = w.heap[m]? ∧ ∀ y ∈ V, enm y ≠ a → ∀ g, y.sl.ownBlock = some g → w2.heap[g]? = w.heap[g]? := by
  have hg := (h.got_ a).2
  refine ⟨ho.block b h.lt.1 fun e => (hg b e).2.1 rfl, ho.block m h.lt.2 fun e => (hg m e).2.2.1 rfl, fun y hy hne g hyg => ho.block g ((h.rows y hy).lt hyg) fun e => ?_⟩
  have hx := (hg g e).2.2.2
  have hne' : gotE V a ≠ y := fun e1 => by
    cases hl : lk enm V a with
    | none => rw [gotE_none hl] at e; cases e
    | some z => rw [gotE_some hl] at e1; exact hne (e1 ▸ (lk_some hl).2)
  exact apart_mem h.apart hx hy hne' g e hyg

theorem Bt.form {sl : Value} {l : Bs} (h : Bt w sl l) : ∃ p n c, sl = .slice p n c := by
  obtain ⟨p, c, e, _⟩ := h.shape
  exact ⟨p, _, c, e⟩
/-- between the look-up and the store in Append -/
theorem app_mid {W w2 w3 : World} {a l : Bs} {x : En} {sl v2 : Value} {S : Int} (h : Base W bs b m V most total bad) (hx : gotE V a = x) (hsl : x.sl = sl)
    (O2 : Out (fun k => sl.ownBlock = some k) (W.alloc (.cells #[sl, .int .i64 S] 57 (0, 0))) w2) (O3 : Out (fun k => k = W.heap.size) w2 w3) (R2 : Bt w2 v2 l)
    (L2 : v2.ownBlock = sl.ownBlock ∨ ∃ g, v2.ownBlock = some g ∧ (W.alloc (.cells #[sl, .int .i64 S] 57 (0, 0))).heap.size ≤ g) :
    w3.heap[b]? = W.heap[b]? ∧ w3.heap[m]? = W.heap[m]? ∧ (∀ y ∈ V, enm y ≠ a → ∀ g, y.sl.ownBlock = some g → w3.heap[g]? = W.heap[g]?) ∧ Bt w3 v2 l ∧ (∀ y ∈ V, enm y ≠ a → Ap v2 y.sl) ∧
      W.heap.size < w2.heap.size ∧ ∀ g, v2.ownBlock = some g → g ≠ b ∧ g ≠ m := by
  have B1 := h.kept (w' := W.alloc (.cells #[sl, .int .i64 S] 57 (0, 0))) fun k hk hl => Below.heap_alloc _ _ _ hl
  obtain ⟨s1, s2, s3⟩ := B1.others a (w2 := w2) (by rw [hx, hsl]; exact O2)
  have hsz := O2.size
  simp at hsz
  have hl := h.lt
  have old : ∀ k, k < W.heap.size → w3.heap[k]? = w2.heap[k]? := fun k hk => O3.block k (by omega) (by omega)
  obtain ⟨r1, r2⟩ := h.got_ a
  rw [hx, hsl] at r1 r2
  refine ⟨(old b hl.1).trans (s1.trans (Below.heap_alloc _ _ _ hl.1)), (old m hl.2).trans (s2.trans (Below.heap_alloc _ _ _ hl.2)), fun y hy hne g hg => ?_, R2.kept fun g hg => ?_, fun y hy hne g hg hyg => ?_, by omega, fun g hg => ?_⟩
  · have hgl := (h.rows y hy).lt hg
    exact (old g hgl).trans ((s3 y hy hne g hg).trans (Below.heap_alloc _ _ _ hgl))
  · refine O3.block g (R2.lt hg) fun e => ?_
    rcases L2 with e1 | ⟨g', e1, e2⟩
    · rw [e1] at hg; have := r1.lt hg; omega
    · rw [e1] at hg; cases hg; simp at e2; omega
  · have hgl := (h.rows y hy).lt hyg
    rcases L2 with e1 | ⟨g', e1, e2⟩
    · rw [e1] at hg
      have hxV := (r2 g hg).2.2.2
      have hne' : x ≠ y := fun e2 => by
        cases hl : lk enm V a with
        | none => rw [gotE_none hl] at hx; rw [← hsl, ← hx] at hg; cases hg
        | some z => rw [gotE_some hl] at hx; exact hne (by rw [← e2, ← hx]; exact (lk_some hl).2)
      exact apart_mem h.apart hxV hy hne' g (by rw [hsl]; exact hg) hyg
    · rw [e1] at hg; cases hg; simp at e2; omega
  · rcases L2 with e1 | ⟨g', e1, e2⟩
    · rw [e1] at hg; exact ⟨(r2 g hg).2.1, (r2 g hg).2.2.1⟩
    · rw [e1] at hg; cases hg; simp at e2; constructor <;> omega
theorem app_fin {w0 W w2 w3 w4 : World} {V' : List En} {sl v2 : Value} {S : Int} {l : Bs} {P : Nat → Prop} {total' : Int} (B4 : Base w4 (fun k => bs k ∨ v2.ownBlock = some k) b m V' most total bad) (O1 : Out (fun _ => False) w0 W)
    (O2 : Out (fun k => sl.ownBlock = some k) (W.alloc (.cells #[sl, .int .i64 S] 57 (0, 0))) w2) (O3 : Out (fun k => k = W.heap.size) w2 w3) (O4 : Out (fun k => k = m) w3 w4)
    (L2 : v2.ownBlock = sl.ownBlock ∨ ∃ g, v2.ownBlock = some g ∧ (W.alloc (.cells #[sl, .int .i64 S] 57 (0, 0))).heap.size ≤ g) (hr : Bt w3 v2 l)
    (hbm : bs b ∧ bs m) (r4 : ∀ g, sl.ownBlock = some g → bs g ∧ P g) (hall : ∀ k, bs k → k < W.heap.size) : Leaves w0 bs (w4.setCell ⟨b, 2, none⟩ (.int .i64 total')) b m V' most total' bad := by
  have z1 := O1.size
  have z2 := O2.size
  have z3 := O3.size
  have z4 := O4.size
  simp at z2
  refine ⟨_, B4.total_ _, ?_, fun k hk => ?_, fun k hk => ?_⟩
  · have o1 : Out bs w0 (W.alloc (.cells #[sl, .int .i64 S] 57 (0, 0))) := (O1.mono fun i _ h => h.elim).alloc _
    have o2 := o1.trans O2 fun i _ hi => (r4 i hi).1
    have o3 := o2.trans O3 fun i hi e => by subst e; omega
    have o4 := o3.trans O4 fun i _ e => by subst e; exact hbm.2
    exact o4.setCell (p := ⟨b, 2, none⟩) (fun _ => hbm.1) _
  · rcases hk with hk | hk
    · exact .inl hk
    · rcases L2 with e1 | ⟨g', e1, e2⟩
      · rw [e1] at hk; exact .inl (r4 k hk).1
      · rw [e1] at hk; cases hk; simp at e2; right; omega
  · have z5 := ((Out.refl (fun k => k = b) w4).setCell (p := ⟨b, 2, none⟩) (fun _ => rfl) (.int .i64 total')).size
    rcases hk with hk | hk
    · have := hall k hk; omega
    · have := hr.lt hk; omega

set_option maxRecDepth 100000 in
set_option maxHeartbeats 4000000 in
theorem app_ok (h : Base w bs b m V most total bad) (hall : ∀ k, bs k → k < w.heap.size) (a s : ByteArray) (hn : isNm a.data.toList = true) (hb : ¬ 0 < bad) (ht0 : 0 ≤ total) (hm : most ≤ 16777216) (hf : total + s.size ≤ most)
    (hl : (got (V.map En.fl) a.data.toList).bs.length ≤ total) :
    Calls Tryd.prog 15 #[.pointer (some ⟨b, 0, none⟩), .string a, .string s] w fun e w' => e = .returned .nilIface ∧
      ∃ sl, Leaves w bs w' b m (pt enm V ⟨⟨a.data.toList, (got (V.map En.fl) a.data.toList).bs ++ s.data.toList, (got (V.map En.fl) a.data.toList).sure⟩, sl⟩) most (total + s.size) bad := by
  have ha : a.size ≤ maxLen := by have := (isNm_len hn).2; rw [size_list] at this; unfold maxLen; omega
  have c1 := (at_cell h.box 1 : _ = some _)
  have c2 := (at_cell h.box 2 : _ = some _)
  have hB := Lib.hid h
  have hBeg := Lib.hid (begin_ok a h.box hn hb)
  have hs : s.size ≤ 16777216 := by omega
  rw [← gotE_fl] at hl ⊢
  obtain ⟨x, hx⟩ : ∃ x, gotE V a.data.toList = x := ⟨_, rfl⟩
  rw [hx] at hl ⊢
  obtain ⟨S, hS⟩ : ∃ S, x.fl.sure = S := ⟨_, rfl⟩
  obtain ⟨sl, hsl⟩ : ∃ sl, x.sl = sl := ⟨_, rfl⟩
  obtain ⟨old, hold⟩ : ∃ old, x.fl.bs = old := ⟨_, rfl⟩
  rw [hold] at hl
  rw [hold, hS]
  have HX := Lib.hid (show gotE V a.data.toList = x ∧ x.fl.sure = S ∧ x.fl.bs = old ∧ x.sl = sl from ⟨hx, hS, hold, hsl⟩)
  obtain ⟨p1, n1, c1', rfl⟩ : ∃ p n c, sl = .slice p n c := by
    have := (hB.out.got_ a.data.toList).1
    rw [hx, hsl] at this
    exact this.form
  clear hx hS hsl hold
  have q1 : ¬ most < total + s.size := by omega
  clear h hb
  go_enter Tryd.func15, Tryd.ntmps15
  go_wp2_with (go_at_call 31; refine hBeg.out.mono ?_; rintro e w' ⟨rfl, rfl⟩)
  go_quiet (fail)
  have B1 := Lib.hid (hB.out.kept (w' := w.drewN nq) (fun _ _ _ => rfl))
  have O1 : Out (fun _ => False) w (w.drewN nq) := ⟨rfl, rfl, rfl, Nat.le_refl _, fun _ _ _ => rfl⟩
  have hall1 : Hid (∀ k, bs k → k < (w.drewN nq).heap.size) := Lib.hid hall
  clear c1 c2 hBeg hB hall
  generalize w.drewN nq = W at B1 O1 hall1 ⊢
  replace O1 := Lib.hid O1
  have B2' := B1.out
  have c0 := (at_cell B2'.box 0 : _ = some _)
  have hlk := B2'.look_ a ha
  obtain ⟨r1, r3⟩ := B2'.got_ a.data.toList
  rw [HX.out.1] at hlk r1 r3
  rw [En.val, HX.out.2.1, HX.out.2.2.2] at hlk
  rw [HX.out.2.2.1, HX.out.2.2.2] at r1
  rw [HX.out.2.2.2] at r3
  have r2 : Hid (Bt (W.alloc (.cells #[.slice p1 n1 c1', .int .i64 S] 57 (0, 0))) (.slice p1 n1 c1') old) := Lib.hid (r1.kept fun g hg => Below.heap_alloc _ _ _ (r1.lt hg))
  have hne : Hid (¬ (Value.slice p1 n1 c1').ownBlock = some W.heap.size) := Lib.hid fun e => by have := r1.lt e; omega
  have hx2 : Hid (gotE V a.data.toList = x ∧ x.sl = .slice p1 n1 c1') := Lib.hid ⟨HX.out.1, HX.out.2.2.2⟩
  have r4 := Lib.hid r3
  have hol : old.length ≤ 16777216 := by omega
  clear B2' r1 r3
  go_wp2_with (at_builtin; refine wp_text rfl _ _ rfl (.slice p1 n1 c1') old rfl r2.out s rfl hol hs ?_; intro v2 w2 R2 O2 L2; have N2 := O2.at_ (at_new W (.cells #[.slice p1 n1 c1', .int .i64 S] 57 (0, 0))) hne.out; obtain ⟨p2, n2, c2', rfl⟩ := R2.form; have n0 := (at_cell N2 0 : _ = some _); have n1 := (at_cell N2 1 : _ = some _); have nf := at_frozen N2 0; replace R2 := Lib.hid R2; replace O2 := Lib.hid O2; replace L2 := Lib.hid L2; replace N2 := Lib.hid N2)
  have N3 : (w2.setCell ⟨W.heap.size, 0, none⟩ (.slice p2 n2 c2')).heap[W.heap.size]? = some (.cells #[.slice p2 n2 c2', .int .i64 S] 57 (0, 0)) := by have := at_set N2.out 0 (.slice p2 n2 c2'); simpa using this
  have O3 : Hid (Out (fun k => k = W.heap.size) w2 (w2.setCell ⟨W.heap.size, 0, none⟩ (.slice p2 n2 c2'))) := Lib.hid ((Out.refl (fun k => k = W.heap.size) w2).setCell (p := ⟨W.heap.size, 0, none⟩) (fun _ => rfl) (.slice p2 n2 c2'))
  clear n0 n1 nf c0 hlk
  generalize w2.setCell ⟨W.heap.size, 0, none⟩ (.slice p2 n2 c2') = w3 at N3 O3 ⊢
  obtain ⟨hb3, hm3, ho3, hr3, hol3, hms3, hbb3⟩ := app_mid B1.out hx2.out.1 hx2.out.2 O2.out O3.out R2.out L2.out
  have n0 := (at_cell N3 0 : _ = some _)
  have n1 := (at_cell N3 1 : _ = some _)
  have c0 := (at_cell (hb3.trans B1.out.box) 0 : _ = some _)
  have hK3 := Lib.hid (B1.out.map.kept hm3)
  go_still_tail 6, (by kernel_rfl)
  change wpList _ _ _ _ _ w3.drew
  refine wp_store rfl _ _ _ _ rfl _ _ keyed Tryd.underlying59 m _ _ rfl (hK3.out.kept (w' := w3.drew) rfl) a.data.toList rfl (.agg #[.slice p2 n2 c2', .int .i64 S]) rfl (str_key ha) (str_inj _) ?_
  intro w4 K4 O4
  have O4' : Out (fun k => k = m) w3 w4 := O4.ofDrew
  have B4 := (B1.out.more (bs' := fun k => bs k ∨ (Value.slice p2 n2 c2').ownBlock = some k) (fun k hk => .inl hk)).put_ ⟨⟨a.data.toList, old ++ s.data.toList, S⟩, .slice p2 n2 c2'⟩ (w2 := w3) hb3 ho3 K4 O4' hr3 hol3 (fun g hg => ⟨.inr hg, hbb3 g hg⟩)
  have g2 := (at_cell B4.box 2 : _ = some _)
  have gf := at_frozen B4.box 2
  have HF := Lib.hid (app_fin (total' := total + s.size) B4 O1.out O2.out O3.out O4' L2.out hr3 ⟨B1.out.bb, B1.out.bm⟩ r4.out hall1.out)
  clear n0 n1 c0 hK3 K4 O4 B4 hb3 hm3 ho3 hr3 hol3 N3 hms3 hbb3
  go_wp2_with fail
  go_ret
  exact ⟨rfl, _, HF.out⟩
end
end Go.Proofs.YtememmgnhnldaaaDoor.Sto

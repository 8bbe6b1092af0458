/-
  Layer 11 (store): Append that is full; Sync, Remove, Rename behind what is told ahead of each.
-/
import Derived.Test.YtememmgnhnldaaaDoorStoPut
namespace Go.Proofs.YtememmgnhnldaaaDoor.Sto
open Go.RowKit Go.Proofs.YtememmgnhnldaaaDoor.Own Go.Proofs.YtememmgnhnldaaaDoor.KM Go.Proofs.YtememmgnhnldaaaDoor.Flt
open Go.Proofs.YtememmgnhnldaaaDoor.Rw (str)

theorem name_max {a : ByteArray} (hn : isNm a.data.toList = true) : a.size ≤ maxLen := by have := (isNm_len hn).2; rw [size_list] at this; unfold maxLen; omega
theorem pt_wo {α : Type} {nm : α → Bs} (L : List α) (x : α) : pt nm (wo nm L (nm x)) x = pt nm L x := by
  have : wo nm (wo nm L (nm x)) (nm x) = wo nm L (nm x) := by unfold wo; rw [List.filter_filter]; simp
  unfold pt
  rw [this]

section
variable {w : World} {bs : Nat → Prop} {b m : Nat} {V : List En} {most total bad : Int}

set_option maxRecDepth 100000 in
set_option maxHeartbeats 1000000 in
theorem app_full (h : Base w bs b m V most total bad) (a s : ByteArray) (hn : isNm a.data.toList = true) (hb : ¬ 0 < bad) (ht0 : 0 ≤ total) (ht1 : total ≤ 16777216) (hs : s.size ≤ 4611686018427387904) (hf : most < total + s.size) :
    Calls Tryd.prog 15 #[.pointer (some ⟨b, 0, none⟩), .string a, .string s] w fun e w' => ∃ q, e = .returned (errv w) ∧ w' = (w.drewN q).alloc (fblk 6) := by
  have c1 := (at_cell h.box 1 : _ = some _)
  have c2 := (at_cell h.box 2 : _ = some _)
  have hBeg := Lib.hid (begin_ok a h.box hn hb)
  clear h hb
  go_enter Tryd.func15, Tryd.ntmps15
  go_wp2_with (go_at_call 31; refine hBeg.out.mono ?_; rintro e w' ⟨rfl, rfl⟩)
  go_quiet (fail)
  go_wp2_with (go_at_call 30; refine (wrong_calls 6 (by decide) _).mono ?_; rintro e w' ⟨rfl, rfl⟩)
  go_ret
  exact ⟨nq, rfl, rfl⟩

/-- a name that is looked for and not there -/
def Gone (w : World) (e : Ending) (w' : World) : Prop := ∃ o, e = .returned (errv (w.alloc o)) ∧ w' = (w.alloc o).alloc (fblk 7)
theorem Gone.of {w : World} {o : Obj} {v : Value} (h : v = errv (w.alloc o)) : Gone w (.returned v) ((w.alloc o).alloc (fblk 7)) := ⟨o, by rw [h], rfl⟩

theorem lk_gone (h : Base w bs b m V most total bad) {a : ByteArray} (hn : isNm a.data.toList = true) (hl : flk (V.map En.fl) a.data.toList = none) :
    (Instr.lookup 59 (.map (some m)) (.string a) true).run Tryd.prog w = .ok (.tuple #[.agg #[.slice none 0 0, .int .i64 0], .bool false]) w := by
  have := h.look_ok a (name_max hn)
  rw [hl] at this
  have e : lk enm V a.data.toList = none := by
    have := lk_fl V a.data.toList
    rw [hl] at this
    cases h2 : lk enm V a.data.toList with
    | none => rfl
    | some x => rw [h2] at this; cases this
  rw [gotE_none e] at this
  exact this
set_option maxRecDepth 100000 in
set_option maxHeartbeats 1000000 in
theorem syn_gone (h : Base w bs b m V most total bad) (a : ByteArray) (hn : isNm a.data.toList = true) (hb : ¬ 0 < bad) (hl : flk (V.map En.fl) a.data.toList = none) :
    Calls Tryd.prog 17 #[.pointer (some ⟨b, 0, none⟩), .string a] w (Gone w) := by
  have c0 := (at_cell h.box 0 : _ = some _)
  have hlk := lk_gone h hn hl
  have hBeg := Lib.hid (begin_ok a h.box hn hb)
  clear h hb hl
  go_enter Tryd.func17, Tryd.ntmps17
  go_wp2_with (first
    | (go_at_call 31; refine hBeg.out.mono ?_; rintro e w' ⟨rfl, rfl⟩)
    | (go_at_call 30; refine (wrong_calls 7 (by decide) _).mono ?_; rintro e w' ⟨rfl, rfl⟩))
  go_ret
  exact .of (by simp [errv])
set_option maxRecDepth 100000 in
set_option maxHeartbeats 1000000 in
theorem rem_gone (h : Base w bs b m V most total bad) (a : ByteArray) (hn : isNm a.data.toList = true) (hb : ¬ 0 < bad) (hl : flk (V.map En.fl) a.data.toList = none) :
    Calls Tryd.prog 25 #[.pointer (some ⟨b, 0, none⟩), .string a] w (Gone w) := by
  have c0 := (at_cell h.box 0 : _ = some _)
  have hlk := lk_gone h hn hl
  have hBeg := Lib.hid (begin_ok a h.box hn hb)
  clear h hb hl
  go_enter Tryd.func25, Tryd.ntmps25
  go_wp2_with (first
    | (go_at_call 31; refine hBeg.out.mono ?_; rintro e w' ⟨rfl, rfl⟩)
    | (go_at_call 30; refine (wrong_calls 7 (by decide) _).mono ?_; rintro e w' ⟨rfl, rfl⟩))
  go_ret
  exact .of (by simp [errv])
set_option maxRecDepth 100000 in
set_option maxHeartbeats 1000000 in
theorem ren_gone (h : Base w bs b m V most total bad) (a c : ByteArray) (hn : isNm a.data.toList = true) (hc : isNm c.data.toList = true) (hb : ¬ 0 < bad) (hl : flk (V.map En.fl) a.data.toList = none) :
    Calls Tryd.prog 26 #[.pointer (some ⟨b, 0, none⟩), .string a, .string c] w (Gone w) := by
  have c0 := (at_cell h.box 0 : _ = some _)
  have hlk := lk_gone h hn hl
  have hBeg := Lib.hid (begin_ok a h.box hn hb)
  clear h hb hl
  go_enter Tryd.func26, Tryd.ntmps26
  go_wp2_with (first
    | (go_at_call 31; refine hBeg.out.mono ?_; rintro e w' ⟨rfl, rfl⟩)
    | (go_at_call 38; refine (named_calls _ _).mono ?_; rw [hc]; rintro e w' ⟨rfl, rfl⟩)
    | (go_at_call 30; refine (wrong_calls 7 (by decide) _).mono ?_; rintro e w' ⟨rfl, rfl⟩))
  go_ret
  exact .of (by simp [errv])
set_option maxRecDepth 100000 in
set_option maxHeartbeats 1000000 in
theorem ren_to (h : Base w bs b m V most total bad) (a c : ByteArray) (hn : isNm a.data.toList = true) (hc : isNm c.data.toList = false) (hb : ¬ 0 < bad) :
    Calls Tryd.prog 26 #[.pointer (some ⟨b, 0, none⟩), .string a, .string c] w fun e w' => e = .returned (errv w) ∧ w' = w.alloc (fblk 1) := by
  have hBeg := Lib.hid (begin_ok a h.box hn hb)
  clear h hb
  go_enter Tryd.func26, Tryd.ntmps26
  go_wp2_with (first
    | (go_at_call 31; refine hBeg.out.mono ?_; rintro e w' ⟨rfl, rfl⟩)
    | (go_at_call 38; refine (named_calls _ _).mono ?_; rw [hc]; rintro e w' ⟨rfl, rfl⟩)
    | (go_at_call 30; refine (wrong_calls 1 (by decide) _).mono ?_; rintro e w' ⟨rfl, rfl⟩))
  go_ret
  exact ⟨rfl, rfl⟩

/-- a look-up that finds -/
theorem lk_there (h : Base w bs b m V most total bad) {a : ByteArray} (hn : isNm a.data.toList = true) (hl : (flk (V.map En.fl) a.data.toList).isSome = true) :
    ∃ p n c S, gotE V a.data.toList ∈ V ∧ enm (gotE V a.data.toList) = a.data.toList ∧ (gotE V a.data.toList).sl = .slice p n c ∧ (gotE V a.data.toList).fl.sure = S ∧ (gotE V a.data.toList).fl.bs.length = n ∧
      ∀ W : World, W.heap[m]? = w.heap[m]? → (Instr.lookup 59 (.map (some m)) (.string a) true).run Tryd.prog W = .ok (.tuple #[.agg #[.slice p n c, .int .i64 (S : Nat)], .bool true]) W := by
  rw [← lk_is] at hl
  obtain ⟨x, hx⟩ := Option.isSome_iff_exists.1 hl
  have e := gotE_some hx
  obtain ⟨p, c, hs, -⟩ := (h.got_ a.data.toList).1.shape
  refine ⟨p, _, c, _, by rw [e]; exact (lk_some hx).1, by rw [e]; exact (lk_some hx).2, hs, rfl, rfl, fun W hW => ?_⟩
  have := (h.map.kept hW).look true keyed Tryd.underlying59 (zeroFile W) (a := a.data.toList) (str_key (name_max hn)) (str_inj _)
  rw [look_getD, look_some, hl, En.val, hs] at this
  exact this

set_option maxRecDepth 100000 in
set_option maxHeartbeats 1000000 in
theorem rem_ok (h : Base w bs b m V most total bad) (hall : ∀ k, bs k → k < w.heap.size) (a : ByteArray) (hn : isNm a.data.toList = true) (hb : ¬ 0 < bad) (hl : (flk (V.map En.fl) a.data.toList).isSome = true)
    (h1 : (got (V.map En.fl) a.data.toList).bs.length ≤ total) (h2 : total ≤ 16777216) :
    Calls Tryd.prog 25 #[.pointer (some ⟨b, 0, none⟩), .string a] w fun e w' => e = .returned .nilIface ∧ Leaves w bs w' b m (wo enm V a.data.toList) most (total - (got (V.map En.fl) a.data.toList).bs.length) bad := by
  have c0 := (at_cell h.box 0 : _ = some _)
  obtain ⟨p, n, c, S, -, -, -, -, -, hlk⟩ := lk_there h hn hl
  replace hlk := hlk w rfl
  have hBeg := Lib.hid (begin_ok a h.box hn hb)
  have hD := Lib.hid (drop_calls (h.kept (w' := w.alloc (.cells #[.slice p n c, .int .i64 S] 57 (0, 0))) fun k _ hl => Below.heap_alloc _ _ _ hl) a (name_max hn) h1 h2)
  have hbm := Lib.hid (And.intro h.bb h.bm)
  have hA := Lib.hid hall
  clear h hb hl h1 h2 hall
  go_enter Tryd.func25, Tryd.ntmps25
  go_wp2_with (first
    | (go_at_call 31; refine hBeg.out.mono ?_; rintro e w' ⟨rfl, rfl⟩)
    | (go_at_call 37; refine hD.out.mono ?_; rintro e w2 ⟨rfl, B2, O2⟩; replace B2 := Lib.hid B2; replace O2 := Lib.hid O2))
  go_ret
  have z := O2.out.size
  simp at z
  refine ⟨rfl, _, B2.out, ?_, fun k hk => .inl hk, fun k hk => by have := hA.out k hk; omega⟩
  exact ((Out.refl bs w).alloc _).trans O2.out fun i _ hi => by rcases hi with rfl | rfl; exact hbm.out.1; exact hbm.out.2
set_option maxRecDepth 100000 in
set_option maxHeartbeats 4000000 in
theorem syn_ok (h : Base w bs b m V most total bad) (hall : ∀ k, bs k → k < w.heap.size) (a : ByteArray) (hn : isNm a.data.toList = true) (hb : ¬ 0 < bad) (hl : (flk (V.map En.fl) a.data.toList).isSome = true) :
    Calls Tryd.prog 17 #[.pointer (some ⟨b, 0, none⟩), .string a] w fun e w' => e = .returned .nilIface ∧
      ∃ sl, Leaves w bs w' b m (pt enm V ⟨⟨a.data.toList, (got (V.map En.fl) a.data.toList).bs, (got (V.map En.fl) a.data.toList).bs.length⟩, sl⟩) most total bad := by
  have c0 := (at_cell h.box 0 : _ = some _)
  obtain ⟨p, n, c, S, hxV, hnm, hsl, hS, hlen, hlk⟩ := lk_there h hn hl
  replace hlk := hlk w rfl
  have hBeg := Lib.hid (begin_ok a h.box hn hb)
  have hB := Lib.hid h
  have hA := Lib.hid hall
  have ha := name_max hn
  have HX := Lib.hid (show gotE V a.data.toList ∈ V ∧ enm (gotE V a.data.toList) = a.data.toList ∧ (gotE V a.data.toList).sl = .slice p n c ∧ (gotE V a.data.toList).fl.bs.length = n from ⟨hxV, hnm, hsl, hlen⟩)
  rw [← gotE_fl]
  clear h hb hl hall hxV hnm hsl hS hlen
  go_enter Tryd.func17, Tryd.ntmps17
  go_wp2_with (go_at_call 31; refine hBeg.out.mono ?_; rintro e w' ⟨rfl, rfl⟩)
  obtain ⟨W, hW⟩ : ∃ W, w.alloc (.cells #[.slice p n c, .int .i64 n] 57 (0, 0)) = W := ⟨_, rfl⟩
  have N3 : W.heap[w.heap.size]? = some (.cells #[.slice p n c, .int .i64 n] 57 (0, 0)) := by rw [← hW]; exact at_new _ _
  have O3 : Hid (Out (fun _ => False) w W) := Lib.hid (by rw [← hW]; exact (Out.refl _ w).alloc _)
  rw [hW]
  have B3 := Lib.hid (hB.out.out O3.out fun _ _ h => h)
  clear hW c0 hlk
  have n0 := (at_cell N3 0 : _ = some _)
  have n1 := (at_cell N3 1 : _ = some _)
  have c0 := (at_cell B3.out.box 0 : _ = some _)
  go_still_tail 6, (by kernel_rfl)
  change wpList _ _ _ _ _ W.drew
  refine wp_store rfl _ _ _ _ rfl _ _ keyed Tryd.underlying59 m _ _ rfl (B3.out.map.kept (w' := W.drew) rfl) a.data.toList rfl (.agg #[.slice p n c, .int .i64 n]) rfl (str_key ha) (str_inj _) ?_
  intro w4 K4 O4
  have O4' : Out (fun k => k = m) W w4 := O4.ofDrew
  have B4 := Lib.hid (B3.out.put_ ⟨⟨a.data.toList, (gotE V a.data.toList).fl.bs, (gotE V a.data.toList).fl.bs.length⟩, .slice p n c⟩ (w2 := W) rfl (fun _ _ _ _ _ => rfl) (by
      have e : En.val ⟨⟨a.data.toList, (gotE V a.data.toList).fl.bs, (gotE V a.data.toList).fl.bs.length⟩, .slice p n c⟩ = .agg #[.slice p n c, .int .i64 n] := by simp [En.val, HX.out.2.2.2]
      rw [e]; exact K4) O4' (by have := (B3.out.got_ a.data.toList).1; rw [HX.out.2.2.1] at this; exact this)
    (fun y hy hne => by have := apart_mem B3.out.apart HX.out.1 hy (fun e => hne (by rw [← e]; exact HX.out.2.1)); rw [HX.out.2.2.1] at this; exact this)
    (fun g hg => B3.out.mine _ HX.out.1 g (by rw [HX.out.2.2.1]; exact hg)))
  replace O4' := Lib.hid O4'
  clear n0 n1 c0 K4 O4 N3
  go_wp2_with fail
  go_ret
  have z1 := O3.out.size
  have z2 := O4'.out.size
  refine ⟨rfl, _, bs, B4.out, ?_, fun k hk => .inl hk, fun k hk => by have := hA.out k hk; omega⟩
  exact (O3.out.mono fun i _ h => h.elim).trans O4'.out fun i _ hi => by subst hi; exact hB.out.bm
set_option maxRecDepth 100000 in
set_option maxHeartbeats 4000000 in
theorem ren_ok (h : Base w bs b m V most total bad) (hall : ∀ k, bs k → k < w.heap.size) (a d : ByteArray) (hn : isNm a.data.toList = true) (hd : isNm d.data.toList = true) (hb : ¬ 0 < bad) (hl : (flk (V.map En.fl) a.data.toList).isSome = true)
    (h1 : (got (fwo (V.map En.fl) a.data.toList) d.data.toList).bs.length ≤ total) (h2 : total ≤ 16777216) :
    Calls Tryd.prog 26 #[.pointer (some ⟨b, 0, none⟩), .string a, .string d] w fun e w' => e = .returned .nilIface ∧
      ∃ sl, Leaves w bs w' b m (pt enm (wo enm V a.data.toList) ⟨⟨d.data.toList, (got (V.map En.fl) a.data.toList).bs, (got (V.map En.fl) a.data.toList).sure⟩, sl⟩) most (total - (got (fwo (V.map En.fl) a.data.toList) d.data.toList).bs.length) bad := by
  have c0 := (at_cell h.box 0 : _ = some _)
  obtain ⟨p, n, c, S, hxV, hnm, hsl, hS, hlen, hlk⟩ := lk_there h hn hl
  replace hlk := hlk w rfl
  have hBeg := Lib.hid (begin_ok a h.box hn hb)
  have hB := Lib.hid h
  have hA := Lib.hid hall
  have ha := name_max hn
  have c0' := (at_cell (at_old w (.cells #[.slice p n c, .int .i64 S] 57 (0, 0)) h.box) 0 : _ = some _)
  have hd' := name_max hd
  have HX := Lib.hid (show gotE V a.data.toList ∈ V ∧ enm (gotE V a.data.toList) = a.data.toList ∧ (gotE V a.data.toList).sl = .slice p n c from ⟨hxV, hnm, hsl⟩)
  have em : (wo enm V a.data.toList).map En.fl = fwo (V.map En.fl) a.data.toList := wo_map En.fl (fun _ => rfl) V a.data.toList
  obtain ⟨T, hT⟩ : ∃ T, (got (fwo (V.map En.fl) a.data.toList) d.data.toList).bs.length = T := ⟨_, rfl⟩
  rw [hT] at h1 ⊢
  have hTT : Hid ((got ((wo enm V a.data.toList).map En.fl) d.data.toList).bs.length = T) := Lib.hid (by rw [em]; exact hT)
  rw [← gotE_fl, hS]
  have H12 := Lib.hid (And.intro h1 h2)
  clear h hb hl hall hxV hnm hsl hS hlen em hT h1 h2
  go_enter Tryd.func26, Tryd.ntmps26
  go_wp2_with (first
    | (go_at_call 31; refine hBeg.out.mono ?_; rintro e w' ⟨rfl, rfl⟩)
    | (go_at_call 38; refine (named_calls _ _).mono ?_; rw [hd]; rintro e w' ⟨rfl, rfl⟩)
    | (at_delete; refine wp_drop rfl _ _ _ _ rfl _ keyed Tryd.underlying59 m _ _ rfl (hB.out.map.kept (w' := _) (Below.heap_alloc _ _ _ hB.out.lt.2)) a.data.toList rfl (str_key ha) (str_inj _) ?_; intro w2 K2 O2;
       have N2 := O2.at_ (at_new w (.cells #[.slice p n c, .int .i64 S] 57 (0, 0))) (fun e => by have := hB.out.lt.2; omega);
       have B2 := (hB.out.kept (w' := w.alloc (.cells #[.slice p n c, .int .i64 S] 57 (0, 0))) fun k _ hl => Below.heap_alloc _ _ _ hl).del_ a.data.toList K2 O2;
       have R2 := Lib.hid (drop_calls B2 d hd' (by rw [hTT.out]; exact H12.out.1) H12.out.2);
       replace O2 := Lib.hid O2; replace N2 := Lib.hid N2; clear K2 B2)
    | (go_at_call 37; refine R2.out.mono ?_; rw [hTT.out]; rintro e W ⟨rfl, B3, O3⟩; have N3 := O3.at_ N2.out (fun e => by have := hB.out.lt; omega); replace B3 := Lib.hid B3; replace O3 := Lib.hid O3; clear R2))
  have n0 := (at_cell N3 0 : _ = some _)
  have n1 := (at_cell N3 1 : _ = some _)
  clear c0 c0' hlk hBeg
  have c0 := (at_cell B3.out.box 0 : _ = some _)
  go_still_tail 6, (by kernel_rfl)
  change wpList _ _ _ _ _ W.drew
  refine wp_store rfl _ _ _ _ rfl _ _ keyed Tryd.underlying59 m _ _ rfl (B3.out.map.kept (w' := W.drew) rfl) d.data.toList rfl (.agg #[.slice p n c, .int .i64 S]) rfl (str_key hd') (str_inj _) ?_
  intro w4 K4 O4
  have O4' : Out (fun k => k = m) W w4 := O4.ofDrew
  have OW : Hid (Out (fun k => k = b ∨ k = m) w W) := Lib.hid (((((Out.refl (fun k => k = b ∨ k = m) w).alloc (.cells #[.slice p n c, .int .i64 S] 57 (0, 0)))).trans O2.out fun i _ hi => .inr hi).trans O3.out fun i _ hi => hi)
  have B4 := Lib.hid (B3.out.put_ ⟨⟨d.data.toList, (gotE V a.data.toList).fl.bs, S⟩, .slice p n c⟩ (w2 := W) rfl (fun _ _ _ _ _ => rfl) K4 O4'
    (by
      have := (hB.out.got_ a.data.toList).1
      rw [HX.out.2.2] at this
      exact this.kept fun g hg => OW.out.block g (this.lt hg) (by have := hB.out.mine _ HX.out.1 g (by rw [HX.out.2.2]; exact hg); rintro (e | e); exact this.2.1 e; exact this.2.2 e))
    (fun y hy _ => by
      have h1 := mem_wo.1 (mem_wo.1 hy).1
      have := apart_mem hB.out.apart HX.out.1 h1.1 (fun e => h1.2 (by rw [← e]; exact HX.out.2.1)); rw [HX.out.2.2] at this; exact this)
    (fun g hg => hB.out.mine _ HX.out.1 g (by rw [HX.out.2.2]; exact hg)))
  replace O4' := Lib.hid O4'
  clear n0 n1 c0 K4 O4 N3
  go_wp2_with fail
  go_ret
  have z1 := OW.out.size
  have z2 := O4'.out.size
  have e := B4.out
  rw [show (d.data.toList : Bs) = enm (⟨⟨d.data.toList, (gotE V a.data.toList).fl.bs, S⟩, .slice p n c⟩ : En) from rfl, pt_wo] at e
  refine ⟨rfl, _, bs, e, ?_, fun k hk => .inl hk, fun k hk => by have := hA.out k hk; omega⟩
  exact (OW.out.mono fun i _ h => by rcases h with rfl | rfl; exact hB.out.bb; exact hB.out.bm).trans O4'.out fun i _ hi => by subst hi; exact hB.out.bm
end
end Go.Proofs.YtememmgnhnldaaaDoor.Sto

/-
Layer 22 (journal): a journal and a store of the call's own.
Layer 11 (store): Names.
Layer 11 (store): what a crash leaves of a file; Crash.
Layer 11 (store): Crash.
Layer 11 (store): Crash in one form.
Layer 11 (store): what a crash is told to keep, where it is one number of the call's own.
Layer 8 (record): the document's Same.
Layer 23 (restore): the law's example, walked. Written by gen_rstworks.py.
Layer 21 (gens): the document's Name.
Layer 11 (store): the document's own store: rows of files; names, places, bytes in all.
Layer 11 (store): the document's own store: places, files, all bytes, what comes ahead of a call, all files but one.
-/
import Derived.Test.YtngangdjbbbbdaaGreatDoorPack8
import Derived.Test.YtngangdjbbbbdaaGreatDoorIter
import Derived.Sort.KeysCollected
import Derived.Maps.RangeWalk
import Derived.Maps.Ext
import Derived.StillTailTactics
import Derived.Maps.OwnSet
import Derived.SliceStrings
import Derived.Deep.Slices
section
namespace Go.Proofs.YtngangdjbbbbdaaGreatDoor.Jrn
open Go.RowKit Go.Proofs.YtngangdjbbbbdaaGreatDoor.Own Go.Proofs.YtngangdjbbbbdaaGreatDoor.Sto Go.Proofs.YtngangdjbbbbdaaGreatDoor.Gen Go.Proofs.YtngangdjbbbbdaaGreatDoor.Flt
open Go.Proofs.YtngangdjbbbbdaaGreatDoor.Rec (Itm chk bytesOf flat cv cv_len cv_app)

/-- a journal and a store of the call's own -/
structure Wj (w0 w : World) (bs : Nat → Prop) (j b : Nat) (t : St) (base : Bs) (n size : Int) (r : Bool) (l : Int) : Prop where
  below : Below w0.heap.size w0 w
  jat : Jat w bs j b t base n size r l
  mine : ∀ k, bs k → w0.heap.size ≤ k
  jm : w0.heap.size ≤ j
section
variable {w0 w w' : World} {bs bs' : Nat → Prop} {j b : Nat} {t t' : St} {base : Bs} {n size : Int} {r r' q : Bool} {l l' : Int} {e : Ending}
theorem Wj.same (h : Wj w0 w bs j b t base n size r l) (hb : Below w.heap.size w w') : Wj w0 w' bs j b t base n size r l :=
  ⟨h.below.trans (hb.mono h.below.size), h.jat.below hb, h.mine, h.jm⟩
theorem Wj.post (h : Wj w0 w bs j b t base n size r l) (hp : JPost w bs j b base n size t' r' l' q e w') : e = .returned (.bool q) ∧ ∃ bs', Wj w0 w' bs' j b t' base n size r' l' := by
  obtain ⟨he, bs', h1, h2, h3⟩ := hp
  have hs := h.below.size
  refine ⟨he, bs', h.below.trans (h2.below hs fun i hi => ?_), h1, fun k hk => ?_, h.jm⟩
  · rcases hi with hi | rfl
    · exact h.mine i hi
    · exact h.jm
  · rcases h3 k hk with h4 | h4
    · exact h.mine k h4
    · omega
theorem Wj.go (h : Wj w0 w bs j b t base n size r l) (hs : Sto w' bs' b t') (ho : Out bs w w') (hn : ∀ k, bs' k → bs k ∨ w.heap.size ≤ k) : Wj w0 w' bs' j b t' base n size r l := by
  have hsz := h.below.size
  refine ⟨h.below.trans (ho.below hsz fun i hi => h.mine i hi), h.jat.pt (bs1 := bs') (t1 := t') ⟨hs, ho, hn⟩, fun k hk => ?_, h.jm⟩
  rcases hn k hk with h4 | h4
  · exact h.mine k h4
  · omega
theorem Wj.new (h1 : Below w0.heap.size w0 w) (h2 : Sto w bs b t) (h3 : ∀ k, bs k → w0.heap.size ≤ k) (h4 : Jb w' w.heap.size b base n size r l) (h5 : Below w.heap.size w w') : Wj w0 w' bs w.heap.size b t base n size r l :=
  ⟨h1.trans (h5.mono h1.size), ⟨h2.below h5, h4, fun h => by have := h2.all _ h; omega⟩, h3, h1.size⟩
end
end Go.Proofs.YtngangdjbbbbdaaGreatDoor.Jrn
end

section
namespace Go.Proofs.YtngangdjbbbbdaaGreatDoor.Sto
open Go.RowKit Go.Proofs.YtngangdjbbbbdaaGreatDoor.Own Go.Proofs.YtngangdjbbbbdaaGreatDoor.KM Go.Proofs.YtngangdjbbbbdaaGreatDoor.Flt
open Go.Proofs.YtngangdjbbbbdaaGreatDoor.Rw (str strs)
open Go.Sort Go.WideElems

/-- a map's value as it stands -/
def hold (v : Value) : Option (DataW Value × List MemPlace) := some (.held v, [])

section
variable {w : World} {bs : Nat → Prop} {b m : Nat} {V : List En} {most total bad : Int}
theorem key_of {kv : Value} {l : Lit} (h : keyOf Tryz.prog 9 kv = some l) {a : Bs} (e : kv = str a) : l = .string a := by
  subst e
  simp only [keyOf, Tryz.underlying9, str, mapKey] at h
  split at h
  · cases h; rfl
  · cases h
theorem hold_rd {x : MapEntry} {l : Lit} (h : keyOf Tryz.prog 9 x.key = some l) : WideElems.rd Tryz.prog 9 hold x = some (l, .held x.val) := by
  unfold WideElems.rd hold
  rw [h]; rfl
theorem KMap.count {w : World} {b n : Nat} {V : List En} (h : KMap Tryz.prog 9 str w b (look V) n) (hr : Rise enm V) : n = V.length := by
  obtain ⟨es, clock, hb, hn, hst, hks, h1, h2⟩ := h.is
  let f : MapEntry → Bs := fun x => match x.key with | .string s => s.data.toList | _ => []
  have hf : ∀ x ∈ es.toList, x.key = str (f x) := by
    intro x hx
    obtain ⟨a, ha, _⟩ := h1 x hx
    show x.key = str (match x.key with | .string s => s.data.toList | _ => [])
    rw [ha]; rfl
  have hp : (es.toList.map f).Perm (V.map enm) := by
    refine (List.perm_ext_iff_of_nodup ?_ ?_).2 fun y => ?_
    · have hk := hst.2.2
      unfold List.Nodup at hk ⊢
      rw [List.pairwise_map] at hk ⊢
      refine hk.imp_of_mem fun {x y} hx hy hne e => hne ?_
      rw [hf x hx, hf y hy, e]
    · unfold List.Nodup
      rw [List.pairwise_map]
      exact hr.imp fun hlt e => by
        rw [e] at hlt
        exact List.lt_irrefl _ hlt
    · rw [List.mem_map, List.mem_map]
      constructor
      · rintro ⟨x, hx, rfl⟩
        obtain ⟨a, ha, hv⟩ := h1 x hx
        obtain rfl : f x = a := str_inj _ _ ((hf x hx).symm.trans ha)
        unfold look at hv
        cases hl : lk enm V (f x) with
        | none => rw [hl] at hv; cases hv
        | some z => exact ⟨z, (lk_some hl).1, (lk_some hl).2⟩
      · rintro ⟨z, hz, rfl⟩
        obtain ⟨x, hx, hk, _⟩ := h2 (enm z) z.val (by unfold look; rw [(hr.lk).2 ⟨hz, rfl⟩]; rfl)
        exact ⟨x, hx, str_inj _ _ ((hf x hx).symm.trans hk)⟩
  have := hp.length_eq
  rw [List.length_map, List.length_map, Array.length_toList] at this
  omega
theorem Base.owns (h : Base w bs b m V most total bad) (hV : V.length ≤ maxLen) : ∃ D : DataW Value, w.ownsMap Tryz.prog 9 hold m V.length D ∧ (strKeys D).Perm (V.map enm) ∧ Maps.size D = V.length ∧
    (∀ a, Maps.has D (.string a) = (look V a).isSome) ∧ ∀ a v, (∀ zd, D.atKey (.string a) zd = .held v) → look V a = some v := by
  obtain ⟨es, clock, hb, hn, hst, hks, h1, h2⟩ := h.map.is
  have F : Fit Tryz.prog 9 hold es clock := ⟨by omega, hst, fun x hx => by obtain ⟨l, hl⟩ := hks x hx; exact ⟨_, hold_rd hl⟩⟩
  have hO : w.ownsMap Tryz.prog 9 hold m V.length (.map ((es.toList.map (rg Tryz.prog 9 hold)).foldr DataW.insert [])) := ⟨es, clock, hb, F, by omega, rfl⟩
  have hrg : ∀ x ∈ es.toList, ∃ a, x.key = str a ∧ look V a = some x.val ∧ rg Tryz.prog 9 hold x = (.string a, .held x.val) := by
    intro x hx
    obtain ⟨a, ha, hv⟩ := h1 x hx
    obtain ⟨l, hl⟩ := hks x hx
    refine ⟨a, ha, hv, ?_⟩
    rw [rg_of (hold_rd hl), key_of hl ha]
  have hf : ∀ x ∈ es.toList, x.key = str (strOf (rg Tryz.prog 9 hold x).1) := by
    intro x hx
    obtain ⟨a, ha, _, e⟩ := hrg x hx
    rw [e]; exact ha
  have hp : (es.toList.map (fun x => strOf (rg Tryz.prog 9 hold x).1)).Perm (V.map enm) := by
    refine (List.perm_ext_iff_of_nodup ?_ ?_).2 fun y => ?_
    · have hk := hst.2.2
      unfold List.Nodup at hk ⊢
      rw [List.pairwise_map] at hk ⊢
      refine hk.imp_of_mem fun {x y} hx hy hne e => hne ?_
      rw [hf x hx, hf y hy, e]
    · unfold List.Nodup
      rw [List.pairwise_map]
      exact h.rise.imp fun hlt e => by
        rw [e] at hlt
        exact List.lt_irrefl _ hlt
    · rw [List.mem_map, List.mem_map]
      constructor
      · rintro ⟨x, hx, rfl⟩
        obtain ⟨a, ha, hv, e⟩ := hrg x hx
        rw [e]
        unfold look at hv
        cases hl : lk enm V a with
        | none => rw [hl] at hv; cases hv
        | some z => exact ⟨z, (lk_some hl).1, (lk_some hl).2⟩
      · rintro ⟨z, hz, rfl⟩
        obtain ⟨x, hx, hk, _⟩ := h2 (enm z) z.val (by unfold look; rw [(h.rise.lk).2 ⟨hz, rfl⟩]; rfl)
        refine ⟨x, hx, ?_⟩
        obtain ⟨a, ha, _, e⟩ := hrg x hx
        rw [e]
        exact (str_inj _ _ (ha.symm.trans hk))
  have hin : ∀ a, Maps.has (.map ((es.toList.map (rg Tryz.prog 9 hold)).foldr DataW.insert [])) (.string a) = true → ∃ v, look V a = some v ∧ (Lit.string a, DataW.held v) ∈ (es.toList.map (rg Tryz.prog 9 hold)).foldr DataW.insert [] := by
    intro a hhas
    obtain ⟨p, hp1, hp2⟩ := List.any_eq_true.1 hhas
    have hp3 := mem_sorted.1 hp1
    obtain ⟨x, hx, rfl⟩ := List.mem_map.1 hp3
    obtain ⟨a', ha, hv, e⟩ := hrg x hx
    rw [e] at hp2 hp1
    have e2 : a' = a := by simpa [Lit.sameKey] using hp2
    subst e2
    exact ⟨_, hv, hp1⟩
  refine ⟨_, hO, ?_, ?_, fun a => ?_, fun a v hat => ?_⟩
  · refine List.Perm.trans ?_ hp
    have := (WideShapes.sorted_perm (es.toList.map (rg Tryz.prog 9 hold))).map (fun p => strOf p.1)
    rw [List.map_map] at this
    simp only [Function.comp_def] at this
    unfold strKeys
    exact this
  · show (List.foldr DataW.insert [] _).length = _
    rw [(WideShapes.sorted_perm _).length_eq, List.length_map, Array.length_toList, hn]
  · cases hl : look V a with
    | none =>
      cases hh : Maps.has (.map ((es.toList.map (rg Tryz.prog 9 hold)).foldr DataW.insert [])) (.string a) with
      | false => rfl
      | true => obtain ⟨v, hv, _⟩ := hin a hh; rw [hl] at hv; cases hv
    | some v =>
      obtain ⟨x, hx, hk, _⟩ := h2 a v hl
      obtain ⟨a', ha, _, e⟩ := hrg x hx
      obtain rfl : a' = a := str_inj _ _ (ha.symm.trans hk)
      exact List.any_eq_true.2 ⟨_, mem_sorted.2 (List.mem_map.2 ⟨x, hx, e⟩), by simp [Lit.sameKey]⟩
  · have hhas := Maps.has_true_of_atKey hat
    obtain ⟨v', hv, hm⟩ := hin a hhas
    have e1 := hat .nil
    obtain ⟨es', he', hs, hk⟩ := hO.canon keyed
    cases he'
    rw [WideAt.atKey_mem .nil (hk _ hm) (Maps.apart_of_rising hs) hm] at e1
    cases e1
    exact hv
theorem sort_of {ss N : List Bs} (h : ss.Perm N) (hN : N.Pairwise (· < ·)) : ss.mergeSort (fun x y => decide (x ≤ y)) = N := by
  have h1 : (ss.mergeSort (fun x y => decide (x ≤ y))).Perm N := (List.mergeSort_perm _ _).trans h
  have h2 := List.pairwise_mergeSort (le := fun x y : Bs => decide (x ≤ y)) (fun a b c h k => by simp at h k ⊢; exact List.le_trans h k) (fun a b => by simp; exact List.le_total a b) ss
  refine List.Perm.eq_of_pairwise (le := fun x y => x ≤ y) (fun x y _ _ h1 h2 => List.le_antisymm h1 h2) (h2.imp fun h => by simpa using h) (hN.imp fun h => List.le_of_lt h) h1

set_option maxRecDepth 100000 in
set_option maxHeartbeats 1000000 in
theorem names_calls (h : Base w bs b m V most total bad) (hV : V.length ≤ 1000000) :
    Calls Tryz.prog 54 #[.pointer (some ⟨b, 0, none⟩)] w fun e w' => ∃ v, e = .returned v ∧ w'.ownsRow w.heap.size 9 1 v V.length (strs (V.map enm)) ∧ Below w.heap.size w w' := by
  obtain ⟨D, hO, hP, hS, _⟩ := h.owns (by unfold maxLen; omega)
  have c0 := (at_cell h.box 0 : _ = some _)
  have hK := fun W => callsIn_wide.1 (Tryz.maps_Keys_80 (some m) W)
  have hR := Lib.hid (callsIn_wide.1 (Tryz.slices_Sorted_keys_79_80 m V.length D hold w hO (by rw [hS]; unfold maxLen; omega) (by rw [hS]; omega)))
  have hN := Lib.hid (show (V.map enm).Pairwise (· < ·) by rw [List.pairwise_map]; exact h.rise)
  have HP := Lib.hid hP
  clear h hO hS hP
  go_enter Tryz.func54, Tryz.ntmps54
  go_wp2_with (first
    | (go_at_call 21; refine (made_some _ _ _ c0).mono ?_; rintro e w' ⟨rfl, rfl⟩)
    | (go_at_call 80; refine (hK _).mono ?_; rintro e w' ⟨rfl, rfl⟩)
    | (go_at_call 79; refine hR.out.mono ?_; rintro e w2 ⟨v, ss, rfl, p1, p2, -, p3⟩; replace p1 := Lib.hid p1; replace p2 := Lib.hid p2; replace p3 := Lib.hid p3))
  go_ret
  have e1 := p1.out.trans HP.out
  have e2 := p2.out
  rw [sort_of e1 hN.out, show ss.length = V.length by rw [e1.length_eq, List.length_map]] at e2
  exact ⟨_, rfl, Rw.own_base e2 (by simp), ((Below.refl _ w).alloc (Nat.le_refl _) _).trans (p3.out.mono (by simp))⟩
end
end Go.Proofs.YtngangdjbbbbdaaGreatDoor.Sto
end

section
namespace Go.Proofs.YtngangdjbbbbdaaGreatDoor.Sto
open Go.RowKit Go.Proofs.YtngangdjbbbbdaaGreatDoor.Own Go.Proofs.YtngangdjbbbbdaaGreatDoor.KM Go.Proofs.YtngangdjbbbbdaaGreatDoor.Flt
open Go.Proofs.YtngangdjbbbbdaaGreatDoor.Rw (str strs)

theorem Bt.upto {w : World} {sl : Value} {l : Bs} (h : Bt w sl l) {k : Nat} (hk : k ≤ l.length) : ∃ p c, Bt w (.slice p k c) (l.take k) ∧ (Value.slice p k c).ownBlock = sl.ownBlock ∧
    ∀ W, (Instr.sliceAt 58 sl none (some (.int .i64 k)) none).run Tryz.prog W = .ok (.slice p k c) W := by
  have hel : Tryz.prog.elem 58 = 5 := by simp [Program.elem, Tryz.underlying58]
  have ht : Tryz.prog.underlying 58 = some (.slice (Tryz.prog.elem 58)) := by rw [hel]; exact Tryz.underlying58
  have hlt : (l.take k).length = k := by rw [List.length_take]; omega
  have r1 : ∀ (W : World) (p : Option Addr) (n c : Nat) (hk : k ≤ c), (Instr.sliceAt 58 (.slice p n c) none (some (.int .i64 k)) none).run Tryz.prog W = .ok (sliced p 0 k c 1) W := by
    intro W p n c hk
    rw [run_sliceAt_slice W _ _ _ _ _ ht, run_slice_h W _ _ _ _ ht .i64 k (by omega) (by omega), hel, Tryz.sizeOf5, Int.toNat_natCast]; rfl
  rcases h.2 with ⟨rfl, h0⟩ | ⟨g, cap, cur, rfl, _, hh, h3, h4, h5, h6⟩
  · obtain rfl : k = 0 := by omega
    refine ⟨none, 0, by rw [List.take_zero]; exact Bt.nil w, rfl, fun W => ?_⟩
    rw [r1 W none 0 0 (Nat.le_refl _)]; rfl
  · refine ⟨some ⟨g, 0, none⟩, cap, ?_, rfl, fun W => ?_⟩
    · refine ⟨by rw [bv_len, hlt, Nat.mul_one], .inr ⟨g, cap, cur, by rw [hlt], Nat.zero_le _, hh, by rw [hlt]; omega, h4, h5, ?_⟩⟩
      rw [hlt, Nat.mul_one, ← bv_take, ← h6, Nat.mul_one, List.take_take, Nat.min_eq_left hk]
    · rw [r1 W _ _ _ (by omega)]; simp [sliced, Addr.add]

set_option maxRecDepth 100000 in
set_option maxHeartbeats 1000000 in
theorem cut_calls {w : World} {sl : Value} {x : Fl} (h : Bt w sl x.bs) (hs : x.sure ≤ x.bs.length) (hl : x.bs.length ≤ 16777216) (k : Int) (hk1 : -9223372036854775808 ≤ k) (hk2 : k ≤ 9223372036854775807) :
    Calls Tryz.prog 55 #[.agg #[sl, .int .i64 x.sure], .int .i64 k] w fun e w' => ∃ p c, e = .returned (.agg #[.slice p (cutN x k) c, .int .i64 (cutN x k)]) ∧ Bt w (.slice p (cutN x k) c) (cutF x k).bs ∧ (Value.slice p (cutN x k) c).ownBlock = sl.ownBlock ∧ Below w.heap.size w w' := by
  obtain ⟨hn1, hn2⟩ := cutN_le hs k
  obtain ⟨p, c, u1, u2, u3⟩ := h.upto hn2
  have hcf : Hid (∀ (e : Ending) (w' : World), (e = .returned (.agg #[.slice p (cutN x k) c, .int .i64 (cutN x k)]) ∧ Below w.heap.size w w') → ∃ p c, e = .returned (.agg #[.slice p (cutN x k) c, .int .i64 (cutN x k)]) ∧ Bt w (.slice p (cutN x k) c) (cutF x k).bs ∧ (Value.slice p (cutN x k) c).ownBlock = sl.ownBlock ∧ Below w.heap.size w w') :=
    Lib.hid fun (e : Ending) (w' : World) h => ⟨p, c, h.1, u1, u2, h.2⟩
  refine Calls.mono (R := fun (e : Ending) (w' : World) => e = .returned (.agg #[.slice p (cutN x k) c, .int .i64 (cutN x k)]) ∧ Below w.heap.size w w') ?_ (fun e w' h => hcf.out e w' h)
  have hd : (cutN x k : Int) = x.sure + min (max k 0) ((x.bs.length : Int) - x.sure) := by unfold cutN; omega
  obtain ⟨N, hN⟩ : ∃ N, cutN x k = N := ⟨_, rfl⟩
  obtain ⟨S, hS⟩ : ∃ S, x.sure = S := ⟨_, rfl⟩
  obtain ⟨p0, c0, hsl, -⟩ := h.shape
  obtain ⟨n, hn⟩ : ∃ n, x.bs.length = n := ⟨_, rfl⟩
  rw [hn] at hsl
  subst hsl
  rw [hN] at hn1 hn2 u3 hd ⊢
  rw [hS] at hs hn1 hd ⊢
  rw [hn] at hs hl hn2 hd
  clear hcf u1 u2 h hN hS hn
  obtain ⟨M, hM⟩ : ∃ M, max k 0 = M := ⟨_, rfl⟩
  rw [hM] at hd
  obtain ⟨Q, hQ⟩ : ∃ Q, min M ((n : Int) - S) = Q := ⟨_, rfl⟩
  rw [hQ] at hd
  have q1 : 0 ≤ Q := by omega
  have q2 : Q ≤ n := by omega
  replace hd : (S : Int) + Q = N := hd.symm
  go_enter Tryz.func55, Tryz.ntmps55
  go_wp2_with fail
  refine bodyPost_ret (v := .agg #[.slice p N c, .int .i64 N]) ?_ rfl ⟨rfl, ?_⟩
  · simp [results, Tryz.results55, go_sem, *]
  · exact ((Below.refl _ _).alloc (Nat.le_refl _) _).alloc (by simp) _

/-! ### Crash -/
theorem Rise.uniq {α : Type} {nm : α → Bs} {L M : List α} (hL : Rise nm L) (hM : Rise nm M) (h : ∀ y, y ∈ L ↔ y ∈ M) : L = M := by
  have nd : ∀ {l : List α}, Rise nm l → l.Nodup := fun hl => hl.imp fun hlt e => by rw [e] at hlt; exact List.lt_irrefl _ hlt
  exact List.Perm.eq_of_pairwise (le := fun x y => nm x < nm y) (fun x y _ _ h1 h2 => absurd (List.lt_trans h1 h2) (List.lt_irrefl _)) hL hM ((List.perm_ext_iff_of_nodup (nd hL) (nd hM)).2 h)
theorem rise_set {V : List En} (h : Rise enm V) {k : Nat} (hk : k < V.length) {x : En} (hx : enm x = enm V[k]) : Rise enm (V.set k x) := by
  have e : (V.set k x).map enm = V.map enm := by
    rw [List.map_set, hx]
    apply List.ext_getElem
    · simp
    · intro i h1 h2
      rw [List.getElem_set]
      split
      · rename_i e; subst e; simp
      · rfl
  have h1 := (rise_map (nm := enm) (nb := id) enm (fun _ => rfl) (L := V)).1 h
  rw [← e] at h1
  exact (rise_map (nm := enm) (nb := id) enm (fun _ => rfl)).2 h1
theorem pt_set {V : List En} (h : Rise enm V) {k : Nat} (hk : k < V.length) {x : En} (hx : enm x = enm V[k]) : pt enm V x = V.set k x := by
  refine (h.pt x).uniq (rise_set h hk hx) fun y => ?_
  rw [mem_pt]
  constructor
  · rintro (rfl | ⟨h1, h2⟩)
    · exact List.mem_iff_getElem.2 ⟨k, by simpa using hk, by simp⟩
    · obtain ⟨i, hi, rfl⟩ := List.getElem_of_mem h1
      refine List.mem_iff_getElem.2 ⟨i, by simpa using hi, ?_⟩
      rw [List.getElem_set_ne]
      rintro rfl
      exact h2 hx.symm
  · intro hy
    obtain ⟨i, hi, rfl⟩ := List.getElem_of_mem hy
    rw [List.getElem_set]
    split
    · exact .inl rfl
    · rename_i hne
      have hi' : i < V.length := by simpa using hi
      refine .inr ⟨List.getElem_mem hi', fun e => hne ?_⟩
      rw [hx] at e
      rcases Nat.lt_trichotomy k i with hlt | he | hlt
      · have := List.pairwise_iff_getElem.1 h k i hk hi' hlt
        rw [e] at this; exact absurd this (List.lt_irrefl _)
      · exact he
      · have := List.pairwise_iff_getElem.1 h i k hi' hk hlt
        rw [e] at this; exact absurd this (List.lt_irrefl _)

structure CrAt (w wr : World) (bs : Nat → Prop) (b m : Nat) (L : List Fl) (ks : List Int) (most : Int) (k : Nat) : Prop where
  is : ∃ V, V.map En.fl = (crsL L ks).take k ++ L.drop k ∧ Base wr bs b m V most (tot ((crsL L ks).take k) : Nat) 0
  out : Out bs w wr

theorem cr_at {V : List En} {L : List Fl} {ks : List Int} {k : Nat} (hV : V.map En.fl = (crsL L ks).take k ++ L.drop k) (hk : k < L.length) : ∃ h : k < V.length, V[k].fl = L[k] := by
  have hl := congrArg List.length hV
  simp [crs_len] at hl
  refine ⟨by omega, ?_⟩
  have : (V.map En.fl)[k]'(by simp; omega) = L[k] := by
    simp only [hV]
    rw [List.getElem_append_right (by simp [crs_len]; omega)]
    simp [crs_len, Nat.min_eq_left (Nat.le_of_lt hk)]
  simpa using this
theorem cr_next {V : List En} {L : List Fl} {ks : List Int} {k : Nat} (hV : V.map En.fl = (crsL L ks).take k ++ L.drop k) (hk : k < L.length) (x : En) (hx : x.fl = cutF L[k] (ks.getD k 0)) :
    (V.set k x).map En.fl = (crsL L ks).take (k + 1) ++ L.drop (k + 1) := by
  have hkc : k < (crsL L ks).length := by rw [crs_len]; exact hk
  rw [List.map_set, hV, hx, List.set_append_right _ _ (by simp [crs_len]; omega)]
  have e1 : ((crsL L ks).take k).length = k := by simp [crs_len]; omega
  rw [e1, Nat.sub_self, List.drop_eq_getElem_cons hk, List.set_cons_zero, List.take_add_one, List.getElem?_eq_getElem hkc, crs_at L ks k hk]
  simp
theorem tot_next {L : List Fl} {ks : List Int} {k : Nat} (hk : k < L.length) : tot ((crsL L ks).take (k + 1)) = tot ((crsL L ks).take k) + (cutF L[k] (ks.getD k 0)).bs.length := by
  have hkc : k < (crsL L ks).length := by rw [crs_len]; exact hk
  rw [List.take_add_one, List.getElem?_eq_getElem hkc, crs_at L ks k hk, tot_app]
  simp [tot]
theorem tot_take (L : List Fl) (k : Nat) : tot (L.take k) ≤ tot L := by
  have := tot_app (L.take k) (L.drop k)
  rw [List.take_append_drop] at this
  omega
end Go.Proofs.YtngangdjbbbbdaaGreatDoor.Sto
end

section
namespace Go.Proofs.YtngangdjbbbbdaaGreatDoor.Sto
open Go.RowKit Go.Proofs.YtngangdjbbbbdaaGreatDoor.Own Go.Proofs.YtngangdjbbbbdaaGreatDoor.KM Go.Proofs.YtngangdjbbbbdaaGreatDoor.Flt
open Go.Proofs.YtngangdjbbbbdaaGreatDoor.Rw (str strs Row1)

/-- numbers that came in, or were laid -/
def iv (ks : List Int) : List Value := ks.map fun k => .int .i64 k
structure Keep (w : World) (bs : Nat → Prop) (p : Option Addr) (c : Nat) (ks : List Int) : Prop where
  row : Row1 w p c (iv ks)
  rng : ∀ k ∈ ks, -9223372036854775808 ≤ k ∧ k ≤ 9223372036854775807
  far : ks = [] ∨ ∀ g o, p = some ⟨g, o, none⟩ → ¬ bs g
theorem getD_rng {ks : List Int} (h : ∀ k ∈ ks, -9223372036854775808 ≤ k ∧ k ≤ 9223372036854775807) (i : Nat) : -9223372036854775808 ≤ ks.getD i 0 ∧ ks.getD i 0 ≤ 9223372036854775807 := by
  by_cases hi : i < ks.length
  · rw [List.getD, List.getElem?_eq_getElem hi]; exact h _ (List.getElem_mem hi)
  · rw [List.getD, List.getElem?_eq_none (by omega)]; simp
theorem Keep.cell {w : World} {bs : Nat → Prop} {p : Option Addr} {c : Nat} {ks : List Int} (h : Keep w bs p c ks) {i : Nat} (hi : i < ks.length) : ∃ g o, p = some ⟨g, o, none⟩ ∧ ¬ bs g ∧ g < w.heap.size ∧ w.cell? ⟨g, o + i, none⟩ = some (.int .i64 (ks.getD i 0)) := by
  rcases h.row.cells with h0 | ⟨g, o, e, hl, hc⟩
  · have : ks = [] := by simpa [iv] using h0
    rw [this] at hi; simp at hi
  · have hf : ¬ bs g := by
      rcases h.far with h0 | h0
      · rw [h0] at hi; simp at hi
      · exact h0 g o e
    exact ⟨g, o, e, hf, hl, hc i _ (by simp [iv, List.getD, List.getElem?_eq_getElem hi])⟩
theorem Keep.out {w w' : World} {bs : Nat → Prop} {p : Option Addr} {c : Nat} {ks : List Int} (h : Keep w bs p c ks) (ho : Out bs w w') : Keep w' bs p c ks := by
  refine ⟨⟨h.row.cap, h.row.max, ?_⟩, h.rng, h.far⟩
  rcases h.far with h0 | h0
  · exact .inl (by rw [h0]; rfl)
  · exact h.row.cells.imp id fun ⟨g, o, e, hl, hc⟩ => ⟨g, o, e, Nat.lt_of_lt_of_le hl ho.size, fun i x hx => (ho.cell (p := ⟨g, o + i, none⟩) hl (h0 g o e)).trans (hc i x hx)⟩

section
variable {w : World} {bs : Nat → Prop} {b m : Nat} {V : List En} {most total bad : Int}
theorem cr_step {wo W w4 : World} {bs : Nat → Prop} {b m : Nat} {Vi : List En} {most total bad : Int} {L : List Fl} {ks : List Int} {k M : Nat} {kk : Int} {p1 p' : Option Addr} {n1 c1 c' : Nat} {a : Bs} (h : Base wo bs b m Vi most total bad)
    (hkV : k < Vi.length) (hkL : k < L.length) (hx : Vi[k].fl = L[k]) (hsl : Vi[k].sl = .slice p1 n1 c1) (ha : a = L[k].nm) (_ : ks.getD k 0 = kk) (hM : cutN L[k] kk = M) (_ : L[k].sure ≤ L[k].bs.length) (_ : L[k].bs.length ≤ 16777216)
    (hb : Below wo.heap.size wo W) (hm : KMap Tryz.prog 9 str w4 m (put (look Vi) a (.agg #[.slice p' M c', .int .i64 M])) (if (look Vi a).isSome then Vi.length else Vi.length + 1)) (ho : Out (fun k => k = m) W w4)
    (R2 : Bt wo (.slice p' M c') (cutF L[k] kk).bs) (e2 : (Value.slice p' M c').ownBlock = (Value.slice p1 n1 c1).ownBlock) : Base w4 bs b m (Vi.set k ⟨cutF L[k] kk, .slice p' M c'⟩) most total bad := by
  have hxV : Vi[k] ∈ Vi := List.getElem_mem hkV
  have hn : enm ⟨cutF L[k] kk, .slice p' M c'⟩ = enm Vi[k] := by show L[k].nm = Vi[k].fl.nm; rw [hx]
  rw [← pt_set h.rise hkV hn]
  have h2 := h.below hb
  have hv : En.val ⟨cutF L[k] kk, .slice p' M c'⟩ = .agg #[.slice p' M c', .int .i64 M] := by rw [← hM]; rfl
  refine h2.put_ _ rfl (fun _ _ _ _ _ => rfl) ?_ ho (R2.kept fun g hg => hb.block g (R2.lt hg)) (fun y hy hne => ?_) fun g hg => ?_
  · rw [hv, show enm ⟨cutF L[k] kk, .slice p' M c'⟩ = a from ha.symm]; exact hm
  · have := apart_mem h.apart hxV hy (fun e => hne (by rw [← e]; exact hn.symm))
    intro g hg
    rw [e2, ← hsl] at hg
    exact this g hg
  · rw [e2, ← hsl] at hg
    exact h.mine _ hxV g hg
set_option maxRecDepth 100000 in
set_option maxHeartbeats 8000000 in
theorem crash_calls (h : Base w bs b m V most total bad) (hall : ∀ k, bs k → k < w.heap.size) {L : List Fl} (hVL : V.map En.fl = L) (hnm : ∀ x ∈ L, isNm x.nm = true) (hs : ∀ x ∈ L, x.sure ≤ x.bs.length) (ht : tot L ≤ 16777216) (hV : V.length ≤ 1000000)
    {p : Option Addr} {c : Nat} {ks : List Int} (hk : Keep w bs p c ks) :
    Calls Tryz.prog 27 #[.pointer (some ⟨b, 0, none⟩), .slice p ks.length c] w fun e w' => e = .returned (.tuple #[]) ∧ ∃ V', V'.map En.fl = crsL L ks ∧ Leaves w bs w' b m V' most (tot (crsL L ks) : Nat) 0 := by
  have c0 := (at_cell h.box 0 : _ = some _)
  have c2 := (at_cell h.box 2 : _ = some _)
  have c3 := (at_cell h.box 3 : _ = some _)
  have f2 := at_frozen h.box 2
  have f3 := at_frozen h.box 3
  have hbb := h.bb
  have B1 := Lib.hid ((h.total_ 0).bad_ 0)
  have O1 : Hid (Out bs w ((w.setCell ⟨b, 2, none⟩ (.int .i64 0)).setCell ⟨b, 3, none⟩ (.int .i64 0))) := Lib.hid (((Out.refl bs w).setCell (p := ⟨b, 2, none⟩) (fun _ => hbb) _).setCell (p := ⟨b, 3, none⟩) (fun _ => hbb) _)
  have hA := Lib.hid hall
  have hK := Lib.hid hk
  have hSR := Lib.hid hs
  have hNMS := Lib.hid hnm
  have hVL' := Lib.hid hVL
  have hb' := Lib.hid hbb
  obtain ⟨N, hN⟩ : ∃ N, V.length = N := ⟨_, rfl⟩
  have hLn : L.length = N := by rw [← hVL, List.length_map, hN]
  have hLN := Lib.hid hLn
  obtain ⟨K, hKK⟩ : ∃ K, ks.length = K := ⟨_, rfl⟩
  have hKl := Lib.hid hKK
  have hNM := Lib.hid (names_calls B1.out hV)
  rw [hN] at hNM hV
  rw [hKK]
  have hcap := hk.row.cap
  have hmax := hk.row.max
  simp only [iv, List.length_map, hKK] at hcap
  have hrise := Lib.hid h.rise
  clear h hall hVL hs hnm hN hKK hLn hk hbb
  go_enter Tryz.func27, Tryz.ntmps27
  go_wp2_with (first
    | (go_at_call 21; refine (made_some _ _ _ c0).mono ?_; rintro e w' ⟨rfl, rfl⟩)
    | (go_at_call 54; refine hNM.out.mono ?_; rintro e w1 ⟨v1, rfl, hr1, hb1⟩; obtain ⟨pv, cv, rfl, hT⟩ := Rw.owns_row hr1 (by have := hr1.1; omega); replace hr1 := Lib.hid hr1; replace hb1 := Lib.hid hb1; replace hT := Lib.hid hT))
  have hsz := O1.out.size
  have hnm : Hid (∀ i (hi : i < L.length), ∃ g, pv = some ⟨g, 0, none⟩ ∧ ¬ bs g ∧ g < w1.heap.size ∧ w1.cell? ⟨g, i, none⟩ = some (str L[i].nm)) := by
    refine Lib.hid fun i hi => ?_
    have hiN : i < N := by rw [← hLN.out]; exact hi
    obtain ⟨g, c', e, hg1, hg2, _, _⟩ := Rw.own_shape hr1.out (by omega)
    cases e
    refine ⟨g, rfl, fun hb => by have := hA.out g hb; omega, hg2, ?_⟩
    refine Rw.own_cell hr1.out rfl ?_
    have hiV : i < V.length := by have := congrArg List.length hVL'.out; rw [List.length_map] at this; omega
    have e2 : V[i].fl = L[i] := by
      have : (V.map En.fl)[i]'(by simpa using hiV) = L[i] := by simp only [hVL'.out]
      simpa using this
    rw [Rw.strs_at (by simpa using hiV)]
    simp only [List.getElem_map]
    rw [show enm V[i] = L[i].nm from congrArg Fl.nm e2]
  have O2 : Hid (Out bs w w1) := Lib.hid (O1.out.trans (Out.ofNew (S := bs) hb1.out) fun _ _ h => h)
  have hK1 : Hid (Keep w1 bs p c ks) := Lib.hid (hK.out.out O2.out)
  have hA1 : Hid (∀ k, bs k → k < w1.heap.size) := Lib.hid fun k hk => Nat.lt_of_lt_of_le (hA.out k hk) O2.out.size
  have C0 : Hid (CrAt w1 w1 bs b m L ks most 0) := Lib.hid ⟨⟨V, by rw [List.take_zero, List.drop_zero, List.nil_append]; exact hVL'.out, by rw [List.take_zero]; exact B1.out.below hb1.out⟩, Out.refl _ _⟩
  have hRng := Lib.hid fun i => getD_rng hK.out.rng i
  clear c0 c2 c3 f2 f3 B1 O1 hK hr1 hb1 hT hNM hsz hVL' hA hrise
  go_loopw [4, 5, 6, 7, 20] (fun _ _ _ _ i wr => ∃ k : Nat, k ≤ N ∧ i = .int .i64 k ∧ CrAt w1 wr bs b m L ks most k) (fun _ _ _ _ i _ => N - (intOf i).toNat)
  case atStart => exact ⟨0, Nat.zero_le _, rfl, C0.out⟩
  case round =>
    rename World => wo
    obtain ⟨k, hk, rfl, C⟩ := hrel
    by_cases hlt : k < N
    · have hkL : k < L.length := by rw [hLN.out]; exact hlt
      obtain ⟨g, rfl, hgb, hgl, hgc⟩ := hnm.out k hkL
      obtain ⟨⟨Vi, hVi, Bi⟩, Oi⟩ := C
      obtain ⟨hkV, hxk⟩ := cr_at hVi hkL
      have d0 := (Oi.cell (p := ⟨g, k, none⟩) hgl hgb).trans hgc
      obtain ⟨nm, hnmE⟩ : ∃ s : ByteArray, s = ⟨(L[k].nm).toArray⟩ := ⟨_, rfl⟩
      have hnmL : nm.data.toList = L[k].nm := by rw [hnmE]
      rw [str, ← hnmE] at d0
      have c0 := (at_cell Bi.box 0 : _ = some _)
      have hxV : Vi[k] ∈ Vi := List.getElem_mem hkV
      have hlkx : lk enm Vi nm.data.toList = some Vi[k] := Bi.rise.lk.2 ⟨hxV, by rw [hnmL, ← hxk]⟩
      have hgot := gotE_some hlkx
      have hname : nm.size ≤ maxLen := name_max (by rw [hnmL]; exact hNMS.out _ (List.getElem_mem hkL))
      have hlk := Bi.look_ nm hname
      rw [hgot] at hlk
      have hBt := Bi.rows Vi[k] hxV
      obtain ⟨p1, n1, c1, hsl⟩ := hBt.form
      obtain ⟨S, hS⟩ : ∃ S, Vi[k].fl.sure = S := ⟨_, rfl⟩
      rw [En.val, hsl, hS] at hlk
      have hmem := hSR.out L[k] (List.getElem_mem hkL)
      have hlen : L[k].bs.length ≤ 16777216 := Nat.le_trans (len_tot (List.getElem_mem hkL)) ht
      obtain ⟨kk, hkk⟩ : ∃ kk, ks.getD k 0 = kk := ⟨_, rfl⟩
      obtain ⟨r1, r2⟩ := hRng.out k
      rw [hkk] at r1 r2
      have hCut := fun W (hb : Below wo.heap.size wo W) => cut_calls (w := W) (sl := .slice p1 n1 c1) (x := L[k]) (by rw [← hsl, ← hxk]; exact hBt.kept fun g hg => hb.block g (hBt.lt hg)) hmem hlen kk r1 r2
      rw [show L[k].sure = S by rw [← hxk]; exact hS] at hCut
      have HB := Lib.hid Bi
      have HC := Lib.hid hCut
      have HV := Lib.hid (show Vi.map En.fl = (crsL L ks).take k ++ L.drop k from hVi)
      have HX := Lib.hid (show Vi[k].fl = L[k] ∧ Vi[k].sl = .slice p1 n1 c1 ∧ nm.data.toList = L[k].nm ∧ ks.getD k 0 = kk from ⟨hxk, hsl, hnmL, hkk⟩)
      have HO := Lib.hid Oi
      have HS := Lib.hid hmem
      have q1 : (k : Int) < (N : Int) := by omega
      clear hgc hVi Bi Oi hlkx hgot hBt hsl hS hmem hCut hnmE hnmL hxk hxV
      by_cases hkK : k < K
      · obtain ⟨gk, ok, rfl, hk1, hk2, hk3⟩ := hK1.out.cell (i := k) (by rw [hKl.out]; exact hkK)
        rw [hkk] at hk3
        have e0 := (HO.out.cell (p := ⟨gk, ok + k, none⟩) hk2 hk1).trans hk3
        have q2 : (k : Int) < (K : Int) := by omega
        have q3 : (K : Int) ≤ (c : Int) := by omega
        clear hk1 hk2 hk3 hkk
        go_wp2_with (go_at_call 55; refine (HC.out _ (Below.refl _ _)).mono ?_; rintro e w2 ⟨p', c', rfl, R2, e2, hb2⟩; replace R2 := Lib.hid R2; replace e2 := Lib.hid e2; replace hb2 := Lib.hid hb2)
        obtain ⟨W, hW⟩ : ∃ W, w2.alloc (.cells #[.slice p' (cutN L[k] kk) c', .int .i64 (cutN L[k] kk)] 60 (0, 0)) = W := ⟨_, rfl⟩
        have N3 : W.heap[w2.heap.size]? = some (.cells #[.slice p' (cutN L[k] kk) c', .int .i64 (cutN L[k] kk)] 60 (0, 0)) := by rw [← hW]; exact at_new _ _
        have b3 : Hid (Below wo.heap.size wo W) := Lib.hid (by rw [← hW]; exact hb2.out.alloc hb2.out.size _)
        have s3 : Hid (wo.heap.size ≤ w2.heap.size ∧ w2.heap.size < W.heap.size) := Lib.hid (by rw [← hW]; exact ⟨hb2.out.size, by simp⟩)
        rw [hW]
        obtain ⟨M, hM⟩ : ∃ M, cutN L[k] kk = M := ⟨_, rfl⟩
        rw [hM] at N3 R2 e2 ⊢
        have HM := Lib.hid hM
        have B3 := Lib.hid (HB.out.below b3.out)
        clear hW c0 hlk d0 hM e0 q3
        have n0 := (at_cell N3 0 : _ = some _)
        have n1 := (at_cell N3 1 : _ = some _)
        have c0 := (at_cell B3.out.box 0 : _ = some _)
        go_still_tail 6, (by kernel_rfl)
        change wpList _ _ _ _ _ W.drew
        refine wp_store rfl _ _ _ _ rfl _ _ keyed Tryz.underlying62 m _ _ rfl (B3.out.map.kept (w' := W.drew) rfl) nm.data.toList rfl (.agg #[.slice p' M c', .int .i64 M]) rfl (str_key hname) (str_inj _) ?_
        intro w4 K4 O4
        have O4' : Hid (Out (fun k => k = m) W w4) := Lib.hid O4.ofDrew
        have B4 := Lib.hid (cr_step HB.out hkV hkL HX.out.1 HX.out.2.1 HX.out.2.2.1 HX.out.2.2.2 HM.out HS.out hlen b3.out K4 O4'.out R2.out e2.out)
        have N4 := O4'.out.at_ N3 (fun e => by have := HB.out.lt.2; have := s3.out.1; omega)
        clear n0 n1 c0 K4 O4 N3
        have n0 := (at_cell N4 0 : _ = some _)
        have t2 := (at_cell B4.out.box 2 : _ = some _)
        have tf := at_frozen B4.out.box 2
        have hT1 : 0 ≤ (tot ((crsL L ks).take k) : Int) ∧ (tot ((crsL L ks).take k) : Int) ≤ 16777216 := ⟨by omega, by have := tot_take (crsL L ks) k; have := tot_cut hSR.out ks; omega⟩
        have hM2 : (M : Int) ≤ 16777216 := by have := (cutN_le HS.out kk).2; rw [HM.out] at this; omega
        obtain ⟨T, hT⟩ : ∃ T : Int, (tot ((crsL L ks).take k) : Int) = T := ⟨_, rfl⟩
        rw [hT] at t2 hT1
        obtain ⟨hT1, hT2⟩ := hT1
        have HT := Lib.hid hT
        clear hT N4
        go_wp2_with fail
        go_still_tail 10, (by kernel_rfl)
        change wpList _ _ _ _ _ w4.drew
        go_wp2_with fail
        go_roundw
        case rel =>
          refine ⟨k + 1, by omega, by go_num, ⟨_, cr_next HV.out hkL ⟨cutF L[k] kk, .slice p' M c'⟩ (by rw [HX.out.2.2.2]), ?_⟩, ?_⟩
          · have := B4.out.total_ (T + M)
            rw [tot_next hkL, HX.out.2.2.2]
            have e : ((tot ((crsL L ks).take k) + (cutF L[k] kk).bs.length : Nat) : Int) = T + M := by
              have h1 := (cutN_le HS.out kk).2
              rw [← HT.out, ← HM.out]
              simp only [cutF, List.length_take]
              omega
            rw [e]
            exact this.kept fun _ _ _ => rfl
          · have o1 := (HO.out.trans (Out.ofNew (S := bs) b3.out) fun _ _ h => h).trans O4'.out fun i _ hi => by subst hi; exact HB.out.bm
            have o2 := o1.setCell (p := ⟨b, 2, none⟩) (fun _ => hb'.out) (.int .i64 (T + M))
            exact ⟨o2.os, o2.tape, o2.output, o2.size, o2.block⟩
        case measure => simp [intOf]; omega
      · have q2 : (K : Int) ≤ (k : Int) := by omega
        obtain rfl : kk = 0 := by rw [← hkk, List.getD, List.getElem?_eq_none (by rw [hKl.out]; omega)]; rfl
        clear hkk
        go_wp2_with (go_at_call 55; refine (HC.out _ (Below.refl _ _)).mono ?_; rintro e w2 ⟨p', c', rfl, R2, e2, hb2⟩; replace R2 := Lib.hid R2; replace e2 := Lib.hid e2; replace hb2 := Lib.hid hb2)
        obtain ⟨W, hW⟩ : ∃ W, w2.alloc (.cells #[.slice p' (cutN L[k] 0) c', .int .i64 (cutN L[k] 0)] 60 (0, 0)) = W := ⟨_, rfl⟩
        have N3 : W.heap[w2.heap.size]? = some (.cells #[.slice p' (cutN L[k] 0) c', .int .i64 (cutN L[k] 0)] 60 (0, 0)) := by rw [← hW]; exact at_new _ _
        have b3 : Hid (Below wo.heap.size wo W) := Lib.hid (by rw [← hW]; exact hb2.out.alloc hb2.out.size _)
        have s3 : Hid (wo.heap.size ≤ w2.heap.size ∧ w2.heap.size < W.heap.size) := Lib.hid (by rw [← hW]; exact ⟨hb2.out.size, by simp⟩)
        rw [hW]
        obtain ⟨M, hM⟩ : ∃ M, cutN L[k] 0 = M := ⟨_, rfl⟩
        rw [hM] at N3 R2 e2 ⊢
        have HM := Lib.hid hM
        have B3 := Lib.hid (HB.out.below b3.out)
        clear hW c0 hlk d0 hM 
        have n0 := (at_cell N3 0 : _ = some _)
        have n1 := (at_cell N3 1 : _ = some _)
        have c0 := (at_cell B3.out.box 0 : _ = some _)
        go_still_tail 6, (by kernel_rfl)
        change wpList _ _ _ _ _ W.drew
        refine wp_store rfl _ _ _ _ rfl _ _ keyed Tryz.underlying62 m _ _ rfl (B3.out.map.kept (w' := W.drew) rfl) nm.data.toList rfl (.agg #[.slice p' M c', .int .i64 M]) rfl (str_key hname) (str_inj _) ?_
        intro w4 K4 O4
        have O4' : Hid (Out (fun k => k = m) W w4) := Lib.hid O4.ofDrew
        have B4 := Lib.hid (cr_step HB.out hkV hkL HX.out.1 HX.out.2.1 HX.out.2.2.1 HX.out.2.2.2 HM.out HS.out hlen b3.out K4 O4'.out R2.out e2.out)
        have N4 := O4'.out.at_ N3 (fun e => by have := HB.out.lt.2; have := s3.out.1; omega)
        clear n0 n1 c0 K4 O4 N3
        have n0 := (at_cell N4 0 : _ = some _)
        have t2 := (at_cell B4.out.box 2 : _ = some _)
        have tf := at_frozen B4.out.box 2
        have hT1 : 0 ≤ (tot ((crsL L ks).take k) : Int) ∧ (tot ((crsL L ks).take k) : Int) ≤ 16777216 := ⟨by omega, by have := tot_take (crsL L ks) k; have := tot_cut hSR.out ks; omega⟩
        have hM2 : (M : Int) ≤ 16777216 := by have := (cutN_le HS.out 0).2; rw [HM.out] at this; omega
        obtain ⟨T, hT⟩ : ∃ T : Int, (tot ((crsL L ks).take k) : Int) = T := ⟨_, rfl⟩
        rw [hT] at t2 hT1
        obtain ⟨hT1, hT2⟩ := hT1
        have HT := Lib.hid hT
        clear hT N4
        go_wp2_with fail
        go_still_tail 10, (by kernel_rfl)
        change wpList _ _ _ _ _ w4.drew
        go_wp2_with fail
        go_roundw
        case rel =>
          refine ⟨k + 1, by omega, by go_num, ⟨_, cr_next HV.out hkL ⟨cutF L[k] 0, .slice p' M c'⟩ (by rw [HX.out.2.2.2]), ?_⟩, ?_⟩
          · have := B4.out.total_ (T + M)
            rw [tot_next hkL, HX.out.2.2.2]
            have e : ((tot ((crsL L ks).take k) + (cutF L[k] 0).bs.length : Nat) : Int) = T + M := by
              have h1 := (cutN_le HS.out 0).2
              rw [← HT.out, ← HM.out]
              simp only [cutF, List.length_take]
              omega
            rw [e]
            exact this.kept fun _ _ _ => rfl
          · have o1 := (HO.out.trans (Out.ofNew (S := bs) b3.out) fun _ _ h => h).trans O4'.out fun i _ hi => by subst hi; exact HB.out.bm
            have o2 := o1.setCell (p := ⟨b, 2, none⟩) (fun _ => hb'.out) (.int .i64 (T + M))
            exact ⟨o2.os, o2.tape, o2.output, o2.size, o2.block⟩
        case measure => simp [intOf]; omega
    · obtain rfl : k = N := by omega
      have q1 : ¬ (k : Int) < (k : Int) := by omega
      have HC := Lib.hid C
      clear C
      go_wp2_with fail
      go_end0
      obtain ⟨⟨Vi, hVi, Bi⟩, Oi⟩ := HC.out
      have e1 : (crsL L ks).take k = crsL L ks := List.take_of_length_le (by rw [crs_len, hLN.out]; omega)
      rw [e1] at hVi Bi
      rw [List.drop_eq_nil_of_le (by rw [hLN.out]; omega), List.append_nil] at hVi
      exact ⟨rfl, Vi, hVi, bs, Bi, O2.out.trans Oi fun _ _ h => h, fun _ h => .inl h, fun i hi => Nat.lt_of_lt_of_le (hA1.out i hi) Oi.size⟩
end
end Go.Proofs.YtngangdjbbbbdaaGreatDoor.Sto
end

section
namespace Go.Proofs.YtngangdjbbbbdaaGreatDoor.Sto
open Go.RowKit Go.Proofs.YtngangdjbbbbdaaGreatDoor.Own Go.Proofs.YtngangdjbbbbdaaGreatDoor.KM Go.Proofs.YtngangdjbbbbdaaGreatDoor.Flt
open Go.Proofs.YtngangdjbbbbdaaGreatDoor.Rw (str strs Row1)

section
variable {w : World} {bs : Nat → Prop} {b : Nat} {t : St}

theorem sto_crash (h : Sto w bs b t) (hl : t.L.length ≤ 1000000) {p : Option Addr} {c : Nat} {ks : List Int} (hk : Keep w bs p c ks) :
    Calls Tryz.prog 27 #[pb b, .slice p ks.length c] w fun e w' => e = .returned (.tuple #[]) ∧ Does w bs w' b (crs t ks) := by
  obtain ⟨m, V, eV, hB⟩ := h.is
  have hlen : V.length = t.L.length := by rw [← eV, List.length_map]
  refine (crash_calls hB h.all eV h.ok.names h.ok.sures (by have := tot_top h.ok; omega) (by omega) hk).mono fun e w' ⟨he, V', hV', bs', B', ho, h1, h2⟩ => ?_
  exact ⟨he, bs', ⟨h.ok.crs ks, h2, m, V', hV', B'⟩, ho, h1⟩
end
end Go.Proofs.YtngangdjbbbbdaaGreatDoor.Sto
end

section
namespace Go.Proofs.YtngangdjbbbbdaaGreatDoor.Sto
open Go.RowKit Go.Proofs.YtngangdjbbbbdaaGreatDoor.Own Go.Proofs.YtngangdjbbbbdaaGreatDoor.Flt
open Go.Proofs.YtngangdjbbbbdaaGreatDoor.Rw (str strs Row1)
theorem keep_new (w : World) (n : Int) (h1 : -9223372036854775808 ≤ n) (h2 : n ≤ 9223372036854775807) (bs : Nat → Prop) (hb : ∀ k, bs k → k < w.heap.size) : Keep (w.alloc (.cells #[.int .i64 n] 3 (0, 0))) bs (some ⟨w.heap.size, 0, none⟩) 1 [n] := by
  refine ⟨⟨Nat.le_refl _, by unfold maxLen; omega, .inr ⟨_, 0, rfl, by simp, fun i x hx => ?_⟩⟩, fun k hk => by simp at hk; omega, .inr fun g o e hg => ?_⟩
  · rw [at_cell (at_new w _)]
    rw [Nat.zero_add]
    simpa [iv] using hx
  · cases e
    have := hb _ hg
    omega
end Go.Proofs.YtngangdjbbbbdaaGreatDoor.Sto
end

section
namespace Go.Proofs.YtngangdjbbbbdaaGreatDoor.Rec
open Go.RowKit Go.Proofs.YtngangdjbbbbdaaGreatDoor.Sum Go.Proofs.YtngangdjbbbbdaaGreatDoor.Own

set_option maxRecDepth 100000 in
set_option maxHeartbeats 1000000 in
/-- two slices that hold the same items -/
theorem rsame_calls (xs : List Itm) (p q : Option Addr) (c d : Nat) (w : World) (h1 : Its w xs p c) (h2 : Its w xs q d) :
    Calls Tryz.prog 31 #[.slice p xs.length c, .slice q xs.length d] w fun e w' => e = .returned (.bool true) ∧ Below w.heap.size w w' := by
  have hc1 := h1.cap
  have hm1 := h1.max
  unfold maxLen at hm1
  have q2 : (xs.length : Int) ≤ 9223372036854775807 := by omega
  have H1 := Lib.hid h1
  have H2 := Lib.hid h2
  clear h1 h2
  go_enter Tryz.func31, Tryz.ntmps31
  go_wp2_with fail
  go_loopw [5] (fun i wr => ∃ k m : Nat, k ≤ xs.length ∧ i = .int .i64 k ∧ wr = w.drewN m) (fun i _ => xs.length - (intOf i).toNat)
  case atStart => exact ⟨0, 0, by omega, rfl, rfl⟩
  case round =>
    obtain ⟨k, m, hk, rfl, rfl⟩ := hrel
    rcases Nat.lt_or_eq_of_le hk with hlt | rfl
    · rcases H1.out.cells with h0 | ⟨b, o, rfl, hb, hc⟩
      · rw [h0] at hlt; simp at hlt
      · rcases H2.out.cells with h0 | ⟨b', o', rfl, hb', hc'⟩
        · rw [h0] at hlt; simp at hlt
        · obtain ⟨c0, c1, c2⟩ := hc k hlt
          obtain ⟨d0, d1, d2⟩ := hc' k hlt
          have q1 : (k : Int) < (xs.length : Int) := by omega
          generalize xs[k] = x at *
          clear hc hc'
          go_wp2_with fail
          go_quiet (fail)
          go_wp2_with fail
          go_roundw
          case rel => exact ⟨k + 1, _, by omega, by go_num, rfl⟩
          case measure => simp [intOf]; omega
    · go_wp2_with fail
      go_ret
      exact ⟨rfl, below_drewN (Below.refl _ _) _⟩
end Go.Proofs.YtngangdjbbbbdaaGreatDoor.Rec
end

section
namespace Go.Proofs.YtngangdjbbbbdaaGreatDoor.Rst
open Go.RowKit Go.Proofs.YtngangdjbbbbdaaGreatDoor.Own Go.Proofs.YtngangdjbbbbdaaGreatDoor.Sto Go.Proofs.YtngangdjbbbbdaaGreatDoor.Gen Go.Proofs.YtngangdjbbbbdaaGreatDoor.Flt
open Go.Proofs.YtngangdjbbbbdaaGreatDoor.Rec (Itm Its chk bytesOf flat cv cv_len cv_app)
open Go.Proofs.YtngangdjbbbbdaaGreatDoor.Rw (str strs Row1 Texts)
open Go.Proofs.YtngangdjbbbbdaaGreatDoor.Jrn (putT putC Wj JPost)
open Go.Proofs.YtngangdjbbbbdaaGreatDoor.Tl (IsTail)

/-- a store of the call's own -/
structure Ws (w0 w : World) (bs : Nat → Prop) (b : Nat) (t : St) : Prop where
  below : Below w0.heap.size w0 w
  sto : Sto w bs b t
  mine : ∀ k, bs k → w0.heap.size ≤ k
section
variable {w0 w w' : World} {bs bs' : Nat → Prop} {b : Nat} {t t' : St}
theorem Ws.same (h : Ws w0 w bs b t) (hb : Below w.heap.size w w') : Ws w0 w' bs b t := ⟨h.below.trans (hb.mono h.below.size), h.sto.below hb, h.mine⟩
theorem Ws.go (h : Ws w0 w bs b t) (hs : Sto w' bs' b t') (ho : Out bs w w') (hn : ∀ k, bs' k → bs k ∨ w.heap.size ≤ k) : Ws w0 w' bs' b t' := by
  have hsz := h.below.size
  refine ⟨h.below.trans (ho.below hsz fun i hi => h.mine i hi), hs, fun k hk => ?_⟩
  rcases hn k hk with h4 | h4
  · exact h.mine k h4
  · omega
end
/-- what Load told, in a box; none of it is the store's -/
structure Ld (w : World) (bs : Nat → Prop) (k : Nat) (xs : List Itm) (n : Nat) (d z : Int) (p : Option Addr) (c : Nat) : Prop where
  box : w.heap[k]? = some (.cells #[.slice p n c, .int .i64 d, .int .i64 z] 71 (0, 0))
  own : ∃ B, w.ownsRow B 43 3 (.slice p n c) n (cv xs)
  num : n = xs.length
  far : ¬ bs k
  row : ∀ g, (Value.slice p n c).ownBlock = some g → ¬ bs g
section
variable {w w' : World} {bs bs' : Nat → Prop} {k n c : Nat} {xs : List Itm} {d z : Int} {p : Option Addr}
theorem Ld.same (h : Ld w bs k xs n d z p c) (hb : Below w.heap.size w w') : Ld w' bs k xs n d z p c := by
  obtain ⟨B, ho⟩ := h.own
  exact ⟨(hb.block _ (at_lt h.box)).trans h.box, ⟨B, own_below ho hb⟩, h.num, h.far, h.row⟩
theorem Ld.go (h : Ld w bs k xs n d z p c) (ho : Out bs w w') (hn : ∀ i, bs' i → bs i ∨ w.heap.size ≤ i) : Ld w' bs' k xs n d z p c := by
  obtain ⟨B, hr⟩ := h.own
  refine ⟨(ho.block _ (at_lt h.box) h.far).trans h.box, ⟨B, Tree.own_out hr ho fun i hi hs => h.row i hi hs⟩, h.num, fun hk => ?_, fun g hg hb => ?_⟩
  · rcases hn _ hk with h1 | h1
    · exact h.far h1
    · have := at_lt h.box; omega
  · rcases hn _ hb with h1 | h1
    · exact h.row g hg h1
    · have := (Tree.own_lt hr hg).2; omega
theorem Ld.cells (h : Ld w bs k xs n d z p c) : w.cell? ⟨k, 0, none⟩ = some (.slice p n c) ∧ w.cell? ⟨k, 1, none⟩ = some (.int .i64 d) ∧ w.cell? ⟨k, 2, none⟩ = some (.int .i64 z) := ⟨at_cell h.box 0, at_cell h.box 1, at_cell h.box 2⟩
theorem Ld.its (h : Ld w bs k xs n d z p c) : Its w xs p c := by
  obtain ⟨B, hr⟩ := h.own
  exact Rec.owns_its hr h.num
theorem Ld.cap (h : Ld w bs k xs n d z p c) : n ≤ c ∧ c ≤ 9223372036854775807 := by
  have := h.its.cap
  have := h.its.max
  have := h.num
  unfold maxLen at *
  omega
/-- .. as it is put into its box -/
theorem load_new {w0 w1 : World} {L : List Bs} {v : Value} (hall : ∀ k, bs k → k < w0.heap.size) (ho : w1.ownsRow w0.heap.size 43 3 v (ld L).length (cv (ld L))) (hs : w0.heap.size ≤ w1.heap.size) (hx : ld L = xs) : ∃ p n c, v = .slice p n c ∧ n = xs.length ∧ ∀ d z : Int, Ld (w1.alloc (.cells #[.slice p n c, .int .i64 d, .int .i64 z] 71 (0, 0))) bs w1.heap.size xs n d z p c := by
  subst hx
  obtain ⟨p, c, rfl⟩ := own_shape ho
  refine ⟨p, _, c, rfl, rfl, fun d z => ⟨at_new _ _, ⟨_, World.ownsRow.alloc ho _⟩, rfl, fun hk => ?_, fun g hg hb => ?_⟩⟩
  · have := hall _ hk; omega
  · have := hall _ hb; have := (Tree.own_lt ho hg).1; omega
end
theorem IsTail.base {w0 w1 w : World} {k b n m : Nat} {q : Option Nat} {D : Bs} (h : IsTail w1 w k b q n m D) (hb : Below w0.heap.size w0 w1) : IsTail w0 w k b q n m D :=
  ⟨h.box, h.ring, h.far, hb.trans (h.below.mono hb.size), fun i hi => Nat.le_trans hb.size (h.mine i hi), Nat.le_trans hb.size h.kmine⟩
theorem IsTail.go {w0 w w' : World} {k b n m : Nat} {q : Option Nat} {D : Bs} {S : Nat → Prop} (h : IsTail w0 w k b q n m D) (ho : Out S w w') (hk : ¬ S k) (hq : ∀ i, Ring.two b q i → ¬ S i) (hS : ∀ i, S i → w0.heap.size ≤ i) : IsTail w0 w' k b q n m D :=
  ⟨(ho.block _ (at_lt h.box) hk).trans h.box, h.ring.out ho hq, h.far, h.below.trans (ho.below h.below.size hS), h.mine, h.kmine⟩

theorem nm_1 : nm lg 1 = [108, 111, 103, 46, 49] := by rw [nm_more _ (by decide), Digit.dec_lt (by omega) (by omega)]; rfl
theorem nm_2 : nm lg 2 = [108, 111, 103, 46, 50] := by rw [nm_more _ (by decide), Digit.dec_lt (by omega) (by omega)]; rfl
theorem ser_3 : ser lg (held 3) = [[108, 111, 103, 46, 50], [108, 111, 103, 46, 49], [108, 111, 103]] := by
  show [nm lg 2, nm lg 1, nm lg 0] = _
  rw [nm_1, nm_2, nm_zero lg (by omega)]; rfl
theorem b_a : bytesOf ⟨1, 4, ⟨#[97, 98, 10, 99]⟩⟩ = [87, 1, 0, 0, 0, 0, 0, 4, 0, 4, 97, 98, 10, 99, 59, 107, 113, 251] := by decide +kernel
theorem b_b : bytesOf ⟨1, 5, ⟨#[100, 10]⟩⟩ = [87, 1, 0, 0, 0, 0, 0, 5, 0, 2, 100, 10, 110, 111, 124, 183] := by decide +kernel
theorem eq_p1 : putT ⟨[], 1000, 0⟩ [108, 111, 103] (held 3) 64 [87, 1, 0, 0, 0, 0, 0, 4, 0, 4, 97, 98, 10, 99, 59, 107, 113, 251] = ⟨[⟨[108, 111, 103], [87, 1, 0, 0, 0, 0, 0, 4, 0, 4, 97, 98, 10, 99, 59, 107, 113, 251], 0⟩], 1000, 0⟩ ∧ putC ⟨[], 1000, 0⟩ [108, 111, 103] (held 3) 64 [87, 1, 0, 0, 0, 0, 0, 4, 0, 4, 97, 98, 10, 99, 59, 107, 113, 251] = 0 := by
  unfold putT putC
  rw [show ser [108, 111, 103] (held 3) = _ from ser_3]
  constructor <;> rfl
theorem eq_p2 : putT ⟨[⟨[108, 111, 103], [87, 1, 0, 0, 0, 0, 0, 4, 0, 4, 97, 98, 10, 99, 59, 107, 113, 251], 18⟩], 1000, 0⟩ [108, 111, 103] (held 3) 64 [87, 1, 0, 0, 0, 0, 0, 5, 0, 2, 100, 10, 110, 111, 124, 183] = ⟨[⟨[108, 111, 103], [87, 1, 0, 0, 0, 0, 0, 4, 0, 4, 97, 98, 10, 99, 59, 107, 113, 251, 87, 1, 0, 0, 0, 0, 0, 5, 0, 2, 100, 10, 110, 111, 124, 183], 18⟩], 1000, 0⟩ ∧ putC ⟨[⟨[108, 111, 103], [87, 1, 0, 0, 0, 0, 0, 4, 0, 4, 97, 98, 10, 99, 59, 107, 113, 251], 18⟩], 1000, 0⟩ [108, 111, 103] (held 3) 64 [87, 1, 0, 0, 0, 0, 0, 5, 0, 2, 100, 10, 110, 111, 124, 183] = 0 := by
  unfold putT putC
  rw [show ser [108, 111, 103] (held 3) = _ from ser_3]
  constructor <;> rfl
theorem eq_s : synT ⟨[⟨[108, 111, 103], [87, 1, 0, 0, 0, 0, 0, 4, 0, 4, 97, 98, 10, 99, 59, 107, 113, 251], 0⟩], 1000, 0⟩ [108, 111, 103] = ⟨[⟨[108, 111, 103], [87, 1, 0, 0, 0, 0, 0, 4, 0, 4, 97, 98, 10, 99, 59, 107, 113, 251], 18⟩], 1000, 0⟩ ∧ synC ⟨[⟨[108, 111, 103], [87, 1, 0, 0, 0, 0, 0, 4, 0, 4, 97, 98, 10, 99, 59, 107, 113, 251], 0⟩], 1000, 0⟩ [108, 111, 103] = 0 := by constructor <;> rfl
theorem eq_c : crs ⟨[⟨[108, 111, 103], [87, 1, 0, 0, 0, 0, 0, 4, 0, 4, 97, 98, 10, 99, 59, 107, 113, 251, 87, 1, 0, 0, 0, 0, 0, 5, 0, 2, 100, 10, 110, 111, 124, 183], 18⟩], 1000, 0⟩ [5] = ⟨[⟨[108, 111, 103], [87, 1, 0, 0, 0, 0, 0, 4, 0, 4, 97, 98, 10, 99, 59, 107, 113, 251, 87, 1, 0, 0, 0], 23⟩], 1000, 0⟩ := by rfl
theorem eq_t : trT ⟨[⟨[108, 111, 103], [87, 1, 0, 0, 0, 0, 0, 4, 0, 4, 97, 98, 10, 99, 59, 107, 113, 251, 87, 1, 0, 0, 0], 23⟩], 1000, 0⟩ [[108, 111, 103, 46, 50], [108, 111, 103, 46, 49], [108, 111, 103]] = ⟨[⟨[108, 111, 103, 46, 49], [87, 1, 0, 0, 0, 0, 0, 4, 0, 4, 97, 98, 10, 99, 59, 107, 113, 251, 87, 1, 0, 0, 0], 23⟩], 1000, 0⟩ ∧ trC ⟨[⟨[108, 111, 103], [87, 1, 0, 0, 0, 0, 0, 4, 0, 4, 97, 98, 10, 99, 59, 107, 113, 251, 87, 1, 0, 0, 0], 23⟩], 1000, 0⟩ [[108, 111, 103, 46, 50], [108, 111, 103, 46, 49], [108, 111, 103]] = 0 := by constructor <;> rfl
theorem fnd_4 : (fnd ⟨[⟨[108, 111, 103], [87, 1, 0, 0, 0, 0, 0, 4, 0, 4, 97, 98, 10, 99, 59, 107, 113, 251, 87, 1, 0, 0, 0], 23⟩], 1000, 0⟩ (ser [108, 111, 103] (held 3))).map Fl.bs = [[87, 1, 0, 0, 0, 0, 0, 4, 0, 4, 97, 98, 10, 99, 59, 107, 113, 251, 87, 1, 0, 0, 0]] := by rw [show ser [108, 111, 103] (held 3) = _ from ser_3]; rfl
theorem fnd_5 : (fnd ⟨[⟨[108, 111, 103, 46, 49], [87, 1, 0, 0, 0, 0, 0, 4, 0, 4, 97, 98, 10, 99, 59, 107, 113, 251, 87, 1, 0, 0, 0], 23⟩], 1000, 0⟩ (ser [108, 111, 103] (held 3))).map Fl.bs = [[87, 1, 0, 0, 0, 0, 0, 4, 0, 4, 97, 98, 10, 99, 59, 107, 113, 251, 87, 1, 0, 0, 0]] := by rw [show ser [108, 111, 103] (held 3) = _ from ser_3]; rfl
theorem scan_x : Rec.scan [87, 1, 0, 0, 0, 0, 0, 4, 0, 4, 97, 98, 10, 99, 59, 107, 113, 251, 87, 1, 0, 0, 0] = ([⟨1, 4, ⟨#[97, 98, 10, 99]⟩⟩], 18) := by
  have h := Rec.scan_torn (l := [⟨1, 4, ⟨#[97, 98, 10, 99]⟩⟩, ⟨1, 5, ⟨#[100, 10]⟩⟩]) (fun x hx => by simp at hx; rcases hx with rfl | rfl <;> decide) 23
  have e : (flat [⟨1, 4, ⟨#[97, 98, 10, 99]⟩⟩, ⟨1, 5, ⟨#[100, 10]⟩⟩]).take 23 = [87, 1, 0, 0, 0, 0, 0, 4, 0, 4, 97, 98, 10, 99, 59, 107, 113, 251, 87, 1, 0, 0, 0] := by
    rw [Rec.flat_cons, Rec.flat_cons, b_a, b_b]; rfl
  rw [e] at h
  exact h
theorem ld_x : ld [[87, 1, 0, 0, 0, 0, 0, 4, 0, 4, 97, 98, 10, 99, 59, 107, 113, 251, 87, 1, 0, 0, 0]] = [⟨1, 4, ⟨#[97, 98, 10, 99]⟩⟩] := by unfold ld; rw [List.flatMap_cons, scan_x]; rfl
theorem torn_x : tornL [[87, 1, 0, 0, 0, 0, 0, 4, 0, 4, 97, 98, 10, 99, 59, 107, 113, 251, 87, 1, 0, 0, 0]] = 5 := by unfold tornL torn1; rw [scan_x]; rfl
theorem lst_x : lstL [⟨1, 4, ⟨#[97, 98, 10, 99]⟩⟩] = 0 := by unfold lstL lst1; rfl
theorem dat_x : dat [⟨1, 4, ⟨#[97, 98, 10, 99]⟩⟩] = [97, 98, 10, 99] := by rfl
theorem tail_x : Tl.rtail [97, 98, 10, 99] 1 10 = [99] := by decide
theorem last_x : lastAt [⟨1, 4, ⟨#[97, 98, 10, 99]⟩⟩] = 4 := rfl
theorem load_4 {w : World} {bs : Nat → Prop} {b : Nat} {t : St} (h : Sto w bs b t) (he : (fnd t (ser [108, 111, 103] (held 3))).map Fl.bs = [[87, 1, 0, 0, 0, 0, 0, 4, 0, 4, 97, 98, 10, 99, 59, 107, 113, 251, 87, 1, 0, 0, 0]]) :
    Calls Tryz.prog 28 #[pb b, .string ⟨#[108, 111, 103]⟩, .int .i64 3] w fun e w' => ∃ v, e = .returned (.agg #[v, .int .i64 5, .int .i64 0]) ∧ w'.ownsRow w.heap.size 43 3 v (ld [[87, 1, 0, 0, 0, 0, 0, 4, 0, 4, 97, 98, 10, 99, 59, 107, 113, 251, 87, 1, 0, 0, 0]]).length (cv (ld [[87, 1, 0, 0, 0, 0, 0, 4, 0, 4, 97, 98, 10, 99, 59, 107, 113, 251, 87, 1, 0, 0, 0]])) ∧ Below w.heap.size w w' := by
  have := load_calls h lg (by decide) 3
  rw [show (fnd t (ser lg (held 3))).map Fl.bs = _ from he] at this
  refine this.mono fun e w' hp => ?_
  unfold LoadPost at hp
  rw [torn_x] at hp
  rw [show lstL (ld [[87, 1, 0, 0, 0, 0, 0, 4, 0, 4, 97, 98, 10, 99, 59, 107, 113, 251, 87, 1, 0, 0, 0]]) = 0 by rw [ld_x]; exact lst_x] at hp
  exact hp
theorem begin_4 {w : World} {bs : Nat → Prop} {b : Nat} (h : Sto w bs b ⟨[⟨[108, 111, 103], [87, 1, 0, 0, 0, 0, 0, 4, 0, 4, 97, 98, 10, 99, 59, 107, 113, 251, 87, 1, 0, 0, 0], 23⟩], 1000, 0⟩) :
    Calls Tryz.prog 7 #[pb b, .string ⟨#[108, 111, 103]⟩, .int .i64 3] w fun e w' => DoesE w bs e w' b ⟨[⟨[108, 111, 103, 46, 49], [87, 1, 0, 0, 0, 0, 0, 4, 0, 4, 97, 98, 10, 99, 59, 107, 113, 251, 87, 1, 0, 0, 0], 23⟩], 1000, 0⟩ 0 := by
  have := begin_some h lg (by decide) 3 rfl
  rw [show ser lg (held 3) = _ from ser_3, eq_t.1, eq_t.2] at this
  exact this
theorem crash_3 {w : World} {bs : Nat → Prop} {b : Nat} (h : Sto w bs b ⟨[⟨[108, 111, 103], [87, 1, 0, 0, 0, 0, 0, 4, 0, 4, 97, 98, 10, 99, 59, 107, 113, 251, 87, 1, 0, 0, 0, 0, 0, 5, 0, 2, 100, 10, 110, 111, 124, 183], 18⟩], 1000, 0⟩) :
    Calls Tryz.prog 27 #[pb b, .slice (some ⟨w.heap.size, 0, none⟩) 1 1] (w.alloc (.cells #[.int .i64 5] 3 (0, 0))) fun e w' => e = .returned (.tuple #[]) ∧ ∃ bs', Sto w' bs' b ⟨[⟨[108, 111, 103], [87, 1, 0, 0, 0, 0, 0, 4, 0, 4, 97, 98, 10, 99, 59, 107, 113, 251, 87, 1, 0, 0, 0], 23⟩], 1000, 0⟩ ∧ Out bs (w.alloc (.cells #[.int .i64 5] 3 (0, 0))) w' ∧ ∀ k, bs' k → bs k ∨ (w.alloc (.cells #[.int .i64 5] 3 (0, 0))).heap.size ≤ k := by
  have hb := (Below.refl w.heap.size w).alloc (Nat.le_refl _) (.cells #[.int .i64 5] 3 (0, 0))
  have := sto_crash (h.below hb) (by decide) (keep_new w 5 (by decide) (by decide) bs h.all)
  rw [eq_c] at this
  exact this.mono fun e w' ⟨h1, bs', h2, h3, h4⟩ => ⟨h1, bs', h2, h3, h4⟩
theorem w_add {w0 w : World} {bs : Nat → Prop} {j b : Nat} {t t' : St} (h : Wj w0 w bs j b t lg 3 64 false 0) (k a : Int) (s : ByteArray) (hx : chk ⟨k, a, s⟩ = 0) (d : Bs) (hd : bytesOf ⟨k, a, s⟩ = d) (he : putT t lg (held 3) 64 d = t' ∧ putC t lg (held 3) 64 d = 0) :
    Calls Tryz.prog 25 #[pb j, .agg #[.int .i64 k, .int .i64 a, .string s]] w (JPost w bs j b lg 3 64 t' false 0 true) := by
  have := Jrn.add_ok h.jat (by decide) (by omega) (by omega) (by omega) (by omega) k a s hx (by rw [hd]; exact he.2)
  rwa [hd, he.1] at this
theorem w_sync {w0 w : World} {bs : Nat → Prop} {j b : Nat} {t t' : St} (h : Wj w0 w bs j b t lg 3 64 false 0) (he : synT t lg = t' ∧ synC t lg = 0) : Calls Tryz.prog 26 #[pb j] w (JPost w bs j b lg 3 64 t' false 0 true) := by
  have := Jrn.sync_ok h.jat he.2
  rwa [he.1] at this
set_option maxRecDepth 100000 in
set_option maxHeartbeats 16000000 in
theorem works_walk (w : World) : Calls Tryz.prog 9 #[] w fun e w' => e = .returned (.bool true) ∧ Below w.heap.size w w' := by
  go_enter Tryz.func9, Tryz.ntmps9
  go_wp2_with fail
  refine (Sto.new_in 1000 (by omega) (by omega) _).mono ?_
  rintro e V1 ⟨b, rfl, bs1, s1, hb1, hn1⟩
  have S1 := Lib.hid s1
  have B1 := Lib.hid hb1
  have N1 := Lib.hid hn1
  clear s1 hb1 hn1
  go_wp2_with fail
  refine (Jrn.new_some b lg 3 64 (by omega) (by omega) _).mono ?_
  rintro e V2 ⟨rfl, hj2, hb2⟩
  have W2 := Lib.hid (Wj.new B1.out S1.out N1.out hj2 hb2)
  generalize V1.heap.size = j at *
  clear hj2 hb2 S1 B1 N1
  have HA1 := Lib.hid (w_add W2.out 1 4 ⟨#[97, 98, 10, 99]⟩ (by decide) [87, 1, 0, 0, 0, 0, 0, 4, 0, 4, 97, 98, 10, 99, 59, 107, 113, 251] b_a eq_p1)
  go_wp2_with fail
  refine HA1.out.mono ?_
  intro e V3 hd
  obtain ⟨rfl, bs3, hw⟩ := W2.out.post hd
  have W3 := Lib.hid hw
  clear hd hw W2 HA1
  have HS1 := Lib.hid (w_sync W3.out eq_s)
  go_wp2_with fail
  refine HS1.out.mono ?_
  intro e V4 hd
  obtain ⟨rfl, bs4, hw⟩ := W3.out.post hd
  have W4 := Lib.hid hw
  clear hd hw W3 HS1
  have HA2 := Lib.hid (w_add W4.out 1 5 ⟨#[100, 10]⟩ (by decide) [87, 1, 0, 0, 0, 0, 0, 5, 0, 2, 100, 10, 110, 111, 124, 183] b_b eq_p2)
  go_wp2_with fail
  refine HA2.out.mono ?_
  intro e V5 hd
  obtain ⟨rfl, bs5, hw⟩ := W4.out.post hd
  have W5 := Lib.hid (show Ws w V5 bs5 b ⟨[⟨[108, 111, 103], [87, 1, 0, 0, 0, 0, 0, 4, 0, 4, 97, 98, 10, 99, 59, 107, 113, 251, 87, 1, 0, 0, 0, 0, 0, 5, 0, 2, 100, 10, 110, 111, 124, 183], 18⟩], 1000, 0⟩ from ⟨hw.below, hw.jat.sto, hw.mine⟩)
  have HC := Lib.hid (crash_3 W5.out.sto)
  clear hd hw W4 HA2
  go_wp2_with fail
  refine HC.out.mono ?_
  rintro e V6 ⟨rfl, bs6, hs, ho, hn⟩
  have W6 := Lib.hid ((W5.out.same ((Below.refl V5.heap.size V5).alloc (Nat.le_refl _) (.cells #[.int .i64 5] 3 (0, 0)))).go hs ho hn)
  have HL := Lib.hid (load_4 W6.out.sto fnd_4)
  clear hs ho hn W5 HC
  go_wp2_with fail
  refine HL.out.mono ?_
  rintro e V7 ⟨v7, rfl, ho7, hb7⟩
  obtain ⟨p7, n7, c7, rfl, hn7, hld⟩ := load_new W6.out.sto.all ho7 hb7.size ld_x
  have D7 := Lib.hid (hld 5 0)
  have W7 := Lib.hid (W6.out.same (hb7.alloc hb7.size (.cells #[.slice p7 n7 c7, .int .i64 5, .int .i64 0] 71 (0, 0))))
  have hn71 : n7 = 1 := hn7
  subst hn71
  clear ho7 hb7 hld hn7 W6 HL
  go_wp2_with fail
  generalize V7.alloc (.cells #[.slice p7 1 c7, .int .i64 5, .int .i64 0] 71 (0, 0)) = X7 at *
  generalize V7.heap.size = k7 at *
  obtain ⟨d0, d1, d2⟩ := D7.out.cells
  have HT := Lib.hid (tail_yes [⟨1, 4, ⟨#[97, 98, 10, 99]⟩⟩] p7 c7 1 D7.out.num X7 D7.out.its (by rw [dat_x]; decide) 1 10 (by omega) (by omega) (by omega) (by omega))
  go_wp2_with fail
  refine HT.out.mono ?_
  rintro e V8 ⟨kt, bt, qt, rfl, ht⟩
  rw [dat_x] at ht
  have T8 := Lib.hid (IsTail.base ht W7.out.below)
  have D8 := Lib.hid (D7.out.same ht.below)
  have W8 := Lib.hid (W7.out.same ht.below)
  have F8 : Hid (¬ bs6 kt ∧ ∀ i, Ring.two bt qt i → ¬ bs6 i) := Lib.hid ⟨fun h => by have := W7.out.sto.all _ h; have := ht.kmine; omega, fun i hi h => by have := W7.out.sto.all _ h; have := ht.mine i hi; omega⟩
  clear ht D7 W7 HT d0 d1 d2
  go_wp2_with fail
  refine (tail_no none 0 0 0 1 (.inl rfl) (by omega) _).mono ?_
  rintro e V9 ⟨rfl, hb9⟩
  have T9 := Lib.hid (T8.out.same hb9)
  have D9 := Lib.hid (D8.out.same hb9)
  have W9 := Lib.hid (W8.out.same hb9)
  have HBG := Lib.hid (begin_4 W9.out.sto)
  clear hb9 T8 D8 W8
  go_wp2_with fail
  refine HBG.out.mono ?_
  rintro e V10 ⟨v10, k10, bs10, rfl, hE, -, hs, ho, hn⟩
  obtain rfl : v10 = .nilIface := by
    rcases hE with ⟨_, h⟩ | ⟨h, _⟩
    · exact h
    · exact absurd rfl h
  have W10 := Lib.hid (W9.out.go hs ho hn)
  have D10 := Lib.hid (D9.out.go ho hn)
  have T10 := Lib.hid (IsTail.go T9.out ho F8.out.1 F8.out.2 (fun i hi => W9.out.mine i hi))
  have HR : Hid (Calls Tryz.prog 5 #[pb b, .string ⟨#[108, 111, 103]⟩] V10 fun e w' => (∃ s, e = .returned (.tuple #[.string s, .bool false])) ∧ Below V10.heap.size V10 w') := Lib.hid ((sto_read W10.out.sto ⟨#[108, 111, 103]⟩ (by decide)).mono fun e w' h => ⟨⟨_, h.1⟩, h.2⟩)
  clear hE hs ho hn HBG W9 D9 T9 F8
  go_wp2_with fail
  refine HR.out.mono ?_
  rintro e V11 ⟨⟨s11, rfl⟩, hb11⟩
  have W11 := Lib.hid (W10.out.same hb11)
  have D11 := Lib.hid (D10.out.same hb11)
  have T11 := Lib.hid (T10.out.same hb11)
  have HL := Lib.hid (load_4 W11.out.sto fnd_5)
  clear hb11 HR W10 D10 T10
  go_wp2_with fail
  refine HL.out.mono ?_
  rintro e V12 ⟨v12, rfl, ho12, hb12⟩
  obtain ⟨p12, n12, c12, rfl, hn12, hld⟩ := load_new W11.out.sto.all ho12 hb12.size ld_x
  have hba := hb12.alloc hb12.size (.cells #[.slice p12 n12 c12, .int .i64 5, .int .i64 0] 71 (0, 0))
  have E12 := Lib.hid (hld 5 0)
  have D12 := Lib.hid (D11.out.same hba)
  have T12 := Lib.hid (T11.out.same hba)
  have B12 := Lib.hid (W11.out.below.trans (hba.mono W11.out.below.size))
  have hn121 : n12 = 1 := hn12
  subst hn121
  clear ho12 hb12 hld hn12 hba W11 D11 T11 HL
  obtain ⟨d0, d1, d2⟩ := D12.out.cells
  obtain ⟨e0, e1, e2⟩ := E12.out.cells
  have hcp := D12.out.cap
  have HTX := Lib.hid (Tl.text_calls T12.out (by omega) (by omega) (by decide))
  rw [tail_x] at HTX
  go_wp2_with fail
  generalize V12.alloc (.cells #[.slice p12 1 c12, .int .i64 5, .int .i64 0] 71 (0, 0)) = X at *
  generalize V12.heap.size = k12 at *
  clear d0 d1 d2 e0 e1 e2
  refine HTX.out.mono ?_
  rintro e Y1 ⟨rfl, hb1⟩
  have D1 := Lib.hid (D12.out.same hb1)
  have E1 := Lib.hid (E12.out.same hb1)
  have B1 := Lib.hid (B12.out.trans (hb1.mono B12.out.size))
  obtain ⟨d0, d1, d2⟩ := D1.out.cells
  obtain ⟨e0, e1, e2⟩ := E1.out.cells
  have HSM := Lib.hid (Rec.rsame_calls [⟨1, 4, ⟨#[97, 98, 10, 99]⟩⟩] p12 p7 c12 c7 Y1 E1.out.its D1.out.its)
  clear hb1 D12 E12 T12 B12 HTX
  go_wp2_with fail
  refine HSM.out.mono ?_
  rintro e Y2 ⟨rfl, hb2⟩
  have D2 := Lib.hid (D1.out.same hb2)
  have B2 := Lib.hid (B1.out.trans (hb2.mono B1.out.size))
  obtain ⟨d0, d1, d2⟩ := D2.out.cells
  have HLA := Lib.hid (last_calls [⟨1, 4, ⟨#[97, 98, 10, 99]⟩⟩] p7 c7 1 rfl Y2 D2.out.its)
  rw [last_x] at HLA
  clear hb2 D1 E1 B1 HSM e0 e1 e2
  go_wp2_with fail
  refine HLA.out.mono ?_
  rintro e Y3 ⟨rfl, rfl⟩
  go_wp2_with fail
  refine (last_nil_calls none 0 _).mono ?_
  rintro e Y4 ⟨rfl, rfl⟩
  go_wp2_with fail
  go_ret
  exact ⟨rfl, B2.out⟩
end Go.Proofs.YtngangdjbbbbdaaGreatDoor.Rst
end

section
namespace Go.Proofs.YtngangdjbbbbdaaGreatDoor.Gen
open Go.RowKit Go.Proofs.YtngangdjbbbbdaaGreatDoor.Own Go.Proofs.YtngangdjbbbbdaaGreatDoor.Sto
open Go.Proofs.YtngangdjbbbbdaaGreatDoor.Rw (str strs Row1 Texts own_shape texts_own strs_app one_new)
open Go.Proofs.YtngangdjbbbbdaaGreatDoor.Tree (own_slice own_out out_grown own_lt)

set_option maxHeartbeats 1000000 in
theorem rname_calls (b : Bs) (i : Int) (hb : b.length ≤ 1000000) (h1 : -9223372036854775808 ≤ i) (h2 : i ≤ 9223372036854775807) (w : World) :
    Calls Tryz.prog 18 #[.string ⟨b.toArray⟩, .int .i64 i] w fun e w' => e = .returned (.string ⟨(nm b i).toArray⟩) ∧ w = w' := by
  by_cases hi : i ≤ 0
  · have H := Lib.hid (nm_zero b hi)
    go_enter Tryz.func18, Tryz.ntmps18
    go_wp2_with fail
    go_ret
    exact ⟨by rw [H.out]; rfl, rfl⟩
  · have H := Lib.hid (nm_more2 b hi)
    have L := Digit.dec_len h1 h2
    have s1 := size_of b
    have s2 := size_of (Digit.dec i)
    have hi2 : 0 < i := by omega
    go_enter Tryz.func18, Tryz.ntmps18
    go_wp2_with (go_at_call 44; refine (Digit.rput_calls i h1 h2 _).mono ?_; rintro e w' ⟨rfl, rfl⟩)
    go_ret
    exact ⟨by rw [H.out]; exact congrArg (fun x => Ending.returned (.string x)) (str_cat b [46] (Digit.dec i)), rfl⟩

end Go.Proofs.YtngangdjbbbbdaaGreatDoor.Gen
end

section
namespace Go.Proofs.YtngangdjbbbbdaaGreatDoor.Sto
open Go.RowKit Go.Proofs.YtngangdjbbbbdaaGreatDoor.Own
open Go.Proofs.YtngangdjbbbbdaaGreatDoor.Rw (str strs Row1)

theorem cell_alloc {w : World} {a : Addr} {x : Value} (h : w.cell? a = some x) (o : Obj) : (w.alloc o).cell? a = some x :=
  (World.cell?_of_block (Below.heap_alloc w o a.block (World.block_lt_of_cell? w a h))).trans h
/-- a file's cells -/
def fv (x : Fl) : List Value := [str x.nm, str x.bs, .int .i64 (x.sure : Int)]
def fvs (L : List Fl) : List Value := L.flatMap fv
theorem fvs_len (L : List Fl) : (fvs L).length = L.length * 3 := by
  induction L with
  | nil => rfl
  | cons x r ih =>
    have : fvs (x :: r) = fv x ++ fvs r := rfl
    rw [this, List.length_append, ih]
    simp [fv]; omega
theorem fvs_app (L M : List Fl) : fvs (L ++ M) = fvs L ++ fvs M := by simp [fvs]
theorem fvs_one (L : List Fl) : ∀ u ∈ fvs L, u.oneCell' = true := by
  intro u hu
  simp only [fvs, List.mem_flatMap] at hu
  obtain ⟨x, _, h⟩ := hu
  simp [fv] at h
  rcases h with rfl | rfl | rfl <;> rfl
theorem fvs_get {L : List Fl} {i : Nat} (h : i < L.length) (j : Nat) (hj : j < 3) : (fvs L)[3 * i + j]? = (fv L[i])[j]? := by
  induction L generalizing i with
  | nil => simp at h
  | cons x r ih =>
    have e : fvs (x :: r) = fv x ++ fvs r := rfl
    have l3 : (fv x).length = 3 := rfl
    rw [e]
    cases i with
    | zero => rw [List.getElem?_append_left (by omega)]; simp
    | succ i =>
      rw [List.getElem?_append_right (by omega), show 3 * (i + 1) + j - (fv x).length = 3 * i + j by omega]
      exact ih (by simpa using h)
/-- a slice of files -/
structure Fs (w : World) (p : Option Addr) (c : Nat) (L : List Fl) : Prop where
  cap : L.length ≤ c
  max : c ≤ maxLen
  nil : p = none → c = 0
  cells : L = [] ∨ ∃ b o, p = some ⟨b, o, none⟩ ∧ b < w.heap.size ∧ ∀ j u, (fvs L)[j]? = some u → w.cell? ⟨b, o + j, none⟩ = some u
theorem Fs.below {w w' : World} {p : Option Addr} {c : Nat} {L : List Fl} (h : Fs w p c L) (hb : Below w.heap.size w w') : Fs w' p c L :=
  ⟨h.cap, h.max, h.nil, h.cells.imp id fun ⟨b, o, e, hl, k⟩ => ⟨b, o, e, Nat.lt_of_lt_of_le hl hb.size, fun j u hu => (hb.cell (p := ⟨b, o + j, none⟩) hl).trans (k j u hu)⟩⟩
theorem Fs.out {w w' : World} {S : Nat → Prop} {p : Option Addr} {c : Nat} {L : List Fl} (h : Fs w p c L) (ho : Out S w w') (hp : ∀ b o, p = some ⟨b, o, none⟩ → ¬ S b) : Fs w' p c L :=
  ⟨h.cap, h.max, h.nil, h.cells.imp id fun ⟨b, o, e, hl, k⟩ => ⟨b, o, e, Nat.lt_of_lt_of_le hl ho.size, fun j u hu => (ho.cell (p := ⟨b, o + j, none⟩) hl (hp b o e)).trans (k j u hu)⟩⟩
theorem Fs.at_ {w : World} {p : Option Addr} {c : Nat} {L : List Fl} (h : Fs w p c L) {i : Nat} (hi : i < L.length) :
    ∃ b o, p = some ⟨b, o, none⟩ ∧ b < w.heap.size ∧ w.cell? ⟨b, o + i * 3, none⟩ = some (str L[i].nm) ∧ w.cell? ⟨b, o + i * 3 + 1, none⟩ = some (str L[i].bs) ∧ w.cell? ⟨b, o + i * 3 + 2, none⟩ = some (.int .i64 (L[i].sure : Int)) := by
  rcases h.cells with rfl | ⟨b, o, e, hl, k⟩
  · simp at hi
  · refine ⟨b, o, e, hl, ?_, ?_, ?_⟩
    · have := k (3 * i + 0) _ (by rw [fvs_get hi 0 (by omega)]; rfl)
      rwa [show o + (3 * i + 0) = o + i * 3 by omega] at this
    · have := k (3 * i + 1) _ (by rw [fvs_get hi 1 (by omega)]; rfl)
      rwa [show o + (3 * i + 1) = o + i * 3 + 1 by omega] at this
    · have := k (3 * i + 2) _ (by rw [fvs_get hi 2 (by omega)]; rfl)
      rwa [show o + (3 * i + 2) = o + i * 3 + 2 by omega] at this
theorem Fs.empty (w : World) : Fs w none 0 [] := ⟨Nat.le_refl _, by unfold maxLen; omega, fun _ => rfl, .inl rfl⟩
/-- files in an array of the call's own -/
theorem fs_own {w : World} {B n : Nat} {v : Value} {L : List Fl} (h : w.ownsRow B 79 3 v n (fvs L)) : n = L.length ∧ ∃ p c, v = .slice p n c ∧ Fs w p c L ∧ ∀ b o, p = some ⟨b, o, none⟩ → B ≤ b := by
  have hn : n = L.length := by have := h.1; rw [fvs_len] at this; omega
  refine ⟨hn, ?_⟩
  rcases h.2 with ⟨rfl, h0⟩ | ⟨g, cap, cur, rfl, hB, hh, h3, h4, _⟩
  · refine ⟨none, 0, by rw [h0], ⟨by omega, by unfold maxLen; omega, fun _ => rfl, .inl (List.eq_nil_of_length_eq_zero (by omega))⟩, fun b o e => by cases e⟩
  · refine ⟨_, cap, rfl, ⟨by omega, h4, (fun h => nomatch h), .inr ⟨g, 0, rfl, at_lt hh, fun j u hu => ?_⟩⟩, fun b o e => by cases e; exact hB⟩
    have := World.ownsRow.cells h (g := g) rfl j u hu
    rw [add0] at this
    rwa [Nat.zero_add]
theorem info_file : (Tryz.prog.info? 79).map (fun i => (i.zero, i.size, i.bytes)) = some (some (.agg #[.string ⟨#[]⟩, .string ⟨#[]⟩, .int .i64 0]), 3, 40) := by kernel_rfl

/-! ### Named -/
def okN (l : Bs) (k : Nat) : Bool := sized l && allc (l.take k)
theorem okN_next (s : ByteArray) (k : Nat) (h : k < s.size) : okN s.data.toList (k + 1) = (okN s.data.toList k && nmc s[k].toNat) := by
  unfold okN
  rw [all_next s k h, Bool.and_assoc]
theorem okN_end {s : ByteArray} {k : Nat} (h : ¬ k < s.size) : okN s.data.toList k = isNm s.data.toList := by
  unfold okN isNm
  rw [all_full h]
set_option maxRecDepth 100000 in
set_option maxHeartbeats 2000000 in
theorem rnamed_calls (s : ByteArray) (hz : s.size ≤ 1000000) (w : World) : Calls Tryz.prog 64 #[.string s] w fun e w' => e = .returned (.bool (isNm s.data.toList)) ∧ w = w' := by
  have H0 : Hid ((decide (1 ≤ s.size) && decide (s.size ≤ 64)) = okN s.data.toList 0) := Lib.hid (by simp [okN, sized_eq, allc])
  rcases (show s.size = 0 ∨ (1 ≤ s.size ∧ s.size ≤ 64) ∨ (1 ≤ s.size ∧ ¬ s.size ≤ 64) by omega) with h | ⟨h, h2⟩ | ⟨h, h2⟩
  · have b2 : decide ((1 : Int) ≤ (s.size : Int)) = decide (1 ≤ s.size) := decide_eq_decide.2 (by omega)
    go_enter Tryz.func64, Tryz.ntmps64
    go_wp2
    go_loop [3, 4] (fun b i => i = .int .i64 0 ∧ b = .bool (okN s.data.toList 0)) (fun _ i => s.size - (intOf i).toNat)
    case atStart => exact ⟨rfl, by rw [← H0.out]; simp [h]⟩
    case round =>
      obtain ⟨rfl, rfl⟩ := hrel
      have HE := Lib.hid (okN_end (s := s) (show ¬ 0 < s.size by omega))
      go_wp2_with fail
      go_ret
      exact ⟨by rw [← HE.out]; rfl, rfl⟩
  all_goals
    have b1 : decide ((s.size : Int) ≤ 64) = decide (s.size ≤ 64) := decide_eq_decide.2 (by omega)
    have b2 : decide ((1 : Int) ≤ (s.size : Int)) = decide (1 ≤ s.size) := decide_eq_decide.2 (by omega)
    go_enter Tryz.func64, Tryz.ntmps64
    go_wp2
    go_loop [3, 4] (fun b i => ∃ k : Nat, k ≤ s.size ∧ i = .int .i64 k ∧ b = .bool (okN s.data.toList k)) (fun _ i => s.size - (intOf i).toNat)
    case atStart => exact ⟨0, Nat.zero_le _, rfl, by rw [← H0.out]; simp [h]; try omega⟩
    case round =>
      obtain ⟨k, hk, rfl, rfl⟩ := hrel
      by_cases hlt : k < s.size
      · have HN := Lib.hid (okN_next s k hlt)
        have q1 : (k : Int) < (s.size : Int) := by omega
        obtain ⟨o, ho⟩ : ∃ o, okN s.data.toList k = o := ⟨_, rfl⟩
        obtain ⟨x, hx⟩ : ∃ x : UInt8, s[k] = x := ⟨_, rfl⟩
        rw [ho, hx] at HN
        rw [ho]
        replace ho := Lib.hid ho
        have c1 : decide ((33 : Int) ≤ (x.toNat : Int)) = decide (33 ≤ x.toNat) := decide_eq_decide.2 (by omega)
        have c2 : decide ((x.toNat : Int) ≤ 126) = decide (x.toNat ≤ 126) := decide_eq_decide.2 (by omega)
        have c3 : ((x.toNat : Int) != 47) = (x.toNat != 47) := by rw [bne, bne]; congr 1; exact decide_eq_decide.2 (by omega)
        cases o with
        | false =>
          have HF : Hid (okN s.data.toList (k + 1) = false) := Lib.hid (by rw [HN.out]; rfl)
          go_wp2_with fail
          go_round
          case rel => exact ⟨k + 1, by omega, by go_num, by rw [HF.out]⟩
          case measure => simp [intOf]; omega
        | true =>
          rcases (show (x.toNat < 33) ∨ (33 ≤ x.toNat ∧ 126 < x.toNat) ∨ (33 ≤ x.toNat ∧ x.toNat ≤ 126 ∧ x.toNat = 47) ∨ (33 ≤ x.toNat ∧ x.toNat ≤ 126 ∧ x.toNat ≠ 47) by omega) with q | ⟨q, q2⟩ | ⟨q, q2, q3⟩ | ⟨q, q2, q3⟩
          · have HF : Hid (okN s.data.toList (k + 1) = false) := Lib.hid (by rw [HN.out, nmc, decide_eq_false (by omega : ¬ 33 ≤ x.toNat)]; rfl)
            clear c1 c2 c3
            go_wp2_with fail
            go_round
            case rel => exact ⟨k + 1, by omega, by go_num, by rw [HF.out]⟩
            case measure => simp [intOf]; omega
          · have HF : Hid (okN s.data.toList (k + 1) = false) := Lib.hid (by rw [HN.out, nmc, decide_eq_false (by omega : ¬ x.toNat ≤ 126)]; simp)
            clear c1 c2 c3
            go_wp2_with fail
            go_round
            case rel => exact ⟨k + 1, by omega, by go_num, by rw [HF.out]⟩
            case measure => simp [intOf]; omega
          · have HF : Hid (okN s.data.toList (k + 1) = false) := Lib.hid (by rw [HN.out, nmc, q3]; simp)
            clear c1 c2 c3
            go_wp2_with fail
            go_round
            case rel => exact ⟨k + 1, by omega, by go_num, by rw [HF.out]⟩
            case measure => simp [intOf]; omega
          · have q4 : (x.toNat != 47) = true := by simpa using q3
            have q5 : ((x.toNat : Int) != 47) = true := by rw [c3]; exact q4
            have HF : Hid (okN s.data.toList (k + 1) = true) := Lib.hid (by rw [HN.out, nmc, decide_eq_true q, decide_eq_true q2, q4]; rfl)
            clear c1 c2 c3
            go_wp2_with fail
            go_round
            case rel => exact ⟨k + 1, by omega, by go_num, by rw [HF.out]⟩
            case measure => simp [intOf]; omega
      · have HE := Lib.hid (okN_end hlt)
        have q1 : ¬ (k : Int) < (s.size : Int) := by omega
        go_wp2_with fail
        go_ret
        exact ⟨by rw [← HE.out]; rfl, rfl⟩
end Go.Proofs.YtngangdjbbbbdaaGreatDoor.Sto
end

section
namespace Go.Proofs.YtngangdjbbbbdaaGreatDoor.Sto
open Go.RowKit Go.Proofs.YtngangdjbbbbdaaGreatDoor.Own
open Go.Proofs.YtngangdjbbbbdaaGreatDoor.Rw (str strs Row1)

/-- the document's store as a value -/
abbrev rv (p : Option Addr) (n c : Nat) (most bad : Int) : Value := .agg #[.slice p n c, .int .i64 most, .int .i64 bad]

theorem text_same {x a : ByteArray} (h : x = a) : (x.toList == a.toList) = true := by rw [h]; simp
theorem text_other {x a : ByteArray} (h : ¬ x = a) : (x.toList == a.toList) = false := by
  rw [ByteArray.toList_eq, ByteArray.toList_eq, beq_eq_false_iff_ne]
  intro e
  apply h
  cases x; cases a
  simp only at e
  congr 1
  exact Array.toList_inj.1 e
/-- where a file stands -/
def PlAt (L : List Fl) (a : Bs) (k : Int) : Prop := (k = -1 ∧ ∀ x ∈ L, x.nm ≠ a) ∨ ∃ (i : Nat) (hi : i < L.length), k = i ∧ L[i].nm = a
theorem place_calls (L : List Fl) (p : Option Addr) (c n : Nat) (hn : L.length = n) (most bad : Int) (a : ByteArray) (w : World) (h : Fs w p c L) :
    Calls Tryz.prog 62 #[rv p n c most bad, .string a] w fun e w' => ∃ k : Int, e = .returned (.int .i64 k) ∧ Below w.heap.size w w' ∧ PlAt L a.data.toList k := by
  have H := Lib.hid h
  have HN := Lib.hid hn
  have hc := h.cap
  have hm := h.max
  rw [hn] at hc
  clear h hn
  go_enter Tryz.func62, Tryz.ntmps62
  go_wp2_with fail
  go_loop [5] (fun i => ∃ k : Nat, k ≤ n ∧ Hid (∀ j (hj : j < L.length), j < k → L[j].nm ≠ a.data.toList) ∧ i = .int .i64 k) (fun i => n - (intOf i).toNat)
  case atStart => exact ⟨0, by omega, Lib.hid fun j hj h => absurd h (by omega), rfl⟩
  case round =>
    obtain ⟨k, hk, HA, rfl⟩ := hrel
    by_cases hlt : k < n
    · have hkL : k < L.length := by rw [HN.out]; exact hlt
      obtain ⟨b, o, rfl, hb, c0, -, -⟩ := H.out.at_ hkL
      have d0 := cell_alloc c0 (.cells #[.slice (some ⟨b, o, none⟩) n c, .int .i64 most, .int .i64 bad] 27 (0, 0))
      obtain ⟨x, hx⟩ : ∃ s : ByteArray, s = ⟨(L[k].nm).toArray⟩ := ⟨_, rfl⟩
      rw [str, ← hx] at d0 c0
      have HX := Lib.hid hx
      have q1 : (k : Int) < (n : Int) := by omega
      have q2 : (n : Int) ≤ 9223372036854775807 := by unfold maxLen at hm; omega
      clear hx c0
      by_cases hi : x = a
      · have hb' := text_same hi
        have HF : Hid (L[k].nm = a.data.toList) := Lib.hid (by rw [← hi, HX.out])
        replace hi := Lib.hid hi
        go_wp2_with fail
        go_ret
        exact ⟨_, rfl, (Below.refl _ _).alloc (Nat.le_refl _) _, .inr ⟨k, hkL, rfl, HF.out⟩⟩
      · have hb' := text_other hi
        have HF : Hid (∀ j (hj : j < L.length), j < k + 1 → L[j].nm ≠ a.data.toList) := Lib.hid fun j hj hjk e => by
          rcases Nat.lt_or_eq_of_le (Nat.le_of_lt_succ hjk) with h | rfl
          · exact HA.out j hj h e
          · exact hi (by rw [HX.out, e])
        replace hi := Lib.hid hi
        go_wp2_with fail
        go_round
        case rel => exact ⟨k + 1, by omega, HF, by go_num⟩
        case measure => simp [intOf]; omega
    · have q1 : ¬ (k : Int) < (n : Int) := by omega
      go_wp2_with fail
      go_ret
      refine ⟨_, rfl, (Below.refl _ _).alloc (Nat.le_refl _) _, .inl ⟨rfl, fun x hx => ?_⟩⟩
      obtain ⟨j, hj, rfl⟩ := List.getElem_of_mem hx
      exact HA.out j hj (by have := HN.out; omega)
theorem total_ref (L : List Fl) (p : Option Addr) (c n : Nat) (hn : L.length = n) (most bad : Int) (w : World) (h : Fs w p c L) (ht : tot L ≤ 16777216) :
    Calls Tryz.prog 42 #[rv p n c most bad] w fun e w' => e = .returned (.int .i64 (tot L : Nat)) ∧ Below w.heap.size w w' := by
  have H := Lib.hid h
  have HN := Lib.hid hn
  have hc := h.cap
  have hm := h.max
  rw [hn] at hc
  have HT := Lib.hid ht
  clear h hn ht
  go_enter Tryz.func42, Tryz.ntmps42
  go_wp2_with fail
  go_loop [3, 4] (fun s i => ∃ k T : Nat, k ≤ n ∧ T ≤ 16777216 ∧ Hid (T = tot (L.take k)) ∧ s = .int .i64 T ∧ i = .int .i64 k) (fun _ i => n - (intOf i).toNat)
  case atStart => exact ⟨0, 0, by omega, by omega, Lib.hid rfl, rfl, rfl⟩
  case round =>
    obtain ⟨k, T, hk, hT, HA, rfl, rfl⟩ := hrel
    by_cases hlt : k < n
    · have hkL : k < L.length := by rw [HN.out]; exact hlt
      obtain ⟨b, o, rfl, hb, -, c1, -⟩ := H.out.at_ hkL
      have d1 := cell_alloc c1 (.cells #[.slice (some ⟨b, o, none⟩) n c, .int .i64 most, .int .i64 bad] 27 (0, 0))
      obtain ⟨x, hx⟩ : ∃ s : ByteArray, s = ⟨(L[k].bs).toArray⟩ := ⟨_, rfl⟩
      rw [str, ← hx] at d1
      have hxs : x.size = L[k].bs.length := by rw [hx]; rfl
      have hnext : tot (L.take (k + 1)) = tot (L.take k) + x.size := by
        rw [List.take_add_one, List.getElem?_eq_getElem hkL, tot_app, hxs]
        simp [tot]
      have hle : tot (L.take (k + 1)) ≤ 16777216 := by
        have := tot_app (L.take (k + 1)) (L.drop (k + 1))
        rw [List.take_append_drop] at this
        have := HT.out
        omega
      have hTx : T + x.size ≤ 16777216 := by have := HA.out; omega
      have HF : Hid (T + x.size = tot (L.take (k + 1))) := Lib.hid (by rw [hnext, HA.out])
      have q1 : (k : Int) < (n : Int) := by omega
      have q2 : (n : Int) ≤ 9223372036854775807 := by unfold maxLen at hm; omega
      clear hx c1 hnext hle hxs
      go_wp2_with fail
      go_round
      case rel => exact ⟨k + 1, T + x.size, by omega, hTx, HF, by go_num, by go_num⟩
      case measure => simp [intOf]; omega
    · have q1 : ¬ (k : Int) < (n : Int) := by omega
      go_wp2_with fail
      go_ret
      have e : L.take k = L := List.take_of_length_le (by have := HN.out; omega)
      exact ⟨by rw [HA.out, e]; rfl, (Below.refl _ _).alloc (Nat.le_refl _) _⟩
end Go.Proofs.YtngangdjbbbbdaaGreatDoor.Sto
end


/-
  Layer 11 (store): Names.
-/
import Derived.Test.YtejhggjehmioaaaDoorStoBeg
import Derived.Test.YtejhggjehmioaaaDoorIter
import Derived.Sort.KeysCollected
import Derived.Maps.RangeWalk
import Derived.Maps.Ext
namespace Go.Proofs.YtejhggjehmioaaaDoor.Sto
open Go.RowKit Go.Proofs.YtejhggjehmioaaaDoor.Own Go.Proofs.YtejhggjehmioaaaDoor.KM Go.Proofs.YtejhggjehmioaaaDoor.Flt
open Go.Proofs.YtejhggjehmioaaaDoor.Rw (str strs)
open Go.Sort Go.WideElems

/-- a map's value as it stands -/
def hold (v : Value) : Option (DataW Value × List MemPlace) := some (.held v, [])

section
variable {w : World} {bs : Nat → Prop} {b m : Nat} {V : List En} {most total bad : Int}
theorem key_of {kv : Value} {l : Lit} (h : keyOf Tryd.prog 9 kv = some l) {a : Bs} (e : kv = str a) : l = .string a := by
  subst e
  simp only [keyOf, Tryd.underlying9, str, mapKey] at h
  split at h
  · cases h; rfl
  · cases h
theorem hold_rd {x : MapEntry} {l : Lit} (h : keyOf Tryd.prog 9 x.key = some l) : WideElems.rd Tryd.prog 9 hold x = some (l, .held x.val) := by
  unfold WideElems.rd hold
  rw [h]; rfl
theorem KMap.count {w : World} {b n : Nat} {V : List En} (h : KMap Tryd.prog 9 str w b (look V) n) (hr : Rise enm V) : n = V.length := by
  obtain ⟨es, clock, hb, hn, hst, hks, h1, h2⟩ := h.is
  let f : MapEntry → Bs := fun x => match x.key with | .string s => s.data.toList | _ => []
  have hf : ∀ x ∈ es.toList, x.key = str (f x) := by
    intro x hx
    obtain ⟨a, ha, _⟩ := h1 x hx
    show x.key = str (match x.key with | .string s => s.data.toList | _ => [])
    rw [ha]; rfl
  have hp : (es.toList.map f).Perm (V.map enm) := by
    refine (List.perm_ext_iff_of_nodup ?_ ?_).2 fun y => ?_
    · have hk := hst.2.2
      unfold List.Nodup at hk ⊢
      rw [List.pairwise_map] at hk ⊢
      refine hk.imp_of_mem fun {x y} hx hy hne e => hne ?_
      rw [hf x hx, hf y hy, e]
    · unfold List.Nodup
      rw [List.pairwise_map]
      exact hr.imp fun hlt e => by
        rw [e] at hlt
        exact List.lt_irrefl _ hlt
    · rw [List.mem_map, List.mem_map]
      constructor
      · rintro ⟨x, hx, rfl⟩
        obtain ⟨a, ha, hv⟩ := h1 x hx
        obtain rfl : f x = a := str_inj _ _ ((hf x hx).symm.trans ha)
        unfold look at hv
        cases hl : lk enm V (f x) with
        | none => rw [hl] at hv; cases hv
        | some z => exact ⟨z, (lk_some hl).1, (lk_some hl).2⟩
      · rintro ⟨z, hz, rfl⟩
        obtain ⟨x, hx, hk, _⟩ := h2 (enm z) z.val (by unfold look; rw [(hr.lk).2 ⟨hz, rfl⟩]; rfl)
        exact ⟨x, hx, str_inj _ _ ((hf x hx).symm.trans hk)⟩
  have := hp.length_eq
  rw [List.length_map, List.length_map, Array.length_toList] at this
  omega
theorem Base.owns (h : Base w bs b m V most total bad) (hV : V.length ≤ maxLen) : ∃ D : DataW Value, w.ownsMap Tryd.prog 9 hold m V.length D ∧ (strKeys D).Perm (V.map enm) ∧ Maps.size D = V.length ∧
    (∀ a, Maps.has D (.string a) = (look V a).isSome) ∧ ∀ a v, (∀ zd, D.atKey (.string a) zd = .held v) → look V a = some v := by
  obtain ⟨es, clock, hb, hn, hst, hks, h1, h2⟩ := h.map.is
  have F : Fit Tryd.prog 9 hold es clock := ⟨by omega, hst, fun x hx => by obtain ⟨l, hl⟩ := hks x hx; exact ⟨_, hold_rd hl⟩⟩
  have hO : w.ownsMap Tryd.prog 9 hold m V.length (.map ((es.toList.map (rg Tryd.prog 9 hold)).foldr DataW.insert [])) := ⟨es, clock, hb, F, by omega, rfl⟩
  have hrg : ∀ x ∈ es.toList, ∃ a, x.key = str a ∧ look V a = some x.val ∧ rg Tryd.prog 9 hold x = (.string a, .held x.val) := by
    intro x hx
    obtain ⟨a, ha, hv⟩ := h1 x hx
    obtain ⟨l, hl⟩ := hks x hx
    refine ⟨a, ha, hv, ?_⟩
    rw [rg_of (hold_rd hl), key_of hl ha]
  have hf : ∀ x ∈ es.toList, x.key = str (strOf (rg Tryd.prog 9 hold x).1) := by
    intro x hx
    obtain ⟨a, ha, _, e⟩ := hrg x hx
    rw [e]; exact ha
  have hp : (es.toList.map (fun x => strOf (rg Tryd.prog 9 hold x).1)).Perm (V.map enm) := by
    refine (List.perm_ext_iff_of_nodup ?_ ?_).2 fun y => ?_
    · have hk := hst.2.2
      unfold List.Nodup at hk ⊢
      rw [List.pairwise_map] at hk ⊢
      refine hk.imp_of_mem fun {x y} hx hy hne e => hne ?_
      rw [hf x hx, hf y hy, e]
    · unfold List.Nodup
      rw [List.pairwise_map]
      exact h.rise.imp fun hlt e => by
        rw [e] at hlt
        exact List.lt_irrefl _ hlt
    · rw [List.mem_map, List.mem_map]
      constructor
      · rintro ⟨x, hx, rfl⟩
        obtain ⟨a, ha, hv, e⟩ := hrg x hx
        rw [e]
        unfold look at hv
        cases hl : lk enm V a with
        | none => rw [hl] at hv; cases hv
        | some z => exact ⟨z, (lk_some hl).1, (lk_some hl).2⟩
      · rintro ⟨z, hz, rfl⟩
        obtain ⟨x, hx, hk, _⟩ := h2 (enm z) z.val (by unfold look; rw [(h.rise.lk).2 ⟨hz, rfl⟩]; rfl)
        refine ⟨x, hx, ?_⟩
        obtain ⟨a, ha, _, e⟩ := hrg x hx
        rw [e]
        exact (str_inj _ _ (ha.symm.trans hk))
  have hin : ∀ a, Maps.has (.map ((es.toList.map (rg Tryd.prog 9 hold)).foldr DataW.insert [])) (.string a) = true → ∃ v, look V a = some v ∧ (Lit.string a, DataW.held v) ∈ (es.toList.map (rg Tryd.prog 9 hold)).foldr DataW.insert [] := by
    intro a hhas
    obtain ⟨p, hp1, hp2⟩ := List.any_eq_true.1 hhas
    have hp3 := mem_sorted.1 hp1
    obtain ⟨x, hx, rfl⟩ := List.mem_map.1 hp3
    obtain ⟨a', ha, hv, e⟩ := hrg x hx
    rw [e] at hp2 hp1
    have e2 : a' = a := by simpa [Lit.sameKey] using hp2
    subst e2
    exact ⟨_, hv, hp1⟩
  refine ⟨_, hO, ?_, ?_, fun a => ?_, fun a v hat => ?_⟩
  · refine List.Perm.trans ?_ hp
    have := (WideShapes.sorted_perm (es.toList.map (rg Tryd.prog 9 hold))).map (fun p => strOf p.1)
    rw [List.map_map] at this
    simp only [Function.comp_def] at this
    unfold strKeys
    exact this
  · show (List.foldr DataW.insert [] _).length = _
    rw [(WideShapes.sorted_perm _).length_eq, List.length_map, Array.length_toList, hn]
  · cases hl : look V a with
    | none =>
      cases hh : Maps.has (.map ((es.toList.map (rg Tryd.prog 9 hold)).foldr DataW.insert [])) (.string a) with
      | false => rfl
      | true => obtain ⟨v, hv, _⟩ := hin a hh; rw [hl] at hv; cases hv
    | some v =>
      obtain ⟨x, hx, hk, _⟩ := h2 a v hl
      obtain ⟨a', ha, _, e⟩ := hrg x hx
      obtain rfl : a' = a := str_inj _ _ (ha.symm.trans hk)
      exact List.any_eq_true.2 ⟨_, mem_sorted.2 (List.mem_map.2 ⟨x, hx, e⟩), by simp [Lit.sameKey]⟩
  · have hhas := Maps.has_true_of_atKey hat
    obtain ⟨v', hv, hm⟩ := hin a hhas
    have e1 := hat .nil
    obtain ⟨es', he', hs, hk⟩ := hO.canon keyed
    cases he'
    rw [WideAt.atKey_mem .nil (hk _ hm) (Maps.apart_of_rising hs) hm] at e1
    cases e1
    exact hv
theorem sort_of {ss N : List Bs} (h : ss.Perm N) (hN : N.Pairwise (· < ·)) : ss.mergeSort (fun x y => decide (x ≤ y)) = N := by
  have h1 : (ss.mergeSort (fun x y => decide (x ≤ y))).Perm N := (List.mergeSort_perm _ _).trans h
  have h2 := List.pairwise_mergeSort (le := fun x y : Bs => decide (x ≤ y)) (fun a b c h k => by simp at h k ⊢; exact List.le_trans h k) (fun a b => by simp; exact List.le_total a b) ss
  refine List.Perm.eq_of_pairwise (le := fun x y => x ≤ y) (fun x y _ _ h1 h2 => List.le_antisymm h1 h2) (h2.imp fun h => by simpa using h) (hN.imp fun h => List.le_of_lt h) h1

set_option maxRecDepth 100000 in
set_option maxHeartbeats 1000000 in
theorem names_calls (h : Base w bs b m V most total bad) (hV : V.length ≤ 1000000) :
    Calls Tryd.prog 15 #[.pointer (some ⟨b, 0, none⟩)] w fun e w' => ∃ v, e = .returned v ∧ w'.ownsRow w.heap.size 9 1 v V.length (strs (V.map enm)) ∧ Below w.heap.size w w' := by
  obtain ⟨D, hO, hP, hS, _⟩ := h.owns (by unfold maxLen; omega)
  have c0 := (at_cell h.box 0 : _ = some _)
  have hK := fun W => callsIn_wide.1 (Tryd.maps_Keys_38 (some m) W)
  have hR := Lib.hid (callsIn_wide.1 (Tryd.slices_Sorted_keys_37_38 m V.length D hold w hO (by rw [hS]; unfold maxLen; omega) (by rw [hS]; omega)))
  have hN := Lib.hid (show (V.map enm).Pairwise (· < ·) by rw [List.pairwise_map]; exact h.rise)
  have HP := Lib.hid hP
  clear h hO hS hP
  go_enter Tryd.func15, Tryd.ntmps15
  go_wp2_with (first
    | (go_at_call 27; refine (made_some _ _ _ c0).mono ?_; rintro e w' ⟨rfl, rfl⟩)
    | (go_at_call 38; refine (hK _).mono ?_; rintro e w' ⟨rfl, rfl⟩)
    | (go_at_call 37; refine hR.out.mono ?_; rintro e w2 ⟨v, ss, rfl, p1, p2, -, p3⟩; replace p1 := Lib.hid p1; replace p2 := Lib.hid p2; replace p3 := Lib.hid p3))
  go_ret
  have e1 := p1.out.trans HP.out
  have e2 := p2.out
  rw [sort_of e1 hN.out, show ss.length = V.length by rw [e1.length_eq, List.length_map]] at e2
  exact ⟨_, rfl, Rw.own_base e2 (by simp), ((Below.refl _ w).alloc (Nat.le_refl _) _).trans (p3.out.mono (by simp))⟩
end
end Go.Proofs.YtejhggjehmioaaaDoor.Sto

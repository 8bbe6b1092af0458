/-
  Layer 21 (gens): names of generations, both; the names of so many; whether there is a file; each is told.
-/
import Derived.Test.YtememmgnhnldaaaDoorGenPlain
import Derived.Test.YtememmgnhnldaaaDoorStoErrs
import Derived.Test.YtememmgnhnldaaaDoorOwnOut
import Derived.Test.YtememmgnhnldaaaDoorNumP
import Derived.Shelf.Abstract
namespace Go.Proofs.YtememmgnhnldaaaDoor.Gen
open Go.RowKit Go.Proofs.YtememmgnhnldaaaDoor.Own Go.Proofs.YtememmgnhnldaaaDoor.Sto
open Go.Proofs.YtememmgnhnldaaaDoor.Rw (str strs Row1 Texts own_shape texts_own strs_app one_new)
open Go.Proofs.YtememmgnhnldaaaDoor.Tree (own_slice own_out out_grown own_lt)

theorem info_str : (Tryd.prog.info? 9).map (fun i => (i.zero, i.size, i.bytes)) = some (some (.string ⟨#[]⟩), 1, 16) := by kernel_rfl
theorem size_of (l : Bs) : (⟨l.toArray⟩ : ByteArray).size = l.length := rfl
theorem str_cat (a b c : Bs) : (⟨a.toArray⟩ : ByteArray) ++ ⟨b.toArray⟩ ++ ⟨c.toArray⟩ = ⟨(a ++ b ++ c).toArray⟩ := by rw [Digit.bytes_add, Digit.bytes_add]

/-! ### Name -/
set_option maxHeartbeats 1000000 in
theorem name_calls (b : Bs) (i : Int) (hb : b.length ≤ 1000000) (h1 : -9223372036854775808 ≤ i) (h2 : i ≤ 9223372036854775807) (w : World) :
    Calls Tryd.prog 8 #[.string ⟨b.toArray⟩, .int .i64 i] w fun e w' => e = .returned (.string ⟨(nm b i).toArray⟩) ∧ Below w.heap.size w w' := by
  by_cases hi : i ≤ 0
  · have H := Lib.hid (nm_zero b hi)
    go_enter Tryd.func8, Tryd.ntmps8
    go_wp2_with fail
    go_ret
    exact ⟨by rw [H.out]; rfl, Below.refl _ _⟩
  · have H := Lib.hid (nm_more2 b hi)
    have L := Digit.dec_len h1 h2
    have s1 := size_of b
    have s2 := size_of (Digit.dec i)
    have hi2 : 0 < i := by omega
    go_enter Tryd.func8, Tryd.ntmps8
    go_wp2_with (go_at_call 23; refine (Digit.put_calls i h1 h2 _).mono ?_; rintro e w' ⟨rfl, hb⟩; replace hb := Lib.hid hb)
    go_ret
    exact ⟨by rw [H.out]; exact congrArg (fun x => Ending.returned (.string x)) (str_cat b [46] (Digit.dec i)), hb.out⟩
set_option maxHeartbeats 1000000 in
theorem rname_calls (b : Bs) (i : Int) (hb : b.length ≤ 1000000) (h1 : -9223372036854775808 ≤ i) (h2 : i ≤ 9223372036854775807) (w : World) :
    Calls Tryd.prog 13 #[.string ⟨b.toArray⟩, .int .i64 i] w fun e w' => e = .returned (.string ⟨(nm b i).toArray⟩) ∧ w = w' := by
  by_cases hi : i ≤ 0
  · have H := Lib.hid (nm_zero b hi)
    go_enter Tryd.func13, Tryd.ntmps13
    go_wp2_with fail
    go_ret
    exact ⟨by rw [H.out]; rfl, rfl⟩
  · have H := Lib.hid (nm_more2 b hi)
    have L := Digit.dec_len h1 h2
    have s1 := size_of b
    have s2 := size_of (Digit.dec i)
    have hi2 : 0 < i := by omega
    go_enter Tryd.func13, Tryd.ntmps13
    go_wp2_with (go_at_call 29; refine (Digit.rput_calls i h1 h2 _).mono ?_; rintro e w' ⟨rfl, rfl⟩)
    go_ret
    exact ⟨by rw [H.out]; exact congrArg (fun x => Ending.returned (.string x)) (str_cat b [46] (Digit.dec i)), rfl⟩

/-! ### series -/
structure SrAt (w wr : World) (v : Value) (D : List Bs) : Prop where
  own : wr.ownsRow w.heap.size 9 1 v D.length (strs D)
  below : Below w.heap.size w wr
theorem SrAt.step {w wr w5 w1 : World} {v v' : Value} {D : List Bs} {a : Bs} (h : SrAt w wr v D) (o : Obj) (hb : Below wr.heap.size wr w5)
    (ho : w1.ownsRow w.heap.size 9 1 v' (D.length + 1) (strs D ++ [.string ⟨a.toArray⟩])) (hg : (w5.alloc o).grownBy w1 v.ownBlock) : SrAt w w1 v' (D ++ [a]) := by
  have hs := h.below.size
  have hs5 := hb.size
  refine ⟨?_, ((h.below.trans (hb.mono hs)).alloc (by omega) o).grown hg (by simp; omega) (fun k hk => (World.ownsRow.lt h.own k hk).1)⟩
  rw [List.length_append, strs_app]; exact ho
/-- names of the call's own, one at least -/
def SerPost (L : List Bs) (w : World) (e : Ending) (w' : World) : Prop :=
  ∃ g c n, e = .returned (.slice (some ⟨g, 0, none⟩) n c) ∧ n = L.length ∧ w.heap.size ≤ g ∧ g < w'.heap.size ∧ Texts w' (some ⟨g, 0, none⟩) c L ∧ Below w.heap.size w w'
theorem SrAt.end_ {w wr : World} {v : Value} {D L : List Bs} (h : SrAt w wr v D) (he : D = L) (hl : 0 < L.length) : SerPost L w (.returned v) wr := by
  subst he
  obtain ⟨g, c, hv, h1, h2, _, _⟩ := own_shape h.own hl
  obtain ⟨p, c', hv2, hT⟩ := texts_own h.own rfl
  rw [hv] at hv2
  cases hv2
  exact ⟨g, c, _, by rw [hv], rfl, h1, h2, hT, h.below⟩

set_option maxRecDepth 100000 in
set_option maxHeartbeats 2000000 in
theorem series_calls (b : Bs) (n : Int) (hb : b.length ≤ 1000000) (w : World) :
    Calls Tryd.prog 21 #[.string ⟨b.toArray⟩, .int .i64 n] w (SerPost (ser b (held n)) w) := by
  obtain ⟨i0, hi, hz0, hz1, hz2⟩ := info_parts info_str
  have HK := Lib.hid (held_bd n)
  have HC : n < 1 ∧ held n = 1 ∨ (¬ n < 1 ∧ 1 ≤ n ∧ n ≤ 16 ∧ ¬ 16 < n ∧ n = (held n : Nat)) ∨ (¬ n < 1 ∧ 16 < n ∧ ¬ n ≤ 16 ∧ held n = 16) := by unfold held; omega
  obtain ⟨K, hK⟩ : ∃ K, held n = K := ⟨_, rfl⟩
  rw [hK] at HK HC ⊢
  clear hK
  have HN : ∀ m : Nat, (m : Int) ≤ 16 → ∀ W, Calls Tryd.prog 8 #[.string ⟨b.toArray⟩, .int .i64 m] W fun e w' => e = .returned (.string ⟨(nm b m).toArray⟩) ∧ Below W.heap.size W w' := fun m hm W => name_calls b m hb (by omega) (by omega) W
  replace HN := Lib.hid HN
  rcases HC with ⟨h1, rfl⟩ | ⟨h1, h2, h3, h4, rfl⟩ | ⟨h1, h2, h3, rfl⟩
  · have q1 : n ≤ 1 := by omega
    go_enter Tryd.func21, Tryd.ntmps21
    go_wp2_with fail
    go_loopw [5, 6] (fun v i wr => ∃ (D : List Bs) (j : Nat), j ≤ 16 ∧ i = .int .i64 ((j : Int) - 1) ∧ SrAt w wr v D ∧ Hid (D ++ ser b j = ser b 1)) (fun _ i _ => (intOf i + 1).toNat)
    case atStart => exact ⟨[], 1, HK.out.2, rfl, ⟨World.ownsRow_nil _ _ _ _, Below.refl _ _⟩, Lib.hid rfl⟩
    case round =>
      obtain ⟨D, j, hj, rfl, C, HE⟩ := hrel
      rename World => wr
      have HC := Lib.hid C
      have hsz := C.below.size
      obtain ⟨tp, tc, rfl, -⟩ := own_slice C.own
      clear C
      by_cases hj0 : j = 0
      · subst hj0
        have HF := Lib.hid (show D = ser b 1 from by have := HE.out; rwa [ser, List.append_nil] at this)
        rw [show ((0 : Nat) : Int) - 1 = -1 from rfl]
        go_wp2_with fail
        go_ret
        exact HC.out.end_ HF.out (by rw [ser_len]; exact HK.out.1)
      · obtain ⟨m, rfl⟩ : ∃ m, j = m + 1 := ⟨j - 1, by omega⟩
        have HF := Lib.hid (show (D ++ [nm b (m : Nat)]) ++ ser b m = ser b 1 from by have := HE.out; rw [ser] at this; rw [← this]; simp)
        have hlen : D.length ≤ 16 := by
          have := congrArg List.length HE.out
          rw [List.length_append, ser_len, ser_len] at this
          have := HK.out.2
          omega
        have e1 : ((m + 1 : Nat) : Int) - 1 = m := by omega
        rw [e1]
        have q2 : 0 ≤ (m : Int) := by omega
        have HM := Lib.hid (HN.out m (by omega))
        obtain ⟨a, ha⟩ : ∃ a, nm b (m : Nat) = a := ⟨_, rfl⟩
        rw [ha] at HF HM
        clear e1 ha
        go_wp2_with fail
        refine (HM.out _).mono ?_
        rintro e w5 ⟨rfl, hb5⟩
        have HO := Lib.hid (own_below HC.out.own hb5)
        have hs5 := hb5.size
        have HB5 := Lib.hid hb5
        clear hb5
        go_wp2_with (at_builtin; refine Own.append_any rfl _ _ 29 rfl w.heap.size 9 i0 _ 1 16 Tryd.underlying29 hi hz0 hz1 hz2 rfl (by decide) _ _ _ rfl (World.ownsRow.alloc HO.out _) _ 1 1 [.string ⟨a.toArray⟩] rfl (fun h => nomatch h) rfl (one_new _ _ _ _ (by simp)) (by simp [Value.oneCell']) (by unfold maxLen; omega) (by omega) (by simp; omega) ?_; intro v' w1 hown1 hgrow1)
        have C1 := Lib.hid (HC.out.step _ HB5.out hown1 hgrow1)
        clear hown1 hgrow1
        go_wp2_with fail
        go_roundw
        case rel => exact ⟨_, m, by omega, rfl, C1.out, HF⟩
        case measure => simp [intOf]
  · go_enter Tryd.func21, Tryd.ntmps21
    go_wp2_with fail
    go_loopw [5, 6] (fun v i wr => ∃ (D : List Bs) (j : Nat), j ≤ 16 ∧ i = .int .i64 ((j : Int) - 1) ∧ SrAt w wr v D ∧ Hid (D ++ ser b j = ser b K)) (fun _ i _ => (intOf i + 1).toNat)
    case atStart => exact ⟨[], K, HK.out.2, rfl, ⟨World.ownsRow_nil _ _ _ _, Below.refl _ _⟩, Lib.hid rfl⟩
    case round =>
      obtain ⟨D, j, hj, rfl, C, HE⟩ := hrel
      rename World => wr
      have HC := Lib.hid C
      have hsz := C.below.size
      obtain ⟨tp, tc, rfl, -⟩ := own_slice C.own
      clear C
      by_cases hj0 : j = 0
      · subst hj0
        have HF := Lib.hid (show D = ser b K from by have := HE.out; rwa [ser, List.append_nil] at this)
        rw [show ((0 : Nat) : Int) - 1 = -1 from rfl]
        go_wp2_with fail
        go_ret
        exact HC.out.end_ HF.out (by rw [ser_len]; exact HK.out.1)
      · obtain ⟨m, rfl⟩ : ∃ m, j = m + 1 := ⟨j - 1, by omega⟩
        have HF := Lib.hid (show (D ++ [nm b (m : Nat)]) ++ ser b m = ser b K from by have := HE.out; rw [ser] at this; rw [← this]; simp)
        have hlen : D.length ≤ 16 := by
          have := congrArg List.length HE.out
          rw [List.length_append, ser_len, ser_len] at this
          have := HK.out.2
          omega
        have e1 : ((m + 1 : Nat) : Int) - 1 = m := by omega
        rw [e1]
        have q2 : 0 ≤ (m : Int) := by omega
        have HM := Lib.hid (HN.out m (by omega))
        obtain ⟨a, ha⟩ : ∃ a, nm b (m : Nat) = a := ⟨_, rfl⟩
        rw [ha] at HF HM
        clear e1 ha
        go_wp2_with fail
        refine (HM.out _).mono ?_
        rintro e w5 ⟨rfl, hb5⟩
        have HO := Lib.hid (own_below HC.out.own hb5)
        have hs5 := hb5.size
        have HB5 := Lib.hid hb5
        clear hb5
        go_wp2_with (at_builtin; refine Own.append_any rfl _ _ 29 rfl w.heap.size 9 i0 _ 1 16 Tryd.underlying29 hi hz0 hz1 hz2 rfl (by decide) _ _ _ rfl (World.ownsRow.alloc HO.out _) _ 1 1 [.string ⟨a.toArray⟩] rfl (fun h => nomatch h) rfl (one_new _ _ _ _ (by simp)) (by simp [Value.oneCell']) (by unfold maxLen; omega) (by omega) (by simp; omega) ?_; intro v' w1 hown1 hgrow1)
        have C1 := Lib.hid (HC.out.step _ HB5.out hown1 hgrow1)
        clear hown1 hgrow1
        go_wp2_with fail
        go_roundw
        case rel => exact ⟨_, m, by omega, rfl, C1.out, HF⟩
        case measure => simp [intOf]
  · go_enter Tryd.func21, Tryd.ntmps21
    go_wp2_with fail
    go_loopw [5, 6] (fun v i wr => ∃ (D : List Bs) (j : Nat), j ≤ 16 ∧ i = .int .i64 ((j : Int) - 1) ∧ SrAt w wr v D ∧ Hid (D ++ ser b j = ser b 16)) (fun _ i _ => (intOf i + 1).toNat)
    case atStart => exact ⟨[], 16, HK.out.2, rfl, ⟨World.ownsRow_nil _ _ _ _, Below.refl _ _⟩, Lib.hid rfl⟩
    case round =>
      obtain ⟨D, j, hj, rfl, C, HE⟩ := hrel
      rename World => wr
      have HC := Lib.hid C
      have hsz := C.below.size
      obtain ⟨tp, tc, rfl, -⟩ := own_slice C.own
      clear C
      by_cases hj0 : j = 0
      · subst hj0
        have HF := Lib.hid (show D = ser b 16 from by have := HE.out; rwa [ser, List.append_nil] at this)
        rw [show ((0 : Nat) : Int) - 1 = -1 from rfl]
        go_wp2_with fail
        go_ret
        exact HC.out.end_ HF.out (by rw [ser_len]; exact HK.out.1)
      · obtain ⟨m, rfl⟩ : ∃ m, j = m + 1 := ⟨j - 1, by omega⟩
        have HF := Lib.hid (show (D ++ [nm b (m : Nat)]) ++ ser b m = ser b 16 from by have := HE.out; rw [ser] at this; rw [← this]; simp)
        have hlen : D.length ≤ 16 := by
          have := congrArg List.length HE.out
          rw [List.length_append, ser_len, ser_len] at this
          have := HK.out.2
          omega
        have e1 : ((m + 1 : Nat) : Int) - 1 = m := by omega
        rw [e1]
        have q2 : 0 ≤ (m : Int) := by omega
        have HM := Lib.hid (HN.out m (by omega))
        obtain ⟨a, ha⟩ : ∃ a, nm b (m : Nat) = a := ⟨_, rfl⟩
        rw [ha] at HF HM
        clear e1 ha
        go_wp2_with fail
        refine (HM.out _).mono ?_
        rintro e w5 ⟨rfl, hb5⟩
        have HO := Lib.hid (own_below HC.out.own hb5)
        have hs5 := hb5.size
        have HB5 := Lib.hid hb5
        clear hb5
        go_wp2_with (at_builtin; refine Own.append_any rfl _ _ 29 rfl w.heap.size 9 i0 _ 1 16 Tryd.underlying29 hi hz0 hz1 hz2 rfl (by decide) _ _ _ rfl (World.ownsRow.alloc HO.out _) _ 1 1 [.string ⟨a.toArray⟩] rfl (fun h => nomatch h) rfl (one_new _ _ _ _ (by simp)) (by simp [Value.oneCell']) (by unfold maxLen; omega) (by omega) (by simp; omega) ?_; intro v' w1 hown1 hgrow1)
        have C1 := Lib.hid (HC.out.step _ HB5.out hown1 hgrow1)
        clear hown1 hgrow1
        go_wp2_with fail
        go_roundw
        case rel => exact ⟨_, m, by omega, rfl, C1.out, HF⟩
        case measure => simp [intOf]

/-! ### there -/
set_option maxHeartbeats 1000000 in
theorem there_calls {w : World} {bs : Nat → Prop} {b : Nat} {t : St} (h : Sto w bs b t) (a : Bs) (ha : a.length ≤ 2000000) :
    Calls Tryd.prog 24 #[pb b, .string ⟨a.toArray⟩] w fun e w' => e = .returned (.bool (flk t.L a).isSome) ∧ Below w.heap.size w w' := by
  have H := Lib.hid (sto_read h ⟨a.toArray⟩ (by rw [size_of]; unfold maxLen; omega))
  rw [show (⟨a.toArray⟩ : ByteArray).data.toList = a from rfl] at H
  generalize (flk t.L a).isSome = B at *
  generalize (got t.L a).bs = x at *
  go_enter Tryd.func24, Tryd.ntmps24
  go_wp2_with (go_at_call 7; refine H.out.mono ?_; rintro e w' ⟨rfl, hb⟩; replace hb := Lib.hid hb)
  go_ret
  exact ⟨rfl, hb.out⟩
end Go.Proofs.YtememmgnhnldaaaDoor.Gen

/-
  Layer 4 (ring): the law's example, walked.
-/
import Derived.Test.YtgbelgmnenbmcaaRingOwn
namespace Go.Proofs.Ytgbelgmnenbmcaa.Ring
open Go.RowKit Go.Proofs.Ytgbelgmnenbmcaa.Own

/-- a ring of one's own since the world w0, in the world w -/
structure Mine (w0 : World) (w : World) (b most gone : Nat) (t : List UInt8) : Prop where
  own : Owns (fun k => w0.heap.size ≤ k) w b most gone t
  out : Out (fun k => w0.heap.size ≤ k) w0 w

section
variable {w0 w : World} {b most gone : Nat} {t : List UInt8}
theorem Mine.then_ {gone' : Nat} {t' : List UInt8} {v : Value} {P : Ending → World → Prop} {f : FuncId} {args : Array Value} (h : Mine w0 w b most gone t)
    (hc : Calls Try.prog f args w (Does (fun k => w0.heap.size ≤ k) b most gone' t' v w)) (hp : ∀ w', Mine w0 w' b most gone' t' → P (.returned v) w') : Calls Try.prog f args w P :=
  hc.mono fun e w' ⟨he, ho, hx⟩ => by subst he; exact hp w' ⟨ho, h.2.trans hx fun _ _ h => h⟩
theorem Mine.call {gone' : Nat} {t' : List UInt8} {v : Value} {f : FuncId} {args : Array Value} (h : Mine w0 w b most gone t)
    (hc : Calls Try.prog f args w (Does (fun k => w0.heap.size ≤ k) b most gone' t' v w)) : Calls Try.prog f args w fun e w' => e = .returned v ∧ Mine w0 w' b most gone' t' :=
  hc.mono fun _ _ ⟨he, ho, hx⟩ => ⟨he, ho, h.2.trans hx fun _ _ h => h⟩
theorem Mine.text (h : Mine w0 w b most gone t) : Calls Try.prog 17 #[.pointer (some ⟨b, 0, none⟩)] w fun e w' => e = .returned (.string ⟨t.toArray⟩) ∧ Mine w0 w' b most gone t := h.call (own_text h.1)
theorem Mine.len (h : Mine w0 w b most gone t) : Calls Try.prog 19 #[.pointer (some ⟨b, 0, none⟩)] w fun e w' => e = .returned (.int .i64 t.length) ∧ Mine w0 w' b most gone t := h.call (own_len h.1)
theorem Mine.went (h : Mine w0 w b most gone t) : Calls Try.prog 18 #[.pointer (some ⟨b, 0, none⟩)] w fun e w' => e = .returned (.int .i64 gone) ∧ Mine w0 w' b most gone t := h.call (own_gone h.1)
theorem Mine.room (h : Mine w0 w b most gone t) : Calls Try.prog 21 #[.pointer (some ⟨b, 0, none⟩)] w fun e w' => e = .returned (.int .i64 ((most : Int) - t.length)) ∧ Mine w0 w' b most gone t := h.call (own_room h.1)
theorem Mine.at_ (h : Mine w0 w b most gone t) (i : Int) : Calls Try.prog 20 #[.pointer (some ⟨b, 0, none⟩), .int .i64 i] w fun e w' => e = .returned (.tuple #[.int .u8 (atV t i), .bool (atB t i)]) ∧ Mine w0 w' b most gone t := h.call (own_at h.1 i)
theorem Mine.same {w' : World} (h : Mine w0 w b most gone t) (hb : Below w.heap.size w w') : Mine w0 w' b most gone t := ⟨h.1.same hb, h.2.trans (Out.ofNew (S := fun _ => False) hb) fun _ _ h => h.elim⟩
theorem Mine.drew (h : Mine w0 w b most gone t) : Mine w0 w.drew b most gone t := h.same ⟨rfl, rfl, rfl, Nat.le_refl _, fun _ _ => rfl⟩
theorem Mine.textB (h : Mine w0 w b most gone t) : Calls Try.prog 17 #[.pointer (some ⟨b, 0, none⟩)] w fun e w' => e = .returned (.string ⟨t.toArray⟩) ∧ Below w.heap.size w w' := by
  obtain ⟨q, hr, hq⟩ := h.1
  exact (text_calls hr).mono fun _ _ ⟨he, hw⟩ => ⟨he, hw⟩
theorem Mine.lenB (h : Mine w0 w b most gone t) : Calls Try.prog 19 #[.pointer (some ⟨b, 0, none⟩)] w fun e w' => e = .returned (.int .i64 t.length) ∧ Below w.heap.size w w' := by
  obtain ⟨q, hr, hq⟩ := h.1
  exact (len_calls hr).mono fun _ _ ⟨he, hw⟩ => ⟨he, hw ▸ Below.refl _ _⟩
theorem Mine.wentB (h : Mine w0 w b most gone t) : Calls Try.prog 18 #[.pointer (some ⟨b, 0, none⟩)] w fun e w' => e = .returned (.int .i64 gone) ∧ Below w.heap.size w w' := by
  obtain ⟨q, hr, hq⟩ := h.1
  exact (gone_calls hr).mono fun _ _ ⟨he, hw⟩ => ⟨he, hw ▸ Below.refl _ _⟩
theorem Mine.roomB (h : Mine w0 w b most gone t) : Calls Try.prog 21 #[.pointer (some ⟨b, 0, none⟩)] w fun e w' => e = .returned (.int .i64 ((most : Int) - t.length)) ∧ Below w.heap.size w w' := by
  obtain ⟨q, hr, hq⟩ := h.1
  exact (room_calls hr).mono fun _ _ ⟨he, hw⟩ => ⟨he, below_drew hw⟩
theorem Mine.atB_ (h : Mine w0 w b most gone t) (i : Int) : Calls Try.prog 20 #[.pointer (some ⟨b, 0, none⟩), .int .i64 i] w fun e w' => e = .returned (.tuple #[.int .u8 (atV t i), .bool (atB t i)]) ∧ Below w.heap.size w w' := by
  obtain ⟨q, hr, hq⟩ := h.1
  by_cases hi : 0 ≤ i ∧ i.toNat < t.length
  · have e1 : atV t i = ((t[i.toNat]'hi.2).toNat : Int) := by unfold atV; rw [dif_pos hi]
    have e2 : atB t i = true := by unfold atB; exact decide_eq_true hi
    rw [e1, e2]
    have := at_some hr i.toNat hi.2
    rw [Int.toNat_of_nonneg hi.1] at this
    exact this.mono fun _ _ ⟨he, hw⟩ => ⟨he, below_drew hw⟩
  · have e1 : atV t i = 0 := by unfold atV; rw [dif_neg hi]
    have e2 : atB t i = false := by unfold atB; exact decide_eq_false hi
    rw [e1, e2]
    exact (at_none hr i (by omega)).mono fun _ _ ⟨he, hw⟩ => ⟨he, hw ▸ Below.refl _ _⟩
theorem Mine.below (h : Mine w0 w b most gone t) : Below w0.heap.size w0 w := h.2.below (Nat.le_refl _) fun _ h => h
theorem Mine.fresh (h : Mine w0 w b most gone t) : ∀ k, w.heap.size ≤ k → w0.heap.size ≤ k := fun _ hk => Nat.le_trans h.2.size hk
end

set_option maxRecDepth 100000 in
set_option maxHeartbeats 1000000 in
theorem works_calls (w : World) : Calls Try.prog 6 #[] w fun e w' => e = .returned (.bool true) ∧ Below w.heap.size w w' := by
  go_enter Try.func6, Try.ntmps6
  go_wp2_with fail
  refine (own_new (G := fun k => w.heap.size ≤ k) 4 (by omega) (by omega) w (fun _ h => h)).mono ?_
  rintro e w1 ⟨rfl, h1, o1⟩
  have M1 : Hid (Mine w w1 w.heap.size 4 0 []) := Lib.hid ⟨h1, o1⟩
  clear h1 o1
  go_wp2_with fail
  refine (new_none 0 (by omega) _).mono ?_
  rintro e w' ⟨rfl, rfl⟩
  go_wp2_with fail
  refine M1.out.then_ (own_put M1.out.1 M1.out.fresh _) ?_
  intro w2 m2
  have M2 : Hid (Mine w w2 w.heap.size 4 0 [97, 98, 99]) := Lib.hid m2
  clear m2
  go_wp2_with fail
  refine M2.out.then_ (own_put M2.out.1 M2.out.fresh _) ?_
  intro w3 m3
  have M3 : Hid (Mine w w3 w.heap.size 4 0 [97, 98, 99]) := Lib.hid m3
  clear m3
  go_wp2_with fail
  refine M3.out.then_ (own_force M3.out.1 M3.out.fresh _ (by simp [ByteArray.size]) (by simp [ByteArray.size])) ?_
  intro w4 m4
  have M4 : Hid (Mine w w4 w.heap.size 4 1 [98, 99, 100, 101]) := Lib.hid m4
  clear m4
  go_wp2_with fail
  refine M4.out.then_ (own_at M4.out.1 3) ?_
  intro w5 M5
  replace M5 := Lib.hid M5
  go_wp2_with fail
  refine M5.out.then_ (own_take M5.out.1 2 (by simp)) ?_
  intro w6 m6
  have M6 : Hid (Mine w w6 w.heap.size 4 3 [100, 101]) := Lib.hid m6
  clear m6
  go_wp2_with fail
  refine M6.out.then_ (own_text M6.out.1) ?_
  intro w7 M7
  replace M7 := Lib.hid M7
  go_wp2_with fail
  refine M7.out.then_ (own_room M7.out.1) ?_
  intro w8 M8
  replace M8 := Lib.hid M8
  go_wp2_with fail
  refine M8.out.then_ (own_gone M8.out.1) ?_
  intro w9 M9
  replace M9 := Lib.hid M9
  go_wp2_with fail
  refine M9.out.then_ (own_force M9.out.1 M9.out.fresh _ (by simp [ByteArray.size]) (by simp [ByteArray.size])) ?_
  intro w10 m10
  have M10 : Hid (Mine w w10 w.heap.size 4 7 [119, 120, 121, 122]) := Lib.hid m10
  clear m10
  go_wp2_with fail
  refine M10.out.then_ (own_text M10.out.1) ?_
  intro w11 M11
  replace M11 := Lib.hid M11
  go_wp2_with fail
  refine M11.out.then_ (own_gone M11.out.1) ?_
  intro w12 M12
  replace M12 := Lib.hid M12
  go_wp2_with fail
  go_ret
  exact ⟨rfl, M12.out.2.below (Nat.le_refl _) (fun _ h => h)⟩
end Go.Proofs.Ytgbelgmnenbmcaa.Ring

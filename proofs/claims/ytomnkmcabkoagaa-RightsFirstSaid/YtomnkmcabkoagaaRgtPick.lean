/-
  Layer 16 (rights): Pick.
-/
import Derived.Test.YtomnkmcabkoagaaRgtFit
namespace Go.Proofs.Ytomnkmcabkoagaa.Rgt
open Go.RowKit Go.Proofs.Ytomnkmcabkoagaa.Own Go.Proofs.Ytomnkmcabkoagaa.Rw Go.Proofs.Ytomnkmcabkoagaa.Tree Go.Proofs.Ytomnkmcabkoagaa.Conf

def hpx (q s : Bs) : Bool := decide (q.length ≤ s.length) && (s.take q.length == q)
theorem ext_list (s : Bs) (n : Nat) : ((⟨s.toArray⟩ : ByteArray).extract 0 n).toList = s.take n := by
  rw [ByteArray.toList_eq]
  simp [ByteArray.data_extract, List.extract]
set_option maxRecDepth 100000 in
set_option maxHeartbeats 1000000 in
theorem hp0_calls (s q : Bs) (w : World) : Calls Try.prog 50 #[.string ⟨s.toArray⟩, .string ⟨q.toArray⟩] w fun e w' => e = .returned (.bool (hpx q s)) ∧ w = w' := by
  by_cases h : q.length ≤ s.length
  · have H := Lib.hid (show hpx q s = (((⟨s.toArray⟩ : ByteArray).extract 0 q.length).toList == q) by unfold hpx; rw [decide_eq_true h, ext_list]; rfl)
    have q1 : (q.length : Int) ≤ (s.length : Int) := by omega
    go_enter Try.func50, Try.ntmps50
    go_wp2_with fail
    go_ret
    exact ⟨by rw [H.out]; rfl, rfl⟩
  · have H := Lib.hid (show hpx q s = false by unfold hpx; rw [decide_eq_false h]; rfl)
    have q1 : ¬ (q.length : Int) ≤ (s.length : Int) := by omega
    go_enter Try.func50, Try.ntmps50
    go_wp2_with fail
    go_ret
    exact ⟨by rw [H.out]; rfl, rfl⟩
set_option maxRecDepth 100000 in
theorem hp_calls (s q : Bs) (w : World) : Calls Try.prog 38 #[.string ⟨s.toArray⟩, .string ⟨q.toArray⟩] w fun e w' => e = .returned (.bool (hpx q s)) ∧ w = w' := by
  have H := Lib.hid (hp0_calls s q w)
  generalize hpx q s = r at *
  go_enter Try.func38, Try.ntmps38
  go_wp2_with fail
  refine H.out.mono ?_
  rintro e w' ⟨rfl, rfl⟩
  go_wp2_with fail
  go_ret
  exact ⟨rfl, rfl⟩
set_option maxRecDepth 100000 in
set_option maxHeartbeats 4000000 in
theorem pick1_calls (l : List Ac) (u q : Bs) (x : Cn) (hx : x.name.length ≤ 65536) (p : Option Addr) (k n g h gs : Nat) (w : World) (hr : Rd w 3 p k n (l.flatMap acv)) (hs : SeV w p n k l u gs) (hg : g < w.heap.size) (hc : w.cell? ⟨g, 0, none⟩ = some (.string ⟨q.toArray⟩)) (hh : h < w.heap.size) (hc2 : w.cell? ⟨h, 0, none⟩ = some (seF gs)) :
    Calls Try.prog 37 #[cnV x, .pointer (some ⟨g, 0, none⟩), .pointer (some ⟨h, 0, none⟩)] w fun e w' => e = .returned (.bool (begs q x && sees l u x)) ∧ Below w.heap.size w w' := by
  have hB := ((Below.refl w.heap.size w).alloc (Nat.le_refl _) (.cells #[.string ⟨x.name.toArray⟩, .int .i64 x.kind, .int .i64 x.lines, .int .i64 x.bytes, .int .i64 x.gens, .int .i64 x.size, .int .i64 x.base, .int .i64 x.cap, .int .i64 x.jit, .string ⟨x.init.toArray⟩] 47))
  have HP := Lib.hid (hp_calls x.name q)
  have HS := Lib.hid (see_calls l u x hx p k n gs _ (hr.below hB) (hs.below hB))
  have HB := Lib.hid hB
  have HD := Lib.hid (show begs q x = (decide (q ≠ []) && hpx q x.name) from rfl)
  clear hB hr hs
  unfold seF at hc2
  by_cases h0 : q = []
  · have b0 : (q == []) = true := by simp [h0]
    have HD2 := Lib.hid (show begs q x = false by rw [HD.out]; simp [h0])
    clear h0
    unfold cnV
    go_enter Try.func37, Try.ntmps37
    go_wp2_with fail
    go_ret
    exact ⟨by rw [HD2.out]; rfl, HB.out⟩
  have b0 : (q == []) = false := by simp [h0]
  cases hp : hpx q x.name with
  | false =>
    have HD2 := Lib.hid (show begs q x = false by rw [HD.out, hp]; simp)
    rw [hp] at HP
    clear h0 hp
    unfold cnV
    go_enter Try.func37, Try.ntmps37
    go_wp2_with (go_at_call 38; refine (HP.out _).mono ?_; rintro e w' ⟨rfl, rfl⟩)
    go_ret
    exact ⟨by rw [HD2.out]; rfl, HB.out⟩
  | true =>
    have HD2 := Lib.hid (show begs q x = true by rw [HD.out, hp]; simp [h0])
    rw [hp] at HP
    clear h0 hp
    unfold cnV at HS ⊢
    generalize sees l u x = r at *
    go_enter Try.func37, Try.ntmps37
    go_wp2_with (go_at_call 38; refine (HP.out _).mono ?_; rintro e w' ⟨rfl, rfl⟩)
    refine HS.out.mono ?_
    rintro e w5 ⟨rfl, hb5⟩
    go_wp2_with fail
    go_ret
    exact ⟨by rw [HD2.out]; rfl, HB.out.trans (hb5.mono HB.out.size)⟩
end Go.Proofs.Ytomnkmcabkoagaa.Rgt

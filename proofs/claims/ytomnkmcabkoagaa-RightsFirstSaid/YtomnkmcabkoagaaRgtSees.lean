/-
  Layer 16 (rights): Level, May; the question whether a user may look; Sees.
-/
import Derived.Test.YtomnkmcabkoagaaRgtLevel
import Derived.Laws.EntriesVeiled
namespace Go.Proofs.Ytomnkmcabkoagaa.Rgt
open Go.RowKit Go.Proofs.Ytomnkmcabkoagaa.Own Go.Proofs.Ytomnkmcabkoagaa.Rw Go.Proofs.Ytomnkmcabkoagaa.Tree Go.Proofs.Ytomnkmcabkoagaa.Conf

set_option maxRecDepth 100000 in
set_option maxHeartbeats 4000000 in
theorem Level_calls (l : List Ac) (u c : Bs) (hu : u.length ≤ 65536) (hc : c.length ≤ 65536) (p : Option Addr) (k n : Nat) (v0 v1 v2 : Value) (b0 b1 b2 b3 b4 b5 b6 b7 b8 b9 : Bs) (hn : n = l.length) (hm : n ≤ 65536) (w : World) (h : Rd w 3 p k n (l.flatMap acv)) :
    Calls Try.prog 9 #[confV v0 v1 v2 (.slice p n k) b0 b1 b2 b3 b4 b5 b6 b7 b8 b9, .string ⟨u.toArray⟩, .string ⟨c.toArray⟩] w fun e w' => e = .returned (.int .i64 (lvlM l u c)) ∧ Below w.heap.size w w' := by
  have hA := (Below.refl w.heap.size w).alloc (Nat.le_refl _) (.cells #[v0, v1, v2, .slice p n k, .string ⟨b0.toArray⟩, .string ⟨b1.toArray⟩, .string ⟨b2.toArray⟩, .string ⟨b3.toArray⟩, .string ⟨b4.toArray⟩, .string ⟨b5.toArray⟩, .string ⟨b6.toArray⟩, .string ⟨b7.toArray⟩, .string ⟨b8.toArray⟩, .string ⟨b9.toArray⟩] 28)
  have HX := Lib.hid (at_new w (.cells #[v0, v1, v2, .slice p n k, .string ⟨b0.toArray⟩, .string ⟨b1.toArray⟩, .string ⟨b2.toArray⟩, .string ⟨b3.toArray⟩, .string ⟨b4.toArray⟩, .string ⟨b5.toArray⟩, .string ⟨b6.toArray⟩, .string ⟨b7.toArray⟩, .string ⟨b8.toArray⟩, .string ⟨b9.toArray⟩] 28))
  have HB0 := Lib.hid hA
  have HS := Lib.hid (show (w.alloc (.cells #[v0, v1, v2, .slice p n k, .string ⟨b0.toArray⟩, .string ⟨b1.toArray⟩, .string ⟨b2.toArray⟩, .string ⟨b3.toArray⟩, .string ⟨b4.toArray⟩, .string ⟨b5.toArray⟩, .string ⟨b6.toArray⟩, .string ⟨b7.toArray⟩, .string ⟨b8.toArray⟩, .string ⟨b9.toArray⟩] 28)).heap.size = w.heap.size + 1 by simp)
  have HL := Lib.hid (levelOf_calls l u hu p k n v0 v1 v2 b0 b1 b2 b3 b4 b5 b6 b7 b8 b9 hn hm (w.alloc (.cells #[v0, v1, v2, .slice p n k, .string ⟨b0.toArray⟩, .string ⟨b1.toArray⟩, .string ⟨b2.toArray⟩, .string ⟨b3.toArray⟩, .string ⟨b4.toArray⟩, .string ⟨b5.toArray⟩, .string ⟨b6.toArray⟩, .string ⟨b7.toArray⟩, .string ⟨b8.toArray⟩, .string ⟨b9.toArray⟩] 28)) (h.below hA))
  have HR := Lib.hid h
  clear hA hn h
  unfold confV at *
  go_enter Try.func9, Try.ntmps9
  go_wp2_with fail
  refine HL.out.mono ?_
  rintro e w5 ⟨q, m, d, rfl, hv, hb5⟩
  have HB5 := Lib.hid (HB0.out.trans (hb5.mono HB0.out.size))
  have HC := Lib.hid (level_calls l u c hc p k n q m d w5 (HR.out.below HB5.out) hv)
  clear hv hb5 HL
  unfold lvF
  go_wp2_with fail
  refine HC.out.mono ?_
  rintro e w6 ⟨rfl, hb6⟩
  go_wp2_with fail
  go_ret
  exact ⟨rfl, HB5.out.trans (hb6.mono HB5.out.size)⟩
set_option maxRecDepth 100000 in
set_option maxHeartbeats 4000000 in
theorem May_calls (l : List Ac) (u c : Bs) (need : Int) (hu : u.length ≤ 65536) (hc : c.length ≤ 65536) (p : Option Addr) (k n : Nat) (v0 v1 v2 : Value) (b0 b1 b2 b3 b4 b5 b6 b7 b8 b9 : Bs) (hn : n = l.length) (hm : n ≤ 65536) (w : World) (h : Rd w 3 p k n (l.flatMap acv)) :
    Calls Try.prog 10 #[confV v0 v1 v2 (.slice p n k) b0 b1 b2 b3 b4 b5 b6 b7 b8 b9, .string ⟨u.toArray⟩, .string ⟨c.toArray⟩, .int .i64 need] w fun e w' => e = .returned (.bool (decide (need ≤ lvlM l u c))) ∧ Below w.heap.size w w' := by
  have hA := (Below.refl w.heap.size w).alloc (Nat.le_refl _) (.cells #[v0, v1, v2, .slice p n k, .string ⟨b0.toArray⟩, .string ⟨b1.toArray⟩, .string ⟨b2.toArray⟩, .string ⟨b3.toArray⟩, .string ⟨b4.toArray⟩, .string ⟨b5.toArray⟩, .string ⟨b6.toArray⟩, .string ⟨b7.toArray⟩, .string ⟨b8.toArray⟩, .string ⟨b9.toArray⟩] 28)
  have HX := Lib.hid (at_new w (.cells #[v0, v1, v2, .slice p n k, .string ⟨b0.toArray⟩, .string ⟨b1.toArray⟩, .string ⟨b2.toArray⟩, .string ⟨b3.toArray⟩, .string ⟨b4.toArray⟩, .string ⟨b5.toArray⟩, .string ⟨b6.toArray⟩, .string ⟨b7.toArray⟩, .string ⟨b8.toArray⟩, .string ⟨b9.toArray⟩] 28))
  have HB0 := Lib.hid hA
  have HS := Lib.hid (show (w.alloc (.cells #[v0, v1, v2, .slice p n k, .string ⟨b0.toArray⟩, .string ⟨b1.toArray⟩, .string ⟨b2.toArray⟩, .string ⟨b3.toArray⟩, .string ⟨b4.toArray⟩, .string ⟨b5.toArray⟩, .string ⟨b6.toArray⟩, .string ⟨b7.toArray⟩, .string ⟨b8.toArray⟩, .string ⟨b9.toArray⟩] 28)).heap.size = w.heap.size + 1 by simp)
  have HL := Lib.hid (Level_calls l u c hu hc p k n v0 v1 v2 b0 b1 b2 b3 b4 b5 b6 b7 b8 b9 hn hm (w.alloc (.cells #[v0, v1, v2, .slice p n k, .string ⟨b0.toArray⟩, .string ⟨b1.toArray⟩, .string ⟨b2.toArray⟩, .string ⟨b3.toArray⟩, .string ⟨b4.toArray⟩, .string ⟨b5.toArray⟩, .string ⟨b6.toArray⟩, .string ⟨b7.toArray⟩, .string ⟨b8.toArray⟩, .string ⟨b9.toArray⟩] 28)) (h.below hA))
  clear hA hn h
  unfold confV at *
  go_enter Try.func10, Try.ntmps10
  go_wp2_with fail
  refine HL.out.mono ?_
  rintro e w5 ⟨rfl, hb5⟩
  go_wp2_with fail
  go_ret
  exact ⟨rfl, HB0.out.trans (hb5.mono HB0.out.size)⟩

/-- the question whether a user may look: a closure, the question for a level captured in a block of its own -/
structure SeV (w : World) (p : Option Addr) (n k : Nat) (l : List Ac) (u : Bs) (g : Nat) : Prop where
  lt : g < w.heap.size
  at_ : ∃ q m d, w.cell? ⟨g, 0, none⟩ = some (lvF p n k q m d) ∧ LvV w p n k l u q m d
theorem SeV.below {w w' : World} {p : Option Addr} {n k : Nat} {l : List Ac} {u : Bs} {g : Nat} (h : SeV w p n k l u g) (hb : Below w.heap.size w w') : SeV w' p n k l u g := by
  obtain ⟨h1, q, m, d, h2, h3⟩ := h
  exact ⟨Nat.lt_of_lt_of_le h1 hb.size, q, m, d, (hb.cell (p := ⟨g, 0, none⟩) h1).trans h2, h3.below hb⟩
def seF (g : Nat) : Value := .func (.func 46) #[] #[.pointer (some ⟨g, 0, none⟩)]
def SePost (p : Option Addr) (n k : Nat) (l : List Ac) (u : Bs) (w : World) (e : Ending) (w' : World) : Prop := ∃ g, e = .returned (seF g) ∧ SeV w' p n k l u g ∧ Below w.heap.size w w'
set_option maxRecDepth 100000 in
set_option maxHeartbeats 4000000 in
theorem seenBy_calls (l : List Ac) (u : Bs) (hu : u.length ≤ 65536) (p : Option Addr) (k n : Nat) (v0 v1 v2 : Value) (b0 b1 b2 b3 b4 b5 b6 b7 b8 b9 : Bs) (hn : n = l.length) (hm : n ≤ 65536) (w : World) (h : Rd w 3 p k n (l.flatMap acv)) :
    Calls Try.prog 26 #[confV v0 v1 v2 (.slice p n k) b0 b1 b2 b3 b4 b5 b6 b7 b8 b9, .string ⟨u.toArray⟩] w (SePost p n k l u w) := by
  have hA := (Below.refl w.heap.size w).alloc (Nat.le_refl _) (.cells #[v0, v1, v2, .slice p n k, .string ⟨b0.toArray⟩, .string ⟨b1.toArray⟩, .string ⟨b2.toArray⟩, .string ⟨b3.toArray⟩, .string ⟨b4.toArray⟩, .string ⟨b5.toArray⟩, .string ⟨b6.toArray⟩, .string ⟨b7.toArray⟩, .string ⟨b8.toArray⟩, .string ⟨b9.toArray⟩] 28)
  have HX := Lib.hid (at_new w (.cells #[v0, v1, v2, .slice p n k, .string ⟨b0.toArray⟩, .string ⟨b1.toArray⟩, .string ⟨b2.toArray⟩, .string ⟨b3.toArray⟩, .string ⟨b4.toArray⟩, .string ⟨b5.toArray⟩, .string ⟨b6.toArray⟩, .string ⟨b7.toArray⟩, .string ⟨b8.toArray⟩, .string ⟨b9.toArray⟩] 28))
  have HB0 := Lib.hid hA
  have HS := Lib.hid (show (w.alloc (.cells #[v0, v1, v2, .slice p n k, .string ⟨b0.toArray⟩, .string ⟨b1.toArray⟩, .string ⟨b2.toArray⟩, .string ⟨b3.toArray⟩, .string ⟨b4.toArray⟩, .string ⟨b5.toArray⟩, .string ⟨b6.toArray⟩, .string ⟨b7.toArray⟩, .string ⟨b8.toArray⟩, .string ⟨b9.toArray⟩] 28)).heap.size = w.heap.size + 1 by simp)
  have HL := Lib.hid (levelOf_calls l u hu p k n v0 v1 v2 b0 b1 b2 b3 b4 b5 b6 b7 b8 b9 hn hm (w.alloc (.cells #[v0, v1, v2, .slice p n k, .string ⟨b0.toArray⟩, .string ⟨b1.toArray⟩, .string ⟨b2.toArray⟩, .string ⟨b3.toArray⟩, .string ⟨b4.toArray⟩, .string ⟨b5.toArray⟩, .string ⟨b6.toArray⟩, .string ⟨b7.toArray⟩, .string ⟨b8.toArray⟩, .string ⟨b9.toArray⟩] 28)) (h.below hA))
  clear hA hn h
  unfold confV at *
  unfold SePost seF
  go_enter Try.func26, Try.ntmps26
  go_wp2_with fail
  refine HL.out.mono ?_
  rintro e w5 ⟨q, m, d, rfl, hv, hb5⟩
  have HB5 := Lib.hid (HB0.out.trans (hb5.mono HB0.out.size))
  have HV := Lib.hid hv
  clear hv hb5 HL
  unfold lvF at *
  go_wp2_with fail
  go_ret
  have N := at_new w5 (.cells #[Value.func (.func 45) #[.agg #[.slice p n k, .slice q m d]] #[]] 57)
  have B := (Below.refl w5.heap.size w5).alloc (Nat.le_refl _) (.cells #[Value.func (.func 45) #[.agg #[.slice p n k, .slice q m d]] #[]] 57)
  exact ⟨w5.heap.size, rfl, ⟨by simp, q, m, d, at_cell N 0, HV.out.below B⟩, HB5.out.trans (B.mono HB5.out.size)⟩
set_option maxRecDepth 100000 in
set_option maxHeartbeats 4000000 in
theorem see_calls (l : List Ac) (u : Bs) (x : Cn) (hx : x.name.length ≤ 65536) (p : Option Addr) (k n g : Nat) (w : World) (h : Rd w 3 p k n (l.flatMap acv)) (hs : SeV w p n k l u g) :
    Calls Try.prog 46 #[cnV x, .pointer (some ⟨g, 0, none⟩)] w fun e w' => e = .returned (.bool (sees l u x)) ∧ Below w.heap.size w w' := by
  obtain ⟨hlt, q, m, d, hc, hv⟩ := hs
  unfold cnV sees
  generalize x.name = a at *
  have hB := (Below.refl w.heap.size w).alloc (Nat.le_refl _) (.cells #[.string ⟨a.toArray⟩, .int .i64 x.kind, .int .i64 x.lines, .int .i64 x.bytes, .int .i64 x.gens, .int .i64 x.size, .int .i64 x.base, .int .i64 x.cap, .int .i64 x.jit, .string ⟨x.init.toArray⟩] 47)
  have HB := Lib.hid hB
  have HL := Lib.hid (level_calls l u a hx p k n q m d _ (h.below hB) (hv.below hB))
  clear hB h hv
  unfold lvF at hc
  go_enter Try.func46, Try.ntmps46
  go_wp2_with fail
  refine HL.out.mono ?_
  rintro e w5 ⟨rfl, hb5⟩
  go_wp2_with fail
  go_ret
  exact ⟨rfl, HB.out.trans (hb5.mono HB.out.size)⟩
end Go.Proofs.Ytomnkmcabkoagaa.Rgt

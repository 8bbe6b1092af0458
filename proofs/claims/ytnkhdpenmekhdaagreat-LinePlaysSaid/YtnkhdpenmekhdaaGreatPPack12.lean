/-
Layer 19 (line): acts that came in, out of their readings: structs that hold a slice of ops.
Layer 19 (line): LinePlays, walked. Written by gen_lindo.py.
Layer 19 (line): a console that came in, out of its reading.
-/
import Derived.Test.YtnkhdpenmekhdaaGreatPPack11
section
namespace Go.Proofs.YtnkhdpenmekhdaaGreat.Lin
open Go.RowKit Go.Proofs.YtnkhdpenmekhdaaGreat.Own Go.ChangeShapes Go.WideShapes Go.Deep Go.Proofs.YtnkhdpenmekhdaaGreat.Brk

/-- an act, as it came in -/
structure Ac where
  k : Int
  g : Int
  ok : Bool
  r : Int
  s : List UInt8
  q : Option Addr
  n : Nat
  c : Nat
  L : List Op
def Ac.cells (a : Ac) : List Value := [.int .u8 a.k, .int .u8 a.g, .bool a.ok, .int .i64 a.r, .string ⟨a.s.toArray⟩, .slice a.q a.n a.c]
structure OkA (w : World) (a : Ac) : Prop where
  k : 0 ≤ a.k ∧ a.k ≤ 255
  g : 0 ≤ a.g ∧ a.g ≤ 255
  r : -9223372036854775808 ≤ a.r ∧ a.r ≤ 9223372036854775807
  s : a.s.length ≤ 140737488355327
  len : a.L.length = a.n
  ops : Ops w a.L a.q a.c
  few : ∀ x ∈ a.L, x.s.length ≤ 140737488355327
theorem OkA.below {w w' : World} {a : Ac} (h : OkA w a) (hb : Below w.heap.size w w') : OkA w' a := ⟨h.k, h.g, h.r, h.s, h.len, h.ops.below hb, h.few⟩
theorem reach_le : reachBytes ≤ 140737488355327 := by have := reachBytes_lt; omega

section
variable {H : Type} {enc : TypeId × Value → H} {w : World} {base : Nat} {spare : Nat → Bool} {held : Bool}
theorem op_leaf_w {E : Nat → Value} {m : Nat} {y : DataW H × List MemPlace} (h : DataW.trod enc Tryz.prog w base spare held m 58 ((List.range 3).map E) = some y) (hw : WOk Tryz.prog 58 y.1) :
    ∃ x : Op, x.s.length ≤ 140737488355327 ∧ E 0 = .int .i64 x.k ∧ E 1 = .string ⟨x.s.toArray⟩ ∧ E 2 = .int .i64 x.n := by
  obtain ⟨m0, y0, h0, _⟩ := leaf_field_w Tryz.underlying58 h hw 0 _ rfl 0 1 rfl (by kernel_rfl) (by omega)
  obtain ⟨m1, y1, h1, w1⟩ := leaf_field_w Tryz.underlying58 h hw 1 _ rfl 1 1 rfl (by kernel_rfl) (by omega)
  obtain ⟨m2, y2, h2, _⟩ := leaf_field_w Tryz.underlying58 h hw 2 _ rfl 2 1 rfl (by kernel_rfl) (by omega)
  obtain ⟨k, e0, _⟩ := leaf_int Tryz.underlying3 h0
  obtain ⟨s, e1, hs⟩ := leaf_string_w Tryz.underlying9 h1 w1
  obtain ⟨n, e2, _⟩ := leaf_int Tryz.underlying3 h2
  obtain ⟨l, rfl, hl⟩ : ∃ l : List UInt8, s = ⟨l.toArray⟩ ∧ l.length = s.size := ⟨s.data.toList, by simp, by simp⟩
  have := reach_le
  refine ⟨⟨k, l, n⟩, ?_, by simpa using e0, by simpa using e1, by simpa using e2⟩
  show l.length ≤ _
  omega
theorem ops_leaf_w {m : Nat} {y : DataW H × List MemPlace} {E : Nat → Value} (h : DataW.trod enc Tryz.prog w base spare held m 30 ((List.range 1).map E) = some y) (hw : WOk Tryz.prog 30 y.1) :
    ∃ L p n c, E 0 = .slice p n c ∧ L.length = n ∧ Ops w L p c ∧ ∀ x ∈ L, x.s.length ≤ 140737488355327 := by
  have hv : ∃ a n cap, E 0 = .slice a n cap := by
    rcases open_slice Tryz.underlying30 h with ⟨hcs, _⟩ | ⟨x, l, c, _, _, _, _, hcs, _⟩
    · exact ⟨_, _, _, by simpa using hcs⟩
    · exact ⟨_, _, _, by simpa using hcs⟩
  have ht : DataW.Trod enc Tryz.prog w base spare held 30 (E 0) y.1 y.2 := by
    refine ⟨m, ?_⟩
    obtain ⟨a, n, cap, e⟩ := hv
    have e2 : (E 0).cells.toList = (List.range 1).map E := by rw [e]; simp [Value.cells, e]
    rw [e2, h]
  obtain ⟨a, len, cap, e0⟩ := hv
  rw [e0] at ht ⊢
  obtain ⟨n, F, hrow, m', hF⟩ := args_slice_w Tryz.underlying30 (size := 3) cOp (by omega) ht hw ⟨_, _, _, rfl⟩
  have hz : ∀ i, ∃ x : Op, i < n → x.s.length ≤ 140737488355327 ∧ F i 0 = .int .i64 x.k ∧ F i 1 = .string ⟨x.s.toArray⟩ ∧ F i 2 = .int .i64 x.n := fun i => by
    by_cases hi : i < n
    · obtain ⟨y, hy, hwy⟩ := hF i hi
      obtain ⟨x, h⟩ := op_leaf_w hy hwy
      exact ⟨x, fun _ => h⟩
    · exact ⟨⟨0, [], 0⟩, fun h => absurd h hi⟩
  obtain ⟨a2, cap2, e, h1, h2, h3⟩ := hrow
  cases e
  refine ⟨(List.range len).map fun i => (hz i).choose, a, len, cap, rfl, by simp, ⟨by simpa using h1, h2, ?_⟩, fun x hx => ?_⟩
  · rcases h3 with rfl | ⟨g, off, rfl, hl, hc⟩
    · exact .inl rfl
    · refine .inr ⟨g, off, rfl, hl, fun i hi => ?_⟩
      have hi' : i < len := by simpa using hi
      obtain ⟨_, e0, e1, e2⟩ := (hz i).choose_spec hi'
      have c0 := hc i 0 hi' (by omega)
      have c1 := hc i 1 hi' (by omega)
      have c2 := hc i 2 hi' (by omega)
      simp only [List.getElem_map, List.getElem_range]
      rw [e0] at c0
      rw [e1] at c1
      rw [e2] at c2
      exact ⟨c0, c1, c2⟩
  · simp only [List.mem_map, List.mem_range] at hx
    obtain ⟨i, hi, rfl⟩ := hx
    exact ((hz i).choose_spec hi).1
theorem cAc : Tryz.prog.cellsOf 36 = 6 := by kernel_rfl
set_option maxRecDepth 100000 in
theorem ac_leaf {m : Nat} {y : DataW H × List MemPlace} {E : Nat → Value} (hy : DataW.trod enc Tryz.prog w base spare held m 36 ((List.range 6).map E) = some y) (hw : WOk Tryz.prog 36 y.1) : ∃ o : Ac, OkA w o ∧ ∀ j, j < 6 → E j = o.cells.getD j undef := by
  obtain ⟨m0, y0, h0, _⟩ := leaf_field_w Tryz.underlying36 hy hw 0 _ rfl 0 1 rfl (by kernel_rfl) (by omega)
  obtain ⟨m1, y1, h1, _⟩ := leaf_field_w Tryz.underlying36 hy hw 1 _ rfl 1 1 rfl (by kernel_rfl) (by omega)
  obtain ⟨m2, y2, h2, _⟩ := leaf_field_w Tryz.underlying36 hy hw 2 _ rfl 2 1 rfl (by kernel_rfl) (by omega)
  obtain ⟨m3, y3, h3, _⟩ := leaf_field_w Tryz.underlying36 hy hw 3 _ rfl 3 1 rfl (by kernel_rfl) (by omega)
  obtain ⟨m4, y4, h4, w4⟩ := leaf_field_w Tryz.underlying36 hy hw 4 _ rfl 4 1 rfl (by kernel_rfl) (by omega)
  obtain ⟨m5, y5, h5, w5⟩ := leaf_field_w Tryz.underlying36 hy hw 5 _ rfl 5 1 rfl (by kernel_rfl) (by omega)
  obtain ⟨k, e0, b0⟩ := leaf_int Tryz.underlying5 h0
  obtain ⟨g, e1, b1⟩ := leaf_int Tryz.underlying5 h1
  obtain ⟨ok, e2⟩ := leaf_bool Tryz.underlying4 h2
  obtain ⟨r, e3, b3⟩ := leaf_int Tryz.underlying3 h3
  obtain ⟨s, e4, hs⟩ := leaf_string_w Tryz.underlying9 h4 w4
  obtain ⟨L, q, n, c, e5, hL, hO, hF⟩ := ops_leaf_w h5 w5
  obtain ⟨l, rfl, hl⟩ : ∃ l : List UInt8, s = ⟨l.toArray⟩ ∧ l.length = s.size := ⟨s.data.toList, by simp, by simp⟩
  have hre := reach_le
  refine ⟨⟨k, g, ok, r, l, q, n, c, L⟩, ⟨wf8 b0, wf8 b1, wf64 b3, by show l.length ≤ _; omega, hL, hO, hF⟩, fun j hj => ?_⟩
  rcases (show j = 0 ∨ j = 1 ∨ j = 2 ∨ j = 3 ∨ j = 4 ∨ j = 5 by omega) with rfl | rfl | rfl | rfl | rfl | rfl
  · exact e0
  · exact e1
  · exact e2
  · exact e3
  · exact e4
  · exact e5
set_option maxRecDepth 100000 in
theorem acs_open {v : Value} (t : ∃ d p, DataW.Trod enc Tryz.prog w base spare held 24 v d p ∧ ∀ n ∈ DataW.weights Tryz.prog 24 d, n ≤ reachBytes) {r : Reach} (o : ∃ base, Value.okWide Tryz.prog w r base 24 v) :
    ∃ p n cap, ∃ o : Nat → Ac, v = .slice p n cap ∧ Row w (.slice p n cap) n 6 (fun i j => (o i).cells.getD j undef) ∧ ∀ i, i < n → OkA w (o i) := by
  obtain ⟨d, p, t, hw⟩ := t
  obtain ⟨b0, o⟩ := o
  obtain ⟨a, len, cap, rfl⟩ := okWide_slice Tryz.underlying24 o
  obtain ⟨n, E, hrow, m, hE⟩ := args_slice_w Tryz.underlying24 (size := 6) cAc (by omega) t hw ⟨_, _, _, rfl⟩
  have hz : ∀ i, ∃ o : Ac, i < n → OkA w o ∧ ∀ j, j < 6 → E i j = o.cells.getD j undef := fun i => by
    by_cases hi : i < n
    · obtain ⟨y, hy, hwy⟩ := hE i hi
      obtain ⟨o, h⟩ := ac_leaf hy hwy
      exact ⟨o, fun _ => h⟩
    · exact ⟨⟨0, 0, false, 0, [], none, 0, 0, []⟩, fun h => absurd h hi⟩
  refine ⟨a, len, cap, fun i => (hz i).choose, rfl, ?_, fun i hi => ?_⟩
  all_goals obtain ⟨a2, cap2, e, h1, h2, h3⟩ := hrow
  all_goals cases e
  · refine ⟨_, _, rfl, h1, h2, h3.imp id ?_⟩
    rintro ⟨g, off, e, hl, hc⟩
    exact ⟨g, off, e, hl, fun i j hi hj => by rw [hc i j hi hj, ((hz i).choose_spec hi).2 j hj]⟩
  · exact ((hz i).choose_spec hi).1
end
end Go.Proofs.YtnkhdpenmekhdaaGreat.Lin
end

section
namespace Go.Proofs.YtnkhdpenmekhdaaGreat.Lin
open Go.RowKit Go.Proofs.YtnkhdpenmekhdaaGreat.Own Go.Proofs.YtnkhdpenmekhdaaGreat.Brk Go.Proofs.YtnkhdpenmekhdaaGreat.Calc Go.Proofs.YtnkhdpenmekhdaaGreat.Tree Go.Proofs.YtnkhdpenmekhdaaGreat.Run Go.Proofs.YtnkhdpenmekhdaaGreat.Bkf

theorem held5 {w W : World} {X k : Nat} {u3 u4 u10 u0 : Value} (hb : Below w.heap.size w W) (lX : X < w.heap.size) (lk : k < w.heap.size) (d3 : w.cell? ⟨X, 3, none⟩ = some u3) (d4 : w.cell? ⟨X, 4, none⟩ = some u4) (d10 : w.cell? ⟨X, 10, none⟩ = some u10) (e0 : w.cell? ⟨k, 0, none⟩ = some u0) : Below w.heap.size w W ∧ W.cell? ⟨X, 3, none⟩ = some u3 ∧ W.cell? ⟨X, 4, none⟩ = some u4 ∧ W.cell? ⟨X, 10, none⟩ = some u10 ∧ W.cell? ⟨k, 0, none⟩ = some u0 :=
  ⟨hb, (hb.cell (p := ⟨X, _, none⟩) lX).trans d3, (hb.cell (p := ⟨X, _, none⟩) lX).trans d4, (hb.cell (p := ⟨X, _, none⟩) lX).trans d10, (hb.cell (p := ⟨k, _, none⟩) lk).trans e0⟩
theorem out_boxA {S : Nat → Prop} {wr w5 : World} (h : Out S wr w5) (y0 y1 y2 y3 y4 y5 y6 y7 y8 y9 y10 : Value) : Out S wr (((((((((((w5.setCell ⟨wr.heap.size, 0, none⟩ y0).setCell ⟨wr.heap.size, 1, none⟩ y1).setCell ⟨wr.heap.size, 2, none⟩ y2).setCell ⟨wr.heap.size, 3, none⟩ y3).setCell ⟨wr.heap.size, 4, none⟩ y4).setCell ⟨wr.heap.size, 5, none⟩ y5).setCell ⟨wr.heap.size, 6, none⟩ y6).setCell ⟨wr.heap.size, 7, none⟩ y7).setCell ⟨wr.heap.size, 8, none⟩ y8).setCell ⟨wr.heap.size, 9, none⟩ y9).setCell ⟨wr.heap.size, 10, none⟩ y10) := h.trans (S' := fun i => i = wr.heap.size) (out11 _ _ _ _ _ _ _ _ _ _ _ _ _) (fun i hi e => by omega)
/-- an act was done: its line lies in a box of its own -/
def PlMid (wr : World) (S : Nat → Prop) (k : Nat) (x : Ln) (sy sv : Value) (wx : World) : Prop :=
  ∃ (y : Ln) (S5 : Nat → Prop) (Yb : Nat), ∃ (at2 : Int) (pF2 : Option Addr) (cF2 : Nat) (pL2 : Option Addr) (lL2 cL2 : Nat) (start2 done2 : Int), sy = .pointer (some ⟨Yb, 0, none⟩) ∧ sv = .bool true ∧ y.n ≤ x.n + 1 ∧ Pr wx S5 k y (.agg #[.int .i64 y.b, .int .i64 y.c, .int .i64 y.j, .int .i64 y.st, .int .i64 y.n, .int .i64 at2, .slice pF2 y.F.length cF2, .slice pL2 lL2 cL2, .int .i64 start2, .int .i64 done2, .string ⟨y.H.toArray⟩]) ∧ Step S wr S5 wx ∧ wx.heap[Yb]? = some (.cells #[.int .i64 y.b, .int .i64 y.c, .int .i64 y.j, .int .i64 y.st, .int .i64 y.n, .int .i64 at2, .slice pF2 y.F.length cF2, .slice pL2 lL2 cL2, .int .i64 start2, .int .i64 done2, .string ⟨y.H.toArray⟩] 32 (0, 0)) ∧ wr.heap.size ≤ Yb
section
variable {wr w5 wx : World} {S S5 : Nat → Prop} {k Yb : Nat} {x y : Ln} {at2 : Int} {pF2 : Option Addr} {cF2 : Nat} {pL2 : Option Addr} {lL2 cL2 : Nat} {start2 done2 : Int}
theorem mid_new (hP : Pr w5 S5 k y (.agg #[.int .i64 y.b, .int .i64 y.c, .int .i64 y.j, .int .i64 y.st, .int .i64 y.n, .int .i64 at2, .slice pF2 y.F.length cF2, .slice pL2 lL2 cL2, .int .i64 start2, .int .i64 done2, .string ⟨y.H.toArray⟩])) (hT : Step S wr S5 w5) (hn : y.n ≤ x.n + 1) (hb : Below w5.heap.size w5 wx) (hr : wx.heap[w5.heap.size]? = some (.cells #[.int .i64 y.b, .int .i64 y.c, .int .i64 y.j, .int .i64 y.st, .int .i64 y.n, .int .i64 at2, .slice pF2 y.F.length cF2, .slice pL2 lL2 cL2, .int .i64 start2, .int .i64 done2, .string ⟨y.H.toArray⟩] 32 (0, 0))) : PlMid wr S k x (.pointer (some ⟨w5.heap.size, 0, none⟩)) (.bool true) wx :=
  ⟨y, S5, w5.heap.size, at2, pF2, cF2, pL2, lL2, cL2, start2, done2, rfl, rfl, hn, ⟨hP.mem.below hb, hP.rf.mono fun _ _ _ hk V hV => hk V ((Out.ofNew hb).trans hV fun _ _ h => h)⟩, hT.trans (Step.below hb), hr, hT.size⟩
theorem mid_old (hP : Pr w5 S5 k y (.agg #[.int .i64 y.b, .int .i64 y.c, .int .i64 y.j, .int .i64 y.st, .int .i64 y.n, .int .i64 at2, .slice pF2 y.F.length cF2, .slice pL2 lL2 cL2, .int .i64 start2, .int .i64 done2, .string ⟨y.H.toArray⟩])) (hT : Step S wr S5 w5) (hn : y.n ≤ x.n + 1) (h0 : w5.heap[wr.heap.size]? = some (.cells #[.int .i64 0, .int .i64 0, .int .i64 0, .int .i64 0, .int .i64 0, .int .i64 0, .slice none 0 0, .slice none 0 0, .int .i64 0, .int .i64 0, .string ⟨#[]⟩] 32 (0, 0))) (hN : ¬ S5 wr.heap.size) (ho : Out (fun i => i = wr.heap.size) w5 wx) (hr : wx.heap[wr.heap.size]? = some (.cells #[.int .i64 y.b, .int .i64 y.c, .int .i64 y.j, .int .i64 y.st, .int .i64 y.n, .int .i64 at2, .slice pF2 y.F.length cF2, .slice pL2 lL2 cL2, .int .i64 start2, .int .i64 done2, .string ⟨y.H.toArray⟩] 32 (0, 0))) : PlMid wr S k x (.pointer (some ⟨wr.heap.size, 0, none⟩)) (.bool true) wx := by
  have hNT : NoText #[.int .i64 0, .int .i64 0, .int .i64 0, .int .i64 0, .int .i64 0, .int .i64 0, .slice none 0 0, .slice none 0 0, .int .i64 0, .int .i64 0, .string ⟨#[]⟩] := no_text _ _ _ _ _ _ _ _ _ _ _ _ _ _ _ (by simp) (by simp) (by simp) (by simp) (by simp) (by simp)
  exact ⟨y, S5, wr.heap.size, at2, pF2, cF2, pL2, lL2, cL2, start2, done2, rfl, rfl, hn, ⟨hP.mem.other h0 hNT hN ho, hP.rf.mono fun _ _ _ hk => ops_still hk h0 hNT ho⟩, ⟨hT.out.trans ho fun i hi e => by omega, hT.new⟩, hr, Nat.le_refl _⟩
end
theorem out_box {S : Nat → Prop} {wr w5 : World} (h : Out S wr w5) (o : Obj) (y0 y1 y2 y3 y4 y5 y6 y7 y8 y9 y10 : Value) : Out S wr ((((((((((((w5.alloc o).setCell ⟨w5.heap.size, 0, none⟩ y0).setCell ⟨w5.heap.size, 1, none⟩ y1).setCell ⟨w5.heap.size, 2, none⟩ y2).setCell ⟨w5.heap.size, 3, none⟩ y3).setCell ⟨w5.heap.size, 4, none⟩ y4).setCell ⟨w5.heap.size, 5, none⟩ y5).setCell ⟨w5.heap.size, 6, none⟩ y6).setCell ⟨w5.heap.size, 7, none⟩ y7).setCell ⟨w5.heap.size, 8, none⟩ y8).setCell ⟨w5.heap.size, 9, none⟩ y9).setCell ⟨w5.heap.size, 10, none⟩ y10) := (h.alloc o).trans (S' := fun i => i = w5.heap.size) (out11 _ _ _ _ _ _ _ _ _ _ _ _ _) (fun i hi e => by have := h.size; omega)
set_option maxRecDepth 100000 in
set_option maxHeartbeats 16000000 in
theorem plays_walk (v0 v1 v2 v3 v4 v5 : Value) (b c j : Int) (s : List UInt8) (hs : s.length ≤ 9223372036854775807) (st : Int) (hst0 : -9223372036854775808 ≤ st) (hst1 : st ≤ 9223372036854775807) (p0 : Option Addr) (m cap : Nat) (o : Nat → Ac) (w : World) (hR : Row w (.slice p0 m cap) m 6 (fun i j => (o i).cells.getD j undef)) (hO : ∀ i, i < m → OkA w (o i)) :
    Calls Tryz.prog 3 #[conV v0 v1 v2 v3 v4 v5 b c j s, .int .i64 st, .slice p0 m cap] w fun e w' => e = .returned (.bool true) ∧ Below w.heap.size w w' := by
  unfold conV
  obtain ⟨a0, cap0, e0, hcap, hmax, hcells⟩ := hR
  cases e0
  unfold maxLen at hmax
  have HCON := Lib.hid (at_new w (.cells #[v0, v1, v2, v3, v4, v5, .int .i64 b, .int .i64 c, .int .i64 j, .string ⟨s.toArray⟩] 23 (0, 0)))
  have HBC := Lib.hid ((Below.refl w.heap.size w).alloc (Nat.le_refl _) (.cells #[v0, v1, v2, v3, v4, v5, .int .i64 b, .int .i64 c, .int .i64 j, .string ⟨s.toArray⟩] 23 (0, 0)))
  by_cases hs255 : 255 < s.length
  · have z0 : (255 : Int) < (s.length : Int) := by omega
    go_enter Tryz.func3, Tryz.ntmps3
    go_wp2_with (go_at_call 4; refine (works_calls _).mono ?_; rintro e w' ⟨rfl, hw⟩)
    go_ret
    exact ⟨rfl, HBC.out.trans (hw.mono HBC.out.size)⟩
  have z0 : ¬ (255 : Int) < (s.length : Int) := by omega
  by_cases hm80 : 80 < m
  · have z1 : (80 : Int) < (m : Int) := by omega
    go_enter Tryz.func3, Tryz.ntmps3
    go_wp2_with (go_at_call 4; refine (works_calls _).mono ?_; rintro e w' ⟨rfl, hw⟩)
    go_ret
    exact ⟨rfl, HBC.out.trans (hw.mono HBC.out.size)⟩
  have z1 : ¬ (80 : Int) < (m : Int) := by omega
  by_cases z2 : 2199023255552 < st
  · go_enter Tryz.func3, Tryz.ntmps3
    go_wp2_with (go_at_call 4; refine (works_calls _).mono ?_; rintro e w' ⟨rfl, hw⟩)
    go_ret
    exact ⟨rfl, HBC.out.trans (hw.mono HBC.out.size)⟩
  have HO := Lib.hid hO
  have HC := Lib.hid hcells
  have HM80 := Lib.hid hm80
  have HN1 := Lib.hid (new_line v0 v1 v2 v3 v4 v5 b c j s hs (w.alloc (.cells #[v0, v1, v2, v3, v4, v5, .int .i64 b, .int .i64 c, .int .i64 j, .string ⟨s.toArray⟩] 23 (0, 0))))
  have HN2 := Lib.hid (fun W => rnew_line v0 v1 v2 v3 v4 v5 b c j s (show s.length ≤ 1099511627776 by omega) W)
  unfold conV at HN1 HN2
  clear hO hcells hm80 hs255 hs
  go_enter Tryz.func3, Tryz.ntmps3
  go_wp2_with fail
  refine HN1.out.mono ?_
  rintro e w1 (⟨h0, rfl, hB⟩ | ⟨h0, k, S, rfl, hM, hS, hB⟩)
  · have H0 := Lib.hid h0
    have HB1 := Lib.hid (HBC.out.trans (hB.mono HBC.out.size))
    have hc := (hB.block _ (at_lt HCON.out)).trans HCON.out
    have cc0 : w1.cell? ⟨w.heap.size, 0, none⟩ = some (v0) := at_cell hc 0
    have cc1 : w1.cell? ⟨w.heap.size, 1, none⟩ = some (v1) := at_cell hc 1
    have cc2 : w1.cell? ⟨w.heap.size, 2, none⟩ = some (v2) := at_cell hc 2
    have cc3 : w1.cell? ⟨w.heap.size, 3, none⟩ = some (v3) := at_cell hc 3
    have cc4 : w1.cell? ⟨w.heap.size, 4, none⟩ = some (v4) := at_cell hc 4
    have cc5 : w1.cell? ⟨w.heap.size, 5, none⟩ = some (v5) := at_cell hc 5
    have cc6 : w1.cell? ⟨w.heap.size, 6, none⟩ = some (.int .i64 b) := at_cell hc 6
    have cc7 : w1.cell? ⟨w.heap.size, 7, none⟩ = some (.int .i64 c) := at_cell hc 7
    have cc8 : w1.cell? ⟨w.heap.size, 8, none⟩ = some (.int .i64 j) := at_cell hc 8
    have cc9 : w1.cell? ⟨w.heap.size, 9, none⟩ = some (.string ⟨s.toArray⟩) := at_cell hc 9
    clear hB hc h0
    obtain ⟨cd, hcd⟩ : ∃ cd, newC b c j s = cd := ⟨_, rfl⟩
    rw [hcd] at H0 ⊢
    go_wp2_with fail
    refine (HN2.out w1).mono ?_
    rintro e w2 ⟨z0, z1, z2, z3, z4, z5, zp6, zl6, zk6, zp7, zl7, zk7, z8, z9, z10, rfl, hB2, -⟩
    rw [hcd]
    have HB2 := Lib.hid ((HB1.out.trans (hB2.mono HB1.out.size)).alloc (Nat.le_trans HB1.out.size hB2.size) (.cells #[.int .i64 z0, .int .i64 z1, .int .i64 z2, .int .i64 z3, .int .i64 z4, .int .i64 z5, .slice zp6 zl6 zk6, .slice zp7 zl7 zk7, .int .i64 z8, .int .i64 z9, .string z10] 32 (0, 0)))
    have qc : (cd == cd) = true := by simp
    have qd : (cd == 0) = false := by simpa using H0.out
    clear hB2 hcd
    go_wp2_with (go_at_call 4; refine (works_calls _).mono ?_; rintro e w' ⟨rfl, hw⟩)
    go_ret
    exact ⟨rfl, HB2.out.trans (hw.mono HB2.out.size)⟩
  have HB1 := Lib.hid (HBC.out.trans (hB.mono HBC.out.size))
  have hc := (hB.block _ (at_lt HCON.out)).trans HCON.out
  have cc0 : w1.cell? ⟨w.heap.size, 0, none⟩ = some (v0) := at_cell hc 0
  have cc1 : w1.cell? ⟨w.heap.size, 1, none⟩ = some (v1) := at_cell hc 1
  have cc2 : w1.cell? ⟨w.heap.size, 2, none⟩ = some (v2) := at_cell hc 2
  have cc3 : w1.cell? ⟨w.heap.size, 3, none⟩ = some (v3) := at_cell hc 3
  have cc4 : w1.cell? ⟨w.heap.size, 4, none⟩ = some (v4) := at_cell hc 4
  have cc5 : w1.cell? ⟨w.heap.size, 5, none⟩ = some (v5) := at_cell hc 5
  have cc6 : w1.cell? ⟨w.heap.size, 6, none⟩ = some (.int .i64 b) := at_cell hc 6
  have cc7 : w1.cell? ⟨w.heap.size, 7, none⟩ = some (.int .i64 c) := at_cell hc 7
  have cc8 : w1.cell? ⟨w.heap.size, 8, none⟩ = some (.int .i64 j) := at_cell hc 8
  have cc9 : w1.cell? ⟨w.heap.size, 9, none⟩ = some (.string ⟨s.toArray⟩) := at_cell hc 9
  have HM := Lib.hid hM
  have HS := Lib.hid hS
  have H0 := Lib.hid h0
  clear hB hc h0 hM hS
  go_wp2_with fail
  refine (HN2.out w1).mono ?_
  rintro e w2 ⟨z0, z1, z2, z3, z4, z5, zp6, zl6, zk6, zp7, zl7, zk7, z8, z9, z10, he, hB2, hRf⟩
  obtain ⟨at_, pF, cF, pL, lL, cL, start, done, hv, hRf⟩ := (hRf H0.out S (fun i hi => HM.out.lt i hi)).row
  rw [hv, H0.out] at he
  subst he
  obtain ⟨x, hx⟩ : ∃ x, mk b c j (rV s) = x := ⟨_, rfl⟩
  rw [hx] at hRf HM ⊢
  have HPL : Hid (PlAt w (w2.alloc (.cells #[.int .i64 x.b, .int .i64 x.c, .int .i64 x.j, .int .i64 x.st, .int .i64 x.n, .int .i64 at_, .slice pF x.F.length cF, .slice pL lL cL, .int .i64 start, .int .i64 done, .string ⟨x.H.toArray⟩] 32 (0, 0))) k w2.heap.size 0 S x at_ pF cF pL lL cL start done) := Lib.hid ⟨(HM.out.below hB2).below ((Below.refl _ _).alloc (Nat.le_refl _) _), hRf.mono fun _ _ _ hk V hV => hk V ((Out.ofNew ((Below.refl _ _).alloc (Nat.le_refl _) _)).trans hV fun _ _ h => h), at_new _ _, fun hk => by have := HM.out.lt _ hk; have := hB2.size; omega, Nat.le_trans HB1.out.size hB2.size, fun i hi => Nat.le_trans HBC.out.size (HS.out i hi), (HB1.out.trans (hB2.mono HB1.out.size)).alloc (Nat.le_trans HB1.out.size hB2.size) _, by rw [← hx]; exact Nat.le_refl _⟩
  clear hB2 hRf HM HS hv hx cc0 cc1 cc2 cc3 cc4 cc5 cc6 cc7 cc8 cc9
  go_wp2_with fail
  obtain ⟨X, hX⟩ : ∃ X, w2.heap.size = X := ⟨_, rfl⟩
  rw [hX] at HPL ⊢
  obtain ⟨W2, hW2⟩ : ∃ W, w2.alloc (.cells #[.int .i64 x.b, .int .i64 x.c, .int .i64 x.j, .int .i64 x.st, .int .i64 x.n, .int .i64 at_, .slice pF x.F.length cF, .slice pL lL cL, .int .i64 start, .int .i64 done, .string ⟨x.H.toArray⟩] 32 (0, 0)) = W := ⟨_, rfl⟩
  rw [hW2] at HPL ⊢
  clear hW2 hX
  go_loopw [11, 12, 13, 14, 15, 16, 17, 18] (fun nv iv _ _ _ _ _ _ wr => ∃ (q : Nat) (nw : Int) (S : Nat → Prop) (x : Ln) (at_ : Int) (pF : Option Addr) (cF : Nat) (pL : Option Addr) (lL cL : Nat) (start done : Int), q ≤ m ∧ iv = .int .i64 q ∧ nv = .int .i64 nw ∧ -9223372036854775808 ≤ nw ∧ nw ≤ 2199023255552 + 255 * (q : Int) ∧ Hid (PlAt w wr k X q S x at_ pF cF pL lL cL start done)) (fun _ iv _ _ _ _ _ _ _ => m - (Go.RowKit.intOf iv).toNat)
  case atStart => exact ⟨0, st, S, x, at_, pF, cF, pL, lL, cL, start, done, Nat.zero_le _, rfl, rfl, hst0, by omega, HPL⟩
  case round =>
    clear HPL
    rename World => wr
    obtain ⟨q, nw, S, x, at_, pF, cF, pL, lL, cL, start, done, hq, rfl, rfl, hn0, hn1, HA⟩ := hrel
    rcases Nat.lt_or_eq_of_le hq with hlt | rfl
    · have q1 : (q : Int) < (m : Int) := by omega
      rcases HC.out with h0 | ⟨bx, ox, rfl, hbl, hcx⟩
      · omega
      · have hoa := HO.out q hlt
        have hca := fun j hj => hcx q j hlt hj
        obtain ⟨a, ha⟩ : ∃ a, o q = a := ⟨_, rfl⟩
        rw [ha] at hoa
        simp only [ha] at hca
        have hbw := HA.out.below
        have CA : ∀ j, j < 6 → wr.cell? ⟨bx, ox + q * 6 + j, none⟩ = some (a.cells.getD j undef) := fun j hj => (hbw.cell (p := ⟨bx, _, none⟩) hbl).trans (hca j hj)
        obtain ⟨ak, ag, aok, ar, sx, aq, an, ac, aL⟩ := a
        have xx0 : wr.cell? ⟨bx, ox + q * 6, none⟩ = some (.int .u8 ak) := CA 0 (by omega)
        have xx1 : wr.cell? ⟨bx, ox + q * 6 + 1, none⟩ = some (.int .u8 ag) := CA 1 (by omega)
        have xx2 : wr.cell? ⟨bx, ox + q * 6 + 2, none⟩ = some (.bool aok) := CA 2 (by omega)
        have xx3 : wr.cell? ⟨bx, ox + q * 6 + 3, none⟩ = some (.int .i64 ar) := CA 3 (by omega)
        have xx4 : wr.cell? ⟨bx, ox + q * 6 + 4, none⟩ = some (.string ⟨sx.toArray⟩) := CA 4 (by omega)
        have xx5 : wr.cell? ⟨bx, ox + q * 6 + 5, none⟩ = some (.slice aq an ac) := CA 5 (by omega)
        obtain ⟨okk, okg, okr, oks, oklen, okops, okfew⟩ := hoa
        simp only at okk okg okr oks oklen okops okfew
        have hacap := okops.cap
        have hamax := okops.max
        rw [oklen] at hacap
        unfold maxLen at hamax
        have HOPS : Hid (∀ V, Below w.heap.size w V → Ops V aL aq ac) := Lib.hid fun V hV => okops.below hV
        have HLEN := Lib.hid oklen
        have HQ := Lib.hid hlt
        have hM80 := HM80.out
        obtain ⟨okk0, okk1⟩ := okk
        obtain ⟨okg0, okg1⟩ := okg
        clear CA hca okops oklen okfew hbw ha hcx
        by_cases hs1 : 2000 < sx.length
        · have z3 : (2000 : Int) < (sx.length : Int) := by omega
          go_wp2_with fail
          go_roundw
          case rel => exact ⟨q + 1, nw, S, x, at_, pF, cF, pL, lL, cL, start, done, hlt, by go_num, rfl, hn0, by omega, Lib.hid (HA.out.keep (Below.refl _ _) (by omega))⟩
          case measure => simp [Go.RowKit.intOf]; omega
        have z3 : ¬ (2000 : Int) < (sx.length : Int) := by omega
        by_cases hn12 : 12 < an
        · have z4 : (12 : Int) < (an : Int) := by omega
          go_wp2_with fail
          go_roundw
          case rel => exact ⟨q + 1, nw, S, x, at_, pF, cF, pL, lL, cL, start, done, hlt, by go_num, rfl, hn0, by omega, Lib.hid (HA.out.keep (Below.refl _ _) (by omega))⟩
          case measure => simp [Go.RowKit.intOf]; omega
        have z4 : ¬ (12 : Int) < (an : Int) := by omega
        obtain ⟨d0, d1, d2, d3, d4, d5, d6, d7, d8, d9, d10⟩ := row11 HA.out.box
        have lX := at_lt HA.out.box
        have hbsz := HA.out.below.size
        have lB : bx < wr.heap.size := by omega
        have nX := HA.out.nX
        have nB : ¬ S bx := fun hk => by have := HA.out.base _ hk; omega
        obtain ⟨nn, hnn⟩ : ∃ y, nw + ag = y := ⟨_, rfl⟩
        have HNN := Lib.hid hnn
        have HDO : Hid (∀ V, Below wr.heap.size wr V → Calls Tryz.prog 7 #[.pointer (some ⟨k, 0, none⟩), .agg #[.int .i64 x.b, .int .i64 x.c, .int .i64 x.j, .int .i64 x.st, .int .i64 x.n, .int .i64 at_, .slice pF x.F.length cF, .slice pL lL cL, .int .i64 start, .int .i64 done, .string ⟨x.H.toArray⟩], .agg #[.int .u8 ak, .int .u8 ag, .bool aok, .int .i64 ar, .string ⟨sx.toArray⟩, .slice aq an ac], .int .i64 nn] V fun e w' => ∃ (y : Ln) (S' : Nat → Prop), ∃ (at2 : Int) (pF2 : Option Addr) (cF2 : Nat) (pL2 : Option Addr) (lL2 cL2 : Nat) (start2 done2 : Int), e = .returned (.tuple #[.agg #[.int .i64 y.b, .int .i64 y.c, .int .i64 y.j, .int .i64 y.st, .int .i64 y.n, .int .i64 at2, .slice pF2 y.F.length cF2, .slice pL2 lL2 cL2, .int .i64 start2, .int .i64 done2, .string ⟨y.H.toArray⟩], .bool true]) ∧ y.n ≤ x.n + 1 ∧ Pr w' S' k y (.agg #[.int .i64 y.b, .int .i64 y.c, .int .i64 y.j, .int .i64 y.st, .int .i64 y.n, .int .i64 at2, .slice pF2 y.F.length cF2, .slice pL2 lL2 cL2, .int .i64 start2, .int .i64 done2, .string ⟨y.H.toArray⟩]) ∧ Step S wr S' w' ∧ ∀ i, i < V.heap.size → ¬ S i → w'.heap[i]? = V.heap[i]? ∧ (wr.heap.size ≤ i → ¬ S' i)) := Lib.hid fun V hV => by
          have hk := HA.out.keep (q' := q) hV (Nat.le_refl q)
          have hnq := HA.out.n
          refine (do_any ⟨hk.mem, hk.rf⟩ ak ag ar nn aok sx aq an ac okk0 okk1 (by omega) (by omega) aL HLEN.out (by omega) (fun V' hV' => HOPS.out V' (hk.below.trans (hV'.below hk.below.size hk.base)))).mono ?_
          rintro e w' ⟨y, hyn, S', v', rfl, hP, hT⟩
          obtain ⟨at2, pF2, cF2, pL2, lL2, cL2, start2, done2, hv, hRf⟩ := hP.rf.row
          subst hv
          exact ⟨y, S', at2, pF2, cF2, pL2, lL2, cL2, start2, done2, rfl, hyn, ⟨hP.mem, hRf⟩, (Step.below hV).trans hT, fun i hi hn => ⟨hT.out.block i hi hn, fun _ hs' => (hT.new i hs').elim hn (fun h' => by omega)⟩⟩
        clear HOPS hacap hamax hM80 hbsz
        go_upto_region 15 with fail
        clear hnn
        go_cut [13, 14] (fun sy sv wx => PlMid wr S k x sy sv wx)
        case first =>
          have HLT := Lib.hid HA.out.mem.lt
          have lZ := at_new wr (.cells #[.int .i64 0, .int .i64 0, .int .i64 0, .int .i64 0, .int .i64 0, .int .i64 0, .slice none 0 0, .slice none 0 0, .int .i64 0, .int .i64 0, .string ⟨#[]⟩] 32 (0, 0))
          go_region_held3 (fun w' => w'.cell? ⟨X, 0, none⟩ = some (.int .i64 x.b) ∧ w'.cell? ⟨X, 1, none⟩ = some (.int .i64 x.c) ∧ w'.cell? ⟨X, 2, none⟩ = some (.int .i64 x.j) ∧ w'.cell? ⟨X, 3, none⟩ = some (.int .i64 x.st) ∧ w'.cell? ⟨X, 4, none⟩ = some (.int .i64 x.n) ∧ w'.cell? ⟨X, 5, none⟩ = some (.int .i64 at_) ∧ w'.cell? ⟨X, 6, none⟩ = some (.slice pF x.F.length cF) ∧ w'.cell? ⟨X, 7, none⟩ = some (.slice pL lL cL) ∧ w'.cell? ⟨X, 8, none⟩ = some (.int .i64 start) ∧ w'.cell? ⟨X, 9, none⟩ = some (.int .i64 done) ∧ w'.cell? ⟨X, 10, none⟩ = some (.string ⟨x.H.toArray⟩) ∧ w'.cell? ⟨bx, ox + q * 6, none⟩ = some (.int .u8 ak) ∧ w'.cell? ⟨bx, ox + q * 6 + 1, none⟩ = some (.int .u8 ag) ∧ w'.cell? ⟨bx, ox + q * 6 + 2, none⟩ = some (.bool aok) ∧ w'.cell? ⟨bx, ox + q * 6 + 3, none⟩ = some (.int .i64 ar) ∧ w'.cell? ⟨bx, ox + q * 6 + 4, none⟩ = some (.string ⟨sx.toArray⟩) ∧ w'.cell? ⟨bx, ox + q * 6 + 5, none⟩ = some (.slice aq an ac))
            (first
              | with_reducible exact ⟨((out_drew1 wr).cell (p := ⟨X, 0, none⟩) lX id).trans d0, ((out_drew1 wr).cell (p := ⟨X, 1, none⟩) lX id).trans d1, ((out_drew1 wr).cell (p := ⟨X, 2, none⟩) lX id).trans d2, ((out_drew1 wr).cell (p := ⟨X, 3, none⟩) lX id).trans d3, ((out_drew1 wr).cell (p := ⟨X, 4, none⟩) lX id).trans d4, ((out_drew1 wr).cell (p := ⟨X, 5, none⟩) lX id).trans d5, ((out_drew1 wr).cell (p := ⟨X, 6, none⟩) lX id).trans d6, ((out_drew1 wr).cell (p := ⟨X, 7, none⟩) lX id).trans d7, ((out_drew1 wr).cell (p := ⟨X, 8, none⟩) lX id).trans d8, ((out_drew1 wr).cell (p := ⟨X, 9, none⟩) lX id).trans d9, ((out_drew1 wr).cell (p := ⟨X, 10, none⟩) lX id).trans d10, ((out_drew1 wr).cell (p := ⟨bx, _, none⟩) lB id).trans xx0, ((out_drew1 wr).cell (p := ⟨bx, _, none⟩) lB id).trans xx1, ((out_drew1 wr).cell (p := ⟨bx, _, none⟩) lB id).trans xx2, ((out_drew1 wr).cell (p := ⟨bx, _, none⟩) lB id).trans xx3, ((out_drew1 wr).cell (p := ⟨bx, _, none⟩) lB id).trans xx4, ((out_drew1 wr).cell (p := ⟨bx, _, none⟩) lB id).trans xx5⟩
              | with_reducible exact ⟨((((Out.refl (fun _ => False) wr).alloc _).drew).cell (p := ⟨X, 0, none⟩) lX id).trans d0, ((((Out.refl (fun _ => False) wr).alloc _).drew).cell (p := ⟨X, 1, none⟩) lX id).trans d1, ((((Out.refl (fun _ => False) wr).alloc _).drew).cell (p := ⟨X, 2, none⟩) lX id).trans d2, ((((Out.refl (fun _ => False) wr).alloc _).drew).cell (p := ⟨X, 3, none⟩) lX id).trans d3, ((((Out.refl (fun _ => False) wr).alloc _).drew).cell (p := ⟨X, 4, none⟩) lX id).trans d4, ((((Out.refl (fun _ => False) wr).alloc _).drew).cell (p := ⟨X, 5, none⟩) lX id).trans d5, ((((Out.refl (fun _ => False) wr).alloc _).drew).cell (p := ⟨X, 6, none⟩) lX id).trans d6, ((((Out.refl (fun _ => False) wr).alloc _).drew).cell (p := ⟨X, 7, none⟩) lX id).trans d7, ((((Out.refl (fun _ => False) wr).alloc _).drew).cell (p := ⟨X, 8, none⟩) lX id).trans d8, ((((Out.refl (fun _ => False) wr).alloc _).drew).cell (p := ⟨X, 9, none⟩) lX id).trans d9, ((((Out.refl (fun _ => False) wr).alloc _).drew).cell (p := ⟨X, 10, none⟩) lX id).trans d10, ((((Out.refl (fun _ => False) wr).alloc _).drew).cell (p := ⟨bx, _, none⟩) lB id).trans xx0, ((((Out.refl (fun _ => False) wr).alloc _).drew).cell (p := ⟨bx, _, none⟩) lB id).trans xx1, ((((Out.refl (fun _ => False) wr).alloc _).drew).cell (p := ⟨bx, _, none⟩) lB id).trans xx2, ((((Out.refl (fun _ => False) wr).alloc _).drew).cell (p := ⟨bx, _, none⟩) lB id).trans xx3, ((((Out.refl (fun _ => False) wr).alloc _).drew).cell (p := ⟨bx, _, none⟩) lB id).trans xx4, ((((Out.refl (fun _ => False) wr).alloc _).drew).cell (p := ⟨bx, _, none⟩) lB id).trans xx5⟩
              | with_reducible exact ⟨(O5.out.cell (p := ⟨X, 0, none⟩) lX nX).trans d0, (O5.out.cell (p := ⟨X, 1, none⟩) lX nX).trans d1, (O5.out.cell (p := ⟨X, 2, none⟩) lX nX).trans d2, (O5.out.cell (p := ⟨X, 3, none⟩) lX nX).trans d3, (O5.out.cell (p := ⟨X, 4, none⟩) lX nX).trans d4, (O5.out.cell (p := ⟨X, 5, none⟩) lX nX).trans d5, (O5.out.cell (p := ⟨X, 6, none⟩) lX nX).trans d6, (O5.out.cell (p := ⟨X, 7, none⟩) lX nX).trans d7, (O5.out.cell (p := ⟨X, 8, none⟩) lX nX).trans d8, (O5.out.cell (p := ⟨X, 9, none⟩) lX nX).trans d9, (O5.out.cell (p := ⟨X, 10, none⟩) lX nX).trans d10, (O5.out.cell (p := ⟨bx, _, none⟩) lB nB).trans xx0, (O5.out.cell (p := ⟨bx, _, none⟩) lB nB).trans xx1, (O5.out.cell (p := ⟨bx, _, none⟩) lB nB).trans xx2, (O5.out.cell (p := ⟨bx, _, none⟩) lB nB).trans xx3, (O5.out.cell (p := ⟨bx, _, none⟩) lB nB).trans xx4, (O5.out.cell (p := ⟨bx, _, none⟩) lB nB).trans xx5⟩
              | with_reducible exact ⟨((O5.out.alloc _).cell (p := ⟨X, 0, none⟩) lX nX).trans d0, ((O5.out.alloc _).cell (p := ⟨X, 1, none⟩) lX nX).trans d1, ((O5.out.alloc _).cell (p := ⟨X, 2, none⟩) lX nX).trans d2, ((O5.out.alloc _).cell (p := ⟨X, 3, none⟩) lX nX).trans d3, ((O5.out.alloc _).cell (p := ⟨X, 4, none⟩) lX nX).trans d4, ((O5.out.alloc _).cell (p := ⟨X, 5, none⟩) lX nX).trans d5, ((O5.out.alloc _).cell (p := ⟨X, 6, none⟩) lX nX).trans d6, ((O5.out.alloc _).cell (p := ⟨X, 7, none⟩) lX nX).trans d7, ((O5.out.alloc _).cell (p := ⟨X, 8, none⟩) lX nX).trans d8, ((O5.out.alloc _).cell (p := ⟨X, 9, none⟩) lX nX).trans d9, ((O5.out.alloc _).cell (p := ⟨X, 10, none⟩) lX nX).trans d10, ((O5.out.alloc _).cell (p := ⟨bx, _, none⟩) lB nB).trans xx0, ((O5.out.alloc _).cell (p := ⟨bx, _, none⟩) lB nB).trans xx1, ((O5.out.alloc _).cell (p := ⟨bx, _, none⟩) lB nB).trans xx2, ((O5.out.alloc _).cell (p := ⟨bx, _, none⟩) lB nB).trans xx3, ((O5.out.alloc _).cell (p := ⟨bx, _, none⟩) lB nB).trans xx4, ((O5.out.alloc _).cell (p := ⟨bx, _, none⟩) lB nB).trans xx5⟩
              | with_reducible exact ⟨((out_box O5.out _ (.int .i64 y.b) (.int .i64 y.c) (.int .i64 y.j) (.int .i64 y.st) (.int .i64 y.n) (.int .i64 at2) (.slice pF2 y.F.length cF2) (.slice pL2 lL2 cL2) (.int .i64 start2) (.int .i64 done2) (.string ⟨y.H.toArray⟩)).cell (p := ⟨X, 0, none⟩) lX nX).trans d0, ((out_box O5.out _ (.int .i64 y.b) (.int .i64 y.c) (.int .i64 y.j) (.int .i64 y.st) (.int .i64 y.n) (.int .i64 at2) (.slice pF2 y.F.length cF2) (.slice pL2 lL2 cL2) (.int .i64 start2) (.int .i64 done2) (.string ⟨y.H.toArray⟩)).cell (p := ⟨X, 1, none⟩) lX nX).trans d1, ((out_box O5.out _ (.int .i64 y.b) (.int .i64 y.c) (.int .i64 y.j) (.int .i64 y.st) (.int .i64 y.n) (.int .i64 at2) (.slice pF2 y.F.length cF2) (.slice pL2 lL2 cL2) (.int .i64 start2) (.int .i64 done2) (.string ⟨y.H.toArray⟩)).cell (p := ⟨X, 2, none⟩) lX nX).trans d2, ((out_box O5.out _ (.int .i64 y.b) (.int .i64 y.c) (.int .i64 y.j) (.int .i64 y.st) (.int .i64 y.n) (.int .i64 at2) (.slice pF2 y.F.length cF2) (.slice pL2 lL2 cL2) (.int .i64 start2) (.int .i64 done2) (.string ⟨y.H.toArray⟩)).cell (p := ⟨X, 3, none⟩) lX nX).trans d3, ((out_box O5.out _ (.int .i64 y.b) (.int .i64 y.c) (.int .i64 y.j) (.int .i64 y.st) (.int .i64 y.n) (.int .i64 at2) (.slice pF2 y.F.length cF2) (.slice pL2 lL2 cL2) (.int .i64 start2) (.int .i64 done2) (.string ⟨y.H.toArray⟩)).cell (p := ⟨X, 4, none⟩) lX nX).trans d4, ((out_box O5.out _ (.int .i64 y.b) (.int .i64 y.c) (.int .i64 y.j) (.int .i64 y.st) (.int .i64 y.n) (.int .i64 at2) (.slice pF2 y.F.length cF2) (.slice pL2 lL2 cL2) (.int .i64 start2) (.int .i64 done2) (.string ⟨y.H.toArray⟩)).cell (p := ⟨X, 5, none⟩) lX nX).trans d5, ((out_box O5.out _ (.int .i64 y.b) (.int .i64 y.c) (.int .i64 y.j) (.int .i64 y.st) (.int .i64 y.n) (.int .i64 at2) (.slice pF2 y.F.length cF2) (.slice pL2 lL2 cL2) (.int .i64 start2) (.int .i64 done2) (.string ⟨y.H.toArray⟩)).cell (p := ⟨X, 6, none⟩) lX nX).trans d6, ((out_box O5.out _ (.int .i64 y.b) (.int .i64 y.c) (.int .i64 y.j) (.int .i64 y.st) (.int .i64 y.n) (.int .i64 at2) (.slice pF2 y.F.length cF2) (.slice pL2 lL2 cL2) (.int .i64 start2) (.int .i64 done2) (.string ⟨y.H.toArray⟩)).cell (p := ⟨X, 7, none⟩) lX nX).trans d7, ((out_box O5.out _ (.int .i64 y.b) (.int .i64 y.c) (.int .i64 y.j) (.int .i64 y.st) (.int .i64 y.n) (.int .i64 at2) (.slice pF2 y.F.length cF2) (.slice pL2 lL2 cL2) (.int .i64 start2) (.int .i64 done2) (.string ⟨y.H.toArray⟩)).cell (p := ⟨X, 8, none⟩) lX nX).trans d8, ((out_box O5.out _ (.int .i64 y.b) (.int .i64 y.c) (.int .i64 y.j) (.int .i64 y.st) (.int .i64 y.n) (.int .i64 at2) (.slice pF2 y.F.length cF2) (.slice pL2 lL2 cL2) (.int .i64 start2) (.int .i64 done2) (.string ⟨y.H.toArray⟩)).cell (p := ⟨X, 9, none⟩) lX nX).trans d9, ((out_box O5.out _ (.int .i64 y.b) (.int .i64 y.c) (.int .i64 y.j) (.int .i64 y.st) (.int .i64 y.n) (.int .i64 at2) (.slice pF2 y.F.length cF2) (.slice pL2 lL2 cL2) (.int .i64 start2) (.int .i64 done2) (.string ⟨y.H.toArray⟩)).cell (p := ⟨X, 10, none⟩) lX nX).trans d10, ((out_box O5.out _ (.int .i64 y.b) (.int .i64 y.c) (.int .i64 y.j) (.int .i64 y.st) (.int .i64 y.n) (.int .i64 at2) (.slice pF2 y.F.length cF2) (.slice pL2 lL2 cL2) (.int .i64 start2) (.int .i64 done2) (.string ⟨y.H.toArray⟩)).cell (p := ⟨bx, _, none⟩) lB nB).trans xx0, ((out_box O5.out _ (.int .i64 y.b) (.int .i64 y.c) (.int .i64 y.j) (.int .i64 y.st) (.int .i64 y.n) (.int .i64 at2) (.slice pF2 y.F.length cF2) (.slice pL2 lL2 cL2) (.int .i64 start2) (.int .i64 done2) (.string ⟨y.H.toArray⟩)).cell (p := ⟨bx, _, none⟩) lB nB).trans xx1, ((out_box O5.out _ (.int .i64 y.b) (.int .i64 y.c) (.int .i64 y.j) (.int .i64 y.st) (.int .i64 y.n) (.int .i64 at2) (.slice pF2 y.F.length cF2) (.slice pL2 lL2 cL2) (.int .i64 start2) (.int .i64 done2) (.string ⟨y.H.toArray⟩)).cell (p := ⟨bx, _, none⟩) lB nB).trans xx2, ((out_box O5.out _ (.int .i64 y.b) (.int .i64 y.c) (.int .i64 y.j) (.int .i64 y.st) (.int .i64 y.n) (.int .i64 at2) (.slice pF2 y.F.length cF2) (.slice pL2 lL2 cL2) (.int .i64 start2) (.int .i64 done2) (.string ⟨y.H.toArray⟩)).cell (p := ⟨bx, _, none⟩) lB nB).trans xx3, ((out_box O5.out _ (.int .i64 y.b) (.int .i64 y.c) (.int .i64 y.j) (.int .i64 y.st) (.int .i64 y.n) (.int .i64 at2) (.slice pF2 y.F.length cF2) (.slice pL2 lL2 cL2) (.int .i64 start2) (.int .i64 done2) (.string ⟨y.H.toArray⟩)).cell (p := ⟨bx, _, none⟩) lB nB).trans xx4, ((out_box O5.out _ (.int .i64 y.b) (.int .i64 y.c) (.int .i64 y.j) (.int .i64 y.st) (.int .i64 y.n) (.int .i64 at2) (.slice pF2 y.F.length cF2) (.slice pL2 lL2 cL2) (.int .i64 start2) (.int .i64 done2) (.string ⟨y.H.toArray⟩)).cell (p := ⟨bx, _, none⟩) lB nB).trans xx5⟩
              | with_reducible exact ⟨((out_boxA O5.out (.int .i64 y.b) (.int .i64 y.c) (.int .i64 y.j) (.int .i64 y.st) (.int .i64 y.n) (.int .i64 at2) (.slice pF2 y.F.length cF2) (.slice pL2 lL2 cL2) (.int .i64 start2) (.int .i64 done2) (.string ⟨y.H.toArray⟩)).cell (p := ⟨X, 0, none⟩) lX nX).trans d0, ((out_boxA O5.out (.int .i64 y.b) (.int .i64 y.c) (.int .i64 y.j) (.int .i64 y.st) (.int .i64 y.n) (.int .i64 at2) (.slice pF2 y.F.length cF2) (.slice pL2 lL2 cL2) (.int .i64 start2) (.int .i64 done2) (.string ⟨y.H.toArray⟩)).cell (p := ⟨X, 1, none⟩) lX nX).trans d1, ((out_boxA O5.out (.int .i64 y.b) (.int .i64 y.c) (.int .i64 y.j) (.int .i64 y.st) (.int .i64 y.n) (.int .i64 at2) (.slice pF2 y.F.length cF2) (.slice pL2 lL2 cL2) (.int .i64 start2) (.int .i64 done2) (.string ⟨y.H.toArray⟩)).cell (p := ⟨X, 2, none⟩) lX nX).trans d2, ((out_boxA O5.out (.int .i64 y.b) (.int .i64 y.c) (.int .i64 y.j) (.int .i64 y.st) (.int .i64 y.n) (.int .i64 at2) (.slice pF2 y.F.length cF2) (.slice pL2 lL2 cL2) (.int .i64 start2) (.int .i64 done2) (.string ⟨y.H.toArray⟩)).cell (p := ⟨X, 3, none⟩) lX nX).trans d3, ((out_boxA O5.out (.int .i64 y.b) (.int .i64 y.c) (.int .i64 y.j) (.int .i64 y.st) (.int .i64 y.n) (.int .i64 at2) (.slice pF2 y.F.length cF2) (.slice pL2 lL2 cL2) (.int .i64 start2) (.int .i64 done2) (.string ⟨y.H.toArray⟩)).cell (p := ⟨X, 4, none⟩) lX nX).trans d4, ((out_boxA O5.out (.int .i64 y.b) (.int .i64 y.c) (.int .i64 y.j) (.int .i64 y.st) (.int .i64 y.n) (.int .i64 at2) (.slice pF2 y.F.length cF2) (.slice pL2 lL2 cL2) (.int .i64 start2) (.int .i64 done2) (.string ⟨y.H.toArray⟩)).cell (p := ⟨X, 5, none⟩) lX nX).trans d5, ((out_boxA O5.out (.int .i64 y.b) (.int .i64 y.c) (.int .i64 y.j) (.int .i64 y.st) (.int .i64 y.n) (.int .i64 at2) (.slice pF2 y.F.length cF2) (.slice pL2 lL2 cL2) (.int .i64 start2) (.int .i64 done2) (.string ⟨y.H.toArray⟩)).cell (p := ⟨X, 6, none⟩) lX nX).trans d6, ((out_boxA O5.out (.int .i64 y.b) (.int .i64 y.c) (.int .i64 y.j) (.int .i64 y.st) (.int .i64 y.n) (.int .i64 at2) (.slice pF2 y.F.length cF2) (.slice pL2 lL2 cL2) (.int .i64 start2) (.int .i64 done2) (.string ⟨y.H.toArray⟩)).cell (p := ⟨X, 7, none⟩) lX nX).trans d7, ((out_boxA O5.out (.int .i64 y.b) (.int .i64 y.c) (.int .i64 y.j) (.int .i64 y.st) (.int .i64 y.n) (.int .i64 at2) (.slice pF2 y.F.length cF2) (.slice pL2 lL2 cL2) (.int .i64 start2) (.int .i64 done2) (.string ⟨y.H.toArray⟩)).cell (p := ⟨X, 8, none⟩) lX nX).trans d8, ((out_boxA O5.out (.int .i64 y.b) (.int .i64 y.c) (.int .i64 y.j) (.int .i64 y.st) (.int .i64 y.n) (.int .i64 at2) (.slice pF2 y.F.length cF2) (.slice pL2 lL2 cL2) (.int .i64 start2) (.int .i64 done2) (.string ⟨y.H.toArray⟩)).cell (p := ⟨X, 9, none⟩) lX nX).trans d9, ((out_boxA O5.out (.int .i64 y.b) (.int .i64 y.c) (.int .i64 y.j) (.int .i64 y.st) (.int .i64 y.n) (.int .i64 at2) (.slice pF2 y.F.length cF2) (.slice pL2 lL2 cL2) (.int .i64 start2) (.int .i64 done2) (.string ⟨y.H.toArray⟩)).cell (p := ⟨X, 10, none⟩) lX nX).trans d10, ((out_boxA O5.out (.int .i64 y.b) (.int .i64 y.c) (.int .i64 y.j) (.int .i64 y.st) (.int .i64 y.n) (.int .i64 at2) (.slice pF2 y.F.length cF2) (.slice pL2 lL2 cL2) (.int .i64 start2) (.int .i64 done2) (.string ⟨y.H.toArray⟩)).cell (p := ⟨bx, _, none⟩) lB nB).trans xx0, ((out_boxA O5.out (.int .i64 y.b) (.int .i64 y.c) (.int .i64 y.j) (.int .i64 y.st) (.int .i64 y.n) (.int .i64 at2) (.slice pF2 y.F.length cF2) (.slice pL2 lL2 cL2) (.int .i64 start2) (.int .i64 done2) (.string ⟨y.H.toArray⟩)).cell (p := ⟨bx, _, none⟩) lB nB).trans xx1, ((out_boxA O5.out (.int .i64 y.b) (.int .i64 y.c) (.int .i64 y.j) (.int .i64 y.st) (.int .i64 y.n) (.int .i64 at2) (.slice pF2 y.F.length cF2) (.slice pL2 lL2 cL2) (.int .i64 start2) (.int .i64 done2) (.string ⟨y.H.toArray⟩)).cell (p := ⟨bx, _, none⟩) lB nB).trans xx2, ((out_boxA O5.out (.int .i64 y.b) (.int .i64 y.c) (.int .i64 y.j) (.int .i64 y.st) (.int .i64 y.n) (.int .i64 at2) (.slice pF2 y.F.length cF2) (.slice pL2 lL2 cL2) (.int .i64 start2) (.int .i64 done2) (.string ⟨y.H.toArray⟩)).cell (p := ⟨bx, _, none⟩) lB nB).trans xx3, ((out_boxA O5.out (.int .i64 y.b) (.int .i64 y.c) (.int .i64 y.j) (.int .i64 y.st) (.int .i64 y.n) (.int .i64 at2) (.slice pF2 y.F.length cF2) (.slice pL2 lL2 cL2) (.int .i64 start2) (.int .i64 done2) (.string ⟨y.H.toArray⟩)).cell (p := ⟨bx, _, none⟩) lB nB).trans xx4, ((out_boxA O5.out (.int .i64 y.b) (.int .i64 y.c) (.int .i64 y.j) (.int .i64 y.st) (.int .i64 y.n) (.int .i64 at2) (.slice pF2 y.F.length cF2) (.slice pL2 lL2 cL2) (.int .i64 start2) (.int .i64 done2) (.string ⟨y.H.toArray⟩)).cell (p := ⟨bx, _, none⟩) lB nB).trans xx5⟩)
            (first
              | (go_at_call 7; refine (HDO.out _ (by first | exact Below.refl _ _ | exact Brk.below_drew (Below.refl _ _) | exact Brk.below_drew ((Below.refl _ _).alloc (Nat.le_refl _) _))).mono ?_; rintro e w5 ⟨y, S5, at2, pF2, cF2, pL2, lL2, cL2, start2, done2, rfl, hyn, hP, hT, hI⟩; have HP := Lib.hid hP; have HT := Lib.hid hT; have HI := Lib.hid hI; have HYN := Lib.hid hyn; have O5 := Lib.hid HT.out.out; have hZ5 := Lib.hid (show wr.heap.size < _ → w5.heap[wr.heap.size]? = _ ∧ ¬ S5 wr.heap.size from fun h => ⟨(hI _ h fun hk => Nat.lt_irrefl _ (HLT.out _ hk)).1, (hI _ h fun hk => Nat.lt_irrefl _ (HLT.out _ hk)).2 (Nat.le_refl _)⟩); clear hP hT hI hyn; try (have z5 := hZ5.out (by simp); obtain ⟨z50, z51⟩ := z5; replace z50 := z50.trans lZ; obtain ⟨m0, m1, m2, m3, m4, m5, m6, m7, m8, m9, m10⟩ := row11 z50; obtain ⟨f0, f1, f2, f3, f4, f5, f6, f7, f8, f9, f10⟩ := frz11 z50)))
          all_goals
            go_wp2_with fail
            go_meet
            first
              | exact mid_new HP.out HT.out HYN.out ((Below.refl _ _).alloc (Nat.le_refl _) _) (at_new _ _)
              | exact mid_old HP.out HT.out HYN.out z50 z51 (out11 _ _ _ _ _ _ _ _ _ _ _ _ _) (set11 z50 _ _ _ _ _ _ _ _ _ _ _)
              | exact mid_new HP.out HT.out HYN.out (((Out.refl (fun _ => False) _).alloc _ |>.trans (S' := fun i => i = w5.heap.size) (out11 _ _ _ _ _ _ _ _ _ _ _ _ _) (fun i hi e => by omega)).below (Nat.le_refl _) (fun i h => h.elim)) (set11 (at_new _ _) _ _ _ _ _ _ _ _ _ _ _)
        case rest =>
          obtain ⟨y, S5, Yb, at2, pF2, cF2, pL2, lL2, cL2, start2, done2, rfl, rfl, hyn, hP, hT, hYR, hYn⟩ := hcut
          rename World => W5
          have HP := Lib.hid hP
          have HT := Lib.hid hT
          have HYN := Lib.hid hyn
          have hXB := hT.out.at_ HA.out.box nX
          have eYX : Yb ≠ X := by omega
          have HXW := Lib.hid hXB
          clear hP hT hyn d0 d1 d2 d3 d4 d5 d6 d7 d8 d9 d10 xx0 xx1 xx2 xx3 xx4 xx5 z3 z4 q1 HDO
          obtain ⟨d0, d1, d2, d3, d4, d5, d6, d7, d8, d9, d10⟩ := row11 hXB
          obtain ⟨f0, f1, f2, f3, f4, f5, f6, f7, f8, f9, f10⟩ := frz11 hXB
          obtain ⟨r0, r1, r2, r3, r4, r5, r6, r7, r8, r9, r10⟩ := row11 hYR
          clear hXB hYR
          go_upto_region 17 with fail
          have hROW : (((((((((((W5.setCell ⟨X, 0, none⟩ (.int .i64 y.b)).setCell ⟨X, 1, none⟩ (.int .i64 y.c)).setCell ⟨X, 2, none⟩ (.int .i64 y.j)).setCell ⟨X, 3, none⟩ (.int .i64 y.st)).setCell ⟨X, 4, none⟩ (.int .i64 y.n)).setCell ⟨X, 5, none⟩ (.int .i64 at2)).setCell ⟨X, 6, none⟩ (.slice pF2 y.F.length cF2)).setCell ⟨X, 7, none⟩ (.slice pL2 lL2 cL2)).setCell ⟨X, 8, none⟩ (.int .i64 start2)).setCell ⟨X, 9, none⟩ (.int .i64 done2)).setCell ⟨X, 10, none⟩ (.string ⟨y.H.toArray⟩)).heap[X]? = some (.cells #[.int .i64 y.b, .int .i64 y.c, .int .i64 y.j, .int .i64 y.st, .int .i64 y.n, .int .i64 at2, .slice pF2 y.F.length cF2, .slice pL2 lL2 cL2, .int .i64 start2, .int .i64 done2, .string ⟨y.H.toArray⟩] 32 (0, 0)) := set11 HXW.out _ _ _ _ _ _ _ _ _ _ _
          have hOUT : Out (fun i => i = X) W5 (((((((((((W5.setCell ⟨X, 0, none⟩ (.int .i64 y.b)).setCell ⟨X, 1, none⟩ (.int .i64 y.c)).setCell ⟨X, 2, none⟩ (.int .i64 y.j)).setCell ⟨X, 3, none⟩ (.int .i64 y.st)).setCell ⟨X, 4, none⟩ (.int .i64 y.n)).setCell ⟨X, 5, none⟩ (.int .i64 at2)).setCell ⟨X, 6, none⟩ (.slice pF2 y.F.length cF2)).setCell ⟨X, 7, none⟩ (.slice pL2 lL2 cL2)).setCell ⟨X, 8, none⟩ (.int .i64 start2)).setCell ⟨X, 9, none⟩ (.int .i64 done2)).setCell ⟨X, 10, none⟩ (.string ⟨y.H.toArray⟩)) := out11 _ _ _ _ _ _ _ _ _ _ _ _ _
          clear r0 r1 r2 r3 r4 r5 r6 r7 r8 r9 r10 d0 d1 d2 d3 d4 d5 d6 d7 d8 d9 d10 f0 f1 f2 f3 f4 f5 f6 f7 f8 f9 f10
          generalize (((((((((((W5.setCell ⟨X, 0, none⟩ (.int .i64 y.b)).setCell ⟨X, 1, none⟩ (.int .i64 y.c)).setCell ⟨X, 2, none⟩ (.int .i64 y.j)).setCell ⟨X, 3, none⟩ (.int .i64 y.st)).setCell ⟨X, 4, none⟩ (.int .i64 y.n)).setCell ⟨X, 5, none⟩ (.int .i64 at2)).setCell ⟨X, 6, none⟩ (.slice pF2 y.F.length cF2)).setCell ⟨X, 7, none⟩ (.slice pL2 lL2 cL2)).setCell ⟨X, 8, none⟩ (.int .i64 start2)).setCell ⟨X, 9, none⟩ (.int .i64 done2)).setCell ⟨X, 10, none⟩ (.string ⟨y.H.toArray⟩)) = W6 at *
          have A6 := Lib.hid (HA.out.act HP.out HT.out hOUT hROW HYN.out)
          clear hROW hOUT HP HT HYN HXW HA lX lB nX nB eYX hYn
          obtain ⟨nv, hnv⟩ : ∃ z, nextV y = z := ⟨_, rfl⟩
          obtain ⟨nb, hnb⟩ : ∃ z, nextI y = z := ⟨_, rfl⟩
          have HX1 := Lib.hid (next_calls A6.out.mem)
          have HX2 := Lib.hid (rnext_line W6 (fun L p c h => h W6 (Out.refl _ _)) A6.out.rf)
          rw [hnv, hnb] at HX1 HX2
          clear hnv hnb
          obtain ⟨d0, d1, d2, d3, d4, d5, d6, d7, d8, d9, d10⟩ := row11 A6.out.box
          go_upto_region 19 with (first
            | (go_at_call 8; refine HX1.out.mono ?_; rintro e w7 ⟨rfl, rfl⟩)
            | (go_at_call 9; refine HX2.out.mono ?_; rintro e w8 ⟨rfl, hb8⟩; replace hb8 := Lib.hid hb8))
          clear d0 d1 d2 d3 d4 d5 d6 d7 d8 d9 d10 HX1 HX2
          rename World => w8
          have A8 := Lib.hid (A6.out.keep (q' := q + 1) hb8.out (Nat.le_refl _))
          clear A6 hb8
          obtain ⟨kw, pFm, cFm, svm, hMA⟩ := A8.out.mem
          have hny := A8.out.n
          have e0 : w8.cell? ⟨k, 0, none⟩ = some (.pointer (some ⟨kw, 0, none⟩)) := at_cell hMA.row 0
          have lk := at_lt hMA.row
          have lX := at_lt A8.out.box
          have d3 : w8.cell? ⟨X, 3, none⟩ = some (.int .i64 y.st) := at_cell A8.out.box 3
          have d4 : w8.cell? ⟨X, 4, none⟩ = some (.int .i64 y.n) := at_cell A8.out.box 4
          have d10 : w8.cell? ⟨X, 10, none⟩ = some (.string ⟨y.H.toArray⟩) := at_cell A8.out.box 10
          have HST : Hid (∀ V, Below w8.heap.size w8 V → _) := Lib.hid fun V hV => state_calls (A8.out.mem.below hV)
          have HHE : Hid (∀ V, Below w8.heap.size w8 V → _) := Lib.hid fun V hV => held_calls (A8.out.mem.below hV)
          have HTR : Hid (∀ V, Below w8.heap.size w8 V → _) := Lib.hid fun V hV => Bkf.tries_calls (w := V) (by omega) (hMA.wait.below hV)
          clear hMA hny
          obtain ⟨sy, hsy⟩ : ∃ z, y.st = z := ⟨_, rfl⟩
          obtain ⟨ny, hny⟩ : ∃ z, y.n = z := ⟨_, rfl⟩
          rw [hsy] at d3 HST
          rw [hny] at d4 HTR
          have p1 : (sy == sy) = true := by simp
          have p2 : ((ny : Int) == (ny : Int)) = true := by simp
          have p3 : ((y.H.length : Int) == (y.H.length : Int)) = true := by simp
          have p4 : (nb == nb) = true := by simp
          have p5 : (nv == nv) = true := by simp
          clear hsy hny
          go_region_held3 (fun w' => Below w8.heap.size w8 w' ∧ w'.cell? ⟨X, 3, none⟩ = some (.int .i64 sy) ∧ w'.cell? ⟨X, 4, none⟩ = some (.int .i64 ny) ∧ w'.cell? ⟨X, 10, none⟩ = some (.string ⟨y.H.toArray⟩) ∧ w'.cell? ⟨k, 0, none⟩ = some (.pointer (some ⟨kw, 0, none⟩)))
            (first
              | exact held5 (Brk.below_drew (Below.refl _ _)) lX lk d3 d4 d10 e0
              | exact held5 (Brk.below_drew (Brk.below_drew (Below.refl _ _))) lX lk d3 d4 d10 e0)
            (first
              | (go_at_call 10; go_split_ands; refine (HST.out _ (by assumption)).mono ?_; rintro e w9 ⟨rfl, rfl⟩)
              | (go_at_call 11; go_split_ands; refine (HHE.out _ (by assumption)).mono ?_; rintro e w9 ⟨rfl, rfl⟩)
              | (go_at_call 12; go_split_ands; refine (HTR.out _ (by assumption)).mono ?_; rintro e w9 ⟨rfl, n9, rfl⟩))
          clear d3 d4 d10 e0 p1 p2 p3 p4 p5 HST HHE HTR
          go_wp2_with fail
          go_roundw
          case rel => exact ⟨q + 1, nn, S5, y, at2, pF2, cF2, pL2, lL2, cL2, start2, done2, HQ.out, by go_num, rfl, by have := HNN.out; omega, by have := HNN.out; omega, Lib.hid (A8.out.keep (by first | exact Brk.below_drew (Brk.below_drew (Below.refl _ _)) | exact Brk.below_drew (Below.refl _ _)) (Nat.le_refl _))⟩
          case measure => have := HQ.out; simp [Go.RowKit.intOf]; omega
    · have q1 : ¬ ((q : Int) < (q : Int)) := by omega
      go_wp2_with (go_at_call 4; refine (works_calls _).mono ?_; rintro e w' ⟨rfl, hw⟩)
      go_ret
      exact ⟨rfl, HA.out.below.trans (hw.mono HA.out.below.size)⟩
end Go.Proofs.YtnkhdpenmekhdaaGreat.Lin
end

section
namespace Go.Proofs.YtnkhdpenmekhdaaGreat.Lin
open Go.RowKit Go.ChangeShapes Go.WideShapes Go.Deep Go.Proofs.YtnkhdpenmekhdaaGreat.Own

theorem ba_list (s : ByteArray) : ∃ l : List UInt8, s = ⟨l.toArray⟩ ∧ l.length = s.size := ⟨s.data.toList, by simp, by simp⟩
section
variable {H : Type} {enc : TypeId × Value → H} {w : World} {base : Nat} {spare : Nat → Bool} {held : Bool}
set_option maxRecDepth 100000 in
theorem con_arg {v : Value} {r : Reach} (t : ∃ d p, DataW.Trod enc Tryz.prog w base spare held 23 v d p) (o : ∃ b0, Value.okWide Tryz.prog w r b0 23 v) :
    ∃ (v0 v1 v2 v3 v4 v5 : Value) (b c j : Int) (s : List UInt8), v = .agg #[v0, v1, v2, v3, v4, v5, .int .i64 b, .int .i64 c, .int .i64 j, .string ⟨s.toArray⟩] ∧ s.length ≤ 9223372036854775807 := by
  obtain ⟨d, p, h⟩ := t
  obtain ⟨b0, ho⟩ := o
  obtain ⟨cs, rfl, hsz⟩ := okWide_struct Tryz.underlying23 ho
  have hs10 : cs.size = 10 := hsz.trans (by kernel_rfl)
  obtain ⟨l⟩ := cs
  match l, hs10, h with
  | [c0, c1, c2, c3, c4, c5, c6, c7, c8, c9], _, h =>
    obtain ⟨fuel, hf⟩ := h
    have hf' : DataW.trod enc Tryz.prog w base spare held fuel 23 ((List.range 10).map fun i => [c0, c1, c2, c3, c4, c5, c6, c7, c8, c9].getD i undef) = some (d, p) := hf
    obtain ⟨_, _, h6⟩ := leaf_field Tryz.underlying23 hf' 6 _ rfl 6 1 rfl (by kernel_rfl) (by omega)
    obtain ⟨_, _, h7⟩ := leaf_field Tryz.underlying23 hf' 7 _ rfl 7 1 rfl (by kernel_rfl) (by omega)
    obtain ⟨_, _, h8⟩ := leaf_field Tryz.underlying23 hf' 8 _ rfl 8 1 rfl (by kernel_rfl) (by omega)
    obtain ⟨_, _, h9⟩ := leaf_field Tryz.underlying23 hf' 9 _ rfl 9 1 rfl (by kernel_rfl) (by omega)
    obtain ⟨n6, e6, _⟩ := leaf_int Tryz.underlying3 h6
    obtain ⟨n7, e7, _⟩ := leaf_int Tryz.underlying3 h7
    obtain ⟨n8, e8, _⟩ := leaf_int Tryz.underlying3 h8
    obtain ⟨s9, e9, hs⟩ := leaf_string Tryz.underlying9 h9
    have e6 : c6 = .int .i64 n6 := e6
    have e7 : c7 = .int .i64 n7 := e7
    have e8 : c8 = .int .i64 n8 := e8
    have e9 : c9 = .string s9 := e9
    subst e6 e7 e8 e9
    unfold maxLen at hs
    obtain ⟨l9, rfl, hl⟩ := ba_list s9
    exact ⟨c0, c1, c2, c3, c4, c5, n6, n7, n8, l9, rfl, by omega⟩
end
end Go.Proofs.YtnkhdpenmekhdaaGreat.Lin
end


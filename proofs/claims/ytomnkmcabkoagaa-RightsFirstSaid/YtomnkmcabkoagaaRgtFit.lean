/-
  Layer 16 (rights): Fit, Enter, Group.
-/
import Derived.Test.YtomnkmcabkoagaaRgtAsk
import Derived.Test.YtomnkmcabkoagaaRgtIdx
namespace Go.Proofs.Ytomnkmcabkoagaa.Rgt
open Go.RowKit Go.Proofs.Ytomnkmcabkoagaa.Own Go.Proofs.Ytomnkmcabkoagaa.Rw Go.Proofs.Ytomnkmcabkoagaa.Tree Go.Proofs.Ytomnkmcabkoagaa.Conf

set_option maxRecDepth 100000 in
set_option maxHeartbeats 4000000 in
theorem fit1_calls (x : Cn) (q : Bs) (hx : x.name.length ≤ 65536) (g : Nat) (w : World) (hg : g < w.heap.size) (hc : w.cell? ⟨g, 0, none⟩ = some (.string ⟨q.toArray⟩)) :
    Calls Try.prog 41 #[cnV x, .pointer (some ⟨g, 0, none⟩)] w fun e w' => e = .returned (.bool (fit q x.name)) ∧ Below w.heap.size w w' := by
  have HM := Lib.hid (fit_calls q x.name hx)
  unfold cnV
  have HB := Lib.hid ((Below.refl w.heap.size w).alloc (Nat.le_refl _) (.cells #[.string ⟨x.name.toArray⟩, .int .i64 x.kind, .int .i64 x.lines, .int .i64 x.bytes, .int .i64 x.gens, .int .i64 x.size, .int .i64 x.base, .int .i64 x.cap, .int .i64 x.jit, .string ⟨x.init.toArray⟩] 47))
  generalize x.name = a at *
  go_enter Try.func41, Try.ntmps41
  go_wp2_with fail
  refine (HM.out _).mono ?_
  rintro e w5 ⟨rfl, hb5⟩
  go_wp2_with fail
  go_ret
  exact ⟨rfl, HB.out.trans (hb5.mono HB.out.size)⟩
set_option maxRecDepth 100000 in
set_option maxHeartbeats 4000000 in
theorem ent1_calls (a : Bs × Bs) (u : Bs) (g : Nat) (w : World) (hg : g < w.heap.size) (hc : w.cell? ⟨g, 0, none⟩ = some (.string ⟨u.toArray⟩)) :
    Calls Try.prog 28 #[.agg #[.string ⟨a.1.toArray⟩, .string ⟨a.2.toArray⟩], .pointer (some ⟨g, 0, none⟩)] w fun e w' => e = .returned (.bool (usrF u a)) ∧ Below w.heap.size w w' := by
  have HB := Lib.hid ((Below.refl w.heap.size w).alloc (Nat.le_refl _) (.cells #[.string ⟨a.1.toArray⟩, .string ⟨a.2.toArray⟩] 55))
  unfold usrF
  generalize a.1 = a1 at *
  generalize a.2 = a2 at *
  go_enter Try.func28, Try.ntmps28
  go_wp2_with fail
  go_ret
  exact ⟨rfl, HB.out⟩
set_option maxRecDepth 100000 in
set_option maxHeartbeats 4000000 in
theorem grp1_calls (a : Bs × List Bs) (v : Value) (u : Bs) (g : Nat) (w : World) (hg : g < w.heap.size) (hc : w.cell? ⟨g, 0, none⟩ = some (.string ⟨u.toArray⟩)) :
    Calls Try.prog 31 #[.agg #[.string ⟨a.1.toArray⟩, v], .pointer (some ⟨g, 0, none⟩)] w fun e w' => e = .returned (.bool (grpF u a)) ∧ Below w.heap.size w w' := by
  have HB := Lib.hid ((Below.refl w.heap.size w).alloc (Nat.le_refl _) (.cells #[.string ⟨a.1.toArray⟩, v] 53))
  unfold grpF
  generalize a.1 = a1 at *
  go_enter Try.func31, Try.ntmps31
  go_wp2_with fail
  go_ret
  exact ⟨rfl, HB.out⟩
set_option maxRecDepth 100000 in
set_option maxHeartbeats 4000000 in
theorem grp21_calls (q nm : Bs) (hx : nm.length ≤ 65536) (g : Nat) (w : World) (hc : w.cell? ⟨g, 0, none⟩ = some (.string ⟨nm.toArray⟩)) :
    Calls Try.prog 34 #[.string ⟨q.toArray⟩, .pointer (some ⟨g, 0, none⟩)] w fun e w' => e = .returned (.bool (fit q nm)) ∧ Below w.heap.size w w' := by
  have HM := Lib.hid (fit_calls q nm hx)
  go_enter Try.func34, Try.ntmps34
  go_wp2_with fail
  refine (HM.out _).mono ?_
  rintro e w5 ⟨rfl, hb5⟩
  go_wp2_with fail
  go_ret
  exact ⟨rfl, hb5⟩
set_option maxRecDepth 100000 in
set_option maxHeartbeats 4000000 in
theorem grp2_calls (x : Cn) (ps : List Bs) (hx : x.name.length ≤ 65536) (q : Option Addr) (d m : Nat) (hm : m = ps.length) (hm2 : m ≤ 65536) (g : Nat) (w : World) (hg : g < w.heap.size) (hc : w.cell? ⟨g, 0, none⟩ = some (.slice q m d)) (ht : Texts w q d ps) :
    Calls Try.prog 32 #[cnV x, .pointer (some ⟨g, 0, none⟩)] w fun e w' => e = .returned (.bool (ps.any fun p => fit p x.name)) ∧ Below w.heap.size w w' := by
  unfold cnV
  have hB := ((Below.refl w.heap.size w).alloc (Nat.le_refl _) (.cells #[.string ⟨x.name.toArray⟩, .int .i64 x.kind, .int .i64 x.lines, .int .i64 x.bytes, .int .i64 x.gens, .int .i64 x.size, .int .i64 x.base, .int .i64 x.cap, .int .i64 x.jit, .string ⟨x.init.toArray⟩] 47))
  have nB := at_new w (.cells #[.string ⟨x.name.toArray⟩, .int .i64 x.kind, .int .i64 x.lines, .int .i64 x.bytes, .int .i64 x.gens, .int .i64 x.size, .int .i64 x.base, .int .i64 x.cap, .int .i64 x.jit, .string ⟨x.init.toArray⟩] 47)
  generalize hW : (w.alloc (.cells #[.string ⟨x.name.toArray⟩, .int .i64 x.kind, .int .i64 x.lines, .int .i64 x.bytes, .int .i64 x.gens, .int .i64 x.size, .int .i64 x.base, .int .i64 x.cap, .int .i64 x.jit, .string ⟨x.init.toArray⟩] 47)) = W at hB nB
  have HM := Lib.hid (contains_calls ps (fun p => fit p x.name) 34 (enters_of Try.func34 (by kernel_rfl) rfl) ⟨w.heap.size, 0, none⟩ q d m hm hm2 W (ht.below hB)
    (fun a _ w' hb => grp21_calls a x.name hx w.heap.size w' ((hb.cell (p := ⟨w.heap.size, 0, none⟩) (at_lt nB)).trans (at_cell nB 0))))
  have HB := Lib.hid hB
  rw [← hW] at HM HB
  clear hB nB hW ht hm
  generalize x.name = a at *
  go_enter Try.func32, Try.ntmps32
  go_wp2_with fail
  refine HM.out.mono ?_
  rintro e w5 ⟨rfl, hb5⟩
  go_wp2_with fail
  go_ret
  exact ⟨rfl, HB.out.trans (hb5.mono HB.out.size)⟩

set_option maxRecDepth 100000 in
set_option maxHeartbeats 4000000 in
theorem Fit_calls (cs : List Cn) (u : Bs) (hx : ∀ x ∈ cs, x.name.length ≤ 65536) (p0 p1 p2 : Option Addr) (k0 n0 k1 n1 k2 n2 : Nat) (v3 : Value) (b0 b1 b2 b3 b4 b5 b6 b7 b8 b9 : Bs) (hn0 : n0 = cs.length) (hm0 : n0 ≤ 65536) (w : World) (h0 : Rd w 10 p0 k0 n0 (cs.flatMap cnv)) :
    Calls Try.prog 21 #[confV (.slice p0 n0 k0) (.slice p1 n1 k1) (.slice p2 n2 k2) v3 b0 b1 b2 b3 b4 b5 b6 b7 b8 b9, .string ⟨u.toArray⟩] w (PlPost w (plc cs fun x => fit u x.name)) := by
  have hA := (Below.refl w.heap.size w).alloc (Nat.le_refl _) (.cells #[.slice p0 n0 k0, .slice p1 n1 k1, .slice p2 n2 k2, v3, .string ⟨b0.toArray⟩, .string ⟨b1.toArray⟩, .string ⟨b2.toArray⟩, .string ⟨b3.toArray⟩, .string ⟨b4.toArray⟩, .string ⟨b5.toArray⟩, .string ⟨b6.toArray⟩, .string ⟨b7.toArray⟩, .string ⟨b8.toArray⟩, .string ⟨b9.toArray⟩] 28)
  have nA := at_new w (.cells #[.slice p0 n0 k0, .slice p1 n1 k1, .slice p2 n2 k2, v3, .string ⟨b0.toArray⟩, .string ⟨b1.toArray⟩, .string ⟨b2.toArray⟩, .string ⟨b3.toArray⟩, .string ⟨b4.toArray⟩, .string ⟨b5.toArray⟩, .string ⟨b6.toArray⟩, .string ⟨b7.toArray⟩, .string ⟨b8.toArray⟩, .string ⟨b9.toArray⟩] 28)
  generalize hW : (w.alloc (.cells #[.slice p0 n0 k0, .slice p1 n1 k1, .slice p2 n2 k2, v3, .string ⟨b0.toArray⟩, .string ⟨b1.toArray⟩, .string ⟨b2.toArray⟩, .string ⟨b3.toArray⟩, .string ⟨b4.toArray⟩, .string ⟨b5.toArray⟩, .string ⟨b6.toArray⟩, .string ⟨b7.toArray⟩, .string ⟨b8.toArray⟩, .string ⟨b9.toArray⟩] 28)) = W at hA nA
  have hs : W.heap.size = w.heap.size + 1 := by rw [← hW]; simp
  have hA2 := hA.alloc hA.size (.cells #[.string ⟨u.toArray⟩] 9)
  have nA2 : (W.alloc (.cells #[.string ⟨u.toArray⟩] 9)).cell? ⟨w.heap.size + 1, 0, none⟩ = some (.string ⟨u.toArray⟩) := by
    rw [← hs]; exact at_cell (at_new W _) 0
  have nA3 : (W.alloc (.cells #[.string ⟨u.toArray⟩] 9)).heap[w.heap.size]? = some (.cells #[.slice p0 n0 k0, .slice p1 n1 k1, .slice p2 n2 k2, v3, .string ⟨b0.toArray⟩, .string ⟨b1.toArray⟩, .string ⟨b2.toArray⟩, .string ⟨b3.toArray⟩, .string ⟨b4.toArray⟩, .string ⟨b5.toArray⟩, .string ⟨b6.toArray⟩, .string ⟨b7.toArray⟩, .string ⟨b8.toArray⟩, .string ⟨b9.toArray⟩] 28 (0, 0)) := at_old W _ nA
  have hs2 : (W.alloc (.cells #[.string ⟨u.toArray⟩] 9)).heap.size = w.heap.size + 2 := by simp [hs]
  have HP := Lib.hid (placesC_calls cs (fun x => fit u x.name) 41 (enters_of Try.func41 (by kernel_rfl) rfl) ⟨w.heap.size + 1, 0, none⟩ p0 k0 n0 hn0 hm0 _ (h0.below hA2)
    (fun x hx1 w' hb => fit1_calls x u (hx x hx1) (w.heap.size + 1) w' (by have := hb.size; omega) ((hb.cell (p := ⟨w.heap.size + 1, 0, none⟩) (by rw [hs2]; show w.heap.size + 1 < _; omega)).trans nA2)))
  have HA2 := Lib.hid hA2
  clear hA nA hA2 nA2 nA3 hs2 hn0 h0 hs
  rw [← hW] at HP HA2
  clear hW
  unfold confV
  unfold PlPost at *
  go_enter Try.func21, Try.ntmps21
  go_wp2_with fail
  refine HP.out.mono ?_
  rintro e w5 ⟨v, rfl, ho, hb5⟩
  have HO := Lib.hid (own_base ho HA2.out.size)
  have HB := Lib.hid (HA2.out.trans (hb5.mono HA2.out.size))
  clear ho hb5 HP
  go_wp2_with fail
  go_ret
  exact ⟨_, rfl, HO.out, HB.out⟩

theorem ent_none {c : Cf} {u p : Bs} (h : c.usrs.find? (usrF u) = none) : entM c u p = 7 := by unfold entM; rw [h]
theorem ent_bad {c : Cf} {u p : Bs} {x : Bs × Bs} (h : c.usrs.find? (usrF u) = some x) (hp : x.2 ≠ p) : entM c u p = 10 := by unfold entM; rw [h]; simp [hp]
theorem ent_ok {c : Cf} {u p : Bs} {x : Bs × Bs} (h : c.usrs.find? (usrF u) = some x) (hp : x.2 = p) : entM c u p = 0 := by unfold entM; rw [h]; simp [hp]
set_option maxRecDepth 100000 in
set_option maxHeartbeats 4000000 in
theorem Enter_calls (c : Cf) (u ps : Bs) (p0 p1 p2 : Option Addr) (k0 n0 k1 n1 k2 n2 : Nat) (v3 : Value) (b0 b1 b2 b3 b4 b5 b6 b7 b8 b9 : Bs) (hn : n2 = c.usrs.length) (hm : n2 ≤ 65536) (w : World) (h : Rd w 2 p2 k2 n2 (c.usrs.flatMap urv)) :
    Calls Try.prog 14 #[confV (.slice p0 n0 k0) (.slice p1 n1 k1) (.slice p2 n2 k2) v3 b0 b1 b2 b3 b4 b5 b6 b7 b8 b9, .string ⟨u.toArray⟩, .string ⟨ps.toArray⟩] w fun e w' => e = .returned (.int .i64 (entM c u ps)) ∧ Below w.heap.size w w' := by
  have hA := (Below.refl w.heap.size w).alloc (Nat.le_refl _) (.cells #[.slice p0 n0 k0, .slice p1 n1 k1, .slice p2 n2 k2, v3, .string ⟨b0.toArray⟩, .string ⟨b1.toArray⟩, .string ⟨b2.toArray⟩, .string ⟨b3.toArray⟩, .string ⟨b4.toArray⟩, .string ⟨b5.toArray⟩, .string ⟨b6.toArray⟩, .string ⟨b7.toArray⟩, .string ⟨b8.toArray⟩, .string ⟨b9.toArray⟩] 28)
  have nA := at_new w (.cells #[.slice p0 n0 k0, .slice p1 n1 k1, .slice p2 n2 k2, v3, .string ⟨b0.toArray⟩, .string ⟨b1.toArray⟩, .string ⟨b2.toArray⟩, .string ⟨b3.toArray⟩, .string ⟨b4.toArray⟩, .string ⟨b5.toArray⟩, .string ⟨b6.toArray⟩, .string ⟨b7.toArray⟩, .string ⟨b8.toArray⟩, .string ⟨b9.toArray⟩] 28)
  generalize hW : (w.alloc (.cells #[.slice p0 n0 k0, .slice p1 n1 k1, .slice p2 n2 k2, v3, .string ⟨b0.toArray⟩, .string ⟨b1.toArray⟩, .string ⟨b2.toArray⟩, .string ⟨b3.toArray⟩, .string ⟨b4.toArray⟩, .string ⟨b5.toArray⟩, .string ⟨b6.toArray⟩, .string ⟨b7.toArray⟩, .string ⟨b8.toArray⟩, .string ⟨b9.toArray⟩] 28)) = W at hA nA
  have hs : W.heap.size = w.heap.size + 1 := by rw [← hW]; simp
  have hA2 := hA.alloc hA.size (.cells #[.string ⟨u.toArray⟩] 9)
  have nA2 : (W.alloc (.cells #[.string ⟨u.toArray⟩] 9)).cell? ⟨w.heap.size + 1, 0, none⟩ = some (.string ⟨u.toArray⟩) := by
    rw [← hs]; exact at_cell (at_new W _) 0
  have nA3 : (W.alloc (.cells #[.string ⟨u.toArray⟩] 9)).heap[w.heap.size]? = some (.cells #[.slice p0 n0 k0, .slice p1 n1 k1, .slice p2 n2 k2, v3, .string ⟨b0.toArray⟩, .string ⟨b1.toArray⟩, .string ⟨b2.toArray⟩, .string ⟨b3.toArray⟩, .string ⟨b4.toArray⟩, .string ⟨b5.toArray⟩, .string ⟨b6.toArray⟩, .string ⟨b7.toArray⟩, .string ⟨b8.toArray⟩, .string ⟨b9.toArray⟩] 28 (0, 0)) := at_old W _ nA
  have hs2 : (W.alloc (.cells #[.string ⟨u.toArray⟩] 9)).heap.size = w.heap.size + 2 := by simp [hs]
  have HP := Lib.hid (idxU_calls c.usrs (usrF u) 28 (enters_of Try.func28 (by kernel_rfl) rfl) ⟨w.heap.size + 1, 0, none⟩ p2 k2 n2 hn hm _ (h.below hA2)
    (fun x hx1 w' hb => ent1_calls x u (w.heap.size + 1) w' (by have := hb.size; omega) ((hb.cell (p := ⟨w.heap.size + 1, 0, none⟩) (by rw [hs2]; show w.heap.size + 1 < _; omega)).trans nA2)))
  have HA2 := Lib.hid hA2
  have NA3 := Lib.hid nA3
  have HR := Lib.hid h
  have HN := Lib.hid hn
  have hcap := h.cap
  clear hA nA hA2 nA2 nA3 hs2 hn h hs
  rw [← hW] at HP HA2 NA3
  clear hW
  unfold confV
  rcases idx_cases c.usrs (usrF u) with ⟨e1, hf⟩ | ⟨k, hk, e1, hf⟩
  · have HE := Lib.hid (ent_none (p := ps) hf)
    rw [e1] at HP
    clear e1 hf
    go_enter Try.func14, Try.ntmps14
    go_wp2_with fail
    refine HP.out.mono ?_
    rintro e w5 ⟨rfl, hb5⟩
    have HB := Lib.hid (HA2.out.trans (hb5.mono HA2.out.size))
    clear hb5
    go_wp2_with fail
    go_ret
    exact ⟨by rw [HE.out]; rfl, HB.out⟩
  · rw [e1] at HP
    have q1 : (k : Int) < (n2 : Int) := by have := HN.out; omega
    have q2 : k < n2 := by omega
    have q3 : ¬ (k : Int) < 0 := by omega
    have HRD := Lib.hid (fun (w' : World) (hb : Below w.heap.size w w') => usr_at (HR.out.below hb) hk)
    by_cases hp : c.usrs[k].2 = ps
    all_goals
      have HE := Lib.hid (show entM c u ps = _ from by first | exact ent_ok hf hp | exact ent_bad hf hp)
      generalize c.usrs[k] = x at *
      generalize x.1 = x1 at *
      generalize x.2 = x2 at *
      clear e1 hf hk
      first
        | (have b1 : (x2 == ps) = true := by simp [hp]; done)
        | (have b1 : (x2 == ps) = false := by simp [hp]; done)
      clear hp
      go_enter Try.func14, Try.ntmps14
      go_wp2_with fail
      refine HP.out.mono ?_
      rintro e w5 ⟨rfl, hb5⟩
      have HB := Lib.hid (HA2.out.trans (hb5.mono HA2.out.size))
      obtain ⟨g, o, rfl, hg, hkn, c0, c1⟩ := HRD.out _ HB.out
      have N5 := (at_cell ((hb5.block _ (at_lt NA3.out)).trans NA3.out) 2 : _ = some (Value.slice (some ⟨g, o, none⟩) n2 k2))
      clear hb5
      go_wp2_with fail
      go_ret
      exact ⟨by rw [HE.out]; rfl, HB.out⟩
def GrPost (w : World) (r : List Nat × Int) (e : Ending) (w' : World) : Prop := ∃ v, e = .returned (.tuple #[v, .int .i64 r.2]) ∧ w'.ownsRow w.heap.size 3 1 v r.1.length (nsv r.1) ∧ Below w.heap.size w w'
theorem grp_none {c : Cf} {u : Bs} (h : c.grps.find? (grpF u) = none) : grpM c u = ([], 7) := by unfold grpM; rw [h]
theorem grp_some {c : Cf} {u : Bs} {x : Bs × List Bs} (h : c.grps.find? (grpF u) = some x) : grpM c u = (fitsM c x.2, 0) := by unfold grpM; rw [h]
set_option maxRecDepth 100000 in
set_option maxHeartbeats 4000000 in
theorem Group_calls (c : Cf) (u : Bs) (hx : ∀ x ∈ c.cons, x.name.length ≤ 65536) (hps : ∀ g ∈ c.grps, g.2.length ≤ 65536) (p0 p1 p2 : Option Addr) (k0 n0 k1 n1 k2 n2 : Nat) (v3 : Value) (b0 b1 b2 b3 b4 b5 b6 b7 b8 b9 : Bs) (hn0 : n0 = c.cons.length) (hm0 : n0 ≤ 65536) (hn : n1 = c.grps.length) (hm : n1 ≤ 65536) (w : World) (h0 : Rd w 10 p0 k0 n0 (c.cons.flatMap cnv)) {gs : List Value} (h : Rd w 2 p1 k1 n1 gs) (hg : Gs w.heap.size w gs c.grps) :
    Calls Try.prog 17 #[confV (.slice p0 n0 k0) (.slice p1 n1 k1) (.slice p2 n2 k2) v3 b0 b1 b2 b3 b4 b5 b6 b7 b8 b9, .string ⟨u.toArray⟩] w (GrPost w (grpM c u)) := by
  have hA := (Below.refl w.heap.size w).alloc (Nat.le_refl _) (.cells #[.slice p0 n0 k0, .slice p1 n1 k1, .slice p2 n2 k2, v3, .string ⟨b0.toArray⟩, .string ⟨b1.toArray⟩, .string ⟨b2.toArray⟩, .string ⟨b3.toArray⟩, .string ⟨b4.toArray⟩, .string ⟨b5.toArray⟩, .string ⟨b6.toArray⟩, .string ⟨b7.toArray⟩, .string ⟨b8.toArray⟩, .string ⟨b9.toArray⟩] 28)
  have nA := at_new w (.cells #[.slice p0 n0 k0, .slice p1 n1 k1, .slice p2 n2 k2, v3, .string ⟨b0.toArray⟩, .string ⟨b1.toArray⟩, .string ⟨b2.toArray⟩, .string ⟨b3.toArray⟩, .string ⟨b4.toArray⟩, .string ⟨b5.toArray⟩, .string ⟨b6.toArray⟩, .string ⟨b7.toArray⟩, .string ⟨b8.toArray⟩, .string ⟨b9.toArray⟩] 28)
  generalize hW : (w.alloc (.cells #[.slice p0 n0 k0, .slice p1 n1 k1, .slice p2 n2 k2, v3, .string ⟨b0.toArray⟩, .string ⟨b1.toArray⟩, .string ⟨b2.toArray⟩, .string ⟨b3.toArray⟩, .string ⟨b4.toArray⟩, .string ⟨b5.toArray⟩, .string ⟨b6.toArray⟩, .string ⟨b7.toArray⟩, .string ⟨b8.toArray⟩, .string ⟨b9.toArray⟩] 28)) = W at hA nA
  have hs : W.heap.size = w.heap.size + 1 := by rw [← hW]; simp
  have hA2 := hA.alloc hA.size (.cells #[.string ⟨u.toArray⟩] 9)
  have nA2 : (W.alloc (.cells #[.string ⟨u.toArray⟩] 9)).cell? ⟨w.heap.size + 1, 0, none⟩ = some (.string ⟨u.toArray⟩) := by
    rw [← hs]; exact at_cell (at_new W _) 0
  have nA3 : (W.alloc (.cells #[.string ⟨u.toArray⟩] 9)).heap[w.heap.size]? = some (.cells #[.slice p0 n0 k0, .slice p1 n1 k1, .slice p2 n2 k2, v3, .string ⟨b0.toArray⟩, .string ⟨b1.toArray⟩, .string ⟨b2.toArray⟩, .string ⟨b3.toArray⟩, .string ⟨b4.toArray⟩, .string ⟨b5.toArray⟩, .string ⟨b6.toArray⟩, .string ⟨b7.toArray⟩, .string ⟨b8.toArray⟩, .string ⟨b9.toArray⟩] 28 (0, 0)) := at_old W _ nA
  have hs2 : (W.alloc (.cells #[.string ⟨u.toArray⟩] 9)).heap.size = w.heap.size + 2 := by simp [hs]
  have HP := Lib.hid (idxG_calls c.grps (grpF u) 31 (enters_of Try.func31 (by kernel_rfl) rfl) ⟨w.heap.size + 1, 0, none⟩ p1 k1 n1 hn hm _ (h.below hA2) ((hg.keep hA2).up hA2.size)
    (fun x hx1 v w' hb => grp1_calls x v u (w.heap.size + 1) w' (by have := hb.size; omega) ((hb.cell (p := ⟨w.heap.size + 1, 0, none⟩) (by rw [hs2]; show w.heap.size + 1 < _; omega)).trans nA2)))
  have HA2 := Lib.hid hA2
  have NA3 := Lib.hid nA3
  have HR := Lib.hid h
  have HG := Lib.hid hg
  have HN := Lib.hid hn
  have hcap := h.cap
  have HPC := Lib.hid (fun (w' : World) (hb : Below w.heap.size w w') (f : Cn → Bool) (F : Nat) (hE : Enters Try.prog F) (cp : Addr) hF => placesC_calls c.cons f F hE cp p0 k0 n0 hn0 hm0 w' (h0.below hb) hF)
  clear hA nA hA2 nA2 nA3 hs2 hn h hs hg hn0 h0
  rw [← hW] at HP HA2 NA3
  clear hW
  unfold confV
  unfold GrPost
  rcases idx_cases c.grps (grpF u) with ⟨e1, hf⟩ | ⟨k, hk, e1, hf⟩
  · have HE := Lib.hid (grp_none hf)
    rw [e1] at HP
    clear e1 hf
    go_enter Try.func17, Try.ntmps17
    go_wp2_with fail
    refine HP.out.mono ?_
    rintro e w5 ⟨rfl, hb5⟩
    have HB := Lib.hid (HA2.out.trans (hb5.mono HA2.out.size))
    clear hb5
    go_wp2_with fail
    go_ret2
    exact ⟨_, by rw [HE.out]; rfl, by rw [HE.out]; exact World.ownsRow_nil _ _ _ _, HB.out⟩
  · rw [e1] at HP
    have q1 : (k : Int) < (n1 : Int) := by have := HN.out; omega
    have q2 : k < n1 := by omega
    have q3 : ¬ (k : Int) < 0 := by omega
    have HRD := Lib.hid (fun (w' : World) (hb : Below w.heap.size w w') => grp_at (HR.out.below hb) ((HG.out.keep hb).up hb.size) hk)
    have hpl := hps _ (List.getElem_mem hk)
    have HE := Lib.hid (grp_some hf)
    generalize c.grps[k] = x at *
    clear e1 hf hk
    go_enter Try.func17, Try.ntmps17
    go_wp2_with fail
    refine HP.out.mono ?_
    rintro e w5 ⟨rfl, hb5⟩
    have HB := Lib.hid (HA2.out.trans (hb5.mono HA2.out.size))
    obtain ⟨g, o, q, d, rfl, hg, hkn, c0, c1, ht⟩ := HRD.out _ HB.out
    have N5 := (hb5.block _ (at_lt NA3.out)).trans NA3.out
    have y1 := (at_cell N5 1 : _ = some (Value.slice (some ⟨g, o, none⟩) n1 k1))
    have hbP := (Below.refl w5.heap.size w5).alloc (Nat.le_refl _) (.cells #[.slice q x.2.length d] 45)
    have nP := at_new w5 (.cells #[.slice q x.2.length d] 45)
    have y0 := (at_cell (at_old w5 (.cells #[.slice q x.2.length d] 45) N5) 0 : _ = some (Value.slice p0 n0 k0))
    have HQ := Lib.hid (HPC.out _ (HB.out.trans (hbP.mono HB.out.size)) (fun y => x.2.any fun p => fit p y.name) 32 (enters_of Try.func32 (by kernel_rfl) rfl) ⟨w5.heap.size, 0, none⟩
      (fun y hy w' hb => grp2_calls y x.2 (hx y hy) q d x.2.length rfl hpl w5.heap.size w' (Nat.lt_of_lt_of_le (at_lt nP) hb.size) ((hb.cell (p := ⟨w5.heap.size, 0, none⟩) (at_lt nP)).trans (at_cell nP 0)) ((ht.below hbP).below hb)))
    have HP2 := Lib.hid (HB.out.trans (hbP.mono HB.out.size))
    clear hb5 hbP nP ht N5 HP
    unfold PlPost at HQ
    go_wp2_with fail
    refine HQ.out.mono ?_
    rintro e w6 ⟨v, rfl, ho, hb6⟩
    have HO := Lib.hid (own_base ho HP2.out.size)
    have HB6 := Lib.hid (HP2.out.trans (hb6.mono HP2.out.size))
    clear ho hb6
    go_wp2_with fail
    go_ret2
    exact ⟨_, by rw [HE.out]; rfl, by rw [HE.out]; exact HO.out, HB6.out⟩
end Go.Proofs.Ytomnkmcabkoagaa.Rgt

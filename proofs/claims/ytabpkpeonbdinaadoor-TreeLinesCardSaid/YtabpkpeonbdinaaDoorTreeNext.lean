/-
  Layer 13 (tree): giveUp, the reader, next.
-/
import Derived.Test.YtabpkpeonbdinaaDoorTreeMem
import Derived.Test.YtabpkpeonbdinaaDoorLexPcs
import Derived.Test.YtabpkpeonbdinaaDoorErfFaults
import Derived.WalkLawsBesides
import Derived.StillTailTactics
namespace Go.Proofs.YtabpkpeonbdinaaDoor.Tree
open Go.RowKit Go.Proofs.YtabpkpeonbdinaaDoor.Own Go.Proofs.YtabpkpeonbdinaaDoor.Rw Go.Proofs.YtabpkpeonbdinaaDoor.Lex

/-- a piece as a value -/
def pcv (p : Pc) : Value := .agg #[.int .i64 p.kind, .string ⟨p.text.toArray⟩, .int .i64 p.line]
def faultAt (w : World) (g : Nat) (c n : Int) : Prop := w.heap[g]? = some (.cells #[.int .i64 n, .string ⟨#[]⟩, .iface 52 (.int .i64 c)] 51 (0, 0))
/-- the reading was given up -/
def Gone (c n : Int) (S : Nat → Prop) (w : World) (e : Ending) (w' : World) : Prop :=
  ∃ g, e = .panicked [{ v := .iface 49 (.pointer (some ⟨g, 0, none⟩)), recovered := false }] ∧ faultAt w' g c n ∧ Out S w w'
theorem Gone.up {c n : Int} {S S' : Nat → Prop} {w0 w w' : World} {e : Ending} (h : Gone c n S' w e w') (hb : Out S w0 w) (hs : ∀ i, i < w0.heap.size → S' i → S i) : Gone c n S w0 e w' := by
  obtain ⟨g, he, hf, ho⟩ := h
  exact ⟨g, he, hf, hb.trans ho hs⟩

set_option maxRecDepth 100000 in
set_option maxHeartbeats 4000000 in
theorem giveUp_calls (c : Int) (hc : c ≠ 0) (p : Pc) (S : Nat → Prop) (w : World) :
    Calls Tryd.prog 41 #[.int .i64 c, pcv p] w (Gone c p.line S w) := by
  have HC := Lib.hid hc
  clear hc
  obtain ⟨k, t, n⟩ := p
  unfold pcv
  go_enter Tryd.func41, Tryd.ntmps41
  go_wp2_with (go_at_call 20; refine (Flt.new_some c _ ⟨#[]⟩ HC.out _).mono ?_; rintro e w5 ⟨rfl, rfl⟩)
  exact ⟨rfl, _, rfl, at_newk _ _ (by simp), ((Out.refl _ _).alloc _).alloc _⟩

/-- the reader, that stands at a piece -/
structure Rd (w : World) (P : List Pc) (p : Option Addr) (c rb k : Nat) : Prop where
  at_ : w.heap[rb]? = some (.cells #[.slice p P.length c, .int .i64 k] 45 (0, 0))
  pcs : Pcs w P p c
  ne : ∀ a, p = some a → a.block ≠ rb
  le : k ≤ P.length
  few : P.length ≤ 65536
theorem Rd.out {w w' : World} {P : List Pc} {p : Option Addr} {c rb k : Nat} {S : Nat → Prop} (h : Rd w P p c rb k) (hb : Out S w w') (hr : ¬ S rb) (hp : ∀ a, p = some a → ¬ S a.block) : Rd w' P p c rb k :=
  ⟨hb.at_ h.at_ hr, h.pcs.out hb hp, h.ne, h.le, h.few⟩
theorem Rd.kept {w w' : World} {P : List Pc} {p : Option Addr} {c rb k : Nat} (h : Rd w P p c rb k) (hb : Below w.heap.size w w') : Rd w' P p c rb k :=
  ⟨(hb.block rb (at_lt h.at_)).trans h.at_, h.pcs.kept hb, h.ne, h.le, h.few⟩
theorem Rd.set {w : World} {P : List Pc} {p : Option Addr} {c rb k : Nat} (h : Rd w P p c rb k) (hk : k < P.length) (n : Nat) (hn : n = k + 1) : Rd (w.setCell ⟨rb, 1, none⟩ (.int .i64 n)) P p c rb (k + 1) := by
  subst hn
  exact ⟨at_set h.at_ 1 _, h.pcs.out ((Out.refl (fun i => i = rb) w).setCell (fun _ => rfl) _) h.ne, h.ne, hk, h.few⟩
theorem set3_row {w : World} {b : Nat} {x y z : Value} {T : TypeId} (h : w.heap[b]? = some (.cells #[x, y, z] T (0, 0))) (x' y' z' : Value) :
    (((w.setCell ⟨b, 0, none⟩ x').setCell ⟨b, 1, none⟩ y').setCell ⟨b, 2, none⟩ z').heap[b]? = some (.cells #[x', y', z'] T (0, 0)) :=
  at_set (at_set (at_set h 0 x') 1 y') 2 z'
theorem set3_out (S : Nat → Prop) {a w : World} (h : Out S a w) {b : Nat} (hb : a.heap.size ≤ b) (x' y' z' : Value) : Out S a (((w.setCell ⟨b, 0, none⟩ x').setCell ⟨b, 1, none⟩ y').setCell ⟨b, 2, none⟩ z') :=
  ((h.setCell (p := ⟨b, 0, none⟩) (fun h => absurd h (by show ¬ b < _; omega)) _).setCell (p := ⟨b, 1, none⟩) (fun h => absurd h (by show ¬ b < _; omega)) _).setCell (p := ⟨b, 2, none⟩) (fun h => absurd h (by show ¬ b < _; omega)) _
theorem set3_self (w : World) (b : Nat) (x' y' z' : Value) : Out (fun k => k = b) w (((w.setCell ⟨b, 0, none⟩ x').setCell ⟨b, 1, none⟩ y').setCell ⟨b, 2, none⟩ z') :=
  (((Out.refl (fun k => k = b) w).setCell (p := ⟨b, 0, none⟩) (fun _ => rfl) _).setCell (p := ⟨b, 1, none⟩) (fun _ => rfl) _).setCell (p := ⟨b, 2, none⟩) (fun _ => rfl) _
def OnlyR (rb : Nat) (k : Nat) : Prop := k = rb

set_option maxRecDepth 100000 in
set_option maxHeartbeats 4000000 in
theorem next_ok (P : List Pc) (p : Option Addr) (c rb k : Nat) (w : World) (h : Rd w P p c rb k) (hk : k < P.length) :
    Calls Tryd.prog 25 #[.pointer (some ⟨rb, 0, none⟩)] w fun e w' => e = .returned (pcv P[k]) ∧ Rd w' P p c rb (k + 1) ∧ Out (OnlyR rb) w w' := by
  have H := Lib.hid h
  have hlt := at_lt h.at_
  have e0 : w.cell? ⟨rb, 0, none⟩ = some (.slice p P.length c) := at_cell h.at_ 0
  have e1 : w.cell? ⟨rb, 1, none⟩ = some (.int .i64 k) := at_cell h.at_ 1
  have f1 : w.frozen? ⟨rb, 1, none⟩ = false := at_frozen h.at_ 1
  have hc := h.pcs.cap
  have hm := h.pcs.max
  unfold maxLen at hm
  have hfew := h.few
  rcases h.pcs.cells with h0 | ⟨b, rfl, hb, hcs⟩
  · subst h0; simp at hk
  obtain ⟨c0, c1, c2⟩ := hcs k hk
  clear h hcs
  have q1 : ((k : Int) == (P.length : Int)) = false := by simp; omega
  have q2 : (k : Int) < (P.length : Int) := by omega
  have HK := Lib.hid hk
  generalize hx : P[k] = x at *
  obtain ⟨kd, tx, ln⟩ := x
  clear hx hk
  unfold pcv
  go_enter Tryd.func25, Tryd.ntmps25
  go_wp2_with fail
  go_quiet (fail)
  go_wp2_with fail
  go_region
  go_wp2_with fail
  have R1 := (H.out.kept (w' := (w.alloc (.cells #[.int .i64 0, .string ⟨#[]⟩, .int .i64 0] 67)).drewN (nq + 1)) (below_drew ((Below.refl _ _).alloc (Nat.le_refl _) _))).set HK.out (k + 1) rfl
  have O1 : Out (OnlyR rb) w (((w.alloc (.cells #[.int .i64 0, .string ⟨#[]⟩, .int .i64 0] 67)).drewN (nq + 1)).setCell ⟨rb, 1, none⟩ (.int .i64 (k + 1 : Nat))) := (((Out.refl (OnlyR rb) w).alloc _).drewN _).setCell (p := ⟨rb, 1, none⟩) (fun _ => rfl) _
  have r0 : (((w.alloc (.cells #[.int .i64 0, .string ⟨#[]⟩, .int .i64 0] 67)).drewN (nq + 1)).setCell ⟨rb, 1, none⟩ (.int .i64 (k + 1 : Nat))).heap[w.heap.size]? = some (.cells #[.int .i64 0, .string ⟨#[]⟩, .int .i64 0] 67 (0, 0)) := by
    rw [at_set_other _ (by omega)]; exact at_new w _
  have O2 := set3_out (OnlyR rb) O1 (b := w.heap.size) (Nat.le_refl _) (.int .i64 kd) (.string ⟨tx.toArray⟩) (.int .i64 ln)
  have r1 := set3_row r0 (.int .i64 kd) (.string ⟨tx.toArray⟩) (.int .i64 ln)
  have R2 := R1.out (set3_self _ w.heap.size (.int .i64 kd) (.string ⟨tx.toArray⟩) (.int .i64 ln)) (by intro e; have e : rb = w.heap.size := e; omega) (by rintro a ⟨⟩ e; have e : b = w.heap.size := e; omega)
  rw [show ((k + 1 : Nat) : Int) = (k : Int) + 1 by omega] at O2 r1 R2
  refine bodyPost_ret (results_cell_row rfl _ _ w.heap.size _ #[.int .i64 kd, .string ⟨tx.toArray⟩, .int .i64 ln] _ _ rfl (at_old _ _ r1) Tryd.underlying67 rfl (by kernel_rfl)) rfl ?_
  exact ⟨rfl, R2.kept ((Below.refl _ _).alloc (Nat.le_refl _) _), O2.alloc _⟩

set_option maxRecDepth 100000 in
set_option maxHeartbeats 4000000 in
theorem next_end (P : List Pc) (p : Option Addr) (c rb k : Nat) (w : World) (h : Rd w P p c rb k) (hk : k = P.length) (h0 : 0 < k) :
    Calls Tryd.prog 25 #[.pointer (some ⟨rb, 0, none⟩)] w (Gone 3 (lastOf P) (OnlyR rb) w) := by
  have hlt := at_lt h.at_
  have e0 : w.cell? ⟨rb, 0, none⟩ = some (.slice p P.length c) := at_cell h.at_ 0
  have e1 : w.cell? ⟨rb, 1, none⟩ = some (.int .i64 k) := at_cell h.at_ 1
  have hc := h.pcs.cap
  have hm := h.pcs.max
  unfold maxLen at hm
  have hfew := h.few
  rcases h.pcs.cells with hn | ⟨b, rfl, hb, hcs⟩
  · subst hn; simp at hk; omega
  obtain ⟨j, rfl⟩ : ∃ j, k = j + 1 := ⟨k - 1, by omega⟩
  obtain ⟨c0, c1, c2⟩ := hcs j (by omega)
  have HL := Lib.hid (show lastOf P = (P[j]'(by omega)).line by
    unfold lastOf
    rw [List.getLast?_eq_getElem?, show P.length - 1 = j by omega, List.getElem?_eq_getElem (by omega)])
  clear h hcs
  have q1 : (((j + 1 : Nat) : Int) == (P.length : Int)) = true := by simp; omega
  have q2 : (j : Int) < (P.length : Int) := by omega
  have q3 : ((j + 1 : Nat) : Int) - 1 = (j : Int) := by omega
  generalize hx : P[j] = x at *
  have HG := Lib.hid fun w => giveUp_calls 3 (by decide) x (OnlyR rb) w
  obtain ⟨kd, tx, ln⟩ := x
  unfold pcv at HG
  rw [HL.out]
  clear hx hk
  have q4 : IntKind.i64.wrap (((j + 1 : Nat) : Int) - 1) = (j : Int) := by rw [q3, IntKind.wrap_i64]; omega
  have q7 : IntKind.i64.wrap (j : Int) = (j : Int) := by rw [IntKind.wrap_i64]; omega
  have q8 : j < P.length := by omega
  have q5 : ((j + 1 : Nat) : Int) ≤ 65536 := by omega
  have q6 : 0 ≤ ((j + 1 : Nat) : Int) := by omega
  generalize ((j + 1 : Nat) : Int) = m at *
  go_enter Tryd.func25, Tryd.ntmps25
  go_wp2_with fail
  go_quiet (fail)
  go_wp2_with fail
  have O0 := Lib.hid (((Out.refl (OnlyR rb) w).alloc (.cells #[.int .i64 0, .string ⟨#[]⟩, .int .i64 0] 67)).drewN nq)
  have B0 : Below w.heap.size w ((w.alloc (.cells #[.int .i64 0, .string ⟨#[]⟩, .int .i64 0] 67)).drewN nq) := below_drew ((Below.refl _ _).alloc (Nat.le_refl _) _)
  have x0 := (B0.cell (p := ⟨rb, 0, none⟩) hlt).trans e0
  have x1 := (B0.cell (p := ⟨rb, 1, none⟩) hlt).trans e1
  have y0 := (B0.cell (p := ⟨b, j * 3, none⟩) hb).trans c0
  have y1 := (B0.cell (p := ⟨b, j * 3 + 1, none⟩) hb).trans c1
  have y2 := (B0.cell (p := ⟨b, j * 3 + 2, none⟩) hb).trans c2
  clear B0 e0 e1 c0 c1 c2
  generalize (w.alloc (.cells #[.int .i64 0, .string ⟨#[]⟩, .int .i64 0] 67)).drewN nq = w1 at *
  go_still_tail 11, (by kernel_rfl)
  change wpList _ _ _ _ _ w1.drew
  go_wp2_with (go_at_call 41; refine (HG.out _).mono ?_; rintro e w5 ⟨g, rfl, hf, ho⟩)
  exact ⟨rfl, g, rfl, hf, O0.out.drew.trans ho fun _ _ h => h⟩
end Go.Proofs.YtabpkpeonbdinaaDoor.Tree

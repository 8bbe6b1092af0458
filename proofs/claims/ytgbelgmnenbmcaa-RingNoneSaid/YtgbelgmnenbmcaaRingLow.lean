/-
  Layer 4 (ring): the program's rooms: Len, Room, Gone, within, around, walked.
-/
import Derived.Test.YtgbelgmnenbmcaaProg
import Derived.Test.YtgbelgmnenbmcaaRingPlain
import Derived.Deep.QuietTactic
import Derived.BigQuiet
import Derived.Deep.RegionHeld3
import Derived.WalkKit
namespace Go.Proofs.Ytgbelgmnenbmcaa.Ring
open Go.RowKit Go.Proofs.Ytgbelgmnenbmcaa.Own

theorem ret_int {a b : Int} (h : a = b) : Ending.returned (.int .i64 a) = .returned (.int .i64 b) := by rw [h]

def placeV (q : Option Nat) (n : Nat) : Value := match q with | none => .slice none 0 0 | some p => .slice (some ⟨p, 0, none⟩) n n
def Place (w : World) (q : Option Nat) (L : List UInt8) : Prop := match q with | none => L = [] | some p => w.heap[p]? = some (.cells (bv L).toArray 5 (0, 0)) ∧ L ≠ []

/-- the ring's own block and its places -/
structure Raw (w : World) (b : Nat) (q : Option Nat) (most gone f cnt : Nat) (L : List UInt8) : Prop where
  blk : w.heap[b]? = some (.cells #[.int .i64 most, placeV q L.length, .int .i64 f, .int .i64 cnt, .int .i64 gone] 55 (0, 0))
  row : Place w q L
  ne : q ≠ some b
  m1 : 1 ≤ most
  m2 : most ≤ 1048576
  lm : L.length ≤ most
  gm : gone ≤ 4611686018427387904

section
variable {w : World} {b : Nat} {q : Option Nat} {most gone f cnt : Nat} {L : List UInt8}

theorem Raw.cells (h : Raw w b q most gone f cnt L) : w.cell? ⟨b, 0, none⟩ = some (.int .i64 most) ∧ w.cell? ⟨b, 1, none⟩ = some (placeV q L.length) ∧ w.cell? ⟨b, 2, none⟩ = some (.int .i64 f) ∧
    w.cell? ⟨b, 3, none⟩ = some (.int .i64 cnt) ∧ w.cell? ⟨b, 4, none⟩ = some (.int .i64 gone) := by
  refine ⟨?_, ?_, ?_, ?_, ?_⟩ <;> (rw [at_cell h.blk]; rfl)
theorem Raw.free (h : Raw w b q most gone f cnt L) (o : Nat) : w.frozen? ⟨b, o, none⟩ = false := at_frozen h.blk o
theorem Raw.move {w' : World} (h : Raw w b q most gone f cnt L) (hb : w'.heap[b]? = w.heap[b]?) (hq : ∀ p, q = some p → w'.heap[p]? = w.heap[p]?) : Raw w' b q most gone f cnt L := by
  refine ⟨hb.trans h.blk, ?_, h.ne, h.m1, h.m2, h.lm, h.gm⟩
  have := h.row
  cases q with
  | none => exact this
  | some p => exact ⟨(hq p rfl).trans this.1, this.2⟩
theorem Raw.lt (h : Raw w b q most gone f cnt L) : b < w.heap.size := at_lt h.blk
theorem Raw.ltq (h : Raw w b q most gone f cnt L) {p : Nat} (hq : q = some p) : p < w.heap.size := by subst hq; exact at_lt h.row.1
theorem Raw.out {w' : World} {S : Nat → Prop} (h : Raw w b q most gone f cnt L) (ho : Out S w w') (hb : ¬ S b) (hq : ∀ p, q = some p → ¬ S p) : Raw w' b q most gone f cnt L :=
  h.move (ho.block b h.lt hb) fun p e => ho.block p (h.ltq e) (hq p e)

theorem len_raw (h : Raw w b q most gone f cnt L) :
    Calls Try.prog 19 #[.pointer (some ⟨b, 0, none⟩)] w fun e w' => e = .returned (.int .i64 cnt) ∧ w = w' := by
  obtain ⟨c0, c1, c2, c3, c4⟩ := h.cells
  clear h
  go_enter Try.func19, Try.ntmps19
  go_wp2
  go_ret
  exact ⟨rfl, rfl⟩

theorem gone_raw (h : Raw w b q most gone f cnt L) :
    Calls Try.prog 18 #[.pointer (some ⟨b, 0, none⟩)] w fun e w' => e = .returned (.int .i64 gone) ∧ w = w' := by
  obtain ⟨c0, c1, c2, c3, c4⟩ := h.cells
  clear h
  go_enter Try.func18, Try.ntmps18
  go_wp2
  go_ret
  exact ⟨rfl, rfl⟩

def Drew (w w' : World) : Prop := ∃ n, w' = w.drewN n

theorem room_raw (h : Raw w b q most gone f cnt L) (hc : cnt ≤ most) :
    Calls Try.prog 21 #[.pointer (some ⟨b, 0, none⟩)] w fun e w' => e = .returned (.int .i64 ((most : Int) - cnt)) ∧ Drew w w' := by
  obtain ⟨c0, c1, c2, c3, c4⟩ := h.cells
  have := h.m2
  clear h
  go_enter Try.func21, Try.ntmps21
  go_wp2
  go_quiet (fail)
  go_wp2
  go_ret
  exact ⟨rfl, _, rfl⟩

theorem around_raw (p : Nat) (h : Raw w b (some p) most gone f cnt L) (i : Int) (hL : 0 < L.length) (hf : f < L.length) (h0 : 0 ≤ i) (h1 : i ≤ 1048576) :
    Calls Try.prog 26 #[.pointer (some ⟨b, 0, none⟩), .int .i64 i] w fun e w' => e = .returned (.int .i64 (((f + i.toNat) % L.length : Nat) : Int)) ∧ Drew w w' := by
  obtain ⟨c0, c1, c2, c3, c4⟩ := h.cells
  have := h.m2
  have := h.lm
  clear h
  obtain ⟨k, rfl⟩ : ∃ k : Nat, i = k := ⟨i.toNat, by omega⟩
  unfold placeV at c1
  generalize L.length = n at *
  have hz : ((n : Int) == 0) = false := by rw [beq_eq_false_iff_ne]; omega
  go_enter Try.func26, Try.ntmps26
  go_wp2
  go_quiet (fail)
  go_wp2
  go_ret
  exact ⟨ret_int (by simp), _, rfl⟩
end
end Go.Proofs.Ytgbelgmnenbmcaa.Ring

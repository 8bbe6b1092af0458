/-
  Layer 6 (timer): the heap of entries that the program keeps, and its methods, walked.
-/
import Derived.Test.YtmmgpifidlekaaaHeapOps
import Derived.Test.YtmmgpifidlekaaaOwn
import Derived.Test.YtmmgpifidlekaaaMap
import Derived.Test.YtmmgpifidlekaaaTimerPlain
import Derived.Deep.RegionHeld3
import Derived.StillTailTactics
import Derived.OwnWalk
namespace Go.Proofs.Ytmmgpifidlekaaa.Timer
open Go.RowKit Go.Proofs.Ytmmgpifidlekaaa.Own Go.Proofs.Ytmmgpifidlekaaa.Hp Go.Proofs.Ytmmgpifidlekaaa.KM

/-- entries as cells -/
def ec (L : List Ent) : List Value := L.flatMap fun e => [.int .i64 e.1, .int .i64 e.2]
theorem ec_len (L : List Ent) : (ec L).length = L.length * 2 := by
  induction L with
  | nil => rfl
  | cons e r ih => simp [ec] at ih ⊢; omega
theorem ec_app (L M : List Ent) : ec (L ++ M) = ec L ++ ec M := by simp [ec]
theorem ec_get {L : List Ent} {i : Nat} (h : i < L.length) : (ec L)[i * 2]? = some (.int .i64 (gt L i).1) ∧ (ec L)[i * 2 + 1]? = some (.int .i64 (gt L i).2) := by
  induction L generalizing i with
  | nil => simp at h
  | cons e r ih =>
    cases i with
    | zero => simp [ec, gt]
    | succ i =>
      have := ih (i := i) (by simpa using h)
      simpa [ec, gt, Nat.add_mul] using this
theorem ec_one (L : List Ent) : ∀ u ∈ ec L, u.oneCell' = true := by
  intro u hu
  simp only [ec, List.mem_flatMap] at hu
  obtain ⟨e, _, h⟩ := hu
  simp at h
  rcases h with rfl | rfl <;> rfl

/-- the heap's slice -/
structure Row (w : World) (qb c : Nat) (L : List Ent) : Prop where
  row : ∃ cur : Array Value, w.heap[qb]? = some (.cells cur 67 (0, 0)) ∧ cur.size = c * 2 ∧ ∀ i, i < L.length → cur[i * 2]? = some (.int .i64 (gt L i).1) ∧ cur[i * 2 + 1]? = some (.int .i64 (gt L i).2)
  len : L.length ≤ c
  max : c ≤ maxLen

theorem Row.cell {w : World} {qb c : Nat} {L : List Ent} (h : Row w qb c L) {i : Nat} (hi : i < L.length) : w.cell? ⟨qb, i * 2, none⟩ = some (.int .i64 (gt L i).1) ∧ w.cell? ⟨qb, i * 2 + 1, none⟩ = some (.int .i64 (gt L i).2) := by
  obtain ⟨cur, h1, _, h2⟩ := h.row
  rw [at_cell h1, at_cell h1]; exact h2 i hi
theorem Row.kept {w w' : World} {qb c : Nat} {L : List Ent} (h : Row w qb c L) (hb : w'.heap[qb]? = w.heap[qb]?) : Row w' qb c L := by
  obtain ⟨cur, h1, r⟩ := h.row
  exact ⟨⟨cur, hb.trans h1, r⟩, h.len, h.max⟩
theorem Row.lt {w : World} {qb c : Nat} {L : List Ent} (h : Row w qb c L) : qb < w.heap.size := by
  obtain ⟨cur, h1, r⟩ := h.row
  exact at_lt h1

/-- the timer's own block, what its slice holds, and its map -/
structure TAt (w : World) (tb mb : Nat) (most : Int) (pv : Option Addr) (c : Nat) (L : List Ent) (f : Int → Option Value) (n : Nat) : Prop where
  box : w.heap[tb]? = some (.cells #[.slice pv L.length c, .map (some mb), .int .i64 most] 62 (0, 0))
  q : (pv = none ∧ c = 0 ∧ L = []) ∨ ∃ qb, pv = some ⟨qb, 0, none⟩ ∧ Row w qb c L ∧ qb ≠ tb ∧ qb ≠ mb
  tm : tb ≠ mb
  map : KMap Try.prog 3 ik w mb f n

/-- the timer's blocks -/
def Bl (tb mb : Nat) (pv : Option Addr) (k : Nat) : Prop := k = tb ∨ k = mb ∨ pv = some ⟨k, 0, none⟩

section
variable {w w' : World} {tb mb : Nat} {most : Int} {pv : Option Addr} {c : Nat} {L : List Ent} {f : Int → Option Value} {n : Nat}
theorem TAt.out {S : Nat → Prop} (h : TAt w tb mb most pv c L f n) (ho : Out S w w') (hs : ∀ k, Bl tb mb pv k → ¬ S k) : TAt w' tb mb most pv c L f n := by
  refine ⟨(ho.block tb (at_lt h.box) (hs _ (.inl rfl))).trans h.box, ?_, h.tm, h.map.kept (ho.block mb h.map.lt (hs _ (.inr (.inl rfl))))⟩
  rcases h.q with r | ⟨qb, r, R, q1, q2⟩
  · exact .inl r
  · exact .inr ⟨qb, r, R.kept (ho.block qb R.lt (hs _ (.inr (.inr r)))), q1, q2⟩
theorem TAt.below (h : TAt w tb mb most pv c L f n) (hb : Below w.heap.size w w') : TAt w' tb mb most pv c L f n :=
  h.out (Out.ofNew (S := fun _ => False) hb) fun _ _ h => h
theorem TAt.blocks (h : TAt w tb mb most pv c L f n) (k : Nat) (hk : Bl tb mb pv k) : k < w.heap.size := by
  rcases hk with rfl | rfl | hk
  · exact at_lt h.box
  · exact h.map.lt
  · rcases h.q with ⟨r, _⟩ | ⟨qb, r, R, _⟩
    · rw [r] at hk; cases hk
    · rw [r] at hk; cases hk; exact R.lt

theorem len_calls (h : TAt w tb mb most pv c L f n) : Calls Try.prog 24 #[.pointer (some ⟨tb, 0, none⟩)] w fun e w' => e = .returned (.int .i64 L.length) ∧ w' = w := by
  have b0 := (at_cell h.box 0 : _ = some _)
  clear h
  go_enter Try.func24, Try.ntmps24
  go_wp2
  go_ret
  exact ⟨rfl, rfl⟩
end

theorem bel_drew {B : Nat} {a w : World} (h : Below B a w) : Below B a w.drew := h.trans ⟨rfl, rfl, rfl, Nat.le_refl _, fun _ _ => rfl⟩
theorem less_calls {w : World} {tb mb qb c n : Nat} {most : Int} {L : List Ent} {f : Int → Option Value} (h : TAt w tb mb most (some ⟨qb, 0, none⟩) c L f n) (R : Row w qb c L) (i j : Nat) (hi : i < L.length) (hj : j < L.length) :
    Calls Try.prog 46 #[.pointer (some ⟨tb, 0, none⟩), .int .i64 i, .int .i64 j] w fun e w' =>
      e = .returned (.bool (el (gt L i) (gt L j))) ∧ Below w.heap.size w w' := by
  have b0 := (at_cell h.box 0 : _ = some _)
  obtain ⟨a1, a2⟩ := R.cell hi
  obtain ⟨x1, x2⟩ := R.cell hj
  have q1 : (i : Int) < (L.length : Int) := by omega
  have q2 : (j : Int) < (L.length : Int) := by omega
  have q3 : (L.length : Int) ≤ 9223372036854775807 := by have := R.len; have := R.max; unfold maxLen at this; omega
  have tl := at_lt h.box
  have ql := R.lt
  clear h R
  generalize gt L i = E1 at *
  generalize gt L j = E2 at *
  obtain ⟨id1, at1⟩ := E1
  obtain ⟨id2, at2⟩ := E2
  simp only at a1 a2 x1 x2 ⊢
  by_cases hne : at1 = at2
  · have hb : (at1 == at2) = true := by simpa using hne
    have hel : el (id1, at1) (id2, at2) = decide (id1 < id2) := by simp [el, hne]
    rw [hel]
    clear hne hel
    go_enter Try.func46, Try.ntmps46
    go_wp2
    go_region
    all_goals (go_wp2; go_ret; exact ⟨rfl, bel_drew (((Below.refl _ w).alloc (Nat.le_refl _) _).alloc (by simp) _)⟩)
  · have hb : (at1 == at2) = false := by simpa using hne
    have hel : el (id1, at1) (id2, at2) = decide (at1 < at2) := by simp [el, hne]
    rw [hel]
    clear hne hel
    go_enter Try.func46, Try.ntmps46
    go_wp2
    go_region
    all_goals (go_wp2; go_ret; exact ⟨rfl, bel_drew (((Below.refl _ w).alloc (Nat.le_refl _) _).alloc (by simp) _)⟩)
end Go.Proofs.Ytmmgpifidlekaaa.Timer

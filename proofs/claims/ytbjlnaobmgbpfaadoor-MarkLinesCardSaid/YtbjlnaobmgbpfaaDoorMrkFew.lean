/-
  Layer 20 (mark): what the law takes of any items; the law's example.
-/
import Derived.Test.YtbjlnaobmgbpfaaDoorMrkRef
namespace Go.Proofs.YtbjlnaobmgbpfaaDoor.Mark
open Go.RowKit Go.Proofs.YtbjlnaobmgbpfaaDoor.Own Go.Proofs.YtbjlnaobmgbpfaaDoor.Rw Go.Proofs.YtbjlnaobmgbpfaaDoor.Rec Go.Proofs.YtbjlnaobmgbpfaaDoor.Bld Go.Proofs.YtbjlnaobmgbpfaaDoor.Digit Go.Proofs.YtbjlnaobmgbpfaaDoor.Clock

structure FewAt (w wr : World) (L : List Itm) (k : Nat) (v : Value) : Prop where
  own : wr.ownsRow w.heap.size 28 3 v L.length (cv L)
  below : Below w.heap.size w wr
  len : L.length ≤ k
  ok : ∀ x ∈ L, x.b.size ≤ 80
theorem FewAt.step {w wr w1 : World} {L : List Itm} {k : Nat} {v v' : Value} {x : Itm} (h : FewAt w wr L k v) (hx : x.b.size ≤ 80) (y : Obj)
    (ho : w1.ownsRow w.heap.size 28 3 v' (L.length + 1) (cv L ++ [.int .i64 x.k, .int .i64 x.a, .string x.b])) (hg : (wr.alloc y).grownBy w1 v.ownBlock) :
    FewAt w w1 (L ++ [x]) (k + 1) v' := by
  have hs := h.below.size
  have hlen := h.len
  refine ⟨?_, ?_, ?_, ?_⟩
  · rw [List.length_append, cv_app]; exact ho
  · exact (h.below.alloc hs y).grown hg (by simp; omega) (fun k hk => (World.ownsRow.lt h.own k hk).1)
  · rw [List.length_append, List.length_singleton]; omega
  · intro y hy
    rw [List.mem_append, List.mem_singleton] at hy
    rcases hy with hy | rfl
    · exact h.ok y hy
    · exact hx
theorem FewAt.skip {w wr : World} {L : List Itm} {k : Nat} {v : Value} (h : FewAt w wr L k v) : FewAt w wr L (k + 1) v :=
  ⟨h.own, h.below, by have := h.len; omega, h.ok⟩
def FewPost (w : World) (e : Ending) (w' : World) : Prop :=
  ∃ (xs : List Itm) (n : Nat) (p : Option Addr) (c : Nat), e = .returned (.slice p n c) ∧ xs.length = n ∧ n ≤ 16 ∧ Its w' xs p c ∧ (∀ x ∈ xs, x.b.size ≤ 80) ∧ Below w.heap.size w w'
theorem FewAt.end_ {w wr : World} {L : List Itm} {k : Nat} {v : Value} (h : FewAt w wr L k v) (hk : k ≤ 16) : FewPost w (.returned v) wr := by
  have ho := h.own
  have hf : ∃ p c, v = .slice p L.length c := by
    rcases ho.2 with ⟨rfl, h0⟩ | ⟨g, cap, cur, rfl, _⟩
    · exact ⟨none, 0, by rw [show L.length = 0 from h0]⟩
    · exact ⟨_, _, rfl⟩
  obtain ⟨p, c, rfl⟩ := hf
  exact ⟨L, _, p, c, rfl, rfl, Nat.le_trans h.len hk, owns_its ho rfl, h.ok, h.below⟩

set_option maxRecDepth 100000 in
set_option maxHeartbeats 2000000 in
theorem few_calls (xs : List Itm) (p : Option Addr) (c n : Nat) (hn : xs.length = n) (w : World) (h : Its w xs p c) :
    Calls Tryd.prog 6 #[.slice p n c] w (FewPost w) := by
  obtain ⟨i0, hi, hz0, hz1, hz2⟩ := info_parts info_item
  have hcap := h.cap
  have hmax := h.max
  unfold maxLen at hmax
  rw [hn] at hcap
  have q2 : (n : Int) ≤ 9223372036854775807 := by omega
  have HI := Lib.hid h
  have HN := Lib.hid hn
  clear h hn
  go_enter Tryd.func6, Tryd.ntmps6
  go_wp2_with fail
  go_loopw [3, 4] (fun v i wr => ∃ (L : List Itm) (k : Nat), k ≤ 16 ∧ k ≤ n ∧ i = .int .i64 k ∧ FewAt w wr L k v) (fun _ i _ => 16 - (intOf i).toNat)
  case atStart => exact ⟨[], 0, by omega, by omega, rfl, World.ownsRow_nil _ _ _ _, Below.refl _ _, by simp, fun x hx => absurd hx (by simp)⟩
  case round =>
    obtain ⟨L, k, hk, hkx, rfl, C⟩ := hrel
    by_cases hlt : k < n
    · have q1 : (k : Int) < (n : Int) := by omega
      by_cases h12 : k < 16
      · have hk1 : k < xs.length := by rw [HN.out]; exact hlt
        obtain ⟨b, o, rfl, hb, c0, c1, c2⟩ := Its.at_ HI.out hk1
        rw [← C.below.cell (p := ⟨b, _, none⟩) hb] at c0 c1 c2
        generalize xs[k] = x at *
        obtain ⟨kk, aa, bb⟩ := x
        simp only at c0 c1 c2
        have hbw : b < wr.heap.size := Nat.lt_of_lt_of_le hb C.below.size
        have hlen := C.len
        have hown := C.own
        have hsz := C.below.size
        have HC := Lib.hid C
        have HO := Lib.hid hown
        clear C hown
        by_cases hs : bb.size ≤ 80
        · go_wp2_with (at_builtin; refine Own.append_any rfl _ _ 22 rfl w.heap.size 28 i0 _ 3 32 Tryd.underlying22 hi hz0 hz1 hz2 rfl (by decide) _ _ _ rfl (World.ownsRow.alloc HO.out _) _ 1 1 [.int .i64 kk, .int .i64 aa, .string bb] rfl (fun h => nomatch h) rfl (Own.three_new _ _ _ _ _ _ (by simp)) (by simp [Value.oneCell']) (by unfold maxLen; omega) (by omega) (by simp; omega) ?_; intro v' w1 hown1 hgrow1)
          have C1 := Lib.hid (HC.out.step (x := ⟨kk, aa, bb⟩) hs _ hown1 hgrow1)
          clear hown1 hgrow1
          go_wp2_with fail
          go_roundw
          case rel => exact ⟨_, k + 1, by omega, by omega, by go_num, C1.out⟩
          case measure => simp [intOf]; omega
        · have C1 := Lib.hid HC.out.skip
          have hs' : 80 < bb.size := by omega
          clear hs
          go_wp2_with fail
          go_roundw
          case rel => exact ⟨_, k + 1, by omega, by omega, by go_num, C1.out⟩
          case measure => simp [intOf]; omega
      · obtain rfl : k = 16 := by omega
        have HC := Lib.hid C
        clear C
        go_wp2_with fail
        go_ret
        exact HC.out.end_ (Nat.le_refl _)
    · obtain rfl : k = n := by omega
      have HC := Lib.hid C
      clear C
      go_wp2_with fail
      go_ret
      exact HC.out.end_ hk
theorem few_tot {xs : List Itm} {n : Nat} (hn : xs.length = n) (h : n ≤ 16) (hx : ∀ x ∈ xs, x.b.size ≤ 80) : Mark.tot xs ≤ 1000000000000 := by
  have := Mark.tot_le hx
  have h2 : xs.length * (40 + 23 * 80) ≤ 16 * (40 + 23 * 80) := Nat.mul_le_mul_right _ (by omega)
  omega

def exL : List Itm := [⟨1, 0, ⟨#[97, 98, 10, 99]⟩⟩, ⟨2, 1, ⟨#[97, 110, 110, 32, 105, 110]⟩⟩, ⟨1, 2, ⟨#[100, 10]⟩⟩, ⟨3, 3, ⟨#[55]⟩⟩, ⟨9, 0, ⟨#[120]⟩⟩]
theorem exT : txt false exL = [91, 50, 48, 48, 48, 45, 48, 49, 45, 48, 49, 32, 48, 48, 58, 48, 48, 58, 48, 48, 93, 32, 97, 98, 10, 91, 50, 48, 48, 48, 45, 48, 49, 45, 48, 49, 32, 48, 48, 58, 48, 48, 58, 48, 48, 93, 32, 99, 10, 91, 50, 48, 48, 48, 45, 48, 49, 45, 48, 49, 32, 48, 48, 58, 48, 48, 58, 48, 49, 93, 32, 45, 45, 32, 97, 110, 110, 32, 105, 110, 32, 45, 45, 10, 91, 50, 48, 48, 48, 45, 48, 49, 45, 48, 49, 32, 48, 48, 58, 48, 48, 58, 48, 50, 93, 32, 100, 10, 91, 50, 48, 48, 48, 45, 48, 49, 45, 48, 49, 32, 48, 48, 58, 48, 48, 58, 48, 51, 93, 32, 45, 45, 32, 55, 32, 108, 111, 115, 116, 32, 45, 45, 10] := by decide
end Go.Proofs.YtbjlnaobmgbpfaaDoor.Mark

/-
  Bytes of a text in a block of their own.
-/
import Derived.Test.YtfdpmbnjjnmdiaaOwnRow
import Derived.Test.YtfdpmbnjjnmdiaaProg
import Derived.WalkKit
import Derived.WalkSpells
import Derived.Laws.BitsAllLaws
namespace Go.Proofs.Ytfdpmbnjjnmdiaa.Own
open Go.RowKit

theorem xor_byte (a b : UInt8) : bits .xor .u8 (a.toNat : Int) (b.toNat : Int) = ((a ^^^ b).toNat : Int) := by
  rw [u8_xor_nat _ _ a.toNat_lt b.toNat_lt, UInt8.toNat_xor]
theorem xor_same {a b : UInt8} : a ^^^ b = a ↔ b = 0 := by
  constructor
  · intro h
    have : a ^^^ (a ^^^ b) = a ^^^ a := by rw [h]
    rwa [← UInt8.xor_assoc, UInt8.xor_self, UInt8.zero_xor] at this
  · rintro rfl; exact UInt8.xor_zero

/-- a block that holds bytes, from its first cell on -/
def BytesAt (W : World) (b : Nat) (l : List UInt8) : Prop :=
  ∃ (C : Array Value) (n : Nat), W.heap[b]? = some (.cells C 5 (n, n + 1)) ∧ l.length ≤ n ∧ ∀ j (hj : j < l.length), C[j]? = some (.int .u8 (l[j].toNat : Int))

theorem BytesAt.cell {W : World} {b : Nat} {l : List UInt8} (h : BytesAt W b l) (j : Nat) (hj : j < l.length) : W.cell? ⟨b, j, none⟩ = some (.int .u8 (l[j].toNat : Int)) := by
  obtain ⟨C, n, h1, h2, h3⟩ := h
  rw [at_cell h1]; exact h3 j hj
theorem BytesAt.free {W : World} {b : Nat} {l : List UInt8} (h : BytesAt W b l) (j : Nat) (hj : j < l.length) : W.frozen? ⟨b, j, none⟩ = false := by
  obtain ⟨C, n, h1, h2, h3⟩ := h
  simp [World.frozen?, h1]; omega
theorem BytesAt.lt {W : World} {b : Nat} {l : List UInt8} (h : BytesAt W b l) : b < W.heap.size := by
  obtain ⟨C, n, h1, h2, h3⟩ := h
  exact at_lt h1
theorem BytesAt.set {W : World} {b : Nat} {l : List UInt8} (h : BytesAt W b l) (i : Nat) (c : UInt8) : BytesAt (W.setCell ⟨b, i, none⟩ (.int .u8 (c.toNat : Int))) b (l.set i c) := by
  obtain ⟨C, n, h1, h2, h3⟩ := h
  refine ⟨_, n, at_set h1 i _, by simpa using h2, fun j hj => ?_⟩
  have hj' : j < l.length := by simpa using hj
  have h3' := h3 j hj'
  have hC : j < C.size := (Array.getElem?_eq_some_iff.1 h3').1
  rw [Array.getElem?_setIfInBounds]
  by_cases e : i = j
  · subst e; simp [hC]
  · rw [if_neg e, h3', List.getElem_set_ne e]
theorem BytesAt.kept {W W' : World} {b : Nat} {l : List UInt8} (h : BytesAt W b l) (hb : W'.heap[b]? = W.heap[b]?) : BytesAt W' b l := by
  obtain ⟨C, n, h1, h2, h3⟩ := h
  exact ⟨C, n, hb.trans h1, h2, h3⟩
theorem BytesAt.text {W : World} {b : Nat} {l : List UInt8} (h : BytesAt W b l) (cap : Nat) : (convert 42 9 (.slice (some ⟨b, 0, none⟩) l.length cap)).run Try.prog W = .ok (.string ⟨l.toArray⟩) W := by
  refine run_convert_bytes_back W 42 9 5 ⟨b, 0, none⟩ cap l Try.underlying42 Try.underlying5 Try.underlying9 (fun j hj => ?_)
  have e : (⟨b, 0, none⟩ : Addr).add j = ⟨b, j, none⟩ := add0 b j
  rw [e]; exact h.cell j hj
theorem bytes_new (s : ByteArray) (W : World) : ∃ W' cap, (convert 9 42 (.string s)).run Try.prog W = .ok (.slice (some ⟨W.heap.size, 0, none⟩) s.size cap) W' ∧ BytesAt W' W.heap.size s.data.toList ∧ Below W.heap.size W W' := by
  refine ⟨_, _, run_bytes_of_string W 9 42 5 s Try.underlying9 Try.underlying42 Try.underlying5, ⟨_, _, at_new _ _, ?_, fun j hj => ?_⟩, ((Below.refl _ _).drew).alloc (Nat.le_refl _) _⟩
  · unfold bytesRow; simp
  · exact bytesRow_at s _ j hj

end Go.Proofs.Ytfdpmbnjjnmdiaa.Own

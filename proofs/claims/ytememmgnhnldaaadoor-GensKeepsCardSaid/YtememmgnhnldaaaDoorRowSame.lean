/-
  Layer 10 (word): the document's own Same, walked at two slices that hold the same texts.
-/
import Derived.Test.YtememmgnhnldaaaDoorProg
import Derived.Test.YtememmgnhnldaaaDoorRow1
namespace Go.Proofs.YtememmgnhnldaaaDoor.Word
open Go.RowKit Go.Proofs.YtememmgnhnldaaaDoor.Own Go.Proofs.YtememmgnhnldaaaDoor.Rw

set_option maxRecDepth 100000 in
set_option maxHeartbeats 1000000 in
/-- two slices that hold the same texts -/
theorem same_at (ts : List (List UInt8)) (n : Nat) (hn : ts.length = n) (p1 p2 : Option Addr) (c1 c2 : Nat) (w : World) (h1 : Texts w p1 c1 ts) (h2 : Texts w p2 c2 ts) (hl : n ≤ 1000000) :
    Calls Tryd.prog 11 #[.slice p1 n c1, .slice p2 n c2] w fun e w' => e = .returned (.bool true) ∧ Below w.heap.size w w' := by
  have H1 := Lib.hid h1
  have H2 := Lib.hid h2
  clear h1 h2
  go_enter Tryd.func11, Tryd.ntmps11
  go_wp2_with fail
  go_loopw [5] (fun i wr => ∃ k m : Nat, k ≤ n ∧ i = .int .i64 k ∧ wr = w.drewN m) (fun i _ => n - (intOf i).toNat)
  case atStart => exact ⟨0, 0, by omega, rfl, rfl⟩
  case round =>
    obtain ⟨k, m, hk, rfl, rfl⟩ := hrel
    rcases Nat.lt_or_eq_of_le hk with hlt | rfl
    · have hkt : k < ts.length := by omega
      rcases H1.out.cells with h0 | ⟨b, o, rfl, hb, hc⟩
      · rw [h0] at hkt; simp at hkt
      · rcases H2.out.cells with h0 | ⟨b', o', rfl, hb', hc'⟩
        · rw [h0] at hkt; simp at hkt
        · have c0 := hc k hkt
          have d0 := hc' k hkt
          have q1 : (k : Int) < (n : Int) := by omega
          generalize ts[k] = x at c0 d0
          rw [str] at c0 d0
          clear hc hc' hkt
          go_wp2_with fail
          go_quiet (fail)
          go_wp2_with fail
          go_roundw
          case rel => exact ⟨k + 1, _, by omega, by go_num, rfl⟩
          case measure => simp [intOf]; omega
    · go_wp2_with fail
      go_ret
      exact ⟨rfl, below_drew (Below.refl _ _)⟩
theorem same_calls (ts : List (List UInt8)) (p1 p2 : Option Addr) (c1 c2 : Nat) (w : World) (h1 : Texts w p1 c1 ts) (h2 : Texts w p2 c2 ts) (hl : ts.length ≤ 1000000) :
    Calls Tryd.prog 11 #[.slice p1 ts.length c1, .slice p2 ts.length c2] w fun e w' => e = .returned (.bool true) ∧ Below w.heap.size w w' := same_at ts _ rfl p1 p2 c1 c2 w h1 h2 hl

end Go.Proofs.YtememmgnhnldaaaDoor.Word

/-
  Layer 17 (runner): New, as a contract.
-/
import Derived.Test.YtciighiecoalmaaRunNew
namespace Go.Proofs.Ytciighiecoalmaa.Run
open Go.RowKit Go.Proofs.Ytciighiecoalmaa.Own Go.Proofs.Ytciighiecoalmaa.Brk Go.Proofs.Ytciighiecoalmaa.Calc

set_option maxRecDepth 100000 in
set_option maxHeartbeats 2000000 in
theorem new_calls (l : List Op) (m : Nat) (hm : l.length = m) (hm2 : m ≤ 1000) (now : Int) (p : Option Addr) (c : Nat) (w : World) (h : Ops w l p c) :
    Calls Try.prog 7 #[.slice p m c, .int .i64 now] w (NewPost l now w) := by
  cases hT : isT now with
  | true => exact callsIn_wide.1 (new_in l m hm hm2 now p c w h hT)
  | false =>
    have HI := Lib.hid (is_calls now)
    rw [hT] at HI
    have HC := Lib.hid (chk_out (l := l) hT)
    have HB := Lib.hid ((((Below.refl w.heap.size w).alloc (Nat.le_refl _) (.cells #[.pointer none] 25)).alloc (by simp) (.cells #[.int .i64 1] 26)))
    clear hT h hm
    go_enter Try.func7, Try.ntmps7
    go_wp2_with (go_at_call 17; refine (HI.out _).mono ?_; rintro e w' ⟨rfl, rfl⟩)
    have g4 := at_cell (at_old (w.alloc (.cells #[.pointer none] 25)) (.cells #[.int .i64 1] 26) (at_new w (.cells #[.pointer none] 25))) 0
    have g5 := at_cell (at_newk (w.alloc (.cells #[.pointer none] 25)) (.cells #[.int .i64 1] 26) (k := w.heap.size + 1) (by simp)) 0
    refine bodyPost_ret (v := .tuple #[.pointer none, .int .i64 1]) ?_ rfl (.inl ⟨by rw [HC.out]; decide, by rw [HC.out], HB.out⟩)
    generalize (w.alloc (.cells #[.pointer none] 25)).alloc (.cells #[.int .i64 1] 26) = WF at *
    simp [results, Try.results7, go_sem, g4, g5]
end Go.Proofs.Ytciighiecoalmaa.Run

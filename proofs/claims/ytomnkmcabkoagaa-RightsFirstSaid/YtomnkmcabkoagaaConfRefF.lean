/-
  Layer 15 (conf): the document's own Find.
-/
import Derived.Test.YtomnkmcabkoagaaConfFindC
namespace Go.Proofs.Ytomnkmcabkoagaa.Conf
open Go.RowKit Go.Proofs.Ytomnkmcabkoagaa.Own Go.Proofs.Ytomnkmcabkoagaa.Rw

set_option maxRecDepth 100000 in
set_option maxHeartbeats 4000000 in
theorem rfind_calls (cs : List Cn) (a : Bs) (p : Option Addr) (k : Nat) (v1 v2 v3 : Value) (b0 b1 b2 b3 b4 b5 b6 b7 b8 b9 : Bs) (n : Nat) (hn : n = cs.length) (w : World) (h : Rd w 10 p k n (cs.flatMap cnv)) :
    Calls Try.prog 39 #[confV (.slice p n k) v1 v2 v3 b0 b1 b2 b3 b4 b5 b6 b7 b8 b9, .string ⟨a.toArray⟩] w fun e w' => e = .returned (.int .i64 (fIdx cs a)) ∧ Below w.heap.size w w' := by
  have HR := Lib.hid h
  have HN := Lib.hid hn
  have hmx := h.max
  have hcp := h.cap
  unfold maxLen at hmx
  clear h hn
  have HB0 := Lib.hid ((Below.refl w.heap.size w).alloc (Nat.le_refl _) (.cells #[.slice p n k, v1, v2, v3, .string ⟨b0.toArray⟩, .string ⟨b1.toArray⟩, .string ⟨b2.toArray⟩, .string ⟨b3.toArray⟩, .string ⟨b4.toArray⟩, .string ⟨b5.toArray⟩, .string ⟨b6.toArray⟩, .string ⟨b7.toArray⟩, .string ⟨b8.toArray⟩, .string ⟨b9.toArray⟩] 28))
  have NB := Lib.hid (at_new w (.cells #[.slice p n k, v1, v2, v3, .string ⟨b0.toArray⟩, .string ⟨b1.toArray⟩, .string ⟨b2.toArray⟩, .string ⟨b3.toArray⟩, .string ⟨b4.toArray⟩, .string ⟨b5.toArray⟩, .string ⟨b6.toArray⟩, .string ⟨b7.toArray⟩, .string ⟨b8.toArray⟩, .string ⟨b9.toArray⟩] 28))
  unfold confV
  go_enter Try.func39, Try.ntmps39
  go_wp2_with fail
  generalize (w.alloc (.cells #[.slice p n k, v1, v2, v3, .string ⟨b0.toArray⟩, .string ⟨b1.toArray⟩, .string ⟨b2.toArray⟩, .string ⟨b3.toArray⟩, .string ⟨b4.toArray⟩, .string ⟨b5.toArray⟩, .string ⟨b6.toArray⟩, .string ⟨b7.toArray⟩, .string ⟨b8.toArray⟩, .string ⟨b9.toArray⟩] 28)) = W at *
  go_loop [5] (fun i => ∃ k : Nat, k ≤ n ∧ i = .int .i64 k ∧ ∀ x ∈ cs.take k, x.name ≠ a) (fun i => n - (Tree.intOf i).toNat)
  case atStart => exact ⟨0, by omega, rfl, fun x hx => by simp at hx⟩
  case round =>
    obtain ⟨kk, hk, rfl, hnone⟩ := hrel
    have cb := (at_cell NB.out 0 : _ = some (Value.slice p n k))
    have HNN := Lib.hid hnone
    clear hnone
    rcases Nat.lt_or_eq_of_le hk with hlt | rfl
    · have hl1 : kk < cs.length := by rw [← HN.out]; exact hlt
      obtain ⟨g, o, rfl, hg, hkn, hat⟩ := con_at (HR.out.below HB0.out) hl1
      obtain ⟨c0, -, -, -, -, -, -, -, -, -⟩ := hat
      have q1 : (kk : Int) < (n : Int) := by omega
      have HY := Lib.hid fun (he : cs[kk].name = a) => (fIdx_at hl1 he HNN.out).1
      have HNO := Lib.hid (show cs[kk].name ≠ a → ∀ x ∈ cs.take (kk + 1), x.name ≠ a by
        intro he x hx
        rw [List.take_succ_eq_append_getElem hl1] at hx
        rcases List.mem_append.1 hx with hx | hx
        · exact HNN.out x hx
        · rw [List.mem_singleton.1 hx]; exact he)
      generalize cs[kk] = y at *
      clear hl1
      by_cases he : y.name = a
      · have b1 : (y.name == a) = true := by simpa using he
        have HF := Lib.hid (HY.out he)
        clear he HY HNO
        go_wp2_with fail
        go_ret
        exact ⟨by rw [HF.out]; rfl, HB0.out⟩
      · have b1 : (y.name == a) = false := by simpa using he
        have HF := Lib.hid (HNO.out he)
        clear he HY HNO
        go_wp2_with fail
        go_round
        case rel => exact ⟨kk + 1, by omega, by go_num, HF.out⟩
        case measure => simp [Tree.intOf]; omega
    · have HF := Lib.hid (fIdx_none (cs := cs) (a := a) (by
        have := HNN.out
        rwa [List.take_of_length_le (by have := HN.out; omega)] at this)).1
      go_wp2_with fail
      go_ret
      exact ⟨by rw [HF.out]; rfl, HB0.out⟩
end Go.Proofs.Ytomnkmcabkoagaa.Conf

/-
  Layer 9 (fault): the line of an error, walked.
-/
import Derived.Test.YtabpkpeonbdinaaDoorErfFaults
namespace Go.Proofs.YtabpkpeonbdinaaDoor.Flt
open Go.RowKit Go.Proofs.YtabpkpeonbdinaaDoor.Own

theorem Err.at_ {w : World} : ∀ {l : List Lay} {N : Nat} {v : Value} {c : Int}, Err w N v l c → ∀ x ∈ l, x.blk < N ∧ ∃ u, w.heap[x.blk]? = some (.cells #[.int .i64 x.line, .string ⟨x.what.toArray⟩, u] 51 (0, 0))
  | [], _, _, _, _ => fun x hx => absurd hx (by simp)
  | y :: r, _, _, _, ⟨_, h2, u, h3, h4⟩ => fun x hx => by
    rcases List.mem_cons.1 hx with rfl | hx
    · exact ⟨h2, u, h3⟩
    · obtain ⟨k1, k2⟩ := Err.at_ h4 x hx
      exact ⟨by omega, k2⟩
theorem ErrN.at_ {w : World} {l : List Lay} {N : Nat} {v : Value} {c : Int} (h : ErrN w N v l c) : ∀ x ∈ l, x.blk < N ∧ ∃ u, w.heap[x.blk]? = some (.cells #[.int .i64 x.line, .string ⟨x.what.toArray⟩, u] 51 (0, 0)) := by
  rcases h with ⟨_, rfl, _⟩ | h
  · intro x hx; exact absurd hx (by simp)
  · exact h.at_
theorem line_at {l : List Lay} {k : Nat} (h : k < l.length) : lineOf (l.drop k) = if 0 < l[k].line then l[k].line else lineOf (l.drop (k + 1)) := by
  rw [List.drop_eq_getElem_cons h, lineOf]

set_option maxRecDepth 100000 in
set_option maxHeartbeats 2000000 in
theorem line_calls (v : Value) (l : List Lay) (c : Int) (N : Nat) (w : World) (h : ErrN w N v l c) (hN : N ≤ w.heap.size) (hT : Tab w) (hl : l.length ≤ 1000000) :
    Calls Tryd.prog 6 #[v] w fun e w' => e = .returned (.int .i64 (lineOf l)) ∧ Below w.heap.size w w' := by
  have HE := Lib.hid h
  have HT := Lib.hid hT
  clear h hT
  go_enter Tryd.func6, Tryd.ntmps6
  go_wp2_with (go_at_call 14; refine (faults_calls _ l c N _ HE.out hN HT.out hl).mono ?_; rintro e w5 ⟨p, cc, rfl, hr, hb⟩)
  have HR := Lib.hid hr
  have HB := Lib.hid hb
  clear hr hb
  go_loop [8] (fun i => ∃ k : Nat, k ≤ l.length ∧ i = .int .i64 k ∧ lineOf l = lineOf (l.drop k)) (fun i => l.length - (intOf i).toNat)
  case atStart => exact ⟨0, by omega, rfl, rfl⟩
  case round =>
    obtain ⟨k, hk, rfl, hd⟩ := hrel
    by_cases hlt : k < l.length
    · have q1 : (k : Int) < (l.length : Int) := by omega
      rcases HR.out.cells with h0 | ⟨b, rfl, hbl, hc⟩
      · have := congrArg List.length h0; rw [pv_len, List.length_nil] at this; omega
      · have c0 := hc k (.pointer (some ⟨l[k].blk, 0, none⟩)) (by simp [pv, hlt])
        obtain ⟨hxb, u, hx⟩ := HE.out.at_ l[k] (List.getElem_mem hlt)
        have c1 := at_cell ((HB.out.block l[k].blk (Nat.lt_of_lt_of_le hxb hN)).trans hx) 0
        have hxl : l[k].blk < w5.heap.size := by have := HB.out.size; omega
        simp only [List.getElem?_toArray, List.getElem?_cons_zero] at c1
        have hs := line_at hlt
        obtain ⟨y, hy⟩ : ∃ y, l[k] = y := ⟨_, rfl⟩
        rw [hy] at c0 c1 hs hxl
        obtain ⟨yb, yl, yw⟩ := y
        simp only at c0 c1 hs hxl
        have HD := Lib.hid hd
        clear hd hc hx hy hxb
        by_cases hp : 0 < yl
        · rw [if_pos hp] at hs
          have HS := Lib.hid hs
          clear hs
          go_wp2_with fail
          go_ret
          exact ⟨by rw [HD.out, HS.out]; rfl, HB.out⟩
        · rw [if_neg hp] at hs
          have HS := Lib.hid hs
          clear hs
          have hp' : yl ≤ 0 := by omega
          clear hp
          go_wp2_with fail
          go_round
          case rel => exact ⟨k + 1, by omega, by go_num, by rw [HD.out, HS.out]⟩
          case measure => simp [intOf]; omega
    · obtain rfl : k = l.length := by omega
      have HD := Lib.hid hd
      clear hd
      go_wp2_with fail
      go_ret
      exact ⟨by rw [HD.out, List.drop_length]; rfl, HB.out⟩
end Go.Proofs.YtabpkpeonbdinaaDoor.Flt

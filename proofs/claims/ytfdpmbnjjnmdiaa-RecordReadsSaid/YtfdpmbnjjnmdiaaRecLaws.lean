/-
  Layer 8 (record): the walks of RecordPuts and RecordReads.
-/
import Derived.Test.YtfdpmbnjjnmdiaaRecWorks
namespace Go.Proofs.Ytfdpmbnjjnmdiaa.Rec
open Go.RowKit Go.Proofs.Ytfdpmbnjjnmdiaa.Sum Go.Proofs.Ytfdpmbnjjnmdiaa.Own

set_option maxRecDepth 100000 in
set_option maxHeartbeats 4000000 in
theorem puts_walk (k a : Int) (b : ByteArray) (w : World) :
    Calls Try.prog 3 #[.agg #[.int .i64 k, .int .i64 a, .string b]] w fun e w' => e = .returned (.bool true) ∧ Below w.heap.size w w' := by
  have HB0 : Hid (Below w.heap.size w (w.alloc (.cells #[.int .i64 k, .int .i64 a, .string b] 23 (0, 0)))) := Lib.hid ((Below.refl _ _).alloc (Nat.le_refl _) _)
  by_cases h1 : (300 < b.size ∧ b.size ≤ 4096) ∨ 4200 < b.size
  · have hh : (300 < b.size ∧ b.size ≤ 4096) ∨ (4096 < b.size ∧ 300 < b.size ∧ 4200 < b.size) := by omega
    clear h1
    rcases hh with ⟨h1, h2⟩ | ⟨h1, h2, h3⟩
    all_goals
      go_enter Try.func3, Try.ntmps3
      go_wp2_with fail
      refine (works_calls _).mono ?_
      rintro e w1 ⟨rfl, hb⟩
      have hB := HB0.out.trans (hb.mono HB0.out.size)
      clear hb
      go_wp2_with fail
      go_ret
      exact ⟨rfl, hB⟩
  · have hb5 : b.size ≤ 4200 := by omega
    have hh : b.size ≤ 300 ∨ (300 < b.size ∧ 4096 < b.size ∧ b.size ≤ 4200) := by omega
    obtain ⟨P, hP⟩ : ∃ P : ByteArray, P = ⟨(putV ⟨k, a, b⟩).toArray⟩ := ⟨_, rfl⟩
    obtain ⟨c, hc⟩ : ∃ c, chk ⟨k, a, b⟩ = c := ⟨_, rfl⟩
    have HP : Hid (∀ W, Calls Try.prog 8 #[.agg #[.int .i64 k, .int .i64 a, .string b]] W fun e w' => e = .returned (.tuple #[.string P, .int .i64 c]) ∧ Below W.heap.size W w') := Lib.hid fun W => (put_calls k a b W).mono fun e w' h => by
      obtain ⟨rfl, hb⟩ := h
      rw [hc, hP]; exact ⟨rfl, hb⟩
    have HR : Hid (∀ W, Calls Try.prog 9 #[.agg #[.int .i64 k, .int .i64 a, .string b]] W fun e w' => e = .returned (.tuple #[.string P, .int .i64 c]) ∧ Below W.heap.size W w') := Lib.hid fun W => (rput_calls k a b W).mono fun e w' h => by
      obtain ⟨rfl, hb⟩ := h
      rw [hc, hP]; exact ⟨rfl, hb⟩
    have HC : Hid (∀ W, Calls Try.prog 10 #[.agg #[.int .i64 k, .int .i64 a, .string b]] W fun e w' => e = .returned (.int .i64 c) ∧ Below W.heap.size W w') := Lib.hid fun W => (check_calls k a b W).mono fun e w' h => by
      obtain ⟨rfl, hb⟩ := h
      rw [hc]; exact ⟨rfl, hb⟩
    have hsz : (c = 0 ∧ ((14 + (b.size : Int)) == (P.size : Int)) = true) ∨ ((c == 0) = false ∧ (c != 0) = true) := by
      by_cases h0 : c = 0
      · refine .inl ⟨h0, ?_⟩
        rw [beq_iff_eq, hP]
        show _ = ((putV ⟨k, a, b⟩).length : Int)
        rw [putV_ok (by rw [hc]; exact h0), bytes_len]
        show _ = ((14 + b.size : Nat) : Int)
        omega
      · exact .inr ⟨by simpa using h0, by simpa using h0⟩
    clear hP hc h1
    have HX0 : Hid ((w.alloc (.cells #[.int .i64 k, .int .i64 a, .string b] 23 (0, 0))).heap[w.heap.size]? = some (.cells #[.int .i64 k, .int .i64 a, .string b] 23 (0, 0))) := Lib.hid (at_new _ _)
    rcases hh with h1 | ⟨h1, h2, h3⟩
    all_goals
      go_enter Try.func3, Try.ntmps3
      go_wp2_with fail
      generalize w.alloc (.cells #[.int .i64 k, .int .i64 a, .string b] 23 (0, 0)) = W at HB0 HX0 ⊢
      refine (HP.out _).mono ?_
      rintro e w1 ⟨rfl, hb⟩
      have HB := Lib.hid (HB0.out.trans (hb.mono HB0.out.size))
      have hX := (hb.block _ (at_lt HX0.out)).trans HX0.out
      clear hb
      obtain ⟨x0, x1, x2⟩ := box3 hX
      have HX := Lib.hid hX
      clear hX
      go_wp2_with fail
      refine (HR.out _).mono ?_
      rintro e w2 ⟨rfl, hb⟩
      replace HB := Lib.hid (HB.out.trans (hb.mono HB.out.size))
      have hX := (hb.block _ (at_lt HX.out)).trans HX.out
      clear hb x0 x1 x2
      obtain ⟨x0, x1, x2⟩ := box3 hX
      replace HX := Lib.hid hX
      clear hX
      go_wp2_with fail
      refine (HC.out _).mono ?_
      rintro e w3 ⟨rfl, hb⟩
      replace HB := Lib.hid (HB.out.trans (hb.mono HB.out.size))
      have hX := (hb.block _ (at_lt HX.out)).trans HX.out
      clear hb x0 x1 x2
      obtain ⟨x0, x1, x2⟩ := box3 hX
      clear hX
      rcases hsz with ⟨rfl, hs⟩ | ⟨hs1, hs2⟩
      · go_wp2_with fail
        refine (len_calls k a b (by omega) _).mono ?_
        rintro e w4 ⟨rfl, hb⟩
        replace HB := Lib.hid (HB.out.trans (hb.mono HB.out.size))
        clear hb
        go_wp2_with fail
        refine (works_calls _).mono ?_
        rintro e w5 ⟨rfl, hb⟩
        replace HB := Lib.hid (HB.out.trans (hb.mono HB.out.size))
        clear hb
        go_wp2_with fail
        go_ret
        exact ⟨rfl, HB.out⟩
      · go_wp2_with fail
        refine (works_calls _).mono ?_
        rintro e w5 ⟨rfl, hb⟩
        replace HB := Lib.hid (HB.out.trans (hb.mono HB.out.size))
        clear hb
        go_wp2_with fail
        go_ret
        exact ⟨rfl, HB.out⟩


def ScanIts (xs : List Itm) (n : Int) (w : World) (e : Ending) (w' : World) : Prop :=
  ∃ p c, e = .returned (.tuple #[.slice p xs.length c, .int .i64 n]) ∧ Its w' xs p c ∧ Below w.heap.size w w'
theorem scan_its {s : ByteArray} {w : World} {e : Ending} {w' : World} {xs : List Itm} {n : Int} (h : ScanPost s w e w') (hs : scan s.data.toList = (xs, n)) : ScanIts xs n w e w' := by
  obtain ⟨v, rfl, ho, hb⟩ := h
  rw [hs] at ho ⊢
  have hf : ∃ p c, v = .slice p xs.length c := by
    rcases ho.2 with ⟨rfl, h0⟩ | ⟨g, cap, cur, rfl, _⟩
    · exact ⟨none, 0, by rw [show xs.length = 0 from h0]⟩
    · exact ⟨_, _, rfl⟩
  obtain ⟨p, c, rfl⟩ := hf
  exact ⟨p, c, rfl, owns_its ho rfl, hb⟩

set_option maxRecDepth 100000 in
set_option maxHeartbeats 4000000 in
theorem reads_walk (s : ByteArray) (w : World) :
    Calls Try.prog 4 #[.string s] w fun e w' => e = .returned (.bool true) ∧ Below w.heap.size w w' := by
  by_cases h1 : 3000 < s.size
  · have hB0 := Below.refl w.heap.size w
    go_enter Try.func4, Try.ntmps4
    go_wp2_with fail
    refine (works_calls _).mono ?_
    rintro e w1 ⟨rfl, hb⟩
    go_wp2_with fail
    go_ret
    exact ⟨rfl, hb⟩
  · have h2 : s.size ≤ 3000 := by omega
    clear h1
    obtain ⟨x, hx⟩ : ∃ x, rdX s.data.toList = x := ⟨_, rfl⟩
    obtain ⟨n, hn⟩ : ∃ n, rdN s.data.toList = n := ⟨_, rfl⟩
    obtain ⟨c, hc⟩ : ∃ c, rdC s.data.toList = c := ⟨_, rfl⟩
    obtain ⟨⟨xs, m⟩, hs⟩ : ∃ r, scan s.data.toList = r := ⟨_, rfl⟩
    obtain ⟨k, a, b⟩ := x
    have HP : Hid (∀ W, Calls Try.prog 12 #[.string s] W fun e w' => e = .returned (.tuple #[.agg #[.int .i64 k, .int .i64 a, .string b], .int .i64 n, .int .i64 c]) ∧ Below W.heap.size W w') := Lib.hid fun W => (read_calls s (by omega) W).mono fun e w' h => by
      obtain ⟨rfl, hb⟩ := h
      rw [hx, hn, hc]; exact ⟨rfl, hb⟩
    have HR : Hid (∀ W, Calls Try.prog 13 #[.string s] W fun e w' => e = .returned (.tuple #[.agg #[.int .i64 k, .int .i64 a, .string b], .int .i64 n, .int .i64 c]) ∧ Below W.heap.size W w') := Lib.hid fun W => (rread_calls s (by omega) W).mono fun e w' h => by
      obtain ⟨rfl, hb⟩ := h
      rw [hx, hn, hc]; exact ⟨rfl, hb⟩
    have HS : Hid (∀ W, Calls Try.prog 14 #[.string s] W (ScanIts xs m W)) := Lib.hid fun W => (scan_calls s (by omega) W).mono fun e w' h => scan_its h hs
    have HT : Hid (∀ W, Calls Try.prog 15 #[.string s] W (ScanIts xs m W)) := Lib.hid fun W => (rscan_calls s (by omega) W).mono fun e w' h => scan_its h hs
    clear hx hn hc hs
    go_enter Try.func4, Try.ntmps4
    go_wp2_with fail
    refine (HP.out _).mono ?_
    rintro e w1 ⟨rfl, hb⟩
    have HB := Lib.hid (hb.alloc hb.size (.cells #[.int .i64 k, .int .i64 a, .string b] 23 (0, 0)))
    have HX := Lib.hid (at_new w1 (.cells #[.int .i64 k, .int .i64 a, .string b] 23 (0, 0)))
    clear hb
    go_wp2_with fail
    generalize w1.alloc (.cells #[.int .i64 k, .int .i64 a, .string b] 23 (0, 0)) = W1 at HB HX ⊢
    generalize w1.heap.size = g1 at *
    refine (HR.out _).mono ?_
    rintro e w2 ⟨rfl, hb⟩
    have n2 := (HB.out.trans (hb.mono HB.out.size)).size
    replace HB := Lib.hid ((HB.out.trans (hb.mono HB.out.size)).alloc n2 (.cells #[.int .i64 k, .int .i64 a, .string b] 23 (0, 0)))
    replace HX := Lib.hid (at_old w2 (.cells #[.int .i64 k, .int .i64 a, .string b] 23 (0, 0)) ((hb.block g1 (at_lt HX.out)).trans HX.out))
    have HY := Lib.hid (at_new w2 (.cells #[.int .i64 k, .int .i64 a, .string b] 23 (0, 0)))
    clear hb n2
    go_wp2_with fail
    generalize w2.alloc (.cells #[.int .i64 k, .int .i64 a, .string b] 23 (0, 0)) = W2 at HB HX HY ⊢
    generalize w2.heap.size = g2 at *
    refine (HS.out _).mono ?_
    rintro e w3 ⟨p, c1, rfl, hI, hb⟩
    replace HX := Lib.hid ((hb.block g1 (at_lt HX.out)).trans HX.out)
    replace HY := Lib.hid ((hb.block g2 (at_lt HY.out)).trans HY.out)
    replace HB := Lib.hid (HB.out.trans (hb.mono HB.out.size))
    have HI := Lib.hid hI
    clear hb hI
    go_wp2_with fail
    refine (HT.out _).mono ?_
    rintro e w4 ⟨q, c2, rfl, hJ, hb⟩
    have hX := (hb.block g1 (at_lt HX.out)).trans HX.out
    have hY := (hb.block g2 (at_lt HY.out)).trans HY.out
    replace HB := Lib.hid (HB.out.trans (hb.mono HB.out.size))
    replace HI := Lib.hid (HI.out.kept hb)
    have HJ := Lib.hid hJ
    clear hb hJ HX HY
    obtain ⟨x0, x1, x2⟩ := box3 hX
    obtain ⟨y0, y1, y2⟩ := box3 hY
    clear hX hY
    go_wp2_with fail
    refine (rsame_calls xs p q c1 c2 _ HI.out HJ.out).mono ?_
    rintro e w5 ⟨rfl, hb⟩
    replace HB := Lib.hid (HB.out.trans (hb.mono HB.out.size))
    clear hb
    go_wp2_with fail
    refine (works_calls _).mono ?_
    rintro e w6 ⟨rfl, hb⟩
    replace HB := Lib.hid (HB.out.trans (hb.mono HB.out.size))
    clear hb
    go_wp2_with fail
    go_ret
    exact ⟨rfl, HB.out⟩

end Go.Proofs.Ytfdpmbnjjnmdiaa.Rec

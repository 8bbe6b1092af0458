/-
  Layer 14 (brk): behind.
-/
import Derived.Test.YtiblmhjlngcidaaBrkOps
import Derived.Deep.QuietTactic
import Derived.BigQuiet
namespace Go.Proofs.Ytiblmhjlngcidaa.Brk
open Go.RowKit Go.Proofs.Ytiblmhjlngcidaa.Digit Go.Proofs.Ytiblmhjlngcidaa.Own

def BPost (w : World) (B : Nat) (acc : List Op) (x : Op) (e : Ending) (w' : World) : Prop := ∃ v, e = .returned v ∧ Mine w' B v (bhd acc x) ∧ Below B w w'

theorem cell_alloc' {w : World} {a : Addr} {x : Value} (h : w.cell? a = some x) (o : Obj) : (w.alloc o).cell? a = some x :=
  (World.cell?_of_block (Below.heap_alloc w o a.block (World.block_lt_of_cell? w a h))).trans h
theorem held6 {w w' : World} {g o b : Nat} {x y z x' y' z' : Value} (hb : Below w.heap.size w w') (hl : g < w.heap.size) (hl' : b < w.heap.size)
    (h0 : w.cell? ⟨g, o, none⟩ = some x) (h1 : w.cell? ⟨g, o + 1, none⟩ = some y) (h2 : w.cell? ⟨g, o + 2, none⟩ = some z)
    (k0 : w.cell? ⟨b, 0, none⟩ = some x') (k1 : w.cell? ⟨b, 1, none⟩ = some y') (k2 : w.cell? ⟨b, 2, none⟩ = some z') :
    Below w.heap.size w w' ∧ w'.cell? ⟨g, o, none⟩ = some x ∧ w'.cell? ⟨g, o + 1, none⟩ = some y ∧ w'.cell? ⟨g, o + 2, none⟩ = some z ∧ w'.cell? ⟨b, 0, none⟩ = some x' ∧ w'.cell? ⟨b, 1, none⟩ = some y' ∧ w'.cell? ⟨b, 2, none⟩ = some z' :=
  ⟨hb, (hb.cell (p := ⟨g, o, none⟩) hl).trans h0, (hb.cell (p := ⟨g, o + 1, none⟩) hl).trans h1, (hb.cell (p := ⟨g, o + 2, none⟩) hl).trans h2,
    (hb.cell (p := ⟨b, 0, none⟩) hl').trans k0, (hb.cell (p := ⟨b, 1, none⟩) hl').trans k1, (hb.cell (p := ⟨b, 2, none⟩) hl').trans k2⟩

set_option maxRecDepth 100000 in
set_option maxHeartbeats 4000000 in
theorem behind_nil (x : Op) (B : Nat) (v : Value) (w : World) (h : Mine w B v []) (hB : B ≤ w.heap.size) :
    Calls Try.prog 17 #[v, .agg #[.int .i64 x.k, .string ⟨x.s.toArray⟩, .int .i64 x.n]] w (BPost w B [] x) := by
  obtain ⟨i0, hi, hz0, hz1, hz2⟩ := info_parts info_op
  obtain ⟨p, c, rfl, hc, hm⟩ := mine_form h
  have HO := Lib.hid h
  unfold maxLen at hm
  have e0 : (([] : List Op).length) = 0 := rfl
  rw [e0] at hc ⊢
  clear h
  go_enter Try.func17, Try.ntmps17
  go_wp2_with fail
  go_quiet (fail)
  have hn0 : ((w.alloc (.cells #[.int .i64 x.k, .string ⟨x.s.toArray⟩, .int .i64 x.n] 32)).drewN nq).heap[w.heap.size]? = some (.cells #[.int .i64 x.k, .string ⟨x.s.toArray⟩, .int .i64 x.n] 32 (0, 0)) := at_new w _
  have HOW := Lib.hid (show ((w.alloc (.cells #[.int .i64 x.k, .string ⟨x.s.toArray⟩, .int .i64 x.n] 32)).drewN nq).ownsRow B 32 3 (.slice p 0 c) 0 [] from World.ownsRow.alloc HO.out _)
  have HBW := Lib.hid (show Below B w ((w.alloc (.cells #[.int .i64 x.k, .string ⟨x.s.toArray⟩, .int .i64 x.n] 32)).drewN nq) from below_drew ((Below.refl B w).alloc hB _))
  generalize (w.alloc (.cells #[.int .i64 x.k, .string ⟨x.s.toArray⟩, .int .i64 x.n] 32)).drewN nq = W at *
  generalize hbb : w.heap.size = b at hn0 ⊢
  clear hbb
  obtain ⟨d0, d1, d2⟩ := row3 hn0
  have hs5 := HBW.out.size
  have hBW : B ≤ W.heap.size := Nat.le_trans hB hs5
  have lb := at_lt hn0
  clear hn0
  go_wp2_with (at_builtin; refine Own.append_any rfl (.tmp 20) (.tmp 22) 23 rfl B 32 i0 _ 3 32 Try.underlying23 hi hz0 hz1 hz2 rfl (by decide) _ _ _ rfl (World.ownsRow.alloc HOW.out _) _ 1 1 [.int .i64 x.k, .string ⟨x.s.toArray⟩, .int .i64 x.n] rfl (fun h => nomatch h) rfl (Own.three_new _ _ _ _ _ _ (by simp)) (by simp [Value.oneCell']) (by unfold maxLen; omega) (by omega) (by simp; omega) ?_; intro v' w1 hown1 hgrow1)
  have M1 := Lib.hid (mine_more (L := []) hown1 rfl)
  have B1 := Lib.hid ((HBW.out.alloc hBW _).grown hgrow1 (by simp; omega) (fun k hk => (World.ownsRow.lt HOW.out k hk).1))
  clear hown1 hgrow1
  go_wp2_with fail
  go_ret
  exact ⟨_, rfl, M1.out, B1.out⟩
set_option maxRecDepth 100000 in
set_option maxHeartbeats 4000000 in
theorem behind_more (L : List Op) (y x : Op) (hL : L.length ≤ 1000000) (B : Nat) (v : Value) (w : World) (h : Mine w B v (L ++ [y])) (hB : B ≤ w.heap.size)
    (hs : y.s.length ≤ 1000000) (hs' : x.s.length ≤ 1000000) (hn : 0 ≤ y.n ∧ y.n ≤ 1099511627776) (hn' : 0 ≤ x.n ∧ x.n ≤ 1099511627776) :
    Calls Try.prog 17 #[v, .agg #[.int .i64 x.k, .string ⟨x.s.toArray⟩, .int .i64 x.n]] w (BPost w B (L ++ [y]) x) := by
  obtain ⟨i0, hi, hz0, hz1, hz2⟩ := info_parts info_op
  obtain ⟨g, c, rfl, hBg, hg, hc, hm, a0, a1, a2, f0, f1, f2⟩ := mine_last h
  have HO := Lib.hid h
  unfold maxLen at hm
  obtain ⟨m, hmm⟩ : ∃ m, L.length = m := ⟨_, rfl⟩
  rw [hmm] at hL hc a0 a1 a2 f0 f1 f2
  obtain ⟨n, hnn⟩ : ∃ n, n = m + 1 := ⟨_, rfl⟩
  have hln : (L ++ [y]).length = n := by rw [List.length_append, List.length_singleton]; omega
  rw [hmm, ← hnn] at HO
  unfold Mine at HO
  rw [hln] at HO
  rw [hmm, ← hnn]
  rw [← hnn] at hc
  have q1 : m < n := by omega
  have q2 : n ≤ 1000001 := by omega
  have q3 : ((n : Int) - 1) = (m : Int) := by omega
  have q4 : decide ((m : Int) < 0) = false := decide_eq_false (by omega)
  have HM := Lib.hid hmm
  have HNN := Lib.hid hnn
  have HLN := Lib.hid hln.symm
  obtain ⟨xk, xs, xn⟩ := x
  obtain ⟨yk, ys, yn⟩ := y
  simp only at a0 a1 a2 hs hs' hn hn'
  have HI := Lib.hid (one_calls ⟨yk, ys, yn⟩ ⟨xk, xs, xn⟩)
  show Calls Try.prog 17 #[.slice (some ⟨g, 0, none⟩) n c, .agg #[.int .i64 xk, .string ⟨xs.toArray⟩, .int .i64 xn]] w _
  obtain ⟨bo, hbo⟩ : ∃ bo, isOne ⟨yk, ys, yn⟩ ⟨xk, xs, xn⟩ = bo := ⟨_, rfl⟩
  rw [hbo] at HI
  have HBO := Lib.hid hbo
  clear hbo h hmm hnn hln
  have HN := Lib.hid (at_new w (.cells #[.int .i64 xk, .string ⟨xs.toArray⟩, .int .i64 xn] 32 (0, 0)))
  have HOB := Lib.hid (World.ownsRow.alloc HO.out (.cells #[.int .i64 xk, .string ⟨xs.toArray⟩, .int .i64 xn] 32 (0, 0)))
  have HBW := Lib.hid ((Below.refl B w).alloc hB (.cells #[.int .i64 xk, .string ⟨xs.toArray⟩, .int .i64 xn] 32 (0, 0)))
  replace a0 := cell_alloc' a0 (.cells #[.int .i64 xk, .string ⟨xs.toArray⟩, .int .i64 xn] 32 (0, 0))
  replace a1 := cell_alloc' a1 (.cells #[.int .i64 xk, .string ⟨xs.toArray⟩, .int .i64 xn] 32 (0, 0))
  replace a2 := cell_alloc' a2 (.cells #[.int .i64 xk, .string ⟨xs.toArray⟩, .int .i64 xn] 32 (0, 0))
  clear f0 f1 f2
  go_enter Try.func17, Try.ntmps17
  go_wp2_with fail
  generalize hW : w.alloc (.cells #[.int .i64 xk, .string ⟨xs.toArray⟩, .int .i64 xn] 32 (0, 0)) = W at HN HOB HBW a0 a1 a2 ⊢
  have hgW : g < W.heap.size := by rw [← hW]; simp; omega
  clear hW
  have hlb := at_lt HN.out
  obtain ⟨d0, d1, d2⟩ := row3 HN.out
  have hgb : g ≠ w.heap.size := by omega
  generalize hbb : w.heap.size = b at HN d0 d1 d2 hlb hgb ⊢
  have hs5 := HBW.out.size
  have hBW : B ≤ W.heap.size := by omega
  clear hbb hB hg
  go_region_held3 (fun w' => Below W.heap.size W w' ∧ w'.cell? ⟨g, m * 3, none⟩ = some (.int .i64 yk) ∧ w'.cell? ⟨g, m * 3 + 1, none⟩ = some (.string ⟨ys.toArray⟩) ∧ w'.cell? ⟨g, m * 3 + 2, none⟩ = some (.int .i64 yn) ∧ w'.cell? ⟨b, 0, none⟩ = some (.int .i64 xk) ∧ w'.cell? ⟨b, 1, none⟩ = some (.string ⟨xs.toArray⟩) ∧ w'.cell? ⟨b, 2, none⟩ = some (.int .i64 xn))
    (first
      | exact held6 (below_drew (Below.refl _ _)) hgW hlb a0 a1 a2 d0 d1 d2
      | exact held6 hb5 hgW hlb a0 a1 a2 d0 d1 d2)
    (first
      | (go_at_call 23; go_split_ands; refine (HI.out _).mono ?_; rintro e w5 ⟨rfl, hb5⟩; replace hb5 := Below.trans (by assumption) (hb5.mono (Below.size (by assumption)))))
  obtain ⟨-, c0, c1, c2, e0, e1, e2⟩ := held6 hb5 hgW hlb a0 a1 a2 d0 d1 d2
  have HOW := Lib.hid (own_below HOB.out hb5)
  have HB5 := Lib.hid (HBW.out.trans (hb5.mono (by omega)))
  have hs6 := hb5.size
  have hg5 : g < w5.heap.size := by omega
  have hb5l : b < w5.heap.size := by omega
  have hB5 : B ≤ w5.heap.size := by omega
  rename_i hH
  clear hH
  clear a0 a1 a2 d0 d1 d2 hb5 HN HOB HBW q4 HO
  cases bo with
  | false =>
    clear c0 c1 c2
    go_wp2_with (at_builtin; refine Own.append_any rfl (.tmp 20) (.tmp 22) 23 rfl B 32 i0 _ 3 32 Try.underlying23 hi hz0 hz1 hz2 rfl (by decide) _ _ _ rfl (World.ownsRow.alloc HOW.out _) _ 1 1 [.int .i64 xk, .string ⟨xs.toArray⟩, .int .i64 xn] rfl (fun h => nomatch h) rfl (Own.three_new _ _ _ _ _ _ (by simp)) (by simp [Value.oneCell']) (by unfold maxLen; omega) (by omega) (by simp; omega) ?_; intro v' w1 hown1 hgrow1)
    have M1 := Lib.hid (mine_more (x := ⟨xk, xs, xn⟩) hown1 HLN.out)
    have B1 := Lib.hid ((HB5.out.alloc hB5 _).grown hgrow1 (by simp; omega) (fun k hk => (World.ownsRow.lt HOW.out k hk).1))
    clear hown1 hgrow1
    go_wp2_with fail
    go_ret
    exact ⟨_, rfl, by rw [bhd_two HBO.out]; exact M1.out, B1.out⟩
  | true =>
    have f0 := World.ownsRow.frozenAt HOW.out (m * 3)
    have f1 := World.ownsRow.frozenAt HOW.out (m * 3 + 1)
    have f2 := World.ownsRow.frozenAt HOW.out (m * 3 + 2)
    have hz : ys.length + xs.length ≤ 2000000 := by omega
    go_wp2_with fail
    go_region
    go_wp2_with fail
    go_region
    go_wp2_with fail
    go_ret
    have s1 := (World.ownsRow.stored HOW.out (m * 3 + 1) (.string ⟨(ys ++ xs).toArray⟩)).1
    rw [← HM.out, ov_set1 L ⟨yk, ys, yn⟩ (ys ++ xs)] at s1
    have s2 := (World.ownsRow.stored s1 (L.length * 3 + 2) (.int .i64 (yn + xn))).1
    rw [ov_set2 L ⟨yk, ys ++ xs, yn⟩ (yn + xn)] at s2
    refine ⟨_, rfl, ?_, ?_⟩
    · rw [bhd_one HBO.out, bytes_add]
      unfold Mine
      rw [show (L ++ [glue ⟨yk, ys, yn⟩ ⟨xk, xs, xn⟩]).length = n by rw [HLN.out]; simp, ← HM.out]
      exact s2
    · exact ((HB5.out.setCell hBg _).setCell hBg _).drew.drew
theorem behind_calls (acc : List Op) (x : Op) (hL : acc.length ≤ 1000000) (B : Nat) (v : Value) (w : World) (h : Mine w B v acc) (hB : B ≤ w.heap.size)
    (hs : ∀ y ∈ acc, y.s.length ≤ 1000000 ∧ 0 ≤ y.n ∧ y.n ≤ 1099511627776) (hs' : x.s.length ≤ 1000000) (hn' : 0 ≤ x.n ∧ x.n ≤ 1099511627776) :
    Calls Try.prog 17 #[v, .agg #[.int .i64 x.k, .string ⟨x.s.toArray⟩, .int .i64 x.n]] w (BPost w B acc x) := by
  rcases snoc_cases acc with rfl | ⟨L, y, rfl⟩
  · exact behind_nil x B v w h hB
  · obtain ⟨a, b⟩ := hs y (by simp)
    exact behind_more L y x (by simp at hL; omega) B v w h hB a hs' b hn'
end Go.Proofs.Ytiblmhjlngcidaa.Brk

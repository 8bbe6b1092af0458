/-
  Layer 14 (brk): the document's own Read, walked.
-/
import Derived.Test.YtiblmhjlngcidaaBrkRefLoop
namespace Go.Proofs.Ytiblmhjlngcidaa.Brk
open Go.RowKit Go.Proofs.Ytiblmhjlngcidaa.Digit Go.Proofs.Ytiblmhjlngcidaa.Own

theorem st_k {x : Op} (h : St x) : x.k = 1 ∨ x.k = 2 ∨ x.k = 3 := by
  rcases h with ⟨c, rfl⟩ | ⟨n, _, _, rfl⟩ | rfl
  · exact .inl rfl
  · exact .inr (.inl rfl)
  · exact .inr (.inr rfl)
/-- the row of ops as it stands behind one more -/
theorem mine_glue {w : World} {B g c n : Nat} {L : List Op} {y x : Op} (h : w.ownsRow B 32 3 (.slice (some ⟨g, 0, none⟩) n c) n (ov (L ++ [y]))) (hn : n = (L ++ [y]).length) (hk : y.k = x.k) :
    Mine (((w.setCell ⟨g, L.length * 3, none⟩ (.int .i64 x.k)).setCell ⟨g, L.length * 3 + 1, none⟩ (.string ⟨(y.s ++ x.s).toArray⟩)).setCell ⟨g, L.length * 3 + 2, none⟩ (.int .i64 (y.n + x.n))) B (.slice (some ⟨g, 0, none⟩) n c) (L ++ [glue y x]) := by
  have s0 := (World.ownsRow.stored h (L.length * 3) (.int .i64 x.k)).1
  rw [ov_set0 L y x.k] at s0
  have s1 := (World.ownsRow.stored s0 (L.length * 3 + 1) (.string ⟨(y.s ++ x.s).toArray⟩)).1
  rw [ov_set1 L ⟨x.k, y.s, y.n⟩ (y.s ++ x.s)] at s1
  have s2 := (World.ownsRow.stored s1 (L.length * 3 + 2) (.int .i64 (y.n + x.n))).1
  rw [ov_set2 L ⟨x.k, y.s ++ x.s, y.n⟩ (y.n + x.n)] at s2
  unfold Mine
  rw [show (L ++ [glue y x]).length = n by rw [hn]; simp]
  rw [show glue y x = ⟨x.k, y.s ++ x.s, y.n + x.n⟩ by rw [glue, hk]]
  exact s2

theorem own_len {w : World} {B n : Nat} {v : Value} {M : List Op} (h : Mine w B v M) (hn : n = M.length) : w.ownsRow B 32 3 v n (ov M) := by rw [hn]; exact h
theorem own_at {w : World} {B g c n q : Nat} {L : List Op} {y : Op} (h : w.ownsRow B 32 3 (.slice (some ⟨g, 0, none⟩) n c) n (ov (L ++ [y]))) (hq : L.length = q) (hn : n = q + 1) :
    w.cell? ⟨g, q * 3, none⟩ = some (.int .i64 y.k) ∧ w.cell? ⟨g, q * 3 + 1, none⟩ = some (.string ⟨y.s.toArray⟩) ∧ w.cell? ⟨g, q * 3 + 2, none⟩ = some (.int .i64 y.n) ∧
      w.frozen? ⟨g, q * 3, none⟩ = false ∧ w.frozen? ⟨g, q * 3 + 1, none⟩ = false ∧ w.frozen? ⟨g, q * 3 + 2, none⟩ = false := by
  obtain ⟨e0, e1, e2⟩ := ov_last L y
  rw [hq] at e0 e1 e2
  exact ⟨(World.ownsRow.cellAt h _ (by omega)).trans e0, (World.ownsRow.cellAt h _ (by omega)).trans e1, (World.ownsRow.cellAt h _ (by omega)).trans e2,
    World.ownsRow.frozenAt h _, World.ownsRow.frozenAt h _, World.ownsRow.frozenAt h _⟩
theorem RdAt.drew {S : List UInt8} {w wr : World} {acc : List Op} {m : List UInt8} {c : Nat} {v : Value} (h : RdAt S w wr acc m c v) : RdAt S w wr.drew acc m c v :=
  ⟨h.own, h.below.drew, h.bd, h.len, h.fit, h.left⟩

set_option maxRecDepth 100000 in
set_option maxHeartbeats 8000000 in
theorem rread_calls (s : List UInt8) (hs : s.length ≤ 1099511627776) (w : World) :
    Calls Try.prog 8 #[.string ⟨s.toArray⟩] w (RPost s w) := by
  obtain ⟨i0, hi, hz0, hz1, hz2⟩ := info_parts info_op
  by_cases hbig : 255 < s.length
  · obtain ⟨e1, e2⟩ := r_big hbig
    have H := Lib.hid (And.intro e1 e2)
    have q : (255 : Int) < (s.length : Int) := by omega
    clear e1 e2 hbig
    go_enter Try.func8, Try.ntmps8
    go_wp2_with fail
    go_ret2
    exact ⟨_, by rw [H.out.1]; rfl, by rw [H.out.2]; exact mine_nil _ _, Below.refl _ _⟩
  · have q : ¬ (255 : Int) < (s.length : Int) := by omega
    have hs2 : s.length ≤ 255 := by omega
    clear hbig
    go_enter Try.func8, Try.ntmps8
    go_wp2_with fail
    go_loopw [0, 4] (fun s' v wr => ∃ (m : List UInt8) (acc : List Op) (c : Nat), s' = .string ⟨m.toArray⟩ ∧ RdAt s w wr acc m c v) (fun s' _ _ => lenOf s')
    case atStart => exact ⟨s, [], 0, rfl, mine_nil _ _, Below.refl _ _, Bd.nil, by omega, hs2, rfl⟩
    case round =>
      obtain ⟨m, acc, c, rfl, C⟩ := hrel
      by_cases h0 : m = []
      · subst h0
        have HC := Lib.hid C
        clear C
        go_wp2_with fail
        go_ret2
        exact HC.out.done
      · have hem : m.isEmpty = false := by simpa using h0
        have hpos : 0 < m.length := List.length_pos_iff.2 h0
        have hml : m.length ≤ 255 := by have := C.len; have := C.fit; omega
        have hz : (⟨m.toArray⟩ : ByteArray).size = m.length := List.size_toArray ..
        have HF := Lib.hid (rone_calls ⟨m.toArray⟩ (by omega))
        rw [show (⟨m.toArray⟩ : ByteArray).data.toList = m from rfl] at HF
        have HM := Lib.hid h0
        have HC := Lib.hid C
        have hbs := C.below.size
        clear hz h0 C
        obtain ⟨r, hr⟩ : ∃ r, one m = r := ⟨_, rfl⟩
        rw [hr] at HF
        obtain ⟨x, k⟩ := r
        have HR := Lib.hid hr
        unfold ropE at HF
        simp only at HF
        clear hr
        by_cases hk : k = 0
        · subst hk
          go_wp2_with (go_at_call 19; refine (HF.out _).mono ?_; rintro e w5 ⟨rfl, hb⟩)
          go_ret2
          exact HC.out.bad HM.out (by rw [HR.out]) ((HC.out.below.trans (hb.mono hbs)).alloc (Nat.le_trans hbs hb.size) _)
        · obtain ⟨s1, s2, s3⟩ := one_yes (l := m) (by rw [HR.out]; exact hk)
          rw [HR.out] at s1 s2 s3
          simp only at s1 s2 s3
          have hk0 : ((k : Int) == 0) = false := by simpa using hk
          have hcut := cut_drop m k s3
          have hxk := st_k s1
          have HS := Lib.hid s1
          have HK := Lib.hid hk
          clear s1 hk
          obtain ⟨xk, xs, xn⟩ := x
          simp only at hxk
          rcases snoc_cases acc with rfl | ⟨L, y, rfl⟩
          · obtain ⟨p, pc, hpv, hpc, hpm⟩ := mine_form HC.out.own
            rw [show ([] : List Op).length = 0 from rfl] at hpv hpc
            subst hpv
            unfold maxLen at hpm
            have OWN := Lib.hid HC.out.own
            go_wp2_with fail
            refine (HF.out _).mono ?_
            rintro e w5 ⟨rfl, hb5⟩
            have hn0 := at_new w5 (.cells #[.int .i64 xk, .string ⟨xs.toArray⟩, .int .i64 xn] 32 (0, 0))
            have HOW := Lib.hid (World.ownsRow.alloc (own_below OWN.out hb5) (.cells #[.int .i64 xk, .string ⟨xs.toArray⟩, .int .i64 xn] 32 (0, 0)))
            have HWR := Lib.hid ((hb5.mono hbs).alloc (Nat.le_trans hbs hb5.size) (.cells #[.int .i64 xk, .string ⟨xs.toArray⟩, .int .i64 xn] 32 (0, 0)))
            have hs5 := hb5.size
            clear hb5
            go_wp2_with fail
            generalize w5.alloc (.cells #[.int .i64 xk, .string ⟨xs.toArray⟩, .int .i64 xn] 32 (0, 0)) = W at *
            generalize w5.heap.size = b at *
            obtain ⟨d0, d1, d2⟩ := row3 hn0
            have lb := at_lt hn0
            have HN0 := Lib.hid hn0
            have hsW := HWR.out.size
            have hBW : w.heap.size ≤ W.heap.size := by omega
            clear hn0
            go_quiet (fail)
            have HOQ := Lib.hid (show (W.drewN nq).ownsRow w.heap.size 32 3 (.slice p 0 pc) 0 (ov []) from HOW.out)
            have HWQ := Lib.hid (show Below w.heap.size wr (W.drewN nq) from below_drew HWR.out)
            have hQ : w.heap.size ≤ (W.drewN nq).heap.size := hBW
            have hd : (W.drewN nq).heap[b]? = some (.cells #[.int .i64 xk, .string ⟨xs.toArray⟩, .int .i64 xn] 32 (0, 0)) := HN0.out
            clear d0 d1 d2 lb HOW HWR HN0 hBW hsW
            generalize W.drewN nq = Q at HOQ HWQ hQ hd ⊢
            obtain ⟨d0, d1, d2⟩ := row3 hd
            have lb := at_lt hd
            clear hd
            go_wp2_with (at_builtin; refine Own.append_any rfl (.tmp 65) (.tmp 67) 23 rfl w.heap.size 32 i0 _ 3 32 Try.underlying23 hi hz0 hz1 hz2 rfl (by decide) _ _ _ rfl (World.ownsRow.alloc HOQ.out _) _ 1 1 [.int .i64 xk, .string ⟨xs.toArray⟩, .int .i64 xn] rfl (fun h => nomatch h) rfl (Own.three_new _ _ _ _ _ _ (by simp)) (by simp [Value.oneCell']) (by unfold maxLen; omega) (by omega) (by simp; omega) ?_; intro v' w1 hown1 hgrow1)
            have M1 := mine_more (x := ⟨xk, xs, xn⟩) hown1 rfl
            have C1 := Lib.hid (HC.out.step (by rw [HR.out]; exact HK.out) (v' := v') (w5 := w1) (by rw [HR.out]; rw [bhd_nil]; exact M1) ((HWQ.out.alloc hQ _).grown hgrow1 (by simp; omega) (fun k hk => (World.ownsRow.lt HOQ.out k hk).1)))
            rw [HR.out] at C1
            clear M1 hown1 hgrow1
            go_wp2_with fail
            go_roundw
            case rel => exact ⟨_, _, _, rfl, C1.out⟩
            case measure => show (m.drop k).toArray.size < m.toArray.size; rw [List.size_toArray, List.size_toArray, List.length_drop]; omega
          · have hbd := bd_each HC.out.bd (by have := HC.out.len; have := HC.out.fit; omega) y (by simp)
            have hLl : L.length ≤ 255 := by have h9 := HC.out.bd.len; have := HC.out.len; have := HC.out.fit; rw [List.length_append, List.length_singleton] at h9; omega
            obtain ⟨g, pc, hpv, hgB, hgl, hpc, hpm, a0, a1, a2, -, -, -⟩ := mine_last HC.out.own
            obtain ⟨q0, hmm⟩ : ∃ q0, L.length = q0 := ⟨_, rfl⟩
            rw [hmm] at hLl hpc a0 a1 a2 hpv
            obtain ⟨n, hnn⟩ : ∃ n, n = q0 + 1 := ⟨_, rfl⟩
            rw [← hnn] at hpc hpv
            subst hpv
            unfold maxLen at hpm
            have u1 : q0 < n := by omega
            have u2 : n ≤ 256 := by omega
            have u3 : ((n : Int) - 1) = (q0 : Int) := by omega
            have u4 : decide ((0 : Int) ≤ (q0 : Int)) = true := decide_eq_true (by omega)
            have u5 : (0 : Int) ≤ (q0 : Int) := by omega
            have HLN := Lib.hid (show n = (L ++ [y]).length by rw [List.length_append, List.length_singleton]; omega)
            have HLQ := Lib.hid hmm
            obtain ⟨yk, ys, yn⟩ := y
            simp only at a0 a1 a2 hbd
            obtain ⟨hys, hyn0, hyn1⟩ := hbd
            have hxs := HS.out.cst
            have hxp := HS.out.ok.pos
            simp only at hxs hxp
            clear hmm hnn
            have OWN := Lib.hid (own_len HC.out.own HLN.out)
            go_wp2_with fail
            refine (HF.out _).mono ?_
            rintro e w5 ⟨rfl, hb5⟩
            have hn0 := at_new w5 (.cells #[.int .i64 xk, .string ⟨xs.toArray⟩, .int .i64 xn] 32 (0, 0))
            have HOW := Lib.hid (World.ownsRow.alloc (own_below OWN.out hb5) (.cells #[.int .i64 xk, .string ⟨xs.toArray⟩, .int .i64 xn] 32 (0, 0)))
            have HWR := Lib.hid ((hb5.mono hbs).alloc (Nat.le_trans hbs hb5.size) (.cells #[.int .i64 xk, .string ⟨xs.toArray⟩, .int .i64 xn] 32 (0, 0)))
            have hs5 := hb5.size
            clear hb5
            go_wp2_with fail
            generalize w5.alloc (.cells #[.int .i64 xk, .string ⟨xs.toArray⟩, .int .i64 xn] 32 (0, 0)) = W at *
            generalize w5.heap.size = b at *
            obtain ⟨d0, d1, d2⟩ := row3 hn0
            have lb := at_lt hn0
            have HN0 := Lib.hid hn0
            have hsW := HWR.out.size
            have hBW : w.heap.size ≤ W.heap.size := by omega
            clear hn0
            obtain ⟨c0, c1, c2, f0, f1, f2⟩ := own_at HOW.out HLQ.out (by rw [HLN.out, List.length_append, List.length_singleton, HLQ.out])
            clear a0 a1 a2
            by_cases h3 : xk = 3
            · have v1 : decide (xk < 3) = false := decide_eq_false (by omega)
              have v2 : ¬ xk < 3 := by omega
              have HI := Lib.hid (show isOne ⟨yk, ys, yn⟩ ⟨xk, xs, xn⟩ = false by simp only [isOne]; rw [h3]; by_cases e : yk = 3 <;> simp [e])
              clear h3 hxk
              go_quiet (fail)
              have HOQ := Lib.hid (show (W.drewN nq).ownsRow w.heap.size 32 3 (.slice (some ⟨g, 0, none⟩) n pc) n (ov (L ++ [⟨yk, ys, yn⟩])) from HOW.out)
              have HWQ := Lib.hid (show Below w.heap.size wr (W.drewN nq) from below_drew HWR.out)
              have hQ : w.heap.size ≤ (W.drewN nq).heap.size := hBW
              have hd : (W.drewN nq).heap[b]? = some (.cells #[.int .i64 xk, .string ⟨xs.toArray⟩, .int .i64 xn] 32 (0, 0)) := HN0.out
              clear d0 d1 d2 lb HOW HWR HN0 hBW hsW c0 c1 c2 f0 f1 f2
              generalize W.drewN nq = Q at HOQ HWQ hQ hd ⊢
              obtain ⟨d0, d1, d2⟩ := row3 hd
              have lb := at_lt hd
              clear hd
              go_wp2_with (at_builtin; refine Own.append_any rfl (.tmp 65) (.tmp 67) 23 rfl w.heap.size 32 i0 _ 3 32 Try.underlying23 hi hz0 hz1 hz2 rfl (by decide) _ _ _ rfl (World.ownsRow.alloc HOQ.out _) _ 1 1 [.int .i64 xk, .string ⟨xs.toArray⟩, .int .i64 xn] rfl (fun h => nomatch h) rfl (Own.three_new _ _ _ _ _ _ (by simp)) (by simp [Value.oneCell']) (by unfold maxLen; omega) (by omega) (by simp; omega) ?_; intro v' w1 hown1 hgrow1)
              have M1 := mine_more (x := ⟨xk, xs, xn⟩) hown1 HLN.out
              have C1 := Lib.hid (HC.out.step (by rw [HR.out]; exact HK.out) (v' := v') (w5 := w1) (by rw [HR.out]; rw [bhd_two HI.out]; exact M1) ((HWQ.out.alloc hQ _).grown hgrow1 (by simp; omega) (fun k hk => (World.ownsRow.lt HOQ.out k hk).1)))
              rw [HR.out] at C1
              clear M1 hown1 hgrow1
              go_wp2_with fail
              go_roundw
              case rel => exact ⟨_, _, _, rfl, C1.out⟩
              case measure => show (m.drop k).toArray.size < m.toArray.size; rw [List.size_toArray, List.size_toArray, List.length_drop]; omega
            · have v1 : decide (xk < 3) = true := decide_eq_true (by omega)
              have v2 : xk < 3 := by omega
              by_cases he : yk = xk
              · have v3 : (yk == xk) = true := by simpa using he
                have HI := Lib.hid (show isOne ⟨yk, ys, yn⟩ ⟨xk, xs, xn⟩ = true by simp only [isOne]; simp [he, h3])
                have HE := Lib.hid he
                clear h3 hxk he
                go_quiet (fail)
                have HOQ := Lib.hid (show (W.drewN nq).ownsRow w.heap.size 32 3 (.slice (some ⟨g, 0, none⟩) n pc) n (ov (L ++ [⟨yk, ys, yn⟩])) from HOW.out)
                have HWQ := Lib.hid (show Below w.heap.size wr (W.drewN nq) from below_drew HWR.out)
                have hd : (W.drewN nq).heap[b]? = some (.cells #[.int .i64 xk, .string ⟨xs.toArray⟩, .int .i64 xn] 32 (0, 0)) := HN0.out
                clear d0 d1 d2 lb HOW HWR HN0 hBW hsW c0 c1 c2 f0 f1 f2
                generalize W.drewN nq = Q at HOQ HWQ hd ⊢
                obtain ⟨d0, d1, d2⟩ := row3 hd
                have lb := at_lt hd
                obtain ⟨c0, c1, c2, f0, f1, f2⟩ := own_at HOQ.out HLQ.out (by rw [HLN.out, List.length_append, List.length_singleton, HLQ.out])
                have hgQ := World.block_lt_of_cell? _ _ c0
                clear hd
                have hyx : ys.length + xs.length ≤ 1000 := by omega
                go_wp2_with fail
                go_region
                go_wp2_with fail
                have M1 := mine_glue (x := ⟨xk, xs, xn⟩) HOQ.out HLN.out HE.out
                rw [HLQ.out] at M1
                have C1 := Lib.hid (HC.out.step (by rw [HR.out]; exact HK.out) (by rw [HR.out]; rw [bhd_one HI.out]; exact M1) (((HWQ.out.setCell (p := ⟨_, _, _⟩) hgB _).setCell (p := ⟨_, _, _⟩) hgB _).setCell (p := ⟨_, _, _⟩) hgB _))
                rw [HR.out] at C1
                clear M1
                go_roundw
                case rel => exact ⟨_, _, _, rfl, by rw [bytes_add]; exact C1.out.drew⟩
                case measure => show (m.drop k).toArray.size < m.toArray.size; rw [List.size_toArray, List.size_toArray, List.length_drop]; omega
              · have v3 : (yk == xk) = false := by simpa using he
                have HI := Lib.hid (show isOne ⟨yk, ys, yn⟩ ⟨xk, xs, xn⟩ = false by simp only [isOne]; simp [he])
                clear h3 hxk he
                go_quiet (fail)
                have HOQ := Lib.hid (show (W.drewN nq).ownsRow w.heap.size 32 3 (.slice (some ⟨g, 0, none⟩) n pc) n (ov (L ++ [⟨yk, ys, yn⟩])) from HOW.out)
                have HWQ := Lib.hid (show Below w.heap.size wr (W.drewN nq) from below_drew HWR.out)
                have hQ : w.heap.size ≤ (W.drewN nq).heap.size := hBW
                have hd : (W.drewN nq).heap[b]? = some (.cells #[.int .i64 xk, .string ⟨xs.toArray⟩, .int .i64 xn] 32 (0, 0)) := HN0.out
                clear d0 d1 d2 lb HOW HWR HN0 hBW hsW c0 c1 c2 f0 f1 f2
                generalize W.drewN nq = Q at HOQ HWQ hQ hd ⊢
                obtain ⟨d0, d1, d2⟩ := row3 hd
                have lb := at_lt hd
                clear hd
                go_wp2_with (at_builtin; refine Own.append_any rfl (.tmp 65) (.tmp 67) 23 rfl w.heap.size 32 i0 _ 3 32 Try.underlying23 hi hz0 hz1 hz2 rfl (by decide) _ _ _ rfl (World.ownsRow.alloc HOQ.out _) _ 1 1 [.int .i64 xk, .string ⟨xs.toArray⟩, .int .i64 xn] rfl (fun h => nomatch h) rfl (Own.three_new _ _ _ _ _ _ (by simp)) (by simp [Value.oneCell']) (by unfold maxLen; omega) (by omega) (by simp; omega) ?_; intro v' w1 hown1 hgrow1)
                have M1 := mine_more (x := ⟨xk, xs, xn⟩) hown1 HLN.out
                have C1 := Lib.hid (HC.out.step (by rw [HR.out]; exact HK.out) (v' := v') (w5 := w1) (by rw [HR.out]; rw [bhd_two HI.out]; exact M1) ((HWQ.out.alloc hQ _).grown hgrow1 (by simp; omega) (fun k hk => (World.ownsRow.lt HOQ.out k hk).1)))
                rw [HR.out] at C1
                clear M1 hown1 hgrow1
                go_wp2_with fail
                go_roundw
                case rel => exact ⟨_, _, _, rfl, C1.out⟩
                case measure => show (m.drop k).toArray.size < m.toArray.size; rw [List.size_toArray, List.size_toArray, List.length_drop]; omega
end Go.Proofs.Ytiblmhjlngcidaa.Brk

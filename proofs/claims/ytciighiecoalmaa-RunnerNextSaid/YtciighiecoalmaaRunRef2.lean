/-
  Layer 17 (runner): the document's own Due, Next, walked.
-/
import Derived.Test.YtciighiecoalmaaRunRef
namespace Go.Proofs.Ytciighiecoalmaa.Run
open Go.RowKit Go.Proofs.Ytciighiecoalmaa.Own Go.Proofs.Ytciighiecoalmaa.Brk Go.Proofs.Ytciighiecoalmaa.Calc

theorem dues_drop {a : Int} {l r : List Op} {x : Op} (h : l = x :: r) : dues a l = if x.k = 2 then dues (a + x.n) r else (a, x) :: dues (a + x.n) r := by rw [h, dues]
theorem told_cons {p : Int × Op} {D : List (Int × Op)} {a b : Int} (h : a < p.1) (h2 : p.1 ≤ b) : told (p :: D) a b = p.2 :: told D a b := by
  unfold told; rw [List.filter_cons, if_pos (by simp; omega), List.map_cons]
theorem told_skip {p : Int × Op} {D : List (Int × Op)} {a b : Int} (h : p.1 ≤ a ∨ b < p.1) : told (p :: D) a b = told D a b := by
  unfold told; rw [List.filter_cons, if_neg (by simp; omega)]
/-- how far Due has come -/
structure DueAt (l : List Op) (start behind now : Int) (w wr : World) (v : Value) (a : Int) (k : Nat) (acc : List Op) : Prop where
  own : Mine wr w.heap.size v acc
  below : Below w.heap.size w wr
  len : acc.length ≤ k
  tick : isT a = true
  good : go a (l.drop k) = 0
  left : acc ++ told (dues a (l.drop k)) behind now = told (dues start l) behind now
theorem DueAt.skip {l : List Op} {start behind now : Int} {w wr wr' : World} {v : Value} {a : Int} {k : Nat} {acc : List Op} {x : Op} (h : DueAt l start behind now w wr v a k acc) (e : l.drop k = x :: l.drop (k + 1))
    (hs : x.k = 2 ∨ a ≤ behind ∨ now < a) (hb : Below wr.heap.size wr wr') : DueAt l start behind now w wr' v (a + x.n) (k + 1) acc := by
  have hg := h.good
  rw [e] at hg
  obtain ⟨h1, h2⟩ := go_inv hg
  refine ⟨mine_below h.own hb, h.below.trans (hb.mono h.below.size), by have := h.len; omega, ov_tick h1, h2, ?_⟩
  rw [← h.left, e]
  by_cases hk : x.k = 2
  · rw [dues_wait hk]
  · rw [dues_one hk, told_skip (hs.resolve_left hk)]
theorem DueAt.take {l : List Op} {start behind now : Int} {w wr wr' : World} {v v' : Value} {a : Int} {k : Nat} {acc : List Op} {x : Op} (h : DueAt l start behind now w wr v a k acc) (e : l.drop k = x :: l.drop (k + 1))
    (hk : x.k ≠ 2) (h1 : behind < a) (h2 : a ≤ now) (ho : Mine wr' w.heap.size v' (acc ++ [x])) (hb : Below w.heap.size w wr') : DueAt l start behind now w wr' v' (a + x.n) (k + 1) (acc ++ [x]) := by
  have hg := h.good
  rw [e] at hg
  obtain ⟨g1, g2⟩ := go_inv hg
  refine ⟨ho, hb, by have := h.len; simp; omega, ov_tick g1, g2, ?_⟩
  rw [← h.left, e, dues_one hk, told_cons h1 h2, List.append_assoc]; rfl
def DuePost (l : List Op) (start behind now : Int) (w : World) (e : Ending) (w' : World) : Prop := ∃ v, e = .returned v ∧ Mine w' w.heap.size v (told (dues start l) behind now) ∧ Below w.heap.size w w'
theorem mine_m {w : World} {B m : Nat} {v : Value} {L : List Op} (h : Mine w B v L) (hm : L.length = m) : w.ownsRow B 42 3 v m (ov L) := by subst hm; exact h
theorem mine_nil (w : World) (B : Nat) : Mine w B (.slice none 0 0) [] := World.ownsRow_nil _ _ _ _

set_option maxRecDepth 100000 in
set_option maxHeartbeats 4000000 in
theorem rdue_calls (l : List Op) (n : Nat) (hn : l.length = n) (hn2 : n ≤ 1000) (start behind now : Int) (hT : isT start = true) (hg : go start l = 0) (p : Option Addr) (c : Nat) (w : World) (h : Ops w l p c) :
    Calls Try.prog 16 #[.slice p n c, .int .i64 start, .int .i64 behind, .int .i64 now] w (DuePost l start behind now w) := by
  obtain ⟨i0, hi, hz0, hz1, hz2⟩ := info_parts info_op
  have hcap := h.cap
  have hmax := h.max
  unfold maxLen at hmax
  have q2 : (n : Int) ≤ 9223372036854775807 := by omega
  have HH := Lib.hid h
  have HN := Lib.hid hn
  have HT := Lib.hid hT
  have HG0 := Lib.hid hg
  clear h hT hg
  go_enter Try.func16, Try.ntmps16
  go_wp2_with fail
  go_loopw [9, 10, 11] (fun v u i wr => ∃ (k : Nat) (a : Int) (acc : List Op), k ≤ n ∧ i = .int .i64 k ∧ u = .int .i64 a ∧ DueAt l start behind now w wr v a k acc) (fun _ _ i _ => n - (intOf i).toNat)
  case atStart => exact ⟨0, start, [], Nat.zero_le _, rfl, rfl, mine_nil _ _, Below.refl _ _, Nat.le_refl _, HT.out, HG0.out, rfl⟩
  case round =>
    obtain ⟨k, a, acc, hk, rfl, rfl, C⟩ := hrel
    rcases Nat.lt_or_eq_of_le hk with hlt | rfl
    · have hkl : k < l.length := by rw [HN.out]; exact hlt
      rcases HH.out.cells with h0 | ⟨b, o, rfl, hbl, hc⟩
      · rw [h0] at hkl; simp at hkl
      · obtain ⟨c0, c1, c2⟩ := hc k hkl
        rw [← C.below.cell (p := ⟨b, _, none⟩) hbl] at c0 c1 c2
        have q1 : (k : Int) < (n : Int) := by omega
        have HD := Lib.hid (drop_at hkl)
        have g2 := C.good
        rw [HD.out] at g2
        obtain ⟨i1, i2⟩ := go_inv g2
        have i3 := ov_tick i1
        obtain ⟨j0, j1⟩ := isT_iff.1 i3
        obtain ⟨j2, j3⟩ := isT_iff.1 C.tick
        have hz := is_nought (ov_inv i1).1
        have hlen := C.len
        generalize l[k] = x at *
        have HC := Lib.hid C
        clear hc C g2 i1 i2 i3
        obtain ⟨xk, xs, xn⟩ := x
        simp only at c0 c1 c2 j0 j1 hz
        by_cases hk2 : xk = 2
        · subst hk2
          have HS := Lib.hid (fun (wr' : World) (hb : Below _ _ wr') => HC.out.skip HD.out (.inl rfl) hb)
          clear hz
          go_wp2_with fail
          go_roundw
          case rel => exact ⟨k + 1, _, _, by omega, by go_num, rfl, HS.out _ (Below.refl _ _)⟩
          case measure => simp [intOf]; omega
        · obtain rfl := hz hk2
          have k2 : (xk == 2) = false := by simpa using hk2
          have HK := Lib.hid hk2
          clear hz hk2
          rw [Int.add_zero] at j0 j1
          by_cases hb1 : behind < a
          · by_cases hb2 : a ≤ now
            · have HO := Lib.hid HC.out.own
              have hsz := HC.out.below.size
              obtain ⟨m, hm⟩ : ∃ m, acc.length = m := ⟨_, rfl⟩
              have hml : m ≤ k := by omega
              have HM := Lib.hid hm
              have HO2 := Lib.hid (mine_m HO.out hm)
              clear hm hlen
              go_wp2_with (at_builtin; go_loud (refine Own.append_any rfl (.tmp 42) (.tmp 47) 22 rfl w.heap.size 42 i0 _ 3 32 Try.underlying22 hi hz0 hz1 hz2 rfl (by decide) _ _ _ rfl (World.ownsRow.alloc HO2.out _) _ 1 1 [.int .i64 xk, .string ⟨xs.toArray⟩, .int .i64 0] rfl (fun h => nomatch h) rfl (Own.three_new _ _ _ _ _ _ (by simp)) (by simp [Value.oneCell']) (by unfold maxLen; omega) (by omega) (by simp; omega) ?_; intro v' w1 hown hgr; have C1 := Lib.hid (HC.out.take HD.out HK.out hb1 hb2 (mine_more (x := ⟨xk, xs, 0⟩) hown HM.out.symm) ((HC.out.below.alloc hsz _).grown hgr (by simp; omega) (fun k hk => (World.ownsRow.lt HO2.out k hk).1))); clear hown hgr))
              go_roundw
              case rel => exact ⟨k + 1, _, _, by omega, by go_num, rfl, by simpa using C1.out⟩
              case measure => simp [intOf]; omega
            · have HS := Lib.hid (fun (wr' : World) (hb : Below _ _ wr') => HC.out.skip HD.out (.inr (.inr (by omega))) hb)
              have hb3 : decide (a ≤ now) = false := by simpa using hb2
              go_wp2_with fail
              go_roundw
              case rel => exact ⟨k + 1, _, _, by omega, by go_num, rfl, by simpa using HS.out _ (Below.refl _ _)⟩
              case measure => simp [intOf]; omega
          · have HS := Lib.hid (fun (wr' : World) (hb : Below _ _ wr') => HC.out.skip HD.out (.inr (.inl (by omega))) hb)
            have hb3 : decide (behind < a) = false := by simpa using hb1
            go_wp2_with fail
            go_roundw
            case rel => exact ⟨k + 1, _, _, by omega, by go_num, rfl, by simpa using HS.out _ (Below.refl _ _)⟩
            case measure => simp [intOf]; omega
    · have HE := Lib.hid C.left
      have HO := Lib.hid C.own
      have HB := Lib.hid C.below
      clear C
      go_wp2_with fail
      go_ret
      have he := HE.out
      rw [List.drop_eq_nil_of_le (by rw [HN.out]; exact Nat.le_refl _)] at he
      refine ⟨_, rfl, ?_, HB.out⟩
      rw [← he]
      show Mine _ _ _ (acc ++ [])
      rw [List.append_nil]; exact HO.out

/-- when there is something to do next -/
def NxAt (l : List Op) (start behind : Int) (a : Int) (k : Nat) : Prop := isT a = true ∧ go a (l.drop k) = 0 ∧ rest (dues a (l.drop k)) behind = rest (dues start l) behind ∧ ends a (l.drop k) = ends start l
theorem NxAt.skip {l : List Op} {start behind a : Int} {k : Nat} {x : Op} (h : NxAt l start behind a k) (e : l.drop k = x :: l.drop (k + 1)) (hs : x.k = 2 ∨ a ≤ behind) : NxAt l start behind (a + x.n) (k + 1) := by
  obtain ⟨h1, h2, h3, h4⟩ := h
  rw [e] at h2 h3 h4
  obtain ⟨g1, g2⟩ := go_inv h2
  refine ⟨ov_tick g1, g2, ?_, h4⟩
  rw [← h3]
  by_cases hk : x.k = 2
  · rw [dues_wait hk]
  · rw [dues_one hk]
    have := hs.resolve_left hk
    unfold rest; rw [List.filter_cons, if_neg (by simp; omega)]
def nxB (E was : Int) : Bool := decide (was < E)
theorem NxAt.found {l : List Op} {start behind a : Int} {k : Nat} {x : Op} (h : NxAt l start behind a k) (e : l.drop k = x :: l.drop (k + 1)) (hk : x.k ≠ 2) (hb : behind < a) : nxV (dues start l) (ends start l) behind = a ∧ nxB (ends start l) behind = true := by
  obtain ⟨h1, h2, h3, h4⟩ := h
  have hE := ends_ge h2
  rw [e] at h3
  rw [dues_one hk] at h3
  unfold rest at h3; rw [List.filter_cons, if_pos (by simpa using hb)] at h3
  rw [h4] at hE
  exact ⟨nx_some (by omega) h3.symm, by unfold nxB; simp; omega⟩
theorem NxAt.end_ {l : List Op} {start behind a : Int} {k : Nat} (h : NxAt l start behind a k) (hk : l.length ≤ k) : ends start l = a ∧ rest (dues start l) behind = [] := by
  obtain ⟨h1, h2, h3, h4⟩ := h
  rw [List.drop_eq_nil_of_le hk] at h3 h4
  exact ⟨h4.symm, h3.symm⟩
theorem ret_nx {a b : Int} {p q : Bool} (h : a = b) (g : p = q) : Ending.returned (.tuple #[.int .i64 a, .bool p]) = .returned (.tuple #[.int .i64 b, .bool q]) := by rw [h, g]

set_option maxRecDepth 100000 in
set_option maxHeartbeats 4000000 in
theorem rnext_calls (l : List Op) (n : Nat) (hn : l.length = n) (start behind : Int) (hT : isT start = true) (hg : go start l = 0) (p : Option Addr) (c : Nat) (w : World) (h : Ops w l p c) :
    Calls Try.prog 12 #[.slice p n c, .int .i64 start, .int .i64 behind] w fun e w' => e = .returned (.tuple #[.int .i64 (nxV (dues start l) (ends start l) behind), .bool (nxB (ends start l) behind)]) ∧ w = w' := by
  have hcap := h.cap
  have hmax := h.max
  unfold maxLen at hmax
  have q2 : (n : Int) ≤ 9223372036854775807 := by omega
  have HH := Lib.hid h
  have HN := Lib.hid hn
  have HT := Lib.hid hT
  have HG0 := Lib.hid hg
  clear h hT hg
  go_enter Try.func12, Try.ntmps12
  go_wp2_with fail
  go_loopw [8, 9] (fun u i wr => ∃ (k : Nat) (a : Int), k ≤ n ∧ i = .int .i64 k ∧ u = .int .i64 a ∧ Hid (NxAt l start behind a k) ∧ wr = w) (fun _ i _ => n - (intOf i).toNat)
  case atStart => exact ⟨0, start, Nat.zero_le _, rfl, rfl, Lib.hid ⟨HT.out, HG0.out, rfl, rfl⟩, rfl⟩
  case round =>
    obtain ⟨k, a, hk, rfl, rfl, HC, rfl⟩ := hrel
    rcases Nat.lt_or_eq_of_le hk with hlt | rfl
    · have hkl : k < l.length := by rw [HN.out]; exact hlt
      rcases HH.out.cells with h0 | ⟨b, o, rfl, hbl, hc⟩
      · rw [h0] at hkl; simp at hkl
      · obtain ⟨c0, c1, c2⟩ := hc k hkl
        have q1 : (k : Int) < (n : Int) := by omega
        have HD := Lib.hid (drop_at hkl)
        have g2 := HC.out.2.1
        rw [HD.out] at g2
        obtain ⟨i1, i2⟩ := go_inv g2
        have i3 := ov_tick i1
        obtain ⟨j0, j1⟩ := isT_iff.1 i3
        obtain ⟨j2, j3⟩ := isT_iff.1 HC.out.1
        have hz := is_nought (ov_inv i1).1
        generalize l[k] = x at *
        clear hc g2 i1 i2 i3
        obtain ⟨xk, xs, xn⟩ := x
        simp only at c0 c1 c2 j0 j1 hz
        by_cases hk2 : xk = 2
        · subst hk2
          have HS := Lib.hid (HC.out.skip HD.out (.inl rfl))
          clear hz
          go_wp2_with fail
          go_roundw
          case rel => exact ⟨k + 1, _, by omega, by go_num, rfl, HS, trivial⟩
          case measure => simp [intOf]; omega
        · obtain rfl := hz hk2
          have k2 : (xk == 2) = false := by simpa using hk2
          have HK := Lib.hid hk2
          clear hz hk2
          rw [Int.add_zero] at j0 j1
          by_cases hb1 : behind < a
          · have HF := Lib.hid (HC.out.found HD.out HK.out hb1)
            go_wp2_with fail
            go_ret2
            exact ⟨ret_nx (by rw [HF.out.1]) HF.out.2.symm, rfl⟩
          · have HS := Lib.hid (HC.out.skip HD.out (.inr (by omega)))
            have hb3 : decide (behind < a) = false := by simpa using hb1
            go_wp2_with fail
            go_roundw
            case rel => exact ⟨k + 1, _, by omega, by go_num, rfl, by simpa using HS, trivial⟩
            case measure => simp [intOf]; omega
    · have HE := Lib.hid (HC.out.end_ (by rw [HN.out]; exact Nat.le_refl _))
      by_cases hb1 : behind < a
      · have HF := Lib.hid (show nxV (dues start l) (ends start l) behind = a ∧ nxB (ends start l) behind = true by
          rw [HE.out.1]; exact ⟨nx_none hb1 HE.out.2, by unfold nxB; simpa using hb1⟩)
        go_wp2_with fail
        go_ret2
        exact ⟨ret_nx HF.out.1.symm HF.out.2.symm, rfl⟩
      · have HF := Lib.hid (show nxV (dues start l) (ends start l) behind = 0 ∧ nxB (ends start l) behind = false by
          rw [HE.out.1]; exact ⟨nx_done (by omega), by unfold nxB; simp; omega⟩)
        have hb3 : decide (behind < a) = false := by simpa using hb1
        go_wp2_with fail
        go_ret2
        exact ⟨ret_nx HF.out.1.symm HF.out.2.symm, rfl⟩
end Go.Proofs.Ytciighiecoalmaa.Run

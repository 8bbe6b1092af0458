/-
  Layer 13 (tree): Same.
-/
import Derived.Test.YtabpkpeonbdinaaDoorTreeMem
import Derived.Test.YtabpkpeonbdinaaDoorProg
import Derived.WalkLawsBesides
namespace Go.Proofs.YtabpkpeonbdinaaDoor.Tree
open Go.RowKit Go.Proofs.YtabpkpeonbdinaaDoor.Own Go.Proofs.YtabpkpeonbdinaaDoor.Rw

def intOf : Value → Int
  | .int _ n => n
  | _ => 0
/-- a slice that holds statements -/
def Sl (w : World) (v : Value) (ns : List Nd) : Prop := ∃ xs, w.ownsRow 0 35 5 v ns.length xs ∧ Ls w (fun _ => False) xs ns
theorem Fo.sl {B : Nat} {w : World} {v : Value} {ns : List Nd} (h : Fo B w v ns) : Sl w v ns := by
  obtain ⟨xs, h1, h2⟩ := h
  exact ⟨xs, own_base h1 (Nat.zero_le _), h2.avoid fun _ _ h => h.elim⟩
theorem Sl.below {w w' : World} {v : Value} {ns : List Nd} (h : Sl w v ns) (hb : Below w.heap.size w w') : Sl w' v ns := by
  obtain ⟨xs, h1, h2⟩ := h
  exact ⟨xs, own_below h1 hb, h2.kept hb⟩
theorem own_slice {w : World} {B e n size : Nat} {v : Value} {xs : List Value} (h : w.ownsRow B e size v n xs) : ∃ p c, v = .slice p n c ∧ n ≤ c ∧ c ≤ maxLen := by
  rcases h.2 with ⟨rfl, h0⟩ | ⟨g, cap, cur, rfl, _, _, h3, h4, _⟩
  · exact ⟨none, 0, by rw [show n = 0 from h0], by rw [show n = 0 from h0]; exact Nat.le_refl _, by unfold maxLen; omega⟩
  · exact ⟨_, _, rfl, h3, h4⟩
theorem Sl.slice {w : World} {v : Value} {ns : List Nd} (h : Sl w v ns) : ∃ p c, v = .slice p ns.length c ∧ ns.length ≤ c ∧ c ≤ maxLen := by
  obtain ⟨xs, h1, _⟩ := h
  exact own_slice h1
theorem Sl.at_ {w : World} {p : Option Addr} {n c : Nat} {ns : List Nd} (h : Sl w (.slice p n c) ns) {i : Nat} (hi : i < ns.length) : ∃ g pa ca pl cl, p = some ⟨g, 0, none⟩ ∧ g < w.heap.size ∧
    (w.cell? ⟨g, i * 5, none⟩ = some (.string ⟨ns[i].key.toArray⟩) ∧ w.cell? ⟨g, i * 5 + 1, none⟩ = some (.slice pa ns[i].args.length ca) ∧ w.cell? ⟨g, i * 5 + 2, none⟩ = some (.bool ns[i].block) ∧ w.cell? ⟨g, i * 5 + 3, none⟩ = some (.slice pl ns[i].list.length cl) ∧ w.cell? ⟨g, i * 5 + 4, none⟩ = some (.int .i64 ns[i].line)) ∧
    w.ownsRow 0 9 1 (.slice pa ns[i].args.length ca) ns[i].args.length (strs ns[i].args) ∧ Sl w (.slice pl ns[i].list.length cl) ns[i].list := by
  obtain ⟨xs, h1, h2⟩ := h
  obtain ⟨va, vl, ys, e0, e1, e2, e3, e4, ha, hl, hk⟩ := h2.at_ hi
  obtain ⟨pa, ca, rfl, -⟩ := own_slice ha
  obtain ⟨pl, cl, rfl, -⟩ := own_slice hl
  have hc := @World.ownsRow.cells _ _ _ _ _ _ _ h1
  rcases h1.2 with ⟨_, h0⟩ | ⟨g, cap, cur, hv, _, hh, _⟩
  · rw [h0] at hi; omega
  · injection hv with hp _ _
    subst hp
    have cc : ∀ {j : Nat} {x : Value}, xs[j]? = some x → w.cell? ⟨g, j, none⟩ = some x := by
      intro j x hx
      have := hc (g := g) rfl j x hx
      rwa [add0] at this
    exact ⟨g, pa, ca, pl, cl, rfl, at_lt hh, ⟨cc e0, cc e1, cc e2, cc e3, cc e4⟩, ha, ys, hl, hk⟩
theorem list_lt (x : Nd) : SizeOf.sizeOf x.list < SizeOf.sizeOf x := by
  cases x
  simp only [Nd.list, Nd.mk.sizeOf_spec]
  omega
theorem list_lt_at {l : List Nd} {i : Nat} (h : i < l.length) : SizeOf.sizeOf l[i].list < SizeOf.sizeOf l := Nat.lt_trans (list_lt _) (List.sizeOf_lt_of_mem (List.getElem_mem h))

/-! ### slices of texts -/
theorem text_at {w : World} {e : TypeId} {p : Option Addr} {n c : Nat} {ts : List (List UInt8)} (h : w.ownsRow 0 e 1 (.slice p n c) n (strs ts)) {i : Nat} (hi : i < ts.length) : ∃ g, p = some ⟨g, 0, none⟩ ∧ g < w.heap.size ∧ w.cell? ⟨g, i, none⟩ = some (.string ⟨ts[i].toArray⟩) := by
  have hc := @World.ownsRow.cells _ _ _ _ _ _ _ h
  have hl := h.1
  rw [strs_len] at hl
  rcases h.2 with ⟨_, h0⟩ | ⟨g, cap, cur, hv, _, hh, _⟩
  · omega
  · injection hv with hp _ _
    subst hp
    have := hc (g := g) rfl i _ (strs_at hi)
    rw [add0] at this
    exact ⟨g, rfl, at_lt hh, this⟩
theorem ba_eq (a b : List UInt8) : ((⟨a.toArray⟩ : ByteArray).toList == (⟨b.toArray⟩ : ByteArray).toList) = (a == b) := by rw [ByteArray.toList_eq, ByteArray.toList_eq]

set_option maxRecDepth 100000 in
set_option maxHeartbeats 4000000 in
theorem equal_calls (ts us : List (List UInt8)) (p q : Option Addr) (n m c d : Nat) (hn : n = ts.length) (hm : m = us.length) (w : World) (h1 : w.ownsRow 0 9 1 (.slice p n c) n (strs ts)) (h2 : w.ownsRow 0 9 1 (.slice q m d) m (strs us)) :
    Calls Tryd.prog 30 #[.slice p n c, .slice q m d] w fun e w' => e = .returned (.bool (ts == us)) ∧ Below w.heap.size w w' := by
  have H1 := Lib.hid h1
  have H2 := Lib.hid h2
  obtain ⟨_, _, hv, hc1, hm1⟩ := own_slice h1
  obtain ⟨_, _, hv', hc2, hm2⟩ := own_slice h2
  injection hv with e1 _ e2
  injection hv' with e3 _ e4
  subst e1 e2 e3 e4
  unfold maxLen at hm1 hm2
  clear h1 h2
  by_cases hnm : n = m
  · have b1 : ((n : Int) != (m : Int)) = false := by simp [hnm]
    have b2 : (m : Int) = (n : Int) := by omega
    have HNM := Lib.hid hnm
    have HN := Lib.hid hn
    have HM := Lib.hid hm
    clear hnm hn hm b2
    go_enter Tryd.func30, Tryd.ntmps30
    go_wp2_with fail
    go_loopw [13] (fun i wr => ∃ k j : Nat, k ≤ n ∧ i = .int .i64 k ∧ wr = w.drewN j ∧ (ts.drop k == us.drop k) = (ts == us)) (fun i _ => n - (intOf i).toNat)
    case atStart => exact ⟨0, 0, by omega, rfl, rfl, rfl⟩
    case round =>
      obtain ⟨k, j, hk, rfl, rfl, hd⟩ := hrel
      rcases Nat.lt_or_eq_of_le hk with hlt | rfl
      · have hl1 : k < ts.length := by rw [← HN.out]; exact hlt
        have hl2 : k < us.length := by rw [← HM.out, ← HNM.out]; exact hlt
        obtain ⟨g, rfl, hg, c1⟩ := text_at H1.out hl1
        obtain ⟨g', rfl, hg', c2⟩ := text_at H2.out hl2
        have q1 : (k : Int) < (n : Int) := by omega
        have q2 : (k : Int) < (m : Int) := by have := HNM.out; omega
        have q3 : k < m := by have := HNM.out; omega
        rw [List.drop_eq_getElem_cons hl1, List.drop_eq_getElem_cons hl2] at hd
        have HD := Lib.hid hd
        generalize ts[k] = x at *
        generalize us[k] = y at *
        clear hd hl1 hl2
        by_cases hxy : x = y
        · have b3 : (x == y) = true := by simp [hxy]
          have HXY := Lib.hid hxy
          clear hxy
          go_wp2_with fail
          go_quiet (fail)
          go_wp2_with fail
          go_roundw
          case rel => exact ⟨k + 1, _, by omega, by go_num, rfl, by rw [← HD.out, HXY.out]; simp⟩
          case measure => simp [intOf]; omega
        · have b3 : (x == y) = false := by simp [hxy]
          have HXY := Lib.hid (show (ts == us) = false by rw [← HD.out]; simp [hxy])
          clear hxy
          go_wp2_with fail
          go_quiet (fail)
          go_wp2_with fail
          go_ret
          exact ⟨by rw [HXY.out]; rfl, below_drew (below_drew (Below.refl _ _))⟩
      · have HT := Lib.hid (show (ts == us) = true by
          rw [← hd, List.drop_eq_nil_of_le (by have := HN.out; omega), List.drop_eq_nil_of_le (by have := HM.out; have := HNM.out; omega)]; rfl)
        go_wp2_with fail
        go_ret
        exact ⟨by rw [HT.out]; rfl, below_drew (Below.refl _ _)⟩
  · have b1 : ((n : Int) != (m : Int)) = true := by simp; omega
    have HT := Lib.hid (show (ts == us) = false by
      cases e : ts == us with
      | false => rfl
      | true => exact absurd (by rw [hn, hm, eq_of_beq e]) hnm)
    go_enter Tryd.func30, Tryd.ntmps30
    go_wp2_with fail
    go_ret
    exact ⟨by rw [HT.out]; rfl, Below.refl _ _⟩

/-! ### statements -/
/-- a statement's cells as a value -/
def ndv (x : Nd) (pa : Option Addr) (ca : Nat) (pl : Option Addr) (cl : Nat) : Value := .agg #[.string ⟨x.key.toArray⟩, .slice pa x.args.length ca, .bool x.block, .slice pl x.list.length cl, .int .i64 x.line]
theorem same_open (x y : Nd) : x.same y = (x.key == y.key && (x.args == y.args && (x.block == y.block && sameL x.list y.list))) := by
  cases x; cases y; rw [same_mk]; rfl

set_option maxRecDepth 100000 in
set_option maxHeartbeats 4000000 in
theorem alike_calls (x y : Nd) (w : World) (pa pb pl pm : Option Addr) (ca cb cl cm : Nat)
    (ha : w.ownsRow 0 9 1 (.slice pa x.args.length ca) x.args.length (strs x.args)) (hb : w.ownsRow 0 9 1 (.slice pb y.args.length cb) y.args.length (strs y.args))
    (hS : ∀ w1, Below w.heap.size w w1 → Calls Tryd.prog 8 #[.slice pl x.list.length cl, .slice pm y.list.length cm] w1 fun e w' => e = .returned (.bool (sameL x.list y.list)) ∧ Below w1.heap.size w1 w') :
    Calls Tryd.prog 17 #[ndv x pa ca pl cl, ndv y pb cb pm cm] w fun e w' => e = .returned (.bool (x.same y)) ∧ Below w.heap.size w w' := by
  have HA := Lib.hid ha
  have HB := Lib.hid hb
  have HS := Lib.hid hS
  have HO := Lib.hid (same_open x y)
  clear ha hb hS
  unfold ndv
  obtain ⟨kx, ax, bx, lx, nx⟩ := x
  obtain ⟨ky, ay, bY, ly, ny⟩ := y
  simp only [Nd.key, Nd.args, Nd.block, Nd.list, Nd.line] at HA HB HS HO ⊢
  go_enter Tryd.func17, Tryd.ntmps17
  cases h1 : kx == ky with
  | false =>
    have HR := Lib.hid (show (Nd.mk kx ax bx lx nx).same (.mk ky ay bY ly ny) = false by rw [HO.out, h1]; rfl)
    go_wp2_with fail
    go_ret
    exact ⟨by rw [HR.out]; rfl, ((Below.refl _ _).alloc (Nat.le_refl _) _).alloc (by simp) _⟩
  | true =>
    generalize hq : (ax == ay) = q2
    generalize hq3 : (bx == bY) = q3
    generalize hq4 : sameL lx ly = q4 at HS
    have HR := Lib.hid (show (Nd.mk kx ax bx lx nx).same (.mk ky ay bY ly ny) = (q2 && (q3 && q4)) by rw [HO.out, h1, hq, hq3, hq4]; rfl)
    have HE := Lib.hid (equal_calls ax ay pa pb ax.length ay.length ca cb rfl rfl)
    rw [hq] at HE
    clear hq hq4 HO
    go_wp2_with fail
    have BW : Below w.heap.size w ((w.alloc (.cells #[.string ⟨kx.toArray⟩, .slice pa ax.length ca, .bool bx, .slice pl lx.length cl, .int .i64 nx] 35)).alloc (.cells #[.string ⟨ky.toArray⟩, .slice pb ay.length cb, .bool bY, .slice pm ly.length cm, .int .i64 ny] 35)) := ((Below.refl _ _).alloc (Nat.le_refl _) _).alloc (by simp) _
    have N1 := at_old (w.alloc (.cells #[.string ⟨kx.toArray⟩, .slice pa ax.length ca, .bool bx, .slice pl lx.length cl, .int .i64 nx] 35)) (.cells #[.string ⟨ky.toArray⟩, .slice pb ay.length cb, .bool bY, .slice pm ly.length cm, .int .i64 ny] 35) (at_new w _)
    have N2 : ((w.alloc (.cells #[.string ⟨kx.toArray⟩, .slice pa ax.length ca, .bool bx, .slice pl lx.length cl, .int .i64 nx] 35)).alloc (.cells #[.string ⟨ky.toArray⟩, .slice pb ay.length cb, .bool bY, .slice pm ly.length cm, .int .i64 ny] 35)).heap[w.heap.size + 1]? = some (.cells #[.string ⟨ky.toArray⟩, .slice pb ay.length cb, .bool bY, .slice pm ly.length cm, .int .i64 ny] 35 (0, 0)) := at_newk _ _ (by simp)
    refine (HE.out _ (own_below HA.out BW) (own_below HB.out BW)).mono ?_
    rintro e w6 ⟨rfl, hb6⟩
    have N3 := (hb6.block _ (at_lt N1)).trans N1
    have N4 := (hb6.block _ (at_lt N2)).trans N2
    have B6 := Lib.hid (BW.trans (hb6.mono BW.size))
    obtain ⟨⟨x0, x1, x2, x3, x4⟩, -⟩ := row5 N3
    obtain ⟨⟨y0, y1, y2, y3, y4⟩, -⟩ := row5 N4
    clear hb6 BW N1 N2 N3 N4 HE
    cases q2 with
    | false =>
      go_wp2_with fail
      go_ret
      exact ⟨by rw [HR.out]; rfl, B6.out⟩
    | true =>
      cases q3 with
      | false =>
        go_wp2_with fail
        go_ret
        exact ⟨by rw [HR.out]; rfl, B6.out⟩
      | true =>
        have H6 := Lib.hid (HS.out _ B6.out)
        go_wp2_with (go_at_call 8; refine H6.out.mono ?_; rintro e w7 ⟨rfl, hb7⟩)
        go_ret
        exact ⟨by rw [HR.out]; rfl, B6.out.trans (hb7.mono B6.out.size)⟩
end Go.Proofs.YtabpkpeonbdinaaDoor.Tree

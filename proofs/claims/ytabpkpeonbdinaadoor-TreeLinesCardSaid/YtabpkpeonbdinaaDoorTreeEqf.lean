/-
  Layer 13 (tree): Same, by EqualFunc.
-/
import Derived.Test.YtabpkpeonbdinaaDoorTreeSame
namespace Go.Proofs.YtabpkpeonbdinaaDoor.Tree
open Go.RowKit Go.Proofs.YtabpkpeonbdinaaDoor.Own Go.Proofs.YtabpkpeonbdinaaDoor.Rw

set_option maxRecDepth 100000 in
set_option maxHeartbeats 4000000 in
theorem eqf_calls (a b : List Nd) (p q : Option Addr) (n m c d : Nat) (hn : n = a.length) (hm : m = b.length) (w : World) (h1 : Sl w (.slice p n c) a) (h2 : Sl w (.slice q m d) b)
    (hS : ∀ (x y : List Nd) (p q : Option Addr) (n m c d : Nat) (w1 : World), SizeOf.sizeOf x < SizeOf.sizeOf a → n = x.length → m = y.length → Sl w1 (.slice p n c) x → Sl w1 (.slice q m d) y →
      Calls Tryd.prog 8 #[.slice p n c, .slice q m d] w1 fun e w' => e = .returned (.bool (sameL x y)) ∧ Below w1.heap.size w1 w') :
    Calls Tryd.prog 16 #[.slice p n c, .slice q m d, .func (.func 17) #[] #[]] w fun e w' => e = .returned (.bool (sameL a b)) ∧ Below w.heap.size w w' := by
  have H1 := Lib.hid h1
  have H2 := Lib.hid h2
  have HS := Lib.hid hS
  obtain ⟨_, _, hv, hc1, hm1⟩ := h1.slice
  obtain ⟨_, _, hv', hc2, hm2⟩ := h2.slice
  injection hv with e1 z1 e2
  injection hv' with e3 z2 e4
  subst e1 e2 e3 e4
  clear z1 z2
  rw [← hn] at hc1
  rw [← hm] at hc2
  unfold maxLen at hm1 hm2
  clear h1 h2 hS
  by_cases hnm : n = m
  · have b1 : ((n : Int) != (m : Int)) = false := by simp [hnm]
    have HNM := Lib.hid hnm
    have HN := Lib.hid hn
    have HM := Lib.hid hm
    clear hnm hn hm
    go_enter Tryd.func16, Tryd.ntmps16
    go_wp2_with fail
    go_loopw [17] (fun i wr => ∃ k : Nat, k ≤ n ∧ i = .int .i64 k ∧ Below w.heap.size w wr ∧ sameL (a.drop k) (b.drop k) = sameL a b) (fun i _ => n - (intOf i).toNat)
    case atStart => exact ⟨0, by omega, rfl, Below.refl _ _, rfl⟩
    case round =>
      obtain ⟨k, hk, rfl, hb, hd⟩ := hrel
      rename World => wr
      have HB := Lib.hid hb
      have hsz := hb.size
      rcases Nat.lt_or_eq_of_le hk with hlt | rfl
      · have hl1 : k < a.length := by rw [← HN.out]; exact hlt
        have hl2 : k < b.length := by rw [← HM.out, ← HNM.out]; exact hlt
        obtain ⟨g, pa, ca, pl, cl, rfl, hg, ⟨c0, c1, c2, c3, c4⟩, ha, hl⟩ := H1.out.at_ hl1
        obtain ⟨g', pb, cb, pm, cm, rfl, hg', ⟨d0, d1, d2, d3, d4⟩, ha', hl'⟩ := H2.out.at_ hl2
        have x0 := (hb.cell (p := ⟨g, k * 5, none⟩) hg).trans c0
        have x1 := (hb.cell (p := ⟨g, k * 5 + 1, none⟩) hg).trans c1
        have x2 := (hb.cell (p := ⟨g, k * 5 + 2, none⟩) hg).trans c2
        have x3 := (hb.cell (p := ⟨g, k * 5 + 3, none⟩) hg).trans c3
        have x4 := (hb.cell (p := ⟨g, k * 5 + 4, none⟩) hg).trans c4
        have y0 := (hb.cell (p := ⟨g', k * 5, none⟩) hg').trans d0
        have y1 := (hb.cell (p := ⟨g', k * 5 + 1, none⟩) hg').trans d1
        have y2 := (hb.cell (p := ⟨g', k * 5 + 2, none⟩) hg').trans d2
        have y3 := (hb.cell (p := ⟨g', k * 5 + 3, none⟩) hg').trans d3
        have y4 := (hb.cell (p := ⟨g', k * 5 + 4, none⟩) hg').trans d4
        have lg : g < wr.heap.size := Nat.lt_of_lt_of_le hg hsz
        have lg' : g' < wr.heap.size := Nat.lt_of_lt_of_le hg' hsz
        clear c0 c1 c2 c3 c4 d0 d1 d2 d3 d4 hb
        have HL := Lib.hid (list_lt_at hl1)
        rw [List.drop_eq_getElem_cons hl1, List.drop_eq_getElem_cons hl2, sameL_cons] at hd
        have HD := Lib.hid hd
        clear hd
        generalize a[k] = x at *
        generalize b[k] = y at *
        have q1 : (k : Int) < (n : Int) := by omega
        have q2 : (k : Int) < (m : Int) := by have := HNM.out; omega
        have q3 : k < m := by have := HNM.out; omega
        have HK := Lib.hid fun w1 (hw : Below wr.heap.size wr w1) => alike_calls x y w1 pa pb pl pm ca cb cl cm (own_below (own_below ha HB.out) (hw.mono (Nat.le_refl _))) (own_below (own_below ha' HB.out) hw) fun w2 hw2 =>
          HS.out x.list y.list pl pm _ _ cl cm w2 HL.out rfl rfl (((hl.below HB.out).below hw).below hw2) (((hl'.below HB.out).below hw).below hw2)
        unfold ndv at HK
        clear ha hl ha' hl'
        cases hxy : x.same y with
        | false =>
          have HR := Lib.hid (show sameL a b = false by rw [← HD.out, hxy]; rfl)
          rw [hxy] at HK
          go_wp2_with (go_at_call 17; refine (HK.out _ (((Below.refl _ _).alloc (Nat.le_refl _) _).alloc (by simp) _)).mono ?_; rintro e w6 ⟨rfl, hb6⟩)
          go_ret
          exact ⟨by rw [HR.out]; rfl, (HB.out.trans ((((Below.refl wr.heap.size wr).alloc (Nat.le_refl _) _).alloc (by simp) _).mono hsz)).trans (hb6.mono (by simp; omega))⟩
        | true =>
          have HR := Lib.hid (show sameL (a.drop (k + 1)) (b.drop (k + 1)) = sameL a b by rw [← HD.out, hxy]; rfl)
          rw [hxy] at HK
          go_wp2_with (go_at_call 17; refine (HK.out _ (((Below.refl _ _).alloc (Nat.le_refl _) _).alloc (by simp) _)).mono ?_; rintro e w6 ⟨rfl, hb6⟩; have HB6 := Lib.hid ((HB.out.trans ((((Below.refl wr.heap.size wr).alloc (Nat.le_refl _) _).alloc (by simp) _).mono hsz)).trans (hb6.mono (by simp; omega))); clear hb6)
          go_roundw
          case rel => exact ⟨k + 1, by omega, by go_num, HB6.out, HR.out⟩
          case measure => simp [intOf]; omega
      · have HT := Lib.hid (show sameL a b = true by
          rw [← hd, List.drop_eq_nil_of_le (by have := HN.out; omega), List.drop_eq_nil_of_le (by have := HM.out; have := HNM.out; omega), sameL_nil])
        go_wp2_with fail
        go_ret
        exact ⟨by rw [HT.out]; rfl, HB.out⟩
  · have b1 : ((n : Int) != (m : Int)) = true := by simp; omega
    have HT := Lib.hid (show sameL a b = false from sameL_ne (by omega))
    go_enter Tryd.func16, Tryd.ntmps16
    go_wp2_with fail
    go_ret
    exact ⟨by rw [HT.out]; rfl, Below.refl _ _⟩

set_option maxRecDepth 100000 in
set_option maxHeartbeats 4000000 in
/-- Same: are statements the same, but for their lines? -/
theorem same_calls : ∀ (s : Nat) (a b : List Nd) (p q : Option Addr) (n m c d : Nat) (w : World), SizeOf.sizeOf a = s → n = a.length → m = b.length → Sl w (.slice p n c) a → Sl w (.slice q m d) b →
    Calls Tryd.prog 8 #[.slice p n c, .slice q m d] w fun e w' => e = .returned (.bool (sameL a b)) ∧ Below w.heap.size w w' := by
  intro s
  induction s using Nat.strongRecOn with
  | ind s ih =>
  intro a b p q n m c d w hs hn hm h1 h2
  have HE := Lib.hid (eqf_calls a b p q n m c d hn hm w h1 h2 fun x y p q n m c d w1 hlt hn hm h1 h2 => ih _ (hs ▸ hlt) x y p q n m c d w1 rfl hn hm h1 h2)
  clear ih h1 h2 hs hn hm
  go_enter Tryd.func8, Tryd.ntmps8
  go_wp2_with fail
  refine HE.out.mono ?_
  rintro e w6 ⟨rfl, hb6⟩
  go_wp2_with fail
  go_ret
  exact ⟨rfl, hb6⟩
end Go.Proofs.YtabpkpeonbdinaaDoor.Tree

/-
  Layer 6 (timer): the document's own Set, walked.
-/
import Derived.Test.YtmmgpifidlekaaaTimerRef2
namespace Go.Proofs.Ytmmgpifidlekaaa.Timer
open Go.RowKit Go.Proofs.Ytmmgpifidlekaaa.Own Go.Proofs.Ytmmgpifidlekaaa.Hp

/-- what is appended so far, in Set -/
structure SetAt (W wr : World) (M : List Ent) (v : Value) : Prop where
  own : OwE wr W.heap.size v M
  below : Below W.heap.size W wr
theorem SetAt.step {W wr wb w1 : World} {M N : List Ent} {v v' : Value} {n : Nat} {news : List Value} (h : SetAt W wr M v) (hb : Below W.heap.size wr wb) (hn : n = N.length) (he : news = ev N)
    (ho : w1.ownsRow W.heap.size 51 2 v' (M.length + n) (ev M ++ news)) (hg : wb.grownBy w1 v.ownBlock) : SetAt W w1 (M ++ N) v' := by
  subst hn he
  refine ⟨?_, ?_⟩
  · unfold OwE; rw [List.length_append, ev_app]; exact ho
  · exact (h.below.trans hb).grown hg (Nat.le_trans h.below.size hb.size) (fun k hk => (World.ownsRow.lt h.own k hk).1)

theorem Es.from {w : World} {v : Value} {L : List Ent} {p : Option Addr} {c : Nat} (h : Es w v L p c) {i n : Nat} (hi : i + n ≤ L.length) :
    ∀ ad, p = some ad → ∀ j u, (ev ((L.drop i).take n))[j]? = some u → w.cell? (ad.add (2 * i + j)) = some u := by
  intro ad had j u hu
  have hj : j < (ev ((L.drop i).take n)).length := (List.getElem?_eq_some_iff.1 hu).1
  rw [ev_len, List.length_take, List.length_drop] at hj
  have hq : j / 2 < ((L.drop i).take n).length := by rw [List.length_take, List.length_drop]; omega
  have e := ev_get hq
  have hg : gt ((L.drop i).take n) (j / 2) = gt L (i + j / 2) := by
    simp [gt, List.getElem?_drop, show j / 2 < n by omega]
  obtain ⟨b, o, e1, c1, c2⟩ := h.cells (i + j / 2) (by omega)
  cases had.symm.trans e1
  have ha : ∀ m, (⟨b, o, none⟩ : Addr).add m = ⟨b, o + m, none⟩ := fun m => by cases m <;> simp [Addr.add]
  rw [ha]
  rcases Nat.mod_two_eq_zero_or_one j with hm | hm
  · have hj2 : j = 2 * (j / 2) := by omega
    rw [hj2, e.1, hg] at hu
    cases hu
    rw [show o + (2 * i + j) = o + (i + j / 2) * 2 by omega]; exact c1
  · have hj2 : j = 2 * (j / 2) + 1 := by omega
    rw [hj2, e.2, hg] at hu
    cases hu
    rw [show o + (2 * i + j) = o + (i + j / 2) * 2 + 1 by omega]; exact c2

/-- what Set leaves: a timer of these entries, and a code -/
def SetPost (w w' : World) (e : Ending) (most code : Int) (L' : List Ent) (p : Option Addr) : Prop :=
  ∃ v' p' c', e = .returned (.tuple #[.agg #[v', .int .i64 most], .int .i64 code]) ∧ Es w' v' L' p' c' ∧ Loc w w' p p'
theorem SetPost.of {w w' : World} {e : Ending} {most code : Int} {L' : List Ent} {p p' : Option Addr} {v' : Value} {c' : Nat} (h1 : e = .returned (.tuple #[.agg #[v', .int .i64 most], .int .i64 code])) (h2 : Es w' v' L' p' c') (h3 : Loc w w' p p') :
    SetPost w w' e most code L' p := ⟨v', p', c', h1, h2, h3⟩

theorem set_arg (L : List Ent) (p : Option Addr) (c : Nat) (v : Value) (most id t : Int) (w : World) (h : Es w v L p c) (ht : isTick t = false) :
    Calls Try.prog 8 #[.agg #[v, .int .i64 most], .int .i64 id, .int .i64 t] w fun e w' =>
      SetPost w w' e most 1 L p ∧ Below w.heap.size w w' := by
  obtain rfl := h.val
  have hb := ((Below.refl w.heap.size w).alloc (Nat.le_refl _) (.cells #[.slice p L.length c, .int .i64 most] 30 (0, 0))).alloc (by simp) (.cells #[.slice p L.length c, .int .i64 most] 30 (0, 0))
  have HE := Lib.hid (h.kept hb)
  have HB := Lib.hid hb
  clear h hb
  simp only [isTick, Bool.and_eq_false_iff, decide_eq_false_iff_not] at ht
  by_cases h1 : t < 0
  · clear ht
    go_enter Try.func8, Try.ntmps8
    go_wp2_with fail
    refine bodyPost_ret (v := .tuple #[.agg #[.slice p L.length c, .int .i64 most], .int .i64 1]) ?_ rfl ?_
    · simp [results, Try.results8, go_sem, *]
    · exact ⟨.of rfl HE.out (Loc.refl _ _ _), HB.out⟩
  · have h2 : 0 ≤ t := by omega
    have h3 : 1099511627776 < t := by omega
    clear ht
    go_enter Try.func8, Try.ntmps8
    go_wp2_with fail
    refine bodyPost_ret (v := .tuple #[.agg #[.slice p L.length c, .int .i64 most], .int .i64 1]) ?_ rfl ?_
    · simp [results, Try.results8, go_sem, *]
    · exact ⟨.of rfl HE.out (Loc.refl _ _ _), HB.out⟩

theorem set_full (L : List Ent) (p : Option Addr) (c : Nat) (v : Value) (most id t : Int) (w : World) (h : Es w v L p c) (ht : isTick t = true) (hi : isIn L id = false) (hf : most ≤ L.length) :
    Calls Try.prog 8 #[.agg #[v, .int .i64 most], .int .i64 id, .int .i64 t] w fun e w' =>
      SetPost w w' e most 6 L p ∧ Below w.heap.size w w' := by
  obtain rfl := h.val
  have bw := ((Below.refl w.heap.size w).alloc (Nat.le_refl _) (.cells #[.slice p L.length c, .int .i64 most] 30 (0, 0))).alloc (by simp) (.cells #[.slice none 0 0, .int .i64 0] 30 (0, 0))
  have hp := place_calls L p c _ most id _ (h.kept bw)
  rw [show plc L id = -1 by have := plc_range L id; have := (plc_neg L id).2 hi; omega] at hp
  simp only [isTick, Bool.and_eq_true, decide_eq_true_eq] at ht
  obtain ⟨h2, h3⟩ := ht
  have x0 := at_old (w := w.alloc (.cells #[.slice p L.length c, .int .i64 most] 30 (0, 0))) (.cells #[.slice none 0 0, .int .i64 0] 30 (0, 0)) (at_new w _)
  have x1 := at_newk (w.alloc (.cells #[.slice p L.length c, .int .i64 most] 30 (0, 0))) (.cells #[.slice none 0 0, .int .i64 0] 30 (0, 0)) (k := w.heap.size + 1) (by simp)
  have HH := Lib.hid h
  have HB := Lib.hid bw
  clear h bw hi
  go_enter Try.func8, Try.ntmps8
  go_wp2_with (first | (go_at_call 19; refine hp.mono ?_; rintro e w2 ⟨rfl, hb2⟩; have y0 := (hb2.block w.heap.size (by simp <;> omega)).trans x0; have y1 := (hb2.block (w.heap.size + 1) (by simp)).trans x1; have c0 := (at_cell y0 0 : _ = some _); have c1 := (at_cell y0 1 : _ = some _); have f0 := at_frozen y1 0; have f1 := at_frozen y1 1; have d0 := (at_cell y1 0 : _ = some _); have d1 := (at_cell y1 1 : _ = some _); clear y0 y1))
  refine bodyPost_ret (v := .tuple #[.agg #[.slice p L.length c, .int .i64 most], .int .i64 6]) ?_ rfl ?_
  · simp [results, Try.results8, go_sem, *]
  · have hb := ((HB.out.trans (hb2.mono (by simp; omega))).setCell (p := ⟨w.heap.size + 1, 0, none⟩) (Nat.le_succ _) (.slice p L.length c)).setCell (p := ⟨w.heap.size + 1, 1, none⟩) (Nat.le_succ _) (.int .i64 most)
    exact ⟨.of rfl (HH.out.kept hb) (Loc.refl _ _ _), hb⟩

/-- where the timer's box and the result's stand, in Set, behind Cancel -/
structure SetB (w W : World) (D : List Ent) (p : Option Addr) (c : Nat) (most : Int) : Prop where
  box : W.heap[w.heap.size]? = some (.cells #[.slice p D.length c, .int .i64 most] 30 (0, 0))
  res : W.heap[w.heap.size + 1]? = some (.cells #[.slice none 0 0, .int .i64 0] 30 (0, 0))
  es : Es W (.slice p D.length c) D p c
  below : Below w.heap.size w W
theorem SetB.step {w W W1 : World} {D : List Ent} {p : Option Addr} {c : Nat} {most : Int} (h : SetB w W D p c most) (hb : Below W.heap.size W W1) : SetB w W1 D p c most :=
  ⟨(hb.block _ (at_lt h.box)).trans h.box, (hb.block _ (at_lt h.res)).trans h.res, h.es.kept hb, h.below.trans (hb.mono h.below.size)⟩
/-- another slice in the box -/
theorem SetB.put {w W : World} {D M : List Ent} {p p' : Option Addr} {c c' : Nat} {most : Int} (h : SetB w W D p c most) (he : Es W (.slice p' M.length c') M p' c') (hp : ∀ b o, p' = some ⟨b, o, none⟩ → b ≠ w.heap.size) :
    SetB w ((W.setCell ⟨w.heap.size, 0, none⟩ (.slice p' M.length c')).setCell ⟨w.heap.size, 1, none⟩ (.int .i64 most)) M p' c' most := by
  have hb := (h.below.setCell (p := ⟨w.heap.size, 0, none⟩) (Nat.le_refl _) (.slice p' M.length c')).setCell (p := ⟨w.heap.size, 1, none⟩) (Nat.le_refl _) (.int .i64 most)
  refine ⟨?_, ?_, ⟨rfl, he.cap, he.max, he.nil, fun i hi => ?_⟩, hb⟩
  · rw [at_set (at_set h.box 0 _) 1 _]; simp
  · rw [at_set_other _ (by omega), at_set_other _ (by omega)]; exact h.res
  · obtain ⟨b, o, e, c1, c2⟩ := he.cells i hi
    have hne := hp b o e
    refine ⟨b, o, e, ?_, ?_⟩
    · rw [World.cell?_of_block (w := W) (by rw [at_set_other _ hne, at_set_other _ hne])]; exact c1
    · rw [World.cell?_of_block (w := W) (by rw [at_set_other _ hne, at_set_other _ hne])]; exact c2

theorem el_no {x y id t : Int} (h1 : ¬ y < t) (h2 : y = t → ¬ x < id) : el (x, y) (id, t) = false := by
  cases hh : el (x, y) (id, t)
  · rfl
  · rw [el_iff] at hh
    rcases hh with h | ⟨h, k⟩
    · exact absurd h h1
    · exact absurd k (h2 h)
theorem addr_add (b o m : Nat) : (⟨b, o, none⟩ : Addr).add m = ⟨b, o + m, none⟩ := by cases m <;> simp [Addr.add]
theorem set_end {w W w5 : World} {D : List Ent} {p : Option Addr} {c k : Nat} {most0 : Int} {x : Ent} (hA : ahead D x = k) {v5 : Value} (S : SetAt W w5 ([] ++ D.take k ++ [x] ++ D.drop k) v5)
    (B7 : SetB w w5 D p c most0) (B : SetB w W D p c most0) (most : Int) (v : Value) :
    (∃ v' p' c', (Ending.returned (.tuple #[.agg #[v5, .int .i64 most], .int .i64 0]) = Ending.returned (.tuple #[.agg #[v', .int .i64 most], .int .i64 0])) ∧
      Es (((w5.setCell ⟨w.heap.size, 0, none⟩ v).setCell ⟨w.heap.size + 1, 0, none⟩ v).setCell ⟨w.heap.size + 1, 1, none⟩ (.int .i64 most)) v' (insL D x) p' c' ∧ ∀ p0, Loc w (((w5.setCell ⟨w.heap.size, 0, none⟩ v).setCell ⟨w.heap.size + 1, 0, none⟩ v).setCell ⟨w.heap.size + 1, 1, none⟩ (.int .i64 most)) p0 p') ∧
    Below w.heap.size w (((w5.setCell ⟨w.heap.size, 0, none⟩ v).setCell ⟨w.heap.size + 1, 0, none⟩ v).setCell ⟨w.heap.size + 1, 1, none⟩ (.int .i64 most)) := by
  have l1 := at_lt B.box
  have l2 := at_lt B.res
  have O := ((S.own.set (k := w.heap.size) (by omega) 0 v).set (k := w.heap.size + 1) (by omega) 0 v).set (k := w.heap.size + 1) (by omega) 1 (.int .i64 most)
  obtain ⟨p', c', E, hl⟩ := O.es
  refine ⟨⟨v5, p', c', rfl, ?_, fun p0 b o e => .inr ?_⟩, ((B7.below.setCell (p := ⟨_, _, _⟩) (Nat.le_refl _) _).setCell (p := ⟨_, _, _⟩) (Nat.le_succ _) _).setCell (p := ⟨_, _, _⟩) (Nat.le_succ _) _⟩
  · unfold insL; rw [hA]; simpa using E
  · rcases hl with h | ⟨b', h1, h2, h3⟩
    · rw [h] at e; cases e
    · rw [h2] at e; cases e; exact ⟨Nat.le_trans B.below.size h1, h3⟩

set_option maxHeartbeats 16000000 in
theorem set_ok (L : List Ent) (p : Option Addr) (c : Nat) (v : Value) (most id t : Int) (w : World) (h : Es w v L p c) (ht : isTick t = true) (hL : L.length ≤ 10000) (hi : isIn L id = true) :
    Calls Try.prog 8 #[.agg #[v, .int .i64 most], .int .i64 id, .int .i64 t] w fun e w' =>
      SetPost w w' e most 0 (insL (delL L id) (id, t)) p ∧ Below w.heap.size w w' := by
  obtain ⟨i0, hinf, hz0, hz1, hz2⟩ := info_parts info_ent
  obtain rfl := h.val
  have B0 : SetB w ((w.alloc (.cells #[.slice p L.length c, .int .i64 most] 30 (0, 0))).alloc (.cells #[.slice none 0 0, .int .i64 0] 30 (0, 0))) L p c most :=
    ⟨at_old _ _ (at_new _ _), at_newk _ _ (by simp), h.kept (((Below.refl _ _).alloc (Nat.le_refl _) _).alloc (by simp) _), ((Below.refl _ _).alloc (Nat.le_refl _) _).alloc (by simp) _⟩
  have hp := place_calls L p c _ most id _ B0.es
  obtain ⟨k0, hk0⟩ : ∃ k : Nat, plc L id = k := ⟨(plc L id).toNat, by have := mt (plc_neg L id).1 (by rw [hi]; simp); omega⟩
  rw [hk0] at hp
  clear hk0
  have hcn := fun W (E : Es W (.slice p L.length c) L p c) => cancel_ref L p c _ most id W E (by omega)
  simp only [isTick, Bool.and_eq_true, decide_eq_true_eq] at ht
  obtain ⟨h2, h3⟩ := ht
  clear h hi
  go_enter Try.func8, Try.ntmps8
  go_wp2_with (first
    | (go_at_call 19; refine hp.mono ?_; rintro e w2 ⟨rfl, hb2⟩; have B2 := B0.step hb2; have c0 := (at_cell B2.box 0 : _ = some _); have c1 := (at_cell B2.box 1 : _ = some _); have hcn2 := hcn _ B2.es; have HB2 := Lib.hid B2; clear B2)
    | (go_at_call 10; refine hcn2.mono ?_; rintro e w3 ⟨⟨v3, rfl, O3⟩, hb3⟩; obtain ⟨p3, c3, E3, P3⟩ := O3.es; obtain rfl := E3.val; have B3 := HB2.out.step hb3; have f0 := at_frozen B3.box 0; have f1 := at_frozen B3.box 1; have g0 := (at_cell B3.box 0 : _ = some _); have g1 := (at_cell B3.box 1 : _ = some _); have l3 := at_lt HB2.out.box; have B4 := Lib.hid (B3.put E3 (fun b o hbo => by rcases P3 with rfl | ⟨b', hb', rfl, _⟩ <;> cases hbo; omega)); have P4 := Lib.hid P3; clear B3 E3 O3 P3 hb3 hcn2))
  generalize (w3.setCell ⟨w.heap.size, 0, none⟩ (.slice p3 (delL L id).length c3)).setCell ⟨w.heap.size, 1, none⟩ (.int .i64 most) = W at B4 ⊢
  clear f0 f1 g0 g1 l3 c0 c1 HB2 hp
  have hD : (delL L id).length ≤ 10000 := Nat.le_trans (delL_len L id) hL
  obtain ⟨D, hDD⟩ : ∃ D, delL L id = D := ⟨_, rfl⟩
  rw [hDD] at B4 hD ⊢
  have HDD := Lib.hid hDD
  clear hDD hcn
  have b0 := (at_cell B4.out.box 0 : _ = some _)
  have b1 := (at_cell B4.out.box 1 : _ = some _)
  rcases P4.out with rfl | ⟨b, hbl, rfl, _⟩
  · have hc3 := B4.out.es.nil rfl
    have hD0 : D = [] := List.eq_nil_of_length_eq_zero (by have := B4.out.es.cap; omega)
    subst hc3 hD0
    clear P4
    go_loop [8] (fun i => i = .int .i64 0) (fun _ => 0)
    case atStart => rfl
    case round =>
      obtain rfl := hrel
      have S0 : SetAt W W [] (.slice none 0 0) := ⟨World.ownsRow_nil _ _ _ _, Below.refl _ _⟩
      have HS0 := Lib.hid S0
      have hA' := Lib.hid (show ahead [] (id, t) = 0 from rfl)
      clear S0
      go_wp2_with (first
        | (at_builtin; refine append_any rfl (.tmp 73) (.tmp 77) 28 rfl W.heap.size 51 i0 _ 2 16 Try.underlying28 hinf hz0 hz1 hz2 rfl (by decide) (.slice none 0 0) 0 [] rfl HS0.out.own none 0 0 [] rfl (fun _ => ⟨rfl, rfl⟩) rfl (fun ad had => nomatch had) (by simp) (by unfold maxLen; omega) (by omega) (Nat.le_refl _) ?_; intro v1 w1 own1 grow1; have S1 := Lib.hid (HS0.out.step (N := []) (Below.refl _ _) rfl rfl own1 grow1); have B5 := B4.out.step S1.out.below; have e0 := (at_cell B5.box 0 : _ = some _); have l5 := S1.out.below.size; clear own1 grow1 B5)
        | (at_builtin; refine append_any rfl (.tmp 79) (.tmp 83) 28 rfl W.heap.size 51 i0 _ 2 16 Try.underlying28 hinf hz0 hz1 hz2 rfl (by decide) _ _ _ rfl (World.ownsRow.alloc S1.out.own _) (some ⟨w1.heap.size, 0, none⟩) 1 1 [.int .i64 id, .int .i64 t] rfl (fun h => nomatch h) rfl (two_new _ _ _ _) (one_two _ _) (by simp <;> unfold maxLen <;> omega) (by simp <;> omega) (by simp <;> omega) ?_; intro v2 w4 own2 grow2; have S2 := Lib.hid (S1.out.step (N := [(id, t)]) ((Below.refl _ _).alloc S1.out.below.size _) rfl rfl own2 grow2); have B6 := B4.out.step S2.out.below; have e1 := (at_cell B6.box 0 : _ = some _); have E6 := Lib.hid B6.es; clear own2 grow2 B6)
        | (at_builtin; refine append_any rfl (.tmp 85) (.tmp 89) 28 rfl W.heap.size 51 i0 _ 2 16 Try.underlying28 hinf hz0 hz1 hz2 rfl (by decide) _ _ _ rfl S2.out.own none 0 0 [] rfl (fun _ => ⟨rfl, rfl⟩) rfl (fun ad had => nomatch had) (by simp) (by simp; unfold maxLen; omega) (by simp) S2.out.below.size ?_; intro v5 w5 own5 grow5; have S3 := Lib.hid (S2.out.step (N := []) (Below.refl _ _) rfl rfl own5 grow5); have B7 := B4.out.step S3.out.below; have g0 := (at_cell B7.box 0 : _ = some _); have g1 := (at_cell B7.box 1 : _ = some _); have r0 := (at_cell B7.res 0 : _ = some _); have r1 := (at_cell B7.res 1 : _ = some _); have fg := at_frozen B7.box 0; have fr0 := at_frozen B7.res 0; have fr1 := at_frozen B7.res 1; have HB7 := Lib.hid B7; obtain ⟨p5, n5, c5, rfl⟩ : ∃ p n c, v5 = .slice p n c := (by obtain ⟨p5, c5, E5, _⟩ := S3.out.own.es; exact ⟨_, _, _, E5.val⟩); clear own5 grow5 B7))
      refine bodyPost_ret (v := .tuple #[.agg #[.slice p5 n5 c5, .int .i64 most], .int .i64 0]) ?_ rfl ?_
      · simp [results, Try.results8, go_sem, *]
      · obtain ⟨⟨v', p', c', h1, h2, hl⟩, h3⟩ := set_end (D := []) (k := 0) hA'.out S3.out HB7.out B4.out most (.slice p5 n5 c5)
        exact ⟨.of h1 (by rw [HDD.out]; exact h2) (hl _), h3⟩
  · clear P4
    go_loop [8] (fun i => ∃ k : Nat, k ≤ D.length ∧ (∀ j, j < k → el (gt D j) (id, t) = true) ∧ i = .int .i64 k) (fun i => D.length - (intOf i).toNat)
    case atStart => exact ⟨0, by omega, fun j hj => by omega, rfl⟩
    case round =>
      obtain ⟨k, hk, hall, rfl⟩ := hrel
      have q3 : (D.length : Int) ≤ 10000 := by omega
      rcases Nat.lt_or_ge k D.length with hlt | hkl
      · obtain ⟨b', o', hp3, d1, d2⟩ := B4.out.es.cells k hlt
        cases hp3
        have q1 : (k : Int) < (D.length : Int) := by omega
        have hck : ¬ c3 = k := by have := B4.out.es.cap; omega
        obtain ⟨x, hx⟩ : ∃ x, x = (gt D k).1 := ⟨_, rfl⟩
        obtain ⟨y, hy⟩ : ∃ y, y = (gt D k).2 := ⟨_, rfl⟩
        rw [← hx] at d1
        rw [← hy] at d2
        have hel : el (gt D k) (id, t) = el (x, y) (id, t) := by rw [hx, hy]
        have HX := Lib.hid hx
        clear hx hy
        rw [Nat.zero_add] at d1 d2
        have ROUND : el (x, y) (id, t) = true → ∀ j, j < k + 1 → el (gt D j) (id, t) = true := fun he j hj => by
          rcases Nat.lt_or_eq_of_le (Nat.le_of_lt_succ hj) with h | rfl
          · exact hall j h
          · rw [hel]; exact he
        by_cases hy1 : y < t
        · have HN := Lib.hid (ROUND (by rw [el_iff]; exact .inl hy1))
          clear hall ROUND hel
          go_wp2_with fail
          go_round
          case rel => exact ⟨k + 1, by omega, HN.out, by go_num⟩
          case measure => simp [intOf]; omega
        · by_cases hy2 : y = t
          · have hb2 : (y == t) = true := by simpa using hy2
            by_cases hx1 : x < id
            · have HN := Lib.hid (ROUND (by rw [el_iff]; exact .inr ⟨hy2, hx1⟩))
              clear hall ROUND hel hy2
              go_wp2_with fail
              go_round
              case rel => exact ⟨k + 1, by omega, HN.out, by go_num⟩
              case measure => simp [intOf]; omega
            · have hA := ahead_is (x := (id, t)) hk hall (fun _ => by rw [hel]; exact el_no hy1 (fun _ => hx1))
              clear ROUND hel hy2
              have S0 : SetAt W W [] (.slice none 0 0) := ⟨World.ownsRow_nil _ _ _ _, Below.refl _ _⟩
              have q4 : (k : Int) ≤ (D.length : Int) := by omega
              have q5 : (D.length : Int) ≤ (c3 : Int) := by have := B4.out.es.cap; omega
              have HS0 := Lib.hid S0
              have hA' := Lib.hid hA
              clear hA S0 hall
              go_wp2_with (first
                | (at_builtin; refine append_any rfl (.tmp 73) (.tmp 77) 28 rfl W.heap.size 51 i0 _ 2 16 Try.underlying28 hinf hz0 hz1 hz2 rfl (by decide) (.slice none 0 0) 0 [] rfl HS0.out.own (some ⟨b, 0, none⟩) k c3 (ev (D.take k)) rfl (fun h => nomatch h) (by rw [ev_len, List.length_take]; omega) (fun ad had j u hu => by have := B4.out.es.from (i := 0) (n := k) (by omega) ad had j u (by simpa using hu); simpa using this) (ev_one _) (by unfold maxLen; omega) (by omega) (Nat.le_refl _) ?_; intro v1 w1 own1 grow1; have S1 := Lib.hid (HS0.out.step (N := D.take k) (Below.refl _ _) (by rw [List.length_take]; omega) rfl own1 grow1); have B5 := B4.out.step S1.out.below; have e0 := (at_cell B5.box 0 : _ = some _); have l5 := S1.out.below.size; clear own1 grow1 B5)
                | (at_builtin; refine append_any rfl (.tmp 79) (.tmp 83) 28 rfl W.heap.size 51 i0 _ 2 16 Try.underlying28 hinf hz0 hz1 hz2 rfl (by decide) _ _ _ rfl (World.ownsRow.alloc S1.out.own _) (some ⟨w1.heap.size, 0, none⟩) 1 1 [.int .i64 id, .int .i64 t] rfl (fun h => nomatch h) rfl (two_new _ _ _ _) (one_two _ _) (by simp <;> unfold maxLen <;> omega) (by simp <;> omega) (by simp <;> omega) ?_; intro v2 w4 own2 grow2; have S2 := Lib.hid (S1.out.step (N := [(id, t)]) ((Below.refl _ _).alloc S1.out.below.size _) rfl rfl own2 grow2); have B6 := B4.out.step S2.out.below; have e1 := (at_cell B6.box 0 : _ = some _); have E6 := Lib.hid B6.es; clear own2 grow2 B6)
                | (at_builtin; refine append_any rfl (.tmp 85) (.tmp 89) 28 rfl W.heap.size 51 i0 _ 2 16 Try.underlying28 hinf hz0 hz1 hz2 rfl (by decide) _ _ _ rfl S2.out.own _ _ _ (ev (D.drop k)) rfl (fun h => nomatch h) (by rw [ev_len, List.length_drop] <;> omega) (fun ad had j u hu => by cases had; have := E6.out.from (i := k) (n := D.length - k) (by omega) _ rfl j u (by rwa [List.take_of_length_le (by rw [List.length_drop]; omega)]); rw [addr_add] at this ⊢; rw [show k * 2 + j = 0 + (2 * k + j) by omega]; exact this) (ev_one _) (by simp; unfold maxLen; omega) (by simp; omega) S2.out.below.size ?_; intro v5 w5 own5 grow5; have S3 := Lib.hid (S2.out.step (N := D.drop k) (Below.refl _ _) (by rw [List.length_drop] <;> omega) rfl own5 grow5); have B7 := B4.out.step S3.out.below; have g0 := (at_cell B7.box 0 : _ = some _); have g1 := (at_cell B7.box 1 : _ = some _); have r0 := (at_cell B7.res 0 : _ = some _); have r1 := (at_cell B7.res 1 : _ = some _); have fg := at_frozen B7.box 0; have fr0 := at_frozen B7.res 0; have fr1 := at_frozen B7.res 1; have HB7 := Lib.hid B7; obtain ⟨p5, n5, c5, rfl⟩ : ∃ p n c, v5 = .slice p n c := (by obtain ⟨p5, c5, E5, _⟩ := S3.out.own.es; exact ⟨_, _, _, E5.val⟩); clear own5 grow5 B7))
              refine bodyPost_ret (v := .tuple #[.agg #[.slice p5 n5 c5, .int .i64 most], .int .i64 0]) ?_ rfl ?_
              · simp [results, Try.results8, go_sem, *]
              · obtain ⟨⟨v', p', c', h1, h2, hl⟩, h3⟩ := set_end (D := D) (k := k) hA'.out S3.out HB7.out B4.out most (.slice p5 n5 c5)
                exact ⟨.of h1 (by rw [HDD.out]; exact h2) (hl _), h3⟩
          · have hb2 : (y == t) = false := by simpa using hy2
            have hA := ahead_is (x := (id, t)) hk hall (fun _ => by rw [hel]; exact el_no hy1 (fun e => absurd e hy2))
            clear ROUND hel hy2
            have S0 : SetAt W W [] (.slice none 0 0) := ⟨World.ownsRow_nil _ _ _ _, Below.refl _ _⟩
            have q4 : (k : Int) ≤ (D.length : Int) := by omega
            have q5 : (D.length : Int) ≤ (c3 : Int) := by have := B4.out.es.cap; omega
            have HS0 := Lib.hid S0
            have hA' := Lib.hid hA
            clear hA S0 hall
            go_wp2_with (first
              | (at_builtin; refine append_any rfl (.tmp 73) (.tmp 77) 28 rfl W.heap.size 51 i0 _ 2 16 Try.underlying28 hinf hz0 hz1 hz2 rfl (by decide) (.slice none 0 0) 0 [] rfl HS0.out.own (some ⟨b, 0, none⟩) k c3 (ev (D.take k)) rfl (fun h => nomatch h) (by rw [ev_len, List.length_take]; omega) (fun ad had j u hu => by have := B4.out.es.from (i := 0) (n := k) (by omega) ad had j u (by simpa using hu); simpa using this) (ev_one _) (by unfold maxLen; omega) (by omega) (Nat.le_refl _) ?_; intro v1 w1 own1 grow1; have S1 := Lib.hid (HS0.out.step (N := D.take k) (Below.refl _ _) (by rw [List.length_take]; omega) rfl own1 grow1); have B5 := B4.out.step S1.out.below; have e0 := (at_cell B5.box 0 : _ = some _); have l5 := S1.out.below.size; clear own1 grow1 B5)
              | (at_builtin; refine append_any rfl (.tmp 79) (.tmp 83) 28 rfl W.heap.size 51 i0 _ 2 16 Try.underlying28 hinf hz0 hz1 hz2 rfl (by decide) _ _ _ rfl (World.ownsRow.alloc S1.out.own _) (some ⟨w1.heap.size, 0, none⟩) 1 1 [.int .i64 id, .int .i64 t] rfl (fun h => nomatch h) rfl (two_new _ _ _ _) (one_two _ _) (by simp <;> unfold maxLen <;> omega) (by simp <;> omega) (by simp <;> omega) ?_; intro v2 w4 own2 grow2; have S2 := Lib.hid (S1.out.step (N := [(id, t)]) ((Below.refl _ _).alloc S1.out.below.size _) rfl rfl own2 grow2); have B6 := B4.out.step S2.out.below; have e1 := (at_cell B6.box 0 : _ = some _); have E6 := Lib.hid B6.es; clear own2 grow2 B6)
              | (at_builtin; refine append_any rfl (.tmp 85) (.tmp 89) 28 rfl W.heap.size 51 i0 _ 2 16 Try.underlying28 hinf hz0 hz1 hz2 rfl (by decide) _ _ _ rfl S2.out.own _ _ _ (ev (D.drop k)) rfl (fun h => nomatch h) (by rw [ev_len, List.length_drop] <;> omega) (fun ad had j u hu => by cases had; have := E6.out.from (i := k) (n := D.length - k) (by omega) _ rfl j u (by rwa [List.take_of_length_le (by rw [List.length_drop]; omega)]); rw [addr_add] at this ⊢; rw [show k * 2 + j = 0 + (2 * k + j) by omega]; exact this) (ev_one _) (by simp; unfold maxLen; omega) (by simp; omega) S2.out.below.size ?_; intro v5 w5 own5 grow5; have S3 := Lib.hid (S2.out.step (N := D.drop k) (Below.refl _ _) (by rw [List.length_drop] <;> omega) rfl own5 grow5); have B7 := B4.out.step S3.out.below; have g0 := (at_cell B7.box 0 : _ = some _); have g1 := (at_cell B7.box 1 : _ = some _); have r0 := (at_cell B7.res 0 : _ = some _); have r1 := (at_cell B7.res 1 : _ = some _); have fg := at_frozen B7.box 0; have fr0 := at_frozen B7.res 0; have fr1 := at_frozen B7.res 1; have HB7 := Lib.hid B7; obtain ⟨p5, n5, c5, rfl⟩ : ∃ p n c, v5 = .slice p n c := (by obtain ⟨p5, c5, E5, _⟩ := S3.out.own.es; exact ⟨_, _, _, E5.val⟩); clear own5 grow5 B7))
            refine bodyPost_ret (v := .tuple #[.agg #[.slice p5 n5 c5, .int .i64 most], .int .i64 0]) ?_ rfl ?_
            · simp [results, Try.results8, go_sem, *]
            · obtain ⟨⟨v', p', c', h1, h2, hl⟩, h3⟩ := set_end (D := D) (k := k) hA'.out S3.out HB7.out B4.out most (.slice p5 n5 c5)
              exact ⟨.of h1 (by rw [HDD.out]; exact h2) (hl _), h3⟩
      · have hA := ahead_is (x := (id, t)) hk hall (fun h => absurd h (by omega))
        have q1 : (D.length : Int) ≤ (k : Int) := by omega
        by_cases hck : c3 = k
        · obtain rfl : k = c3 := hck.symm
          have S0 : SetAt W W [] (.slice none 0 0) := ⟨World.ownsRow_nil _ _ _ _, Below.refl _ _⟩
          have q4 : (k : Int) ≤ (D.length : Int) := by omega
          have q5 : (D.length : Int) ≤ (k : Int) := by have := B4.out.es.cap; omega
          have HS0 := Lib.hid S0
          have hA' := Lib.hid hA
          clear hA S0 hall
          go_wp2_with (first
            | (at_builtin; refine append_any rfl (.tmp 73) (.tmp 77) 28 rfl W.heap.size 51 i0 _ 2 16 Try.underlying28 hinf hz0 hz1 hz2 rfl (by decide) (.slice none 0 0) 0 [] rfl HS0.out.own (some ⟨b, 0, none⟩) k k (ev (D.take k)) rfl (fun h => nomatch h) (by rw [ev_len, List.length_take]; omega) (fun ad had j u hu => by have := B4.out.es.from (i := 0) (n := k) (by omega) ad had j u (by simpa using hu); simpa using this) (ev_one _) (by unfold maxLen; omega) (by omega) (Nat.le_refl _) ?_; intro v1 w1 own1 grow1; have S1 := Lib.hid (HS0.out.step (N := D.take k) (Below.refl _ _) (by rw [List.length_take]; omega) rfl own1 grow1); have B5 := B4.out.step S1.out.below; have e0 := (at_cell B5.box 0 : _ = some _); have l5 := S1.out.below.size; clear own1 grow1 B5)
            | (at_builtin; refine append_any rfl (.tmp 79) (.tmp 83) 28 rfl W.heap.size 51 i0 _ 2 16 Try.underlying28 hinf hz0 hz1 hz2 rfl (by decide) _ _ _ rfl (World.ownsRow.alloc S1.out.own _) (some ⟨w1.heap.size, 0, none⟩) 1 1 [.int .i64 id, .int .i64 t] rfl (fun h => nomatch h) rfl (two_new _ _ _ _) (one_two _ _) (by simp <;> unfold maxLen <;> omega) (by simp <;> omega) (by simp <;> omega) ?_; intro v2 w4 own2 grow2; have S2 := Lib.hid (S1.out.step (N := [(id, t)]) ((Below.refl _ _).alloc S1.out.below.size _) rfl rfl own2 grow2); have B6 := B4.out.step S2.out.below; have e1 := (at_cell B6.box 0 : _ = some _); have E6 := Lib.hid B6.es; clear own2 grow2 B6)
            | (at_builtin; refine append_any rfl (.tmp 85) (.tmp 89) 28 rfl W.heap.size 51 i0 _ 2 16 Try.underlying28 hinf hz0 hz1 hz2 rfl (by decide) _ _ _ rfl S2.out.own _ _ _ (ev (D.drop k)) rfl (fun h => nomatch h) (by rw [ev_len, List.length_drop] <;> omega) (fun ad had j u hu => by rw [List.drop_eq_nil_of_le (by omega)] at hu; simp [ev] at hu) (ev_one _) (by simp; unfold maxLen; omega) (by simp; omega) S2.out.below.size ?_; intro v5 w5 own5 grow5; have S3 := Lib.hid (S2.out.step (N := D.drop k) (Below.refl _ _) (by rw [List.length_drop] <;> omega) rfl own5 grow5); have B7 := B4.out.step S3.out.below; have g0 := (at_cell B7.box 0 : _ = some _); have g1 := (at_cell B7.box 1 : _ = some _); have r0 := (at_cell B7.res 0 : _ = some _); have r1 := (at_cell B7.res 1 : _ = some _); have fg := at_frozen B7.box 0; have fr0 := at_frozen B7.res 0; have fr1 := at_frozen B7.res 1; have HB7 := Lib.hid B7; obtain ⟨p5, n5, c5, rfl⟩ : ∃ p n c, v5 = .slice p n c := (by obtain ⟨p5, c5, E5, _⟩ := S3.out.own.es; exact ⟨_, _, _, E5.val⟩); clear own5 grow5 B7))
          refine bodyPost_ret (v := .tuple #[.agg #[.slice p5 n5 c5, .int .i64 most], .int .i64 0]) ?_ rfl ?_
          · simp [results, Try.results8, go_sem, *]
          · obtain ⟨⟨v', p', c', h1, h2, hl⟩, h3⟩ := set_end (D := D) (k := k) hA'.out S3.out HB7.out B4.out most (.slice p5 n5 c5)
            exact ⟨.of h1 (by rw [HDD.out]; exact h2) (hl _), h3⟩
        · have S0 : SetAt W W [] (.slice none 0 0) := ⟨World.ownsRow_nil _ _ _ _, Below.refl _ _⟩
          have q4 : (k : Int) ≤ (D.length : Int) := by omega
          have q5 : (D.length : Int) ≤ (c3 : Int) := by have := B4.out.es.cap; omega
          have HS0 := Lib.hid S0
          have hA' := Lib.hid hA
          clear hA S0 hall
          go_wp2_with (first
            | (at_builtin; refine append_any rfl (.tmp 73) (.tmp 77) 28 rfl W.heap.size 51 i0 _ 2 16 Try.underlying28 hinf hz0 hz1 hz2 rfl (by decide) (.slice none 0 0) 0 [] rfl HS0.out.own (some ⟨b, 0, none⟩) k c3 (ev (D.take k)) rfl (fun h => nomatch h) (by rw [ev_len, List.length_take]; omega) (fun ad had j u hu => by have := B4.out.es.from (i := 0) (n := k) (by omega) ad had j u (by simpa using hu); simpa using this) (ev_one _) (by unfold maxLen; omega) (by omega) (Nat.le_refl _) ?_; intro v1 w1 own1 grow1; have S1 := Lib.hid (HS0.out.step (N := D.take k) (Below.refl _ _) (by rw [List.length_take]; omega) rfl own1 grow1); have B5 := B4.out.step S1.out.below; have e0 := (at_cell B5.box 0 : _ = some _); have l5 := S1.out.below.size; clear own1 grow1 B5)
            | (at_builtin; refine append_any rfl (.tmp 79) (.tmp 83) 28 rfl W.heap.size 51 i0 _ 2 16 Try.underlying28 hinf hz0 hz1 hz2 rfl (by decide) _ _ _ rfl (World.ownsRow.alloc S1.out.own _) (some ⟨w1.heap.size, 0, none⟩) 1 1 [.int .i64 id, .int .i64 t] rfl (fun h => nomatch h) rfl (two_new _ _ _ _) (one_two _ _) (by simp <;> unfold maxLen <;> omega) (by simp <;> omega) (by simp <;> omega) ?_; intro v2 w4 own2 grow2; have S2 := Lib.hid (S1.out.step (N := [(id, t)]) ((Below.refl _ _).alloc S1.out.below.size _) rfl rfl own2 grow2); have B6 := B4.out.step S2.out.below; have e1 := (at_cell B6.box 0 : _ = some _); have E6 := Lib.hid B6.es; clear own2 grow2 B6)
            | (at_builtin; refine append_any rfl (.tmp 85) (.tmp 89) 28 rfl W.heap.size 51 i0 _ 2 16 Try.underlying28 hinf hz0 hz1 hz2 rfl (by decide) _ _ _ rfl S2.out.own _ _ _ (ev (D.drop k)) rfl (fun h => nomatch h) (by rw [ev_len, List.length_drop] <;> omega) (fun ad had j u hu => by rw [List.drop_eq_nil_of_le (by omega)] at hu; simp [ev] at hu) (ev_one _) (by simp; unfold maxLen; omega) (by simp; omega) S2.out.below.size ?_; intro v5 w5 own5 grow5; have S3 := Lib.hid (S2.out.step (N := D.drop k) (Below.refl _ _) (by rw [List.length_drop] <;> omega) rfl own5 grow5); have B7 := B4.out.step S3.out.below; have g0 := (at_cell B7.box 0 : _ = some _); have g1 := (at_cell B7.box 1 : _ = some _); have r0 := (at_cell B7.res 0 : _ = some _); have r1 := (at_cell B7.res 1 : _ = some _); have fg := at_frozen B7.box 0; have fr0 := at_frozen B7.res 0; have fr1 := at_frozen B7.res 1; have HB7 := Lib.hid B7; obtain ⟨p5, n5, c5, rfl⟩ : ∃ p n c, v5 = .slice p n c := (by obtain ⟨p5, c5, E5, _⟩ := S3.out.own.es; exact ⟨_, _, _, E5.val⟩); clear own5 grow5 B7))
          refine bodyPost_ret (v := .tuple #[.agg #[.slice p5 n5 c5, .int .i64 most], .int .i64 0]) ?_ rfl ?_
          · simp [results, Try.results8, go_sem, *]
          · obtain ⟨⟨v', p', c', h1, h2, hl⟩, h3⟩ := set_end (D := D) (k := k) hA'.out S3.out HB7.out B4.out most (.slice p5 n5 c5)
            exact ⟨.of h1 (by rw [HDD.out]; exact h2) (hl _), h3⟩

set_option maxHeartbeats 16000000 in
theorem set_new (L : List Ent) (p : Option Addr) (c : Nat) (v : Value) (most id t : Int) (w : World) (h : Es w v L p c) (ht : isTick t = true) (hL : L.length ≤ 10000) (hi : isIn L id = false) (hf : L.length < most) :
    Calls Try.prog 8 #[.agg #[v, .int .i64 most], .int .i64 id, .int .i64 t] w fun e w' =>
      SetPost w w' e most 0 (insL (delL L id) (id, t)) p ∧ Below w.heap.size w w' := by
  obtain ⟨i0, hinf, hz0, hz1, hz2⟩ := info_parts info_ent
  obtain rfl := h.val
  have B0 : SetB w ((w.alloc (.cells #[.slice p L.length c, .int .i64 most] 30 (0, 0))).alloc (.cells #[.slice none 0 0, .int .i64 0] 30 (0, 0))) L p c most :=
    ⟨at_old _ _ (at_new _ _), at_newk _ _ (by simp), h.kept (((Below.refl _ _).alloc (Nat.le_refl _) _).alloc (by simp) _), ((Below.refl _ _).alloc (Nat.le_refl _) _).alloc (by simp) _⟩
  have hp := place_calls L p c _ most id _ B0.es
  rw [show plc L id = -1 by have := plc_range L id; have := (plc_neg L id).2 hi; omega] at hp
  have hcn := fun W (E : Es W (.slice p L.length c) L p c) => cancel_ref L p c _ most id W E (by omega)
  simp only [isTick, Bool.and_eq_true, decide_eq_true_eq] at ht
  obtain ⟨h2, h3⟩ := ht
  clear h hi
  go_enter Try.func8, Try.ntmps8
  go_wp2_with (first
    | (go_at_call 19; refine hp.mono ?_; rintro e w2 ⟨rfl, hb2⟩; have B2 := B0.step hb2; have c0 := (at_cell B2.box 0 : _ = some _); have c1 := (at_cell B2.box 1 : _ = some _); have hcn2 := hcn _ B2.es; have HB2 := Lib.hid B2; clear B2)
    | (go_at_call 10; refine hcn2.mono ?_; rintro e w3 ⟨⟨v3, rfl, O3⟩, hb3⟩; obtain ⟨p3, c3, E3, P3⟩ := O3.es; obtain rfl := E3.val; have B3 := HB2.out.step hb3; have f0 := at_frozen B3.box 0; have f1 := at_frozen B3.box 1; have g0 := (at_cell B3.box 0 : _ = some _); have g1 := (at_cell B3.box 1 : _ = some _); have l3 := at_lt HB2.out.box; have B4 := Lib.hid (B3.put E3 (fun b o hbo => by rcases P3 with rfl | ⟨b', hb', rfl, _⟩ <;> cases hbo; omega)); have P4 := Lib.hid P3; clear B3 E3 O3 P3 hb3 hcn2))
  generalize (w3.setCell ⟨w.heap.size, 0, none⟩ (.slice p3 (delL L id).length c3)).setCell ⟨w.heap.size, 1, none⟩ (.int .i64 most) = W at B4 ⊢
  clear f0 f1 g0 g1 l3 c0 c1 HB2 hp
  have hD : (delL L id).length ≤ 10000 := Nat.le_trans (delL_len L id) hL
  obtain ⟨D, hDD⟩ : ∃ D, delL L id = D := ⟨_, rfl⟩
  rw [hDD] at B4 hD ⊢
  have HDD := Lib.hid hDD
  clear hDD hcn
  have b0 := (at_cell B4.out.box 0 : _ = some _)
  have b1 := (at_cell B4.out.box 1 : _ = some _)
  rcases P4.out with rfl | ⟨b, hbl, rfl, _⟩
  · have hc3 := B4.out.es.nil rfl
    have hD0 : D = [] := List.eq_nil_of_length_eq_zero (by have := B4.out.es.cap; omega)
    subst hc3 hD0
    clear P4
    go_loop [8] (fun i => i = .int .i64 0) (fun _ => 0)
    case atStart => rfl
    case round =>
      obtain rfl := hrel
      have S0 : SetAt W W [] (.slice none 0 0) := ⟨World.ownsRow_nil _ _ _ _, Below.refl _ _⟩
      have HS0 := Lib.hid S0
      have hA' := Lib.hid (show ahead [] (id, t) = 0 from rfl)
      clear S0
      go_wp2_with (first
        | (at_builtin; refine append_any rfl (.tmp 73) (.tmp 77) 28 rfl W.heap.size 51 i0 _ 2 16 Try.underlying28 hinf hz0 hz1 hz2 rfl (by decide) (.slice none 0 0) 0 [] rfl HS0.out.own none 0 0 [] rfl (fun _ => ⟨rfl, rfl⟩) rfl (fun ad had => nomatch had) (by simp) (by unfold maxLen; omega) (by omega) (Nat.le_refl _) ?_; intro v1 w1 own1 grow1; have S1 := Lib.hid (HS0.out.step (N := []) (Below.refl _ _) rfl rfl own1 grow1); have B5 := B4.out.step S1.out.below; have e0 := (at_cell B5.box 0 : _ = some _); have l5 := S1.out.below.size; clear own1 grow1 B5)
        | (at_builtin; refine append_any rfl (.tmp 79) (.tmp 83) 28 rfl W.heap.size 51 i0 _ 2 16 Try.underlying28 hinf hz0 hz1 hz2 rfl (by decide) _ _ _ rfl (World.ownsRow.alloc S1.out.own _) (some ⟨w1.heap.size, 0, none⟩) 1 1 [.int .i64 id, .int .i64 t] rfl (fun h => nomatch h) rfl (two_new _ _ _ _) (one_two _ _) (by simp <;> unfold maxLen <;> omega) (by simp <;> omega) (by simp <;> omega) ?_; intro v2 w4 own2 grow2; have S2 := Lib.hid (S1.out.step (N := [(id, t)]) ((Below.refl _ _).alloc S1.out.below.size _) rfl rfl own2 grow2); have B6 := B4.out.step S2.out.below; have e1 := (at_cell B6.box 0 : _ = some _); have E6 := Lib.hid B6.es; clear own2 grow2 B6)
        | (at_builtin; refine append_any rfl (.tmp 85) (.tmp 89) 28 rfl W.heap.size 51 i0 _ 2 16 Try.underlying28 hinf hz0 hz1 hz2 rfl (by decide) _ _ _ rfl S2.out.own none 0 0 [] rfl (fun _ => ⟨rfl, rfl⟩) rfl (fun ad had => nomatch had) (by simp) (by simp; unfold maxLen; omega) (by simp) S2.out.below.size ?_; intro v5 w5 own5 grow5; have S3 := Lib.hid (S2.out.step (N := []) (Below.refl _ _) rfl rfl own5 grow5); have B7 := B4.out.step S3.out.below; have g0 := (at_cell B7.box 0 : _ = some _); have g1 := (at_cell B7.box 1 : _ = some _); have r0 := (at_cell B7.res 0 : _ = some _); have r1 := (at_cell B7.res 1 : _ = some _); have fg := at_frozen B7.box 0; have fr0 := at_frozen B7.res 0; have fr1 := at_frozen B7.res 1; have HB7 := Lib.hid B7; obtain ⟨p5, n5, c5, rfl⟩ : ∃ p n c, v5 = .slice p n c := (by obtain ⟨p5, c5, E5, _⟩ := S3.out.own.es; exact ⟨_, _, _, E5.val⟩); clear own5 grow5 B7))
      refine bodyPost_ret (v := .tuple #[.agg #[.slice p5 n5 c5, .int .i64 most], .int .i64 0]) ?_ rfl ?_
      · simp [results, Try.results8, go_sem, *]
      · obtain ⟨⟨v', p', c', h1, h2, hl⟩, h3⟩ := set_end (D := []) (k := 0) hA'.out S3.out HB7.out B4.out most (.slice p5 n5 c5)
        exact ⟨.of h1 (by rw [HDD.out]; exact h2) (hl _), h3⟩
  · clear P4
    go_loop [8] (fun i => ∃ k : Nat, k ≤ D.length ∧ (∀ j, j < k → el (gt D j) (id, t) = true) ∧ i = .int .i64 k) (fun i => D.length - (intOf i).toNat)
    case atStart => exact ⟨0, by omega, fun j hj => by omega, rfl⟩
    case round =>
      obtain ⟨k, hk, hall, rfl⟩ := hrel
      have q3 : (D.length : Int) ≤ 10000 := by omega
      rcases Nat.lt_or_ge k D.length with hlt | hkl
      · obtain ⟨b', o', hp3, d1, d2⟩ := B4.out.es.cells k hlt
        cases hp3
        have q1 : (k : Int) < (D.length : Int) := by omega
        have hck : ¬ c3 = k := by have := B4.out.es.cap; omega
        obtain ⟨x, hx⟩ : ∃ x, x = (gt D k).1 := ⟨_, rfl⟩
        obtain ⟨y, hy⟩ : ∃ y, y = (gt D k).2 := ⟨_, rfl⟩
        rw [← hx] at d1
        rw [← hy] at d2
        have hel : el (gt D k) (id, t) = el (x, y) (id, t) := by rw [hx, hy]
        have HX := Lib.hid hx
        clear hx hy
        rw [Nat.zero_add] at d1 d2
        have ROUND : el (x, y) (id, t) = true → ∀ j, j < k + 1 → el (gt D j) (id, t) = true := fun he j hj => by
          rcases Nat.lt_or_eq_of_le (Nat.le_of_lt_succ hj) with h | rfl
          · exact hall j h
          · rw [hel]; exact he
        by_cases hy1 : y < t
        · have HN := Lib.hid (ROUND (by rw [el_iff]; exact .inl hy1))
          clear hall ROUND hel
          go_wp2_with fail
          go_round
          case rel => exact ⟨k + 1, by omega, HN.out, by go_num⟩
          case measure => simp [intOf]; omega
        · by_cases hy2 : y = t
          · have hb2 : (y == t) = true := by simpa using hy2
            by_cases hx1 : x < id
            · have HN := Lib.hid (ROUND (by rw [el_iff]; exact .inr ⟨hy2, hx1⟩))
              clear hall ROUND hel hy2
              go_wp2_with fail
              go_round
              case rel => exact ⟨k + 1, by omega, HN.out, by go_num⟩
              case measure => simp [intOf]; omega
            · have hA := ahead_is (x := (id, t)) hk hall (fun _ => by rw [hel]; exact el_no hy1 (fun _ => hx1))
              clear ROUND hel hy2
              have S0 : SetAt W W [] (.slice none 0 0) := ⟨World.ownsRow_nil _ _ _ _, Below.refl _ _⟩
              have q4 : (k : Int) ≤ (D.length : Int) := by omega
              have q5 : (D.length : Int) ≤ (c3 : Int) := by have := B4.out.es.cap; omega
              have HS0 := Lib.hid S0
              have hA' := Lib.hid hA
              clear hA S0 hall
              go_wp2_with (first
                | (at_builtin; refine append_any rfl (.tmp 73) (.tmp 77) 28 rfl W.heap.size 51 i0 _ 2 16 Try.underlying28 hinf hz0 hz1 hz2 rfl (by decide) (.slice none 0 0) 0 [] rfl HS0.out.own (some ⟨b, 0, none⟩) k c3 (ev (D.take k)) rfl (fun h => nomatch h) (by rw [ev_len, List.length_take]; omega) (fun ad had j u hu => by have := B4.out.es.from (i := 0) (n := k) (by omega) ad had j u (by simpa using hu); simpa using this) (ev_one _) (by unfold maxLen; omega) (by omega) (Nat.le_refl _) ?_; intro v1 w1 own1 grow1; have S1 := Lib.hid (HS0.out.step (N := D.take k) (Below.refl _ _) (by rw [List.length_take]; omega) rfl own1 grow1); have B5 := B4.out.step S1.out.below; have e0 := (at_cell B5.box 0 : _ = some _); have l5 := S1.out.below.size; clear own1 grow1 B5)
                | (at_builtin; refine append_any rfl (.tmp 79) (.tmp 83) 28 rfl W.heap.size 51 i0 _ 2 16 Try.underlying28 hinf hz0 hz1 hz2 rfl (by decide) _ _ _ rfl (World.ownsRow.alloc S1.out.own _) (some ⟨w1.heap.size, 0, none⟩) 1 1 [.int .i64 id, .int .i64 t] rfl (fun h => nomatch h) rfl (two_new _ _ _ _) (one_two _ _) (by simp <;> unfold maxLen <;> omega) (by simp <;> omega) (by simp <;> omega) ?_; intro v2 w4 own2 grow2; have S2 := Lib.hid (S1.out.step (N := [(id, t)]) ((Below.refl _ _).alloc S1.out.below.size _) rfl rfl own2 grow2); have B6 := B4.out.step S2.out.below; have e1 := (at_cell B6.box 0 : _ = some _); have E6 := Lib.hid B6.es; clear own2 grow2 B6)
                | (at_builtin; refine append_any rfl (.tmp 85) (.tmp 89) 28 rfl W.heap.size 51 i0 _ 2 16 Try.underlying28 hinf hz0 hz1 hz2 rfl (by decide) _ _ _ rfl S2.out.own _ _ _ (ev (D.drop k)) rfl (fun h => nomatch h) (by rw [ev_len, List.length_drop] <;> omega) (fun ad had j u hu => by cases had; have := E6.out.from (i := k) (n := D.length - k) (by omega) _ rfl j u (by rwa [List.take_of_length_le (by rw [List.length_drop]; omega)]); rw [addr_add] at this ⊢; rw [show k * 2 + j = 0 + (2 * k + j) by omega]; exact this) (ev_one _) (by simp; unfold maxLen; omega) (by simp; omega) S2.out.below.size ?_; intro v5 w5 own5 grow5; have S3 := Lib.hid (S2.out.step (N := D.drop k) (Below.refl _ _) (by rw [List.length_drop] <;> omega) rfl own5 grow5); have B7 := B4.out.step S3.out.below; have g0 := (at_cell B7.box 0 : _ = some _); have g1 := (at_cell B7.box 1 : _ = some _); have r0 := (at_cell B7.res 0 : _ = some _); have r1 := (at_cell B7.res 1 : _ = some _); have fg := at_frozen B7.box 0; have fr0 := at_frozen B7.res 0; have fr1 := at_frozen B7.res 1; have HB7 := Lib.hid B7; obtain ⟨p5, n5, c5, rfl⟩ : ∃ p n c, v5 = .slice p n c := (by obtain ⟨p5, c5, E5, _⟩ := S3.out.own.es; exact ⟨_, _, _, E5.val⟩); clear own5 grow5 B7))
              refine bodyPost_ret (v := .tuple #[.agg #[.slice p5 n5 c5, .int .i64 most], .int .i64 0]) ?_ rfl ?_
              · simp [results, Try.results8, go_sem, *]
              · obtain ⟨⟨v', p', c', h1, h2, hl⟩, h3⟩ := set_end (D := D) (k := k) hA'.out S3.out HB7.out B4.out most (.slice p5 n5 c5)
                exact ⟨.of h1 (by rw [HDD.out]; exact h2) (hl _), h3⟩
          · have hb2 : (y == t) = false := by simpa using hy2
            have hA := ahead_is (x := (id, t)) hk hall (fun _ => by rw [hel]; exact el_no hy1 (fun e => absurd e hy2))
            clear ROUND hel hy2
            have S0 : SetAt W W [] (.slice none 0 0) := ⟨World.ownsRow_nil _ _ _ _, Below.refl _ _⟩
            have q4 : (k : Int) ≤ (D.length : Int) := by omega
            have q5 : (D.length : Int) ≤ (c3 : Int) := by have := B4.out.es.cap; omega
            have HS0 := Lib.hid S0
            have hA' := Lib.hid hA
            clear hA S0 hall
            go_wp2_with (first
              | (at_builtin; refine append_any rfl (.tmp 73) (.tmp 77) 28 rfl W.heap.size 51 i0 _ 2 16 Try.underlying28 hinf hz0 hz1 hz2 rfl (by decide) (.slice none 0 0) 0 [] rfl HS0.out.own (some ⟨b, 0, none⟩) k c3 (ev (D.take k)) rfl (fun h => nomatch h) (by rw [ev_len, List.length_take]; omega) (fun ad had j u hu => by have := B4.out.es.from (i := 0) (n := k) (by omega) ad had j u (by simpa using hu); simpa using this) (ev_one _) (by unfold maxLen; omega) (by omega) (Nat.le_refl _) ?_; intro v1 w1 own1 grow1; have S1 := Lib.hid (HS0.out.step (N := D.take k) (Below.refl _ _) (by rw [List.length_take]; omega) rfl own1 grow1); have B5 := B4.out.step S1.out.below; have e0 := (at_cell B5.box 0 : _ = some _); have l5 := S1.out.below.size; clear own1 grow1 B5)
              | (at_builtin; refine append_any rfl (.tmp 79) (.tmp 83) 28 rfl W.heap.size 51 i0 _ 2 16 Try.underlying28 hinf hz0 hz1 hz2 rfl (by decide) _ _ _ rfl (World.ownsRow.alloc S1.out.own _) (some ⟨w1.heap.size, 0, none⟩) 1 1 [.int .i64 id, .int .i64 t] rfl (fun h => nomatch h) rfl (two_new _ _ _ _) (one_two _ _) (by simp <;> unfold maxLen <;> omega) (by simp <;> omega) (by simp <;> omega) ?_; intro v2 w4 own2 grow2; have S2 := Lib.hid (S1.out.step (N := [(id, t)]) ((Below.refl _ _).alloc S1.out.below.size _) rfl rfl own2 grow2); have B6 := B4.out.step S2.out.below; have e1 := (at_cell B6.box 0 : _ = some _); have E6 := Lib.hid B6.es; clear own2 grow2 B6)
              | (at_builtin; refine append_any rfl (.tmp 85) (.tmp 89) 28 rfl W.heap.size 51 i0 _ 2 16 Try.underlying28 hinf hz0 hz1 hz2 rfl (by decide) _ _ _ rfl S2.out.own _ _ _ (ev (D.drop k)) rfl (fun h => nomatch h) (by rw [ev_len, List.length_drop] <;> omega) (fun ad had j u hu => by cases had; have := E6.out.from (i := k) (n := D.length - k) (by omega) _ rfl j u (by rwa [List.take_of_length_le (by rw [List.length_drop]; omega)]); rw [addr_add] at this ⊢; rw [show k * 2 + j = 0 + (2 * k + j) by omega]; exact this) (ev_one _) (by simp; unfold maxLen; omega) (by simp; omega) S2.out.below.size ?_; intro v5 w5 own5 grow5; have S3 := Lib.hid (S2.out.step (N := D.drop k) (Below.refl _ _) (by rw [List.length_drop] <;> omega) rfl own5 grow5); have B7 := B4.out.step S3.out.below; have g0 := (at_cell B7.box 0 : _ = some _); have g1 := (at_cell B7.box 1 : _ = some _); have r0 := (at_cell B7.res 0 : _ = some _); have r1 := (at_cell B7.res 1 : _ = some _); have fg := at_frozen B7.box 0; have fr0 := at_frozen B7.res 0; have fr1 := at_frozen B7.res 1; have HB7 := Lib.hid B7; obtain ⟨p5, n5, c5, rfl⟩ : ∃ p n c, v5 = .slice p n c := (by obtain ⟨p5, c5, E5, _⟩ := S3.out.own.es; exact ⟨_, _, _, E5.val⟩); clear own5 grow5 B7))
            refine bodyPost_ret (v := .tuple #[.agg #[.slice p5 n5 c5, .int .i64 most], .int .i64 0]) ?_ rfl ?_
            · simp [results, Try.results8, go_sem, *]
            · obtain ⟨⟨v', p', c', h1, h2, hl⟩, h3⟩ := set_end (D := D) (k := k) hA'.out S3.out HB7.out B4.out most (.slice p5 n5 c5)
              exact ⟨.of h1 (by rw [HDD.out]; exact h2) (hl _), h3⟩
      · have hA := ahead_is (x := (id, t)) hk hall (fun h => absurd h (by omega))
        have q1 : (D.length : Int) ≤ (k : Int) := by omega
        by_cases hck : c3 = k
        · obtain rfl : k = c3 := hck.symm
          have S0 : SetAt W W [] (.slice none 0 0) := ⟨World.ownsRow_nil _ _ _ _, Below.refl _ _⟩
          have q4 : (k : Int) ≤ (D.length : Int) := by omega
          have q5 : (D.length : Int) ≤ (k : Int) := by have := B4.out.es.cap; omega
          have HS0 := Lib.hid S0
          have hA' := Lib.hid hA
          clear hA S0 hall
          go_wp2_with (first
            | (at_builtin; refine append_any rfl (.tmp 73) (.tmp 77) 28 rfl W.heap.size 51 i0 _ 2 16 Try.underlying28 hinf hz0 hz1 hz2 rfl (by decide) (.slice none 0 0) 0 [] rfl HS0.out.own (some ⟨b, 0, none⟩) k k (ev (D.take k)) rfl (fun h => nomatch h) (by rw [ev_len, List.length_take]; omega) (fun ad had j u hu => by have := B4.out.es.from (i := 0) (n := k) (by omega) ad had j u (by simpa using hu); simpa using this) (ev_one _) (by unfold maxLen; omega) (by omega) (Nat.le_refl _) ?_; intro v1 w1 own1 grow1; have S1 := Lib.hid (HS0.out.step (N := D.take k) (Below.refl _ _) (by rw [List.length_take]; omega) rfl own1 grow1); have B5 := B4.out.step S1.out.below; have e0 := (at_cell B5.box 0 : _ = some _); have l5 := S1.out.below.size; clear own1 grow1 B5)
            | (at_builtin; refine append_any rfl (.tmp 79) (.tmp 83) 28 rfl W.heap.size 51 i0 _ 2 16 Try.underlying28 hinf hz0 hz1 hz2 rfl (by decide) _ _ _ rfl (World.ownsRow.alloc S1.out.own _) (some ⟨w1.heap.size, 0, none⟩) 1 1 [.int .i64 id, .int .i64 t] rfl (fun h => nomatch h) rfl (two_new _ _ _ _) (one_two _ _) (by simp <;> unfold maxLen <;> omega) (by simp <;> omega) (by simp <;> omega) ?_; intro v2 w4 own2 grow2; have S2 := Lib.hid (S1.out.step (N := [(id, t)]) ((Below.refl _ _).alloc S1.out.below.size _) rfl rfl own2 grow2); have B6 := B4.out.step S2.out.below; have e1 := (at_cell B6.box 0 : _ = some _); have E6 := Lib.hid B6.es; clear own2 grow2 B6)
            | (at_builtin; refine append_any rfl (.tmp 85) (.tmp 89) 28 rfl W.heap.size 51 i0 _ 2 16 Try.underlying28 hinf hz0 hz1 hz2 rfl (by decide) _ _ _ rfl S2.out.own _ _ _ (ev (D.drop k)) rfl (fun h => nomatch h) (by rw [ev_len, List.length_drop] <;> omega) (fun ad had j u hu => by rw [List.drop_eq_nil_of_le (by omega)] at hu; simp [ev] at hu) (ev_one _) (by simp; unfold maxLen; omega) (by simp; omega) S2.out.below.size ?_; intro v5 w5 own5 grow5; have S3 := Lib.hid (S2.out.step (N := D.drop k) (Below.refl _ _) (by rw [List.length_drop] <;> omega) rfl own5 grow5); have B7 := B4.out.step S3.out.below; have g0 := (at_cell B7.box 0 : _ = some _); have g1 := (at_cell B7.box 1 : _ = some _); have r0 := (at_cell B7.res 0 : _ = some _); have r1 := (at_cell B7.res 1 : _ = some _); have fg := at_frozen B7.box 0; have fr0 := at_frozen B7.res 0; have fr1 := at_frozen B7.res 1; have HB7 := Lib.hid B7; obtain ⟨p5, n5, c5, rfl⟩ : ∃ p n c, v5 = .slice p n c := (by obtain ⟨p5, c5, E5, _⟩ := S3.out.own.es; exact ⟨_, _, _, E5.val⟩); clear own5 grow5 B7))
          refine bodyPost_ret (v := .tuple #[.agg #[.slice p5 n5 c5, .int .i64 most], .int .i64 0]) ?_ rfl ?_
          · simp [results, Try.results8, go_sem, *]
          · obtain ⟨⟨v', p', c', h1, h2, hl⟩, h3⟩ := set_end (D := D) (k := k) hA'.out S3.out HB7.out B4.out most (.slice p5 n5 c5)
            exact ⟨.of h1 (by rw [HDD.out]; exact h2) (hl _), h3⟩
        · have S0 : SetAt W W [] (.slice none 0 0) := ⟨World.ownsRow_nil _ _ _ _, Below.refl _ _⟩
          have q4 : (k : Int) ≤ (D.length : Int) := by omega
          have q5 : (D.length : Int) ≤ (c3 : Int) := by have := B4.out.es.cap; omega
          have HS0 := Lib.hid S0
          have hA' := Lib.hid hA
          clear hA S0 hall
          go_wp2_with (first
            | (at_builtin; refine append_any rfl (.tmp 73) (.tmp 77) 28 rfl W.heap.size 51 i0 _ 2 16 Try.underlying28 hinf hz0 hz1 hz2 rfl (by decide) (.slice none 0 0) 0 [] rfl HS0.out.own (some ⟨b, 0, none⟩) k c3 (ev (D.take k)) rfl (fun h => nomatch h) (by rw [ev_len, List.length_take]; omega) (fun ad had j u hu => by have := B4.out.es.from (i := 0) (n := k) (by omega) ad had j u (by simpa using hu); simpa using this) (ev_one _) (by unfold maxLen; omega) (by omega) (Nat.le_refl _) ?_; intro v1 w1 own1 grow1; have S1 := Lib.hid (HS0.out.step (N := D.take k) (Below.refl _ _) (by rw [List.length_take]; omega) rfl own1 grow1); have B5 := B4.out.step S1.out.below; have e0 := (at_cell B5.box 0 : _ = some _); have l5 := S1.out.below.size; clear own1 grow1 B5)
            | (at_builtin; refine append_any rfl (.tmp 79) (.tmp 83) 28 rfl W.heap.size 51 i0 _ 2 16 Try.underlying28 hinf hz0 hz1 hz2 rfl (by decide) _ _ _ rfl (World.ownsRow.alloc S1.out.own _) (some ⟨w1.heap.size, 0, none⟩) 1 1 [.int .i64 id, .int .i64 t] rfl (fun h => nomatch h) rfl (two_new _ _ _ _) (one_two _ _) (by simp <;> unfold maxLen <;> omega) (by simp <;> omega) (by simp <;> omega) ?_; intro v2 w4 own2 grow2; have S2 := Lib.hid (S1.out.step (N := [(id, t)]) ((Below.refl _ _).alloc S1.out.below.size _) rfl rfl own2 grow2); have B6 := B4.out.step S2.out.below; have e1 := (at_cell B6.box 0 : _ = some _); have E6 := Lib.hid B6.es; clear own2 grow2 B6)
            | (at_builtin; refine append_any rfl (.tmp 85) (.tmp 89) 28 rfl W.heap.size 51 i0 _ 2 16 Try.underlying28 hinf hz0 hz1 hz2 rfl (by decide) _ _ _ rfl S2.out.own _ _ _ (ev (D.drop k)) rfl (fun h => nomatch h) (by rw [ev_len, List.length_drop] <;> omega) (fun ad had j u hu => by rw [List.drop_eq_nil_of_le (by omega)] at hu; simp [ev] at hu) (ev_one _) (by simp; unfold maxLen; omega) (by simp; omega) S2.out.below.size ?_; intro v5 w5 own5 grow5; have S3 := Lib.hid (S2.out.step (N := D.drop k) (Below.refl _ _) (by rw [List.length_drop] <;> omega) rfl own5 grow5); have B7 := B4.out.step S3.out.below; have g0 := (at_cell B7.box 0 : _ = some _); have g1 := (at_cell B7.box 1 : _ = some _); have r0 := (at_cell B7.res 0 : _ = some _); have r1 := (at_cell B7.res 1 : _ = some _); have fg := at_frozen B7.box 0; have fr0 := at_frozen B7.res 0; have fr1 := at_frozen B7.res 1; have HB7 := Lib.hid B7; obtain ⟨p5, n5, c5, rfl⟩ : ∃ p n c, v5 = .slice p n c := (by obtain ⟨p5, c5, E5, _⟩ := S3.out.own.es; exact ⟨_, _, _, E5.val⟩); clear own5 grow5 B7))
          refine bodyPost_ret (v := .tuple #[.agg #[.slice p5 n5 c5, .int .i64 most], .int .i64 0]) ?_ rfl ?_
          · simp [results, Try.results8, go_sem, *]
          · obtain ⟨⟨v', p', c', h1, h2, hl⟩, h3⟩ := set_end (D := D) (k := k) hA'.out S3.out HB7.out B4.out most (.slice p5 n5 c5)
            exact ⟨.of h1 (by rw [HDD.out]; exact h2) (hl _), h3⟩

theorem set_ref (L : List Ent) (p : Option Addr) (c : Nat) (v : Value) (most id t : Int) (w : World) (h : Es w v L p c) (hL : L.length ≤ 10000) :
    Calls Try.prog 8 #[.agg #[v, .int .i64 most], .int .i64 id, .int .i64 t] w fun e w' =>
      SetPost w w' e most (setC L most id t) (setL L most id t) p ∧ Below w.heap.size w w' := by
  unfold setL
  cases ht : isTick t
  · have hc : setC L most id t = 1 := by simp [setC, ht]
    rw [hc, if_neg (by decide)]
    exact set_arg L p c v most id t w h ht
  · cases hi : isIn L id
    · by_cases hf : most ≤ L.length
      · have hc : setC L most id t = 6 := by simp [setC, ht, hi, hf]
        rw [hc, if_neg (by decide)]
        exact set_full L p c v most id t w h ht hi hf
      · have hc : setC L most id t = 0 := by simp [setC, ht, hi, hf]
        rw [hc, if_pos rfl]
        exact set_new L p c v most id t w h ht hL hi (by omega)
    · have hc : setC L most id t = 0 := by simp [setC, ht, hi]
      rw [hc, if_pos rfl]
      exact set_ok L p c v most id t w h ht hL hi

end Go.Proofs.Ytmmgpifidlekaaa.Timer

/-
  Layer 6 (timer): the document's own At, Due, Set, walked.
-/
import Derived.Test.YtmmgpifidlekaaaTimerRef
import Derived.Deep.LoopGhost
namespace Go.Proofs.Ytmmgpifidlekaaa.Timer
open Go.RowKit Go.Proofs.Ytmmgpifidlekaaa.Own Go.Proofs.Ytmmgpifidlekaaa.Hp

theorem whenL_at {L : List Ent} {k : Nat} {id : Int} (h : plc L id = (k : Int)) : whenL L id = (gt L k).2 := by
  induction L generalizing k with
  | nil => simp [plc] at h
  | cons e r ih =>
    unfold plc at h
    split at h
    · rename_i h1
      obtain rfl : k = 0 := by omega
      simp [whenL, h1, gt]
    · rename_i h1
      split at h
      · omega
      · obtain ⟨m, rfl⟩ : ∃ m, k = m + 1 := ⟨k - 1, by omega⟩
        have := ih (k := m) (by omega)
        have e1 : whenL (e :: r) id = whenL r id := by simp [whenL, h1]
        rw [e1, this]; simp [gt]
theorem whenL_none {L : List Ent} {id : Int} (h : isIn L id = false) : whenL L id = 0 := by
  simp only [isIn, List.any_eq_false] at h
  have : L.find? (fun e => decide (e.1 = id)) = none := by
    rw [List.find?_eq_none]; intro x hx; exact h x hx
  simp [whenL, this]

theorem at_ref (L : List Ent) (p : Option Addr) (c : Nat) (v : Value) (most id : Int) (w : World) (h : Es w v L p c) :
    Calls Try.prog 17 #[.agg #[v, .int .i64 most], .int .i64 id] w fun e w' =>
      e = .returned (.tuple #[.int .i64 (whenL L id), .bool (isIn L id)]) ∧ Below w.heap.size w w' := by
  have hp := fun w1 (h1 : Es w1 v L p c) => place_calls L p c v most id w1 h1
  obtain ⟨rfl, hc, hm, hnil, hcell⟩ := h
  have hE : Es (w.alloc (.cells #[.slice p L.length c, .int .i64 most] 30 (0, 0))) (.slice p L.length c) L p c :=
    Es.kept ⟨rfl, hc, hm, hnil, hcell⟩ ((Below.refl _ _).alloc (Nat.le_refl _) _)
  have hp1 := hp _ hE
  clear hp
  have hr := plc_range L id
  by_cases hn : plc L id < 0
  · have hi := (plc_neg L id).1 hn
    have hw := whenL_none hi
    have HI := Lib.hid hi
    have HW := Lib.hid hw
    clear hi hw hE hcell
    have hpe : plc L id = -1 := by omega
    rw [hpe] at hp1
    clear hn hr hpe
    go_enter Try.func17, Try.ntmps17
    go_wp2_with (first | (go_at_call 19; refine hp1.mono ?_; rintro e w2 ⟨rfl, hb2⟩))
    go_ret2
    exact ⟨by rw [HI.out, HW.out]; rfl, ((Below.refl _ _).alloc (Nat.le_refl _) _).trans (hb2.mono (by simp))⟩
  · obtain ⟨k, hk⟩ : ∃ k : Nat, plc L id = k := ⟨(plc L id).toNat, by omega⟩
    obtain ⟨hkl, _, _⟩ := plc_at hk
    have HW := Lib.hid (whenL_at hk)
    have HI := Lib.hid (show isIn L id = true from by
      cases hh : isIn L id
      · have := (plc_neg L id).2 hh; omega
      · rfl)
    rw [hk] at hp1
    obtain ⟨b, o, rfl, c1, c2⟩ := hE.cells k hkl
    have hlt : (k : Int) < (L.length : Int) := by omega
    clear hn hr hk hE hcell c1
    generalize (gt L k).2 = y at *
    have bx := at_cell (at_new w (.cells #[.slice (some ⟨b, o, none⟩) L.length c, .int .i64 most] 30 (0, 0))) 0
    have bl := World.block_lt_of_cell? _ _ c2
    go_enter Try.func17, Try.ntmps17
    go_wp2_with (first | (go_at_call 19; refine hp1.mono ?_; rintro e w2 ⟨rfl, hb2⟩; have d2 := (hb2.cell bl).trans c2; have dx := (hb2.cell (p := ⟨w.heap.size, 0, none⟩) (by simp)).trans bx))
    go_ret2
    exact ⟨by rw [HI.out, HW.out]; rfl, ((Below.refl _ _).alloc (Nat.le_refl _) _).trans (hb2.mono (by simp))⟩

/-- numbers as cells -/
def iv (l : List Int) : List Value := l.map fun x => .int .i64 x
/-- what stands where, in Due -/
structure DueAt (w wr : World) (L : List Ent) (p : Option Addr) (c : Nat) (most : Int) (O : List Int) (v : Value) : Prop where
  box : wr.heap[w.heap.size]? = some (.cells #[.slice p L.length c, .int .i64 most] 30 (0, 0))
  res : wr.heap[w.heap.size + 1]? = some (.cells #[.slice none 0 0, .int .i64 0] 30 (0, 0))
  own : wr.ownsRow (w.heap.size + 2) 3 1 v O.length (iv O)
  es : Es w (.slice p L.length c) L p c
  below : Below w.heap.size w wr
theorem info_int : (Try.prog.info? 3).map (fun i => (i.zero, i.size, i.bytes)) = some (some (.int .i64 0), 1, 8) := by kernel_rfl
theorem due_cons (x : Ent) (L : List Ent) (now : Int) : due (x :: L) now = if x.2 ≤ now then x :: due L now else [] := by simp [due, List.takeWhile_cons]
theorem rest_cons (x : Ent) (L : List Ent) (now : Int) : rest (x :: L) now = if x.2 ≤ now then rest L now else x :: L := by simp [rest, List.dropWhile_cons]
theorem one_new (w : World) (x : Value) (T : TypeId) : ∀ ad, some (⟨w.heap.size, 0, none⟩ : Addr) = some ad → ∀ j u, [x][j]? = some u → (w.alloc (.cells #[x] T (0, 0))).cell? (ad.add j) = some u := by
  rintro ad ⟨⟩ j u hu
  rw [add_at, at_cell (at_new w _)]
  simpa using hu
theorem Es.tail {w : World} {x : Ent} {L : List Ent} {b o c : Nat} (h : Es w (.slice (some ⟨b, o, none⟩) (L.length + 1) c) (x :: L) (some ⟨b, o, none⟩) c) (p' : Option Addr) (h0 : p' ≠ none) (hp : 0 < L.length → p' = some ⟨b, o + 2, none⟩) :
    Es w (.slice p' L.length (c - 1)) L p' (c - 1) := by
  have h1 := h.cap
  have h2 := h.max
  simp at h1
  refine ⟨rfl, by omega, by omega, fun h => absurd h h0, fun i hi => ?_⟩
  obtain ⟨b', o', e, c1, c2⟩ := h.cells (i + 1) (by simpa using hi)
  cases e
  refine ⟨b, o + 2, hp (by omega), ?_, ?_⟩
  · rw [show o + 2 + i * 2 = o + (i + 1) * 2 by omega]; simpa [gt] using c1
  · rw [show o + 2 + i * 2 + 1 = o + (i + 1) * 2 + 1 by omega]; simpa [gt] using c2

theorem iv_app (a : List Int) (x : Int) : iv (a ++ [x]) = iv a ++ [.int .i64 x] := by simp [iv]
theorem owns_set {w : World} {B : Nat} {T : TypeId} {s : Nat} {v : Value} {n : Nat} {xs : List Value} (h : w.ownsRow B T s v n xs) {k : Nat} (hk : k < B) (i : Nat) (x : Value) : (w.setCell ⟨k, i, none⟩ x).ownsRow B T s v n xs := by
  obtain ⟨h1, h2⟩ := h
  refine ⟨h1, ?_⟩
  rcases h2 with h2 | ⟨g, cap, cur, hv, hg, hh, r⟩
  · exact .inl h2
  · exact .inr ⟨g, cap, cur, hv, hg, by rw [at_set_other _ (by omega)]; exact hh, r⟩
theorem DueAt.add {w wr w1 : World} {L : List Ent} {p : Option Addr} {c : Nat} {most : Int} {O : List Int} {v v' : Value} {y : Int} {o : Obj} (h : DueAt w wr L p c most O v)
    (ho : w1.ownsRow (w.heap.size + 2) 3 1 v' (O.length + 1) (iv O ++ [.int .i64 y])) (hg : (wr.alloc o).grownBy w1 v.ownBlock) : DueAt w w1 L p c most (O ++ [y]) v' := by
  have hs := h.below.size
  have l1 := at_lt h.box
  have l2 := at_lt h.res
  have ne : ∀ {k}, k < w.heap.size + 2 → some k ≠ v.ownBlock := fun hk e => by have := (World.ownsRow.lt h.own) _ e.symm; omega
  refine ⟨?_, ?_, ?_, h.es, ?_⟩
  · rw [hg.block _ (by simp; omega) (ne (by omega))]; exact at_old _ _ h.box
  · rw [hg.block _ (by simp; omega) (ne (by omega))]; exact at_old _ _ h.res
  · rw [List.length_append, iv_app]; exact ho
  · exact (h.below.alloc (by omega) o).grown hg (by simp; omega) (fun k hk => by have := (World.ownsRow.lt h.own) k hk; omega)
theorem DueAt.pop {w wr : World} {x : Ent} {L : List Ent} {b o : Nat} {c : Nat} {most : Int} {O : List Int} {v : Value} (h : DueAt w wr (x :: L) (some ⟨b, o, none⟩) c most O v) (p' : Option Addr) (h0 : p' ≠ none)
    (hp : 0 < L.length → p' = some ⟨b, o + 2, none⟩) : DueAt w (wr.setCell ⟨w.heap.size, 0, none⟩ (.slice p' L.length (c - 1))) L p' (c - 1) most O v := by
  refine ⟨?_, ?_, owns_set h.own (by omega) _ _, h.es.tail p' h0 hp, h.below.setCell (p := ⟨_, _, _⟩) (Nat.le_refl _) _⟩
  · rw [at_set h.box]; simp
  · rw [at_set_other _ (by omega)]; exact h.res
theorem DueAt.done {w wr : World} {L : List Ent} {p : Option Addr} {c : Nat} {most : Int} {O : List Int} {v : Value} (h : DueAt w wr L p c most O v) (x y : Value) :
    Es ((wr.setCell ⟨w.heap.size + 1, 0, none⟩ x).setCell ⟨w.heap.size + 1, 1, none⟩ y) (.slice p L.length c) L p c ∧
    ((wr.setCell ⟨w.heap.size + 1, 0, none⟩ x).setCell ⟨w.heap.size + 1, 1, none⟩ y).ownsRow w.heap.size 3 1 v O.length (iv O) ∧
    Below w.heap.size w ((wr.setCell ⟨w.heap.size + 1, 0, none⟩ x).setCell ⟨w.heap.size + 1, 1, none⟩ y) := by
  have hb := (h.below.setCell (p := ⟨w.heap.size + 1, 0, none⟩) (Nat.le_succ _) x).setCell (p := ⟨w.heap.size + 1, 1, none⟩) (Nat.le_succ _) y
  exact ⟨h.es.kept hb, owns_base (owns_set (owns_set h.own (by omega) _ _) (by omega) _ _) (by omega), hb⟩

set_option maxHeartbeats 1000000 in
theorem due_ref (L : List Ent) (p : Option Addr) (c : Nat) (v : Value) (most now : Int) (w : World) (h : Es w v L p c) (hL : L.length ≤ 100000) :
    Calls Try.prog 12 #[.agg #[v, .int .i64 most], .int .i64 now] w fun e w' =>
      (∃ v' p' c' u, e = .returned (.tuple #[.agg #[v', .int .i64 most], u]) ∧ Es w' v' (rest L now) p' c' ∧ Loc w w' p p' ∧ w'.ownsRow w.heap.size 3 1 u (due L now).length (iv ((due L now).map (·.1)))) ∧ Below w.heap.size w w' := by
  obtain ⟨i0, hi, hz0, hz1, hz2⟩ := info_parts info_int
  obtain rfl := h.val
  go_enter Try.func12, Try.ntmps12
  go_wp2_with fail
  go_loopg [6] L.length (fun g v wr => ∃ R O q d, g = List.length R ∧ Hid (due L now = O ++ due R now) ∧ Hid (rest L now = rest R now) ∧ R.length ≤ L.length ∧ O.length + R.length ≤ L.length ∧ Hid (∀ b o, q = some ⟨b, o, none⟩ → ∃ o', p = some ⟨b, o', none⟩) ∧ DueAt w wr R q d most (O.map (·.1)) v)
  case atStart => exact ⟨L, [], p, c, rfl, rfl, rfl, Nat.le_refl _, by simp, (fun b o e => ⟨o, e⟩), at_old _ _ (at_new _ _), at_newk _ _ (by simp), World.ownsRow_nil _ _ _ _, h, ((Below.refl _ w).alloc (Nat.le_refl _) _).alloc (by simp) _⟩
  case round =>
    obtain ⟨R, O, q, d, rfl, HD, HR, hrl, hol, HL, C⟩ := hrel
    have b0 := (at_cell C.box 0 : _ = some _)
    have hs := C.below.size
    have l2 := at_lt C.res
    have hown := C.own
    have y0 := (at_cell C.res 0 : _ = some _)
    have y1 := (at_cell C.res 1 : _ = some _)
    have z1 := at_frozen C.res 0
    have z2 := at_frozen C.res 1
    have z0 := at_frozen C.box 0
    have b1 := (at_cell C.box 1 : _ = some _)
    cases R with
    | nil =>
      have HC := Lib.hid C
      clear C
      go_wp2_with fail
      refine bodyPost_ret (v := .tuple #[.agg #[.slice q 0 d, .int .i64 most], u6]) ?_ rfl ?_
      · simp [results, Try.results12, go_sem, *]
      · obtain ⟨r1, r2, r3⟩ := HC.out.done (.slice q 0 d) (.int .i64 most)
        exact ⟨⟨_, _, _, _, rfl, by rw [HR.out]; exact r1, (fun b o e => .inl (HL.out b o e)), by rw [HD.out]; simpa [due, List.length_map] using r2⟩, r3⟩
    | cons x R =>
      obtain ⟨b, o, rfl, c1, c2⟩ := C.es.cells 0 (by simp)
      have d1 := (C.below.cell (World.block_lt_of_cell? w _ c1)).trans c1
      have d2 := (C.below.cell (World.block_lt_of_cell? w _ c2)).trans c2
      have hcap := C.es.cap
      have hmax := C.es.max
      simp only [gt, List.getD_cons_zero, Nat.zero_mul, Nat.add_zero] at d1 d2
      rw [List.length_cons] at hcap b0
      have hrl' : R.length + 1 ≤ L.length := by simpa using hrl
      have hol' : O.length + (R.length + 1) ≤ L.length := by simpa using hol
      obtain ⟨y, hy⟩ : ∃ y, y = x.1 := ⟨_, rfl⟩
      obtain ⟨z, hz⟩ : ∃ z, z = x.2 := ⟨_, rfl⟩
      rw [← hy] at d1
      rw [← hz] at d2
      have HY := Lib.hid hy
      have HZ := Lib.hid hz
      have HC := Lib.hid C
      have q1 : (0 : Int) < ((R.length + 1 : Nat) : Int) := by omega
      clear hy hz C c1 c2 hrl hol
      by_cases hle : z ≤ now
      · have HD2 := Lib.hid (show due L now = (O ++ [x]) ++ due R now by rw [HD.out, due_cons, if_pos (by rw [← HZ.out]; exact hle)]; simp)
        have HR2 := Lib.hid (show rest L now = rest R now by rw [HR.out, rest_cons, if_pos (by rw [← HZ.out]; exact hle)])
        by_cases hd : d = 1
        · subst hd
          obtain rfl : R = [] := List.eq_nil_of_length_eq_zero (by omega)
          go_wp2_with (first | (at_builtin; refine append_any rfl (.tmp 20) (.tmp 26) 39 rfl (w.heap.size + 2) 3 i0 _ 1 8 Try.underlying39 hi hz0 hz1 hz2 rfl (by decide) _ _ _ rfl (World.ownsRow.alloc hown _) (some ⟨wr.heap.size, 0, none⟩) 1 1 [.int .i64 y] rfl (fun h => nomatch h) rfl (one_new _ _ _) (by intro u hu; simp at hu; subst hu; rfl) (by simp; unfold maxLen; omega) (by simp; omega) (by simp; omega) ?_; intro v' w1 hown1 hgrow1; have C1 := HC.out.add hown1 hgrow1; have e0 := (at_cell C1.box 0 : _ = some _); have f0 := at_frozen C1.box 0; have C2 := Lib.hid (C1.pop (some ⟨b, o, none⟩) (by simp) (by intro hh; omega)); rw [List.length_cons] at e0; clear C1))
          go_roundg 0
          case rel => exact ⟨[], O ++ [x], some ⟨b, o, none⟩, 0, rfl, HD2, HR2, by simp, by simp at hol' ⊢; omega, HL, by rw [List.map_append, List.map_cons, List.map_nil, ← HY.out]; exact C2⟩
          case measure => simp
        · go_wp2_with (first | (at_builtin; refine append_any rfl (.tmp 20) (.tmp 26) 39 rfl (w.heap.size + 2) 3 i0 _ 1 8 Try.underlying39 hi hz0 hz1 hz2 rfl (by decide) _ _ _ rfl (World.ownsRow.alloc hown _) (some ⟨wr.heap.size, 0, none⟩) 1 1 [.int .i64 y] rfl (fun h => nomatch h) rfl (one_new _ _ _) (by intro u hu; simp at hu; subst hu; rfl) (by simp; unfold maxLen; omega) (by simp; omega) (by simp; omega) ?_; intro v' w1 hown1 hgrow1; have C1 := HC.out.add hown1 hgrow1; have e0 := (at_cell C1.box 0 : _ = some _); have f0 := at_frozen C1.box 0; have C2 := Lib.hid (C1.pop (some ⟨b, o + 2, none⟩) (by simp) (by intro hh; rfl)); rw [List.length_cons] at e0; clear C1))
          go_roundg R.length
          case rel => exact ⟨R, O ++ [x], some ⟨b, o + 2, none⟩, _, rfl, HD2, HR2, by omega, by simp; omega, Lib.hid (fun b' o' e => by cases e; exact HL.out _ _ rfl), by rw [List.map_append, List.map_cons, List.map_nil, ← HY.out]; exact C2⟩
          case measure => simp
      · have HD2 := Lib.hid (show due L now = O by rw [HD.out, due_cons, if_neg (by rw [← HZ.out]; exact hle)]; simp)
        have HR2 := Lib.hid (show rest L now = x :: R by rw [HR.out, rest_cons, if_neg (by rw [← HZ.out]; exact hle)])
        go_wp2_with fail
        refine bodyPost_ret (v := .tuple #[.agg #[.slice (some ⟨b, o, none⟩) (R.length + 1) d, .int .i64 most], u6]) ?_ rfl ?_
        · simp [results, Try.results12, go_sem, *]
        · obtain ⟨r1, r2, r3⟩ := HC.out.done (.slice (some ⟨b, o, none⟩) (R.length + 1) d) (.int .i64 most)
          exact ⟨⟨_, _, _, _, rfl, by rw [HR2.out]; exact r1, (fun b o e => .inl (HL.out b o e)), by rw [HD2.out]; simpa [List.length_map] using r2⟩, r3⟩
end Go.Proofs.Ytmmgpifidlekaaa.Timer

/-
  Layer 6 (timer): the heap's Swap, walked.
-/
import Derived.Test.YtmmgpifidlekaaaTimerPl
namespace Go.Proofs.Ytmmgpifidlekaaa.Timer
open Go.RowKit Go.MapKept Go.ChangeMaps Go.Proofs.Ytmmgpifidlekaaa.Own Go.Proofs.Ytmmgpifidlekaaa.Hp Go.Proofs.Ytmmgpifidlekaaa.KM

/-- the two in the row -/
theorem Row.swap {w : World} {qb c : Nat} {L : List Ent} (R : Row w qb c L) {i j : Nat} (hi : i < L.length) (hj : j < L.length) :
    Row (((((w.setCell ⟨qb, i * 2, none⟩ (.int .i64 (gt L j).1)).setCell ⟨qb, i * 2 + 1, none⟩ (.int .i64 (gt L j).2)).setCell ⟨qb, j * 2, none⟩ (.int .i64 (gt L i).1)).setCell ⟨qb, j * 2 + 1, none⟩ (.int .i64 (gt L i).2)).drew) qb c (swp L i j) ∧
    Out (fun k => k = qb) w (((((w.setCell ⟨qb, i * 2, none⟩ (.int .i64 (gt L j).1)).setCell ⟨qb, i * 2 + 1, none⟩ (.int .i64 (gt L j).2)).setCell ⟨qb, j * 2, none⟩ (.int .i64 (gt L i).1)).setCell ⟨qb, j * 2 + 1, none⟩ (.int .i64 (gt L i).2)).drew) := by
  obtain ⟨cur, r1, r2, r3⟩ := R.row
  have hl := R.len
  refine ⟨⟨⟨_, at_set (at_set (at_set (at_set r1 (i * 2) _) (i * 2 + 1) _) (j * 2) _) (j * 2 + 1) _, by simpa using r2, fun k hk => ?_⟩, by rw [swp_len]; exact hl, R.max⟩,
    (((((Out.refl (fun k => k = qb) w).setCell (p := ⟨qb, i * 2, none⟩) (fun _ => rfl) _).setCell (p := ⟨qb, i * 2 + 1, none⟩) (fun _ => rfl) _).setCell (p := ⟨qb, j * 2, none⟩) (fun _ => rfl) _).setCell (p := ⟨qb, j * 2 + 1, none⟩) (fun _ => rfl) _).drew⟩
  rw [swp_len] at hk
  rw [gt_swp hi hj]
  simp only [Array.getElem?_setIfInBounds, Array.size_setIfInBounds]
  obtain ⟨k1, k2⟩ := r3 k hk
  by_cases h1 : k = j
  · subst h1
    constructor
    · rw [if_neg (by omega), if_pos rfl, if_pos (by omega), if_pos rfl]
    · rw [if_pos rfl, if_pos (by omega), if_pos rfl]
  · by_cases h2 : k = i
    · subst h2
      constructor
      · rw [if_neg (by omega), if_neg (by omega), if_neg (by omega), if_pos rfl, if_pos (by omega), if_neg h1, if_pos rfl]
      · rw [if_neg (by omega), if_neg (by omega), if_pos rfl, if_pos (by omega), if_neg h1, if_pos rfl]
    · constructor
      · rw [if_neg (by omega), if_neg (by omega), if_neg (by omega), if_neg (by omega), if_neg h1, if_neg h2]; exact k1
      · rw [if_neg (by omega), if_neg (by omega), if_neg (by omega), if_neg (by omega), if_neg h1, if_neg h2]; exact k2

theorem gt_swp_any {L : List Ent} {i j : Nat} (hi : i < L.length) (hj : j < L.length) : gt (swp L i j) i = gt L j := by
  by_cases h : i = j
  · subst h; exact gt_swp_j hi hj
  · exact gt_swp_i hi hj h

section
variable {w : World} {tb mb qb c : Nat} {most : Int} {L : List Ent}
theorem swap_calls (h : TAt w tb mb most (some ⟨qb, 0, none⟩) c L (pl L) L.length) (hd : Dst L) (hr : ∀ e ∈ L, i64 e.1) (i j : Nat) (hi : i < L.length) (hj : j < L.length) :
    Calls Try.prog 49 #[.pointer (some ⟨tb, 0, none⟩), .int .i64 i, .int .i64 j] w fun e w' =>
      e = .returned (.tuple #[]) ∧ TAt w' tb mb most (some ⟨qb, 0, none⟩) c (swp L i j) (pl (swp L i j)) (swp L i j).length ∧ Out (Bl tb mb (some ⟨qb, 0, none⟩)) w w' := by
  obtain ⟨R, qt, qm⟩ : Row w qb c L ∧ qb ≠ tb ∧ qb ≠ mb := by
    rcases h.q with ⟨r, _⟩ | ⟨qb', r, k⟩
    · cases r
    · cases r; exact k
  have b0 := (at_cell h.box 0 : _ = some _)
  have b1 := (at_cell h.box 1 : _ = some _)
  obtain ⟨a1, a2⟩ := R.cell hi
  obtain ⟨x1, x2⟩ := R.cell hj
  have q1 : (i : Int) < (L.length : Int) := by omega
  have q2 : (j : Int) < (L.length : Int) := by omega
  have q3 : (L.length : Int) ≤ 9223372036854775807 := by have := R.len; have := R.max; unfold maxLen at this; omega
  have tl := at_lt h.box
  have ql := R.lt
  obtain ⟨cur, r1, r2, r3⟩ := R.row
  have fq := at_frozen r1
  have qt' := Ne.symm qt
  have hlen : (swp L i j).length = L.length := swp_len L i j
  obtain ⟨S1, S2⟩ := R.swap hi hj
  have g1 : (gt (swp L i j) i) = gt L j := gt_swp_any hi hj
  have g2 : (gt (swp L i j) j) = gt L i := gt_swp_j hi hj
  have m1 := ikey (hr _ (gt_mem hi))
  have m2 := ikey (hr _ (gt_mem hj))
  have p1 := pl_at hd hi
  have p2 := pl_at hd hj
  have hP := Lib.hid (pl_swp hd hi hj)
  have K := h.map
  have B := h.box
  have tm := h.tm
  clear h r3
  obtain ⟨id1, hid1⟩ : ∃ x, (gt L i).1 = x := ⟨_, rfl⟩
  obtain ⟨at1, hat1⟩ : ∃ x, (gt L i).2 = x := ⟨_, rfl⟩
  obtain ⟨id2, hid2⟩ : ∃ x, (gt L j).1 = x := ⟨_, rfl⟩
  obtain ⟨at2, hat2⟩ : ∃ x, (gt L j).2 = x := ⟨_, rfl⟩
  simp only [hid1, hat1, hid2, hat2] at a1 a2 x1 x2 S1 S2 m1 m2 p1 p2 hP
  obtain ⟨y1, hy1⟩ := cell?_setCell_some (w := w) (p := ⟨qb, i * 2, none⟩) (x := .int .i64 id2) (q := ⟨qb, j * 2, none⟩) x1
  obtain ⟨y0, hy0⟩ := cell?_setCell_some (w := w) (p := ⟨qb, i * 2, none⟩) (x := .int .i64 id2) (q := ⟨qb, j * 2 + 1, none⟩) x2
  obtain ⟨y2, hy2⟩ := cell?_setCell_some (w := w.setCell ⟨qb, i * 2, none⟩ (.int .i64 id2)) (p := ⟨qb, i * 2 + 1, none⟩) (x := .int .i64 at2) (q := ⟨qb, j * 2 + 1, none⟩) hy0
  clear hy0
  go_enter Try.func49, Try.ntmps49
  go_wp2
  go_region
  generalize ((((w.setCell ⟨qb, i * 2, none⟩ (Value.int .i64 id2)).setCell ⟨qb, i * 2 + 1, none⟩ (Value.int .i64 at2)).setCell ⟨qb, j * 2, none⟩ (Value.int .i64 id1)).setCell ⟨qb, j * 2 + 1, none⟩ (Value.int .i64 at1)).drew = w1 at S1 S2 ⊢
  have K1 := K.kept (S2.block mb K.lt (Ne.symm qm))
  have B1 := S2.at_ B qt'
  have c0 := (at_cell B1 0 : _ = some _)
  have c1 := (at_cell B1 1 : _ = some _)
  have d1 := (S1.cell (i := i) (by rw [hlen]; exact hi)).1
  have d2 := (S1.cell (i := j) (by rw [hlen]; exact hj)).1
  rw [g1, hid2] at d1
  rw [g2, hid1] at d2
  go_wp2
  go_still_tail 13, (by kernel_rfl)
  change wpList _ _ _ _ _ w1.drew
  refine wp_store rfl _ _ _ _ rfl _ _ keyed Try.underlying57 mb _ _ rfl (K1.kept (w' := w1.drew) rfl) id2 rfl (.int .i64 (i : Int)) rfl m2 (ik_inj _) ?_
  intro w2 K2 O2
  rw [p2] at K2
  have T2 := Lib.hid (O2.ofDrew)
  have B2 := T2.out.at_ B1 tm
  have R2 := S1.kept (T2.out.block qb S1.lt qm)
  have c0' := (at_cell B2 0 : _ = some _)
  have c1' := (at_cell B2 1 : _ = some _)
  have d2' := (R2.cell (i := j) (by rw [hlen]; exact hj)).1
  rw [g2, hid1] at d2'
  clear c0 c1 d1 d2 a1 a2 x1 x2 b0 b1
  go_wp2
  go_still_tail 13, (by kernel_rfl)
  change wpList _ _ _ _ _ w2.drew
  refine wp_store rfl _ _ _ _ rfl _ _ keyed Try.underlying57 mb _ _ rfl (K2.kept (w' := w2.drew) rfl) id1 rfl (.int .i64 (j : Int)) rfl m1 (ik_inj _) ?_
  intro w3 K3 O3
  have hp3 : (put (pl L) id2 (.int .i64 i) id1).isSome = true := by unfold put; split <;> simp [p1]
  rw [hp3] at K3
  have T3 := Lib.hid (O3.ofDrew)
  go_wp2
  go_end0
  refine ⟨rfl, ⟨?_, .inr ⟨qb, rfl, R2.kept (T3.out.block qb R2.lt qm), qt, qm⟩, tm, K3.cong hP.out ?_⟩, ?_⟩
  · rw [hlen]; exact T3.out.at_ B2 tm
  · simp
  · refine ((S2.mono (S' := Bl tb mb (some ⟨qb, 0, none⟩)) fun k _ hk => .inr (.inr (by rw [hk]))).trans T2.out fun k _ hk => ?_).trans T3.out fun k _ hk => ?_
    · exact .inr (.inl hk)
    · exact .inr (.inl hk)
end
end Go.Proofs.Ytmmgpifidlekaaa.Timer

/-
  Layer 6 (timer): the heap's Push and Pop, walked.
-/
import Derived.Test.YtmmgpifidlekaaaTimerSwap
import Derived.Maps.AppendAt
import Derived.Deep.AppendLies
import Derived.Deep.RegionLaw
namespace Go.Proofs.Ytmmgpifidlekaaa.Timer
open Go.RowKit Go.Proofs.Ytmmgpifidlekaaa.Own Go.Proofs.Ytmmgpifidlekaaa.Hp Go.Proofs.Ytmmgpifidlekaaa.KM

section
variable {w : World} {tb mb : Nat} {most : Int} {pv : Option Addr} {c : Nat} {L : List Ent} {f : Int → Option Value} {n : Nat}

theorem TAt.owns (h : TAt w tb mb most pv c L f n) : w.ownsRow 0 67 2 (.slice pv L.length c) L.length (ec L) := by
  refine ⟨by simp [ec_len], ?_⟩
  rcases h.q with ⟨rfl, rfl, rfl⟩ | ⟨qb, rfl, R, _, _⟩
  · exact .inl ⟨rfl, rfl⟩
  · obtain ⟨cur, r1, r2, r3⟩ := R.row
    have hl := R.len
    refine .inr ⟨qb, c, cur, rfl, Nat.zero_le _, r1, hl, R.max, r2, ?_⟩
    apply List.ext_getElem?
    intro i
    by_cases hi : i < L.length * 2
    · rw [List.getElem?_take, if_pos hi, Array.getElem?_toList]
      obtain ⟨k, rfl | rfl⟩ : ∃ k, i = k * 2 ∨ i = k * 2 + 1 := ⟨i / 2, by omega⟩
      · rw [(r3 k (by omega)).1, (ec_get (show k < L.length by omega)).1]
      · rw [(r3 k (by omega)).2, (ec_get (show k < L.length by omega)).2]
    · rw [List.getElem?_eq_none (by simp; omega), List.getElem?_eq_none (by rw [ec_len]; omega)]
theorem info_wait : (Try.prog.info? 67).map (fun i => (i.zero, i.size, i.bytes)) = some (some (.agg #[.int .i64 0, .int .i64 0]), 2, 16) := by kernel_rfl

/-- one more behind: the box, the row -/
theorem TAt.push {wa w2 : World} {x : Ent} {g cap : Nat} (h : TAt w tb mb most pv c L f n) (hb : Below w.heap.size w wa)
    (ho : w2.ownsRow 0 67 2 (.slice (some ⟨g, 0, none⟩) (L.length + 1) cap) (L.length + 1) (ec L ++ ec [x])) (hg : wa.grownBy w2 (Value.slice pv L.length c).ownBlock)
    (hat : (Value.slice pv L.length c).ownBlock = some g ∨ g = wa.heap.size) :
    w2.heap[tb]? = some (.cells #[.slice pv L.length c, .map (some mb), .int .i64 most] 62 (0, 0)) ∧
      TAt (w2.setCell ⟨tb, 0, none⟩ (.slice (some ⟨g, 0, none⟩) (L.length + 1) cap)) tb mb most (some ⟨g, 0, none⟩) cap (L ++ [x]) f n ∧
      Out (Bl tb mb pv) w (w2.setCell ⟨tb, 0, none⟩ (.slice (some ⟨g, 0, none⟩) (L.length + 1) cap)) ∧ (pv = some ⟨g, 0, none⟩ ∨ w.heap.size ≤ g) := by
  have hsz := hb.size
  have own : ∀ k, (Value.slice pv L.length c).ownBlock = some k → pv = some ⟨k, 0, none⟩ := by
    intro k hk
    rcases h.q with ⟨rfl, _, _⟩ | ⟨qb, rfl, _⟩
    · simp [Value.ownBlock] at hk
    · simp [Value.ownBlock] at hk; rw [hk]
  have keep : ∀ k, k < w.heap.size → pv ≠ some ⟨k, 0, none⟩ → w2.heap[k]? = w.heap[k]? := fun k hk h2 => by
    rw [hg.block k (by omega) (fun e => h2 (own k e.symm)), hb.block k hk]
  have tlt := at_lt h.box
  have mlt := h.map.lt
  have tpv : pv ≠ some ⟨tb, 0, none⟩ := by
    intro e
    rcases h.q with ⟨r, _, _⟩ | ⟨qb, r, _, r2, _⟩
    · rw [r] at e; cases e
    · rw [r] at e; cases e; exact r2 rfl
  have mpv : pv ≠ some ⟨mb, 0, none⟩ := by
    intro e
    rcases h.q with ⟨r, _, _⟩ | ⟨qb, r, _, _, r2⟩
    · rw [r] at e; cases e
    · rw [r] at e; cases e; exact r2 rfl
  have hgl : pv = some ⟨g, 0, none⟩ ∨ w.heap.size ≤ g := by
    rcases hat with e | e
    · exact .inl (own g e)
    · exact .inr (by omega)
  have gt_ : g ≠ tb := by
    rcases hgl with e | e
    · rintro rfl; exact tpv e
    · omega
  have gm : g ≠ mb := by
    rcases hgl with e | e
    · rintro rfl; exact mpv e
    · omega
  have hB := (keep tb tlt tpv).trans h.box
  rcases ho.2 with ⟨_, h0⟩ | ⟨g', cap', cur, e, _, g1, g2, g3, g4, g5⟩
  · omega
  · cases e
    refine ⟨hB, ⟨?_, .inr ⟨g, rfl, ⟨⟨cur, ?_, g4, fun i hi => ?_⟩, by simpa using g2, g3⟩, gt_, gm⟩, h.tm, h.map.kept ?_⟩, ⟨?_, ?_, ?_, ?_, fun k hk hn => ?_⟩, hgl⟩
    · rw [at_set hB]; simp
    · rw [at_set_other _ gt_]; exact g1
    · have hi' : i < L.length + 1 := by simpa using hi
      have e2 : ec L ++ ec [x] = ec (L ++ [x]) := (ec_app _ _).symm
      obtain ⟨x1, x2⟩ := ec_get hi
      rw [← e2, ← g5, List.getElem?_take, if_pos (by omega), Array.getElem?_toList] at x1 x2
      exact ⟨x1, x2⟩
    · rw [at_set_other _ (Ne.symm h.tm)]; exact keep mb mlt mpv
    · show w2.os = _; rw [hg.os, hb.os]
    · show w2.tape = _; rw [hg.tape, hb.tape]
    · show w2.output = _; rw [hg.output, hb.output]
    · have := hg.size; simp; omega
    · have k1 : k ≠ tb := fun e => hn (.inl e)
      have k3 : pv ≠ some ⟨k, 0, none⟩ := fun e => hn (.inr (.inr e))
      rw [at_set_other _ k1, keep k hk k3]

theorem assert_wait (v : Value) (w : World) : (Instr.typeAssert (.iface 67 v) 20 67 false).run Try.prog w = .ok v w := by kernel_rfl
theorem two_fresh (w : World) (a b : Value) (t : TypeId) : ∀ j u, [a, b][j]? = some u → (w.alloc (.cells #[a, b] t)).drew.cell? ((⟨w.heap.size, 0, none⟩ : Addr).add j) = some u := by
  intro j u hj
  have e : (⟨w.heap.size, 0, none⟩ : Addr).add j = ⟨w.heap.size, j, none⟩ := by cases j <;> simp [Addr.add]
  rw [e]
  have := at_cell (at_new w (.cells #[a, b] t)) j
  refine Eq.trans this ?_
  simpa using hj

theorem pushm_calls (h : TAt w tb mb most pv c L f n) (hl : L.length ≤ 100000) (id t : Int) :
    Calls Try.prog 48 #[.pointer (some ⟨tb, 0, none⟩), .iface 67 (.agg #[.int .i64 id, .int .i64 t])] w fun e w' =>
      e = .returned (.tuple #[]) ∧ ∃ g c', TAt w' tb mb most (some ⟨g, 0, none⟩) c' (L ++ [(id, t)]) f n ∧ Out (Bl tb mb pv) w w' ∧ (pv = some ⟨g, 0, none⟩ ∨ w.heap.size ≤ g) := by
  obtain ⟨i0, hi, hz0, hz1, hz2⟩ := info_parts info_wait
  have b0 := (at_cell h.box 0 : _ = some _)
  have f0 := at_frozen h.box 0
  have hown := h.owns
  have tlt := at_lt h.box
  have HP := Lib.hid (fun wa w2 g cap => h.push (wa := wa) (w2 := w2) (x := (id, t)) (g := g) (cap := cap))
  clear h
  have hta := assert_wait
  have hownA := fun o => (World.ownsRow.alloc hown o : (w.alloc o).drew.ownsRow 0 67 2 _ _ _)
  go_enter Try.func48, Try.ntmps48
  go_wp2
  go_region_law (refine step_append_lies _ rfl (.tmp 8) (.tmp 11) 58 rfl 0 67 i0 _ 2 16 Try.underlying58 hi hz0 hz1 hz2 rfl (by decide) _ _ _ rfl (hownA _) ⟨w.heap.size, 0, none⟩ 1 1 [.int .i64 id, .int .i64 t] rfl rfl (two_fresh w _ _ _) (ec_one [(id, t)]) (by omega) (by unfold maxLen; omega) (by omega) (Nat.zero_le _) _ rfl ?_; intro g cap w2 own2 grow2 at2 _; obtain ⟨B2, T', O', L'⟩ := HP.out _ _ _ _ (bel_drew ((Below.refl _ w).alloc (Nat.le_refl _) _)) own2 grow2 at2; have d0 := (at_cell B2 0 : _ = some _); have e0 := at_frozen B2 0)
  all_goals (go_end0; exact ⟨rfl, _, _, T', O', L'⟩)

/-- the last one taken -/
theorem TAt.pop {qb m : Nat} (h : TAt w tb mb most (some ⟨qb, 0, none⟩) c L f n) (hm : m + 1 = L.length) (o : Obj) :
    TAt ((w.setCell ⟨tb, 0, none⟩ (.slice (some ⟨qb, 0, none⟩) m c)).alloc o) tb mb most (some ⟨qb, 0, none⟩) c L.dropLast f n ∧
    Out (Bl tb mb (some ⟨qb, 0, none⟩)) w ((w.setCell ⟨tb, 0, none⟩ (.slice (some ⟨qb, 0, none⟩) m c)).alloc o) := by
  refine ⟨TAt.below (w := w.setCell ⟨tb, 0, none⟩ (.slice (some ⟨qb, 0, none⟩) m c)) ?_ ((Below.refl _ _).alloc (Nat.le_refl _) o), ((Out.refl _ w).setCell (p := ⟨tb, 0, none⟩) (fun _ => .inl rfl) _).alloc o⟩
  rcases h.q with ⟨r, _, _⟩ | ⟨qb', r, R, q1, q2⟩
  · cases r
  · cases r
    have hd : L.dropLast.length = m := by rw [List.length_dropLast]; omega
    have hl := R.len
    refine ⟨?_, .inr ⟨qb, rfl, ?_, q1, q2⟩, h.tm, h.map.kept (at_set_other _ (Ne.symm h.tm) _ _)⟩
    · rw [at_set h.box, hd]; simp
    · obtain ⟨cur, r1, r2, r3⟩ := R.row
      refine ⟨⟨cur, (at_set_other _ q1 _ _).trans r1, r2, fun i hi => ?_⟩, by rw [hd]; omega, R.max⟩
      rw [hd] at hi
      rw [gt_drop (by omega)]
      exact r3 i (by omega)

theorem popm_calls {qb m : Nat} (h : TAt w tb mb most (some ⟨qb, 0, none⟩) c L f n) (hm : m + 1 = L.length) (hl : L.length ≤ 100000) :
    Calls Try.prog 47 #[.pointer (some ⟨tb, 0, none⟩)] w fun e w' =>
      ∃ v, e = .returned v ∧ v = .iface 67 (.agg #[.int .i64 (gt L m).1, .int .i64 (gt L m).2]) ∧ TAt w' tb mb most (some ⟨qb, 0, none⟩) c L.dropLast f n ∧ Out (Bl tb mb (some ⟨qb, 0, none⟩)) w w' := by
  have b0 := (at_cell h.box 0 : _ = some _)
  have f0 := at_frozen h.box 0
  have tlt := at_lt h.box
  have HP := Lib.hid (fun o => h.pop hm o)
  rcases h.q with ⟨r, _, _⟩ | ⟨qb', r, R, q1, q2⟩
  · cases r
  · cases r
    obtain ⟨a1, a2⟩ := R.cell (show m < L.length by omega)
    have e1 : IntKind.i64.wrap ((L.length : Int) - 1) = (m : Int) := by rw [IntWalk.i64_in _ (by omega)]; omega
    have k1 : (m : Int) < (L.length : Int) := by omega
    have k2 : (m : Int) ≤ (c : Int) := by have := R.len; omega
    have ql := R.lt
    clear h R hm
    generalize gt L m = E at *
    obtain ⟨id, t⟩ := E
    simp only at a1 a2 ⊢
    go_enter Try.func47, Try.ntmps47
    go_wp2_with fail
    go_ret
    exact ⟨_, rfl, rfl, HP.out _⟩
end
end Go.Proofs.Ytmmgpifidlekaaa.Timer

/-
  Layer 6 (timer): the heap's own acts: move, add, remove.
-/
import Derived.Test.YtmmgpifidlekaaaTimerMeth
namespace Go.Proofs.Ytmmgpifidlekaaa.Timer
open Go.RowKit Go.Proofs.Ytmmgpifidlekaaa.Own Go.Proofs.Ytmmgpifidlekaaa.Hp Go.Proofs.Ytmmgpifidlekaaa.KM

/-- a timer's heap, whole -/
structure Heap (w : World) (tb mb : Nat) (most : Int) (pv : Option Addr) (c : Nat) (H : List Ent) : Prop where
  at_ : TAt w tb mb most pv c H (pl H) H.length
  dst : Dst H
  rng : ∀ e ∈ H, i64 e.1
  hp : Hp H H.length
  small : H.length ≤ 4096

/-- what an act leaves: a heap of the entries H', its blocks among S or new -/
def Left (S : Nat → Prop) (w w' : World) (tb mb : Nat) (most : Int) (H' : List Ent) : Prop :=
  ∃ pv c H, Heap w' tb mb most pv c H ∧ H.Perm H' ∧ Out S w w' ∧ ∀ k, pv = some ⟨k, 0, none⟩ → S k ∨ w.heap.size ≤ k

section
variable {w : World} {tb mb : Nat} {most : Int} {pv : Option Addr} {c : Nat} {H : List Ent}

theorem move_calls (h : Heap w tb mb most pv c H) (i : Nat) (hi : i < H.length) (t : Int) :
    Calls Try.prog 21 #[.pointer (some ⟨tb, 0, none⟩), .int .i64 i, .int .i64 t] w fun e w' =>
      e = .returned (.tuple #[]) ∧ Left (Bl tb mb pv) w w' tb mb most (H.set i ((gt H i).1, t)) := by
  rcases h.at_.q with ⟨_, _, r⟩ | ⟨qb, rfl, R, q1, q2⟩
  · rw [r] at hi; simp at hi
  · have b0 := (at_cell h.at_.box 0 : _ = some _)
    obtain ⟨cur, r1, r2, r3⟩ := R.row
    have fq := at_frozen r1
    obtain ⟨a1, a2⟩ := R.cell hi
    have k1 : (i : Int) < (H.length : Int) := by omega
    have hs := h.small
    have hl : (H.set i ((gt H i).1, t)).length = H.length := by simp
    -- the store
    have T1 : TAt (w.setCell ⟨qb, i * 2 + 1, none⟩ (.int .i64 t)) tb mb most (some ⟨qb, 0, none⟩) c (H.set i ((gt H i).1, t)) (pl (H.set i ((gt H i).1, t))) (H.set i ((gt H i).1, t)).length := by
      refine ⟨?_, .inr ⟨qb, rfl, ⟨⟨_, at_set r1 _ _, by simpa using r2, fun k hk => ?_⟩, by rw [hl]; exact R.len, R.max⟩, q1, q2⟩, h.at_.tm, (h.at_.map.kept (at_set_other _ (Ne.symm q2) _ _)).cong (pl_set h.dst hi t) hl.symm⟩
      · rw [hl]; exact (at_set_other _ (Ne.symm q1) _ _).trans h.at_.box
      · rw [hl] at hk
        have := R.len
        rw [gt_set hi]
        simp only [Array.getElem?_setIfInBounds]
        obtain ⟨x1, x2⟩ := r3 k hk
        by_cases e : k = i
        · subst e
          exact ⟨by rw [if_neg (by omega), if_pos rfl]; exact x1, by rw [if_pos rfl, if_pos (by omega), if_pos rfl]⟩
        · exact ⟨by rw [if_neg (by omega), if_neg e]; exact x1, by rw [if_neg (by omega), if_neg e]; exact x2⟩
    have O1 : Out (Bl tb mb (some ⟨qb, 0, none⟩)) w (w.setCell ⟨qb, i * 2 + 1, none⟩ (.int .i64 t)) := (Out.refl _ w).setCell (p := ⟨qb, i * 2 + 1, none⟩) (fun _ => .inr (.inr rfl)) _
    have hd := dst_set h.dst hi t
    have hr : ∀ e ∈ H.set i ((gt H i).1, t), i64 e.1 := by
      intro e he
      rcases List.mem_or_eq_of_mem_set he with m | m
      · exact h.rng e m
      · subst m; exact (h.rng (gt H i) (gt_mem hi) : i64 (gt H i).1)
    have hF := Lib.hid (fix_calls (meth (w0 := w) (tb := tb) (mb := mb) (most := most) (S := Bl tb mb (some ⟨qb, 0, none⟩)) hd hr) lens rep_len (H.set i ((gt H i).1, t)) i (by rw [hl]; exact hi) (by rw [hl]; omega)
      (w.setCell ⟨qb, i * 2 + 1, none⟩ (.int .i64 t)) ⟨.inl rfl, .inr (.inl rfl), qb, c, List.Perm.refl _, T1, O1, .inl (.inr (.inr rfl))⟩)
    have hH := Lib.hid (fix_hp (l := H.set i ((gt H i).1, t)) (i := i) (n := (H.set i ((gt H i).1, t)).length) (Nat.le_refl _) (by rw [hl]; exact hi) (by rw [hl]; exact dn_set hi h.hp _))
    have hP := Lib.hid (fix_perm (l := H.set i ((gt H i).1, t)) (i := i) (n := (H.set i ((gt H i).1, t)).length) (Nat.le_refl _) (by rw [hl]; exact hi))
    have hlen := Lib.hid hl
    clear T1 O1 h R r3 hl
    go_enter Try.func21, Try.ntmps21
    go_wp2_with (go_at_call 25; refine hF.out.mono ?_; rintro e w2 ⟨rfl, R2⟩; have R3 := Lib.hid R2; clear R2)
    go_end0
    obtain ⟨_, _, qb', c', hp', T', O', hq'⟩ := R3.out
    refine ⟨rfl, _, c', _, ⟨T', dst_perm hd hp', fun e he => hr e (hp'.mem_iff.1 he), ?_, ?_⟩, hp', O', fun k hk => ?_⟩
    · rw [hp'.length_eq]; exact hH.out
    · rw [hp'.length_eq, hlen.out]; exact hs
    · cases hk; exact hq'
theorem TAt.cong {L : List Ent} {f f' : Int → Option Value} {n n' : Nat} (h : TAt w tb mb most pv c L f n) (hf : ∀ a, f a = f' a) (hn : n = n') : TAt w tb mb most pv c L f' n' :=
  ⟨h.box, h.q, h.tm, h.map.cong hf hn⟩
theorem find_fresh {H : List Ent} {a : Int} (h : pl H a = none) : ∀ k, k < H.length → (gt H k).1 ≠ a := by
  intro k hk e
  have h1 : plc H a < 0 := by
    unfold pl at h
    by_cases h0 : plc H a < 0
    · exact h0
    · rw [if_neg h0] at h; cases h
  rw [plc_neg] at h1
  have := List.any_eq_false.1 h1 (gt H k) (gt_mem hk)
  simp [e] at this

theorem add_calls (h : Heap w tb mb most pv c H) (id t : Int) (hi : i64 id) (hf : pl H id = none) (hs : H.length < 4096) :
    Calls Try.prog 22 #[.pointer (some ⟨tb, 0, none⟩), .agg #[.int .i64 id, .int .i64 t]] w fun e w' =>
      e = .returned (.tuple #[]) ∧ Left (Bl tb mb pv) w w' tb mb most (H ++ [(id, t)]) := by
  have B := h.at_.box
  have b0 := (at_cell B 0 : _ = some _)
  have b1 := (at_cell B 1 : _ = some _)
  have m1 := ikey hi
  have tl := at_lt B
  have ml := h.at_.map.lt
  have hq := h.at_.q
  have K := h.at_.map
  have tm := h.at_.tm
  have hl : (H ++ [(id, t)]).length = H.length + 1 := by simp
  have hfr := find_fresh hf
  have hd := dst_app (x := (id, t)) h.dst hfr
  have hr : ∀ e ∈ H ++ [(id, t)], i64 e.1 := by
    intro e he
    rcases List.mem_append.1 he with m | m
    · exact h.rng e m
    · simp at m; subst m; exact hi
  have hpl := Lib.hid (fun a => pl_app (x := (id, t)) h.dst hfr a)
  have hH := Lib.hid (hup_hp H.length (H ++ [(id, t)]) (H.length + 1) (by omega) (by omega) (up_app h.hp (id, t)))
  have hP := Lib.hid (hup_perm H.length (H ++ [(id, t)]) (by omega))
  have hx := Lib.hid (fun w1 (T1 : TAt w1 tb mb most pv c H (put (pl H) id (.int .i64 H.length)) (H.length + 1)) => pushm_calls T1 (by omega) id t)
  have hB := Lib.hid h.at_
  clear h
  go_enter Try.func22, Try.ntmps22
  go_wp2
  have N := at_new w (.cells #[.int .i64 id, .int .i64 t] 67)
  have OA : Out (fun _ => False) w (w.alloc (.cells #[.int .i64 id, .int .i64 t] 67)) := (Out.refl _ w).alloc _
  generalize w.alloc (.cells #[.int .i64 id, .int .i64 t] 67) = w1 at N OA ⊢
  generalize hnb : w.heap.size = nb at *
  have T1 := hB.out.out OA (fun _ _ h => h)
  have c0 := (at_cell T1.box 0 : _ = some _)
  have c1 := (at_cell T1.box 1 : _ = some _)
  have d0 := (at_cell N 0 : _ = some _)
  have d1 := (at_cell N 1 : _ = some _)
  have nlt := at_lt N
  clear b0 b1
  go_still_tail 11, (by kernel_rfl)
  change wpList _ _ _ _ _ w1.drew
  refine wp_store rfl _ _ _ _ rfl _ _ keyed Try.underlying57 mb _ _ rfl (T1.map.kept (w' := w1.drew) rfl) id rfl (.int .i64 (H.length : Int)) rfl m1 (ik_inj _) ?_
  intro w2 K2 O2
  rw [hf] at K2
  have O2' := Lib.hid O2.ofDrew
  have T2 : TAt w2 tb mb most pv c H (put (pl H) id (.int .i64 H.length)) (H.length + 1) := by
    refine ⟨O2'.out.at_ T1.box tm, ?_, tm, K2⟩
    rcases T1.q with r | ⟨qb, r, R, q1, q2⟩
    · exact .inl r
    · exact .inr ⟨qb, r, R.kept (O2'.out.block qb R.lt q2), q1, q2⟩
  have nm : nb ≠ mb := by omega
  have d0 := (O2'.out.cell (p := ⟨nb, 0, none⟩) nlt nm).trans d0
  have d1 := (O2'.out.cell (p := ⟨nb, 1, none⟩) nlt nm).trans d1
  have OW : Out (Bl tb mb pv) w w2 := (OA.mono (S' := Bl tb mb pv) fun _ _ h => h.elim).trans O2'.out fun k _ hk => .inr (.inl hk)
  have HPush := Lib.hid (push_calls (Rep := Rep w tb mb most (Bl tb mb pv) (H ++ [(id, t)])) (meth hd hr) lens rep_len w2 find_push (Go.Proofs.enters_of Try.func48 (by kernel_rfl) rfl) (.iface 67 (.agg #[.int .i64 id, .int .i64 t])) (H ++ [(id, t)]) (by omega) (by omega)
    ((hx.out w2 T2).mono fun e w' h => ⟨h.1, by
      obtain ⟨_, g, c', T3, O3, hg⟩ := h
      exact ⟨.inl rfl, .inr (.inl rfl), g, c', List.Perm.refl _, T3.cong hpl.out (by simp), OW.trans O3 (fun _ _ h => h), hg.imp (fun h => .inr (.inr h)) (fun h => by have := OW.size; omega)⟩⟩))
  rw [show (H ++ [(id, t)]).length - 1 = H.length by omega] at HPush
  clear hx
  go_wp2_with (go_at_call 26; refine HPush.out.mono ?_; rintro e w4 ⟨rfl, R4⟩; have R5 := Lib.hid R4; clear R4)
  go_end0
  obtain ⟨_, _, qb', c', hp', T', O', hq'⟩ := R5.out
  have hp2 := hp'
  refine ⟨rfl, _, c', _, ⟨T', dst_perm hd hp', fun e he => hr e (hp'.mem_iff.1 he), ?_, ?_⟩, hp', O', fun k hk => ?_⟩
  · rw [hp'.length_eq, hl]; exact hH.out
  · rw [hp'.length_eq]; omega
  · cases hk; exact hq'
end
end Go.Proofs.Ytmmgpifidlekaaa.Timer

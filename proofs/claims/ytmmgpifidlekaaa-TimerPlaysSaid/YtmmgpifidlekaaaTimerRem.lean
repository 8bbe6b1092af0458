/-
  Layer 6 (timer): the heap's own acts: remove.
-/
import Derived.Test.YtmmgpifidlekaaaTimerAct
import Derived.Laws.Rows
namespace Go.Proofs.Ytmmgpifidlekaaa.Timer
open Go.RowKit Go.Proofs.Ytmmgpifidlekaaa.Own Go.Proofs.Ytmmgpifidlekaaa.Hp Go.Proofs.Ytmmgpifidlekaaa.KM

/-- the heap with one at its end, to be taken -/
def toEnd (H : List Ent) (i : Nat) : List Ent := if i = H.length - 1 then H else fix (swp H i (H.length - 1)) i (H.length - 1)

theorem toEnd_facts {H : List Ent} {i : Nat} (hi : i < H.length) (hh : Hp H H.length) :
    (toEnd H i).Perm H ∧ gt (toEnd H i) (H.length - 1) = gt H i ∧ Hp (toEnd H i).dropLast (toEnd H i).dropLast.length ∧ (toEnd H i).dropLast.Perm (H.eraseIdx i) := by
  have h1 : (toEnd H i).Perm H ∧ gt (toEnd H i) (H.length - 1) = gt H i ∧ Hp (toEnd H i) (H.length - 1) := by
    unfold toEnd
    split
    · rename_i e
      exact ⟨List.Perm.refl _, by rw [← e], fun c c1 c2 => hh c c1 (by omega)⟩
    · rename_i e
      have hl : (H.length - 1) < H.length := by omega
      refine ⟨(fix_perm (by rw [swp_len]; omega) (by omega)).trans (swp_perm hi hl), ?_, fix_hp (by rw [swp_len]; omega) (by omega) (dn_last (by omega) hh)⟩
      rw [fix_out (by rw [swp_len]; omega) (by omega) (Nat.le_refl _), gt_swp_j hi hl]
  obtain ⟨p, g, q⟩ := h1
  have hlen := p.length_eq
  refine ⟨p, g, hp_dropLast q (by omega), ?_⟩
  generalize toEnd H i = M at *
  have hne : M ≠ [] := by rintro rfl; simp at hlen; omega
  have e1 : M.dropLast ++ [gt H i] = M := by
    conv => rhs; rw [← List.dropLast_concat_getLast hne]
    rw [List.getLast_eq_getElem, ← gt_get (by omega), ← g, hlen]
  have e2 : (gt H i :: M.dropLast).Perm H := by
    have : (M.dropLast ++ [gt H i]).Perm (gt H i :: M.dropLast) := List.perm_append_singleton _ _
    rw [e1] at this
    exact this.symm.trans p
  have e3 : (gt H i :: H.eraseIdx i).Perm H := by
    rw [gt_get hi, List.eraseIdx_eq_take_drop_succ]
    refine (List.perm_middle (l₁ := H.take i) (a := H[i])).symm.trans ?_
    rw [List.getElem_cons_drop, List.take_append_drop]
  exact (e2.trans e3.symm).cons_inv

section
variable {w : World} {tb mb : Nat} {most : Int} {pv : Option Addr} {c : Nat} {H : List Ent}

/-- what container/heap's Remove leaves -/
def Taken (S : Nat → Prop) (w0 : World) (tb mb : Nat) (most : Int) (M : List Ent) (x : Ent) (v : Value) (w' : World) : Prop :=
  v = .iface 67 (.agg #[.int .i64 x.1, .int .i64 x.2]) ∧ ∃ qb c, TAt w' tb mb most (some ⟨qb, 0, none⟩) c M.dropLast (pl M) M.length ∧ Out S w0 w' ∧ (S qb ∨ w0.heap.size ≤ qb)

theorem remove_heap (h : Heap w tb mb most pv c H) (i : Nat) (hi : i < H.length) :
    Calls Try.prog 27 #[.iface 69 (.pointer (some ⟨tb, 0, none⟩)), .int .i64 i] w fun e w' => ∃ v, e = .returned v ∧ Taken (Bl tb mb pv) w tb mb most (toEnd H i) (gt H i) v w' := by
  rcases h.at_.q with ⟨_, _, r⟩ | ⟨qb, rfl, R, q1, q2⟩
  · rw [r] at hi; simp at hi
  · obtain ⟨p, g, _, _⟩ := toEnd_facts hi h.hp
    have hlen := p.length_eq
    have hs := h.small
    refine remove_calls (meth (w0 := w) (tb := tb) (mb := mb) (most := most) (S := Bl tb mb (some ⟨qb, 0, none⟩)) h.dst h.rng) lens rep_len pops H i hi (by omega) (Taken (Bl tb mb (some ⟨qb, 0, none⟩)) w tb mb most (toEnd H i) (gt H i)) (toEnd H i) rfl ?_ w
      ⟨.inl rfl, .inr (.inl rfl), qb, c, List.Perm.refl _, h.at_, Out.refl _ _, .inl (.inr (.inr rfl))⟩
    rintro w1 ⟨s1, s2, qb1, c1, hp1, T1, o1, hq1⟩
    refine (popm_calls T1 (m := H.length - 1) (by omega) (by omega)).mono ?_
    rintro e w2 ⟨v, rfl, rfl, T2, o2⟩
    exact ⟨_, rfl, by rw [g], qb1, c1, T2, o1.trans o2 (fun _ hk h => bl_in s1 s2 hq1 hk h), hq1⟩

theorem remove_acts (h : Heap w tb mb most pv c H) (i : Nat) (hi : i < H.length) :
    Calls Try.prog 23 #[.pointer (some ⟨tb, 0, none⟩), .int .i64 i] w fun e w' =>
      e = .returned (.agg #[.int .i64 (gt H i).1, .int .i64 (gt H i).2]) ∧ Left (Bl tb mb pv) w w' tb mb most (H.eraseIdx i) := by
  obtain ⟨p, g, q, pe⟩ := toEnd_facts hi h.hp
  have hlen := p.length_eq
  have hs := h.small
  have hta := assert_wait
  have hbl := h.at_.blocks
  have m1 := ikey (h.rng _ (gt_mem hi))
  have hRem := Lib.hid (fun w1 (h1 : Heap w1 tb mb most pv c H) => remove_heap h1 i hi)
  have hd' := dst_perm h.dst p
  have hpl := Lib.hid (fun a => pl_drop hd' (m := H.length - 1) (by omega) a)
  have hsome := pl_at hd' (i := H.length - 1) (by omega)
  rw [g] at hpl hsome
  have hrng := Lib.hid (fun e (he : e ∈ (toEnd H i).dropLast) => h.rng e (p.mem_iff.1 ((List.dropLast_sublist _).subset he)))
  have hB := Lib.hid h
  have Hd := Lib.hid (dst_drop hd')
  have Hq := Lib.hid q
  have hll : (toEnd H i).dropLast.length = H.length - 1 := by simp [hlen]
  clear h q hd' g p
  have hM : (toEnd H i).length = H.length := hlen
  generalize toEnd H i = M at *
  obtain ⟨id, hid⟩ : ∃ x, (gt H i).1 = x := ⟨_, rfl⟩
  obtain ⟨t, ht⟩ : ∃ x, (gt H i).2 = x := ⟨_, rfl⟩
  rw [hid] at m1 hpl hsome
  go_enter Try.func23, Try.ntmps23
  go_wp2_with fail
  have N := at_new w (.cells #[.int .i64 0, .int .i64 0] 67)
  have OA : Out (fun _ => False) w (w.alloc (.cells #[.int .i64 0, .int .i64 0] 67)) := (Out.refl _ w).alloc _
  generalize w.alloc (.cells #[.int .i64 0, .int .i64 0] 67) = w1 at N OA ⊢
  generalize hnb : w.heap.size = nb at *
  have H1 : Heap w1 tb mb most pv c H := ⟨hB.out.at_.out OA (fun _ _ h => h), hB.out.dst, hB.out.rng, hB.out.hp, hB.out.small⟩
  refine (hRem.out w1 H1).mono ?_
  rintro e w2 ⟨v, rfl, hq⟩
  unfold Taken at hq
  obtain ⟨rfl, qb2, c2, T2, O2, q2⟩ := hq
  rw [hid, ht]
  have nlt := at_lt N
  have N2 := O2.at_ N (fun h => by have := hbl _ h; omega)
  have b1 := (at_cell T2.box 1 : _ = some _)
  have OW : Out (Bl tb mb pv) w w2 := (OA.mono (S' := Bl tb mb pv) fun _ _ h => h.elim).trans O2 fun k _ h => h
  have X2 := Lib.hid T2
  have hqn : Hid (qb2 ≠ nb) := Lib.hid (by rcases q2 with h | h
                                           · have := hbl _ h; omega
                                           · omega)
  have Q2 : Hid (Bl tb mb pv qb2 ∨ nb ≤ qb2) := Lib.hid (q2.imp _root_.id fun h => by have := OA.size; omega)
  clear T2 q2 H1 hRem
  go_wp2
  have N3 := at_new w2 (.cells #[.int .i64 id, .int .i64 t] 67)
  have OB : Out (fun _ => False) w2 (w2.alloc (.cells #[.int .i64 id, .int .i64 t] 67)) := (Out.refl _ w2).alloc _
  generalize w2.alloc (.cells #[.int .i64 id, .int .i64 t] 67) = w3 at N3 OB ⊢
  generalize hnc : w2.heap.size = nc at *
  have T3 := Lib.hid (X2.out.out OB (fun _ _ h => h))
  have M3 := OB.at_ N2 (fun h => h)
  have b1 := (at_cell T3.out.box 1 : _ = some _)
  have d0 := (at_cell N3 0 : _ = some _)
  have d1 := (at_cell N3 1 : _ = some _)
  have n3 := at_lt N3
  have o3 := at_lt M3
  go_still_tail 6, (by kernel_rfl)
  change wpList _ _ _ _ _ w3.drew
  refine wp_drop rfl _ _ _ _ rfl _ keyed Try.underlying57 mb _ _ rfl (T3.out.map.kept (w' := w3.drew) rfl) id rfl m1 (ik_inj _) ?_
  intro w4 K4 O4
  rw [hsome] at K4
  have O4' := Lib.hid O4.ofDrew
  have mlt := T3.out.map.lt
  have nm : nc ≠ mb := by rintro rfl; have := X2.out.map.lt; omega
  have om : nb ≠ mb := by rintro rfl; have := hB.out.at_.map.lt; omega
  have e0 := (O4'.out.cell (p := ⟨nc, 0, none⟩) n3 nm).trans d0
  have e1 := (O4'.out.cell (p := ⟨nc, 1, none⟩) n3 nm).trans d1
  have P4 := O4'.out.at_ M3 om
  have g0 := (at_cell P4 0 : _ = some _)
  have g1 := (at_cell P4 1 : _ = some _)
  have fg := at_frozen P4
  have T4 : Hid (TAt w4 tb mb most (some ⟨qb2, 0, none⟩) c2 M.dropLast (pl M.dropLast) M.dropLast.length) := by
    refine Lib.hid ⟨O4'.out.at_ T3.out.box T3.out.tm, .inr ⟨qb2, rfl, ?_, T3.out.row.2⟩, T3.out.tm, K4.cong hpl.out ?_⟩
    · exact T3.out.row.1.kept (O4'.out.block qb2 T3.out.row.1.lt T3.out.row.2.2)
    · simp [hll, hM]
  clear d0 d1 b1 N2 N3 M3 K4
  go_wp2
  have hrow := at_set (at_set P4 0 (.int .i64 id)) 1 (.int .i64 t)
  have OZ : Out (Bl tb mb pv) w ((w4.setCell ⟨nb, 0, none⟩ (.int .i64 id)).setCell ⟨nb, 1, none⟩ (.int .i64 t)) :=
    (((OW.trans OB fun _ _ h => h.elim).trans O4'.out fun k _ hk => .inr (.inl hk)).setCell (p := ⟨nb, 0, none⟩) (fun h => by simp at h; omega) _).setCell (p := ⟨nb, 1, none⟩) (fun h => by simp at h; omega) _
  have TZ : TAt ((w4.setCell ⟨nb, 0, none⟩ (.int .i64 id)).setCell ⟨nb, 1, none⟩ (.int .i64 t)) tb mb most (some ⟨qb2, 0, none⟩) c2 M.dropLast (pl M.dropLast) M.dropLast.length := by
    refine T4.out.out (S := fun k => k = nb) (((Out.refl (fun k => k = nb) w4).setCell (p := ⟨nb, 0, none⟩) (fun _ => rfl) _).setCell (p := ⟨nb, 1, none⟩) (fun _ => rfl) _) ?_
    intro k hk e
    rcases hk with h | h | h
    · have := hB.out.at_.blocks tb (.inl rfl); omega
    · have := hB.out.at_.blocks mb (.inr (.inl rfl)); omega
    · have hq : qb2 = k := by simpa using h
      exact hqn.out (hq.trans e)
  refine bodyPost_ret (results_cell_row rfl _ _ nb _ #[.int .i64 id, .int .i64 t] _ _ rfl (by simpa using hrow) Try.underlying67 rfl (by kernel_rfl)) rfl ?_
  exact ⟨by rw [hid, ht], _, c2, _, ⟨TZ, Hd.out, hrng.out, Hq.out, by omega⟩, pe, OZ, fun k hk => by cases hk; rw [hnb]; exact Q2.out⟩
end
end Go.Proofs.Ytmmgpifidlekaaa.Timer

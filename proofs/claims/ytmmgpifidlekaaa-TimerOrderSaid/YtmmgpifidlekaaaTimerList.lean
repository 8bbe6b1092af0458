/-
  Layer 6 (timer): heaps of those who wait, against the list in order; plain Lean.
-/
import Derived.Test.YtmmgpifidlekaaaTimerPl
namespace Go.Proofs.Ytmmgpifidlekaaa.Timer
open Go.RowKit Go.Proofs.Ytmmgpifidlekaaa.Hp

section
variable {H L : List Ent} {id : Int}
theorem isIn_perm (p : H.Perm L) (id : Int) : isIn H id = isIn L id := by
  unfold isIn
  rw [Bool.eq_iff_iff, List.any_eq_true, List.any_eq_true]
  exact ⟨fun ⟨x, a, b⟩ => ⟨x, p.mem_iff.1 a, b⟩, fun ⟨x, a, b⟩ => ⟨x, p.mem_iff.2 a, b⟩⟩
theorem dst_srt (h : Srt L) : Dst L := by
  unfold Dst
  rw [List.nodup_iff_pairwise_ne, List.pairwise_map]
  exact h.2
theorem plc_in (h : isIn H id = true) : ∃ k : Nat, k < H.length ∧ (gt H k).1 = id ∧ plc H id = k := by
  have h1 : ¬ plc H id < 0 := by rw [plc_neg, h]; simp
  obtain ⟨k, hk⟩ : ∃ k : Nat, plc H id = k := ⟨(plc H id).toNat, by omega⟩
  obtain ⟨a, b, _⟩ := plc_at hk
  exact ⟨k, a, b, hk⟩
theorem pl_in (h : isIn H id = true) : ∃ k : Nat, k < H.length ∧ (gt H k).1 = id ∧ pl H id = some (.int .i64 k) := by
  obtain ⟨k, a, b, hk⟩ := plc_in h
  refine ⟨k, a, b, ?_⟩
  unfold pl; rw [hk, if_neg (by omega)]
theorem pl_out (h : isIn H id = false) : pl H id = none := by
  unfold pl; rw [if_pos ((plc_neg H id).2 h)]
theorem delL_perm (p : H.Perm L) (id : Int) : (delL H id).Perm (delL L id) := p.filter _
theorem erase_perm (d : Dst H) (p : H.Perm L) {i : Nat} (hi : i < H.length) : (H.eraseIdx i).Perm (delL L (gt H i).1) := by
  have e3 : (gt H i :: H.eraseIdx i).Perm H := by
    rw [gt_get hi, List.eraseIdx_eq_take_drop_succ]
    refine (List.perm_middle (l₁ := H.take i) (a := H[i])).symm.trans ?_
    rw [List.getElem_cons_drop, List.take_append_drop]
  have d2 : ((gt H i :: H.eraseIdx i).map (·.1)).Nodup := ((e3.map _).nodup_iff).2 d
  rw [List.map_cons, List.nodup_cons] at d2
  have e4 := delL_perm e3 (gt H i).1
  have e5 : delL (gt H i :: H.eraseIdx i) (gt H i).1 = H.eraseIdx i := by
    unfold delL
    rw [List.filter_cons, if_neg (by simp)]
    refine List.filter_eq_self.2 fun e he => ?_
    simp only [decide_eq_true_eq]
    intro h
    exact d2.1 (h ▸ List.mem_map.2 ⟨e, he, rfl⟩)
  rw [e5] at e4
  exact e4.trans (delL_perm p _)
theorem ins_perm' (L : List Ent) (x : Ent) : (insL L x).Perm (x :: L) := by
  unfold insL
  have h : (L.take (ahead L x) ++ [x] ++ L.drop (ahead L x)).Perm ([x] ++ L.take (ahead L x) ++ L.drop (ahead L x)) := (List.perm_append_comm).append_right _
  rw [List.append_assoc [x], List.take_append_drop] at h
  exact h
theorem set_perm (d : Dst H) (p : H.Perm L) {i : Nat} (hi : i < H.length) (t : Int) : (H.set i ((gt H i).1, t)).Perm (insL (delL L (gt H i).1) ((gt H i).1, t)) := by
  refine List.Perm.trans ?_ (((erase_perm d p hi).cons ((gt H i).1, t)).trans (ins_perm' _ _).symm)
  rw [List.set_eq_take_append_cons_drop, if_pos hi, List.eraseIdx_eq_take_drop_succ]
  exact List.perm_middle
theorem del_none (h : isIn L id = false) : delL L id = L := by
  refine List.filter_eq_self.2 fun e he => ?_
  have := List.any_eq_false.1 h e he
  simpa using this
theorem app_perm (p : H.Perm L) (h : isIn L id = false) (t : Int) : (H ++ [(id, t)]).Perm (insL (delL L id) (id, t)) := by
  rw [del_none h]
  exact ((List.perm_append_singleton _ _).trans (p.cons _)).trans (ins_perm' _ _).symm
theorem srt_del (h : Srt L) (id : Int) : Srt (delL L id) := ⟨h.1.sublist List.filter_sublist, h.2.sublist List.filter_sublist⟩
theorem del_ne {e : Ent} (he : e ∈ delL L id) : e.1 ≠ id := by
  have := (List.mem_filter.1 he).2
  simpa using this
theorem ahead_at (L : List Ent) (x : Ent) : (∀ e ∈ L.take (ahead L x), el e x = true) ∧ (∀ e, (L.drop (ahead L x)).head? = some e → ¬ el e x = true) := by
  have h1 : L.take (ahead L x) = L.takeWhile fun e => el e x := by
    have e : (L.takeWhile (fun e => el e x) ++ L.dropWhile (fun e => el e x)).take (L.takeWhile fun e => el e x).length = L.takeWhile fun e => el e x := List.take_left
    rw [List.takeWhile_append_dropWhile] at e
    exact e
  have h2 : L.drop (ahead L x) = L.dropWhile fun e => el e x := by
    have e : (L.takeWhile (fun e => el e x) ++ L.dropWhile (fun e => el e x)).drop (L.takeWhile fun e => el e x).length = L.dropWhile fun e => el e x := List.drop_left
    rw [List.takeWhile_append_dropWhile] at e
    exact e
  constructor
  · rw [h1]
    intro e he
    exact List.all_eq_true.1 List.all_takeWhile e he
  · rw [h2]
    intro e he
    have := List.head?_dropWhile_not (fun e => el e x) L
    rw [he] at this
    simpa using this
theorem srt_ins (h : Srt L) {x : Ent} (hx : ∀ e ∈ L, e.1 ≠ x.1) : Srt (insL L x) := by
  obtain ⟨a1, a2⟩ := ahead_at L x
  have hs : (L.take (ahead L x) ++ L.drop (ahead L x)).Pairwise (fun a b => el a b = true) := by rw [List.take_append_drop]; exact h.1
  obtain ⟨s1, s2, s3⟩ := List.pairwise_append.1 hs
  have hd : ∀ e ∈ L.drop (ahead L x), el x e = true := by
    intro e he
    have hne : e.1 ≠ x.1 := hx e (List.mem_of_mem_drop he)
    have key : ¬ el e x = true := by
      cases hc : L.drop (ahead L x) with
      | nil => rw [hc] at he; simp at he
      | cons y r =>
        have hy := a2 y (by rw [hc]; rfl)
        rw [hc] at he s2
        rcases List.mem_cons.1 he with rfl | he
        · exact hy
        · exact fun hk => hy (el_trans ((List.pairwise_cons.1 s2).1 e he) hk)
    rw [el_iff] at key ⊢
    omega
  refine ⟨?_, ?_⟩
  · unfold insL
    rw [List.pairwise_append, List.pairwise_append]
    refine ⟨⟨s1, by simp, fun a ha b hb => ?_⟩, s2, fun a ha b hb => ?_⟩
    · simp at hb; subst hb; exact a1 a ha
    · rcases List.mem_append.1 ha with m | m
      · exact s3 a m b hb
      · simp at m; subst m; exact hd b hb
  · have : ((insL L x).map (·.1)).Nodup := by
      refine (((ins_perm' L x).map _).nodup_iff).2 ?_
      rw [List.map_cons, List.nodup_cons]
      refine ⟨fun hm => ?_, dst_srt h⟩
      obtain ⟨e, he, e1⟩ := List.mem_map.1 hm
      exact hx e he e1
    rw [List.nodup_iff_pairwise_ne, List.pairwise_map] at this
    exact this
theorem top_is (h : Hp H H.length) (p : H.Perm L) (s : Srt L) (hl : 0 < L.length) : gt H 0 = gt L 0 := by
  have hn := p.length_eq
  have m1 : gt L 0 ∈ H := p.mem_iff.2 (gt_mem hl)
  have m2 : gt H 0 ∈ L := p.mem_iff.1 (gt_mem (by omega))
  obtain ⟨k, hk, ek⟩ := List.getElem_of_mem m1
  have h1 := hp_top h k hk
  rw [gt_get hk, ek] at h1
  refine el_eq ?_ h1
  cases L with
  | nil => simp at hl
  | cons y r =>
    have e0 : gt (y :: r) 0 = y := rfl
    rw [e0] at *
    rcases List.mem_cons.1 m2 with e | e
    · rw [e]; simp [el_irrefl]
    · exact el_asymm ((List.pairwise_cons.1 s.1).1 _ e)
theorem whenL_mem (d : Dst L) {e : Ent} (he : e ∈ L) : whenL L e.1 = e.2 := by
  unfold whenL
  cases hf : L.find? (fun x => decide (x.1 = e.1)) with
  | none => have := List.find?_eq_none.1 hf e he; simp at this
  | some y =>
    have h1 := List.find?_some hf
    have h2 := List.mem_of_find?_eq_some hf
    simp only [decide_eq_true_eq] at h1
    obtain ⟨i, hi, e1⟩ := List.getElem_of_mem h2
    obtain ⟨j, hj, e2⟩ := List.getElem_of_mem he
    have := dst_inj d hi hj (by rw [gt_get hi, gt_get hj, e1, e2, h1])
    subst this
    rw [← e1, e2]; rfl
end
end Go.Proofs.Ytmmgpifidlekaaa.Timer

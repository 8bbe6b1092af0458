/-
  Layer 6 (timer): where each one stands, as a map tells it; plain Lean.
-/
import Derived.Test.YtmmgpifidlekaaaTimerHeap
namespace Go.Proofs.Ytmmgpifidlekaaa.Timer
open Go.RowKit Go.MapKept Go.ChangeMaps Go.Proofs.Ytmmgpifidlekaaa.Own Go.Proofs.Ytmmgpifidlekaaa.Hp Go.Proofs.Ytmmgpifidlekaaa.KM

/-- no two have one number -/
def Dst (M : List Ent) : Prop := (M.map (·.1)).Nodup
/-- where somebody stands -/
def pl (M : List Ent) (a : Int) : Option Value := if plc M a < 0 then none else some (.int .i64 (plc M a))

theorem dst_inj {M : List Ent} (h : Dst M) {i j : Nat} (hi : i < M.length) (hj : j < M.length) (e : (gt M i).1 = (gt M j).1) : i = j := by
  have e1 : (M.map (·.1))[i]? = some (gt M i).1 := by simp [gt, hi]
  have e2 : (M.map (·.1))[j]? = some (gt M i).1 := by rw [e]; simp [gt, hj]
  exact (List.getElem?_inj (by simpa using hi) h).1 (e1.trans e2.symm)
theorem dst_perm {M L : List Ent} (h : Dst L) (p : M.Perm L) : Dst M := ((p.map _).nodup_iff).2 h
theorem pl_at {M : List Ent} (h : Dst M) {i : Nat} (hi : i < M.length) : pl M (gt M i).1 = some (.int .i64 i) := by
  have := plc_is hi rfl (fun j hj e => by have := dst_inj h (by omega) hi e; omega)
  unfold pl; rw [this, if_neg (by omega)]
theorem pl_none {M : List Ent} {a : Int} (h : ∀ j, j < M.length → (gt M j).1 ≠ a) : pl M a = none := by
  unfold pl; rw [plc_none h]; rfl
theorem pl_of {M : List Ent} (h : Dst M) {f : Int → Option Value} (h1 : ∀ k, k < M.length → f (gt M k).1 = some (.int .i64 k)) (h2 : ∀ a, (∀ k, k < M.length → (gt M k).1 ≠ a) → f a = none) (a : Int) : f a = pl M a := by
  by_cases hk : ∃ k, k < M.length ∧ (gt M k).1 = a
  · obtain ⟨k, hk, rfl⟩ := hk
    rw [h1 k hk, pl_at h hk]
  · have hn : ∀ k, k < M.length → (gt M k).1 ≠ a := fun k hk' e => hk ⟨k, hk', e⟩
    rw [h2 a hn, pl_none hn]
theorem pl_swp {L : List Ent} (h : Dst L) {i j : Nat} (hi : i < L.length) (hj : j < L.length) (a : Int) :
    put (put (pl L) (gt L j).1 (.int .i64 i)) (gt L i).1 (.int .i64 j) a = pl (swp L i j) a := by
  refine pl_of (dst_perm h (swp_perm hi hj)) (fun k hk => ?_) (fun a ha => ?_) a
  · rw [swp_len] at hk
    rw [gt_swp hi hj]
    by_cases h1 : k = j
    · subst h1; simp [put]
    · by_cases h2 : k = i
      · subst h2
        have : (gt L j).1 ≠ (gt L k).1 := fun e => h1 (dst_inj h hj hk e).symm
        simp [h1, put, this]
      · have n1 : (gt L k).1 ≠ (gt L j).1 := fun e => h1 (dst_inj h hk hj e)
        have n2 : (gt L k).1 ≠ (gt L i).1 := fun e => h2 (dst_inj h hk hi e)
        simp [h1, h2, put, n1, n2, pl_at h hk]
  · have hn : ∀ k, k < L.length → (gt L k).1 ≠ a := fun k hk e => by
      have hm := (swp_perm hi hj).mem_iff.2 (gt_mem hk)
      obtain ⟨m, hm1, hm2⟩ := List.getElem_of_mem hm
      exact ha m hm1 (by rw [gt_get hm1, hm2, e])
    simp [put, Ne.symm (hn j hj), Ne.symm (hn i hi), pl_none hn]
theorem gt_app {L : List Ent} {x : Ent} {k : Nat} (h : k < L.length) : gt (L ++ [x]) k = gt L k := by simp [gt, List.getElem?_append, h]
theorem gt_end (L : List Ent) (x : Ent) : gt (L ++ [x]) L.length = x := by simp [gt]
theorem dst_app {L : List Ent} (h : Dst L) {x : Ent} (hx : ∀ k, k < L.length → (gt L k).1 ≠ x.1) : Dst (L ++ [x]) := by
  unfold Dst
  rw [List.map_append, List.nodup_append]
  refine ⟨h, by simp, ?_⟩
  intro u hu y hy
  simp at hy
  subst hy
  obtain ⟨e, hm, rfl⟩ := List.mem_map.1 hu
  obtain ⟨m, hm1, hm2⟩ := List.getElem_of_mem hm
  have := hx m hm1
  rwa [gt_get hm1, hm2] at this
theorem pl_app {L : List Ent} (h : Dst L) {x : Ent} (hx : ∀ k, k < L.length → (gt L k).1 ≠ x.1) (a : Int) : put (pl L) x.1 (.int .i64 L.length) a = pl (L ++ [x]) a := by
  refine pl_of (dst_app h hx) (fun k hk => ?_) (fun a ha => ?_) a
  · have hk' : k < L.length + 1 := by simpa using hk
    by_cases hl : k < L.length
    · rw [gt_app hl]; simp [put, hx k hl, pl_at h hl]
    · obtain rfl : k = L.length := by omega
      rw [gt_end]; simp [put]
  · have hn : ∀ k, k < L.length → (gt L k).1 ≠ a := fun k hk => by have := ha k (by simp; omega); rwa [gt_app hk] at this
    have hx' : a ≠ x.1 := fun e => ha L.length (by simp) (by rw [gt_end, e])
    simp [put, hx', pl_none hn]
theorem gt_drop {L : List Ent} {k : Nat} (h : k + 1 < L.length) : gt L.dropLast k = gt L k := by
  simp [gt, show k < L.length - 1 by omega, show k < L.length by omega]
theorem dst_drop {L : List Ent} (h : Dst L) : Dst L.dropLast := by
  unfold Dst; rw [List.map_dropLast]; exact List.Nodup.sublist (List.dropLast_sublist _) h
theorem pl_drop {L : List Ent} (h : Dst L) {m : Nat} (hm : m + 1 = L.length) (a : Int) : del (pl L) (gt L m).1 a = pl L.dropLast a := by
  have hl : L.dropLast.length = m := by simp; omega
  refine pl_of (dst_drop h) (fun k hk => ?_) (fun a ha => ?_) a
  · rw [hl] at hk
    have hne : (gt L k).1 ≠ (gt L m).1 := fun e => by have := dst_inj h (by omega) (by omega) e; omega
    rw [gt_drop (by omega)]; simp [del, hne, pl_at h (show k < L.length by omega)]
  · by_cases hx : a = (gt L m).1
    · simp [del, hx]
    · simp only [del, if_neg hx]
      refine pl_none fun k hk e => ?_
      by_cases hkm : k = m
      · subst hkm; exact hx e.symm
      · exact ha k (by omega) (by rw [gt_drop (by omega), e])
theorem gt_set {L : List Ent} {i : Nat} {x : Ent} (hi : i < L.length) (k : Nat) : gt (L.set i x) k = if k = i then x else gt L k := by
  by_cases h : k = i
  · subst h; simp [gt, hi]
  · simp [gt, h, Ne.symm h]
theorem map_set_id {L : List Ent} {i : Nat} (hi : i < L.length) (t : Int) : (L.set i ((gt L i).1, t)).map (·.1) = L.map (·.1) := by
  apply List.ext_getElem?
  intro k
  by_cases h : k = i
  · subst h; simp [gt, hi]
  · simp [Ne.symm h]
theorem dst_set {L : List Ent} (h : Dst L) {i : Nat} (hi : i < L.length) (t : Int) : Dst (L.set i ((gt L i).1, t)) := by unfold Dst; rw [map_set_id hi]; exact h
theorem pl_set {L : List Ent} (h : Dst L) {i : Nat} (hi : i < L.length) (t : Int) (a : Int) : pl L a = pl (L.set i ((gt L i).1, t)) a := by
  have hg : ∀ k, (gt (L.set i ((gt L i).1, t)) k).1 = (gt L k).1 := fun k => by
    rw [gt_set hi]; split
    · rename_i e; rw [e]
    · rfl
  refine pl_of (dst_set h hi t) (fun k hk => ?_) (fun a ha => ?_) a
  · rw [hg]; exact pl_at h (by simpa using hk)
  · exact pl_none fun k hk => by have := ha k (by simpa using hk); rwa [hg] at this

theorem keyed : Go.Maps.Keyed Try.prog 3 := Go.Maps.int_keyed Try.underlying3
theorem ikey {a : Int} (h : i64 a) : keyOf Try.prog 3 (ik a) = some (Lit.int .i64 a) := ik_key Try.underlying3 h
end Go.Proofs.Ytmmgpifidlekaaa.Timer

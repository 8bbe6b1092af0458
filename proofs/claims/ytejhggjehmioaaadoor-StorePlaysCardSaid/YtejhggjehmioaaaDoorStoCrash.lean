/-
  Layer 11 (store): what a crash leaves of a file; Crash.
-/
import Derived.Test.YtejhggjehmioaaaDoorStoNames
import Derived.StillTailTactics
import Derived.Maps.OwnSet
import Derived.SliceStrings
import Derived.Deep.Slices
namespace Go.Proofs.YtejhggjehmioaaaDoor.Sto
open Go.RowKit Go.Proofs.YtejhggjehmioaaaDoor.Own Go.Proofs.YtejhggjehmioaaaDoor.KM Go.Proofs.YtejhggjehmioaaaDoor.Flt
open Go.Proofs.YtejhggjehmioaaaDoor.Rw (str strs)

theorem Bt.upto {w : World} {sl : Value} {l : Bs} (h : Bt w sl l) {k : Nat} (hk : k ≤ l.length) : ∃ p c, Bt w (.slice p k c) (l.take k) ∧ (Value.slice p k c).ownBlock = sl.ownBlock ∧
    ∀ W, (Instr.sliceAt 65 sl none (some (.int .i64 k)) none).run Tryd.prog W = .ok (.slice p k c) W := by
  have hel : Tryd.prog.elem 65 = 5 := by simp [Program.elem, Tryd.underlying65]
  have ht : Tryd.prog.underlying 65 = some (.slice (Tryd.prog.elem 65)) := by rw [hel]; exact Tryd.underlying65
  have hlt : (l.take k).length = k := by rw [List.length_take]; omega
  have r1 : ∀ (W : World) (p : Option Addr) (n c : Nat) (hk : k ≤ c), (Instr.sliceAt 65 (.slice p n c) none (some (.int .i64 k)) none).run Tryd.prog W = .ok (sliced p 0 k c 1) W := by
    intro W p n c hk
    rw [run_sliceAt_slice W _ _ _ _ _ ht, run_slice_h W _ _ _ _ ht .i64 k (by omega) (by omega), hel, Tryd.sizeOf5, Int.toNat_natCast]; rfl
  rcases h.2 with ⟨rfl, h0⟩ | ⟨g, cap, cur, rfl, _, hh, h3, h4, h5, h6⟩
  · obtain rfl : k = 0 := by omega
    refine ⟨none, 0, by rw [List.take_zero]; exact Bt.nil w, rfl, fun W => ?_⟩
    rw [r1 W none 0 0 (Nat.le_refl _)]; rfl
  · refine ⟨some ⟨g, 0, none⟩, cap, ?_, rfl, fun W => ?_⟩
    · refine ⟨by rw [bv_len, hlt, Nat.mul_one], .inr ⟨g, cap, cur, by rw [hlt], Nat.zero_le _, hh, by rw [hlt]; omega, h4, h5, ?_⟩⟩
      rw [hlt, Nat.mul_one, ← bv_take, ← h6, Nat.mul_one, List.take_take, Nat.min_eq_left hk]
    · rw [r1 W _ _ _ (by omega)]; simp [sliced, Addr.add]

set_option maxRecDepth 100000 in
set_option maxHeartbeats 1000000 in
theorem cut_calls {w : World} {sl : Value} {x : Fl} (h : Bt w sl x.bs) (hs : x.sure ≤ x.bs.length) (hl : x.bs.length ≤ 16777216) (k : Int) (hk1 : -9223372036854775808 ≤ k) (hk2 : k ≤ 9223372036854775807) :
    Calls Tryd.prog 30 #[.agg #[sl, .int .i64 x.sure], .int .i64 k] w fun e w' => ∃ p c, e = .returned (.agg #[.slice p (cutN x k) c, .int .i64 (cutN x k)]) ∧ Bt w (.slice p (cutN x k) c) (cutF x k).bs ∧ (Value.slice p (cutN x k) c).ownBlock = sl.ownBlock ∧ Below w.heap.size w w' := by
  obtain ⟨hn1, hn2⟩ := cutN_le hs k
  obtain ⟨p, c, u1, u2, u3⟩ := h.upto hn2
  have hcf : Hid (∀ (e : Ending) (w' : World), (e = .returned (.agg #[.slice p (cutN x k) c, .int .i64 (cutN x k)]) ∧ Below w.heap.size w w') → ∃ p c, e = .returned (.agg #[.slice p (cutN x k) c, .int .i64 (cutN x k)]) ∧ Bt w (.slice p (cutN x k) c) (cutF x k).bs ∧ (Value.slice p (cutN x k) c).ownBlock = sl.ownBlock ∧ Below w.heap.size w w') :=
    Lib.hid fun (e : Ending) (w' : World) h => ⟨p, c, h.1, u1, u2, h.2⟩
  refine Calls.mono (R := fun (e : Ending) (w' : World) => e = .returned (.agg #[.slice p (cutN x k) c, .int .i64 (cutN x k)]) ∧ Below w.heap.size w w') ?_ (fun e w' h => hcf.out e w' h)
  have hd : (cutN x k : Int) = x.sure + min (max k 0) ((x.bs.length : Int) - x.sure) := by unfold cutN; omega
  obtain ⟨N, hN⟩ : ∃ N, cutN x k = N := ⟨_, rfl⟩
  obtain ⟨S, hS⟩ : ∃ S, x.sure = S := ⟨_, rfl⟩
  obtain ⟨p0, c0, hsl, -⟩ := h.shape
  obtain ⟨n, hn⟩ : ∃ n, x.bs.length = n := ⟨_, rfl⟩
  rw [hn] at hsl
  subst hsl
  rw [hN] at hn1 hn2 u3 hd ⊢
  rw [hS] at hs hn1 hd ⊢
  rw [hn] at hs hl hn2 hd
  clear hcf u1 u2 h hN hS hn
  obtain ⟨M, hM⟩ : ∃ M, max k 0 = M := ⟨_, rfl⟩
  rw [hM] at hd
  obtain ⟨Q, hQ⟩ : ∃ Q, min M ((n : Int) - S) = Q := ⟨_, rfl⟩
  rw [hQ] at hd
  have q1 : 0 ≤ Q := by omega
  have q2 : Q ≤ n := by omega
  replace hd : (S : Int) + Q = N := hd.symm
  go_enter Tryd.func30, Tryd.ntmps30
  go_wp2_with fail
  refine bodyPost_ret (v := .agg #[.slice p N c, .int .i64 N]) ?_ rfl ⟨rfl, ?_⟩
  · simp [results, Tryd.results30, go_sem, *]
  · exact ((Below.refl _ _).alloc (Nat.le_refl _) _).alloc (by simp) _

/-! ### Crash -/
theorem Rise.uniq {α : Type} {nm : α → Bs} {L M : List α} (hL : Rise nm L) (hM : Rise nm M) (h : ∀ y, y ∈ L ↔ y ∈ M) : L = M := by
  have nd : ∀ {l : List α}, Rise nm l → l.Nodup := fun hl => hl.imp fun hlt e => by rw [e] at hlt; exact List.lt_irrefl _ hlt
  exact List.Perm.eq_of_pairwise (le := fun x y => nm x < nm y) (fun x y _ _ h1 h2 => absurd (List.lt_trans h1 h2) (List.lt_irrefl _)) hL hM ((List.perm_ext_iff_of_nodup (nd hL) (nd hM)).2 h)
theorem rise_set {V : List En} (h : Rise enm V) {k : Nat} (hk : k < V.length) {x : En} (hx : enm x = enm V[k]) : Rise enm (V.set k x) := by
  have e : (V.set k x).map enm = V.map enm := by
    rw [List.map_set, hx]
    apply List.ext_getElem
    · simp
    · intro i h1 h2
      rw [List.getElem_set]
      split
      · rename_i e; subst e; simp
      · rfl
  have h1 := (rise_map (nm := enm) (nb := id) enm (fun _ => rfl) (L := V)).1 h
  rw [← e] at h1
  exact (rise_map (nm := enm) (nb := id) enm (fun _ => rfl)).2 h1
theorem pt_set {V : List En} (h : Rise enm V) {k : Nat} (hk : k < V.length) {x : En} (hx : enm x = enm V[k]) : pt enm V x = V.set k x := by
  refine (h.pt x).uniq (rise_set h hk hx) fun y => ?_
  rw [mem_pt]
  constructor
  · rintro (rfl | ⟨h1, h2⟩)
    · exact List.mem_iff_getElem.2 ⟨k, by simpa using hk, by simp⟩
    · obtain ⟨i, hi, rfl⟩ := List.getElem_of_mem h1
      refine List.mem_iff_getElem.2 ⟨i, by simpa using hi, ?_⟩
      rw [List.getElem_set_ne]
      rintro rfl
      exact h2 hx.symm
  · intro hy
    obtain ⟨i, hi, rfl⟩ := List.getElem_of_mem hy
    rw [List.getElem_set]
    split
    · exact .inl rfl
    · rename_i hne
      have hi' : i < V.length := by simpa using hi
      refine .inr ⟨List.getElem_mem hi', fun e => hne ?_⟩
      rw [hx] at e
      rcases Nat.lt_trichotomy k i with hlt | he | hlt
      · have := List.pairwise_iff_getElem.1 h k i hk hi' hlt
        rw [e] at this; exact absurd this (List.lt_irrefl _)
      · exact he
      · have := List.pairwise_iff_getElem.1 h i k hi' hk hlt
        rw [e] at this; exact absurd this (List.lt_irrefl _)

structure CrAt (w wr : World) (bs : Nat → Prop) (b m : Nat) (L : List Fl) (ks : List Int) (most : Int) (k : Nat) : Prop where
  is : ∃ V, V.map En.fl = (crsL L ks).take k ++ L.drop k ∧ Base wr bs b m V most (tot ((crsL L ks).take k) : Nat) 0
  out : Out bs w wr

theorem cr_at {V : List En} {L : List Fl} {ks : List Int} {k : Nat} (hV : V.map En.fl = (crsL L ks).take k ++ L.drop k) (hk : k < L.length) : ∃ h : k < V.length, V[k].fl = L[k] := by
  have hl := congrArg List.length hV
  simp [crs_len] at hl
  refine ⟨by omega, ?_⟩
  have : (V.map En.fl)[k]'(by simp; omega) = L[k] := by
    simp only [hV]
    rw [List.getElem_append_right (by simp [crs_len]; omega)]
    simp [crs_len, Nat.min_eq_left (Nat.le_of_lt hk)]
  simpa using this
theorem cr_next {V : List En} {L : List Fl} {ks : List Int} {k : Nat} (hV : V.map En.fl = (crsL L ks).take k ++ L.drop k) (hk : k < L.length) (x : En) (hx : x.fl = cutF L[k] (ks.getD k 0)) :
    (V.set k x).map En.fl = (crsL L ks).take (k + 1) ++ L.drop (k + 1) := by
  have hkc : k < (crsL L ks).length := by rw [crs_len]; exact hk
  rw [List.map_set, hV, hx, List.set_append_right _ _ (by simp [crs_len]; omega)]
  have e1 : ((crsL L ks).take k).length = k := by simp [crs_len]; omega
  rw [e1, Nat.sub_self, List.drop_eq_getElem_cons hk, List.set_cons_zero, List.take_add_one, List.getElem?_eq_getElem hkc, crs_at L ks k hk]
  simp
theorem tot_next {L : List Fl} {ks : List Int} {k : Nat} (hk : k < L.length) : tot ((crsL L ks).take (k + 1)) = tot ((crsL L ks).take k) + (cutF L[k] (ks.getD k 0)).bs.length := by
  have hkc : k < (crsL L ks).length := by rw [crs_len]; exact hk
  rw [List.take_add_one, List.getElem?_eq_getElem hkc, crs_at L ks k hk, tot_app]
  simp [tot]
theorem tot_take (L : List Fl) (k : Nat) : tot (L.take k) ≤ tot L := by
  have := tot_app (L.take k) (L.drop k)
  rw [List.take_append_drop] at this
  omega
end Go.Proofs.YtejhggjehmioaaaDoor.Sto

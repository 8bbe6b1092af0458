/-
  Layer 4 (ring): the program's grow, walked.
-/
import Derived.Test.YtgbelgmnenbmcaaRingFill
import Derived.Laws.MakeOwn
import Derived.IntWalk
import Derived.StillTailTactics
namespace Go.Proofs.Ytgbelgmnenbmcaa.Ring
open Go.RowKit Go.Proofs.Ytgbelgmnenbmcaa.Own

theorem madeBytes (n : Nat) : (madeCells (Value.cells (.int .u8 0)) (n * 1)) = (bv (List.replicate n 0)).toArray := by
  apply Array.ext
  · simp [madeCells, bv]
  · intro i h1 h2
    simp [madeCells, bv, Value.cells, Nat.mod_one]
theorem info8all : (Try.prog.info? 5).map (fun i => (i.zero, i.size, i.bytes)) = some (some (.int .u8 0), 1, 1) := by kernel_rfl
/-- make([]byte, k) -/
theorem make_bytes (W : World) (k : Int) (n : Nat) (hk : k = n) (hn : n ≤ 4294967296) :
    (Instr.makeSlice 51 (.int .i64 k) (.int .i64 k)).run Try.prog W = .ok (.slice (some ⟨W.heap.size, 0, none⟩) n n) (W.alloc (.cells (bv (List.replicate n 0)).toArray 5)) := by
  subst hk
  obtain ⟨i0, hi, hz0, hz1, hz2⟩ := info_parts info8all
  have := run_make (P := Try.prog) W 51 5 i0 (.int .u8 0) Try.underlying51 hi hz0 .i64 .i64 n n (by omega) (by omega) (by rw [hz2]; omega) (by omega)
  rw [this, hz1]
  simp only [Int.toNat_natCast]
  rw [madeBytes]

section
variable {w : World} {b : Nat} {q : Option Nat} {most gone f : Nat} {L t : List UInt8}

def Grew (b : Nat) (q : Option Nat) (most gone need : Nat) (t : List UInt8) (w : World) (e : Ending) (w' : World) : Prop :=
  e = .returned (.tuple #[]) ∧ ∃ p f L, Raw w' b (some p) most gone f t.length L ∧ Reads L f t ∧ need ≤ L.length ∧ (q = some p ∨ w.heap.size ≤ p) ∧ Out (fun k => k = b) w w'

theorem place_any (h : Raw w b q most gone f t.length L) : ∃ o : Option Addr, placeV q L.length = .slice o L.length L.length := by
  cases q with
  | none => have := h.row; simp only [Place] at this; subst this; exact ⟨none, rfl⟩
  | some p => exact ⟨_, rfl⟩

theorem fill_any (h : Raw w b q most gone f t.length L) (hr : Reads L f t) (g m cap : Nat) (cur : List Value) (T : TypeId)
    (hg : w.heap[g]? = some (.cells cur.toArray T (0, 0))) (gb : g ≠ b) (gq : q ≠ some g) (ho : m ≤ cur.length) (hm : m = t.length) (hcap : m ≤ cap) (hcm : cap ≤ 1048576) :
    Calls Try.prog 25 #[.pointer (some ⟨b, 0, none⟩), .slice (some ⟨g, 0, none⟩) m cap] w fun e w' => e = .returned (.tuple #[]) ∧
      w'.heap[g]? = some (.cells (splice cur 0 (bv t)).toArray T (0, 0)) ∧ Out (fun k => k = g) w w' := by
  cases q with
  | none =>
    have hp := h.row
    simp only [Place] at hp
    subst hp
    obtain rfl : t = [] := by have := hr.1; exact List.eq_nil_of_length_eq_zero (by simpa using this)
    obtain rfl : f = 0 := by rcases hr.2.1 with h' | ⟨h', _⟩; simp at h'; exact h'
    subst hm
    have := fill_nil h g cap cur T hg gb
    rw [show bv [] = [] from rfl, splice_nil]
    exact this
  | some p =>
    have h2 : g ≠ p := fun e => gq (by rw [e])
    subst hm
    have hf : f < L.length := by
      rcases hr.2.1 with hf | ⟨_, hL⟩
      · exact hf
      · exact absurd hL h.row.2
    have := fill_raw p h hr g 0 t.length cap cur T hg gb h2 (by omega) (Nat.le_refl _) hf hcap hcm
    rwa [List.take_of_length_le (Nat.le_refl _)] at this

theorem splice_zeros (N : Nat) : splice (bv (List.replicate N 0)) 0 (bv t) = bv (t ++ List.replicate (N - t.length) 0) := by
  rw [bv_splice]
  congr 1
  simp [splice]

theorem grow_end {w1 : World} {need : Nat} (h : Raw w b q most gone f t.length L) (hb : w1.heap[b]? = some (.cells #[.int .i64 most, placeV q L.length, .int .i64 f, .int .i64 t.length, .int .i64 gone] 55 (0, 0)))
    (N : Nat) (hg : w1.heap[w.heap.size]? = some (.cells (splice (bv (List.replicate N 0)) 0 (bv t)).toArray 5 (0, 0))) (ho : Out (fun k => k = w.heap.size) w w1) (h1 : t.length ≤ N) (h2 : 0 < N) (h3 : need ≤ N) (h4 : N ≤ most) :
    ∃ p f' L', Raw ((w1.setCell ⟨b, 1, none⟩ (.slice (some ⟨w.heap.size, 0, none⟩) N N)).setCell ⟨b, 2, none⟩ (.int .i64 0)) b (some p) most gone f' t.length L' ∧ Reads L' f' t ∧ need ≤ L'.length ∧ (q = some p ∨ w.heap.size ≤ p) ∧
      Out (fun k => k = b) w ((w1.setCell ⟨b, 1, none⟩ (.slice (some ⟨w.heap.size, 0, none⟩) N N)).setCell ⟨b, 2, none⟩ (.int .i64 0)) := by
  have hl : (t ++ List.replicate (N - t.length) (0 : UInt8)).length = N := by simp; omega
  have hne : t ++ List.replicate (N - t.length) (0 : UInt8) ≠ [] := by rw [← List.length_pos_iff, hl]; exact h2
  have hlt := h.lt
  refine ⟨w.heap.size, 0, t ++ List.replicate (N - t.length) 0, ⟨?_, ⟨?_, hne⟩, by simp; omega, h.m1, h.m2, by omega, h.gm⟩, reads_flat _ _ hne, by omega, .inr (Nat.le_refl _), ?_⟩
  · rw [at_set (at_set hb 1 _) 2 _, hl]; rfl
  · rw [at_set_other _ (by omega), at_set_other _ (by omega), hg, splice_zeros N]
  · exact ((ho.mono (S' := fun k => k = b) (fun i hi e => by omega)).setCell (fun _ => rfl) _).setCell (fun _ => rfl) _

theorem grow_raw (h : Raw w b q most gone f t.length L) (hr : Reads L f t) (need : Nat) (hn : need ≤ most) (h1 : t.length ≤ need) (h2 : 0 < need) :
    Calls Try.prog 27 #[.pointer (some ⟨b, 0, none⟩), .int .i64 need] w (Grew b q most gone need t w) := by
  obtain ⟨c0, c1, c2, c3, c4⟩ := h.cells
  have m2 := h.m2
  have lm := h.lm
  obtain ⟨o, ho⟩ := place_any h
  rw [ho] at c1
  by_cases hd : need ≤ L.length
  · cases q with
    | none =>
      have := h.row
      simp only [Place] at this
      subst this
      simp at hd; omega
    | some p =>
      have HR := Lib.hid h; clear h
      have HX := Lib.hid hr; clear hr
      obtain ⟨n, hn'⟩ : ∃ n, n = L.length := ⟨_, rfl⟩
      have HN := Lib.hid hn'
      rw [← hn'] at c1 hd lm
      clear hn' ho
      go_enter Try.func27, Try.ntmps27
      go_wp2
      go_end0
      exact ⟨rfl, p, f, L, HR.out, HX.out, by rw [← HN.out]; exact hd, .inl rfl, Out.refl _ _⟩
  · have blt := h.lt
    have HR := Lib.hid h; clear h
    have HX := Lib.hid hr; clear hr
    obtain ⟨n, hn'⟩ : ∃ n, n = L.length := ⟨_, rfl⟩
    have HN := Lib.hid hn'
    rw [← hn'] at c1 hd lm
    clear hn' ho
    rcases (by omega : (2 * n ≤ need ∧ need < most) ∨ (2 * n ≤ need ∧ need = most) ∨ (need < 2 * n ∧ 2 * n < most) ∨ (need < 2 * n ∧ most ≤ 2 * n)) with ⟨h3, h4⟩ | ⟨h3, h4⟩ | ⟨h3, h4⟩ | ⟨h3, h4⟩
    · obtain ⟨N, hN⟩ : ∃ N, N = need := ⟨_, rfl⟩
      have hmk := fun W => make_bytes W need N (by omega) (by omega)
      have b1 : need ≤ N := by omega
      have b2 : N ≤ most := by omega
      clear hN
      have kw : IntKind.i64.wrap (2 * (n : Int)) = 2 * (n : Int) := IntWalk.i64_in _ (by omega)
      go_enter Try.func27, Try.ntmps27
      go_wp2_with fail
      go_still_tail 13, (by kernel_rfl)
      clear kw
      change wpList _ _ _ _ _ w.drew
      go_wp2_with fail
      refine (fill_any (q := q) (most := most) (gone := gone) (f := f) (L := L) (t := t) (HR.out.out (S := fun _ => False) (by exact ((Out.refl _ _).drew.alloc _)) (by simp) (by simp)) HX.out w.heap.size t.length N (bv (List.replicate N 0)) 5 (by exact at_new _ _) (by omega) (fun e => by have := HR.out.ltq e; omega) (by rw [bv_len]; simp; omega) rfl (by omega) (by omega)).mono ?_
      rintro e w1 ⟨rfl, hg1, hO1⟩
      have hO2 : Out (fun k => k = w.heap.size) w w1 := ((Out.refl _ _).drew.alloc _).trans hO1 (fun _ _ h => h)
      clear hO1 hmk
      have hr1 := HR.out.out hO2 (show ¬ b = w.heap.size by omega) (fun p e h => by have := HR.out.ltq e; omega)
      obtain ⟨d0, d1, d2, d3, d4⟩ := hr1.cells
      have z1 := hr1.free 1
      have z2 := hr1.free 2
      have HB := Lib.hid hr1.blk
      have HG := Lib.hid hg1
      have HO := Lib.hid hO2
      clear hr1 hg1 hO2
      go_wp2_with fail
      go_end0
      exact ⟨rfl, grow_end HR.out HB.out N HG.out HO.out (by omega) (by omega) b1 b2⟩
    · obtain rfl := h4.symm
      obtain ⟨N, hN⟩ : ∃ N, N = most := ⟨_, rfl⟩
      have hmk := fun W => make_bytes W most N (by omega) (by omega)
      have b1 : most ≤ N := by omega
      have b2 : N ≤ most := by omega
      clear hN
      have kw : IntKind.i64.wrap (2 * (n : Int)) = 2 * (n : Int) := IntWalk.i64_in _ (by omega)
      go_enter Try.func27, Try.ntmps27
      go_wp2_with fail
      go_still_tail 13, (by kernel_rfl)
      clear kw
      change wpList _ _ _ _ _ w.drew
      go_wp2_with fail
      refine (fill_any (q := q) (most := most) (gone := gone) (f := f) (L := L) (t := t) (HR.out.out (S := fun _ => False) (by exact ((Out.refl _ _).drew.alloc _)) (by simp) (by simp)) HX.out w.heap.size t.length N (bv (List.replicate N 0)) 5 (by exact at_new _ _) (by omega) (fun e => by have := HR.out.ltq e; omega) (by rw [bv_len]; simp; omega) rfl (by omega) (by omega)).mono ?_
      rintro e w1 ⟨rfl, hg1, hO1⟩
      have hO2 : Out (fun k => k = w.heap.size) w w1 := ((Out.refl _ _).drew.alloc _).trans hO1 (fun _ _ h => h)
      clear hO1 hmk
      have hr1 := HR.out.out hO2 (show ¬ b = w.heap.size by omega) (fun p e h => by have := HR.out.ltq e; omega)
      obtain ⟨d0, d1, d2, d3, d4⟩ := hr1.cells
      have z1 := hr1.free 1
      have z2 := hr1.free 2
      have HB := Lib.hid hr1.blk
      have HG := Lib.hid hg1
      have HO := Lib.hid hO2
      clear hr1 hg1 hO2
      go_wp2_with fail
      go_end0
      exact ⟨rfl, grow_end HR.out HB.out N HG.out HO.out (by omega) (by omega) b1 b2⟩
    · obtain ⟨N, hN⟩ : ∃ N, N = 2 * n := ⟨_, rfl⟩
      have hmk := fun W => make_bytes W (2 * (n : Int)) N (by omega) (by omega)
      have b1 : need ≤ N := by omega
      have b2 : N ≤ most := by omega
      clear hN
      have kw : IntKind.i64.wrap (2 * (n : Int)) = 2 * (n : Int) := IntWalk.i64_in _ (by omega)
      go_enter Try.func27, Try.ntmps27
      go_wp2_with fail
      go_still_tail 13, (by kernel_rfl)
      clear kw
      change wpList _ _ _ _ _ w.drew
      go_wp2_with fail
      refine (fill_any (q := q) (most := most) (gone := gone) (f := f) (L := L) (t := t) (HR.out.out (S := fun _ => False) (by exact ((Out.refl _ _).drew.alloc _)) (by simp) (by simp)) HX.out w.heap.size t.length N (bv (List.replicate N 0)) 5 (by exact at_new _ _) (by omega) (fun e => by have := HR.out.ltq e; omega) (by rw [bv_len]; simp; omega) rfl (by omega) (by omega)).mono ?_
      rintro e w1 ⟨rfl, hg1, hO1⟩
      have hO2 : Out (fun k => k = w.heap.size) w w1 := ((Out.refl _ _).drew.alloc _).trans hO1 (fun _ _ h => h)
      clear hO1 hmk
      have hr1 := HR.out.out hO2 (show ¬ b = w.heap.size by omega) (fun p e h => by have := HR.out.ltq e; omega)
      obtain ⟨d0, d1, d2, d3, d4⟩ := hr1.cells
      have z1 := hr1.free 1
      have z2 := hr1.free 2
      have HB := Lib.hid hr1.blk
      have HG := Lib.hid hg1
      have HO := Lib.hid hO2
      clear hr1 hg1 hO2
      go_wp2_with fail
      go_end0
      exact ⟨rfl, grow_end HR.out HB.out N HG.out HO.out (by omega) (by omega) b1 b2⟩
    · obtain ⟨N, hN⟩ : ∃ N, N = most := ⟨_, rfl⟩
      have hmk := fun W => make_bytes W most N (by omega) (by omega)
      have b1 : need ≤ N := by omega
      have b2 : N ≤ most := by omega
      clear hN
      have kw : IntKind.i64.wrap (2 * (n : Int)) = 2 * (n : Int) := IntWalk.i64_in _ (by omega)
      go_enter Try.func27, Try.ntmps27
      go_wp2_with fail
      go_still_tail 13, (by kernel_rfl)
      clear kw
      change wpList _ _ _ _ _ w.drew
      go_wp2_with fail
      refine (fill_any (q := q) (most := most) (gone := gone) (f := f) (L := L) (t := t) (HR.out.out (S := fun _ => False) (by exact ((Out.refl _ _).drew.alloc _)) (by simp) (by simp)) HX.out w.heap.size t.length N (bv (List.replicate N 0)) 5 (by exact at_new _ _) (by omega) (fun e => by have := HR.out.ltq e; omega) (by rw [bv_len]; simp; omega) rfl (by omega) (by omega)).mono ?_
      rintro e w1 ⟨rfl, hg1, hO1⟩
      have hO2 : Out (fun k => k = w.heap.size) w w1 := ((Out.refl _ _).drew.alloc _).trans hO1 (fun _ _ h => h)
      clear hO1 hmk
      have hr1 := HR.out.out hO2 (show ¬ b = w.heap.size by omega) (fun p e h => by have := HR.out.ltq e; omega)
      obtain ⟨d0, d1, d2, d3, d4⟩ := hr1.cells
      have z1 := hr1.free 1
      have z2 := hr1.free 2
      have HB := Lib.hid hr1.blk
      have HG := Lib.hid hg1
      have HO := Lib.hid hO2
      clear hr1 hg1 hO2
      go_wp2_with fail
      go_end0
      exact ⟨rfl, grow_end HR.out HB.out N HG.out HO.out (by omega) (by omega) b1 b2⟩
end
end Go.Proofs.Ytgbelgmnenbmcaa.Ring

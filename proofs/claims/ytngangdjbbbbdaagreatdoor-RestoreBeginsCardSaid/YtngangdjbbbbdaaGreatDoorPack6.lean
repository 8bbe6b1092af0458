/-
Layer 4 (ring): the program's grow, walked.
Layer 4 (ring): the program's extend, walked.
Layer 4 (ring): the ring's calls, walked: New, Len, Room, Gone, Drop, Peek, Take, Text, At.
Layer 4 (ring): the program's Put and Force, and the calls of a ring that is nil, walked.
Layer 5 (tail): a tail in memory; New, Feed, Came, Text.
Layer 21 (gens): Turn. Written by gen_genturn.py.
Layer 21 (gens): Names.
Layer 5 (tail): the document's Many, Fits, Tail.
Layer 2 (digit): the document's own answers, walked: padding.
Layer 2 (digit): the document's own Read of a number that it can read, walked.
Layer 2 (digit): the document's own Read, walked.
-/
import Derived.Test.YtngangdjbbbbdaaGreatDoorPack5
import Derived.Laws.MakeOwn
import Derived.IntWalk
import Derived.StillTailTactics
import Derived.Lib.IndexBytes
import Derived.Deep.RegionHeld3
import Derived.Deep.Slices
section
namespace Go.Proofs.YtngangdjbbbbdaaGreatDoor.Ring
open Go.RowKit Go.Proofs.YtngangdjbbbbdaaGreatDoor.Own

theorem madeBytes (n : Nat) : (madeCells (Value.cells (.int .u8 0)) (n * 1)) = (bv (List.replicate n 0)).toArray := by
  apply Array.ext
  · simp [madeCells, bv]
  · intro i h1 h2
    simp [madeCells, bv, Value.cells, Nat.mod_one]
theorem info8all : (Tryz.prog.info? 5).map (fun i => (i.zero, i.size, i.bytes)) = some (some (.int .u8 0), 1, 1) := by kernel_rfl
/-- make([]byte, k) -/
theorem make_bytes (W : World) (k : Int) (n : Nat) (hk : k = n) (hn : n ≤ 4294967296) :
    (Instr.makeSlice 58 (.int .i64 k) (.int .i64 k)).run Tryz.prog W = .ok (.slice (some ⟨W.heap.size, 0, none⟩) n n) (W.alloc (.cells (bv (List.replicate n 0)).toArray 5)) := by
  subst hk
  obtain ⟨i0, hi, hz0, hz1, hz2⟩ := info_parts info8all
  have := run_make (P := Tryz.prog) W 58 5 i0 (.int .u8 0) Tryz.underlying58 hi hz0 .i64 .i64 n n (by omega) (by omega) (by rw [hz2]; omega) (by omega)
  rw [this, hz1]
  simp only [Int.toNat_natCast]
  rw [madeBytes]

section
variable {w : World} {b : Nat} {q : Option Nat} {most gone f : Nat} {L t : List UInt8}

def Grew (b : Nat) (q : Option Nat) (most gone need : Nat) (t : List UInt8) (w : World) (e : Ending) (w' : World) : Prop :=
  e = .returned (.tuple #[]) ∧ ∃ p f L, Raw w' b (some p) most gone f t.length L ∧ Reads L f t ∧ need ≤ L.length ∧ (q = some p ∨ w.heap.size ≤ p) ∧ Out (fun k => k = b) w w'

theorem place_any (h : Raw w b q most gone f t.length L) : ∃ o : Option Addr, placeV q L.length = .slice o L.length L.length := by
  cases q with
  | none => have := h.row; simp only [Place] at this; subst this; exact ⟨none, rfl⟩
  | some p => exact ⟨_, rfl⟩

theorem fill_any (h : Raw w b q most gone f t.length L) (hr : Reads L f t) (g m cap : Nat) (cur : List Value) (T : TypeId)
    (hg : w.heap[g]? = some (.cells cur.toArray T (0, 0))) (gb : g ≠ b) (gq : q ≠ some g) (ho : m ≤ cur.length) (hm : m = t.length) (hcap : m ≤ cap) (hcm : cap ≤ 1048576) :
    Calls Tryz.prog 101 #[.pointer (some ⟨b, 0, none⟩), .slice (some ⟨g, 0, none⟩) m cap] w fun e w' => e = .returned (.tuple #[]) ∧
      w'.heap[g]? = some (.cells (splice cur 0 (bv t)).toArray T (0, 0)) ∧ Out (fun k => k = g) w w' := by
  cases q with
  | none =>
    have hp := h.row
    simp only [Place] at hp
    subst hp
    obtain rfl : t = [] := by have := hr.1; exact List.eq_nil_of_length_eq_zero (by simpa using this)
    obtain rfl : f = 0 := by rcases hr.2.1 with h' | ⟨h', _⟩; simp at h'; exact h'
    subst hm
    have := fill_nil h g cap cur T hg gb
    rw [show bv [] = [] from rfl, splice_nil]
    exact this
  | some p =>
    have h2 : g ≠ p := fun e => gq (by rw [e])
    subst hm
    have hf : f < L.length := by
      rcases hr.2.1 with hf | ⟨_, hL⟩
      · exact hf
      · exact absurd hL h.row.2
    have := fill_raw p h hr g 0 t.length cap cur T hg gb h2 (by omega) (Nat.le_refl _) hf hcap hcm
    rwa [List.take_of_length_le (Nat.le_refl _)] at this

theorem splice_zeros (N : Nat) : splice (bv (List.replicate N 0)) 0 (bv t) = bv (t ++ List.replicate (N - t.length) 0) := by
  rw [bv_splice]
  congr 1
  simp [splice]

theorem grow_end {w1 : World} {need : Nat} (h : Raw w b q most gone f t.length L) (hb : w1.heap[b]? = some (.cells #[.int .i64 most, placeV q L.length, .int .i64 f, .int .i64 t.length, .int .i64 gone] 169 (0, 0)))
    (N : Nat) (hg : w1.heap[w.heap.size]? = some (.cells (splice (bv (List.replicate N 0)) 0 (bv t)).toArray 5 (0, 0))) (ho : Out (fun k => k = w.heap.size) w w1) (h1 : t.length ≤ N) (h2 : 0 < N) (h3 : need ≤ N) (h4 : N ≤ most) :
    ∃ p f' L', Raw ((w1.setCell ⟨b, 1, none⟩ (.slice (some ⟨w.heap.size, 0, none⟩) N N)).setCell ⟨b, 2, none⟩ (.int .i64 0)) b (some p) most gone f' t.length L' ∧ Reads L' f' t ∧ need ≤ L'.length ∧ (q = some p ∨ w.heap.size ≤ p) ∧
      Out (fun k => k = b) w ((w1.setCell ⟨b, 1, none⟩ (.slice (some ⟨w.heap.size, 0, none⟩) N N)).setCell ⟨b, 2, none⟩ (.int .i64 0)) := by
  have hl : (t ++ List.replicate (N - t.length) (0 : UInt8)).length = N := by simp; omega
  have hne : t ++ List.replicate (N - t.length) (0 : UInt8) ≠ [] := by rw [← List.length_pos_iff, hl]; exact h2
  have hlt := h.lt
  refine ⟨w.heap.size, 0, t ++ List.replicate (N - t.length) 0, ⟨?_, ⟨?_, hne⟩, by simp; omega, h.m1, h.m2, by omega, h.gm⟩, reads_flat _ _ hne, by omega, .inr (Nat.le_refl _), ?_⟩
  · rw [at_set (at_set hb 1 _) 2 _, hl]; rfl
  · rw [at_set_other _ (by omega), at_set_other _ (by omega), hg, splice_zeros N]
  · exact ((ho.mono (S' := fun k => k = b) (fun i hi e => by omega)).setCell (fun _ => rfl) _).setCell (fun _ => rfl) _

set_option maxRecDepth 100000 in
theorem grow_raw (h : Raw w b q most gone f t.length L) (hr : Reads L f t) (need : Nat) (hn : need ≤ most) (h1 : t.length ≤ need) (h2 : 0 < need) :
    Calls Tryz.prog 112 #[.pointer (some ⟨b, 0, none⟩), .int .i64 need] w (Grew b q most gone need t w) := by
  obtain ⟨c0, c1, c2, c3, c4⟩ := h.cells
  have m2 := h.m2
  have lm := h.lm
  obtain ⟨o, ho⟩ := place_any h
  rw [ho] at c1
  by_cases hd : need ≤ L.length
  · cases q with
    | none =>
      have := h.row
      simp only [Place] at this
      subst this
      simp at hd; omega
    | some p =>
      have HR := Lib.hid h; clear h
      have HX := Lib.hid hr; clear hr
      obtain ⟨n, hn'⟩ : ∃ n, n = L.length := ⟨_, rfl⟩
      have HN := Lib.hid hn'
      rw [← hn'] at c1 hd lm
      clear hn' ho
      go_enter Tryz.func112, Tryz.ntmps112
      go_wp2
      go_end0
      exact ⟨rfl, p, f, L, HR.out, HX.out, by rw [← HN.out]; exact hd, .inl rfl, Out.refl _ _⟩
  · have blt := h.lt
    have HR := Lib.hid h; clear h
    have HX := Lib.hid hr; clear hr
    obtain ⟨n, hn'⟩ : ∃ n, n = L.length := ⟨_, rfl⟩
    have HN := Lib.hid hn'
    rw [← hn'] at c1 hd lm
    clear hn' ho
    rcases (by omega : (2 * n ≤ need ∧ need < most) ∨ (2 * n ≤ need ∧ need = most) ∨ (need < 2 * n ∧ 2 * n < most) ∨ (need < 2 * n ∧ most ≤ 2 * n)) with ⟨h3, h4⟩ | ⟨h3, h4⟩ | ⟨h3, h4⟩ | ⟨h3, h4⟩
    · obtain ⟨N, hN⟩ : ∃ N, N = need := ⟨_, rfl⟩
      have hmk := fun W => make_bytes W need N (by omega) (by omega)
      have b1 : need ≤ N := by omega
      have b2 : N ≤ most := by omega
      clear hN
      have kw : IntKind.i64.wrap (2 * (n : Int)) = 2 * (n : Int) := IntWalk.i64_in _ (by omega)
      go_enter Tryz.func112, Tryz.ntmps112
      go_wp2_with fail
      go_still_tail 13, (by kernel_rfl)
      clear kw
      change wpList _ _ _ _ _ w.drew
      go_wp2_with fail
      refine (fill_any (q := q) (most := most) (gone := gone) (f := f) (L := L) (t := t) (HR.out.out (S := fun _ => False) (by exact ((Out.refl _ _).drew.alloc _)) (by simp) (by simp)) HX.out w.heap.size t.length N (bv (List.replicate N 0)) 5 (by exact at_new _ _) (by omega) (fun e => by have := HR.out.ltq e; omega) (by rw [bv_len]; simp; omega) rfl (by omega) (by omega)).mono ?_
      rintro e w1 ⟨rfl, hg1, hO1⟩
      have hO2 : Out (fun k => k = w.heap.size) w w1 := ((Out.refl _ _).drew.alloc _).trans hO1 (fun _ _ h => h)
      clear hO1 hmk
      have hr1 := HR.out.out hO2 (show ¬ b = w.heap.size by omega) (fun p e h => by have := HR.out.ltq e; omega)
      obtain ⟨d0, d1, d2, d3, d4⟩ := hr1.cells
      have z1 := hr1.free 1
      have z2 := hr1.free 2
      have HB := Lib.hid hr1.blk
      have HG := Lib.hid hg1
      have HO := Lib.hid hO2
      clear hr1 hg1 hO2
      go_wp2_with fail
      go_end0
      exact ⟨rfl, grow_end HR.out HB.out N HG.out HO.out (by omega) (by omega) b1 b2⟩
    · obtain rfl := h4.symm
      obtain ⟨N, hN⟩ : ∃ N, N = most := ⟨_, rfl⟩
      have hmk := fun W => make_bytes W most N (by omega) (by omega)
      have b1 : most ≤ N := by omega
      have b2 : N ≤ most := by omega
      clear hN
      have kw : IntKind.i64.wrap (2 * (n : Int)) = 2 * (n : Int) := IntWalk.i64_in _ (by omega)
      go_enter Tryz.func112, Tryz.ntmps112
      go_wp2_with fail
      go_still_tail 13, (by kernel_rfl)
      clear kw
      change wpList _ _ _ _ _ w.drew
      go_wp2_with fail
      refine (fill_any (q := q) (most := most) (gone := gone) (f := f) (L := L) (t := t) (HR.out.out (S := fun _ => False) (by exact ((Out.refl _ _).drew.alloc _)) (by simp) (by simp)) HX.out w.heap.size t.length N (bv (List.replicate N 0)) 5 (by exact at_new _ _) (by omega) (fun e => by have := HR.out.ltq e; omega) (by rw [bv_len]; simp; omega) rfl (by omega) (by omega)).mono ?_
      rintro e w1 ⟨rfl, hg1, hO1⟩
      have hO2 : Out (fun k => k = w.heap.size) w w1 := ((Out.refl _ _).drew.alloc _).trans hO1 (fun _ _ h => h)
      clear hO1 hmk
      have hr1 := HR.out.out hO2 (show ¬ b = w.heap.size by omega) (fun p e h => by have := HR.out.ltq e; omega)
      obtain ⟨d0, d1, d2, d3, d4⟩ := hr1.cells
      have z1 := hr1.free 1
      have z2 := hr1.free 2
      have HB := Lib.hid hr1.blk
      have HG := Lib.hid hg1
      have HO := Lib.hid hO2
      clear hr1 hg1 hO2
      go_wp2_with fail
      go_end0
      exact ⟨rfl, grow_end HR.out HB.out N HG.out HO.out (by omega) (by omega) b1 b2⟩
    · obtain ⟨N, hN⟩ : ∃ N, N = 2 * n := ⟨_, rfl⟩
      have hmk := fun W => make_bytes W (2 * (n : Int)) N (by omega) (by omega)
      have b1 : need ≤ N := by omega
      have b2 : N ≤ most := by omega
      clear hN
      have kw : IntKind.i64.wrap (2 * (n : Int)) = 2 * (n : Int) := IntWalk.i64_in _ (by omega)
      go_enter Tryz.func112, Tryz.ntmps112
      go_wp2_with fail
      go_still_tail 13, (by kernel_rfl)
      clear kw
      change wpList _ _ _ _ _ w.drew
      go_wp2_with fail
      refine (fill_any (q := q) (most := most) (gone := gone) (f := f) (L := L) (t := t) (HR.out.out (S := fun _ => False) (by exact ((Out.refl _ _).drew.alloc _)) (by simp) (by simp)) HX.out w.heap.size t.length N (bv (List.replicate N 0)) 5 (by exact at_new _ _) (by omega) (fun e => by have := HR.out.ltq e; omega) (by rw [bv_len]; simp; omega) rfl (by omega) (by omega)).mono ?_
      rintro e w1 ⟨rfl, hg1, hO1⟩
      have hO2 : Out (fun k => k = w.heap.size) w w1 := ((Out.refl _ _).drew.alloc _).trans hO1 (fun _ _ h => h)
      clear hO1 hmk
      have hr1 := HR.out.out hO2 (show ¬ b = w.heap.size by omega) (fun p e h => by have := HR.out.ltq e; omega)
      obtain ⟨d0, d1, d2, d3, d4⟩ := hr1.cells
      have z1 := hr1.free 1
      have z2 := hr1.free 2
      have HB := Lib.hid hr1.blk
      have HG := Lib.hid hg1
      have HO := Lib.hid hO2
      clear hr1 hg1 hO2
      go_wp2_with fail
      go_end0
      exact ⟨rfl, grow_end HR.out HB.out N HG.out HO.out (by omega) (by omega) b1 b2⟩
    · obtain ⟨N, hN⟩ : ∃ N, N = most := ⟨_, rfl⟩
      have hmk := fun W => make_bytes W most N (by omega) (by omega)
      have b1 : need ≤ N := by omega
      have b2 : N ≤ most := by omega
      clear hN
      have kw : IntKind.i64.wrap (2 * (n : Int)) = 2 * (n : Int) := IntWalk.i64_in _ (by omega)
      go_enter Tryz.func112, Tryz.ntmps112
      go_wp2_with fail
      go_still_tail 13, (by kernel_rfl)
      clear kw
      change wpList _ _ _ _ _ w.drew
      go_wp2_with fail
      refine (fill_any (q := q) (most := most) (gone := gone) (f := f) (L := L) (t := t) (HR.out.out (S := fun _ => False) (by exact ((Out.refl _ _).drew.alloc _)) (by simp) (by simp)) HX.out w.heap.size t.length N (bv (List.replicate N 0)) 5 (by exact at_new _ _) (by omega) (fun e => by have := HR.out.ltq e; omega) (by rw [bv_len]; simp; omega) rfl (by omega) (by omega)).mono ?_
      rintro e w1 ⟨rfl, hg1, hO1⟩
      have hO2 : Out (fun k => k = w.heap.size) w w1 := ((Out.refl _ _).drew.alloc _).trans hO1 (fun _ _ h => h)
      clear hO1 hmk
      have hr1 := HR.out.out hO2 (show ¬ b = w.heap.size by omega) (fun p e h => by have := HR.out.ltq e; omega)
      obtain ⟨d0, d1, d2, d3, d4⟩ := hr1.cells
      have z1 := hr1.free 1
      have z2 := hr1.free 2
      have HB := Lib.hid hr1.blk
      have HG := Lib.hid hg1
      have HO := Lib.hid hO2
      clear hr1 hg1 hO2
      go_wp2_with fail
      go_end0
      exact ⟨rfl, grow_end HR.out HB.out N HG.out HO.out (by omega) (by omega) b1 b2⟩
end
end Go.Proofs.YtngangdjbbbbdaaGreatDoor.Ring
end

section
namespace Go.Proofs.YtngangdjbbbbdaaGreatDoor.Ring
open Go.RowKit Go.Proofs.YtngangdjbbbbdaaGreatDoor.Own

section
variable {w : World} {b : Nat} {q : Option Nat} {most gone f : Nat} {L t : List UInt8}

def two (b : Nat) (q : Option Nat) (k : Nat) : Prop := k = b ∨ q = some k

/-- a ring that holds the bytes t -/
structure IsRing (w : World) (b : Nat) (q : Option Nat) (most gone : Nat) (t : List UInt8) : Prop where
  ex : ∃ f L, Raw w b q most gone f t.length L ∧ Reads L f t

def Ext (b : Nat) (q : Option Nat) (most gone : Nat) (t : List UInt8) (w : World) (e : Ending) (w' : World) : Prop :=
  e = .returned (.tuple #[]) ∧ ∃ q', IsRing w' b q' most gone t ∧ (q' = q ∨ ∀ p, q' = some p → w.heap.size ≤ p) ∧ Out (two b q) w w'

theorem ext_end {p : Nat} {w1 : World} (s : List UInt8) (h : Raw w b (some p) most gone f t.length L) (hr : Reads L f t) (hs : t.length + s.length ≤ L.length) (h0 : 0 < L.length) (d : Nat) (hd : d = min s.length (L.length - (f + t.length) % L.length))
    (hb : w1.heap[b]? = w.heap[b]?) (hg : w1.heap[p]? = some (.cells (splice (splice (bv L) ((f + t.length) % L.length) (bv (s.take d))) 0 (bv (s.drop d))).toArray 5 (0, 0))) :
    IsRing (w1.setCell ⟨b, 3, none⟩ (.int .i64 ((t.length : Int) + s.length))) b (some p) most gone (t ++ s) := by
  have hr2 := reads_put hr s hs h0 d hd
  have hp : (f + t.length) % L.length < L.length := Nat.mod_lt _ h0
  have e1 : (splice L ((f + t.length) % L.length) (s.take d)).length = L.length := length_splice _ _ _ (by simp; omega)
  have e2 : (splice (splice L ((f + t.length) % L.length) (s.take d)) 0 (s.drop d)).length = L.length := by rw [length_splice _ _ _ (by simp; omega), e1]
  rw [bv_splice, bv_splice] at hg
  have hne := h.ne
  refine ⟨f, splice (splice L ((f + t.length) % L.length) (s.take d)) 0 (s.drop d), ⟨?_, ⟨?_, ?_⟩, hne, h.m1, h.m2, by rw [e2]; exact h.lm, h.gm⟩, hr2⟩
  · rw [at_set (hb.trans h.blk) 3 _, e2]; simp
  · rw [at_set_other _ (fun e => hne (by rw [e])), hg]
  · rw [← List.length_pos_iff, e2]; exact h0

set_option maxRecDepth 100000 in
theorem extend_calls (h : IsRing w b q most gone t) (s : ByteArray) (hs : t.length + s.size ≤ most) :
    Calls Tryz.prog 99 #[.pointer (some ⟨b, 0, none⟩), .string s] w (Ext b q most gone (t ++ s.data.toList) w) := by
  obtain ⟨f, L, hraw, hr⟩ := h
  by_cases h0 : s.size = 0
  · have HE : Hid (s.data.toList = []) := Lib.hid (List.eq_nil_of_length_eq_zero (show s.data.size = 0 from h0))
    have hE : s.toList = [] := by rw [ByteArray.toList_eq]; exact HE.out
    have hE2 : s.toList.isEmpty = true := by rw [hE]; rfl
    have HR := Lib.hid hraw; clear hraw
    have HX := Lib.hid hr; clear hr
    go_enter Tryz.func99, Tryz.ntmps99
    go_wp2_with fail
    go_end0
    exact ⟨rfl, q, by rw [HE.out, List.append_nil]; exact ⟨f, L, HR.out, HX.out⟩, .inl rfl, Out.refl _ _⟩
  · have hE : s.toList.isEmpty = false := by
      rw [ByteArray.toList_eq, List.isEmpty_eq_false_iff]
      exact fun e => h0 (show s.data.size = 0 by rw [← Array.length_toList, e]; rfl)
    obtain ⟨c0, c1, c2, c3, c4⟩ := hraw.cells
    have m2 := hraw.m2
    have hn := Lib.hid (grow_raw hraw hr (t.length + s.size) hs (by omega) (by omega))
    have kt : (0 : Int) ≤ (t.length : Int) := by omega
    clear hraw hr c0 c1 c2 c4
    go_enter Tryz.func99, Tryz.ntmps99
    go_wp2_with (go_at_call 112; refine (by exact hn.out : Calls _ _ _ _ _).mono ?_; rintro e w1 ⟨rfl, p, f, L, hraw, hr, hl, hq, ho⟩)
    clear c3
    obtain ⟨c0, c1, c2, c3, c4⟩ := hraw.cells
    unfold placeV at c1
    have hf := reads_pos hr
    have lm := hraw.lm
    obtain ⟨N, hN⟩ : ∃ N, N = L.length := ⟨_, rfl⟩
    obtain ⟨x, hx⟩ : ∃ x, x = (f + t.length) % L.length := ⟨_, rfl⟩
    obtain ⟨d, hd⟩ : ∃ d, d = min s.size (N - x) := ⟨_, rfl⟩
    have hxN : x < N := by rw [hx, hN]; exact Nat.mod_lt _ (by omega)
    have hA : Hid (∀ W, (∀ k : Nat, W.heap[k]? = w1.heap[k]?) → Calls Tryz.prog 111 #[.pointer (some ⟨b, 0, none⟩), .int .i64 (t.length : Int)] W fun e w' => e = .returned (.int .i64 (x : Int)) ∧ Drew W w') :=
      Lib.hid fun W hW => by
        have := around_raw p (hraw.move (hW b) (fun k _ => hW k)) t.length (by omega) (by have := hr.2.1; omega) (by omega) (by omega)
        rw [Int.toNat_natCast, ← hx] at this
        exact this
    have HG : Hid (w1.heap[p]? = some (.cells (bv L).toArray 5 (0, 0))) := Lib.hid hraw.row.1
    have HLN : Hid ((bv L).length = N) := Lib.hid (by rw [bv_len, hN])
    have hpb : p ≠ b := fun e => hraw.ne (by rw [e])
    have blt := hraw.lt
    have x0 : (0 : Int) ≤ (x : Int) := by omega
    have x1 : (x : Int) ≤ (N : Int) := by omega
    have HR := Lib.hid hraw; clear hraw
    have HX := Lib.hid hr; clear hr
    rw [← hN] at c1 hl lm
    have HN := Lib.hid hN; clear hN
    have Hx := Lib.hid hx; clear hx
    have hd1 : d ≤ s.size := by omega
    have hd2 : d ≤ N - x := by omega
    have HD := Lib.hid hd; clear hd
    have HO := Lib.hid ho; clear ho
    have HQ := Lib.hid hq; clear hq
    clear hn
    go_region_held3 (fun w' => w'.cell? ⟨b, 1, none⟩ = some (.slice (some ⟨p, 0, none⟩) N N) ∧ w'.cell? ⟨b, 3, none⟩ = some (.int .i64 (t.length : Int)))
      (first
        | go_keep
        | exact ⟨by rw [hO1.cell (show b < w1.heap.size from blt) (Ne.symm hpb)]; assumption, by rw [hO1.cell (show b < w1.heap.size from blt) (Ne.symm hpb)]; assumption⟩)
      (first
        | (refine step_copy_text rfl _ _ _ _ rfl 5 Tryz.underlying58 info8 _ _ _ s rfl rfl p x (bv L) 5 HG.out d (by exact HD.out) (fun _ => if_neg (by omega)) (by rw [HLN.out]; omega) ?_; intro w2 hg2 hO1)
        | (go_at_call 111; refine (hA.out _ (by exact fun _ => rfl)).mono ?_; rintro e w5 ⟨rfl, nq, rfl⟩))
    have HO1 : Hid (Out (fun k => k = p) w1 w2) := Lib.hid ⟨hO1.os, hO1.tape, hO1.output, hO1.size, hO1.block⟩
    have e1 : w2.cell? ⟨b, 1, none⟩ = some (.slice (some ⟨p, 0, none⟩) N N) := by rw [HO1.out.cell (show b < w1.heap.size from blt) (Ne.symm hpb)]; assumption
    have e3 : w2.cell? ⟨b, 3, none⟩ = some (.int .i64 (t.length : Int)) := by rw [HO1.out.cell (show b < w1.heap.size from blt) (Ne.symm hpb)]; assumption
    have f3 : w2.frozen? ⟨b, 3, none⟩ = false := by rw [HO1.out.frozen (show b < w1.heap.size from blt) (Ne.symm hpb)]; exact HR.out.free 3
    have blt2 : b < w2.heap.size := Nat.lt_of_lt_of_le blt HO1.out.size
    clear hO1 c0 c1 c2 c3 c4
    have d0 : (0 : Int) ≤ (d : Int) := by omega
    have d1 : (d : Int) ≤ (s.size : Int) := by omega
    have hsz : (s.extract d s.size).size = s.size - d := by simp
    have HSZ := Lib.hid hsz; clear hsz
    go_wp2
    go_region_held3 (fun w' => w'.cell? ⟨b, 1, none⟩ = some (.slice (some ⟨p, 0, none⟩) N N))
      (first
        | go_keep
        | (rw [hO3.cell (show b < w2.heap.size from blt2) (Ne.symm hpb)]; assumption))
      ((refine step_copy_text rfl _ _ _ _ rfl 5 Tryz.underlying58 info8 _ _ _ (s.extract d s.size) rfl rfl p 0 _ 5 hg2.out (s.size - d) (by rw [HSZ.out]; omega) (fun _ => rfl) (by rw [length_splice _ _ _ (by rw [HLN.out, bv_len]; simp; omega), HLN.out]; omega) ?_; intro w3 hg3 hO3))
    have HO3 : Hid (Out (fun k => k = p) w2 w3) := Lib.hid ⟨hO3.os, hO3.tape, hO3.output, hO3.size, hO3.block⟩
    have g3 : w3.cell? ⟨b, 3, none⟩ = some (.int .i64 (t.length : Int)) := by rw [HO3.out.cell (show b < w2.heap.size from blt2) (Ne.symm hpb)]; assumption
    have h3 : w3.frozen? ⟨b, 3, none⟩ = false := by rw [HO3.out.frozen (show b < w2.heap.size from blt2) (Ne.symm hpb)]; assumption
    clear hO3 e1 e3 f3
    go_wp2
    go_end0
    have hsl : s.data.toList.length = s.size := by rw [Array.length_toList]; rfl
    have hg : w3.heap[p]? = some (.cells (splice (splice (bv L) ((f + t.length) % L.length) (bv (s.data.toList.take d))) 0 (bv (s.data.toList.drop d))).toArray 5 (0, 0)) := by
      have e : (s.extract d s.size).data.toList.take (s.size - d) = s.data.toList.drop d := by
        rw [ByteArray.data_extract, Array.toList_extract, List.extract_eq_take_drop, List.take_take, Nat.min_self]
        exact List.take_of_length_le (by simp [hsl])
      rw [← Hx.out, ← e]; exact hg3.out
    have hb : w3.heap[b]? = w1.heap[b]? := (HO3.out.block b blt2 (Ne.symm hpb)).trans (HO1.out.block b blt (Ne.symm hpb))
    have hfin := ext_end (w1 := w3) s.data.toList HR.out HX.out (by rw [hsl, ← HN.out]; omega) (by rw [← HN.out]; omega) d (by rw [hsl, ← Hx.out, ← HN.out]; exact HD.out) hb hg
    rw [hsl] at hfin
    refine ⟨rfl, some p, hfin, ?_, ?_⟩
    · rcases HQ.out with e | e
      · exact .inl e.symm
      · refine .inr fun k hk => ?_
        obtain rfl := Option.some.inj hk
        exact e
    · have hsub : ∀ i, i < w.heap.size → i = p → two b q i := fun i hi e => by
        subst e
        rcases HQ.out with e | e
        · exact .inr e
        · omega
      have o1 : Out (two b q) w w1 := HO.out.mono fun i _ e => .inl e
      exact ((o1.trans HO1.out hsub).trans HO3.out hsub).setCell (fun _ => .inl rfl) _
end
end Go.Proofs.YtngangdjbbbbdaaGreatDoor.Ring
end

section
namespace Go.Proofs.YtngangdjbbbbdaaGreatDoor.Ring
open Go.RowKit Go.Proofs.YtngangdjbbbbdaaGreatDoor.Own

theorem ret_string {a b : ByteArray} (h : a = b) : Ending.returned (.string a) = .returned (.string b) := by rw [h]

section
variable {w : World} {b : Nat} {q : Option Nat} {most gone : Nat} {t : List UInt8}

theorem IsRing.out {w' : World} {S : Nat → Prop} (h : IsRing w b q most gone t) (ho : Out S w w') (hs : ∀ k, two b q k → ¬ S k) : IsRing w' b q most gone t := by
  obtain ⟨f, L, hr, hx⟩ := h
  exact ⟨f, L, hr.out ho (hs b (.inl rfl)) (fun p e => hs p (.inr e)), hx⟩
theorem IsRing.below {w' : World} (h : IsRing w b q most gone t) (hb : Below w.heap.size w w') : IsRing w' b q most gone t := h.out (S := fun _ => False) (Out.ofNew hb) (fun _ _ h => h)
theorem IsRing.drew {w' : World} (h : IsRing w b q most gone t) (hb : Drew w w') : IsRing w' b q most gone t := by
  obtain ⟨n, rfl⟩ := hb
  exact h.out (S := fun _ => False) ((Out.refl _ _).drewN n) (fun _ _ h => h)
theorem IsRing.lt (h : IsRing w b q most gone t) : ∀ k, two b q k → k < w.heap.size := by
  obtain ⟨f, L, hr, hx⟩ := h
  rintro k (rfl | e)
  · exact hr.lt
  · exact hr.ltq e
theorem IsRing.len (h : IsRing w b q most gone t) : t.length ≤ most ∧ most ≤ 1048576 ∧ 1 ≤ most := by
  obtain ⟨f, L, hr, hx⟩ := h
  exact ⟨Nat.le_trans hx.1 hr.lm, hr.m2, hr.m1⟩

theorem new_some (n : Int) (h0 : 1 ≤ n) (h1 : n ≤ 1048576) (w : World) :
    Calls Tryz.prog 84 #[.int .i64 n] w fun e w' => e = .returned (.tuple #[.pointer (some ⟨w.heap.size, 0, none⟩), .int .i64 0]) ∧ IsRing w' w.heap.size none n.toNat 0 [] ∧ Below w.heap.size w w' := by
  obtain ⟨m, rfl⟩ : ∃ m : Nat, n = m := ⟨n.toNat, by omega⟩
  go_enter Tryz.func84, Tryz.ntmps84
  go_wp2
  go_ret2
  refine ⟨rfl, ⟨0, [], ⟨?_, rfl, by simp, by omega, by omega, by simp, by omega⟩, reads_nil⟩, (Below.refl _ _).alloc (Nat.le_refl _) _⟩
  rw [at_new]; rfl

theorem new_none (n : Int) (h : n < 1 ∨ 1048576 < n) (w : World) :
    Calls Tryz.prog 84 #[.int .i64 n] w fun e w' => e = .returned (.tuple #[.pointer none, .int .i64 2]) ∧ w = w' := by
  rcases h with h | h
  · go_enter Tryz.func84, Tryz.ntmps84
    go_wp2
    go_ret2
    exact ⟨rfl, rfl⟩
  · have h' : ¬ n < 1 := by omega
    go_enter Tryz.func84, Tryz.ntmps84
    go_wp2
    go_ret2
    exact ⟨rfl, rfl⟩

theorem len_calls (h : IsRing w b q most gone t) :
    Calls Tryz.prog 87 #[.pointer (some ⟨b, 0, none⟩)] w fun e w' => e = .returned (.int .i64 t.length) ∧ w = w' := by
  obtain ⟨f, L, hr, hx⟩ := h
  exact len_raw hr
theorem room_calls (h : IsRing w b q most gone t) :
    Calls Tryz.prog 97 #[.pointer (some ⟨b, 0, none⟩)] w fun e w' => e = .returned (.int .i64 ((most : Int) - t.length)) ∧ Drew w w' := by
  have := h.len
  obtain ⟨f, L, hr, hx⟩ := h
  exact room_raw hr this.1

/-- the number that n stands for, of so many -/
def upto (n : Int) (t : List UInt8) : Nat := min n.toNat t.length

theorem within_calls (h : IsRing w b q most gone t) (n : Int) :
    Calls Tryz.prog 100 #[.pointer (some ⟨b, 0, none⟩), .int .i64 n] w fun e w' => e = .returned (.int .i64 (upto n t)) ∧ w = w' := by
  have := h.len
  obtain ⟨f, L, hr, hx⟩ := h
  exact within_raw hr n (by omega)

theorem drop_end {w : World} {b p f : Nat} {L : List UInt8} (hr : Raw w b (some p) most gone f t.length L) (hx : Reads L f t) (k : Nat) (h0 : 0 < k) (h1 : k ≤ t.length) (hg : gone + k ≤ 4611686018427387904) :
    IsRing (((w.setCell ⟨b, 2, none⟩ (.int .i64 (((f : Int) + k) % L.length))).setCell ⟨b, 3, none⟩ (.int .i64 ((t.length : Int) - k))).setCell ⟨b, 4, none⟩ (.int .i64 ((gone : Int) + k))) b (some p) most (gone + k) (t.drop k) := by
  refine ⟨(f + k) % L.length, L, ⟨?_, ?_, hr.ne, hr.m1, hr.m2, hr.lm, hg⟩, reads_drop hx h1 h0⟩
  · rw [at_set (at_set (at_set hr.blk 2 _) 3 _) 4 _]
    have e2 : ((f : Int) + k) % L.length = (((f + k) % L.length : Nat) : Int) := by simp
    rw [e2]
    have e : (((t.drop k).length : Nat) : Int) = (t.length : Int) - k := by simp; omega
    rw [e]
    simp
  · have hne : p ≠ b := fun e => hr.ne (by rw [e])
    exact ⟨by rw [at_set_other _ hne, at_set_other _ hne, at_set_other _ hne]; exact hr.row.1, hr.row.2⟩

theorem some_of {f : Nat} {L : List UInt8} (hr : Raw w b q most gone f t.length L) (hx : Reads L f t) (h : 0 < t.length) : ∃ p, q = some p := by
  cases q with
  | none => have := hr.row; simp only [Place] at this; subst this; have h1 := hx.1; simp at h1; subst h1; simp at h
  | some p => exact ⟨p, rfl⟩

theorem drop_calls (h : IsRing w b q most gone t) (n : Int) (hg : gone + t.length ≤ 4611686018427387904) :
    Calls Tryz.prog 98 #[.pointer (some ⟨b, 0, none⟩), .int .i64 n] w fun e w' => e = .returned (.int .i64 (upto n t)) ∧
      IsRing w' b q most (gone + upto n t) (t.drop (upto n t)) ∧ Out (fun k => k = b) w w' := by
  have HW := Lib.hid (within_calls h n)
  have hk : upto n t ≤ t.length := Nat.min_le_right _ _
  generalize upto n t = k at *
  by_cases h0 : k = 0
  · subst h0
    have HR := Lib.hid h; clear h
    go_enter Tryz.func98, Tryz.ntmps98
    go_wp2_with (go_at_call 100; refine HW.out.mono ?_; rintro e w' ⟨rfl, rfl⟩)
    go_ret
    exact ⟨rfl, HR.out, Out.refl _ _⟩
  · have hz : ((k : Int) == 0) = false := by rw [beq_eq_false_iff_ne]; omega
    have hl := h.len
    obtain ⟨f, L, hr, hx⟩ := h
    obtain ⟨p, rfl⟩ := some_of hr hx (by omega)
    have HA := Lib.hid (around_raw p hr k (by have := reads_pos hx (by omega); omega) (reads_pos hx (by omega)) (by omega) (by omega))
    obtain ⟨c0, c1, c2, c3, c4⟩ := hr.cells
    have z2 := hr.free 2
    have z3 := hr.free 3
    have z4 := hr.free 4
    have HR := Lib.hid hr; clear hr
    have HX := Lib.hid hx; clear hx
    go_enter Tryz.func98, Tryz.ntmps98
    go_wp2_with (first | (go_at_call 100; refine HW.out.mono ?_; rintro e w' ⟨rfl, rfl⟩) | (go_at_call 111; refine HA.out.mono ?_; rintro e w' ⟨rfl, nq, rfl⟩))
    go_ret
    refine ⟨rfl, ?_, ?_⟩
    · exact drop_end (w := w.drewN nq) (HR.out.move rfl fun _ _ => rfl) HX.out k (by omega) hk (by omega)
    · exact ((((Out.refl (fun k => k = b) w).drewN nq).setCell (p := ⟨b, 2, none⟩) (fun _ => rfl) _).setCell (p := ⟨b, 3, none⟩) (fun _ => rfl) _).setCell (p := ⟨b, 4, none⟩) (fun _ => rfl) _

theorem peek_calls (h : IsRing w b q most gone t) (n : Int) :
    Calls Tryz.prog 86 #[.pointer (some ⟨b, 0, none⟩), .int .i64 n] w fun e w' => e = .returned (.string ⟨(t.take (upto n t)).toArray⟩) ∧ Below w.heap.size w w' := by
  have HW := Lib.hid (within_calls h n)
  have hk : upto n t ≤ t.length := Nat.min_le_right _ _
  generalize upto n t = k at *
  by_cases h0 : k = 0
  · subst h0
    clear h
    go_enter Tryz.func86, Tryz.ntmps86
    go_wp2_with (go_at_call 100; refine HW.out.mono ?_; rintro e w' ⟨rfl, rfl⟩)
    go_ret
    exact ⟨rfl, Below.refl _ _⟩
  · have hz : ((k : Int) == 0) = false := by rw [beq_eq_false_iff_ne]; omega
    have hl := h.len
    have hlt := h.lt
    obtain ⟨f, L, hr, hx⟩ := h
    obtain ⟨p, rfl⟩ := some_of hr hx (by omega)
    have hf := reads_pos hx (by omega)
    have hp := hr.ltq rfl
    have hb := hr.lt
    have HL : Hid (f < L.length) := Lib.hid hf
    clear hf
    have hmk := fun W => make_bytes W k k rfl (by omega)
    have HR := Lib.hid hr; clear hr
    have HX := Lib.hid hx; clear hx
    have hl1 := hl.1
    have hl2 := hl.2.1
    clear hl hlt
    go_enter Tryz.func86, Tryz.ntmps86
    go_wp2_with (go_at_call 100; refine HW.out.mono ?_; rintro e w' ⟨rfl, rfl⟩)
    refine (fill_raw p (HR.out.out (S := fun _ => False) (by exact ((Out.refl _ _).alloc _)) (by simp) (by simp)) HX.out w.heap.size 0 k k (bv (List.replicate k 0)) 5 (by exact at_new _ _) (by omega) (by omega) (by rw [bv_len]; simp) hk HL.out (Nat.le_refl _) (by omega)).mono ?_
    rintro e w1 ⟨rfl, hg1, hO1⟩
    have hO2 : Out (fun k => k = w.heap.size) w w1 := ((Out.refl _ _).alloc _).trans hO1 (fun _ _ h => h)
    have hB : Below w.heap.size w w1 := hO2.below (Nat.le_refl _) (fun i e => by omega)
    have hcv := run_convert_bytes_back (P := Tryz.prog) w1 58 9 5 ⟨w.heap.size, 0, none⟩ k (t.take k) Tryz.underlying58 Tryz.underlying5 Tryz.underlying9 (fun j hj => by
      have : (⟨w.heap.size, 0, none⟩ : Addr).add j = ⟨w.heap.size, j, none⟩ := by unfold Addr.add; split <;> simp_all
      rw [this, at_cell hg1, List.getElem?_toArray, splice_get _ _ _ _ (by simp [bv_len]; omega), if_neg (by omega), if_pos (by rw [bv_len]; omega), bv_get, Nat.sub_zero, List.getElem?_eq_getElem hj]
      rfl)
    have hlk : (t.take k).length = k := by simp; omega
    rw [hlk] at hcv
    clear hO1 hmk hg1 hO2 hlk
    go_wp2_with fail
    go_ret
    exact ⟨rfl, hB⟩

theorem text_calls (h : IsRing w b q most gone t) :
    Calls Tryz.prog 61 #[.pointer (some ⟨b, 0, none⟩)] w fun e w' => e = .returned (.string ⟨t.toArray⟩) ∧ Below w.heap.size w w' := by
  have HL := Lib.hid (len_calls h)
  have HP := Lib.hid (peek_calls h t.length)
  have HU : Hid (t.take (upto t.length t) = t) := Lib.hid (by rw [upto, Int.toNat_natCast, Nat.min_self]; exact List.take_of_length_le (Nat.le_refl _))
  clear h
  go_enter Tryz.func61, Tryz.ntmps61
  go_wp2_with (first | (go_at_call 87; refine HL.out.mono ?_; rintro e w' ⟨rfl, rfl⟩) | (go_at_call 86; refine HP.out.mono ?_; rintro e w' ⟨rfl, hb⟩))
  go_ret
  exact ⟨ret_string (by rw [HU.out]), hb⟩

end
end Go.Proofs.YtngangdjbbbbdaaGreatDoor.Ring
end

section
namespace Go.Proofs.YtngangdjbbbbdaaGreatDoor.Ring
open Go.RowKit Go.Proofs.YtngangdjbbbbdaaGreatDoor.Own

section
variable {w : World} {b : Nat} {q : Option Nat} {most gone : Nat} {t : List UInt8}

/-- a ring behind a call: what it holds, where, and that nothing else has turned -/
def Now (b : Nat) (q : Option Nat) (most gone : Nat) (t : List UInt8) (w w' : World) : Prop :=
  ∃ q', IsRing w' b q' most gone t ∧ (q' = q ∨ ∀ p, q' = some p → w.heap.size ≤ p) ∧ Out (two b q) w w'

theorem now_of {w1 w2 : World} {q' : Option Nat} (ho1 : Out (fun k => k = b) w w1) (hr : IsRing w2 b q' most gone t) (hq : q' = q ∨ ∀ p, q' = some p → w1.heap.size ≤ p) (ho : Out (two b q) w1 w2) : Now b q most gone t w w2 :=
  ⟨q', hr, hq.imp id fun h p e => Nat.le_trans ho1.size (h p e), (ho1.mono (S' := two b q) fun _ _ e => .inl e).trans ho fun _ _ h => h⟩
theorem IsRing.cell4 (h : IsRing w b q most gone t) : w.cell? ⟨b, 4, none⟩ = some (.int .i64 (gone : Int)) ∧ w.frozen? ⟨b, 4, none⟩ = false := by
  obtain ⟨f, L, hr, hx⟩ := h
  exact ⟨hr.cells.2.2.2.2, hr.free 4⟩
theorem IsRing.set4 (h : IsRing w b q most gone t) (g : Nat) (hg : g ≤ 4611686018427387904) : IsRing (w.setCell ⟨b, 4, none⟩ (.int .i64 (g : Int))) b q most g t := by
  obtain ⟨f, L, hr, hx⟩ := h
  refine ⟨f, L, ⟨?_, ?_, hr.ne, hr.m1, hr.m2, hr.lm, hg⟩, hx⟩
  · rw [at_set hr.blk 4 _]; rfl
  · have := hr.row
    have hne := hr.ne
    cases q with
    | none => exact this
    | some p => exact ⟨by rw [at_set_other _ (fun e => hne (by rw [e]))]; exact this.1, this.2⟩

set_option maxHeartbeats 400000 in
set_option maxRecDepth 100000 in
theorem force_a (h : IsRing w b q most gone t) (s : ByteArray) (hs : t.length + s.size ≤ most) (hg : gone + t.length ≤ 4611686018427387904) :
    Calls Tryz.prog 85 #[.pointer (some ⟨b, 0, none⟩), .string s] w fun e w' => e = .returned (.int .i64 0) ∧ Now b q most gone (t ++ s.data.toList) w w' := by
  have hl := h.len
  have hl1 := hl.1
  have hl2 := hl.2.1
  clear hl
  have HR := Lib.hid h
  have HM := Lib.hid (room_calls h)
  clear h
  have hov : ¬ (0 : Int) < (s.size : Int) - ((most : Int) - t.length) := by omega
  go_enter Tryz.func85, Tryz.ntmps85
  go_wp2_with (go_at_call 97; refine HM.out.mono ?_; rintro e w' ⟨rfl, nq, rfl⟩)
  refine (drop_calls (HR.out.drew ⟨nq, rfl⟩) (0 : Int) hg).mono ?_
  rintro e w1 ⟨rfl, hr1, ho1⟩
  obtain ⟨k, hk⟩ : ∃ k, k = upto (0 : Int) t := ⟨_, rfl⟩
  rw [← hk] at hr1 ⊢
  have hkl : k ≤ t.length := by rw [hk]; exact Nat.min_le_right _ _
  have hkn : k ≤ 0 := by rw [hk]; exact Nat.le_trans (Nat.min_le_left _ _) (by omega)
  have hke : k = t.length ∨ k = 0 := by rw [hk]; unfold upto; omega
  clear hk
  have HE := Lib.hid hke; clear hke
  obtain ⟨g4, z4⟩ := hr1.cell4
  have HR1 := Lib.hid hr1; clear hr1
  have HO1 := Lib.hid ho1.ofDrewN; clear ho1
  have p0 : (0 : Int) ≤ (0 : Int) - (k : Int) := by omega
  have p1 : (0 : Int) - (k : Int) ≤ (s.size : Int) := by omega
  have e0 : ((0 : Int) - (k : Int)) = 0 := by omega
  obtain rfl : k = 0 := by omega
  go_wp2_with fail
  go_still_tail 6, (by kernel_rfl)
  change wpList _ _ _ _ _ (World.drew _)
  have hr2 : IsRing (w1.setCell ⟨b, 4, none⟩ (.int .i64 (gone : Int))) b q most gone t := IsRing.set4 (t := t) HR1.out gone (by omega)
  have HR2 := Lib.hid hr2; clear hr2
  go_wp2_with fail
  refine (extend_calls (HR2.out.drew ⟨1, rfl⟩) s hs).mono ?_
  rintro e w2 ⟨rfl, q', hr, hq, ho⟩
  go_wp2_with fail
  go_ret
  exact ⟨rfl, now_of (HO1.out.setCell (p := ⟨b, 4, none⟩) (fun _ => rfl) _).drew hr hq ho⟩

set_option maxHeartbeats 400000 in
set_option maxRecDepth 100000 in
theorem force_b (h : IsRing w b q most gone t) (s : ByteArray) (o : Nat) (ho : t.length + s.size = most + o) (h0 : 0 < o) (hsz : s.size ≤ 9223372036854775807) (hg : gone + t.length + s.size ≤ 4611686018427387904) :
    Calls Tryz.prog 85 #[.pointer (some ⟨b, 0, none⟩), .string s] w fun e w' => e = .returned (.int .i64 (o : Int)) ∧ Now b q most (gone + o) ((t ++ s.data.toList).drop o) w w' := by
  have hl := h.len
  have hl1 := hl.1
  have hl2 := hl.2.1
  clear hl
  have HR := Lib.hid h
  have HM := Lib.hid (room_calls h)
  clear h
  have hov : (0 : Int) < (s.size : Int) - ((most : Int) - t.length) := by omega
  go_enter Tryz.func85, Tryz.ntmps85
  go_wp2_with (go_at_call 97; refine HM.out.mono ?_; rintro e w' ⟨rfl, nq, rfl⟩)
  rw [show (s.size : Int) - ((most : Int) - t.length) = (o : Int) by omega]
  refine (drop_calls (HR.out.drew ⟨nq, rfl⟩) (o : Int) (by omega)).mono ?_
  rintro e w1 ⟨rfl, hr1, ho1⟩
  obtain ⟨k, hk⟩ : ∃ k, k = upto (o : Int) t := ⟨_, rfl⟩
  rw [← hk] at hr1 ⊢
  have hkl : k ≤ t.length := by rw [hk]; exact Nat.min_le_right _ _
  have hkn : k ≤ o := by rw [hk]; exact Nat.le_trans (Nat.min_le_left _ _) (by omega)
  have hke : k = t.length ∨ k = o := by rw [hk]; unfold upto; omega
  clear hk
  have HE := Lib.hid hke; clear hke
  obtain ⟨g4, z4⟩ := hr1.cell4
  have HR1 := Lib.hid hr1; clear hr1
  have HO1 := Lib.hid ho1.ofDrewN; clear ho1
  have p0 : (0 : Int) ≤ (o : Int) - (k : Int) := by omega
  have p1 : (o : Int) - (k : Int) ≤ (s.size : Int) := by omega
  go_wp2_with fail
  go_still_tail 6, (by kernel_rfl)
  change wpList _ _ _ _ _ (World.drew _)
  have hr2 : IsRing (w1.setCell ⟨b, 4, none⟩ (.int .i64 ((gone + o : Nat) : Int))) b q most (gone + o) (t.drop k) := HR1.out.set4 (gone + o) (by omega)
  have HR2 := Lib.hid hr2; clear hr2
  have hx : t.drop k ++ (s.extract (o - k) s.size).data.toList = (t ++ s.data.toList).drop o := by
    rw [Lib.extract_to_end, List.drop_append]
    rcases HE.out with e | e
    · rw [show t.drop k = [] from List.drop_eq_nil_of_le (by omega), show t.drop o = [] from List.drop_eq_nil_of_le (by omega), e]
    · rw [e, Nat.sub_self, Nat.sub_eq_zero_of_le (show o ≤ t.length by omega)]
  have HX := Lib.hid hx; clear hx
  go_wp2_with fail
  rw [show ((gone : Int) + k + ((o : Int) - k)) = ((gone + o : Nat) : Int) by omega]
  refine (extend_calls (HR2.out.drew ⟨1, rfl⟩) (s.extract (o - k) s.size) (by simp; omega)).mono ?_
  rintro e w2 ⟨rfl, q', hr, hq, ho⟩
  rw [HX.out] at hr
  have HF := Lib.hid (now_of (HO1.out.setCell (p := ⟨b, 4, none⟩) (fun _ => rfl) _).drew hr hq ho)
  clear hr hq ho
  go_wp2_with fail
  go_ret
  exact ⟨rfl, HF.out⟩

theorem nil_len (w : World) : Calls Tryz.prog 87 #[.pointer none] w fun e w' => e = .returned (.int .i64 0) ∧ w = w' := by
  go_enter Tryz.func87, Tryz.ntmps87
  go_wp2_with fail
  go_ret
  exact ⟨rfl, rfl⟩
theorem nil_room (w : World) : Calls Tryz.prog 97 #[.pointer none] w fun e w' => e = .returned (.int .i64 0) ∧ w = w' := by
  go_enter Tryz.func97, Tryz.ntmps97
  go_wp2_with fail
  go_ret
  exact ⟨rfl, rfl⟩
theorem nil_within (n : Int) (w : World) : Calls Tryz.prog 100 #[.pointer none, .int .i64 n] w fun e w' => e = .returned (.int .i64 0) ∧ w = w' := by
  by_cases h : n < 0
  · go_enter Tryz.func100, Tryz.ntmps100
    go_wp2_with (go_at_call 87; refine (nil_len _).mono ?_; rintro e w' ⟨rfl, rfl⟩)
    all_goals (go_ret; exact ⟨ret_int (by first | omega | (split at * <;> omega)), rfl⟩)
  · go_enter Tryz.func100, Tryz.ntmps100
    go_wp2_with (go_at_call 87; refine (nil_len _).mono ?_; rintro e w' ⟨rfl, rfl⟩)
    all_goals (go_ret; exact ⟨ret_int (by first | omega | (split at * <;> omega)), rfl⟩)
theorem nil_peek (n : Int) (w : World) : Calls Tryz.prog 86 #[.pointer none, .int .i64 n] w fun e w' => e = .returned (.string ⟨#[]⟩) ∧ w = w' := by
  go_enter Tryz.func86, Tryz.ntmps86
  go_wp2_with (go_at_call 100; refine (nil_within _ _).mono ?_; rintro e w' ⟨rfl, rfl⟩)
  go_ret
  exact ⟨rfl, rfl⟩
theorem nil_drop (n : Int) (w : World) : Calls Tryz.prog 98 #[.pointer none, .int .i64 n] w fun e w' => e = .returned (.int .i64 0) ∧ w = w' := by
  go_enter Tryz.func98, Tryz.ntmps98
  go_wp2_with (go_at_call 100; refine (nil_within _ _).mono ?_; rintro e w' ⟨rfl, rfl⟩)
  go_ret
  exact ⟨rfl, rfl⟩
theorem nil_text (w : World) : Calls Tryz.prog 61 #[.pointer none] w fun e w' => e = .returned (.string ⟨#[]⟩) ∧ w = w' := by
  go_enter Tryz.func61, Tryz.ntmps61
  go_wp2_with (first | (go_at_call 87; refine (nil_len _).mono ?_; rintro e w' ⟨rfl, rfl⟩) | (go_at_call 86; refine (nil_peek _ _).mono ?_; rintro e w' ⟨rfl, rfl⟩))
  go_ret
  exact ⟨rfl, rfl⟩
theorem nil_force (s : ByteArray) (w : World) : Calls Tryz.prog 85 #[.pointer none, .string s] w fun e w' => e = .returned (.int .i64 0) ∧ w = w' := by
  go_enter Tryz.func85, Tryz.ntmps85
  go_wp2_with fail
  go_ret
  exact ⟨rfl, rfl⟩
end
end Go.Proofs.YtngangdjbbbbdaaGreatDoor.Ring
end

section
namespace Go.Proofs.YtngangdjbbbbdaaGreatDoor.Tl
open Go.RowKit Go.Proofs.YtngangdjbbbbdaaGreatDoor.Own Go.Proofs.YtngangdjbbbbdaaGreatDoor.Ring

theorem rtail_free (n : Nat) {s : List UInt8} : ∀ {b b' : Nat}, s.length ≤ b → s.length ≤ b' → rtail s n b = rtail s n b' := by
  induction s with
  | nil => intro b b' _ _; rfl
  | cons c r ih =>
    intro b b' h1 h2
    rw [rtail, rtail, ih (b := b) (b' := b') (by simp at h1; omega) (by simp at h2; omega)]
    by_cases hm : many (c :: r) ≤ n
    · rw [if_pos ⟨h1, hm⟩, if_pos ⟨h2, hm⟩]
    · rw [if_neg (fun h => hm h.2), if_neg (fun h => hm h.2)]
structure IsTail (w0 w : World) (k b : Nat) (q : Option Nat) (n m : Nat) (D : List UInt8) : Prop where
  box : w.heap[k]? = some (.cells #[.pointer (some ⟨b, 0, none⟩), .int .i64 n] 108 (0, 0))
  ring : IsRing w b q m (D.length - m) (D.drop (D.length - m))
  far : ¬ two b q k
  below : Below w0.heap.size w0 w
  mine : ∀ i, two b q i → w0.heap.size ≤ i
  kmine : w0.heap.size ≤ k
section
variable {w0 w w' : World} {k b n m : Nat} {q : Option Nat} {D : List UInt8}
theorem IsTail.same (h : IsTail w0 w k b q n m D) (hb : Below w.heap.size w w') : IsTail w0 w' k b q n m D :=
  ⟨(hb.block _ (at_lt h.box)).trans h.box, h.ring.below hb, h.far, h.below.trans (hb.mono h.below.size), h.mine, h.kmine⟩
theorem IsTail.cells (h : IsTail w0 w k b q n m D) : w.cell? ⟨k, 0, none⟩ = some (.pointer (some ⟨b, 0, none⟩)) ∧ w.cell? ⟨k, 1, none⟩ = some (.int .i64 n) := ⟨at_cell h.box 0, at_cell h.box 1⟩
set_option maxRecDepth 100000 in
theorem new_yes (n m : Nat) (h1 : 1 ≤ n) (h2 : n ≤ 1024) (h3 : 1 ≤ m) (h4 : m ≤ 65536) (w : World) :
    Calls Tryz.prog 58 #[.int .i64 n, .int .i64 m] w fun e w' => ∃ k b, e = .returned (.tuple #[.pointer (some ⟨k, 0, none⟩), .int .i64 0]) ∧ IsTail w w' k b none n m [] := by
  have q1 : ¬ (n : Int) < 1 := by omega
  have q2 : ¬ (n : Int) > 1024 := by omega
  have q3 : ¬ (m : Int) < 1 := by omega
  have q4 : ¬ (m : Int) > 65536 := by omega
  go_enter Tryz.func58, Tryz.ntmps58
  go_wp2_with fail
  refine (new_some (m : Int) (by omega) (by omega) w).mono ?_
  rintro e w5 ⟨rfl, hr, hb⟩
  have HR := Lib.hid hr
  have HB := Lib.hid hb
  clear hr hb
  go_wp2_with fail
  go_ret2
  have hl := HR.out.lt _ (.inl rfl)
  refine ⟨w5.heap.size, w.heap.size, rfl, at_new _ _, ?_, ?_, HB.out.alloc HB.out.size _, ?_, HB.out.size⟩
  · have := HR.out.below ((Below.refl _ w5).alloc (Nat.le_refl _) (.cells #[.pointer (some ⟨w.heap.size, 0, none⟩), .int .i64 n] 108 (0, 0)))
    simpa using this
  · rintro (e | e)
    · omega
    · cases e
  · rintro i (e | e)
    · omega
    · cases e
set_option maxRecDepth 100000 in
theorem new_no (n m : Nat) (h : n = 0 ∨ m = 0) (h2 : n ≤ 1024) (w : World) :
    Calls Tryz.prog 58 #[.int .i64 n, .int .i64 m] w fun e w' => e = .returned (.tuple #[.pointer none, .int .i64 2]) ∧ Below w.heap.size w w' := by
  by_cases h0 : n = 0
  · subst h0
    go_enter Tryz.func58, Tryz.ntmps58
    go_wp2_with fail
    go_ret2
    exact ⟨rfl, Below.refl _ _⟩
  · obtain rfl : m = 0 := h.resolve_left h0
    have q1 : ¬ (n : Int) < 1 := by omega
    have q2 : ¬ (n : Int) > 1024 := by omega
    go_enter Tryz.func58, Tryz.ntmps58
    go_wp2_with fail
    go_ret2
    exact ⟨rfl, Below.refl _ _⟩
/-- what more comes -/
theorem IsTail.fed (h : IsTail w0 w k b q n m D) {s : List UInt8} {g : Nat} {t : List UInt8} (hg : g = (D ++ s).length - m) (ht : t = (D ++ s).drop ((D ++ s).length - m)) (hn : Now b q m g t w w') : ∃ q', IsTail w0 w' k b q' n m (D ++ s) := by
  obtain ⟨q', hr, hq, ho⟩ := hn
  have hl := at_lt h.box
  have hs := h.below.size
  refine ⟨q', (ho.block _ hl h.far).trans h.box, by rw [← hg]; rw [← hg] at ht; rw [← ht]; exact hr, ?_, h.below.trans (ho.below hs fun i hi => h.mine i hi), ?_, h.kmine⟩
  · rintro (e | e)
    · exact h.far (.inl e)
    · rcases hq with rfl | hq
      · exact h.far (.inr e)
      · have := hq _ e; omega
  · rintro i (e | e)
    · exact h.mine i (.inl e)
    · rcases hq with rfl | hq
      · exact h.mine i (.inr e)
      · have := hq _ e; omega
set_option maxRecDepth 100000 in
theorem feed_calls (h : IsTail w0 w k b q n m D) (s : ByteArray) (hs : D.length + s.size ≤ 1000000000) :
    Calls Tryz.prog 59 #[.pointer (some ⟨k, 0, none⟩), .string s] w fun e w' => e = .returned (.tuple #[]) ∧ ∃ q', IsTail w0 w' k b q' n m (D ++ s.data.toList) := by
  have hlen : (D.drop (D.length - m)).length = D.length - (D.length - m) := List.length_drop
  have hsl : s.data.toList.length = s.size := rfl
  have HF : Hid (Calls Tryz.prog 85 #[.pointer (some ⟨b, 0, none⟩), .string s] w fun e w' => (∃ v, e = .returned v) ∧ ∃ q', IsTail w0 w' k b q' n m (D ++ s.data.toList)) := Lib.hid (by
    by_cases hle : (D.drop (D.length - m)).length + s.size ≤ m
    · refine (force_a h.ring s hle (by omega)).mono ?_
      rintro e w' ⟨rfl, hn⟩
      refine ⟨⟨_, rfl⟩, h.fed ?_ ?_ hn⟩
      · rw [List.length_append]; omega
      · rw [← List.drop_append_of_le_length (by omega), show (D ++ s.data.toList).length - m = D.length - m by rw [List.length_append]; omega]
    · obtain ⟨o, ho⟩ : ∃ o, (D.drop (D.length - m)).length + s.size = m + o := ⟨(D.drop (D.length - m)).length + s.size - m, by omega⟩
      refine (force_b h.ring s o ho (by omega) (by omega) (by omega)).mono ?_
      rintro e w' ⟨rfl, hn⟩
      refine ⟨⟨_, rfl⟩, h.fed ?_ ?_ hn⟩
      · rw [List.length_append]; omega
      · rw [← List.drop_append_of_le_length (by omega), List.drop_drop, show (D ++ s.data.toList).length - m = D.length - m + o by rw [List.length_append]; omega])
  obtain ⟨c0, c1⟩ := h.cells
  clear h hlen hsl
  go_enter Tryz.func59, Tryz.ntmps59
  go_wp2_with fail
  refine HF.out.mono ?_
  rintro e w5 ⟨⟨v, rfl⟩, q', hT⟩
  have HT := Lib.hid hT
  clear hT
  go_wp2_with fail
  go_end0
  exact ⟨rfl, q', HT.out⟩
theorem heldT (h : IsTail w0 w k b q n m D) (hb : Below w.heap.size w w') : Below w.heap.size w w' ∧ w'.cell? ⟨k, 0, none⟩ = some (.pointer (some ⟨b, 0, none⟩)) ∧ w'.cell? ⟨k, 1, none⟩ = some (.int .i64 n) :=
  ⟨hb, (h.same hb).cells.1, (h.same hb).cells.2⟩
theorem bl_drew {B : Nat} {w w' : World} (h : Below B w w') : Below B w w'.drew := ⟨h.os, h.tape, h.output, h.size, h.block⟩
set_option maxRecDepth 100000 in
theorem text_calls (h : IsTail w0 w k b q n m D) (hn : 1 ≤ n) (hn2 : n ≤ 1000000) (hD : D.length ≤ 1000000000) :
    Calls Tryz.prog 30 #[.pointer (some ⟨k, 0, none⟩)] w fun e w' => e = .returned (.string ⟨(rtail D n m).toArray⟩) ∧ Below w.heap.size w w' := by
  obtain ⟨c0, c1⟩ := h.cells
  obtain ⟨T, hT⟩ : ∃ T, D.drop (D.length - m) = T := ⟨_, rfl⟩
  have hl : T.length = D.length - (D.length - m) := by rw [← hT, List.length_drop]
  have HX := Lib.hid (fun W (hb : Below w.heap.size w W) => Ring.text_calls (h.ring.below hb))
  have HL := Lib.hid (fun W => last_calls ⟨T.toArray⟩ n hn hn2 (by show T.length ≤ _; omega) W)
  have HE : Hid (rtail (⟨T.toArray⟩ : ByteArray).data.toList n (⟨T.toArray⟩ : ByteArray).size = rtail D n m) := Lib.hid (by
    show rtail T n T.length = _
    rw [rtail_cut D, hT]
    exact rtail_free n (Nat.le_refl _) (by omega))
  rw [hT] at HX
  rw [HE.out] at HL
  have H := Lib.hid h
  clear h hT hl
  go_enter Tryz.func30, Tryz.ntmps30
  go_wp2_with fail
  go_region_held3 (fun w' => Below w.heap.size w w' ∧ w'.cell? ⟨k, 0, none⟩ = some (.pointer (some ⟨b, 0, none⟩)) ∧ w'.cell? ⟨k, 1, none⟩ = some (.int .i64 n))
    (first
      | exact heldT H.out (Below.refl _ _)
      | exact heldT H.out (bl_drew (Below.refl _ _))
      | exact heldT H.out hb5
      | exact heldT H.out (bl_drew hb5))
    (first
      | (go_at_call 61; go_split_ands; refine (HX.out _ (by assumption)).mono ?_; rintro e w5 ⟨rfl, hb5⟩; replace hb5 := Below.trans (by assumption) (hb5.mono (Below.size (by assumption))))
      | (go_at_call 60; go_split_ands; refine (HL.out _).mono ?_; rintro e w5 ⟨rfl, hb5⟩; replace hb5 := Below.trans (by assumption) (hb5.mono (Below.size (by assumption)))))
  all_goals
    go_wp2_with fail
    go_ret
    exact ⟨rfl, by first | exact hb5 | exact bl_drew hb5⟩
end
end Go.Proofs.YtngangdjbbbbdaaGreatDoor.Tl
end

section
namespace Go.Proofs.YtngangdjbbbbdaaGreatDoor.Gen
open Go.RowKit Go.Proofs.YtngangdjbbbbdaaGreatDoor.Own Go.Proofs.YtngangdjbbbbdaaGreatDoor.Sto
open Go.Proofs.YtngangdjbbbbdaaGreatDoor.Rw (str strs Row1 Texts own_shape texts_own strs_app one_new)
open Go.Proofs.YtngangdjbbbbdaaGreatDoor.Tree (own_slice own_out out_grown own_lt)

theorem tx_out {S : Nat → Prop} {w w' : World} {g c : Nat} {ts : List Bs} (h : Texts w (some ⟨g, 0, none⟩) c ts) (ho : Out S w w') (hp : ¬ S g) : Texts w' (some ⟨g, 0, none⟩) c ts :=
  ⟨h.row.cap, h.row.max, h.row.cells.imp id fun ⟨b, o, e, hl, k⟩ => ⟨b, o, e, Nat.lt_of_lt_of_le hl ho.size, fun i x hx => (ho.cell (p := ⟨b, o + i, none⟩) hl (by cases e; exact hp)).trans (k i x hx)⟩⟩
/-- a store while it is turned; the names lie beside it -/
structure TnAt (w : World) (bs : Nat → Prop) (g c : Nat) (ns : List Bs) (W : World) (bs1 : Nat → Prop) (b : Nat) (t : St) : Prop where
  sto : Sto W bs1 b t
  out : Out bs w W
  new : ∀ i, bs1 i → bs i ∨ w.heap.size ≤ i
  far : ¬ bs1 g
  lt : g < W.heap.size
  tx : Texts W (some ⟨g, 0, none⟩) c ns
section
variable {w W W' : World} {bs bs1 : Nat → Prop} {g c b : Nat} {ns : List Bs} {t t' : St} {e : Ending} {C : Int}
theorem TnAt.same (h : TnAt w bs g c ns W bs1 b t) (hb : Below W.heap.size W W') : TnAt w bs g c ns W' bs1 b t :=
  ⟨h.sto.below hb, h.out.trans (Out.ofNew (S := fun _ => False) hb) (fun _ _ h => h.elim), h.new, h.far, Nat.lt_of_lt_of_le h.lt hb.size, h.tx.below hb⟩
theorem TnAt.ends (h : TnAt w bs g c ns W bs1 b t) (hd : DoesE W bs1 e W' b t' C) : DoesE w bs e W' b t' C := by
  obtain ⟨v, k, bs2, he, hE, hk, hs, ho, hn⟩ := hd
  have hsz := h.out.size
  refine ⟨v, k, bs2, he, hE, fun hc => ⟨Nat.le_trans hsz (hk hc).1, (hk hc).2⟩, hs, h.out.trans ho fun i hi hb => ?_, fun i hi => ?_⟩
  · rcases h.new i hb with h1 | h1
    · exact h1
    · omega
  · rcases hn i hi with h1 | h1
    · exact h.new i h1
    · exact .inr (by omega)
theorem TnAt.done (h : TnAt w bs g c ns W bs1 b t) : DoesE w bs (.returned .nilIface) W b t 0 :=
  ⟨_, 0, bs1, rfl, .inl ⟨rfl, rfl⟩, fun h => absurd rfl h, h.sto, h.out, h.new⟩
theorem TnAt.ok (h : TnAt w bs g c ns W bs1 b t) (hd : DoesE W bs1 e W' b t' 0) : e = .returned .nilIface ∧ ∃ bs2, TnAt w bs g c ns W' bs2 b t' := by
  obtain ⟨v, k, bs2, he, hE, -, hs, ho, hn⟩ := hd
  rcases hE with ⟨_, rfl⟩ | ⟨hc, _⟩
  · have hsz := h.out.size
    refine ⟨he, bs2, hs, h.out.trans ho fun i hi hb => ?_, fun i hi => ?_, fun hg => ?_, Nat.lt_of_lt_of_le h.lt ho.size, tx_out h.tx ho h.far⟩
    · rcases h.new i hb with h1 | h1
      · exact h1
      · omega
    · rcases hn i hi with h1 | h1
      · exact h.new i h1
      · exact .inr (by omega)
    · rcases hn g hg with h1 | h1
      · exact h.far h1
      · have := h.lt; omega
  · exact absurd rfl hc
theorem TnAt.cell (h : TnAt w bs g c ns W bs1 b t) {i : Nat} (hi : i < ns.length) : W.cell? ⟨g, i, none⟩ = some (str ns[i]) := by
  rcases h.tx.cells with h0 | ⟨b, o, e, _, hc⟩
  · rw [h0] at hi; simp at hi
  · cases e
    have := hc i hi
    rwa [Nat.zero_add] at this
theorem does_err (hc : C ≠ 0) (hd : DoesE W bs1 e W' b t' C) : ∃ k, e = .returned (.iface 174 (.pointer (some ⟨k, 0, none⟩))) := by
  obtain ⟨v, k, bs2, he, hE, -, hs, ho, hn⟩ := hd
  rcases hE with ⟨h0, _⟩ | ⟨_, rfl, hh⟩
  · exact absurd h0 hc
  · exact ⟨k, he⟩
end
/-- names behind the first -/
structure Tail (g n c : Nat) (p : Option Addr) (r c2 : Nat) : Prop where
  run : ∀ W, (Instr.sliceAt 44 (.slice (some ⟨g, 0, none⟩) n c) (some (.int .i64 1)) none none).run Tryz.prog W = .ok (.slice p r c2) W
  some_ : 0 < r → p = some ⟨g, 1, none⟩
  cap : r ≤ c2 ∧ c2 ≤ 9223372036854775807
theorem tail_of (g n c r : Nat) (hn : n = r + 1) (hc : n ≤ c) (hm : c ≤ maxLen) : ∃ p c2, Tail g n c p r c2 := by
  have hel : Tryz.prog.elem 44 = 9 := by simp [Program.elem, Tryz.underlying44]
  have ht : Tryz.prog.underlying 44 = some (.slice (Tryz.prog.elem 44)) := by rw [hel]; exact Tryz.underlying44
  have r2 : ∀ (W : World), (Instr.sliceAt 44 (.slice (some ⟨g, 0, none⟩) n c) (some (.int .i64 1)) none none).run Tryz.prog W = .ok (sliced (some ⟨g, 0, none⟩) 1 n c 1) W := by
    intro W
    rw [run_sliceAt_slice W _ _ _ _ _ ht, run_slice_l W _ _ _ _ ht .i64 1 (by omega) (by omega), hel, Tryz.sizeOf9]; rfl
  unfold maxLen at hm
  refine ⟨some (if c = 1 then ⟨g, 0, none⟩ else ⟨g, 1, none⟩), c - 1, fun W => ?_, fun h => by rw [if_neg (by omega)], by omega, by omega⟩
  rw [r2 W]
  simp only [sliced, Option.map_some, show n - 1 = r by omega]
  split <;> simp [Addr.add]

set_option maxRecDepth 100000 in
set_option maxHeartbeats 8000000 in
theorem turn_calls {w : World} {bs : Nat → Prop} {b : Nat} {t : St} (h : Sto w bs b t) (base : Bs) (ha : base.length ≤ 1000000) (n : Int) :
    Calls Tryz.prog 23 #[pb b, .string ⟨base.toArray⟩, .int .i64 n] w fun e w' => DoesE w bs e w' b (trT t (ser base (held n))) (trC t (ser base (held n))) := by
  have H := Lib.hid h
  have HS := Lib.hid (series_calls base n ha)
  have hL0 := ser_len base (held n)
  have HZ := Lib.hid fun x (hx : x ∈ ser base (held n)) => ser_size (held_bd n).2 hx
  have hK := held_bd n
  generalize ser base (held n) = ns at *
  generalize held n = K at *
  obtain ⟨r, rfl⟩ : ∃ r, K = r + 1 := ⟨K - 1, by omega⟩
  have hr : r ≤ 15 := by omega
  have HL := Lib.hid hL0
  obtain ⟨T, hT⟩ : ∃ T, trT t ns = T := ⟨_, rfl⟩
  obtain ⟨C, hC⟩ : ∃ C, trC t ns = C := ⟨_, rfl⟩
  rw [hT, hC]
  have HT := Lib.hid hT
  have HC := Lib.hid hC
  clear h hL0 hK hT hC
  go_enter Tryz.func23, Tryz.ntmps23
  go_wp2_with fail
  refine (HS.out _).mono ?_
  rintro e w1 ⟨g, c, k, rfl, hk, hg, hg2, hTx, hb⟩
  obtain rfl : k = r + 1 := hk.trans HL.out
  have A1 := Lib.hid (show TnAt w bs g c ns w1 bs b t from ⟨H.out.below hb, Out.ofNew hb, fun i hi => .inl hi, fun hi => by have := H.out.all g hi; omega, hg2, hTx⟩)
  have hcap := hTx.cap
  rw [HL.out] at hcap
  obtain ⟨p2, c2, HTL⟩ := tail_of g (r + 1) c r rfl hcap.1 hcap.2
  have hsl := HTL.run
  have hc2 := HTL.cap
  obtain ⟨hcap1, hcap2⟩ := hcap
  obtain ⟨hc2a, hc2b⟩ := hc2
  unfold maxLen at hcap2
  replace HTL := Lib.hid HTL
  clear hk hg hg2 hTx hb
  obtain ⟨a, rs, hns⟩ : ∃ a rs, ns = a :: rs := by
    have := HL.out
    cases ns with
    | nil => cases this
    | cons a rs => exact ⟨a, rs, rfl⟩
  have c0 : w1.cell? ⟨g, 0, none⟩ = some (str a) := by
    have := A1.out.cell (i := 0) (by rw [HL.out]; omega)
    simpa [hns] using this
  have hz0 := HZ.out a (by rw [hns]; simp)
  have HNS := Lib.hid (show ns = a :: ns.drop 1 from by rw [hns]; rfl)
  have HNG := Lib.hid (show ns.getD 0 [] = a from by rw [hns]; rfl)
  clear hns
  rw [str] at c0
  have HTH := Lib.hid (there_calls A1.out.sto a (by omega))
  clear hz0
  cases hs : (flk t.L a).isSome with
  | false =>
    have HX := Lib.hid (show rnT t (ns.getD 0 []) (ns.drop 1) = T ∧ rnC t (ns.getD 0 []) (ns.drop 1) = C from by
      rw [HNG.out]
      obtain ⟨e1, e2⟩ := tr_skip (r := ns.drop 1) hs
      rw [← e1, ← e2, ← HNS.out]; exact ⟨HT.out, HC.out⟩)
    rw [hs] at HTH
    clear hs
    go_wp2_with fail
    refine HTH.out.mono ?_
    rintro e w2 ⟨rfl, hb⟩
    have A2 := Lib.hid (A1.out.same hb)
    clear hb c0
    go_wp2_with fail
    go_loopw [31] (fun i wr => ∃ (k : Nat) (t' : St) (bs' : Nat → Prop), k ≤ r ∧ i = .int .i64 k ∧ TnAt w bs g c ns wr bs' b t' ∧ Hid (rnT t' (ns.getD k []) (ns.drop (k + 1)) = T ∧ rnC t' (ns.getD k []) (ns.drop (k + 1)) = C)) (fun i _ => r - (intOf i).toNat)
    case atStart => exact ⟨0, _, _, Nat.zero_le _, rfl, A2.out, HX⟩
    case round =>
      obtain ⟨k, t', bs', hk, rfl, hA, HR⟩ := hrel
      rename World => wr
      have A := Lib.hid hA
      clear hA A2 HX
      rcases Nat.lt_or_eq_of_le hk with hlt | ek
      · have q1 : (k : Int) < (r : Int) := by omega
        obtain rfl := HTL.out.some_ (by omega)
        have hl0 : k < ns.length := by rw [HL.out]; omega
        have hl1 : k + 1 < ns.length := by rw [HL.out]; omega
        have d0 := A.out.cell hl0
        have d1 := A.out.cell hl1
        have HG0 := Lib.hid (show ns.getD k [] = ns[k] from by simp [List.getD, hl0])
        have HG1 := Lib.hid (show ns.getD (k + 1) [] = ns[k + 1] from by simp [List.getD, hl1])
        have HDR := Lib.hid (show ns.drop (k + 1) = ns[k + 1] :: ns.drop (k + 1 + 1) from List.drop_eq_getElem_cons hl1)
        have hz1 := HZ.out _ (List.getElem_mem hl1)
        rw [str] at d0 d1
        rw [HG0.out, HDR.out] at HR
        generalize ns[k] = pv at *
        generalize ns[k + 1] = nx at *
        clear hl0 hl1
        rw [show k + 1 = 1 + k by omega] at d1
        have HTK := Lib.hid (there_calls A.out.sto nx (by omega))
        cases hs : (flk t'.L nx).isSome with
        | false =>
          have HX := Lib.hid (show rnT t' (ns.getD (k + 1) []) (ns.drop (k + 1 + 1)) = T ∧ rnC t' (ns.getD (k + 1) []) (ns.drop (k + 1 + 1)) = C from by
            rw [HG1.out]
            obtain ⟨e1, e2⟩ := rn_skip (p := pv) (r := ns.drop (k + 1 + 1)) hs
            rw [← e1, ← e2]; exact HR.out)
          rw [hs] at HTK
          clear hs HR hz1
          go_wp2_with fail
          refine HTK.out.mono ?_
          rintro e w5 ⟨rfl, hb⟩
          have A5 := Lib.hid (A.out.same hb)
          clear hb d0 d1
          go_wp2_with fail
          go_roundw
          case rel => exact ⟨k + 1, _, _, by omega, by go_num, A5.out, HX⟩
          case measure => simp [intOf]; omega
        | true =>
          rw [hs] at HTK
          go_wp2_with fail
          refine HTK.out.mono ?_
          rintro e w5 ⟨rfl, hb⟩
          have A5 := Lib.hid (A.out.same hb)
          have d2 := hb.cell (p := ⟨g, k, none⟩) A.out.lt
          rw [d0] at d2
          clear hb d0 d1
          have HRN := Lib.hid (sto_ren A5.out.sto ⟨nx.toArray⟩ ⟨pv.toArray⟩)
          rw [show (⟨nx.toArray⟩ : ByteArray).data.toList = nx from rfl, show (⟨pv.toArray⟩ : ByteArray).data.toList = pv from rfl] at HRN
          by_cases hc0 : renC t' nx pv = 0
          · have HX := Lib.hid (show rnT (renT t' nx pv) (ns.getD (k + 1) []) (ns.drop (k + 1 + 1)) = T ∧ rnC (renT t' nx pv) (ns.getD (k + 1) []) (ns.drop (k + 1 + 1)) = C from by
              rw [HG1.out]
              obtain ⟨e1, e2⟩ := rn_go (r := ns.drop (k + 1 + 1)) hs hc0
              rw [← e1, ← e2]; exact HR.out)
            rw [hc0] at HRN
            clear hs hc0 HR hz1
            go_wp2_with fail
            refine HRN.out.mono ?_
            rintro e w6 hd
            obtain ⟨rfl, bs6, hA6⟩ := A5.out.ok hd
            have A6 := Lib.hid hA6
            generalize renT t' nx pv = t6 at *
            clear hd hA6 d2
            go_wp2_with fail
            go_roundw
            case rel => exact ⟨k + 1, _, _, by omega, by go_num, A6.out, HX⟩
            case measure => simp [intOf]; omega
          · have HX := Lib.hid (show renT t' nx pv = T ∧ renC t' nx pv = C from by
              obtain ⟨e1, e2⟩ := rn_end (r := ns.drop (k + 1 + 1)) hs hc0
              rw [← e1, ← e2]; exact HR.out)
            have HC0 := Lib.hid hc0
            clear hs hc0 HR hz1
            go_wp2_with fail
            refine HRN.out.mono ?_
            rintro e w6 hd
            obtain ⟨kk, rfl⟩ := does_err HC0.out hd
            have HD := Lib.hid (A5.out.ends hd)
            rw [HX.out.1, HX.out.2] at HD
            clear hd d2
            go_wp2_with fail
            go_ret
            exact HD.out
      · obtain rfl := ek.symm
        have HD := Lib.hid (show DoesE w bs (.returned .nilIface) wr b T C from by
          have hdr : ns.drop (r + 1) = [] := List.drop_of_length_le (by rw [HL.out]; exact Nat.le_refl _)
          have hx := HR.out
          rw [hdr] at hx
          obtain ⟨e1, e2⟩ := hx
          rw [← e1, ← e2]
          exact A.out.done)
        go_wp2_with fail
        go_ret
        exact HD.out
  | true =>
    rw [hs] at HTH
    go_wp2_with fail
    refine HTH.out.mono ?_
    rintro e w2 ⟨rfl, hb⟩
    have A1' := Lib.hid (A1.out.same hb)
    have c1 := hb.cell (p := ⟨g, 0, none⟩) A1.out.lt
    rw [c0] at c1
    clear hb c0
    have HRM := Lib.hid (sto_rem A1'.out.sto ⟨a.toArray⟩)
    rw [show (⟨a.toArray⟩ : ByteArray).data.toList = a from rfl] at HRM
    by_cases hc0 : remC t a = 0
    · have HX := Lib.hid (show rnT (remT t a) (ns.getD 0 []) (ns.drop 1) = T ∧ rnC (remT t a) (ns.getD 0 []) (ns.drop 1) = C from by
        rw [HNG.out]
        obtain ⟨e1, e2⟩ := tr_go (r := ns.drop 1) hs hc0
        rw [← e1, ← e2, ← HNS.out]; exact ⟨HT.out, HC.out⟩)
      rw [hc0] at HRM
      clear hs hc0
      go_wp2_with fail
      refine HRM.out.mono ?_
      rintro e w3 hd
      obtain ⟨rfl, bs2, hA2⟩ := A1'.out.ok hd
      have A2 := Lib.hid hA2
      generalize remT t a = t2 at *
      clear hd hA2 c1
      go_wp2_with fail
      go_loopw [31] (fun i wr => ∃ (k : Nat) (t' : St) (bs' : Nat → Prop), k ≤ r ∧ i = .int .i64 k ∧ TnAt w bs g c ns wr bs' b t' ∧ Hid (rnT t' (ns.getD k []) (ns.drop (k + 1)) = T ∧ rnC t' (ns.getD k []) (ns.drop (k + 1)) = C)) (fun i _ => r - (intOf i).toNat)
      case atStart => exact ⟨0, _, _, Nat.zero_le _, rfl, A2.out, HX⟩
      case round =>
        obtain ⟨k, t', bs', hk, rfl, hA, HR⟩ := hrel
        rename World => wr
        have A := Lib.hid hA
        clear hA A2 HX
        rcases Nat.lt_or_eq_of_le hk with hlt | ek
        · have q1 : (k : Int) < (r : Int) := by omega
          obtain rfl := HTL.out.some_ (by omega)
          have hl0 : k < ns.length := by rw [HL.out]; omega
          have hl1 : k + 1 < ns.length := by rw [HL.out]; omega
          have d0 := A.out.cell hl0
          have d1 := A.out.cell hl1
          have HG0 := Lib.hid (show ns.getD k [] = ns[k] from by simp [List.getD, hl0])
          have HG1 := Lib.hid (show ns.getD (k + 1) [] = ns[k + 1] from by simp [List.getD, hl1])
          have HDR := Lib.hid (show ns.drop (k + 1) = ns[k + 1] :: ns.drop (k + 1 + 1) from List.drop_eq_getElem_cons hl1)
          have hz1 := HZ.out _ (List.getElem_mem hl1)
          rw [str] at d0 d1
          rw [HG0.out, HDR.out] at HR
          generalize ns[k] = pv at *
          generalize ns[k + 1] = nx at *
          clear hl0 hl1
          rw [show k + 1 = 1 + k by omega] at d1
          have HTK := Lib.hid (there_calls A.out.sto nx (by omega))
          cases hs : (flk t'.L nx).isSome with
          | false =>
            have HX := Lib.hid (show rnT t' (ns.getD (k + 1) []) (ns.drop (k + 1 + 1)) = T ∧ rnC t' (ns.getD (k + 1) []) (ns.drop (k + 1 + 1)) = C from by
              rw [HG1.out]
              obtain ⟨e1, e2⟩ := rn_skip (p := pv) (r := ns.drop (k + 1 + 1)) hs
              rw [← e1, ← e2]; exact HR.out)
            rw [hs] at HTK
            clear hs HR hz1
            go_wp2_with fail
            refine HTK.out.mono ?_
            rintro e w5 ⟨rfl, hb⟩
            have A5 := Lib.hid (A.out.same hb)
            clear hb d0 d1
            go_wp2_with fail
            go_roundw
            case rel => exact ⟨k + 1, _, _, by omega, by go_num, A5.out, HX⟩
            case measure => simp [intOf]; omega
          | true =>
            rw [hs] at HTK
            go_wp2_with fail
            refine HTK.out.mono ?_
            rintro e w5 ⟨rfl, hb⟩
            have A5 := Lib.hid (A.out.same hb)
            have d2 := hb.cell (p := ⟨g, k, none⟩) A.out.lt
            rw [d0] at d2
            clear hb d0 d1
            have HRN := Lib.hid (sto_ren A5.out.sto ⟨nx.toArray⟩ ⟨pv.toArray⟩)
            rw [show (⟨nx.toArray⟩ : ByteArray).data.toList = nx from rfl, show (⟨pv.toArray⟩ : ByteArray).data.toList = pv from rfl] at HRN
            by_cases hc0 : renC t' nx pv = 0
            · have HX := Lib.hid (show rnT (renT t' nx pv) (ns.getD (k + 1) []) (ns.drop (k + 1 + 1)) = T ∧ rnC (renT t' nx pv) (ns.getD (k + 1) []) (ns.drop (k + 1 + 1)) = C from by
                rw [HG1.out]
                obtain ⟨e1, e2⟩ := rn_go (r := ns.drop (k + 1 + 1)) hs hc0
                rw [← e1, ← e2]; exact HR.out)
              rw [hc0] at HRN
              clear hs hc0 HR hz1
              go_wp2_with fail
              refine HRN.out.mono ?_
              rintro e w6 hd
              obtain ⟨rfl, bs6, hA6⟩ := A5.out.ok hd
              have A6 := Lib.hid hA6
              generalize renT t' nx pv = t6 at *
              clear hd hA6 d2
              go_wp2_with fail
              go_roundw
              case rel => exact ⟨k + 1, _, _, by omega, by go_num, A6.out, HX⟩
              case measure => simp [intOf]; omega
            · have HX := Lib.hid (show renT t' nx pv = T ∧ renC t' nx pv = C from by
                obtain ⟨e1, e2⟩ := rn_end (r := ns.drop (k + 1 + 1)) hs hc0
                rw [← e1, ← e2]; exact HR.out)
              have HC0 := Lib.hid hc0
              clear hs hc0 HR hz1
              go_wp2_with fail
              refine HRN.out.mono ?_
              rintro e w6 hd
              obtain ⟨kk, rfl⟩ := does_err HC0.out hd
              have HD := Lib.hid (A5.out.ends hd)
              rw [HX.out.1, HX.out.2] at HD
              clear hd d2
              go_wp2_with fail
              go_ret
              exact HD.out
        · obtain rfl := ek.symm
          have HD := Lib.hid (show DoesE w bs (.returned .nilIface) wr b T C from by
            have hdr : ns.drop (r + 1) = [] := List.drop_of_length_le (by rw [HL.out]; exact Nat.le_refl _)
            have hx := HR.out
            rw [hdr] at hx
            obtain ⟨e1, e2⟩ := hx
            rw [← e1, ← e2]
            exact A.out.done)
          go_wp2_with fail
          go_ret
          exact HD.out
    · have HX := Lib.hid (show remT t a = T ∧ remC t a = C from by
        obtain ⟨e1, e2⟩ := tr_end (r := ns.drop 1) hs hc0
        rw [← e1, ← e2, ← HNS.out]; exact ⟨HT.out, HC.out⟩)
      have HC0 := Lib.hid hc0
      clear hs hc0
      go_wp2_with fail
      refine HRM.out.mono ?_
      rintro e w3 hd
      obtain ⟨kk, rfl⟩ := does_err HC0.out hd
      have HD := Lib.hid (A1'.out.ends hd)
      rw [HX.out.1, HX.out.2] at HD
      clear hd c1
      go_wp2_with fail
      go_ret
      exact HD.out
end Go.Proofs.YtngangdjbbbbdaaGreatDoor.Gen
end

section
namespace Go.Proofs.YtngangdjbbbbdaaGreatDoor.Gen
open Go.RowKit Go.Proofs.YtngangdjbbbbdaaGreatDoor.Own Go.Proofs.YtngangdjbbbbdaaGreatDoor.Sto
open Go.Proofs.YtngangdjbbbbdaaGreatDoor.Rw (str strs Row1 Texts own_shape texts_own strs_app one_new own_base)
open Go.Proofs.YtngangdjbbbbdaaGreatDoor.Tree (own_slice own_out out_grown own_lt)

set_option maxRecDepth 100000 in
set_option maxHeartbeats 2000000 in
theorem addName_calls {W1 W : World} {B : Nat} {l : List Fl} (x : Fl) (h : FdAt W1 B Fl.nm l W) (hl : l.length ≤ 1000) :
    Calls Tryz.prog 45 #[.string ⟨x.nm.toArray⟩, .string ⟨x.bs.toArray⟩, .pointer (some ⟨B, 0, none⟩)] W fun e W' => e = .returned (.tuple #[]) ∧ FdAt W1 B Fl.nm (l ++ [x]) W' := by
  obtain ⟨i0, hi, hz0, hz1, hz2⟩ := info_parts info_str
  obtain ⟨v, h1, h2⟩ := h.box
  have hs := h.out.size
  have hlt := h.lt
  have HS := Lib.hid fun (o : Obj) (w1 : World) (v' : Value) ho hg => h.step (x := x) (w1 := w1) (v' := v') o h1 ho hg
  have HK := Lib.hid fun (o : Obj) (w1 : World) hg => (h.kept (w1 := w1) o h1 hg).1
  obtain ⟨tp, tc, rfl, -⟩ := own_slice h2
  have c0 : W.cell? ⟨B, 0, none⟩ = some (.slice tp l.length tc) := at_cell h1 0
  have f0 := at_frozen h1 0
  have HO := Lib.hid h2
  generalize x.nm = a at *
  clear h h1 h2
  go_enter Tryz.func45, Tryz.ntmps45
  go_wp2_with (at_builtin; refine Own.append_any rfl _ _ 44 rfl W1.heap.size 9 i0 _ 1 16 Tryz.underlying44 hi hz0 hz1 hz2 rfl (by decide) _ _ _ rfl (World.ownsRow.alloc HO.out _) _ 1 1 [.string ⟨a.toArray⟩] rfl (fun h => nomatch h) rfl (one_new _ _ _ _ (by simp)) (by simp [Value.oneCell']) (by unfold maxLen; omega) (by omega) (by simp; omega) ?_; intro v' w1 hown1 hgrow1; have C1 := Lib.hid (HS.out _ w1 v' hown1 hgrow1); have k0 := HK.out _ w1 hgrow1; clear hgrow1; obtain ⟨tq, tr, rfl, -⟩ := own_slice hown1; clear hown1; have d0 : w1.cell? ⟨B, 0, none⟩ = some (.slice tp l.length tc) := at_cell k0 0; have d1 := at_frozen k0 0; have d2 := at_lt k0; clear k0)
  go_end0
  exact ⟨rfl, C1.out⟩
set_option maxRecDepth 100000 in
set_option maxHeartbeats 4000000 in
theorem names_calls {w : World} {bs : Nat → Prop} {b : Nat} {t : St} (h : Sto w bs b t) (a : Bs) (ha : a.length ≤ 1000000) (n : Int) :
    Calls Tryz.prog 22 #[pb b, .string ⟨a.toArray⟩, .int .i64 n] w (ListPost ((fnd t (ser a (held n))).map Fl.nm) w) := by
  have H := Lib.hid h
  have HS := Lib.hid (series_calls a n ha)
  have HL := Lib.hid (ser_len a (held n))
  have HZ := Lib.hid fun x (hx : x ∈ ser a (held n)) => ser_size (held_bd n).2 hx
  have HK := Lib.hid (held_bd n)
  have hE := enters_of Tryz.func45 (by kernel_rfl) rfl
  replace hE := Lib.hid hE
  generalize held n = K at *
  clear h
  go_enter Tryz.func22, Tryz.ntmps22
  go_wp2_with fail
  refine (HS.out _).mono ?_
  rintro e w2 ⟨g, c, k, rfl, hk, hg, -, hT, hb⟩
  have S0 := Lib.hid (show Start w bs b t w2 g c (ser a K) from ⟨H.out, (hb.block _ (by simp)).trans (at_new w _), hT, by simp at hg; omega, ((Below.refl _ w).alloc (Nat.le_refl _) (.cells #[.slice none 0 0] 44 (0, 0))).trans (hb.mono (by simp))⟩)
  have HKK := Lib.hid hk
  have hk2 : k ≤ 1000 := by have := HL.out; have := HK.out; omega
  have HE := Lib.hid (each_calls (fun l W => FdAt w2 w.heap.size Fl.nm l W) 45 hE.out ⟨w.heap.size, 0, none⟩ (bs := bs) (b := b) (t := t) (ser a K) k HKK.out (some ⟨g, 0, none⟩) c w2 hk2 (fun x hx => by have := HZ.out x hx; omega) (S0.out.fd Fl.nm)
    (fun l W W' hJ hb => hJ.below hb) (fun l W hJ => S0.out.keeps hJ) (fun l W x hl hJ => addName_calls x hJ hl))
  clear hT hb hg hk
  go_wp2_with fail
  refine HE.out.mono ?_
  rintro e w3 ⟨rfl, hd⟩
  obtain ⟨p, m, c', c0, HP⟩ := S0.out.ends hd
  replace HP := Lib.hid HP
  clear hd
  go_wp2_with fail
  go_ret
  exact HP.out
end Go.Proofs.YtngangdjbbbbdaaGreatDoor.Gen
end

section
namespace Go.Proofs.YtngangdjbbbbdaaGreatDoor.Tl
open Go.RowKit Go.Proofs.YtngangdjbbbbdaaGreatDoor.Own

theorem bg_at {s : ByteArray} {T : List UInt8} (hT : s.data.toList = T) {i : Nat} (h : i < s.size) : bg T (i + 1) = (s[i] == 10) := by
  unfold bg
  rw [← hT, show (i + 1 == 0) = false by simp, Nat.add_sub_cancel, List.getD_eq_getElem?_getD, List.getElem?_eq_getElem (by exact h)]
  rfl
theorem rtail_next {s : List UInt8} {k : Nat} (h : k < s.length) (n b : Nat) : rtail (s.drop k) n b = if (s.drop k).length ≤ b ∧ many (s.drop k) ≤ n then s.drop k else rtail (s.drop (k + 1)) n b := by
  rw [List.drop_eq_getElem_cons h, rtail]
end Go.Proofs.YtngangdjbbbbdaaGreatDoor.Tl
end

section
namespace Go.Proofs.YtngangdjbbbbdaaGreatDoor.Digit
open Go.RowKit

end Go.Proofs.YtngangdjbbbbdaaGreatDoor.Digit
end

section
namespace Go.Proofs.YtngangdjbbbbdaaGreatDoor.Digit
open Go.RowKit

end Go.Proofs.YtngangdjbbbbdaaGreatDoor.Digit
end

section
namespace Go.Proofs.YtngangdjbbbbdaaGreatDoor.Digit
open Go.RowKit

end Go.Proofs.YtngangdjbbbbdaaGreatDoor.Digit
end


/-
  Layer 4 (ring): the program's extend, walked.
-/
import Derived.Test.YtgbelgmnenbmcaaRingGrow
namespace Go.Proofs.Ytgbelgmnenbmcaa.Ring
open Go.RowKit Go.Proofs.Ytgbelgmnenbmcaa.Own

section
variable {w : World} {b : Nat} {q : Option Nat} {most gone f : Nat} {L t : List UInt8}

def two (b : Nat) (q : Option Nat) (k : Nat) : Prop := k = b ∨ q = some k

/-- a ring that holds the bytes t -/
structure IsRing (w : World) (b : Nat) (q : Option Nat) (most gone : Nat) (t : List UInt8) : Prop where
  ex : ∃ f L, Raw w b q most gone f t.length L ∧ Reads L f t

def Ext (b : Nat) (q : Option Nat) (most gone : Nat) (t : List UInt8) (w : World) (e : Ending) (w' : World) : Prop :=
  e = .returned (.tuple #[]) ∧ ∃ q', IsRing w' b q' most gone t ∧ (q' = q ∨ ∀ p, q' = some p → w.heap.size ≤ p) ∧ Out (two b q) w w'

theorem ext_end {p : Nat} {w1 : World} (s : List UInt8) (h : Raw w b (some p) most gone f t.length L) (hr : Reads L f t) (hs : t.length + s.length ≤ L.length) (h0 : 0 < L.length) (d : Nat) (hd : d = min s.length (L.length - (f + t.length) % L.length))
    (hb : w1.heap[b]? = w.heap[b]?) (hg : w1.heap[p]? = some (.cells (splice (splice (bv L) ((f + t.length) % L.length) (bv (s.take d))) 0 (bv (s.drop d))).toArray 5 (0, 0))) :
    IsRing (w1.setCell ⟨b, 3, none⟩ (.int .i64 ((t.length : Int) + s.length))) b (some p) most gone (t ++ s) := by
  have hr2 := reads_put hr s hs h0 d hd
  have hp : (f + t.length) % L.length < L.length := Nat.mod_lt _ h0
  have e1 : (splice L ((f + t.length) % L.length) (s.take d)).length = L.length := length_splice _ _ _ (by simp; omega)
  have e2 : (splice (splice L ((f + t.length) % L.length) (s.take d)) 0 (s.drop d)).length = L.length := by rw [length_splice _ _ _ (by simp; omega), e1]
  rw [bv_splice, bv_splice] at hg
  have hne := h.ne
  refine ⟨f, splice (splice L ((f + t.length) % L.length) (s.take d)) 0 (s.drop d), ⟨?_, ⟨?_, ?_⟩, hne, h.m1, h.m2, by rw [e2]; exact h.lm, h.gm⟩, hr2⟩
  · rw [at_set (hb.trans h.blk) 3 _, e2]; simp
  · rw [at_set_other _ (fun e => hne (by rw [e])), hg]
  · rw [← List.length_pos_iff, e2]; exact h0

theorem extend_calls (h : IsRing w b q most gone t) (s : ByteArray) (hs : t.length + s.size ≤ most) :
    Calls Try.prog 23 #[.pointer (some ⟨b, 0, none⟩), .string s] w (Ext b q most gone (t ++ s.data.toList) w) := by
  obtain ⟨f, L, hraw, hr⟩ := h
  by_cases h0 : s.size = 0
  · have HE : Hid (s.data.toList = []) := Lib.hid (List.eq_nil_of_length_eq_zero (show s.data.size = 0 from h0))
    have hE : s.toList = [] := by rw [ByteArray.toList_eq]; exact HE.out
    have hE2 : s.toList.isEmpty = true := by rw [hE]; rfl
    have HR := Lib.hid hraw; clear hraw
    have HX := Lib.hid hr; clear hr
    go_enter Try.func23, Try.ntmps23
    go_wp2_with fail
    go_end0
    exact ⟨rfl, q, by rw [HE.out, List.append_nil]; exact ⟨f, L, HR.out, HX.out⟩, .inl rfl, Out.refl _ _⟩
  · have hE : s.toList.isEmpty = false := by
      rw [ByteArray.toList_eq, List.isEmpty_eq_false_iff]
      exact fun e => h0 (show s.data.size = 0 by rw [← Array.length_toList, e]; rfl)
    obtain ⟨c0, c1, c2, c3, c4⟩ := hraw.cells
    have m2 := hraw.m2
    have hn := Lib.hid (grow_raw hraw hr (t.length + s.size) hs (by omega) (by omega))
    have kt : (0 : Int) ≤ (t.length : Int) := by omega
    clear hraw hr c0 c1 c2 c4
    go_enter Try.func23, Try.ntmps23
    go_wp2_with (go_at_call 27; refine (by exact hn.out : Calls _ _ _ _ _).mono ?_; rintro e w1 ⟨rfl, p, f, L, hraw, hr, hl, hq, ho⟩)
    clear c3
    obtain ⟨c0, c1, c2, c3, c4⟩ := hraw.cells
    unfold placeV at c1
    have hf := reads_pos hr
    have lm := hraw.lm
    obtain ⟨N, hN⟩ : ∃ N, N = L.length := ⟨_, rfl⟩
    obtain ⟨x, hx⟩ : ∃ x, x = (f + t.length) % L.length := ⟨_, rfl⟩
    obtain ⟨d, hd⟩ : ∃ d, d = min s.size (N - x) := ⟨_, rfl⟩
    have hxN : x < N := by rw [hx, hN]; exact Nat.mod_lt _ (by omega)
    have hA : Hid (∀ W, (∀ k : Nat, W.heap[k]? = w1.heap[k]?) → Calls Try.prog 26 #[.pointer (some ⟨b, 0, none⟩), .int .i64 (t.length : Int)] W fun e w' => e = .returned (.int .i64 (x : Int)) ∧ Drew W w') :=
      Lib.hid fun W hW => by
        have := around_raw p (hraw.move (hW b) (fun k _ => hW k)) t.length (by omega) (by have := hr.2.1; omega) (by omega) (by omega)
        rw [Int.toNat_natCast, ← hx] at this
        exact this
    have HG : Hid (w1.heap[p]? = some (.cells (bv L).toArray 5 (0, 0))) := Lib.hid hraw.row.1
    have HLN : Hid ((bv L).length = N) := Lib.hid (by rw [bv_len, hN])
    have hpb : p ≠ b := fun e => hraw.ne (by rw [e])
    have blt := hraw.lt
    have x0 : (0 : Int) ≤ (x : Int) := by omega
    have x1 : (x : Int) ≤ (N : Int) := by omega
    have HR := Lib.hid hraw; clear hraw
    have HX := Lib.hid hr; clear hr
    rw [← hN] at c1 hl lm
    have HN := Lib.hid hN; clear hN
    have Hx := Lib.hid hx; clear hx
    have hd1 : d ≤ s.size := by omega
    have hd2 : d ≤ N - x := by omega
    have HD := Lib.hid hd; clear hd
    have HO := Lib.hid ho; clear ho
    have HQ := Lib.hid hq; clear hq
    clear hn
    go_region_held3 (fun w' => w'.cell? ⟨b, 1, none⟩ = some (.slice (some ⟨p, 0, none⟩) N N) ∧ w'.cell? ⟨b, 3, none⟩ = some (.int .i64 (t.length : Int)))
      (first
        | go_keep
        | exact ⟨by rw [hO1.cell (show b < w1.heap.size from blt) (Ne.symm hpb)]; assumption, by rw [hO1.cell (show b < w1.heap.size from blt) (Ne.symm hpb)]; assumption⟩)
      (first
        | (refine step_copy_text rfl _ _ _ _ rfl 5 Try.underlying51 info8 _ _ _ s rfl rfl p x (bv L) 5 HG.out d (by exact HD.out) (fun _ => if_neg (by omega)) (by rw [HLN.out]; omega) ?_; intro w2 hg2 hO1)
        | (go_at_call 26; refine (hA.out _ (by exact fun _ => rfl)).mono ?_; rintro e w5 ⟨rfl, nq, rfl⟩))
    have HO1 : Hid (Out (fun k => k = p) w1 w2) := Lib.hid ⟨hO1.os, hO1.tape, hO1.output, hO1.size, hO1.block⟩
    have e1 : w2.cell? ⟨b, 1, none⟩ = some (.slice (some ⟨p, 0, none⟩) N N) := by rw [HO1.out.cell (show b < w1.heap.size from blt) (Ne.symm hpb)]; assumption
    have e3 : w2.cell? ⟨b, 3, none⟩ = some (.int .i64 (t.length : Int)) := by rw [HO1.out.cell (show b < w1.heap.size from blt) (Ne.symm hpb)]; assumption
    have f3 : w2.frozen? ⟨b, 3, none⟩ = false := by rw [HO1.out.frozen (show b < w1.heap.size from blt) (Ne.symm hpb)]; exact HR.out.free 3
    have blt2 : b < w2.heap.size := Nat.lt_of_lt_of_le blt HO1.out.size
    clear hO1 c0 c1 c2 c3 c4
    have d0 : (0 : Int) ≤ (d : Int) := by omega
    have d1 : (d : Int) ≤ (s.size : Int) := by omega
    have hsz : (s.extract d s.size).size = s.size - d := by simp
    have HSZ := Lib.hid hsz; clear hsz
    go_wp2
    go_region_held3 (fun w' => w'.cell? ⟨b, 1, none⟩ = some (.slice (some ⟨p, 0, none⟩) N N))
      (first
        | go_keep
        | (rw [hO3.cell (show b < w2.heap.size from blt2) (Ne.symm hpb)]; assumption))
      ((refine step_copy_text rfl _ _ _ _ rfl 5 Try.underlying51 info8 _ _ _ (s.extract d s.size) rfl rfl p 0 _ 5 hg2.out (s.size - d) (by rw [HSZ.out]; omega) (fun _ => rfl) (by rw [length_splice _ _ _ (by rw [HLN.out, bv_len]; simp; omega), HLN.out]; omega) ?_; intro w3 hg3 hO3))
    have HO3 : Hid (Out (fun k => k = p) w2 w3) := Lib.hid ⟨hO3.os, hO3.tape, hO3.output, hO3.size, hO3.block⟩
    have g3 : w3.cell? ⟨b, 3, none⟩ = some (.int .i64 (t.length : Int)) := by rw [HO3.out.cell (show b < w2.heap.size from blt2) (Ne.symm hpb)]; assumption
    have h3 : w3.frozen? ⟨b, 3, none⟩ = false := by rw [HO3.out.frozen (show b < w2.heap.size from blt2) (Ne.symm hpb)]; assumption
    clear hO3 e1 e3 f3
    go_wp2
    go_end0
    have hsl : s.data.toList.length = s.size := by rw [Array.length_toList]; rfl
    have hg : w3.heap[p]? = some (.cells (splice (splice (bv L) ((f + t.length) % L.length) (bv (s.data.toList.take d))) 0 (bv (s.data.toList.drop d))).toArray 5 (0, 0)) := by
      have e : (s.extract d s.size).data.toList.take (s.size - d) = s.data.toList.drop d := by
        rw [ByteArray.data_extract, Array.toList_extract, List.extract_eq_take_drop, List.take_take, Nat.min_self]
        exact List.take_of_length_le (by simp [hsl])
      rw [← Hx.out, ← e]; exact hg3.out
    have hb : w3.heap[b]? = w1.heap[b]? := (HO3.out.block b blt2 (Ne.symm hpb)).trans (HO1.out.block b blt (Ne.symm hpb))
    have hfin := ext_end (w1 := w3) s.data.toList HR.out HX.out (by rw [hsl, ← HN.out]; omega) (by rw [← HN.out]; omega) d (by rw [hsl, ← Hx.out, ← HN.out]; exact HD.out) hb hg
    rw [hsl] at hfin
    refine ⟨rfl, some p, hfin, ?_, ?_⟩
    · rcases HQ.out with e | e
      · exact .inl e.symm
      · refine .inr fun k hk => ?_
        obtain rfl := Option.some.inj hk
        exact e
    · have hsub : ∀ i, i < w.heap.size → i = p → two b q i := fun i hi e => by
        subst e
        rcases HQ.out with e | e
        · exact .inr e
        · omega
      have o1 : Out (two b q) w w1 := HO.out.mono fun i _ e => .inl e
      exact ((o1.trans HO1.out hsub).trans HO3.out hsub).setCell (fun _ => .inl rfl) _
end
end Go.Proofs.Ytgbelgmnenbmcaa.Ring

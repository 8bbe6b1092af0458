/-
  Layer 2 (digit): the program's Put, walked.
-/
import Derived.Test.YtememmgnhnldaaaDoorNumR
import Derived.ScopeJumps
import Derived.WalkMore
namespace Go.Proofs.YtememmgnhnldaaaDoor.Digit
open Go.RowKit

theorem ret_u64 {a b : Int} (h : a = b) : Ending.returned (.int .u64 a) = .returned (.int .u64 b) := by rw [h]

theorem neg_u64 {n : Int} (h1 : -9223372036854775808 ≤ n) (h : n < 0) : IntKind.u64.wrap (-IntKind.u64.wrap n) = (n.natAbs : Int) := by
  have e : ∀ x : Int, IntKind.u64.wrap x = x % 18446744073709551616 := fun x => by rfl
  rw [e, e]; omega

theorem size_calls (n : Int) (h1 : -9223372036854775808 ≤ n) (h2 : n ≤ 9223372036854775807) (w : World) :
    Calls Tryd.prog 36 #[.int .i64 n] w fun e w' => e = .returned (.int .u64 (n.natAbs : Int)) ∧ w = w' := by
  by_cases h : n < 0
  · go_enter Tryd.func36, Tryd.ntmps36
    go_wp2_with fail
    go_ret
    exact ⟨ret_u64 (neg_u64 h1 h), rfl⟩
  · go_enter Tryd.func36, Tryd.ntmps36
    go_wp2_with fail
    go_ret
    exact ⟨ret_u64 (by omega), rfl⟩

theorem set_cells {w : World} {b : Nat} {C : Array Value} {t : TypeId} (h : w.heap[b]? = some (.cells C t (0, 0))) (i : Nat) (v : Value) : (w.setCell ⟨b, i, none⟩ v).heap[b]? = some (.cells (C.setIfInBounds i v) t (0, 0)) := by
  have hlt := lt_of_block h
  have h' : w.heap[b] = .cells C t (0, 0) := by simpa [Array.getElem?_eq_getElem hlt] using h
  show (w.heap.modify b _)[b]? = _
  rw [Array.getElem?_eq_getElem (by simpa using hlt), Array.getElem_modify_self, h']
  rfl

/-- the array's cells from p on hold the bytes ds -/
def ArrAt (w : World) (t : TypeId) (B p : Nat) (ds : List UInt8) : Prop :=
  ∃ C, w.heap[B]? = some (.cells C t (0, 0)) ∧ C.size = 20 ∧ ds.length + p = 20 ∧ ∀ i (h : i < ds.length), C[p + i]? = some (.int .u8 (ds[i].toNat : Int))

theorem arr_start {w : World} {t : TypeId} {C : Array Value} (hC : C.size = 20) : ArrAt (w.alloc (.cells C t)) t w.heap.size 20 [] :=
  ⟨C, by show (w.heap.push _)[w.heap.size]? = _; simp, hC, rfl, fun i h => absurd h (by simp)⟩
theorem arr_push {w : World} {t : TypeId} {B p : Nat} {ds : List UInt8} (h : ArrAt w t B p ds) (hp : 1 ≤ p) {c : Int} (h0 : 0 ≤ c) (h1 : c < 256) : ArrAt (w.setCell ⟨B, p - 1, none⟩ (.int .u8 c)) t B (p - 1) (c.toNat.toUInt8 :: ds) := by
  obtain ⟨C, hC, hs, hl, hd⟩ := h
  refine ⟨_, set_cells hC _ _, by simp [hs], by simp; omega, fun i hi => ?_⟩
  cases i with
  | zero => simp [Array.getElem?_setIfInBounds, hs]; omega
  | succ i =>
    have := hd i (by simpa using hi)
    rw [Array.getElem?_setIfInBounds, if_neg (by omega), show p - 1 + (i + 1) = p + i by omega, this]; rfl
theorem arr_cell {w : World} {t : TypeId} {B p : Nat} {ds : List UInt8} (h : ArrAt w t B p ds) {i : Nat} (hi : i < 20) : ∃ x, w.cell? ⟨B, i, none⟩ = some x ∧ w.frozen? ⟨B, i, none⟩ = false := by
  obtain ⟨C, hC, hs, -, -⟩ := h
  refine ⟨C[i]'(by omega), ?_, by simp [World.frozen?, hC]⟩
  simp [World.cell?, hC]
theorem arr_text {P : Program} {w : World} {t : TypeId} {B p : Nat} {ds : List UInt8} (h : ArrAt w t B p ds) (src dst e : TypeId) (hs : P.underlying src = some (.slice e)) (he : P.underlying e = some (.int .u8)) (hd : P.underlying dst = some .string) (n cap : Nat) (hn : n = 20 - p) :
    (convert src dst (.slice (some ⟨B, p, none⟩) n cap)).run P w = .ok (.string ⟨ds.toArray⟩) w := by
  obtain ⟨C, hC, hsz, hl, hdd⟩ := h
  rw [show n = ds.length by omega]
  refine run_convert_bytes_back w src dst e _ cap ds hs he hd (fun j hj => ?_)
  rw [← hdd j hj]
  have : (⟨B, p, none⟩ : Addr).add j = ⟨B, p + j, none⟩ := by unfold Addr.add; split <;> simp_all
  rw [this]
  simp [World.cell?, hC]

/-- a[l:] of the array -/
theorem arr_slice (W : World) (B q : Nat) (l : Int) (hl : l = q) (hq : q < 20) :
    (Instr.sliceAt 72 (.pointer (some ⟨B, 0, none⟩)) (some (.int .i64 l)) none none).run Tryd.prog W = .ok (.slice (some ⟨B, q, none⟩) (20 - q) (20 - q)) W := by
  have hal : Tryd.prog.arrayLen 72 = 20 := by simp [Program.arrayLen, Tryd.underlying72]
  have hel : Tryd.prog.elem 72 = 5 := by simp [Program.elem, Tryd.underlying72]
  subst hl
  rw [run_sliceAt_array_l W 72 ⟨B, 0, none⟩ (by rw [hal, hel]; exact Tryd.underlying72) .i64 q (by omega) (by rw [hal]; omega), hal, hel, Tryd.sizeOf5]
  have h20 : ¬ 20 = q := by omega
  simp [Result.andThen, slicedAt, h20, Addr.add]
  exact fun h => h.symm

theorem decN_step {m r : Nat} {ds : List UInt8} (h : decN m = decN r ++ ds) (hr : ¬ r < 10) : decN m = decN (r / 10) ++ hexd (r % 10) :: ds := by
  rw [h, decN_ge hr]; simp
theorem decN_last {m r : Nat} {ds : List UInt8} (h : decN m = decN r ++ ds) (hr : r < 10) : decN m = hexd (r % 10) :: ds := by
  rw [h, decN_lt hr, Nat.mod_eq_of_lt hr]; rfl
theorem byte_hexd {r : Nat} : (48 + (r : Int) % 10).toNat.toUInt8 = hexd (r % 10) := by
  unfold hexd; rw [if_pos (by omega), show (48 + (r : Int) % 10).toNat = 48 + r % 10 by omega]

def PutAt (n : Int) (w : World) (a' : Act) (w' : World) : Prop :=
  ∃ (p r : Nat) (P R : Int) (ds : List UInt8) (u8 u9 u10 u11 u12 u13 u14 u15 u16 u17 u18 u19 : Value),
      a' = { tmps := #[.int .i64 n, undef, .string ⟨#[]⟩, .pointer (some ⟨w.heap.size, 0, none⟩), .int .i64 P, .int .u64 R, .int .i64 n, .int .u64 n.natAbs, u8, u9, u10, u11, u12, u13, u14, u15, u16, u17, u18, u19, undef, undef, undef, undef, undef, undef, undef, undef, undef], defers := [] } ∧
      P = p ∧ R = r ∧ 2 ≤ p ∧ p ≤ 20 ∧ r < 10 ^ (p - 1) ∧ decN n.natAbs = decN r ++ ds ∧ ArrAt w' 72 w.heap.size p ds ∧ Below w.heap.size w w'

theorem lt_10 {p r : Nat} (h : r < 10 ^ (p - 1)) (hp : 2 ≤ p) (hr : ¬ r < 10) : 3 ≤ p ∧ r / 10 < 10 ^ (p - 1 - 1) := by
  obtain ⟨k, rfl⟩ : ∃ k, p = k + 2 := ⟨p - 2, by omega⟩
  simp only [Nat.add_one_sub_one, show k + 2 - 1 = k + 1 from rfl] at h ⊢
  cases k with
  | zero => simp at h; omega
  | succ k => rw [Nat.pow_succ] at h; exact ⟨by omega, by omega⟩
theorem dec_neg {n : Int} (h : n < 0) : dec n = 45 :: decN n.natAbs := by rw [dec, if_pos h]
theorem dec_pos {n : Int} (h : ¬ n < 0) : dec n = decN n.natAbs := by rw [dec, if_neg h, show n.toNat = n.natAbs by omega]

set_option maxRecDepth 100000 in
set_option maxHeartbeats 1000000 in
theorem put_calls (n : Int) (h1 : -9223372036854775808 ≤ n) (h2 : n ≤ 9223372036854775807) (w : World) :
    Calls Tryd.prog 23 #[.int .i64 n] w fun e w' => e = .returned (.string ⟨(dec n).toArray⟩) ∧ Below w.heap.size w w' := by
  go_enter Tryd.func23, Tryd.ntmps23
  go_wp2
  refine wp_scope_jumps 0 (PutAt n w) (fun a' _ => (intOf (a'.tmps.getD 5 undef)).toNat) rfl ?_ ?_
  · go_wp2_with (go_at_call 36; refine (size_calls _ (by omega) (by omega) _).mono ?_; rintro e w' ⟨rfl, rfl⟩)
    go_step3
    have ha := arr_start (w := w) (t := 72) (C := Array.replicate 20 (.int .u8 0)) rfl
    have hb : Below w.heap.size w (w.alloc (.cells (Array.replicate 20 (.int .u8 0)) 72)) := (Below.refl _ _).alloc (Nat.le_refl _) _
    have hd : decN n.natAbs = decN n.natAbs ++ [] := by simp
    have hr : n.natAbs < 10 ^ 19 := by omega
    simp only [Array.replicate, List.replicate] at ha hb
    generalize w.alloc _ = w' at ha hb ⊢
    obtain ⟨x, hx, hf⟩ := arr_cell ha (i := 19) (by omega)
    have ha1 := arr_push ha (by omega) (c := 48 + (n.natAbs : Int) % 10) (by omega) (by omega)
    rw [byte_hexd, show 20 - 1 = 19 from rfl] at ha1
    have HD := Lib.hid hd; clear hd
    have HR := Lib.hid hr; clear hr
    have HA := Lib.hid ha; clear ha
    by_cases h10 : n.natAbs < 10
    · have HL := Lib.hid (decN_last HD.out h10)
      by_cases hn : n < 0
      · obtain ⟨x2, hx2, hf2⟩ := arr_cell HA.out (i := 18) (by omega)
        have ha2 := arr_push ha1 (by omega) (c := 45) (by omega) (by omega)
        have hcv := arr_text (P := Tryd.prog) ha2 55 9 5 Tryd.underlying55 Tryd.underlying5 Tryd.underlying9 2 2 rfl
        have hsl := fun W => arr_slice W w.heap.size 18 18 (by omega) (by omega)
        clear ha2 ha1
        go_wp2_with fail
        simp only [Exit.jump]
        go_ret
        exact ⟨ret_string (by rw [dec_neg hn, HL.out]), (hb.setCell (Nat.le_refl _) _).setCell (Nat.le_refl _) _⟩
      · have hcv := arr_text (P := Tryd.prog) ha1 55 9 5 Tryd.underlying55 Tryd.underlying5 Tryd.underlying9 1 1 rfl
        have hsl := fun W => arr_slice W w.heap.size 19 19 (by omega) (by omega)
        clear ha1
        go_wp2_with fail
        simp only [Exit.jump]
        go_ret
        exact ⟨ret_string (by rw [dec_pos (by omega), HL.out]), hb.setCell (Nat.le_refl _) _⟩
    · have HA1 := Lib.hid ha1; clear ha1
      have HS := Lib.hid (decN_step HD.out h10)
      have HT := Lib.hid (lt_10 (p := 20) HR.out (by omega) h10)
      go_wp2_with fail
      go_step3
      exact ⟨rfl, 19, n.natAbs / 10, _, _, _, _, _, _, _, _, _, _, _, _, _, _, _, rfl, rfl, by omega, by omega, by omega, HT.out.2, HS.out, HA1.out, hb.setCell (Nat.le_refl _) _⟩
  · rintro a' w' ⟨p, r, P, R, ds, u8, u9, u10, u11, u12, u13, u14, u15, u16, u17, u18, u19, rfl, rfl, rfl, hp2, hp20, hr, hd, ha, hb⟩
    obtain ⟨x, hx, hf⟩ := arr_cell ha (i := p - 1) (by omega)
    have ha1 := arr_push ha (by omega) (c := 48 + (r : Int) % 10) (by omega) (by omega)
    rw [byte_hexd] at ha1
    have HD := Lib.hid hd; clear hd
    have hr19 : r < 10000000000000000000 := Nat.lt_of_lt_of_le hr (Nat.pow_le_pow_right (n := 10) (by omega) (show p - 1 ≤ 19 by omega))
    have HR := Lib.hid hr; clear hr
    have HA := Lib.hid ha; clear ha
    by_cases h10 : r < 10
    · have HL := Lib.hid (decN_last HD.out h10)
      by_cases hn : n < 0
      · obtain ⟨x2, hx2, hf2⟩ := arr_cell HA.out (i := p - 1 - 1) (by omega)
        have ha2 := arr_push ha1 (by omega) (c := 45) (by omega) (by omega)
        have hcv := arr_text (P := Tryd.prog) ha2 55 9 5 Tryd.underlying55 Tryd.underlying5 Tryd.underlying9 (20 - (p - 1 - 1)) (20 - (p - 1 - 1)) rfl
        have hsl := fun W => arr_slice W w.heap.size (p - 1 - 1) ((p : Int) - 1 - 1) (by omega) (by omega)
        clear ha2 ha1
        go_wp2_with fail
        simp only [Exit.jump]
        go_ret
        exact ⟨ret_string (by rw [dec_neg hn, HL.out]), (hb.setCell (Nat.le_refl _) _).setCell (Nat.le_refl _) _⟩
      · have hcv := arr_text (P := Tryd.prog) ha1 55 9 5 Tryd.underlying55 Tryd.underlying5 Tryd.underlying9 (20 - (p - 1)) (20 - (p - 1)) rfl
        have hsl := fun W => arr_slice W w.heap.size (p - 1) ((p : Int) - 1) (by omega) (by omega)
        clear ha1
        go_wp2_with fail
        simp only [Exit.jump]
        go_ret
        exact ⟨ret_string (by rw [dec_pos (by omega), HL.out]), hb.setCell (Nat.le_refl _) _⟩
    · have HA1 := Lib.hid ha1; clear ha1
      have HS := Lib.hid (decN_step HD.out h10)
      have HT := Lib.hid (lt_10 HR.out hp2 h10)
      go_wp2_with fail
      go_step3
      refine ⟨rfl, ⟨p - 1, r / 10, _, _, _, _, _, _, _, _, _, _, _, _, _, _, _, rfl, by omega, by omega, by have := HT.out; omega, by omega, HT.out.2, HS.out, HA1.out, hb.setCell (Nat.le_refl _) _⟩, ?_⟩
      simp [intOf]; omega

end Go.Proofs.YtememmgnhnldaaaDoor.Digit

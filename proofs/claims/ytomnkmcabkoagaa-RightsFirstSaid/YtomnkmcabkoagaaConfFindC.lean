/-
  Layer 15 (conf): Find.
-/
import Derived.Test.YtomnkmcabkoagaaConfMemC
import Derived.ScopeJumps
import Derived.Deep.RegionHeld3
import Derived.StillTailTactics
namespace Go.Proofs.Ytomnkmcabkoagaa.Conf
open Go.RowKit Go.Proofs.Ytomnkmcabkoagaa.Own Go.Proofs.Ytomnkmcabkoagaa.Rw

/-- a console's ten cells -/
def At10 (w : World) (b o : Nat) (x : Cn) : Prop :=
  w.cell? ⟨b, o, none⟩ = some (.string ⟨x.name.toArray⟩) ∧ w.cell? ⟨b, o + 1, none⟩ = some (.int .i64 x.kind) ∧ w.cell? ⟨b, o + 2, none⟩ = some (.int .i64 x.lines) ∧ w.cell? ⟨b, o + 3, none⟩ = some (.int .i64 x.bytes) ∧ w.cell? ⟨b, o + 4, none⟩ = some (.int .i64 x.gens) ∧
  w.cell? ⟨b, o + 5, none⟩ = some (.int .i64 x.size) ∧ w.cell? ⟨b, o + 6, none⟩ = some (.int .i64 x.base) ∧ w.cell? ⟨b, o + 7, none⟩ = some (.int .i64 x.cap) ∧ w.cell? ⟨b, o + 8, none⟩ = some (.int .i64 x.jit) ∧ w.cell? ⟨b, o + 9, none⟩ = some (.string ⟨x.init.toArray⟩)
theorem At10.below {w w' : World} {b o : Nat} {x : Cn} (h : At10 w b o x) (hb : Below w.heap.size w w') (hl : b < w.heap.size) : At10 w' b o x := by
  have k : ∀ j, w'.cell? ⟨b, j, none⟩ = w.cell? ⟨b, j, none⟩ := fun j => hb.cell (p := ⟨b, j, none⟩) hl
  unfold At10
  simp only [k]
  exact h
theorem con_at {w : World} {p : Option Addr} {c n : Nat} {cs : List Cn} (h : Rd w 10 p c n (cs.flatMap cnv)) {i : Nat} (hi : i < cs.length) : ∃ b o, p = some ⟨b, o, none⟩ ∧ b < w.heap.size ∧ i < n ∧ At10 w b (o + i * 10) cs[i] := by
  have hl := h.len
  rw [fm_len cnv_len] at hl
  have hn : n = cs.length := by omega
  rcases h.cells with h0 | ⟨b, o, e, hb, k⟩
  · omega
  · have g : ∀ j v, j < 10 → (cnv cs[i])[j]? = some v → w.cell? ⟨b, o + i * 10 + j, none⟩ = some v := fun j v hj hv => by
      have := k (i * 10 + j) v (by rw [fm_get cnv_len hi j hj]; exact hv)
      rwa [← Nat.add_assoc] at this
    exact ⟨b, o, e, hb, by omega, g 0 _ (by omega) rfl, g 1 _ (by omega) rfl, g 2 _ (by omega) rfl, g 3 _ (by omega) rfl, g 4 _ (by omega) rfl, g 5 _ (by omega) rfl, g 6 _ (by omega) rfl, g 7 _ (by omega) rfl, g 8 _ (by omega) rfl, g 9 _ (by omega) rfl⟩
/-- the place of the first console of that name -/
def fIdx (cs : List Cn) (a : Bs) : Int := match cs.findIdx? fun y => y.name == a with | some i => i | none => -1
theorem fIdx_at {cs : List Cn} {a : Bs} {k : Nat} (hk : k < cs.length) (h : cs[k].name = a) (hn : ∀ x ∈ cs.take k, x.name ≠ a) : fIdx cs a = k ∧ findM cs a = some cs[k] := by
  have e : cs.findIdx? (fun y => y.name == a) = some k := by
    rw [List.findIdx?_eq_some_iff_getElem]
    refine ⟨hk, by simpa using h, fun j hj => ?_⟩
    have := hn cs[j] (by rw [List.mem_take_iff_getElem]; exact ⟨j, by omega, rfl⟩)
    simpa using this
  refine ⟨by unfold fIdx; rw [e], ?_⟩
  unfold findM
  rw [List.find?_eq_some_iff_getElem]
  refine ⟨by simpa using h, k, hk, rfl, fun j hj => ?_⟩
  have := hn cs[j] (by rw [List.mem_take_iff_getElem]; exact ⟨j, by omega, rfl⟩)
  simpa using this
theorem fIdx_none {cs : List Cn} {a : Bs} (hn : ∀ x ∈ cs, x.name ≠ a) : fIdx cs a = -1 ∧ findM cs a = none := by
  have e : cs.findIdx? (fun y => y.name == a) = none := List.findIdx?_eq_none_iff.2 fun x hx => by simpa using hn x hx
  refine ⟨by unfold fIdx; rw [e], ?_⟩
  unfold findM
  rw [List.find?_eq_none]
  intro x hx; simpa using hn x hx
def confV (v0 v1 v2 v3 : Value) (b0 b1 b2 b3 b4 b5 b6 b7 b8 b9 : Bs) : Value := .agg #[v0, v1, v2, v3, .string ⟨b0.toArray⟩, .string ⟨b1.toArray⟩, .string ⟨b2.toArray⟩, .string ⟨b3.toArray⟩, .string ⟨b4.toArray⟩, .string ⟨b5.toArray⟩, .string ⟨b6.toArray⟩, .string ⟨b7.toArray⟩, .string ⟨b8.toArray⟩, .string ⟨b9.toArray⟩]
structure FdAt (cs : List Cn) (a : Bs) (w wr : World) (k : Nat) : Prop where
  below : Below w.heap.size w wr
  none : ∀ x ∈ cs.take k, x.name ≠ a

set_option maxRecDepth 100000 in
set_option maxHeartbeats 4000000 in
theorem find_calls (cs : List Cn) (a : Bs) (p : Option Addr) (k : Nat) (v1 v2 v3 : Value) (b0 b1 b2 b3 b4 b5 b6 b7 b8 b9 : Bs) (n : Nat) (hn : n = cs.length) (w : World) (h : Rd w 10 p k n (cs.flatMap cnv)) :
    Calls Try.prog 36 #[confV (.slice p n k) v1 v2 v3 b0 b1 b2 b3 b4 b5 b6 b7 b8 b9, .string ⟨a.toArray⟩] w fun e w' => e = .returned (.int .i64 (fIdx cs a)) ∧ Below w.heap.size w w' := by
  have HR := Lib.hid h
  have HN := Lib.hid hn
  have hmx := h.max
  have hcp := h.cap
  unfold maxLen at hmx
  clear h hn
  unfold confV
  go_enter Try.func36, Try.ntmps36
  go_wp2_with fail
  have HB0 := Lib.hid ((Below.refl w.heap.size w).alloc (Nat.le_refl _) (.cells #[.slice p n k, v1, v2, v3, .string ⟨b0.toArray⟩, .string ⟨b1.toArray⟩, .string ⟨b2.toArray⟩, .string ⟨b3.toArray⟩, .string ⟨b4.toArray⟩, .string ⟨b5.toArray⟩, .string ⟨b6.toArray⟩, .string ⟨b7.toArray⟩, .string ⟨b8.toArray⟩, .string ⟨b9.toArray⟩] 28))
  refine wp_scope_straight ?_
  go_wp2_with fail
  refine wp_label ?_
  go_wp2_with fail
  go_loopw [5, 11] (fun pv i wr => ∃ k : Nat, k ≤ n ∧ i = .int .i64 k ∧ pv = .int .i64 (-1) ∧ FdAt cs a w wr k) (fun _ i _ => n - (intOf i).toNat)
  case atStart => exact ⟨0, by omega, rfl, rfl, HB0.out, fun x hx => by simp at hx⟩
  case round =>
    obtain ⟨k, hk, rfl, rfl, C⟩ := hrel
    rename World => wr
    have HC := Lib.hid C
    have hsz := C.below.size
    clear C
    rcases Nat.lt_or_eq_of_le hk with hlt | rfl
    · have hl1 : k < cs.length := by rw [← HN.out]; exact hlt
      obtain ⟨g, o, rfl, hg, hkn, hat⟩ := con_at (HR.out.below HC.out.below) hl1
      obtain ⟨c0, c1, c2, c3, c4, c5, c6, c7, c8, c9⟩ := hat
      have q1 : (k : Int) < (n : Int) := by omega
      have HY := Lib.hid fun (he : cs[k].name = a) => (fIdx_at hl1 he HC.out.none).1
      have HNO := Lib.hid (show cs[k].name ≠ a → ∀ x ∈ cs.take (k + 1), x.name ≠ a by
        intro he x hx
        rw [List.take_succ_eq_append_getElem hl1] at hx
        rcases List.mem_append.1 hx with hx | hx
        · exact HC.out.none x hx
        · rw [List.mem_singleton.1 hx]; exact he)
      generalize cs[k] = y at *
      clear hl1
      by_cases he : y.name = a
      · have b1 : (y.name == a) = true := by simpa using he
        have HF := Lib.hid (HY.out he)
        clear he HY HNO
        go_wp2_with fail
        simp only [Exit.noGoto]
        go_ret
        exact ⟨by rw [HF.out]; rfl, (HC.out.below).alloc hsz _⟩
      · have b1 : (y.name == a) = false := by simpa using he
        have HF := Lib.hid (HNO.out he)
        clear he HY HNO
        go_wp2_with fail
        go_roundw
        case rel => exact ⟨k + 1, by omega, by go_num, rfl, (HC.out.below).alloc hsz _, HF.out⟩
        case measure => simp [intOf]; omega
    · have HF := Lib.hid (fIdx_none (cs := cs) (a := a) (by
        have := HC.out.none
        rwa [List.take_of_length_le (by have := HN.out; omega)] at this)).1
      go_wp2_with fail
      simp only [Exit.noGoto]
      go_ret
      exact ⟨by rw [HF.out]; rfl, HC.out.below⟩

end Go.Proofs.Ytomnkmcabkoagaa.Conf

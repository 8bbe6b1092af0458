/-
  Layer 14 (brk): Cost, Bytes.
-/
import Derived.Test.YtiblmhjlngcidaaBrkOps
import Derived.Test.YtiblmhjlngcidaaShelf
namespace Go.Proofs.Ytiblmhjlngcidaa.Brk
open Go.RowKit Go.Proofs.Ytiblmhjlngcidaa.Digit Go.Proofs.Ytiblmhjlngcidaa.Own

theorem cst_next {L : List Op} {k : Nat} (h : k < L.length) : cst (L.take (k + 1)) = cst (L.take k) + L[k].n := by
  rw [List.take_succ_eq_append_getElem h, cst_app, cst_one]
theorem byt_next {L : List Op} {k : Nat} (h : k < L.length) : byt (L.take (k + 1)) = byt (L.take k) ++ L[k].s := by
  rw [List.take_succ_eq_append_getElem h, byt_app, byt_one]
theorem cst_nonneg {L : List Op} (h : ∀ x ∈ L, Ok x) : 0 ≤ cst L := by
  induction L with
  | nil => simp [cst]
  | cons x l ih =>
    have := (h x (by simp)).pos
    have := ih fun y hy => h y (List.mem_cons_of_mem _ hy)
    simp only [cst]; omega
theorem cst_take {L : List Op} (h : ∀ x ∈ L, Ok x) (k : Nat) : 0 ≤ cst (L.take k) ∧ cst (L.take k) ≤ cst L := by
  have e := cst_app (L.take k) (L.drop k)
  rw [List.take_append_drop] at e
  have h1 := cst_nonneg (L := L.take k) fun x hx => h x (List.mem_of_mem_take hx)
  have h2 := cst_nonneg (L := L.drop k) fun x hx => h x (List.mem_of_mem_drop hx)
  omega
theorem byt_take (L : List Op) (k : Nat) : (byt (L.take k)).length ≤ (byt L).length := by
  have e := byt_app (L.take k) (L.drop k)
  rw [List.take_append_drop] at e
  rw [e, List.length_append]; omega

set_option maxRecDepth 100000 in
set_option maxHeartbeats 2000000 in
theorem cost_calls (L : List Op) (p : Option Addr) (c n : Nat) (hn : L.length = n) (w : World) (h : Ops w L p c) (hk : ∀ x ∈ L, Ok x) (hb : cst L ≤ 1099511627776) :
    Calls Try.prog 10 #[.slice p n c] w fun e w' => e = .returned (.int .i64 (cst L)) ∧ Below w.heap.size w w' := by
  have hcap := h.cap
  have hmax := h.max
  unfold maxLen at hmax
  have q2 : (n : Int) ≤ 9223372036854775807 := by omega
  have HH := Lib.hid h
  have HK := Lib.hid hk
  have HN := Lib.hid hn
  clear h hk
  go_enter Try.func10, Try.ntmps10
  go_wp2_with fail
  go_loopw [3, 8] (fun t i wr => ∃ k : Nat, k ≤ n ∧ i = .int .i64 k ∧ t = .int .i64 (cst (L.take k)) ∧ Below w.heap.size w wr) (fun _ i _ => n - (intOf i).toNat)
  case atStart => exact ⟨0, Nat.zero_le _, rfl, rfl, Below.refl _ _⟩
  case round =>
    obtain ⟨k, hkn, rfl, rfl, hB⟩ := hrel
    rcases Nat.lt_or_eq_of_le hkn with hlt | rfl
    · have hkl : k < L.length := by omega
      rcases HH.out.cells with h0 | ⟨b, o, rfl, hbl, hc⟩
      · rw [h0] at hkl; simp at hkl
      · obtain ⟨c0, c1, c2⟩ := hc k hkl
        rw [← hB.cell (p := ⟨b, _, none⟩) hbl] at c0 c1 c2
        have q1 : (k : Int) < (n : Int) := by omega
        have hlb : b < wr.heap.size := Nat.lt_of_lt_of_le hbl hB.size
        have HX := Lib.hid (cst_next hkl)
        have hok := HK.out L[k] (List.getElem_mem hkl)
        obtain ⟨t0, t1⟩ := cst_take HK.out k
        obtain ⟨s0, s1⟩ := cst_take HK.out (k + 1)
        rw [HX.out] at s0 s1
        generalize L[k] = x at *
        generalize cst (L.take k) = t at *
        obtain ⟨xk, xs, xn⟩ := x
        simp only at c0 c1 c2 s0 s1
        have hsz := hB.size
        have HB := Lib.hid hB
        clear hc hB
        rcases hok with ⟨a, b', c'⟩ | ⟨a, b', c'⟩ | ⟨a, b', c'⟩
        · simp only at a b' c'
          subst a c'
          go_wp2_with fail
          go_roundw
          case rel => exact ⟨k + 1, by omega, by go_num, by rw [HX.out]; simp, HB.out.alloc hsz _⟩
          case measure => simp [intOf]; omega
        · simp only at a b' c'
          subst a b'
          go_wp2_with fail
          go_roundw
          case rel => exact ⟨k + 1, by omega, by go_num, by rw [HX.out], HB.out.alloc hsz _⟩
          case measure => simp [intOf]; omega
        · simp only at a b' c'
          subst a b' c'
          go_wp2_with fail
          go_roundw
          case rel => exact ⟨k + 1, by omega, by go_num, by rw [HX.out]; simp, HB.out.alloc hsz _⟩
          case measure => simp [intOf]; omega
    · have HL := Lib.hid (show L.take k = L from List.take_of_length_le (by omega))
      go_wp2_with fail
      go_ret
      exact ⟨by rw [HL.out]; rfl, hB⟩

/-- a builder that holds a text -/
def Bu (B b : Nat) (t : List UInt8) (w : World) : Prop := Lib.IsBuilder 47 5 B b (Lib.byteCells t) w
theorem buAt_below {B b : Nat} {p : Value} {bs : List Value} {w w' : World} (h : Lib.BuilderAt 47 5 B b p bs w) (hb : Below w.heap.size w w') : Lib.BuilderAt 47 5 B b p bs w' := by
  obtain ⟨h1, v, h2, h3, h4⟩ := h
  exact ⟨h1, v, (hb.block _ (at_lt h2)).trans h2, own_below h3 hb, h4⟩
theorem Bu.below {B b : Nat} {t : List UInt8} {w w' : World} (h : Bu B b t w) (hb : Below w.heap.size w w') : Bu B b t w' := h.imp (fun h => buAt_below h hb) fun h => buAt_below h hb
theorem wstr_calls (B b : Nat) (acc s : List UInt8) (w : World) (h : Bu B b acc w) (hlen : acc.length + s.length ≤ 140737488355328) (hB : B ≤ w.heap.size) :
    Calls Try.prog 20 #[.pointer (some ⟨b, 0, none⟩), .string ⟨s.toArray⟩] w fun e w' => e = .returned (.tuple #[.int .i64 s.length, .nilIface]) ∧ Bu B b (acc ++ s) w' ∧ Below B w w' := by
  have hz : (⟨s.toArray⟩ : ByteArray).size = s.length := List.size_toArray ..
  refine (Any.Builder_WriteString (ρ := Try.lays105_ren) { Try.lays105 with } Try.Builder_Extra_105 B b (Lib.byteCells acc) ⟨s.toArray⟩ w h (by rw [Lib.byteCells_length, hz]; exact hlen) hB).mono ?_
  rintro e w' ⟨rfl, h1, h2⟩
  refine ⟨by rw [hz], ?_, h2⟩
  have : Lib.byteCells (acc ++ s) = Lib.byteCells acc ++ Lib.strCells ⟨s.toArray⟩ := by rw [Lib.strCells_eq]; simp [Lib.byteCells]
  unfold Bu
  rw [this]
  exact .inr h1

set_option maxRecDepth 100000 in
set_option maxHeartbeats 2000000 in
theorem bytes_calls (L : List Op) (p : Option Addr) (c n : Nat) (hn : L.length = n) (w : World) (h : Ops w L p c) (hk : ∀ x ∈ L, Ok x) (hb : (byt L).length ≤ 1099511627776) :
    Calls Try.prog 12 #[.slice p n c] w fun e w' => e = .returned (.string ⟨(byt L).toArray⟩) ∧ Below w.heap.size w w' := by
  have hcap := h.cap
  have hmax := h.max
  unfold maxLen at hmax
  have q2 : (n : Int) ≤ 9223372036854775807 := by omega
  have HH := Lib.hid h
  have HK := Lib.hid hk
  have HN := Lib.hid hn
  have HB0 := Lib.hid (Lib.fresh_isBuilder 47 5 w)
  clear h hk
  go_enter Try.func12, Try.ntmps12
  go_wp2_with fail
  go_loopw [8] (fun i wr => ∃ k : Nat, k ≤ n ∧ i = .int .i64 k ∧ Bu w.heap.size w.heap.size (byt (L.take k)) wr ∧ Below w.heap.size w wr) (fun i _ => n - (intOf i).toNat)
  case atStart => exact ⟨0, Nat.zero_le _, rfl, HB0.out, (Below.refl _ _).alloc (Nat.le_refl _) _⟩
  case round =>
    obtain ⟨k, hkn, rfl, hbu, hB⟩ := hrel
    have hsz := hB.size
    rcases Nat.lt_or_eq_of_le hkn with hlt | rfl
    · have hkl : k < L.length := by omega
      rcases HH.out.cells with h0 | ⟨b, o, rfl, hbl, hc⟩
      · rw [h0] at hkl; simp at hkl
      · obtain ⟨c0, c1, c2⟩ := hc k hkl
        rw [← hB.cell (p := ⟨b, _, none⟩) hbl] at c0 c1 c2
        have q1 : (k : Int) < (n : Int) := by omega
        have hlb : b < wr.heap.size := Nat.lt_of_lt_of_le hbl hB.size
        have HX := Lib.hid (byt_next hkl)
        have hok := HK.out L[k] (List.getElem_mem hkl)
        have t1 := byt_take L (k + 1)
        rw [HX.out, List.length_append] at t1
        generalize L[k] = x at *
        generalize byt (L.take k) = t at *
        obtain ⟨xk, xs, xn⟩ := x
        simp only at c0 c1 c2 t1
        have HB := Lib.hid hB
        have HU := Lib.hid hbu
        clear hc hB hbu
        rcases hok with ⟨a, b', c'⟩ | ⟨a, b', c'⟩ | ⟨a, b', c'⟩
        · simp only at a b' c'
          subst a c'
          clear b'
          have HU2 := Lib.hid (HU.out.below ((Below.refl wr.heap.size wr).alloc (Nat.le_refl _) (.cells #[.int .i64 1, .string ⟨xs.toArray⟩, .int .i64 0] 32)))
          have HBA := Lib.hid (HB.out.alloc hsz (.cells #[.int .i64 1, .string ⟨xs.toArray⟩, .int .i64 0] 32))
          go_wp2_with fail
          refine (wstr_calls _ _ t xs _ HU2.out (by omega) HBA.out.size).mono ?_
          rintro e w5 ⟨rfl, hu5, hb5⟩
          have U5 := Lib.hid hu5
          have B5 := Lib.hid (HBA.out.trans hb5)
          clear hu5 hb5
          go_wp2_with fail
          go_roundw
          case rel => exact ⟨k + 1, by omega, by go_num, by rw [HX.out]; exact U5.out, B5.out⟩
          case measure => simp [intOf]; omega
        · simp only at a b' c'
          subst a b'
          go_wp2_with fail
          go_roundw
          case rel => exact ⟨k + 1, by omega, by go_num, by rw [HX.out, List.append_nil]; exact HU.out.below ((Below.refl _ _).alloc (Nat.le_refl _) _), HB.out.alloc hsz _⟩
          case measure => simp [intOf]; omega
        · simp only at a b' c'
          subst a b' c'
          go_wp2_with fail
          go_roundw
          case rel => exact ⟨k + 1, by omega, by go_num, by rw [HX.out, List.append_nil]; exact HU.out.below ((Below.refl _ _).alloc (Nat.le_refl _) _), HB.out.alloc hsz _⟩
          case measure => simp [intOf]; omega
    · have HL := Lib.hid (show L.take k = L from List.take_of_length_le (by omega))
      rw [HL.out] at hbu
      have HU := Lib.hid hbu
      clear hbu
      go_wp2_with (go_at_call 21; refine (Try.Builder_String_any w.heap.size w.heap.size (byt L) _ HU.out hsz).mono ?_; rintro e w5 ⟨rfl, hb5⟩)
      go_ret
      exact ⟨rfl, hB.trans hb5⟩
end Go.Proofs.Ytiblmhjlngcidaa.Brk

/-
  Layer 12 (lex): pieces in memory; Same; the law's example, walked.
-/
import Derived.Test.YtijnijlekidhcaaDoorLexRefD
import Derived.Test.YtijnijlekidhcaaDoorLexRefE
import Derived.Deep.QuietTactic
import Derived.BigQuiet
namespace Go.Proofs.YtijnijlekidhcaaDoor.Lex
open Go.RowKit Go.Proofs.YtijnijlekidhcaaDoor.Own

/-- a slice that holds pieces -/
structure Pcs (w : World) (xs : List Pc) (p : Option Addr) (c : Nat) : Prop where
  cap : xs.length ≤ c
  max : c ≤ maxLen
  cells : xs = [] ∨ ∃ b, p = some ⟨b, 0, none⟩ ∧ b < w.heap.size ∧ ∀ i (hi : i < xs.length), w.cell? ⟨b, i * 3, none⟩ = some (.int .i64 xs[i].kind) ∧ w.cell? ⟨b, i * 3 + 1, none⟩ = some (.string ⟨xs[i].text.toArray⟩) ∧ w.cell? ⟨b, i * 3 + 2, none⟩ = some (.int .i64 xs[i].line)
theorem Pcs.kept {w w' : World} {xs : List Pc} {p : Option Addr} {c : Nat} (h : Pcs w xs p c) (hb : Below w.heap.size w w') : Pcs w' xs p c :=
  ⟨h.cap, h.max, h.cells.imp id fun ⟨b, e, hl, k⟩ => ⟨b, e, Nat.lt_of_lt_of_le hl hb.size, fun i hi => by
    obtain ⟨k0, k1, k2⟩ := k i hi
    exact ⟨(hb.cell (p := ⟨b, _, none⟩) hl).trans k0, (hb.cell (p := ⟨b, _, none⟩) hl).trans k1, (hb.cell (p := ⟨b, _, none⟩) hl).trans k2⟩⟩⟩
theorem own_pcs {w : World} {B : Nat} {e : TypeId} {v : Value} {n : Nat} {xs : List Pc} (h : w.ownsRow B e 3 v n (pv xs)) (hn : n = xs.length) : ∃ p c, v = .slice p n c ∧ Pcs w xs p c := by
  have hc := @World.ownsRow.cells _ _ _ _ _ _ _ h
  rcases h.2 with ⟨rfl, h0⟩ | ⟨g, cap, cur, rfl, _, hh, h3, h4, _⟩
  · obtain rfl : n = 0 := h0
    exact ⟨none, 0, rfl, by omega, by unfold maxLen; omega, .inl (List.eq_nil_of_length_eq_zero hn.symm)⟩
  · refine ⟨_, cap, rfl, by omega, h4, .inr ⟨g, rfl, at_lt hh, fun i hi => ?_⟩⟩
    obtain ⟨e0, e1, e2⟩ := pv_get hi
    have a0 := hc (g := g) rfl (i * 3) _ e0
    have a1 := hc (g := g) rfl (i * 3 + 1) _ e1
    have a2 := hc (g := g) rfl (i * 3 + 2) _ e2
    rw [add0] at a0 a1 a2
    exact ⟨a0, a1, a2⟩

set_option maxRecDepth 100000 in
set_option maxHeartbeats 4000000 in
/-- two slices that hold the same pieces -/
theorem same_calls (xs : List Pc) (n : Nat) (hn : xs.length = n) (p q : Option Addr) (c d : Nat) (w : World) (h1 : Pcs w xs p c) (h2 : Pcs w xs q d) :
    Calls Tryd.prog 9 #[.slice p n c, .slice q n d] w fun e w' => e = .returned (.bool true) ∧ Below w.heap.size w w' := by
  subst hn
  have hc1 := h1.cap
  have hm1 := h1.max
  unfold maxLen at hm1
  have q2 : (xs.length : Int) ≤ 9223372036854775807 := by omega
  have H1 := Lib.hid h1
  have H2 := Lib.hid h2
  clear h1 h2
  go_enter Tryd.func9, Tryd.ntmps9
  go_wp2_with fail
  go_loopw [5] (fun i wr => ∃ k m : Nat, k ≤ xs.length ∧ i = .int .i64 k ∧ wr = w.drewN m) (fun i _ => xs.length - (intOf i).toNat)
  case atStart => exact ⟨0, 0, by omega, rfl, rfl⟩
  case round =>
    obtain ⟨k, m, hk, rfl, rfl⟩ := hrel
    rcases Nat.lt_or_eq_of_le hk with hlt | rfl
    · rcases H1.out.cells with h0 | ⟨b, rfl, hb, hc⟩
      · rw [h0] at hlt; simp at hlt
      · rcases H2.out.cells with h0 | ⟨b', rfl, hb', hc'⟩
        · rw [h0] at hlt; simp at hlt
        · obtain ⟨c0, c1, c2⟩ := hc k hlt
          obtain ⟨d0, d1, d2⟩ := hc' k hlt
          have q1 : (k : Int) < (xs.length : Int) := by omega
          generalize xs[k] = x at *
          clear hc hc'
          go_wp2_with fail
          go_quiet (fail)
          go_wp2_with fail
          go_roundw
          case rel => exact ⟨k + 1, _, by omega, by go_num, rfl⟩
          case measure => simp [intOf]; omega
    · go_wp2_with fail
      go_ret
      exact ⟨rfl, below_drew (Below.refl _ _)⟩

/-! ### the example -/
def ex1 : List UInt8 := [99, 111, 110, 115, 111, 108, 101, 32, 119, 101, 98, 49, 32, 123, 32, 35, 32, 102, 105, 114, 115, 116, 10, 32, 105, 110, 105, 116, 32, 34, 97, 92, 34, 98, 34, 59, 32, 125]
def ex2 : List UInt8 := [97, 10, 34, 98, 10, 34]
def pcs1 : List Pc := [⟨1, [99, 111, 110, 115, 111, 108, 101], 1⟩, ⟨1, [119, 101, 98, 49], 1⟩, ⟨3, [], 1⟩, ⟨1, [105, 110, 105, 116], 2⟩, ⟨2, [97, 34, 98], 2⟩, ⟨5, [], 2⟩, ⟨4, [], 2⟩]
theorem total_ex1 : total ex1 = .ok pcs1 := by kernel_rfl
theorem total_ex2 : total ex2 = .err 3 2 := by kernel_rfl
theorem put_ex (w : World) : Calls Tryd.prog 12 #[.agg #[.int .i64 2, .string ⟨#[97, 34, 98]⟩, .int .i64 0]] w fun e w' => e = .returned (.tuple #[.string ⟨#[34, 97, 92, 34, 98, 34]⟩, .int .i64 0]) ∧ Below w.heap.size w w' := by
  have := put_calls 2 ⟨#[97, 34, 98]⟩ 0 (by decide) w
  rw [show ptT 2 (⟨#[97, 34, 98]⟩ : ByteArray).data.toList = [34, 97, 92, 34, 98, 34] by decide, show ptC 2 (⟨#[97, 34, 98]⟩ : ByteArray).data.toList = 0 by decide] at this
  exact this
theorem wordy_ex (w : World) : Calls Tryd.prog 14 #[.string ⟨#[97, 42]⟩] w fun e w' => e = .returned (.bool true) ∧ Below w.heap.size w w' := by
  have := wordy_calls ⟨#[97, 42]⟩ w
  rw [show isW (⟨#[97, 42]⟩ : ByteArray).data.toList = true by decide] at this
  exact this
theorem wordy_ex2 (w : World) : Calls Tryd.prog 14 #[.string ⟨#[97, 123]⟩] w fun e w' => e = .returned (.bool false) ∧ Below w.heap.size w w' := by
  have := wordy_calls ⟨#[97, 123]⟩ w
  rw [show isW (⟨#[97, 123]⟩ : ByteArray).data.toList = false by decide] at this
  exact this

set_option maxRecDepth 100000 in
set_option maxHeartbeats 4000000 in
theorem works_calls (w : World) (hT : Flt.Tab w) :
    Calls Tryd.prog 6 #[] w fun e w' => e = .returned (.bool true) ∧ Below w.heap.size w w' := by
  have HT := Lib.hid hT
  clear hT
  go_enter Tryd.func6, Tryd.ntmps6
  go_wp2_with fail
  refine (read_calls ⟨ex1.toArray⟩ _).mono ?_
  rintro e w1 ⟨v1, u1, rfl, h1⟩
  rw [show (⟨ex1.toArray⟩ : ByteArray).data.toList = ex1 from rfl, total_ex1] at h1
  obtain rfl := h1.none rfl
  have B1 := Lib.hid h1.below
  obtain ⟨p1, c1, rfl, P1⟩ := own_pcs (n := 7) h1.own rfl
  have hc7 := P1.cap
  have hmx := P1.max
  have hP1 := Lib.hid P1
  clear h1 P1
  go_wp2_with fail
  refine (read_calls ⟨ex2.toArray⟩ _).mono ?_
  rintro e w2 ⟨v2, u2, rfl, h2⟩
  rw [show (⟨ex2.toArray⟩ : ByteArray).data.toList = ex2 from rfl, total_ex2] at h2
  obtain ⟨t2, x2, rfl⟩ := h2.some (by decide)
  have hP2 := Lib.hid (hP1.out.kept h2.below)
  have B2 := Lib.hid (B1.out.trans (h2.below.mono B1.out.size))
  obtain ⟨lay, hE, hl, hl1⟩ := h2.err
  have HE := Lib.hid hE
  have HL := Lib.hid hl
  clear h2 hE hl
  go_wp2_with fail
  refine (put_ex _).mono ?_
  rintro e w3 ⟨rfl, hb3⟩
  have hP3 := hP2.out.kept hb3
  have B3 := Lib.hid (B2.out.trans (hb3.mono B2.out.size))
  have HE3 := Lib.hid (HE.out.below hb3 (Nat.le_refl _))
  have hN3 := Lib.hid hb3.size
  have HT3 := Lib.hid (HT.out.below B3.out)
  clear hb3
  rcases hP3.cells with h0 | ⟨b, rfl, hbl, hc⟩
  · exact absurd h0 (by decide)
  · have a3 : w3.cell? ⟨b, 3, none⟩ = some (.int .i64 1) := (hc 1 (by decide)).1
    have a4 : w3.cell? ⟨b, 4, none⟩ = some (.string ⟨#[119, 101, 98, 49]⟩) := (hc 1 (by decide)).2.1
    have a5 : w3.cell? ⟨b, 5, none⟩ = some (.int .i64 1) := (hc 1 (by decide)).2.2
    have a6 : w3.cell? ⟨b, 6, none⟩ = some (.int .i64 3) := (hc 2 (by decide)).1
    have a12 : w3.cell? ⟨b, 12, none⟩ = some (.int .i64 2) := (hc 4 (by decide)).1
    have a13 : w3.cell? ⟨b, 13, none⟩ = some (.string ⟨#[97, 34, 98]⟩) := (hc 4 (by decide)).2.1
    have a14 : w3.cell? ⟨b, 14, none⟩ = some (.int .i64 2) := (hc 4 (by decide)).2.2
    have a18 : w3.cell? ⟨b, 18, none⟩ = some (.int .i64 4) := (hc 6 (by decide)).1
    clear hc hP3 hP1 hP2
    go_wp2_with fail
    refine (Flt.of_calls _ lay 3 _ _ HE3.out hN3.out HT3.out).mono ?_
    rintro e w4 ⟨rfl, hb4⟩
    have HE4 := Lib.hid (HE3.out.below hb4 hN3.out)
    have hN4 := Lib.hid (Nat.le_trans hN3.out hb4.size)
    have HT4 := Lib.hid (HT3.out.below hb4)
    have B4 := Lib.hid (B3.out.trans (hb4.mono B3.out.size))
    clear hb4
    go_wp2_with fail
    refine (Flt.line_calls _ lay 3 _ _ HE4.out hN4.out HT4.out (by omega)).mono ?_
    rintro e w5 ⟨rfl, hb5⟩
    rw [HL.out]
    have B5 := Lib.hid (B4.out.trans (hb5.mono B4.out.size))
    clear hb5
    go_wp2_with fail
    refine (wordy_ex _).mono ?_
    rintro e w6 ⟨rfl, hb6⟩
    have B6 := Lib.hid (B5.out.trans (hb6.mono B5.out.size))
    clear hb6
    go_wp2_with fail
    refine (wordy_ex2 _).mono ?_
    rintro e w7 ⟨rfl, hb7⟩
    have B7 := Lib.hid (B6.out.trans (hb7.mono B6.out.size))
    clear hb7
    go_wp2_with fail
    go_ret
    exact ⟨rfl, B7.out⟩
end Go.Proofs.YtijnijlekidhcaaDoor.Lex

/-
Layer 15 (conf): Same.
Layer 12 (lex): a range over a text, sign by sign: what a round reads; the program's small calls.
Layer 12 (lex): between, wordSize, Wordy, walked.
Layer 12 (lex): unquote, quote, walked.
Layer 12 (lex): quote, Put, walked.
Layer 13 (tree): argument, head.
-/
import Derived.Test.YtajfdachpdkbcaaGreatDoorPack7
import Derived.Test.YtajfdachpdkbcaaGreatDoorShelf
import Derived.Lib.OthersKept
import Derived.Lib.SpaceUEq
import Derived.Lib.TrimU
import Derived.Lib.IndexLaws
import Derived.WalkSpells
import Derived.Deep.QuietTactic
import Derived.Deep.RegionHeld3
import Derived.StillTailTactics
section
namespace Go.Proofs.YtajfdachpdkbcaaGreatDoor.Conf
open Go.RowKit Go.Proofs.YtajfdachpdkbcaaGreatDoor.Own Go.Proofs.YtajfdachpdkbcaaGreatDoor.Rw Go.Proofs.YtajfdachpdkbcaaGreatDoor.Tree

theorem cf_ext {a b : Cf} (h0 : a.cons = b.cons) (h1 : a.grps = b.grps) (h2 : a.usrs = b.usrs) (h3 : a.accs = b.accs) (h4 : a.brks = b.brks) : a = b := by
  cases a; cases b; cases h0; cases h1; cases h2; cases h3; cases h4; rfl
set_option maxRecDepth 100000 in
set_option maxHeartbeats 8000000 in
theorem same_conf (a b : Cf) (v0 v1 v2 v3 u0 u1 u2 u3 : Value) (b0 b1 b2 b3 b4 b5 b6 b7 b8 b9 d0 d1 d2 d3 d4 d5 d6 d7 d8 d9 : Bs) (w : World) (ha : CfR w v0 v1 v2 v3 a) (hb : CfR w u0 u1 u2 u3 b) (hta : a.brks = [b0, b1, b2, b3, b4, b5, b6, b7, b8, b9]) (htb : b.brks = [d0, d1, d2, d3, d4, d5, d6, d7, d8, d9]) :
    Calls Tryz.prog 11 #[confV v0 v1 v2 v3 b0 b1 b2 b3 b4 b5 b6 b7 b8 b9, confV u0 u1 u2 u3 d0 d1 d2 d3 d4 d5 d6 d7 d8 d9] w fun e w' => ∃ r, e = .returned (.bool r) ∧ (r = true ↔ a = b) ∧ Below w.heap.size w w' := by
  have HA := Lib.hid ha
  have HB := Lib.hid hb
  obtain ⟨p0, k0, rfl, -⟩ := ha.cons
  obtain ⟨p1, k1, _, rfl, -, -⟩ := ha.grps
  obtain ⟨p2, k2, rfl, -⟩ := ha.usrs
  obtain ⟨p3, k3, rfl, -⟩ := ha.accs
  obtain ⟨q0, m0, rfl, -⟩ := hb.cons
  obtain ⟨q1, m1, _, rfl, -, -⟩ := hb.grps
  obtain ⟨q2, m2, rfl, -⟩ := hb.usrs
  obtain ⟨q3, m3, rfl, -⟩ := hb.accs
  have TA := Lib.hid hta
  have TB := Lib.hid htb
  clear ha hb hta htb
  have BW := Lib.hid (((Below.refl w.heap.size w).alloc (Nat.le_refl _) (.cells #[.slice p0 a.cons.length k0, .slice p1 a.grps.length k1, .slice p2 a.usrs.length k2, .slice p3 a.accs.length k3, .string ⟨b0.toArray⟩, .string ⟨b1.toArray⟩, .string ⟨b2.toArray⟩, .string ⟨b3.toArray⟩, .string ⟨b4.toArray⟩, .string ⟨b5.toArray⟩, .string ⟨b6.toArray⟩, .string ⟨b7.toArray⟩, .string ⟨b8.toArray⟩, .string ⟨b9.toArray⟩] 29)).alloc (by simp) (.cells #[.slice q0 b.cons.length m0, .slice q1 b.grps.length m1, .slice q2 b.usrs.length m2, .slice q3 b.accs.length m3, .string ⟨d0.toArray⟩, .string ⟨d1.toArray⟩, .string ⟨d2.toArray⟩, .string ⟨d3.toArray⟩, .string ⟨d4.toArray⟩, .string ⟨d5.toArray⟩, .string ⟨d6.toArray⟩, .string ⟨d7.toArray⟩, .string ⟨d8.toArray⟩, .string ⟨d9.toArray⟩] 29))
  unfold confV
  have NA := (((Below.refl (w.alloc (.cells #[.slice p0 a.cons.length k0, .slice p1 a.grps.length k1, .slice p2 a.usrs.length k2, .slice p3 a.accs.length k3, .string ⟨b0.toArray⟩, .string ⟨b1.toArray⟩, .string ⟨b2.toArray⟩, .string ⟨b3.toArray⟩, .string ⟨b4.toArray⟩, .string ⟨b5.toArray⟩, .string ⟨b6.toArray⟩, .string ⟨b7.toArray⟩, .string ⟨b8.toArray⟩, .string ⟨b9.toArray⟩] 29)).heap.size (w.alloc (.cells #[.slice p0 a.cons.length k0, .slice p1 a.grps.length k1, .slice p2 a.usrs.length k2, .slice p3 a.accs.length k3, .string ⟨b0.toArray⟩, .string ⟨b1.toArray⟩, .string ⟨b2.toArray⟩, .string ⟨b3.toArray⟩, .string ⟨b4.toArray⟩, .string ⟨b5.toArray⟩, .string ⟨b6.toArray⟩, .string ⟨b7.toArray⟩, .string ⟨b8.toArray⟩, .string ⟨b9.toArray⟩] 29))).alloc (Nat.le_refl _) (.cells #[.slice q0 b.cons.length m0, .slice q1 b.grps.length m1, .slice q2 b.usrs.length m2, .slice q3 b.accs.length m3, .string ⟨d0.toArray⟩, .string ⟨d1.toArray⟩, .string ⟨d2.toArray⟩, .string ⟨d3.toArray⟩, .string ⟨d4.toArray⟩, .string ⟨d5.toArray⟩, .string ⟨d6.toArray⟩, .string ⟨d7.toArray⟩, .string ⟨d8.toArray⟩, .string ⟨d9.toArray⟩] 29)).block _ (at_lt (at_new w (.cells #[.slice p0 a.cons.length k0, .slice p1 a.grps.length k1, .slice p2 a.usrs.length k2, .slice p3 a.accs.length k3, .string ⟨b0.toArray⟩, .string ⟨b1.toArray⟩, .string ⟨b2.toArray⟩, .string ⟨b3.toArray⟩, .string ⟨b4.toArray⟩, .string ⟨b5.toArray⟩, .string ⟨b6.toArray⟩, .string ⟨b7.toArray⟩, .string ⟨b8.toArray⟩, .string ⟨b9.toArray⟩] 29)))).trans (at_new w (.cells #[.slice p0 a.cons.length k0, .slice p1 a.grps.length k1, .slice p2 a.usrs.length k2, .slice p3 a.accs.length k3, .string ⟨b0.toArray⟩, .string ⟨b1.toArray⟩, .string ⟨b2.toArray⟩, .string ⟨b3.toArray⟩, .string ⟨b4.toArray⟩, .string ⟨b5.toArray⟩, .string ⟨b6.toArray⟩, .string ⟨b7.toArray⟩, .string ⟨b8.toArray⟩, .string ⟨b9.toArray⟩] 29))
  have NB := at_new (w.alloc (.cells #[.slice p0 a.cons.length k0, .slice p1 a.grps.length k1, .slice p2 a.usrs.length k2, .slice p3 a.accs.length k3, .string ⟨b0.toArray⟩, .string ⟨b1.toArray⟩, .string ⟨b2.toArray⟩, .string ⟨b3.toArray⟩, .string ⟨b4.toArray⟩, .string ⟨b5.toArray⟩, .string ⟨b6.toArray⟩, .string ⟨b7.toArray⟩, .string ⟨b8.toArray⟩, .string ⟨b9.toArray⟩] 29)) (.cells #[.slice q0 b.cons.length m0, .slice q1 b.grps.length m1, .slice q2 b.usrs.length m2, .slice q3 b.accs.length m3, .string ⟨d0.toArray⟩, .string ⟨d1.toArray⟩, .string ⟨d2.toArray⟩, .string ⟨d3.toArray⟩, .string ⟨d4.toArray⟩, .string ⟨d5.toArray⟩, .string ⟨d6.toArray⟩, .string ⟨d7.toArray⟩, .string ⟨d8.toArray⟩, .string ⟨d9.toArray⟩] 29)
  rw [show (w.alloc (.cells #[.slice p0 a.cons.length k0, .slice p1 a.grps.length k1, .slice p2 a.usrs.length k2, .slice p3 a.accs.length k3, .string ⟨b0.toArray⟩, .string ⟨b1.toArray⟩, .string ⟨b2.toArray⟩, .string ⟨b3.toArray⟩, .string ⟨b4.toArray⟩, .string ⟨b5.toArray⟩, .string ⟨b6.toArray⟩, .string ⟨b7.toArray⟩, .string ⟨b8.toArray⟩, .string ⟨b9.toArray⟩] 29)).heap.size = w.heap.size + 1 by simp] at NB
  have HNA := Lib.hid NA
  have HNB := Lib.hid NB
  clear NA NB
  go_enter Tryz.func11, Tryz.ntmps11
  go_wp2_with fail
  generalize ((w.alloc (.cells #[.slice p0 a.cons.length k0, .slice p1 a.grps.length k1, .slice p2 a.usrs.length k2, .slice p3 a.accs.length k3, .string ⟨b0.toArray⟩, .string ⟨b1.toArray⟩, .string ⟨b2.toArray⟩, .string ⟨b3.toArray⟩, .string ⟨b4.toArray⟩, .string ⟨b5.toArray⟩, .string ⟨b6.toArray⟩, .string ⟨b7.toArray⟩, .string ⟨b8.toArray⟩, .string ⟨b9.toArray⟩] 29)).alloc (.cells #[.slice q0 b.cons.length m0, .slice q1 b.grps.length m1, .slice q2 b.usrs.length m2, .slice q3 b.accs.length m3, .string ⟨d0.toArray⟩, .string ⟨d1.toArray⟩, .string ⟨d2.toArray⟩, .string ⟨d3.toArray⟩, .string ⟨d4.toArray⟩, .string ⟨d5.toArray⟩, .string ⟨d6.toArray⟩, .string ⟨d7.toArray⟩, .string ⟨d8.toArray⟩, .string ⟨d9.toArray⟩] 29)) = W at *
  have X9 := Lib.hid (Below.refl W.heap.size W)
  obtain ⟨_, _, hv, r1⟩ := (HA.out.below BW.out).cons
  obtain ⟨_, _, hu, r2⟩ := (HB.out.below BW.out).cons
  injection hv with z1 _ z2
  injection hu with z3 _ z4
  subst z1 z2 z3 z4
  have HE0 := Lib.hid (equalC_calls a.cons b.cons _ _ _ _ _ _ rfl rfl _ r1 r2)
  clear r1 r2
  refine HE0.out.mono ?_
  rintro e w0 ⟨r, rfl, hr, hbl⟩
  have B0 := Lib.hid (BW.out.trans (hbl.mono BW.out.size))
  have X0 := Lib.hid (X9.out.trans (hbl.mono X9.out.size))
  have HR := Lib.hid hr
  clear hr hbl HE0
  cases r with
  | false =>
    have HX := Lib.hid (show ¬ a = b from fun e => by
      have := HR.out.2 (by rw [e])
      cases this)
    clear HR
    go_wp2_with fail
    go_ret
    exact ⟨false, rfl, ⟨fun h => (by cases h), fun h => absurd h HX.out⟩, B0.out⟩
  | true =>
  have E0 := Lib.hid (HR.out.1 rfl)
  clear HR
  have NA := (X0.out.block _ (at_lt HNA.out)).trans HNA.out
  have NB := (X0.out.block _ (at_lt HNB.out)).trans HNB.out
  have ca := (at_cell NA 1 : _ = some (Value.slice p1 a.grps.length k1))
  have cb := (at_cell NB 1 : _ = some (Value.slice q1 b.grps.length m1))
  clear NA NB
  go_wp2_with fail
  obtain ⟨_, _, gs, hv, r1, g1⟩ := (HA.out.below B0.out).grps
  obtain ⟨_, _, hs, hu, r2, g2⟩ := (HB.out.below B0.out).grps
  injection hv with z1 _ z2
  injection hu with z3 _ z4
  subst z1 z2 z3 z4
  have HE1 := Lib.hid (equalG_calls a.grps b.grps _ _ _ _ _ _ gs hs rfl rfl _ r1 g1 r2 g2)
  clear r1 r2 g1 g2
  refine HE1.out.mono ?_
  rintro e w1 ⟨r, rfl, hr, hbl⟩
  have B1 := Lib.hid (B0.out.trans (hbl.mono B0.out.size))
  have X1 := Lib.hid (X0.out.trans (hbl.mono X0.out.size))
  have HR := Lib.hid hr
  clear hr hbl HE1 ca cb
  cases r with
  | false =>
    have HX := Lib.hid (show ¬ a = b from fun e => by
      have := HR.out.2 (by rw [e])
      cases this)
    clear HR
    go_wp2_with fail
    go_ret
    exact ⟨false, rfl, ⟨fun h => (by cases h), fun h => absurd h HX.out⟩, B1.out⟩
  | true =>
  have E1 := Lib.hid (HR.out.1 rfl)
  clear HR
  have NA := (X1.out.block _ (at_lt HNA.out)).trans HNA.out
  have NB := (X1.out.block _ (at_lt HNB.out)).trans HNB.out
  have ca := (at_cell NA 2 : _ = some (Value.slice p2 a.usrs.length k2))
  have cb := (at_cell NB 2 : _ = some (Value.slice q2 b.usrs.length m2))
  clear NA NB
  go_wp2_with fail
  obtain ⟨_, _, hv, r1⟩ := (HA.out.below B1.out).usrs
  obtain ⟨_, _, hu, r2⟩ := (HB.out.below B1.out).usrs
  injection hv with z1 _ z2
  injection hu with z3 _ z4
  subst z1 z2 z3 z4
  have HE2 := Lib.hid (equalU_calls a.usrs b.usrs _ _ _ _ _ _ rfl rfl _ r1 r2)
  clear r1 r2
  refine HE2.out.mono ?_
  rintro e w2 ⟨r, rfl, hr, hbl⟩
  have B2 := Lib.hid (B1.out.trans (hbl.mono B1.out.size))
  have X2 := Lib.hid (X1.out.trans (hbl.mono X1.out.size))
  have HR := Lib.hid hr
  clear hr hbl HE2 ca cb
  cases r with
  | false =>
    have HX := Lib.hid (show ¬ a = b from fun e => by
      have := HR.out.2 (by rw [e])
      cases this)
    clear HR
    go_wp2_with fail
    go_ret
    exact ⟨false, rfl, ⟨fun h => (by cases h), fun h => absurd h HX.out⟩, B2.out⟩
  | true =>
  have E2 := Lib.hid (HR.out.1 rfl)
  clear HR
  have NA := (X2.out.block _ (at_lt HNA.out)).trans HNA.out
  have NB := (X2.out.block _ (at_lt HNB.out)).trans HNB.out
  have ca := (at_cell NA 3 : _ = some (Value.slice p3 a.accs.length k3))
  have cb := (at_cell NB 3 : _ = some (Value.slice q3 b.accs.length m3))
  clear NA NB
  go_wp2_with fail
  obtain ⟨_, _, hv, r1⟩ := (HA.out.below B2.out).accs
  obtain ⟨_, _, hu, r2⟩ := (HB.out.below B2.out).accs
  injection hv with z1 _ z2
  injection hu with z3 _ z4
  subst z1 z2 z3 z4
  have HE3 := Lib.hid (equalA_calls a.accs b.accs _ _ _ _ _ _ rfl rfl _ r1 r2)
  clear r1 r2
  refine HE3.out.mono ?_
  rintro e w3 ⟨r, rfl, hr, hbl⟩
  have B3 := Lib.hid (B2.out.trans (hbl.mono B2.out.size))
  have X3 := Lib.hid (X2.out.trans (hbl.mono X2.out.size))
  have HR := Lib.hid hr
  clear hr hbl HE3 ca cb
  cases r with
  | false =>
    have HX := Lib.hid (show ¬ a = b from fun e => by
      have := HR.out.2 (by rw [e])
      cases this)
    clear HR
    go_wp2_with fail
    go_ret
    exact ⟨false, rfl, ⟨fun h => (by cases h), fun h => absurd h HX.out⟩, B3.out⟩
  | true =>
  have E3 := Lib.hid (HR.out.1 rfl)
  clear HR
  have NA := (X3.out.block _ (at_lt HNA.out)).trans HNA.out
  have NB := (X3.out.block _ (at_lt HNB.out)).trans HNB.out
  have ca0 := (at_cell NA 4 : _ = some (Value.string ⟨b0.toArray⟩))
  have cb0 := (at_cell NB 4 : _ = some (Value.string ⟨d0.toArray⟩))
  have ca1 := (at_cell NA 5 : _ = some (Value.string ⟨b1.toArray⟩))
  have cb1 := (at_cell NB 5 : _ = some (Value.string ⟨d1.toArray⟩))
  have ca2 := (at_cell NA 6 : _ = some (Value.string ⟨b2.toArray⟩))
  have cb2 := (at_cell NB 6 : _ = some (Value.string ⟨d2.toArray⟩))
  have ca3 := (at_cell NA 7 : _ = some (Value.string ⟨b3.toArray⟩))
  have cb3 := (at_cell NB 7 : _ = some (Value.string ⟨d3.toArray⟩))
  have ca4 := (at_cell NA 8 : _ = some (Value.string ⟨b4.toArray⟩))
  have cb4 := (at_cell NB 8 : _ = some (Value.string ⟨d4.toArray⟩))
  have ca5 := (at_cell NA 9 : _ = some (Value.string ⟨b5.toArray⟩))
  have cb5 := (at_cell NB 9 : _ = some (Value.string ⟨d5.toArray⟩))
  have ca6 := (at_cell NA 10 : _ = some (Value.string ⟨b6.toArray⟩))
  have cb6 := (at_cell NB 10 : _ = some (Value.string ⟨d6.toArray⟩))
  have ca7 := (at_cell NA 11 : _ = some (Value.string ⟨b7.toArray⟩))
  have cb7 := (at_cell NB 11 : _ = some (Value.string ⟨d7.toArray⟩))
  have ca8 := (at_cell NA 12 : _ = some (Value.string ⟨b8.toArray⟩))
  have cb8 := (at_cell NB 12 : _ = some (Value.string ⟨d8.toArray⟩))
  have ca9 := (at_cell NA 13 : _ = some (Value.string ⟨b9.toArray⟩))
  have cb9 := (at_cell NB 13 : _ = some (Value.string ⟨d9.toArray⟩))
  clear NA NB
  obtain ⟨r, hr⟩ : ∃ r, r = eq10 b0 b1 b2 b3 b4 b5 b6 b7 b8 b9 d0 d1 d2 d3 d4 d5 d6 d7 d8 d9 := ⟨_, rfl⟩
  have HQ := arr_eql b0 b1 b2 b3 b4 b5 b6 b7 b8 b9 d0 d1 d2 d3 d4 d5 d6 d7 d8 d9
  rw [← hr] at HQ
  have HRR := Lib.hid hr
  clear hr
  go_wp2_with fail
  go_ret
  exact ⟨r, rfl, ⟨fun h => cf_ext E0.out E1.out E2.out E3.out (by rw [TA.out, TB.out]; exact eq10_iff.1 (by rw [← HRR.out]; exact h)), fun h => by rw [HRR.out]; exact eq10_iff.2 (by rw [← TA.out, ← TB.out, h])⟩, B3.out⟩
end Go.Proofs.YtajfdachpdkbcaaGreatDoor.Conf
end

section
namespace Go.Proofs.YtajfdachpdkbcaaGreatDoor.Lex
open Go.RowKit Go.Proofs.YtajfdachpdkbcaaGreatDoor.Own

theorem iterPos_of {w : World} {k : Nat} {s : ByteArray} {p : Nat} (h : w.heap[k]? = some (.stringIter s p)) : w.iterPos k = p := by simp [World.iterPos, h]
theorem list_size (s : ByteArray) : s.data.toList.length = s.size := rfl
theorem drop_at (s : ByteArray) (pos : Nat) (h : pos < s.size) : s.data.toList.drop pos = s[pos]'h :: s.data.toList.drop (pos + 1) :=
  List.drop_eq_getElem_cons (l := s.data.toList) (i := pos) h
theorem drop_all (s : ByteArray) {pos : Nat} (h : s.size ≤ pos) : s.data.toList.drop pos = [] := List.drop_of_length_le h

open Go.Lib in
/-- a sign of more than one byte, or a byte that is none: no byte of it is one of the signs that count -/
theorem dec_span (s : ByteArray) (pos : Nat) (hp : pos < s.size) (ha : 128 ≤ (s[pos]'hp).toNat) :
    128 ≤ (Utf8.decode s pos).1 ∧ 1 ≤ (Utf8.decode s pos).2 ∧ pos + (Utf8.decode s pos).2 ≤ s.size ∧ ∀ j (_ : j < (Utf8.decode s pos).2) (hj : pos + j < s.size), 128 ≤ (s[pos + j]'hj).toNat := by
  obtain ⟨h1, h2⟩ := decode_high s pos hp ha
  have hg : ∀ i (hi : i < s.size), s.get! i = s[i]'hi := by
    intro i hi
    rw [ByteArray.get!, Array.getElem!_eq_getD, Array.getD_eq_getD_getElem?, Array.getElem?_eq_getElem (show i < s.data.size from hi)]; rfl
  rw [decode_at] at h1 h2 ⊢
  obtain ⟨c2, c3, c4, c5⟩ := decodeN_conts (s.size - pos) (s.get! pos).toNat (s.get! (pos + 1)).toNat (s.get! (pos + 2)).toNat (s.get! (pos + 3)).toNat
  refine ⟨h1, h2, by omega, fun j hj hjs => ?_⟩
  rw [← hg _ hjs]
  match j, hj with
  | 0, _ => rw [Nat.add_zero, hg _ hp]; exact ha
  | 1, hj => have := (c2 (by omega)).1; omega
  | 2, hj => have := (c3 (by omega)).1; omega
  | 3, hj => have := (c4 (by omega)).1; omega
  | j + 4, hj => omega

/-- what a round of a range reads: a sign R of K bytes -/
structure Sign (s : ByteArray) (pos R K : Nat) (hp : pos < s.size) : Prop where
  is : Utf8.decode s pos = (R, K)
  low : (s[pos]'hp).toNat < 128 → R = (s[pos]'hp).toNat ∧ K = 1
  high : 128 ≤ (s[pos]'hp).toNat → 128 ≤ R ∧ ∀ j (_ : j < K) (hj : pos + j < s.size), 128 ≤ (s[pos + j]'hj).toNat
  one : 1 ≤ K
  le : pos + K ≤ s.size
  top : R ≤ 1114111
theorem sign_of (s : ByteArray) (pos : Nat) (hp : pos < s.size) : ∃ R K, Sign s pos R K hp := by
  have top := Lib.rune_le s pos
  refine ⟨(Utf8.decode s pos).1, (Utf8.decode s pos).2, ⟨Prod.ext rfl rfl, ?_, ?_, ?_, ?_, top⟩⟩
  · intro h; rw [decode_ascii s pos hp h]; exact ⟨rfl, rfl⟩
  · intro h; have := dec_span s pos hp h; exact ⟨this.1, this.2.2.2⟩
  · exact Lib.width_pos s pos
  · by_cases h : (s[pos]'hp).toNat < 128
    · rw [decode_ascii s pos hp h]; exact hp
    · exact (dec_span s pos hp (by omega)).2.2.1
theorem Sign.next {s : ByteArray} {pos R K : Nat} {hp : pos < s.size} (h : Sign s pos R K hp) {w : World} {k : Nat} (hk : w.heap[k]? = some (.stringIter s pos)) (ty : TypeId) :
    (Instr.next (.pointer (some ⟨k, 0, none⟩)) true ty).run Tryz.prog w = .ok (.tuple #[.bool true, .int .i64 pos, .int .i32 R]) (w.iterAt k s (pos + K)) := by
  rw [Lib.run_next_any_at w k s pos ty hk hp, h.is]
theorem Sign.skip {s : ByteArray} {pos R K : Nat} {hp : pos < s.size} (h : Sign s pos R K hp) (hh : 128 ≤ (s[pos]'hp).toNat) :
    Lex.skip true (s.data.toList.drop pos) = K + Lex.skip true (s.data.toList.drop (pos + K)) := by
  have e : s.data.toList.drop pos = (s.data.toList.drop pos).take K ++ s.data.toList.drop (pos + K) := by
    rw [← List.drop_drop, List.take_append_drop]
  have hl : ((s.data.toList.drop pos).take K).length = K := by
    rw [List.length_take, List.length_drop, list_size]; have := h.le; omega
  rw [e, skip_high, hl]
  intro c hc
  obtain ⟨j, hj, rfl⟩ := List.mem_iff_getElem.1 hc
  rw [hl] at hj
  have := (h.high hh).2 j hj (by have := h.le; omega)
  simp only [List.getElem_take, List.getElem_drop]
  change 128 ≤ (s.data.toList[pos + j]'_).toNat at this
  omega

/-! ### the program's small calls -/
theorem quotable_calls (n : Nat) (w : World) : Calls Tryz.prog 135 #[.int .i32 n] w fun e w' => e = .returned (.bool (qb n)) ∧ w' = w := by
  by_cases h1 : 32 ≤ n
  · by_cases h2 : n ≤ 126
    · have e : qb n = true := (qb_iff n).2 ⟨h1, h2⟩
      have q1 : (32 : Int) ≤ n := by omega
      have q2 : (n : Int) ≤ 126 := by omega
      rw [e]
      go_enter Tryz.func135, Tryz.ntmps135
      go_wp2_with fail
      go_ret
      exact ⟨rfl, rfl⟩
    · have e : qb n = false := by simp [qb]; omega
      have q1 : (32 : Int) ≤ n := by omega
      have q2 : ¬ (n : Int) ≤ 126 := by omega
      rw [e]
      go_enter Tryz.func135, Tryz.ntmps135
      go_wp2_with fail
      go_ret
      exact ⟨rfl, rfl⟩
  · have e : qb n = false := by simp [qb]; omega
    have q1 : ¬ (32 : Int) ≤ n := by omega
    rw [e]
    go_enter Tryz.func135, Tryz.ntmps135
    go_wp2_with fail
    go_ret
    exact ⟨rfl, rfl⟩
theorem escaped_calls (n : Nat) (w : World) : Calls Tryz.prog 136 #[.int .i32 n] w fun e w' => e = .returned (.bool (eb n)) ∧ w' = w := by
  by_cases h1 : n = 34
  · subst h1
    go_enter Tryz.func136, Tryz.ntmps136
    go_wp2_with fail
    go_ret
    exact ⟨rfl, rfl⟩
  · have q1 : ((n : Int) == 34) = false := by simp; omega
    by_cases h2 : n = 92
    · subst h2
      go_enter Tryz.func136, Tryz.ntmps136
      go_wp2_with fail
      go_ret
      exact ⟨rfl, rfl⟩
    · have q2 : ((n : Int) == 92) = false := by simp; omega
      have e : eb n = false := by simp [eb, h1, h2]
      rw [e]
      clear h1 h2 e
      go_enter Tryz.func136, Tryz.ntmps136
      go_wp2_with fail
      go_ret
      exact ⟨rfl, rfl⟩
def toldT (s : ByteArray) (b : Bool) : ByteArray := if b = true then s else ⟨#[]⟩
def toldC (b : Bool) : Int := if b = true then 0 else 3
theorem told_calls (s : ByteArray) (b : Bool) (w : World) : Calls Tryz.prog 175 #[.string s, .bool b] w fun e w' => e = .returned (.tuple #[.string (toldT s b), .int .i64 (toldC b)]) ∧ w' = w := by
  cases b
  · go_enter Tryz.func175, Tryz.ntmps175
    go_wp2_with fail
    go_ret2
    exact ⟨rfl, rfl⟩
  · go_enter Tryz.func175, Tryz.ntmps175
    go_wp2_with fail
    go_ret2
    exact ⟨rfl, rfl⟩
set_option maxRecDepth 1000000 in
/-- is an ASCII sign one that ends a word? -/
theorem ends_calls (n : Nat) (h : n < 128) (w : World) : Calls Tryz.prog 137 #[.string ⟨#[123, 125, 59, 34, 35, 92]⟩, .int .i32 n] w
    fun e w' => e = .returned (.bool (n == 123 || n == 125 || n == 59 || n == 34 || n == 35 || n == 92)) ∧ w' = w := by
  have H := Tryz.strings_ContainsRune_ascii ⟨#[123, 125, 59, 34, 35, 92]⟩ n w (by omega) (by omega)
  have e : decide (0 ≤ Lib.indexByte [123, 125, 59, 34, 35, 92] (n : Int).toNat.toUInt8) = (n == 123 || n == 125 || n == 59 || n == 34 || n == 35 || n == 92) := by
    rw [Int.toNat_natCast]
    clear H
    have : ∀ m : Fin 128, decide (0 ≤ Lib.indexByte [123, 125, 59, 34, 35, 92] m.val.toUInt8) = (m.val == 123 || m.val == 125 || m.val == 59 || m.val == 34 || m.val == 35 || m.val == 92) := by decide
    exact this ⟨n, h⟩
  rw [show (⟨#[123, 125, 59, 34, 35, 92]⟩ : ByteArray).data.toList = [123, 125, 59, 34, 35, 92] from rfl, e] at H
  exact H
def mkI (n : Nat) : Int := if n = 123 then 0 else if n = 125 then 1 else if n = 59 then 2 else -1
set_option maxRecDepth 1000000 in
/-- which mark is a byte? -/
theorem marks_calls (n : Nat) (h : n < 256) (w : World) : Calls Tryz.prog 109 #[.string ⟨#[123, 125, 59]⟩, .int .u8 n] w
    fun e w' => e = .returned (.int .i64 (mkI n)) ∧ w' = w := by
  have H := Tryz.strings_IndexByte ⟨#[123, 125, 59]⟩ n w
  have e : Lib.indexByte [123, 125, 59] (n : Int).toNat.toUInt8 = mkI n := by
    rw [Int.toNat_natCast]
    clear H
    have : ∀ m : Fin 256, Lib.indexByte [123, 125, 59] m.val.toUInt8 = mkI m.val := by decide
    exact this ⟨n, h⟩
  rw [show (⟨#[123, 125, 59]⟩ : ByteArray).data.toList = [123, 125, 59] from rfl, e] at H
  exact H
end Go.Proofs.YtajfdachpdkbcaaGreatDoor.Lex
end

section
namespace Go.Proofs.YtajfdachpdkbcaaGreatDoor.Lex
open Go.RowKit Go.Proofs.YtajfdachpdkbcaaGreatDoor.Own

/-- a range over a text stands at a byte: its block, and the world as it was -/
structure At (s : ByteArray) (w wr : World) (pos : Nat) : Prop where
  le : pos ≤ s.size
  it : wr.heap[w.heap.size]? = some (.stringIter s pos)
  below : Below w.heap.size w wr
theorem At.start (s : ByteArray) (w : World) : At s w (w.iter s 0) 0 := ⟨Nat.zero_le _, World.iter_heap w s 0, (Below.refl _ _).alloc (Nat.le_refl _) _⟩
theorem At.next {s : ByteArray} {w wr : World} {pos R K : Nat} (h : At s w wr pos) {hp : pos < s.size} (g : Sign s pos R K hp) : At s w (wr.iterAt w.heap.size s (pos + K)) (pos + K) :=
  ⟨g.le, Lib.iterAt_heap _ _ _ _ _ h.it, Lib.below_iterAt h.below (Nat.le_refl _) _ _⟩
theorem At.drewN {s : ByteArray} {w wr : World} {pos : Nat} (h : At s w wr pos) (n : Nat) : At s w (wr.drewN n) pos := ⟨h.le, h.it, ⟨h.below.os, h.below.tape, h.below.output, h.below.size, h.below.block⟩⟩
theorem At.pos {s : ByteArray} {w wr : World} {pos : Nat} (h : At s w wr pos) : wr.iterPos w.heap.size = pos := iterPos_of h.it

set_option maxRecDepth 100000 in
set_option maxHeartbeats 2000000 in
theorem between_calls (s : ByteArray) (w : World) :
    Calls Tryz.prog 78 #[.string s] w fun e w' => e = .returned (.int .i64 (skip false s.data.toList)) ∧ Below w.heap.size w w' := by
  go_enter Tryz.func78, Tryz.ntmps78
  go_wp2_with fail
  go_loopw [3] (fun n wr => ∃ (b : Bool) (pos : Nat), n = .bool b ∧ At s w wr pos ∧ Hid (skip false s.data.toList = pos + skip b (s.data.toList.drop pos))) (fun _ wr => s.size - wr.iterPos w.heap.size)
  case atStart => exact ⟨false, 0, rfl, At.start s w, Lib.hid (by simp)⟩
  case round =>
    obtain ⟨b, pos, rfl, hA, HS⟩ := hrel
    rename World => wr
    have hle := hA.le
    have hm := hA.pos
    by_cases hp : pos < s.size
    · obtain ⟨R, K, hg⟩ := sign_of s pos hp
      have hnx := fun ty => hg.next hA.it ty
      have HA := Lib.hid (hA.next hg)
      have HM := Lib.hid (HA.out.pos)
      have k1 := hg.one
      have kle := hg.le
      have HL := Lib.hid hg.low
      have HH := Lib.hid hg.high
      have HK := Lib.hid (fun hh => hg.skip hh)
      have HD := Lib.hid (drop_at s pos hp)
      generalize wr.iterAt w.heap.size s (pos + K) = W at *
      clear hA hg
      obtain ⟨c, hc⟩ : ∃ c, s[pos] = c := ⟨_, rfl⟩
      rw [hc] at HL HH HK HD
      clear hc
      by_cases hlow : c.toNat < 128
      · obtain ⟨hR, hK⟩ := HL.out hlow
        subst hK
        clear HL HH HK
        have HC := Lib.hid hR
        have ht : R < 128 := by omega
        clear hlow hR
        by_cases h10 : R = 10
        · subst h10
          have HS2 := Lib.hid (show skip false s.data.toList = (pos + 1) + skip false (s.data.toList.drop (pos + 1)) by
            rw [HS.out, HD.out, skip_line HC.out.symm]; omega)
          clear HS HD HC
          go_wp2_with fail
          go_roundw
          case rel => exact ⟨false, pos + 1, rfl, HA.out, HS2⟩
          case measure => rw [HM.out, hm]; omega
        · have b10 : ((R : Int) == 10) = false := by simp; omega
          have hc10 : c.toNat ≠ 10 := by have := HC.out; omega
          cases b
          · by_cases hbb : bb R = true
            · have HS2 := Lib.hid (show skip false s.data.toList = (pos + 1) + skip false (s.data.toList.drop (pos + 1)) by
                rw [HS.out, HD.out, skip_go hc10 (by rw [← HC.out, hbb]; rfl)]; omega)
              clear HS HD HC hc10
              rw [bb_iff] at hbb
              rcases hbb with rfl | rfl | rfl
              all_goals
                go_wp2_with fail
                go_roundw
                case rel => exact ⟨false, pos + 1, rfl, HA.out, HS2⟩
                case measure => rw [HM.out, hm]; omega
            · have hb' : bb R = false := by simpa using hbb
              have hn : R ≠ 32 ∧ R ≠ 9 ∧ R ≠ 13 := by
                have := mt (bb_iff R).2 (by simp [hb']); omega
              have b1 : ((R : Int) == 32) = false := by simp; omega
              have b2 : ((R : Int) == 9) = false := by simp; omega
              have b3 : ((R : Int) == 13) = false := by simp; omega
              by_cases h35 : R = 35
              · subst h35
                have HS2 := Lib.hid (show skip false s.data.toList = (pos + 1) + skip true (s.data.toList.drop (pos + 1)) by
                  rw [HS.out, HD.out, skip_note HC.out.symm]; omega)
                clear HS HD HC hc10 hbb hb' hn
                go_wp2_with fail
                go_roundw
                case rel => exact ⟨true, pos + 1, rfl, HA.out, HS2⟩
                case measure => rw [HM.out, hm]; omega
              · have b4 : ((R : Int) == 35) = false := by simp; omega
                have HS2 := Lib.hid (show skip false s.data.toList = pos by
                  rw [HS.out, HD.out, skip_end hc10 (by rw [← HC.out, hb']) (by rw [← HC.out]; exact h35)]; rfl)
                clear HS HD HC hc10 hbb hb' hn h35 h10
                go_wp2_with fail
                go_ret
                exact ⟨by rw [HS2.out]; rfl, HA.out.below⟩
          · have HS2 := Lib.hid (show skip false s.data.toList = (pos + 1) + skip true (s.data.toList.drop (pos + 1)) by
              rw [HS.out, HD.out, skip_go hc10 rfl]; omega)
            clear HS HD HC hc10 h10
            go_wp2_with fail
            go_roundw
            case rel => exact ⟨true, pos + 1, rfl, HA.out, HS2⟩
            case measure => rw [HM.out, hm]; omega
      · have hh : 128 ≤ c.toNat := by omega
        have hR := (HH.out hh).1
        have b10 : ((R : Int) == 10) = false := by simp; omega
        have b1 : ((R : Int) == 32) = false := by simp; omega
        have b2 : ((R : Int) == 9) = false := by simp; omega
        have b3 : ((R : Int) == 13) = false := by simp; omega
        have b4 : ((R : Int) == 35) = false := by simp; omega
        have hs := HK.out hh
        clear HL HH hlow
        cases b
        · have HS2 := Lib.hid (show skip false s.data.toList = pos by
            rw [HS.out, HD.out, skip_end (by omega) (by simp [bb]; omega) (by omega)]; rfl)
          clear HS HD HK hs hh
          go_wp2_with fail
          go_ret
          exact ⟨by rw [HS2.out]; rfl, HA.out.below⟩
        · have HS2 := Lib.hid (show skip false s.data.toList = (pos + K) + skip true (s.data.toList.drop (pos + K)) by
            rw [HS.out, hs]; omega)
          clear HS HD HK hs hh
          go_wp2_with fail
          go_roundw
          case rel => exact ⟨true, pos + K, rfl, HA.out, HS2⟩
          case measure => rw [HM.out, hm]; omega
    · have hnx := fun ty => Lib.run_next_end_at (P := Tryz.prog) wr w.heap.size s pos ty hA.it hp
      have HS2 := Lib.hid (show skip false s.data.toList = s.size by rw [HS.out, drop_all s (by omega), skip_nil]; omega)
      have HA := Lib.hid hA
      clear HS hA
      go_wp2_with fail
      go_ret
      exact ⟨by rw [HS2.out]; rfl, HA.out.below⟩

set_option maxRecDepth 100000 in
set_option maxHeartbeats 2000000 in
theorem size_calls (s : ByteArray) (w : World) :
    Calls Tryz.prog 111 #[.string s] w fun e w' => e = .returned (.int .i64 (wlen s.data.toList)) ∧ Below w.heap.size w w' := by
  go_enter Tryz.func111, Tryz.ntmps111
  go_wp2_with fail
  go_loopw [] (fun wr => ∃ (pos : Nat), At s w wr pos ∧ Hid (wlen s.data.toList = pos + wlen (s.data.toList.drop pos))) (fun wr => s.size - wr.iterPos w.heap.size)
  case atStart => exact ⟨0, At.start s w, Lib.hid (by simp)⟩
  case round =>
    obtain ⟨pos, hA, HS⟩ := hrel
    rename World => wr
    have hle := hA.le
    have hm := hA.pos
    by_cases hp : pos < s.size
    · obtain ⟨R, K, hg⟩ := sign_of s pos hp
      have hnx := fun ty => hg.next hA.it ty
      have HA := Lib.hid (hA.next hg)
      have HM := Lib.hid (HA.out.pos)
      have k1 := hg.one
      have kle := hg.le
      have HL := Lib.hid hg.low
      have HH := Lib.hid hg.high
      have HD := Lib.hid (drop_at s pos hp)
      generalize wr.iterAt w.heap.size s (pos + K) = W at *
      clear hA hg
      obtain ⟨c, hc⟩ : ∃ c, s[pos] = c := ⟨_, rfl⟩
      rw [hc] at HL HH HD
      clear hc
      by_cases hw : wb c.toNat = true
      · have hw2 := (wb_iff _).1 hw
        obtain ⟨hR, hK⟩ := HL.out (by omega)
        subst hK
        have HS2 := Lib.hid (show wlen s.data.toList = (pos + 1) + wlen (s.data.toList.drop (pos + 1)) by
          rw [HS.out, HD.out, wlen_yes hw]; omega)
        have hq := wb_qb hw
        rw [← hR] at hw2 hq
        have hends : (R == 123 || R == 125 || R == 59 || R == 34 || R == 35 || R == 92) = false := by simp; omega
        have b1 : ((R : Int) == 32) = false := by simp; omega
        have hlt : R < 128 := by omega
        clear HS HD HL HH hw hR hw2
        go_wp2_with (first
          | (go_at_call 135; refine (quotable_calls R _).mono ?_; rintro e w' ⟨rfl, rfl⟩; rw [hq])
          | (go_at_call 137; refine (ends_calls R hlt _).mono ?_; rintro e w' ⟨rfl, rfl⟩; rw [hends]))
        go_roundw
        case rel => exact ⟨pos + 1, HA.out, HS2⟩
        case measure => rw [HM.out, hm]; omega
      · have hw' : wb c.toNat = false := by simpa using hw
        have HS2 := Lib.hid (show wlen s.data.toList = pos by rw [HS.out, HD.out, wlen_no hw']; rfl)
        clear HS HD hw
        by_cases h32 : R = 32
        · subst h32
          clear HL HH hw'
          go_wp2_with fail
          go_ret
          exact ⟨by rw [HS2.out]; rfl, HA.out.below⟩
        · have b1 : ((R : Int) == 32) = false := by simp; omega
          by_cases hq : qb R = true
          · have hq2 := (qb_iff _).1 hq
            have hlow : c.toNat < 128 := by
              by_cases h : c.toNat < 128
              · exact h
              · have := (HH.out (by omega)).1; omega
            obtain ⟨hR, hK⟩ := HL.out hlow
            have hlt : R < 128 := by omega
            have hends : (R == 123 || R == 125 || R == 59 || R == 34 || R == 35 || R == 92) = true := by
              have := mt (wb_iff _).2 (by simp [hw'] : ¬ wb c.toNat = true)
              simp; omega
            clear HL HH hw' hR hK hlow hq2 h32
            go_wp2_with (first
              | (go_at_call 135; refine (quotable_calls R _).mono ?_; rintro e w' ⟨rfl, rfl⟩; rw [hq])
              | (go_at_call 137; refine (ends_calls R hlt _).mono ?_; rintro e w' ⟨rfl, rfl⟩; rw [hends]))
            go_ret
            exact ⟨by rw [HS2.out]; rfl, HA.out.below⟩
          · have hq' : qb R = false := by simpa using hq
            clear HL HH hw' hq h32
            go_wp2_with (go_at_call 135; refine (quotable_calls R _).mono ?_; rintro e w' ⟨rfl, rfl⟩; rw [hq'])
            go_ret
            exact ⟨by rw [HS2.out]; rfl, HA.out.below⟩
    · have hnx := fun ty => Lib.run_next_end_at (P := Tryz.prog) wr w.heap.size s pos ty hA.it hp
      have HS2 := Lib.hid (show wlen s.data.toList = s.size by rw [HS.out, drop_all s (by omega), wlen_nil]; omega)
      have HA := Lib.hid hA
      clear HS hA
      go_wp2_with fail
      go_ret
      exact ⟨by rw [HS2.out]; rfl, HA.out.below⟩

set_option maxRecDepth 100000 in
theorem wordy_calls (s : ByteArray) (w : World) :
    Calls Tryz.prog 117 #[.string s] w fun e w' => e = .returned (.bool (isW s.data.toList)) ∧ Below w.heap.size w w' := by
  by_cases h0 : s.size = 0
  · obtain rfl : s = ⟨#[]⟩ := by
      cases s with | mk d => cases d with | mk l => cases l with | nil => rfl | cons a r => simp [ByteArray.size] at h0
    go_enter Tryz.func117, Tryz.ntmps117
    go_wp2_with fail
    go_ret
    exact ⟨rfl, Below.refl _ _⟩
  · have hne : s.data.toList.isEmpty = false := by
      cases h : s.data.toList with
      | nil => have := list_size s; rw [h] at this; simp at this; omega
      | cons a r => rfl
    have HR := Lib.hid (show isW s.data.toList = (wlen s.data.toList == s.size) by rw [isW, hne]; rfl)
    have HW := Lib.hid (size_calls s)
    obtain ⟨n, hn⟩ : ∃ n, wlen s.data.toList = n := ⟨_, rfl⟩
    rw [hn] at HW HR
    have hs : s.toList.isEmpty = false := by rw [ByteArray.toList_eq]; exact hne
    have hs2 : (s.toList != []) = true := by
      cases h : s.toList with
      | nil => rw [h] at hs; cases hs
      | cons a r => rfl
    have hc : (((n : Nat) : Int) == (s.size : Int)) = (n == s.size) := by
      rw [Bool.eq_iff_iff]; simp; omega
    clear hn hne h0
    go_enter Tryz.func117, Tryz.ntmps117
    go_wp2_with (go_at_call 111; refine (HW.out _).mono ?_; rintro e w' ⟨rfl, hb⟩; replace hb := Lib.hid hb)
    go_ret
    exact ⟨by rw [HR.out]; first | rfl | simp, hb.out⟩

end Go.Proofs.YtajfdachpdkbcaaGreatDoor.Lex
end

section
namespace Go.Proofs.YtajfdachpdkbcaaGreatDoor.Lex
open Go.RowKit Go.Proofs.YtajfdachpdkbcaaGreatDoor.Own

theorem cut_from {P : Program} (t : TypeId) (ht : P.underlying t = some .string) (s : ByteArray) (i : Int) (h0 : 0 ≤ i) (h : i ≤ s.size) (W : World) :
    (Instr.sliceAt t (.string s) (some (.int .i64 i)) none none).run P W = .ok (.string (s.extract i.toNat s.size)) W := by
  rw [run_sliceAt_string W t _ _ _ _ ht, run_slice_string_from_if W t s .i64 i ht, if_pos ⟨h0, h⟩]
theorem cut_to {P : Program} (t : TypeId) (ht : P.underlying t = some .string) (s : ByteArray) (j : Int) (h0 : 0 ≤ j) (h : j ≤ s.size) (W : World) :
    (Instr.sliceAt t (.string s) none (some (.int .i64 j)) none).run P W = .ok (.string (s.extract 0 j.toNat)) W := by
  rw [run_sliceAt_string W t _ _ _ _ ht, run_slice_string_to_if W t s .i64 j ht, if_pos ⟨h0, h⟩]
theorem cut_mid {P : Program} (t : TypeId) (ht : P.underlying t = some .string) (s : ByteArray) (i j : Int) (h0 : 0 ≤ i) (h1 : i ≤ j) (h : j ≤ s.size) (W : World) :
    (Instr.sliceAt t (.string s) (some (.int .i64 i)) (some (.int .i64 j)) none).run P W = .ok (.string (s.extract i.toNat j.toNat)) W := by
  rw [run_sliceAt_string W t _ _ _ _ ht, run_slice_string W t s .i64 .i64 i j ht h0 h1 h]
theorem extract_list (s : ByteArray) (a b : Nat) : (s.extract a b).data.toList = (s.data.toList.drop a).take (b - a) := by
  obtain ⟨l, rfl⟩ : ∃ l : List UInt8, s = ⟨l.toArray⟩ := ⟨s.data.toList, by cases s; simp⟩
  rw [ByteArray.extract_mk]
/-- what is left of a text behind k bytes -/
theorem from_of (s : ByteArray) (k : Nat) (hk : k ≤ s.size) : ∃ p : ByteArray, p.size = s.size - k ∧ p.data.toList = s.data.toList.drop k ∧ ∀ W, (Instr.sliceAt 9 (.string s) (some (.int .i64 k)) none none).run Tryz.prog W = .ok (.string p) W :=
  ⟨s.extract (k : Int).toNat s.size, by simp [ByteArray.size_extract], by rw [extract_list, show (k : Int).toNat = k by omega, List.take_of_length_le (by rw [List.length_drop, list_size]; omega)], fun W => cut_from 9 Tryz.underlying9 s k (by omega) (by omega) W⟩
/-- the first k bytes of a text -/
theorem to_of (s : ByteArray) (k : Nat) (hk : k ≤ s.size) : ∃ p : ByteArray, p.size = k ∧ p.data.toList = s.data.toList.take k ∧ ∀ W, (Instr.sliceAt 9 (.string s) none (some (.int .i64 k)) none).run Tryz.prog W = .ok (.string p) W :=
  ⟨s.extract 0 (k : Int).toNat, by simp [ByteArray.size_extract]; omega, by rw [extract_list]; simp, fun W => cut_to 9 Tryz.underlying9 s k (by omega) (by omega) W⟩

/-- a range over a text stands at a byte; its block is it -/
structure AtB (s : ByteArray) (B it : Nat) (w wr : World) (pos : Nat) : Prop where
  le : pos ≤ s.size
  blk : wr.heap[it]? = some (.stringIter s pos)
  below : Below B w wr
  ge : B ≤ it
theorem AtB.next {s : ByteArray} {w wr : World} {B it pos R K : Nat} (h : AtB s B it w wr pos) {hp : pos < s.size} (g : Sign s pos R K hp) : AtB s B it w (wr.iterAt it s (pos + K)) (pos + K) :=
  ⟨g.le, Lib.iterAt_heap _ _ _ _ _ h.blk, Lib.below_iterAt h.below h.ge _ _, h.ge⟩
theorem AtB.pos {s : ByteArray} {w wr : World} {B it pos : Nat} (h : AtB s B it w wr pos) : wr.iterPos it = pos := iterPos_of h.blk
theorem AtB.lt {s : ByteArray} {w wr : World} {B it pos : Nat} (h : AtB s B it w wr pos) : it < wr.heap.size := at_lt h.blk
theorem AtB.alloc {s : ByteArray} {w wr : World} {B it pos : Nat} (h : AtB s B it w wr pos) (o : Obj) : AtB s B it w (wr.alloc o) pos :=
  ⟨h.le, at_old _ _ h.blk, h.below.alloc (by have := h.ge; have := h.lt; omega) _, h.ge⟩

/-- a []byte of the call's own that holds l -/
def Byt (w : World) (B : Nat) (v : Value) (l : List UInt8) : Prop := w.ownsRow B 5 1 v l.length (bv l)
theorem Byt.iterAt {w : World} {B : Nat} {v : Value} {l : List UInt8} {k : Nat} {s : ByteArray} {pos : Nat} (h : Byt w B v l) (hk : w.heap[k]? = some (.stringIter s pos)) (pos' : Nat) : Byt (w.iterAt k s pos') B v l := by
  refine ⟨h.1, ?_⟩
  rcases h.2 with h0 | ⟨g, cap, cur, hv, hb, hg, rest⟩
  · exact .inl h0
  · refine .inr ⟨g, cap, cur, hv, hb, ?_, rest⟩
    rw [Lib.iterAt_other _ _ _ _ _ (fun e => by subst e; rw [hk] at hg; cases hg)]
    exact hg
theorem own_ne_iter {w : World} {B e size n : Nat} {v : Value} {xs : List Value} {k : Nat} {s : ByteArray} {pos : Nat} (h : w.ownsRow B e size v n xs) (hk : w.heap[k]? = some (.stringIter s pos)) : some k ≠ v.ownBlock := by
  rcases h.2 with ⟨rfl, _⟩ | ⟨g, cap, cur, rfl, hb, hg, rest⟩
  · simp [Value.ownBlock]
  · intro e
    simp only [Value.ownBlock, Option.some.injEq] at e
    subst e
    rw [hk] at hg
    cases hg
theorem Byt.text {w : World} {B : Nat} {v : Value} {l : List UInt8} (h : Byt w B v l) : (convert 91 9 v).run Tryz.prog w = .ok (.string ⟨l.toArray⟩) w := by
  have hc := @World.ownsRow.cells _ _ _ _ _ _ _ h
  rcases h.2 with ⟨rfl, h0⟩ | ⟨g, cap, cur, rfl, r⟩
  · obtain rfl : l = [] := List.eq_nil_of_length_eq_zero h0
    exact run_convert_bytes_nil w 91 5 Tryz.underlying91 Tryz.underlying5 0 0 9 Tryz.underlying9
  · refine run_convert_bytes_back w 91 9 5 ⟨g, 0, none⟩ cap l Tryz.underlying91 Tryz.underlying5 Tryz.underlying9 (fun j hj => ?_)
    exact hc rfl j _ (by rw [bv_get, List.getElem?_eq_getElem hj]; rfl)
theorem Byt.byte {w : World} {B : Nat} {v : Value} {o : List UInt8} {c : UInt8} {R : Nat} (hR : R = c.toNat) (h : w.ownsRow B 5 1 v (o.length + 1) (bv o ++ [Value.int .u8 (R : Int)])) : Byt w B v (o ++ [c]) := by
  subst hR
  unfold Byt
  rw [List.length_append, bv_app]
  exact h
/-- behind an append the range stands where it stood -/
theorem AtB.grown {s : ByteArray} {w wr w1 : World} {B it pos : Nat} {v : Value} {l : List UInt8} {B' : Nat} (h : AtB s B it w wr pos) (ho : Byt wr B' v l) (hB : B ≤ B') {o : Obj} (hg : (wr.alloc o).grownBy w1 v.ownBlock) : AtB s B it w w1 pos := by
  have h5 := h.alloc o
  refine ⟨h.le, (hg.block it h5.lt (own_ne_iter ho h.blk)).trans h5.blk, ?_, h.ge⟩
  exact h5.below.grown hg (by have := h5.lt; have := h5.ge; omega) (fun k hk => Nat.le_trans hB (World.ownsRow.lt ho k hk).1)
theorem one_new (w : World) (x : Value) (T : TypeId) (g : Nat) (hg : g = w.heap.size) : ∀ ad, some (⟨g, 0, none⟩ : Addr) = some ad → ∀ j u, [x][j]? = some u → (w.alloc (.cells #[x] T (0, 0))).cell? (ad.add j) = some u := by
  subst hg
  rintro ad ⟨⟩ j u hu
  rw [add0, at_cell (at_new w _)]
  simpa using hu
theorem info_u8 : (Tryz.prog.info? 5).map (fun i => (i.zero, i.size, i.bytes)) = some (some (.int .u8 0), 1, 1) := by kernel_rfl

def UnqPost (s : ByteArray) (w : World) (e : Ending) (w' : World) : Prop :=
  ∃ (t : List UInt8) (n : Nat), e = .returned (.tuple #[.string ⟨t.toArray⟩, .int .i64 n]) ∧ Below w.heap.size w w' ∧ (unq false (s.data.toList.drop 1) = none ∧ n = 0 ∨ ∃ m, unq false (s.data.toList.drop 1) = some (t, m) ∧ n = m + 1)

structure UnqAt (p : ByteArray) (w wr : World) (b : Bool) (pos : Nat) (acc : List UInt8) (v : Value) : Prop where
  at_ : AtB p w.heap.size w.heap.size w wr pos
  own : Byt wr (w.heap.size + 1) v acc
  len : acc.length ≤ pos
  left : unq false p.data.toList = (unq b (p.data.toList.drop pos)).map fun x => (acc ++ x.1, pos + x.2)
theorem UnqAt.none_ {s p : ByteArray} {w wr w' : World} {b : Bool} {pos : Nat} {acc : List UInt8} {v : Value} (h : UnqAt p w wr b pos acc v) (hp : p.data.toList = s.data.toList.drop 1) (hn : unq b (p.data.toList.drop pos) = none) (hb : Below w.heap.size w w') : UnqPost s w (.returned (.tuple #[.string ⟨#[]⟩, .int .i64 0])) w' :=
  ⟨[], 0, rfl, hb, .inl ⟨by rw [← hp, h.left, hn]; rfl, rfl⟩⟩

theorem UnqAt.push {p : ByteArray} {w wr W w1 : World} {b : Bool} {pos R : Nat} {acc : List UInt8} {v v' : Value} {c : UInt8} {o : Obj} (h : UnqAt p w wr b pos acc v) (hl : unq b (p.data.toList.drop pos) = (unq false (p.data.toList.drop (pos + 1))).map fun x => (c :: x.1, x.2 + 1))
    (hat : AtB p w.heap.size w.heap.size w W (pos + 1)) (ho : Byt W (w.heap.size + 1) v acc) (hR : R = c.toNat) (hown : w1.ownsRow (w.heap.size + 1) 5 1 v' (acc.length + 1) (bv acc ++ [Value.int .u8 (R : Int)])) (hg : (W.alloc o).grownBy w1 v.ownBlock) : UnqAt p w w1 false (pos + 1) (acc ++ [c]) v' :=
  ⟨hat.grown ho (Nat.le_succ _) hg, Byt.byte hR hown, by have := h.len; rw [List.length_append, List.length_singleton]; omega, by
    rw [h.left, hl, Option.map_map]; congr 1; funext x; simp; omega⟩

set_option maxRecDepth 100000 in
set_option maxHeartbeats 4000000 in
theorem unquote_calls (s : ByteArray) (h1 : 1 ≤ s.size) (hs : s.size ≤ 1099511627776) (w : World) :
    Calls Tryz.prog 110 #[.string s] w (UnqPost s w) := by
  obtain ⟨i0, hi, hz0, hz1, hz2⟩ := info_parts info_u8
  obtain ⟨p, hps, hpl, hpw⟩ := from_of s 1 h1
  have hpw1 : ∀ W, (Instr.sliceAt 9 (.string s) (some (.int .i64 1)) none none).run Tryz.prog W = .ok (.string p) W := hpw
  have HP := Lib.hid hpl
  clear hpl hpw
  go_enter Tryz.func110, Tryz.ntmps110
  go_wp2_with fail
  go_loopw [4, 5] (fun v n wr => ∃ (b : Bool) (pos : Nat) (acc : List UInt8), n = .bool b ∧ UnqAt p w wr b pos acc v) (fun _ _ wr => p.size - wr.iterPos w.heap.size)
  case atStart => exact ⟨false, 0, [], rfl, ⟨Nat.zero_le _, World.iter_heap w p 0, (Below.refl _ _).alloc (Nat.le_refl _) _, Nat.le_refl _⟩, World.ownsRow_nil _ _ _ _, Nat.le_refl _, by simp⟩
  case round =>
    obtain ⟨b, pos, acc, rfl, hA⟩ := hrel
    rename World => wr
    have hle := hA.at_.le
    have hm := hA.at_.pos
    have hacc := hA.len
    by_cases hp : pos < p.size
    · obtain ⟨R, K, hg⟩ := sign_of p pos hp
      have hnx := fun ty => hg.next hA.at_.blk ty
      have hat := hA.at_.next hg
      have HA2 := Lib.hid hat
      have HO := Lib.hid (hA.own.iterAt hA.at_.blk (pos + K))
      have HL := Lib.hid hg.low
      have HH := Lib.hid hg.high
      have HD := Lib.hid (drop_at p pos hp)
      have HA := Lib.hid hA
      generalize wr.iterAt w.heap.size p (pos + K) = W at *
      clear hA hg hat
      obtain ⟨c, hc⟩ : ∃ c, p[pos] = c := ⟨_, rfl⟩
      rw [hc] at HL HH HD
      clear hc
      by_cases hq : qb R = true
      · have hq2 := (qb_iff _).1 hq
        have hlow : c.toNat < 128 := by
          by_cases h : c.toNat < 128
          · exact h
          · have := (HH.out (by omega)).1; omega
        obtain ⟨hR, hK⟩ := HL.out hlow
        subst hK
        have HC := Lib.hid hR
        have hlt : R < 128 := by omega
        have hqc : qb c.toNat = true := by rw [← hR]; exact hq
        clear HL HH hR hlow hq2
        have hwrap : IntKind.u8.wrap (R : Int) = R := by
          simp [IntKind.wrap, IntKind.bits, IntKind.signed]; omega
        cases b
        · by_cases h92 : R = 92
          · subst h92
            have HN := Lib.hid (show UnqAt p w W true (pos + 1) acc _ from ⟨HA2.out, HO.out, by omega, by rw [HA.out.left, HD.out, unq_slash HC.out.symm, Option.map_map]; congr 1; funext x; simp; omega⟩)
            clear HC hqc
            go_wp2_with (go_at_call 135; refine (quotable_calls 92 _).mono ?_; rintro e w' ⟨rfl, rfl⟩; rw [hq])
            go_roundw
            case rel => exact ⟨true, pos + 1, acc, rfl, HN.out⟩
            case measure => rw [HA2.out.pos, hm]; omega
          · have b92 : ((R : Int) == 92) = false := by simp; omega
            by_cases h34 : R = 34
            · subst h34
              have HN := Lib.hid (show unq false p.data.toList = some (acc, pos + 1) by rw [HA.out.left, HD.out, unq_end HC.out.symm]; simp)
              have htx := HO.out.text
              have k0 : (pos : Int) ≤ 1099511627776 := by omega
              clear HC hqc h92
              go_wp2_with (go_at_call 135; refine (quotable_calls 34 _).mono ?_; rintro e w' ⟨rfl, rfl⟩; rw [hq])
              go_ret2
              exact ⟨acc, pos + 2, rfl, HA2.out.below, .inr ⟨pos + 1, by rw [← HP.out]; exact HN.out, rfl⟩⟩
            · have b34 : ((R : Int) == 34) = false := by simp; omega
              have heb : eb c.toNat = false := by rw [← HC.out]; simp [eb, h34, h92]
              have HPL := Lib.hid (show unq false (p.data.toList.drop pos) = (unq false (p.data.toList.drop (pos + 1))).map fun x => (c :: x.1, x.2 + 1) by rw [HD.out, unq_plain hqc heb])
              have ho := HO.out
              have hlt5 := HA2.out.lt
              go_wp2_with (first
                | (go_at_call 135; refine (quotable_calls R _).mono ?_; rintro e w' ⟨rfl, rfl⟩; rw [hq])
                | (at_builtin; refine Own.append_any rfl (.tmp 15) (.tmp 18) 91 rfl (w.heap.size + 1) 5 i0 _ 1 1 Tryz.underlying91 hi hz0 hz1 hz2 rfl (by decide) _ _ _ rfl (World.ownsRow.alloc ho _) _ 1 1 [.int .u8 (R : Int)] rfl (fun h => nomatch h) rfl (one_new _ _ _ _ (by simp)) (by simp [Value.oneCell']) (by unfold maxLen; omega) (by omega) (by simp; omega) ?_; intro v' w1 hown1 hgrow1; have HN := Lib.hid (HA.out.push HPL.out HA2.out ho HC.out hown1 hgrow1); clear hown1 hgrow1))
              go_roundw
              case rel => exact ⟨false, pos + 1, _, rfl, HN.out⟩
              case measure => rw [HN.out.at_.pos, hm]; omega
        · cases heb : eb R
          · have HN := Lib.hid (show unq true (p.data.toList.drop pos) = none by rw [HD.out]; exact unq_lone (by rw [← HC.out]; exact heb) _)
            clear HC hqc
            go_wp2_with (first
              | (go_at_call 135; refine (quotable_calls R _).mono ?_; rintro e w' ⟨rfl, rfl⟩; rw [hq])
              | (go_at_call 136; refine (escaped_calls R _).mono ?_; rintro e w' ⟨rfl, rfl⟩; rw [heb]))
            go_ret2
            exact HA.out.none_ HP.out HN.out HA2.out.below
          · have HPL := Lib.hid (show unq true (p.data.toList.drop pos) = (unq false (p.data.toList.drop (pos + 1))).map fun x => (c :: x.1, x.2 + 1) by rw [HD.out, unq_esc (by rw [← HC.out]; exact heb)])
            have ho := HO.out
            have hlt5 := HA2.out.lt
            go_wp2_with (first
                | (go_at_call 135; refine (quotable_calls R _).mono ?_; rintro e w' ⟨rfl, rfl⟩; rw [hq])
                | (go_at_call 136; refine (escaped_calls R _).mono ?_; rintro e w' ⟨rfl, rfl⟩; rw [heb])
                | (at_builtin; refine Own.append_any rfl (.tmp 15) (.tmp 18) 91 rfl (w.heap.size + 1) 5 i0 _ 1 1 Tryz.underlying91 hi hz0 hz1 hz2 rfl (by decide) _ _ _ rfl (World.ownsRow.alloc ho _) _ 1 1 [.int .u8 (R : Int)] rfl (fun h => nomatch h) rfl (one_new _ _ _ _ (by simp)) (by simp [Value.oneCell']) (by unfold maxLen; omega) (by omega) (by simp; omega) ?_; intro v' w1 hown1 hgrow1; have HN := Lib.hid (HA.out.push HPL.out HA2.out ho HC.out hown1 hgrow1); clear hown1 hgrow1))
            go_roundw
            case rel => exact ⟨false, pos + 1, _, rfl, HN.out⟩
            case measure => rw [HN.out.at_.pos, hm]; omega
      · have hq' : qb R = false := by simpa using hq
        have hqc : qb c.toNat = false := by
          by_cases h : c.toNat < 128
          · rw [← (HL.out h).1]; exact hq'
          · simp [qb]; omega
        have HN := Lib.hid (show unq b (p.data.toList.drop pos) = none by rw [HD.out]; exact unq_bad hqc _ _)
        clear HL HH hq hqc
        go_wp2_with (go_at_call 135; refine (quotable_calls R _).mono ?_; rintro e w' ⟨rfl, rfl⟩; rw [hq'])
        go_ret2
        exact HA.out.none_ HP.out HN.out HA2.out.below
    · have hnx := fun ty => Lib.run_next_end_at (P := Tryz.prog) wr w.heap.size p pos ty hA.at_.blk hp
      have HA := Lib.hid hA
      have HN := Lib.hid (show unq b (p.data.toList.drop pos) = none by rw [drop_all p (by omega)]; exact unq_nil b)
      clear hA
      go_wp2_with fail
      go_ret2
      exact HA.out.none_ HP.out HN.out HA.out.at_.below
end Go.Proofs.YtajfdachpdkbcaaGreatDoor.Lex
end

section
namespace Go.Proofs.YtajfdachpdkbcaaGreatDoor.Lex
open Go.RowKit Go.Proofs.YtajfdachpdkbcaaGreatDoor.Own

def quoT (l : List UInt8) : List UInt8 := if allq l = true then 34 :: esc l ++ [34] else []
theorem quoT_yes {l : List UInt8} (h : allq l = true) : quoT l = 34 :: esc l ++ [34] := if_pos h
theorem quoT_no {l : List UInt8} (h : allq l = false) : quoT l = [] := if_neg (by simp [h])
theorem take_at (s : ByteArray) (pos : Nat) (h : pos < s.size) : s.data.toList.take (pos + 1) = s.data.toList.take pos ++ [s[pos]'h] :=
  List.take_succ_eq_append_getElem (l := s.data.toList) (i := pos) h
theorem allq_app (l m : List UInt8) : allq (l ++ m) = (allq l && allq m) := by simp [allq]
theorem allq_bad {s : ByteArray} {pos : Nat} (h : pos < s.size) (hq : qb (s[pos]'h).toNat = false) : allq s.data.toList = false := by
  rw [allq, List.all_eq_false]
  exact ⟨s[pos], Array.mem_toList_iff.2 (Array.getElem_mem (xs := s.data) h), by simp [hq]⟩
theorem Byt.byte' {w : World} {B : Nat} {v : Value} {o : List UInt8} {c : UInt8} {R : Int} (hR : R = c.toNat) (h : w.ownsRow B 5 1 v (o.length + 1) (bv o ++ [Value.int .u8 R])) : Byt w B v (o ++ [c]) := by
  subst hR
  exact Byt.byte rfl h
theorem Byt.alloc {w : World} {B : Nat} {v : Value} {o : List UInt8} (h : Byt w B v o) (x : Obj) : Byt (w.alloc x) B v o := World.ownsRow.alloc h x

structure QuoAt (s : ByteArray) (w wr : World) (pos : Nat) (v : Value) : Prop where
  at_ : AtB s w.heap.size (w.heap.size + 1) w wr pos
  own : Byt wr w.heap.size v (34 :: esc (s.data.toList.take pos))
  all : allq (s.data.toList.take pos) = true

set_option maxRecDepth 100000 in
set_option maxHeartbeats 4000000 in
theorem quote_calls (s : ByteArray) (hs : s.size ≤ 1099511627776) (w : World) :
    Calls Tryz.prog 176 #[.string s] w fun e w' => e = .returned (.tuple #[.string ⟨(quoT s.data.toList).toArray⟩, .bool (allq s.data.toList)]) ∧ Below w.heap.size w w' := by
  obtain ⟨i0, hi, hz0, hz1, hz2⟩ := info_parts info_u8
  go_enter Tryz.func176, Tryz.ntmps176
  go_wp2_with fail
  go_loopw [4] (fun v wr => ∃ (pos : Nat), QuoAt s w wr pos v) (fun _ wr => s.size - wr.iterPos (w.heap.size + 1))
  case atStart =>
    refine ⟨0, ⟨Nat.zero_le _, ?_, ((Below.refl _ _).alloc (Nat.le_refl _) _).alloc (by simp) _, by omega⟩, ?_, rfl⟩
    · have := World.iter_heap (w.alloc (.cells #[.int .u8 34] 5 (0, 0))) s 0
      simpa using this
    · show Byt _ w.heap.size _ (34 :: esc [])
      rw [esc_nil]
      refine World.ownsRow.alloc ?_ (.stringIter s 0)
      exact ⟨rfl, .inr ⟨_, 1, #[.int .u8 34], rfl, Nat.le_refl _, at_new w _, Nat.le_refl _, by unfold maxLen; omega, rfl, rfl⟩⟩
  case round =>
    obtain ⟨pos, hA⟩ := hrel
    rename World => wr
    have hle := hA.at_.le
    have hm := hA.at_.pos
    by_cases hp : pos < s.size
    · obtain ⟨R, K, hg⟩ := sign_of s pos hp
      have hnx := fun ty => hg.next hA.at_.blk ty
      have hat := hA.at_.next hg
      have HA2 := Lib.hid hat
      have HO := Lib.hid (hA.own.iterAt hA.at_.blk (pos + K))
      have HAL := Lib.hid hA.all
      have HL := Lib.hid hg.low
      have HH := Lib.hid hg.high
      have HT := Lib.hid (take_at s pos hp)
      have HB := Lib.hid (fun h => allq_bad (s := s) hp h)
      have hel : (esc (s.data.toList.take pos)).length ≤ 2 * pos := Nat.le_trans (esc_len _) (by rw [List.length_take]; omega)
      generalize wr.iterAt (w.heap.size + 1) s (pos + K) = W at *
      clear hA hg hat
      obtain ⟨c, hc⟩ : ∃ c, s[pos] = c := ⟨_, rfl⟩
      rw [hc] at HL HH HT HB
      clear hc
      by_cases hq : qb R = true
      · have hq2 := (qb_iff _).1 hq
        have hlow : c.toNat < 128 := by
          by_cases h : c.toNat < 128
          · exact h
          · have := (HH.out (by omega)).1; omega
        obtain ⟨hR, hK⟩ := HL.out hlow
        subst hK
        have HC := Lib.hid hR
        have hlt : R < 128 := by omega
        have hqc : qb c.toNat = true := by rw [← hR]; exact hq
        have hwrap : IntKind.u8.wrap (R : Int) = R := by
          simp [IntKind.wrap, IntKind.bits, IntKind.signed]; omega
        have HAL2 := Lib.hid (show allq (s.data.toList.take (pos + 1)) = true by rw [HT.out, allq_app, HAL.out, allq_cons, hqc]; rfl)
        have hlt5 := HA2.out.lt
        have hl0 : (34 :: esc (s.data.toList.take pos)).length ≤ 2 * pos + 1 := by simp; omega
        clear HL HH HB hR hlow hq2 hqc
        obtain ⟨o, ho0⟩ : ∃ o, 34 :: esc (s.data.toList.take pos) = o := ⟨_, rfl⟩
        have ho := HO.out
        rw [ho0] at ho hl0
        cases heb : eb R
        · have HE := Lib.hid (show 34 :: esc (s.data.toList.take (pos + 1)) = o ++ [c] by rw [HT.out, esc_app, esc_no (by rw [← HC.out]; exact heb), ← ho0]; rfl)
          have HO0 := Lib.hid ho0
          clear ho0 HO hel
          go_wp2_with (first
            | (go_at_call 135; refine (quotable_calls R _).mono ?_; rintro e w' ⟨rfl, rfl⟩; rw [hq])
            | (go_at_call 136; refine (escaped_calls R _).mono ?_; rintro e w' ⟨rfl, rfl⟩; rw [heb])
            | (at_builtin; refine Own.append_any rfl (.tmp 21) (.tmp 24) 91 rfl w.heap.size 5 i0 _ 1 1 Tryz.underlying91 hi hz0 hz1 hz2 rfl (by decide) _ _ _ rfl (World.ownsRow.alloc ho _) _ 1 1 [.int .u8 (R : Int)] rfl (fun h => nomatch h) rfl (one_new _ _ _ _ (by simp)) (by simp [Value.oneCell']) (by unfold maxLen; omega) (by omega) (by simp; omega) ?_; intro v' w1 hown1 hgrow1; have HN := Lib.hid (show QuoAt s w w1 (pos + 1) v' from ⟨HA2.out.grown ho (Nat.le_refl _) hgrow1, by rw [HE.out]; exact Byt.byte HC.out hown1, HAL2.out⟩); clear hown1 hgrow1))
          go_roundw
          case rel => exact ⟨pos + 1, HN.out⟩
          case measure => rw [HN.out.at_.pos, hm]; omega
        · have HE := Lib.hid (show 34 :: esc (s.data.toList.take (pos + 1)) = (o ++ [92]) ++ [c] by rw [HT.out, esc_app, esc_yes (by rw [← HC.out]; exact heb), ← ho0]; simp)
          have HO0 := Lib.hid ho0
          clear ho0 HO hel
          go_wp2_with (first
            | (go_at_call 135; refine (quotable_calls R _).mono ?_; rintro e w' ⟨rfl, rfl⟩; rw [hq])
            | (go_at_call 136; refine (escaped_calls R _).mono ?_; rintro e w' ⟨rfl, rfl⟩; rw [heb])
            | (at_builtin; refine Own.append_any rfl (.tmp 18) (.tmp 19) 91 rfl w.heap.size 5 i0 _ 1 1 Tryz.underlying91 hi hz0 hz1 hz2 rfl (by decide) _ _ _ rfl (World.ownsRow.alloc ho _) _ 1 1 [.int .u8 92] rfl (fun h => nomatch h) rfl (one_new _ _ _ _ (by simp)) (by simp [Value.oneCell']) (by unfold maxLen; omega) (by omega) (by simp; omega) ?_; intro v5 w5 hown5 hgrow5; have HA5 := Lib.hid (HA2.out.grown ho (Nat.le_refl _) hgrow5); have ho5 := Byt.byte' (c := 92) rfl hown5; have hlt6 := HA5.out.lt; have hl5 : (o ++ [92]).length = o.length + 1 := (by simp); clear hown5 hgrow5)
            | (at_builtin; refine Own.append_any rfl (.tmp 21) (.tmp 24) 91 rfl w.heap.size 5 i0 _ 1 1 Tryz.underlying91 hi hz0 hz1 hz2 rfl (by decide) _ _ _ rfl (World.ownsRow.alloc ho5 _) _ 1 1 [.int .u8 (R : Int)] rfl (fun h => nomatch h) rfl (one_new _ _ _ _ (by simp)) (by simp [Value.oneCell']) (by unfold maxLen; omega) (by omega) (by simp; omega) ?_; intro v' w1 hown1 hgrow1; have HN := Lib.hid (show QuoAt s w w1 (pos + 1) v' from ⟨HA5.out.grown ho5 (Nat.le_refl _) hgrow1, by rw [HE.out]; exact Byt.byte HC.out hown1, HAL2.out⟩); clear hown1 hgrow1))
          go_roundw
          case rel => exact ⟨pos + 1, HN.out⟩
          case measure => rw [HN.out.at_.pos, hm]; omega
      · have hq' : qb R = false := by simpa using hq
        have hqc : qb c.toNat = false := by
          by_cases h : c.toNat < 128
          · rw [← (HL.out h).1]; exact hq'
          · simp [qb]; omega
        have HN := Lib.hid (HB.out hqc)
        clear HL HH HB hq hqc
        go_wp2_with (go_at_call 135; refine (quotable_calls R _).mono ?_; rintro e w' ⟨rfl, rfl⟩; rw [hq'])
        go_ret2
        exact ⟨by rw [quoT_no HN.out, HN.out]; rfl, HA2.out.below⟩
    · have hnx := fun ty => Lib.run_next_end_at (P := Tryz.prog) wr (w.heap.size + 1) s pos ty hA.at_.blk hp
      obtain rfl : pos = s.size := by omega
      have HAL := Lib.hid (show allq s.data.toList = true by have := hA.all; rwa [List.take_of_length_le (by rw [list_size]; omega)] at this)
      have ho := hA.own
      have HA2 := Lib.hid hA.at_
      rw [List.take_of_length_le (by rw [list_size]; omega)] at ho
      have hlt5 := HA2.out.lt
      have hl0 : (34 :: esc s.data.toList).length ≤ 2 * s.size + 1 := by have := esc_len s.data.toList; rw [list_size] at this; simp; omega
      have HQ := Lib.hid (quoT_yes HAL.out)
      obtain ⟨o, ho0⟩ : ∃ o, 34 :: esc s.data.toList = o := ⟨_, rfl⟩
      rw [ho0] at ho hl0 HQ
      clear hA ho0
      go_wp2_with (at_builtin; refine Own.append_any rfl (.tmp 26) (.tmp 27) 91 rfl w.heap.size 5 i0 _ 1 1 Tryz.underlying91 hi hz0 hz1 hz2 rfl (by decide) _ _ _ rfl (World.ownsRow.alloc ho _) _ 1 1 [.int .u8 34] rfl (fun h => nomatch h) rfl (one_new _ _ _ _ (by simp)) (by simp [Value.oneCell']) (by unfold maxLen; omega) (by omega) (by simp; omega) ?_; intro v' w1 hown1 hgrow1; have HN := Lib.hid (HA2.out.grown ho (Nat.le_refl _) hgrow1); have htx := (Byt.byte' (c := 34) rfl hown1).text; clear hown1 hgrow1)
      go_ret2
      exact ⟨by rw [HQ.out, HAL.out]; rfl, HN.out.below⟩

theorem empty_of {t : ByteArray} (h : t.size = 0) : t = ⟨#[]⟩ := by
  cases t with | mk d => cases d with | mk l => cases l with | nil => rfl | cons a r => simp [ByteArray.size] at h
theorem full_of {t : ByteArray} (h : t.size ≠ 0) : t.data.toList ≠ [] := by
  intro e; have := list_size t; rw [e] at this; simp at this; omega
theorem wordy_same (s : ByteArray) (w : World) (h : isW s.data.toList = true) : Calls Tryz.prog 117 #[.string s] w fun e w' => e = .returned (.bool true) ∧ Below w.heap.size w w' := by
  have := wordy_calls s w; rwa [h] at this
theorem held1 {w1 w5 : World} {b : Nat} {v : Value} (hb : Below w1.heap.size w1 w5) (hlt : b < w1.heap.size) (x : w1.cell? ⟨b, 1, none⟩ = some v) : Below w1.heap.size w1 w5 ∧ w5.cell? ⟨b, 1, none⟩ = some v :=
  ⟨hb, (hb.cell (p := ⟨b, 1, none⟩) hlt).trans x⟩
theorem below_drew {B : Nat} {a w : World} (h : Below B a w) {q : Nat} : Below B a (w.drewN q) := ⟨h.os, h.tape, h.output, h.size, h.block⟩

set_option maxRecDepth 100000 in
set_option maxHeartbeats 4000000 in
theorem put_calls (k : Int) (t : ByteArray) (ln : Int) (hs : t.size ≤ 1099511627776) (w : World) :
    Calls Tryz.prog 158 #[.agg #[.int .i64 k, .string t, .int .i64 ln]] w fun e w' => e = .returned (.tuple #[.string ⟨(ptT k t.data.toList).toArray⟩, .int .i64 (ptC k t.data.toList)]) ∧ Below w.heap.size w w' := by
  by_cases hout : k < 1 ∨ 5 < k
  · obtain ⟨e1, e2⟩ := ptC_out hout t.data.toList
    rw [e1, e2]
    have b1 : (k == 1) = false := by simp; omega
    have b2 : (k == 2) = false := by simp; omega
    have b3 : (k == 3) = false := by simp; omega
    have b4 : (k == 4) = false := by simp; omega
    have b5 : (k == 5) = false := by simp; omega
    clear hout e1 e2
    go_enter Tryz.func158, Tryz.ntmps158
    go_wp2_with fail
    go_ret2
    exact ⟨rfl, (Below.refl _ _).alloc (Nat.le_refl _) _⟩
  · have hk : k = 1 ∨ k = 2 ∨ k = 3 ∨ k = 4 ∨ k = 5 := by omega
    rcases hk with rfl | rfl | hk
    · obtain ⟨b, hb0⟩ : ∃ b, isW t.data.toList = b := ⟨_, rfl⟩
      have HW := Lib.hid (wordy_calls t)
      rw [hb0] at HW
      have HP := Lib.hid (show (⟨(ptT 1 t.data.toList).toArray⟩ : ByteArray) = toldT t b ∧ ptC 1 t.data.toList = toldC b by
        cases b
        · exact ⟨by rw [((ptC_word _).2 hb0).2]; rfl, ((ptC_word _).2 hb0).1⟩
        · exact ⟨by rw [((ptC_word _).1 hb0).2]; rfl, ((ptC_word _).1 hb0).1⟩)
      clear hb0
      go_enter Tryz.func158, Tryz.ntmps158
      go_wp2_with fail
      have hB1 : Below w.heap.size w (w.alloc (.cells #[.int .i64 1, .string t, .int .i64 ln] 151 (0, 0))) := (Below.refl _ _).alloc (Nat.le_refl _) _
      have x1 : (w.alloc (.cells #[.int .i64 1, .string t, .int .i64 ln] 151 (0, 0))).cell? ⟨w.heap.size, 1, none⟩ = some (.string t) := by rw [at_cell (at_new w _)]; rfl
      have hlt : w.heap.size < (w.alloc (.cells #[.int .i64 1, .string t, .int .i64 ln] 151 (0, 0))).heap.size := by simp
      generalize w.alloc (.cells #[.int .i64 1, .string t, .int .i64 ln] 151 (0, 0)) = w1 at *
      have HB1 := Lib.hid hB1
      clear hB1
      go_region_held3 (fun w' => Below w1.heap.size w1 w' ∧ w'.cell? ⟨w.heap.size, 1, none⟩ = some (.string t))
        (first
          | exact held1 (below_drew (Below.refl _ _)) hlt x1
          | exact held1 hb5 hlt x1)
        (first
          | (go_at_call 117; go_split_ands; refine (HW.out _).mono ?_; rintro e w5 ⟨rfl, hb5⟩; replace hb5 := Below.trans (by assumption) (hb5.mono (Below.size (by assumption))))
          | (go_at_call 175; refine (told_calls _ _ _).mono ?_; rintro e w6 ⟨rfl, rfl⟩))
      go_wp2_with fail
      go_ret2
      exact ⟨by rw [HP.out.1, HP.out.2]; rfl, HB1.out.trans (hb5.mono HB1.out.size)⟩
    · obtain ⟨b, hb0⟩ : ∃ b, allq t.data.toList = b := ⟨_, rfl⟩
      have HW := Lib.hid (quote_calls t hs)
      obtain ⟨q, hq0⟩ : ∃ q, quoT t.data.toList = q := ⟨_, rfl⟩
      rw [hb0, hq0] at HW
      have HP := Lib.hid (show (⟨(ptT 2 t.data.toList).toArray⟩ : ByteArray) = toldT ⟨q.toArray⟩ b ∧ ptC 2 t.data.toList = toldC b by
        subst hq0
        cases b
        · exact ⟨by rw [((ptC_quote _).2 hb0).2]; rfl, ((ptC_quote _).2 hb0).1⟩
        · exact ⟨by rw [((ptC_quote _).1 hb0).2, quoT_yes hb0]; rfl, ((ptC_quote _).1 hb0).1⟩)
      clear hb0 hq0
      have hB1 := Lib.hid ((Below.refl w.heap.size w).alloc (Nat.le_refl _) (.cells #[.int .i64 2, .string t, .int .i64 ln] 151 (0, 0)))
      go_enter Tryz.func158, Tryz.ntmps158
      go_wp2_with (first
        | (go_at_call 176; refine (HW.out _).mono ?_; rintro e w5 ⟨rfl, hb5⟩; replace hb5 := Lib.hid (hB1.out.trans (hb5.mono hB1.out.size)))
        | (go_at_call 175; refine (told_calls _ _ _).mono ?_; rintro e w6 ⟨rfl, rfl⟩))
      go_ret2
      exact ⟨by rw [HP.out.1, HP.out.2]; rfl, hb5.out⟩
    · have w1 : IntKind.i64.wrap 1 = 1 := by decide
      have w2 : IntKind.i64.wrap 2 = 2 := by decide
      have w3 : IntKind.i64.wrap 3 = 3 := by decide
      have c0 : ∀ W, (Instr.sliceAt 9 (.string ⟨#[123, 125, 59]⟩) (some (.int .i64 0)) (some (.int .i64 1)) none).run Tryz.prog W = .ok (.string ⟨#[123]⟩) W := fun W => cut_mid 9 Tryz.underlying9 ⟨#[123, 125, 59]⟩ 0 1 (by decide) (by decide) (by decide) W
      have c1 : ∀ W, (Instr.sliceAt 9 (.string ⟨#[123, 125, 59]⟩) (some (.int .i64 1)) (some (.int .i64 2)) none).run Tryz.prog W = .ok (.string ⟨#[125]⟩) W := fun W => cut_mid 9 Tryz.underlying9 ⟨#[123, 125, 59]⟩ 1 2 (by decide) (by decide) (by decide) W
      have c2 : ∀ W, (Instr.sliceAt 9 (.string ⟨#[123, 125, 59]⟩) (some (.int .i64 2)) (some (.int .i64 3)) none).run Tryz.prog W = .ok (.string ⟨#[59]⟩) W := fun W => cut_mid 9 Tryz.underlying9 ⟨#[123, 125, 59]⟩ 2 3 (by decide) (by decide) (by decide) W
      by_cases h0 : t.size = 0
      · obtain rfl := empty_of h0
        rcases hk with rfl | rfl | rfl
        all_goals
          go_enter Tryz.func158, Tryz.ntmps158
          go_wp2_with fail
          go_quiet ((go_at_call 175; exact Calls.quiet_of_same ((told_calls _ _ _).mono fun _ _ h => h)))
          go_wp2_with fail
          go_ret2
          exact ⟨rfl, below_drew ((Below.refl _ _).alloc (Nat.le_refl _) _)⟩
      · have hne : t.toList.isEmpty = false := by
          rw [ByteArray.toList_eq]
          cases h : t.data.toList with
          | nil => exact absurd h (full_of h0)
          | cons a r => rfl
        have hne2 : (t.toList == []) = false := by
          cases h : t.toList with
          | nil => rw [h] at hne; cases hne
          | cons a r => rfl
        have HP := Lib.hid (ptC_mark (k := k) (by omega) (by omega) (full_of h0))
        clear h0
        rcases hk with rfl | rfl | rfl
        all_goals
          rw [HP.out.1, HP.out.2]
          go_enter Tryz.func158, Tryz.ntmps158
          go_wp2_with fail
          go_quiet ((go_at_call 175; exact Calls.quiet_of_same ((told_calls _ _ _).mono fun _ _ h => h)))
          go_wp2_with fail
          go_ret2
          exact ⟨rfl, below_drew ((Below.refl _ _).alloc (Nat.le_refl _) _)⟩
end Go.Proofs.YtajfdachpdkbcaaGreatDoor.Lex
end

section
namespace Go.Proofs.YtajfdachpdkbcaaGreatDoor.Tree
open Go.RowKit Go.Proofs.YtajfdachpdkbcaaGreatDoor.Own Go.Proofs.YtajfdachpdkbcaaGreatDoor.Rw Go.Proofs.YtajfdachpdkbcaaGreatDoor.Lex

theorem argument_calls (s : ByteArray) (hs : s.size ≤ 1099511627776) (w : World) :
    Calls Tryz.prog 125 #[.string s] w fun e w' => e = .returned (.tuple #[.string ⟨(argT s.data.toList).toArray⟩, .int .i64 (argC s.data.toList)]) ∧ Below w.heap.size w w' := by
  have HP := Lib.hid fun k => put_calls k s 0 hs
  have HW := Lib.hid (wordy_calls s)
  unfold argT argC argK
  cases h : isW s.data.toList with
  | false =>
    rw [h] at HW
    have hp := Lib.hid (HP.out 2)
    rw [if_neg (by simp)]
    generalize ptT 2 s.data.toList = t at hp ⊢
    generalize ptC 2 s.data.toList = c at hp ⊢
    clear HP h
    go_enter Tryz.func125, Tryz.ntmps125
    go_wp2_with (first
      | (go_at_call 117; refine (HW.out _).mono ?_; rintro e w1 ⟨rfl, hb1⟩; have B1 := Lib.hid hb1; clear hb1)
      | (go_at_call 158; refine (hp.out _).mono ?_; rintro e w2 ⟨rfl, hb2⟩))
    go_ret2
    exact ⟨rfl, B1.out.trans (hb2.mono B1.out.size)⟩
  | true =>
    rw [h] at HW
    have hp := Lib.hid (HP.out 1)
    rw [if_pos rfl]
    generalize ptT 1 s.data.toList = t at hp ⊢
    generalize ptC 1 s.data.toList = c at hp ⊢
    clear HP h
    go_enter Tryz.func125, Tryz.ntmps125
    go_wp2_with (first
      | (go_at_call 117; refine (HW.out _).mono ?_; rintro e w1 ⟨rfl, hb1⟩; have B1 := Lib.hid hb1; clear hb1)
      | (go_at_call 158; refine (hp.out _).mono ?_; rintro e w2 ⟨rfl, hb2⟩))
    go_ret2
    exact ⟨rfl, B1.out.trans (hb2.mono B1.out.size)⟩

theorem join_row {w : World} {p : Option Addr} {n c : Nat} {ts : List (List UInt8)} (h : w.ownsRow 0 9 1 (.slice p n c) n (strs ts)) (hn : n = ts.length) (h0 : 0 < n) (hN : n ≤ 1000000) (hlen : (Lib.join ts [32]).length ≤ 140737488355328) :
    Calls Tryz.prog 126 #[.slice p n c, .string ⟨#[32]⟩] w fun e w' => e = .returned (.string ⟨(Lib.join ts [32]).toArray⟩) ∧ Below w.heap.size w w' := by
  obtain ⟨g, rfl, hg, c0⟩ := text_at h (i := 0) (by omega)
  obtain ⟨_, _, hv, hc, _⟩ := own_slice h
  injection hv with _ _ e
  subst e
  have hm : (ts.map fun t => (⟨t.toArray⟩ : ByteArray)).map (·.data.toList) = ts := by rw [List.map_map]; exact (List.map_congr_left (g := fun t => t) fun _ _ => rfl).trans (List.map_id' ts)
  have hl : (ts.map fun t => (⟨t.toArray⟩ : ByteArray)).length = ts.length := List.length_map ..
  have := Tryz.strings_Join g 0 c (ts.map fun t => (⟨t.toArray⟩ : ByteArray)) ⟨#[32]⟩ w (by
    intro j x hx
    obtain ⟨hj, rfl⟩ := List.getElem?_eq_some_iff.1 hx
    rw [hl] at hj
    obtain ⟨g', e', _, cj⟩ := text_at h hj
    cases e'
    rw [Nat.zero_add, List.getElem_map]
    exact cj) hg (by omega) (by omega) (by rw [hm]; exact hlen)
  rw [hm, hl, ← hn] at this
  exact this
theorem okArgs_snoc (al : List (List UInt8)) (a : List UInt8) : okArgs (al ++ [a]) = (okArgs al && (argC a == 0)) := by simp [okArgs]
theorem okArgs_bad {al : List (List UInt8)} {k : Nat} (h : k < al.length) (e : argC al[k] ≠ 0) : okArgs al = false := by
  cases h2 : okArgs al with
  | false => rfl
  | true => exact absurd (by simpa using (List.all_eq_true.1 h2) _ (List.getElem_mem h)) e
theorem awt_at {al : List (List UInt8)} {k : Nat} (h : k < al.length) : 2 * al[k].length + 3 ≤ awt al := by
  induction al generalizing k with
  | nil => simp at h
  | cons a al ih =>
    rw [awt_cons]
    cases k with
    | zero => simp only [List.getElem_cons_zero]; omega
    | succ k =>
      have := ih (k := k) (by simpa using h)
      simp only [List.getElem_cons_succ]; omega
theorem awt_le : ∀ al : List (List UInt8), al.length ≤ awt al
  | [] => by simp [awt]
  | a :: al => by have := awt_le al; rw [awt_cons, List.length_cons]; omega

/-- what head found of the arguments -/
structure HdAt (w wr : World) (key : List UInt8) (al : List (List UInt8)) (k : Nat) (v : Value) : Prop where
  own : wr.ownsRow w.heap.size 9 1 v (k + 1) (strs (key :: (al.take k).map argT))
  below : Below w.heap.size w wr
  ok : okArgs (al.take k) = true
theorem HdAt.step {w wr w5 w6 w1 : World} {key : List UInt8} {al : List (List UInt8)} {k : Nat} {v v' : Value} (h : HdAt w wr key al k v) (hk : k < al.length) (hb : Below wr.heap.size wr w5) (hb6 : Below w5.heap.size w5 w6)
    (hc : argC al[k] = 0) (ho : w1.ownsRow w.heap.size 9 1 v' (k + 1 + 1) (strs (key :: (al.take k).map argT) ++ [.string ⟨(argT al[k]).toArray⟩])) (hg : w6.grownBy w1 v.ownBlock) : HdAt w w1 key al (k + 1) v' := by
  have hs := h.below.size
  have hs5 := hb.size
  have hs6 := hb6.size
  refine ⟨?_, ?_, ?_⟩
  · rw [List.take_succ_eq_append_getElem hk, List.map_append, ← List.cons_append, strs_app]; exact ho
  · exact ((h.below.trans (hb.mono hs)).trans (hb6.mono (by omega))).grown hg (by omega) fun i e => (World.ownsRow.lt h.own i e).1
  · rw [List.take_succ_eq_append_getElem hk, okArgs_snoc, h.ok, hc]; rfl

set_option maxRecDepth 100000 in
set_option maxHeartbeats 4000000 in
theorem head_calls (x : Nd) (w : World) (pa pl : Option Addr) (ca cl : Nat) (ha : w.ownsRow 0 9 1 (.slice pa x.args.length ca) x.args.length (strs x.args)) (hsz : x.key.length + awt x.args ≤ 1099511627776) :
    Calls Tryz.prog 90 #[ndv x pa ca pl cl] w fun e w' => e = .returned (.tuple #[.string ⟨((headT x.key x.args).getD []).toArray⟩, .bool (headT x.key x.args).isSome]) ∧ Below w.heap.size w w' := by
  obtain ⟨i0, hi, hz0, hz1, hz2⟩ := info_parts (show (Tryz.prog.info? 9).map (fun i => (i.zero, i.size, i.bytes)) = some (some (.string ⟨#[]⟩), 1, 16) by kernel_rfl)
  have HA := Lib.hid ha
  have hal := awt_le x.args
  clear ha
  unfold ndv
  obtain ⟨key, al, bx, lx, nx⟩ := x
  simp only [Nd.key, Nd.args, Nd.block, Nd.list, Nd.line] at HA hsz hal ⊢
  have HW := Lib.hid (wordy_calls ⟨key.toArray⟩)
  rw [show (⟨key.toArray⟩ : ByteArray).data.toList = key from rfl] at HW
  obtain ⟨_, _, hv, hc1, hm1⟩ := own_slice HA.out
  injection hv with e1 z1 e2
  subst e1 e2
  clear z1
  unfold maxLen at hm1
  have HSZ := Lib.hid hsz
  have hks : key.length ≤ 1099511627776 := by omega
  have han : al.length ≤ 1099511627776 := by omega
  clear hsz hal
  obtain ⟨n, hn⟩ : ∃ n, n = al.length := ⟨_, rfl⟩
  rw [← hn] at HA hc1 han ⊢
  have HN := Lib.hid hn
  clear hn
  cases hk : isW key with
  | false =>
    have HT := Lib.hid (show headT key al = none by unfold headT; rw [if_neg (by simp [hk])])
    rw [hk] at HW
    go_enter Tryz.func90, Tryz.ntmps90
    go_wp2_with (go_at_call 117; refine (HW.out _).mono ?_; rintro e w1 ⟨rfl, hb1⟩; have B1 := Lib.hid (((Below.refl w.heap.size w).alloc (Nat.le_refl _) _).trans (hb1.mono (by simp))); clear hb1)
    go_ret2
    exact ⟨by rw [HT.out]; rfl, B1.out⟩
  | true =>
    rw [hk] at HW
    by_cases h16 : 16 < n
    · have q1 : (16 : Int) < (n : Int) := by omega
      have HT := Lib.hid (show headT key al = none by unfold headT; rw [if_neg (by rw [← HN.out]; omega)])
      go_enter Tryz.func90, Tryz.ntmps90
      go_wp2_with (go_at_call 117; refine (HW.out _).mono ?_; rintro e w1 ⟨rfl, hb1⟩; have n1 := (hb1.block _ (by simp)).trans (at_new w _); obtain ⟨⟨x0, x1, x2, x3, x4⟩, -⟩ := row5 n1; have B1 := Lib.hid (((Below.refl w.heap.size w).alloc (Nat.le_refl _) _).trans (hb1.mono (by simp))); clear hb1 n1)
      go_ret2
      exact ⟨by rw [HT.out]; rfl, B1.out⟩
    · have q1 : ¬ (16 : Int) < (n : Int) := by omega
      have HT := Lib.hid (show headT key al = if okArgs al = true then some (Lib.join (key :: al.map argT) [32]) else none by
        unfold headT
        cases okArgs al
        · rw [if_neg (by simp), if_neg (by simp)]
        · rw [if_pos ⟨hk, by rw [← HN.out]; omega, rfl⟩, if_pos rfl])
      clear hk
      go_enter Tryz.func90, Tryz.ntmps90
      go_wp2_with fail
      refine (HW.out _).mono ?_
      rintro e w1 ⟨rfl, hb1⟩
      have n1 := (hb1.block _ (by simp)).trans (at_new w _)
      obtain ⟨⟨x0, x1, x2, x3, x4⟩, -⟩ := row5 n1
      have hlt1 := at_lt n1
      have N1 := Lib.hid n1
      have B1 := Lib.hid (((Below.refl w.heap.size w).alloc (Nat.le_refl _) (.cells #[.string ⟨key.toArray⟩, .slice pa n ca, .bool bx, .slice pl lx.length cl, .int .i64 nx] 57)).trans (hb1.mono (by simp)))
      clear hb1 n1
      go_wp2_with fail
      go_loopw [4, 25] (fun tv i wr => ∃ k : Nat, k ≤ n ∧ i = .int .i64 k ∧ HdAt w wr key al k tv) (fun _ i _ => n - (intOf i).toNat)
      case atStart =>
        have := own_new w1 (strs [key]) 9 w1.heap.size rfl (by rw [strs_len]; unfold maxLen; simp)
        exact ⟨0, by omega, rfl, own_base this (by omega), B1.out.alloc (by omega) _, rfl⟩
      case round =>
        obtain ⟨k, hk, rfl, C⟩ := hrel
        rename World => wr
        have HC := Lib.hid C
        have hsz := C.below.size
        obtain ⟨tp, tc, rfl, -⟩ := own_slice C.own
        clear C
        rcases Nat.lt_or_eq_of_le hk with hlt | rfl
        · have hl1 : k < al.length := by rw [← HN.out]; exact hlt
          obtain ⟨g, rfl, hg, c0⟩ := text_at HA.out hl1
          have y0 := (HC.out.below.cell (p := ⟨g, k, none⟩) hg).trans c0
          have q2 : (k : Int) < (n : Int) := by omega
          have hal2 := awt_at hl1
          have HST := Lib.hid fun (w5 w6 w1 : World) (v' : Value) (hb : Below wr.heap.size wr w5) (hb6 : Below w5.heap.size w5 w6) (hc : argC al[k] = 0) (ho : w1.ownsRow w.heap.size 9 1 v' (k + 1 + 1) (strs (key :: (al.take k).map argT) ++ [.string ⟨(argT al[k]).toArray⟩])) (hg : w6.grownBy w1 (Value.slice tp (k + 1) tc).ownBlock) => HC.out.step hl1 hb hb6 hc ho hg
          have HBD := Lib.hid (okArgs_bad hl1)
          generalize al[k] = a at *
          have hsk : (⟨a.toArray⟩ : ByteArray).size ≤ 1099511627776 := by
            have := HSZ.out
            have e : (⟨a.toArray⟩ : ByteArray).size = a.length := by simp [ByteArray.size]
            omega
          have HAR := Lib.hid (argument_calls ⟨a.toArray⟩ hsk)
          rw [show (⟨a.toArray⟩ : ByteArray).data.toList = a from rfl] at HAR
          clear hsk hl1
          by_cases hc : argC a = 0
          · have HSTEP := Lib.hid fun w5 w6 w1 v' hb hb6 ho hg => HST.out w5 w6 w1 v' hb hb6 hc ho hg
            rw [hc] at HAR
            clear hc hal2 c0
            generalize argT a = t at *
            go_wp2_with (first
              | (go_at_call 125; refine (HAR.out _).mono ?_; rintro e w5 ⟨rfl, hb5⟩; have ho5 := own_below HC.out.own hb5; have HB5 := Lib.hid hb5; have h5 := hb5.size; clear hb5)
              | (at_builtin; go_loud (refine Own.append_any rfl (.tmp 36) (.tmp 38) 55 rfl w.heap.size 9 i0 _ 1 16 Tryz.underlying55 hi hz0 hz1 hz2 rfl (by decide) _ _ _ rfl (World.ownsRow.alloc ho5 _) _ 1 1 [.string ⟨t.toArray⟩] rfl (fun h => nomatch h) rfl (Rw.one_new _ _ _ _ rfl) (by simp [Value.oneCell']) (by unfold maxLen; omega) (by omega) (by simp; omega) ?_; intro v' w1 hown1 hgrow1; have C1 := Lib.hid (HSTEP.out _ _ _ _ HB5.out ((Below.refl _ _).alloc (Nat.le_refl _) _) hown1 hgrow1); clear hown1 hgrow1 ho5)))
            go_roundw
            case rel => exact ⟨k + 1, by omega, by go_num, C1.out⟩
            case measure => simp [intOf]; omega
          · have b1 : (argC a != 0) = true := by simpa using hc
            have HTN := Lib.hid (show headT key al = none by rw [HT.out, HBD.out hc]; rfl)
            clear hc hal2 c0 HST HBD
            generalize argC a = cc at *
            generalize argT a = t at *
            go_wp2_with (go_at_call 125; refine (HAR.out _).mono ?_; rintro e w5 ⟨rfl, hb5⟩)
            go_ret2
            exact ⟨by rw [HTN.out]; rfl, HC.out.below.trans (hb5.mono hsz)⟩
        · have HTS := Lib.hid (show headT key al = some (Lib.join (key :: al.map argT) [32]) by
            have := HC.out.ok
            rw [List.take_of_length_le (by have := HN.out; omega)] at this
            rw [HT.out, if_pos this])
          have hown := HC.out.own
          rw [List.take_of_length_le (by have := HN.out; omega)] at hown
          have HJ := Lib.hid (join_row (own_base hown (Nat.zero_le _)) (by have := HN.out; simp; omega) (by omega) (by omega) (by have := join_len key al; have := HSZ.out; omega))
          clear hown
          go_wp2_with (go_at_call 126; refine HJ.out.mono ?_; rintro e w5 ⟨rfl, hb5⟩)
          go_ret2
          exact ⟨by rw [HTS.out]; rfl, HC.out.below.trans (hb5.mono hsz)⟩
end Go.Proofs.YtajfdachpdkbcaaGreatDoor.Tree
end


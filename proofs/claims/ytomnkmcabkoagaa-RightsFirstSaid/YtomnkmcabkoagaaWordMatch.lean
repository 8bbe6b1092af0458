/-
  Layer 10 (word): the program's Match, walked: by goto.
-/
import Derived.Test.YtomnkmcabkoagaaWordRefIs
import Derived.ScopeJumps
import Derived.WalkMore
import Derived.BigQuiet
namespace Go.Proofs.Ytomnkmcabkoagaa.Word
open Go.RowKit

def MatchAt (p s : ByteArray) (w : World) (a' : Act) (w' : World) : Prop :=
  ∃ (i d b t : Nat) (I D B T : Int) (u12 u13 u14 u15 u16 u17 u18 u19 u20 u21 u22 u23 u24 u25 u26 u27 u28 u29 u30 u31 u32 u33 u34 u35 u36 u37 u38 u39 u40 u41 u42 u43 u44 u45 u46 u47 u48 u49 u50 u51 u52 u53 u54 u55 u56 u57 u58 u59 u60 u61 u62 : Value),
    a' = { tmps := #[.string p, .string s, undef, undef, .bool false, .int .i64 I, .int .i64 D, .int .i64 B, .int .i64 T, .string p, .bool true, .bool false, u12, u13, u14, u15, u16, u17, u18, u19, u20, u21, u22, u23, u24, u25, u26, u27, u28, u29, u30, u31, u32, u33, u34, u35, u36, u37, u38, u39, u40, u41, u42, u43, u44, u45, u46, u47, u48, u49, u50, u51, u52, u53, u54, u55, u56, u57, u58, u59, u60, u61, u62], defers := [] } ∧
    I = i ∧ D = d ∧ B = b ∧ T = t ∧ Ans p.data.toList s.data.toList i d b t ∧ Below w.heap.size w w'
def meas (p s : ByteArray) (I T : Int) : Nat := (s.size - T.toNat) * (p.size + 1) + (p.size - I.toNat)
theorem meas_i {p s : ByteArray} {i t t' : Nat} (hi : i < p.size) (ht : t ≤ t') : meas p s ((i : Int) + 1) t' < meas p s i t := by
  unfold meas
  rw [Int.toNat_natCast, Int.toNat_natCast, Int.toNat_natCast, show ((i : Int) + 1).toNat = i + 1 by omega]
  have := Nat.mul_le_mul_right (p.size + 1) (show s.size - t' ≤ s.size - t by omega)
  omega
theorem meas_t {p s : ByteArray} {i b t : Nat} (ht : t < s.size) : meas p s b ((t : Int) + 1) < meas p s i t := by
  unfold meas
  rw [Int.toNat_natCast, Int.toNat_natCast, Int.toNat_natCast, show ((t : Int) + 1).toNat = t + 1 by omega]
  have : (s.size - t) * (p.size + 1) = (s.size - (t + 1)) * (p.size + 1) + (p.size + 1) := by rw [← Nat.succ_mul]; congr 1; omega
  omega
theorem at_b {p : ByteArray} {i : Nat} (h : i < p.size) : p.data.toList[i]! = p[i] := getElem!_pos p.data.toList i h
theorem u_ne {a b : UInt8} (h : a.toNat ≠ b.toNat) : a ≠ b := fun e => h (by rw [e])
theorem pick_no {p s : ByteArray} {i d : Nat} (hd : d < s.size) (h : ∀ _ : i < p.size, p[i].toNat ≠ 42 ∧ p[i].toNat ≠ 63 ∧ p[i].toNat ≠ s[d].toNat) : i < p.data.toList.length → p.data.toList[i]! ≠ 42 ∧ p.data.toList[i]! ≠ 63 ∧ p.data.toList[i]! ≠ s.data.toList[d] := by
  intro hi
  obtain ⟨h1, h2, h3⟩ := h hi
  rw [at_b hi]
  exact ⟨u_ne h1, u_ne h2, u_ne h3⟩
theorem pick_no' {p : ByteArray} {i : Nat} (h : ∀ _ : i < p.size, p[i].toNat ≠ 42) : i < p.data.toList.length → p.data.toList[i]! ≠ 42 := by
  intro hi
  rw [at_b hi]
  exact u_ne (h hi)
theorem below_drew {B : Nat} {a w : World} (h : Below B a w) {q : Nat} : Below B a (w.drewN q) := ⟨h.os, h.tape, h.output, h.size, h.block⟩
theorem eq_bb (a b : UInt8) : ((a.toNat : Int) == (b.toNat : Int)) = decide (a.toNat = b.toNat) := eq_b _ _

set_option maxRecDepth 100000 in
set_option maxHeartbeats 4000000 in
theorem match_calls (p s : ByteArray) (hs : s.size ≤ 1000000) (w : World) : Calls Try.prog 35 #[.string p, .string s] w fun e w' => e = .returned (.bool (isPat p.data.toList && glob p.data.toList s.data.toList)) ∧ Below w.heap.size w w' := by
  cases hp : isPat p.data.toList with
  | false =>
    go_enter Try.func35, Try.ntmps35
    go_wp2
    refine wp_scope_jumps 0 (fun _ _ => False) (fun _ _ => 0) rfl ?_ (fun _ _ h => h.elim)
    go_wp2_with (go_at_call 49; refine (fits_calls _ _).mono ?_; rintro e w' ⟨rfl, rfl⟩)
    simp only [Exit.jump]
    go_ret
    exact ⟨rfl, Below.refl _ _⟩
  | true =>
    have hps : p.size ≤ 32 := by
      have h := hp
      rw [isPat, Bool.and_eq_true, sized_eq] at h
      exact (of_decide_eq_true h.1).2
    rw [Bool.true_and]
    go_enter Try.func35, Try.ntmps35
    go_wp2
    refine wp_scope_jumps 0 (MatchAt p s w) (fun a' _ => meas p s (intOf (a'.tmps.getD 5 undef)) (intOf (a'.tmps.getD 8 undef))) rfl ?_ ?_
    · go_wp2_with (go_at_call 49; refine (fits_calls _ _).mono ?_; rintro e w' ⟨rfl, rfl⟩)
      go_step3
      have HA := Lib.hid (ans_start p.data.toList s.data.toList)
      by_cases hi : 0 < p.size
      · have e1 := eq_bb p[0] 42; have e2 := eq_bb p[0] 63
        by_cases h42 : p[0].toNat = 42
        · have e0 : ((p[0].toNat : Int) == 42) = true := by simp [h42]
          go_wp2_with fail
          go_step3
          exact ⟨rfl, ⟨0 + 1, 0, 0 + 1, 0, _, _, _, _, _, _, _, _, _, _, _, _, _, _, _, _, _, _, _, _, _, _, _, _, _, _, _, _, _, _, _, _, _, _, _, _, _, _, _, _, _, _, _, _, _, _, _, _, _, _, _, _, _, _, _, rfl, by omega, by omega, by omega, by omega, ans_star HA.out hi (UInt8.toNat_inj.1 h42),  (Below.refl _ _)⟩⟩
        · have e0 : ((p[0].toNat : Int) == 42) = false := by simp; omega
          by_cases hd : 0 < s.size
          · have d0 : ((0 : Int) == (s.size : Int)) = false := by simp; omega
            by_cases h63 : p[0].toNat = 63
            · have e3 : ((p[0].toNat : Int) == 63) = true := by simp [h63]
              go_wp2_with fail
              go_quiet (fail)
              go_wp2_with fail
              go_step3
              exact ⟨rfl, ⟨0 + 1, 0 + 1, 0, 0, _, _, _, _, _, _, _, _, _, _, _, _, _, _, _, _, _, _, _, _, _, _, _, _, _, _, _, _, _, _, _, _, _, _, _, _, _, _, _, _, _, _, _, _, _, _, _, _, _, _, _, _, _, _, _, rfl, by omega, by omega, by omega, by omega, ans_step HA.out hi (u_ne h42) hd (.inl (UInt8.toNat_inj.1 h63)), below_drew (Below.refl _ _)⟩⟩
            · have e3 : ((p[0].toNat : Int) == 63) = false := by simp; omega
              by_cases hm : p[0].toNat = s[0].toNat
              · have e4 : ((p[0].toNat : Int) == (s[0].toNat : Int)) = true := by simp [hm]
                have e3s : ((s[0].toNat : Int) == 63) = false := by rw [← hm]; exact e3
                have e0s : ((s[0].toNat : Int) == 42) = false := by rw [← hm]; exact e0
                go_wp2_with fail
                go_quiet (fail)
                go_wp2_with fail
                go_step3
                exact ⟨rfl, ⟨0 + 1, 0 + 1, 0, 0, _, _, _, _, _, _, _, _, _, _, _, _, _, _, _, _, _, _, _, _, _, _, _, _, _, _, _, _, _, _, _, _, _, _, _, _, _, _, _, _, _, _, _, _, _, _, _, _, _, _, _, _, _, _, _, rfl, by omega, by omega, by omega, by omega, ans_step HA.out hi (u_ne h42) hd (.inr (UInt8.toNat_inj.1 hm)), below_drew (Below.refl _ _)⟩⟩
              · have e4 : ((p[0].toNat : Int) == (s[0].toNat : Int)) = false := by simp; omega
                have HN := Lib.hid (pick_no (p := p) (i := 0) hd (fun _ => ⟨h42, h63, hm⟩))
                have HF := Lib.hid (ans_none HA.out hd HN.out)
                go_wp2_with fail
                go_quiet (fail)
                go_wp2_with fail
                simp only [Exit.jump]
                go_ret
                exact ⟨by rw [HF.out]; rfl, below_drew (Below.refl _ _)⟩
          · have d0 : ((0 : Int) == (s.size : Int)) = true := by simp; omega
            have HE := Lib.hid (ans_end HA.out (show 0 = s.size by omega) (pick_no' (fun _ => h42)))
            have HB : Hid (decide (0 = p.data.toList.length) = false) := Lib.hid (decide_eq_false (by rw [size_list]; omega))
            have i0 : ((0 : Int) == (p.size : Int)) = false := by simp; omega
            go_wp2_with fail
            simp only [Exit.jump]
            go_ret
            exact ⟨by rw [HE.out, HB.out]; rfl,  (Below.refl _ _)⟩
      · by_cases hd : 0 < s.size
        · have d0 : ((0 : Int) == (s.size : Int)) = false := by simp; omega
          have HN := Lib.hid (pick_no (p := p) (i := 0) hd (fun h => absurd h hi))
          have HF := Lib.hid (ans_none HA.out hd HN.out)
          go_wp2_with fail
          go_quiet (fail)
          go_wp2_with fail
          simp only [Exit.jump]
          go_ret
          exact ⟨by rw [HF.out]; rfl, below_drew (Below.refl _ _)⟩
        · have d0 : ((0 : Int) == (s.size : Int)) = true := by simp; omega
          have HE := Lib.hid (ans_end HA.out (show 0 = s.size by omega) (pick_no' (p := p) (fun h => absurd h hi)))
          have HB : Hid (decide (0 = p.data.toList.length) = true) := Lib.hid (decide_eq_true (by rw [size_list]; omega))
          have i0 : ((0 : Int) == (p.size : Int)) = true := by simp; omega
          go_wp2_with fail
          simp only [Exit.jump]
          go_ret
          exact ⟨by rw [HE.out, HB.out]; rfl,  (Below.refl _ _)⟩
    · rintro a' w' ⟨i, d, b, t, I, D, B, T, u12, u13, u14, u15, u16, u17, u18, u19, u20, u21, u22, u23, u24, u25, u26, u27, u28, u29, u30, u31, u32, u33, u34, u35, u36, u37, u38, u39, u40, u41, u42, u43, u44, u45, u46, u47, u48, u49, u50, u51, u52, u53, u54, u55, u56, u57, u58, u59, u60, u61, u62, rfl, rfl, rfl, rfl, rfl, hA, hB⟩
      obtain ⟨q1, q2, q3, q4⟩ := ans_taken hA
      rw [size_list] at q2 q3
      have HA := Lib.hid hA; clear hA
      by_cases hi : i < p.size
      · have e1 := eq_bb p[i] 42; have e2 := eq_bb p[i] 63
        by_cases h42 : p[i].toNat = 42
        · have e0 : ((p[i].toNat : Int) == 42) = true := by simp [h42]
          go_wp2_with fail
          go_step3
          refine ⟨rfl, ⟨i + 1, d, i + 1, d, _, _, _, _, _, _, _, _, _, _, _, _, _, _, _, _, _, _, _, _, _, _, _, _, _, _, _, _, _, _, _, _, _, _, _, _, _, _, _, _, _, _, _, _, _, _, _, _, _, _, _, _, _, _, _, rfl, by omega, by omega, by omega, by omega, ans_star HA.out hi (UInt8.toNat_inj.1 h42),  hB⟩, ?_⟩
          exact meas_i hi q1
        · have e0 : ((p[i].toNat : Int) == 42) = false := by simp; omega
          by_cases hd : d < s.size
          · have d0 : ((d : Int) == (s.size : Int)) = false := by simp; omega
            by_cases h63 : p[i].toNat = 63
            · have e3 : ((p[i].toNat : Int) == 63) = true := by simp [h63]
              go_wp2_with fail
              go_quiet (fail)
              go_wp2_with fail
              go_step3
              refine ⟨rfl, ⟨i + 1, d + 1, b, t, _, _, _, _, _, _, _, _, _, _, _, _, _, _, _, _, _, _, _, _, _, _, _, _, _, _, _, _, _, _, _, _, _, _, _, _, _, _, _, _, _, _, _, _, _, _, _, _, _, _, _, _, _, _, _, rfl, by omega, by omega, by omega, by omega, ans_step HA.out hi (u_ne h42) hd (.inl (UInt8.toNat_inj.1 h63)), below_drew hB⟩, ?_⟩
              exact meas_i hi (Nat.le_refl _)
            · have e3 : ((p[i].toNat : Int) == 63) = false := by simp; omega
              by_cases hm : p[i].toNat = s[d].toNat
              · have e4 : ((p[i].toNat : Int) == (s[d].toNat : Int)) = true := by simp [hm]
                have e3s : ((s[d].toNat : Int) == 63) = false := by rw [← hm]; exact e3
                have e0s : ((s[d].toNat : Int) == 42) = false := by rw [← hm]; exact e0
                go_wp2_with fail
                go_quiet (fail)
                go_wp2_with fail
                go_step3
                refine ⟨rfl, ⟨i + 1, d + 1, b, t, _, _, _, _, _, _, _, _, _, _, _, _, _, _, _, _, _, _, _, _, _, _, _, _, _, _, _, _, _, _, _, _, _, _, _, _, _, _, _, _, _, _, _, _, _, _, _, _, _, _, _, _, _, _, _, rfl, by omega, by omega, by omega, by omega, ans_step HA.out hi (u_ne h42) hd (.inr (UInt8.toNat_inj.1 hm)), below_drew hB⟩, ?_⟩
                exact meas_i hi (Nat.le_refl _)
              · have e4 : ((p[i].toNat : Int) == (s[d].toNat : Int)) = false := by simp; omega
                have HN := Lib.hid (pick_no (p := p) (i := i) hd (fun _ => ⟨h42, h63, hm⟩))
                by_cases hb : b = 0
                · subst hb
                  have HF := Lib.hid (ans_none HA.out hd HN.out)
                  go_wp2_with fail
                  go_quiet (fail)
                  go_wp2_with fail
                  simp only [Exit.jump]
                  go_ret
                  exact ⟨by rw [HF.out]; rfl, below_drew hB⟩
                · have b0 : ((b : Int) == 0) = false := by simp; omega
                  go_wp2_with fail
                  go_quiet (fail)
                  go_wp2_with fail
                  go_step3
                  refine ⟨rfl, ⟨b, t + 1, b, t + 1, _, _, _, _, _, _, _, _, _, _, _, _, _, _, _, _, _, _, _, _, _, _, _, _, _, _, _, _, _, _, _, _, _, _, _, _, _, _, _, _, _, _, _, _, _, _, _, _, _, _, _, _, _, _, _, rfl, by omega, by omega, by omega, by omega, ans_back HA.out hb hd HN.out, below_drew hB⟩, ?_⟩
                  exact meas_t (by omega)
          · have d0 : ((d : Int) == (s.size : Int)) = true := by simp; omega
            have HE := Lib.hid (ans_end HA.out (show d = s.size by omega) (pick_no' (fun _ => h42)))
            have HB : Hid (decide (i = p.data.toList.length) = false) := Lib.hid (decide_eq_false (by rw [size_list]; omega))
            have i0 : ((i : Int) == (p.size : Int)) = false := by simp; omega
            go_wp2_with fail
            simp only [Exit.jump]
            go_ret
            exact ⟨by rw [HE.out, HB.out]; rfl,  hB⟩
      · by_cases hd : d < s.size
        · have d0 : ((d : Int) == (s.size : Int)) = false := by simp; omega
          have HN := Lib.hid (pick_no (p := p) (i := i) hd (fun h => absurd h hi))
          by_cases hb : b = 0
          · subst hb
            have HF := Lib.hid (ans_none HA.out hd HN.out)
            go_wp2_with fail
            go_quiet (fail)
            go_wp2_with fail
            simp only [Exit.jump]
            go_ret
            exact ⟨by rw [HF.out]; rfl, below_drew hB⟩
          · have b0 : ((b : Int) == 0) = false := by simp; omega
            go_wp2_with fail
            go_quiet (fail)
            go_wp2_with fail
            go_step3
            refine ⟨rfl, ⟨b, t + 1, b, t + 1, _, _, _, _, _, _, _, _, _, _, _, _, _, _, _, _, _, _, _, _, _, _, _, _, _, _, _, _, _, _, _, _, _, _, _, _, _, _, _, _, _, _, _, _, _, _, _, _, _, _, _, _, _, _, _, rfl, by omega, by omega, by omega, by omega, ans_back HA.out hb hd HN.out, below_drew hB⟩, ?_⟩
            exact meas_t (by omega)
        · have d0 : ((d : Int) == (s.size : Int)) = true := by simp; omega
          have HE := Lib.hid (ans_end HA.out (show d = s.size by omega) (pick_no' (p := p) (fun h => absurd h hi)))
          have HB : Hid (decide (i = p.data.toList.length) = true) := Lib.hid (decide_eq_true (by rw [size_list]; omega))
          have i0 : ((i : Int) == (p.size : Int)) = true := by simp; omega
          go_wp2_with fail
          simp only [Exit.jump]
          go_ret
          exact ⟨by rw [HE.out, HB.out]; rfl,  hB⟩

end Go.Proofs.Ytomnkmcabkoagaa.Word

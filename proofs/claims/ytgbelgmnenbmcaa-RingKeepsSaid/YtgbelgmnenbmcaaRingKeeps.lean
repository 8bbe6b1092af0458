/-
  Layer 4 (ring): the law of the last bytes, walked.
-/
import Derived.Test.YtgbelgmnenbmcaaRingWorks
import Derived.Test.YtgbelgmnenbmcaaArgs
import Derived.Deep.RegionHeld3
import Derived.IntWalk
namespace Go.Proofs.Ytgbelgmnenbmcaa.Ring
open Go.RowKit Go.Proofs.Ytgbelgmnenbmcaa.Own

/-- the last bytes of all, as many as there may be -/
def lastOf (m : Nat) (A : List UInt8) : List UInt8 := A.drop (A.length - m)
theorem lastOf_len (m : Nat) (A : List UInt8) : (lastOf m A).length = min m A.length := by unfold lastOf; simp; omega
theorem lastOf_force (m : Nat) (A s : List UInt8) : (lastOf m A ++ s).drop (forceN m (lastOf m A) s) = lastOf m (A ++ s) := by
  have hl := lastOf_len m A
  unfold forceN
  rw [hl]
  unfold lastOf
  rw [← List.drop_append_of_le_length (show A.length - m ≤ A.length by omega), List.drop_drop]
  congr 1
  simp; omega
theorem lastOf_gone (m : Nat) (A s : List UInt8) : (A.length - m) + forceN m (lastOf m A) s = (A ++ s).length - m := by
  have hl := lastOf_len m A
  unfold forceN
  rw [hl]; simp; omega

set_option maxRecDepth 100000 in
set_option maxHeartbeats 1000000 in
theorem keeps_walk (mo : Int) (h0 : 0 ≤ mo) (h1 : mo ≤ 255) (v : Value) (n : Nat) (E : Nat → Nat → Value) (w : World) (hrow : Row w v n 1 E) (hE : ∀ i, i < n → ∃ s, E i 0 = .string s ∧ s.size ≤ maxLen) :
    Calls Try.prog 4 #[.int .u8 mo, v] w fun e w' => e = .returned (.bool true) ∧ Below w.heap.size w w' := by
  obtain ⟨m, rfl⟩ : ∃ m : Nat, mo = m := ⟨mo.toNat, by omega⟩
  have HRow := Lib.hid hrow
  obtain ⟨a, cap, rfl, hc1, hc2, hc3⟩ := hrow
  unfold maxLen at hc2
  by_cases hn : n ≤ 40
  · go_enter Try.func4, Try.ntmps4
    go_wp2_with fail
    refine (own_new (G := fun k => w.heap.size ≤ k) _ (by omega) (by omega) w (fun _ h => h)).mono ?_
    rintro e w1 ⟨rfl, g1, o1⟩
    obtain ⟨M, hM⟩ : ∃ M : Nat, M = m + 1 := ⟨_, rfl⟩
    rw [show ((m : Int) + 1) = (M : Int) by omega] at g1 ⊢
    have hM1 : M ≤ 256 := by omega
    have hM2 : 1 ≤ M := by omega
    clear hM
    have M1 : Hid (Mine w w1 w.heap.size M (([] : List UInt8).length - M) (lastOf M [])) := Lib.hid (by rw [show lastOf M [] = [] from by simp [lastOf], List.length_nil, Nat.zero_sub]; exact ⟨by simpa using g1, o1⟩)
    clear g1 o1
    go_wp2_with fail
    go_loopw [8, 9, 10] (fun x y z wr => ∃ (i g : Nat) (A : List UInt8), i ≤ n ∧ A.length ≤ 200 * i ∧ g = A.length - M ∧ x = .string ⟨A.toArray⟩ ∧ y = .int .i64 g ∧ z = .int .i64 i ∧ Mine w wr w.heap.size M g (lastOf M A)) (fun _ _ z _ => n - (intOf z).toNat)
    case atStart => exact ⟨0, 0, [], Nat.zero_le _, Nat.zero_le _, by simp, rfl, rfl, rfl, by simpa using M1.out⟩
    case round =>
      obtain ⟨i, g, A, hi, hA, hg, rfl, rfl, rfl, hM⟩ := hrel
      have hg0 : g ≤ A.length := by omega
      have HG := Lib.hid hg; clear hg
      have HM := Lib.hid hM; clear hM
      by_cases hlt : i < n
      · rcases hc3 with hz | ⟨b, off, rfl, hb, hcells⟩
        · omega
        · obtain ⟨s, hs, hsz⟩ := hE i hlt
          have hc : wr.cell? ⟨b, off + i, none⟩ = some (.string s) := by
            have h1 := hcells i 0 hlt (by omega)
            rw [hs, Nat.mul_one, Nat.add_zero] at h1
            rw [HM.out.2.cell hb (by simp; omega)]; exact h1
          clear hcells hs
          unfold maxLen at hsz
          have i0 : (0 : Int) ≤ (i : Int) := by omega
          have i1 : (i : Int) < (n : Int) := by omega
          by_cases hbig : s.size ≤ 200
          · go_wp2_with fail
            refine (HM.out.call (own_force HM.out.1 HM.out.fresh s (by omega) (by have := lastOf_len M A; omega))).mono ?_
            rintro e w2 ⟨rfl, m2⟩
            have hN := lastOf_gone M A s.data.toList
            rw [← HG.out] at hN
            rw [lastOf_force, hN] at m2
            have hsl : s.data.toList.length = s.size := by rw [Array.length_toList]; rfl
            have hAl : (A ++ s.data.toList).length ≤ 200 * (i + 1) := by rw [List.length_append, hsl]; omega
            generalize forceN M (lastOf M A) s.data.toList = N at *
            rw [ba_app]
            generalize A ++ s.data.toList = B at *
            obtain ⟨g2, hg2⟩ : ∃ g2, g2 = B.length - M := ⟨_, rfl⟩
            rw [← hg2] at hN m2
            have hg3 : g2 ≤ B.length := by omega
            have HG2 := Lib.hid hg2; clear hg2
            have hN0 : N ≤ 10000 := by omega
            have hA0 : A.length ≤ 10000 := by omega
            have HN := Lib.hid hN; clear hN
            have M2 := Lib.hid m2; clear m2
            have HL := Lib.hid hAl
            have hB0 : B.length ≤ 10000 := by omega
            clear hAl
            by_cases hBm : M < B.length
            · have hX : (⟨B.toArray⟩ : ByteArray).extract (B.length - M) B.length = ⟨(lastOf M B).toArray⟩ := ba_extract _ _
              have k0 : M ≤ B.length := by omega
              have k1 : (0 : Int) ≤ (B.length : Int) - (M : Int) := by omega
              have k3 : ((B.length : Int) - (M : Int)).toNat = B.length - M := by omega
              have k2 : (B.length : Int) - (M : Int) ≤ (B.length : Int) := by omega
              have kw : IntKind.i64.wrap ((B.length : Int) - (M : Int)) = (B.length : Int) - (M : Int) := IntWalk.i64_in _ (by omega)
              have kw2 : IntKind.i64.wrap ((g2 : Int) + ((lastOf M B).length : Int)) = (B.length : Int) := by
                have := HG2.out
                rw [lastOf_len, IntWalk.i64_in _ (by omega)]; omega
              have HR : Hid ((g : Int) + (N : Int) = (g2 : Int)) := Lib.hid (by have := HN.out; omega)
              go_wp2_with fail
              rw [HR.out]
              go_region_held3 (fun w' => Mine w w' w.heap.size M g2 (lastOf M B))
                (first | exact M2.out.drew | exact hm5)
                (first
                  | (go_at_call 17; refine (Mine.text (by assumption)).mono ?_; rintro e w5 ⟨rfl, hm5⟩)
                  | (go_at_call 19; refine (Mine.len (by assumption)).mono ?_; rintro e w5 ⟨rfl, hm5⟩)
                  | (go_at_call 18; refine (Mine.went (by assumption)).mono ?_; rintro e w5 ⟨rfl, hm5⟩))
              all_goals
                have HF := Lib.hid hm5; clear hm5
                go_wp2_with fail
                go_roundw
                case rel => exact ⟨i + 1, g2, B, by omega, HL.out, HG2.out, rfl, rfl, by go_num, HF.out⟩
                case measure => simp [intOf]; omega
            · have M3 : Hid (Mine w w2 w.heap.size M g2 B) := Lib.hid (by have := M2.out; rwa [show lastOf M B = B by unfold lastOf; rw [Nat.sub_eq_zero_of_le (by omega)]; rfl] at this)
              have hX : (⟨B.toArray⟩ : ByteArray).extract 0 B.length = ⟨B.toArray⟩ := ba_extract _ _
              have HK : Hid (lastOf M B = B) := Lib.hid (by unfold lastOf; rw [Nat.sub_eq_zero_of_le (by omega)]; rfl)
              have k0 : B.length ≤ M := by omega
              have k1 : (B.length : Int) - (M : Int) ≤ 0 := by omega
              have k2 : ¬ (0 : Int) < (B.length : Int) - (M : Int) := by omega
              have kw : IntKind.i64.wrap ((B.length : Int) - (M : Int)) = (B.length : Int) - (M : Int) := IntWalk.i64_in _ (by omega)
              have kw2 : IntKind.i64.wrap ((g2 : Int) + (B.length : Int)) = (B.length : Int) := by
                have := HG2.out
                rw [IntWalk.i64_in _ (by omega)]; omega
              have HR : Hid ((g : Int) + (N : Int) = (g2 : Int)) := Lib.hid (by have := HN.out; omega)
              go_wp2_with fail
              rw [HR.out]
              go_region_held3 (fun w' => Mine w w' w.heap.size M g2 B)
                (first | exact M3.out.drew | exact hm5)
                (first
                  | (go_at_call 17; refine (Mine.text (by assumption)).mono ?_; rintro e w5 ⟨rfl, hm5⟩)
                  | (go_at_call 19; refine (Mine.len (by assumption)).mono ?_; rintro e w5 ⟨rfl, hm5⟩)
                  | (go_at_call 18; refine (Mine.went (by assumption)).mono ?_; rintro e w5 ⟨rfl, hm5⟩))
              all_goals
                have HF := Lib.hid hm5; clear hm5 kw kw2 hX k0 k1 k2
                go_wp2_with fail
                go_roundw
                case rel =>
                  exact ⟨i + 1, g2, B, by omega, HL.out, HG2.out, rfl, rfl, by go_num, by rw [HK.out]; exact HF.out⟩
                case measure => simp [intOf]; omega
          · have hbig' : (200 : Int) < (s.size : Int) := by omega
            go_wp2_with (go_at_call 6; refine (works_calls _).mono ?_; rintro e w5 ⟨rfl, hb5⟩)
            go_ret
            exact ⟨rfl, (HM.out.2.below (Nat.le_refl _) (fun _ h => h)).trans (hb5.mono HM.out.2.size)⟩
      · go_wp2_with (go_at_call 6; refine (works_calls _).mono ?_; rintro e w5 ⟨rfl, hb5⟩)
        go_ret
        exact ⟨rfl, (HM.out.2.below (Nat.le_refl _) (fun _ h => h)).trans (hb5.mono HM.out.2.size)⟩
  · go_enter Try.func4, Try.ntmps4
    go_wp2_with fail
    refine (own_new (G := fun k => w.heap.size ≤ k) _ (by omega) (by omega) w (fun _ h => h)).mono ?_
    rintro e w1 ⟨rfl, g1, o1⟩
    go_wp2_with (go_at_call 6; refine (works_calls _).mono ?_; rintro e w5 ⟨rfl, hb5⟩)
    go_ret
    exact ⟨rfl, (o1.below (Nat.le_refl _) (fun _ h => h)).trans (hb5.mono o1.size)⟩
end Go.Proofs.Ytgbelgmnenbmcaa.Ring

/-
  Layer 6 (timer): the law of order, walked over the timer's face.
-/
import Derived.Test.YtmmgpifidlekaaaTimerSame
import Derived.Test.YtmmgpifidlekaaaTimerOrd
import Derived.Deep.DeepCutAuto
namespace Go.Proofs.Ytmmgpifidlekaaa.Timer
open Go.RowKit Go.Proofs.Ytmmgpifidlekaaa.Own Go.Proofs.Ytmmgpifidlekaaa.Hp

theorem Mine.srt {IsT : TRel} (F : Face IsT) {W w : World} {tb : Nat} {most : Int} {L : List Ent} (h : Mine IsT W w tb most L) : L.Pairwise (fun a b => el a b = true) := by
  obtain ⟨_, bs, hi, _⟩ := h
  exact (F.fits hi).2.1
def DrewOf (w3 wx : World) : Prop := ∃ m, wx = w3.drewN m
theorem gi_map (D : List Ent) {i : Nat} (hi : i < D.length) : gi (D.map (·.1)) i = (gt D i).1 := by simp [gi, gt, hi]

set_option maxRecDepth 100000 in
set_option maxHeartbeats 20000000 in
theorem order_walk {IsT : TRel} (F : Face IsT) (hwk : ∀ w, Calls Try.prog 6 #[] w fun e w' => e = .returned (.bool true) ∧ Below w.heap.size w w')
    (a : Option Addr) (n cap : Nat) (z : Nat → Int) (nw : Int) (h0 : 0 ≤ nw) (h1 : nw ≤ 65535) (w : World) (hc1 : n ≤ cap)
    (hrow : n = 0 ∨ ∃ b off, a = some ⟨b, off, none⟩ ∧ b < w.heap.size ∧ ∀ i, i < n → w.cell? ⟨b, off + i, none⟩ = some (.int .u16 (z i))) (hz : ∀ i, i < n → 0 ≤ z i ∧ z i ≤ 65535) :
    Calls Try.prog 4 #[.slice a n cap, .int .u16 nw] w fun e w' => e = .returned (.bool true) ∧ Below w.heap.size w w' := by
  by_cases hn : n ≤ 100
  · have kw : IntKind.i64.wrap nw = nw := IntWalk.i64_in _ (by omega)
    have i3 : i64 nw := ⟨by omega, by omega⟩
    go_enter Try.func4, Try.ntmps4
    go_wp2_with fail
    refine (Mine.new F (Below.refl _ w) 200 (by omega) (by omega)).mono ?_
    rintro e w1 ⟨tb, rfl, m⟩
    have M1 := Lib.hid m
    clear m
    go_wp2_with fail
    go_loopw [7] (fun i wr => ∃ k L, k ≤ n ∧ i = .int .i64 (k : Nat) ∧ Hid (Mine IsT w wr tb 200 L) ∧ Hid (L.Perm (ents z k))) (fun i _ => n - (intOf i).toNat)
    case atStart => exact ⟨0, [], Nat.zero_le _, rfl, M1, List.Perm.refl _⟩
    case round =>
      clear M1
      obtain ⟨k, L, hk, rfl, M, HP⟩ := hrel
      by_cases hlt : k < n
      · rcases hrow with hz0 | ⟨b, off, rfl, hb, hcells⟩
        · omega
        · have d : wr.cell? ⟨b, off + k, none⟩ = some (.int .u16 (z k)) := by rw [M.out.1.cell hb]; exact hcells k hlt
          have hzk := hz k hlt
          have HS := Lib.hid (set_step HP.out hzk (by omega))
          have HC := Lib.hid (M.out.set_ F (k : Int) (z k) ⟨by omega, by omega⟩ ⟨by omega, by omega⟩ HS.out.1 rfl)
          have ky : IntKind.i64.wrap (z k) = z k := IntWalk.i64_in _ (by omega)
          have q0 : (0 : Int) ≤ (k : Int) := by omega
          have q1 : (k : Int) < (n : Int) := by omega
          have q2 : (n : Int) ≤ 100 := by omega
          clear hcells hz hzk
          generalize z k = y at *
          go_wp2_with (go_at_call 9; refine HC.out.mono ?_; rintro e w2 ⟨rfl, m⟩; have M2 := Lib.hid m; clear m)
          go_roundw
          case rel => exact ⟨k + 1, _, by omega, by go_num, M2, Lib.hid HS.out.2⟩
          case measure => simp [intOf]; omega
      · obtain rfl : k = n := by omega
        have q2 : (k : Int) ≤ 100 := by omega
        have HSrt := Lib.hid (M.out.srt F)
        have HDl := Lib.hid (due_len (now := nw) HSrt.out HP.out)
        have HRl := Lib.hid (rest_len (now := nw) HSrt.out HP.out)
        have HDn := Lib.hid (due_none (now := nw) HSrt.out)
        obtain ⟨D, hD⟩ : ∃ D, due L nw = D := ⟨_, rfl⟩
        obtain ⟨R, hR⟩ : ∃ R, rest L nw = R := ⟨_, rfl⟩
        have HC := Lib.hid (M.out.due_ F nw i3 hD hR)
        have HDat := Lib.hid (fun i (hi : i < D.length) => by have := due_at (now := nw) HP.out (i := i) (by rw [hD]; exact hi); rwa [hD] at this)
        have HDor := Lib.hid (fun i (hi : i + 1 < D.length) => by have := due_ord (now := nw) HSrt.out (i := i) (by rw [hD]; exact hi); rwa [hD] at this)
        rw [hD] at HDl
        rw [hR] at HRl HDn
        clear hD hR HSrt HP
        have hcl := cnt_le z nw k
        go_wp2_with (go_at_call 14; refine HC.out.mono ?_; rintro e w3 ⟨q, dc, rfl, o3, m3⟩; have M3 := Lib.hid m3; have S3 := Lib.hid (owns_si o3 (by rw [List.length_map])); clear m3 o3)
        have q3 : (D.length : Int) ≤ 100 := by have := HDl.out; omega
        have HROW : Hid (k = 0 ∨ ∃ b off, a = some ⟨b, off, none⟩ ∧ b < w.heap.size ∧ ∀ i, i < k → w3.cell? ⟨b, off + i, none⟩ = some (.int .u16 (z i))) := Lib.hid (hrow.imp _root_.id fun ⟨b, off, e, hb, hc⟩ => ⟨b, off, e, hb, fun i hi => (M3.out.1.cell hb).trans (hc i hi)⟩)
        have HZ := Lib.hid hz
        clear hrow hz HC M
        go_loop [9, 10] (fun s9 s10 => ∃ i : Nat, i ≤ k ∧ s10 = .int .i64 i ∧ s9 = .int .i64 (cnt z nw i)) (fun _ s10 => k - (intOf s10).toNat)
        case atStart => exact ⟨0, Nat.zero_le _, rfl, rfl⟩
        case round =>
          obtain ⟨i, hi, rfl, rfl⟩ := hrel
          have hci := cnt_le z nw i
          by_cases hil : i < k
          · rcases HROW.out with hz0 | ⟨b, off, rfl, hb, hcells⟩
            · omega
            · have d := hcells i hil
              have HN := Lib.hid (cnt_succ z nw i)
              have hzi := HZ.out i hil
              have q0 : (0 : Int) ≤ (i : Int) := by omega
              have q1 : (i : Int) < (k : Int) := by omega
              clear hcells
              generalize z i = y at *
              by_cases hy : y ≤ nw
              · have HN2 := Lib.hid (show cnt z nw (i + 1) = cnt z nw i + 1 by rw [HN.out, if_pos hy])
                clear HN
                generalize cnt z nw i = ci at *
                go_wp2_with fail
                go_round
                case rel => exact ⟨i + 1, by omega, by go_num, by rw [HN2.out]; go_num⟩
                case measure => simp [intOf]; omega
              · have HN2 := Lib.hid (show cnt z nw (i + 1) = cnt z nw i by rw [HN.out, if_neg hy, Nat.add_zero])
                clear HN
                generalize cnt z nw i = ci at *
                go_wp2_with fail
                go_round
                case rel => exact ⟨i + 1, by omega, by go_num, by rw [HN2.out]⟩
                case measure => simp [intOf]; omega
          · obtain rfl : i = k := by omega
            have q4 : (i : Int) ≤ (i : Int) := by omega
            go_wp2_with fail
            go_loopw [11, 12] (fun s11 _ wr => ∃ k m : Nat, k ≤ D.length ∧ s11 = .int .i64 k ∧ wr = w3.drewN m) (fun s11 _ _ => D.length - (intOf s11).toNat)
            case atStart => exact ⟨0, 0, Nat.zero_le _, rfl, rfl⟩
            case round =>
              obtain ⟨k, m, hk2, rfl, rfl⟩ := hrel
              by_cases hkl : k < D.length
              · rcases S3.out.cells with hD0 | ⟨g, rfl, hg⟩
                · simp at hD0; subst hD0; simp at hkl
                · obtain ⟨j, hj, ej, zj⟩ := HDat.out k hkl
                  rcases HROW.out with hz0 | ⟨b, off, rfl, hb, hcells⟩
                  · omega
                  · have dg : w3.cell? ⟨g, k, none⟩ = some (.int .i64 (j : Int)) := by rw [hg k (by rw [List.length_map]; exact hkl), gi_map D hkl, ej]
                    have dl := hcells j hj
                    have q5 : (0 : Int) ≤ (j : Int) := by omega
                    have q6 : (j : Int) < (i : Int) := by omega
                    have q7 : (k : Int) < (D.length : Int) := by omega
                    have g1 : decide ((j : Int) < 0) = false := by simp
                    have g2 : decide ((i : Int) ≤ (j : Int)) = false := by simp; omega
                    have g3 : decide (nw < z j) = false := by simp; exact zj
                    have g2n : decide (i ≤ j) = false := by simp; exact hj
                    cases k with
                    | zero =>
                      clear hcells hg ej
                      generalize z j = y at *
                      go_upto_region 22 with fail
                      go_cut [124] (fun s124 wx => s124 = .bool false ∧ DrewOf w3 wx)
                      case first =>
                        clear HDn HDor HDl HRl HDat HROW HZ S3 M3
                        go_big_quiet (fail)
                        go_wp2_with fail
                        go_meet
                        exact ⟨rfl, _, World.drewN_drewN _ _ _⟩
                      case rest =>
                        obtain ⟨rfl, m', rfl⟩ := hcut
                        go_wp2_with fail
                        go_roundw
                        case rel => exact ⟨0 + 1, m', by omega, by go_num, rfl⟩
                        case measure => simp [intOf]; omega
                    | succ k' =>
                      obtain ⟨j', hj', ej', zj'⟩ := HDat.out k' (by omega)
                      have hor := HDor.out k' hkl
                      rw [ej, ej', el_iff] at hor
                      simp only at hor
                      have dg' : w3.cell? ⟨g, k', none⟩ = some (.int .i64 (j' : Int)) := by rw [hg k' (by rw [List.length_map]; omega), gi_map D (by omega), ej']
                      have dl' := hcells j' hj'
                      have q9 : (0 : Int) ≤ (j' : Int) := by omega
                      have q10 : (j' : Int) < (i : Int) := by omega
                      have q11 : (k' : Int) < (D.length : Int) := by omega
                      have q12 : ((k' + 1 : Nat) : Int) = (k' : Int) + 1 := by omega
                      have q13 : (k' : Int) ≤ 100 := by omega
                      clear hcells hg ej ej' zj'
                      by_cases hy : z j' = z j
                      · have g5 : decide (j ≤ j') = false := by simp; omega
                        have g6 : decide ((j : Int) ≤ (j' : Int)) = false := by simp; omega
                        rw [hy] at dl'
                        clear hor hy
                        generalize z j = y at *
                        go_upto_region 22 with fail
                        go_cut [124] (fun s124 wx => s124 = .bool false ∧ DrewOf w3 wx)
                        case first =>
                          clear HDn HDor HDl HRl HDat HROW HZ S3 M3
                          go_big_quiet (fail)
                          go_wp2_with fail
                          go_meet
                          exact ⟨rfl, _, World.drewN_drewN _ _ _⟩
                        case rest =>
                          obtain ⟨rfl, m', rfl⟩ := hcut
                          go_wp2_with fail
                          go_roundw
                          case rel => exact ⟨k' + 1 + 1, m', by omega, by go_num, rfl⟩
                          case measure => simp [intOf]; omega
                      · have g5 : decide (z j < z j') = false := by simp; omega
                        have g6 : (z j' == z j) = false := by simpa using hy
                        clear hor hy
                        generalize z j = y at *
                        generalize z j' = y' at *
                        go_upto_region 22 with fail
                        go_cut [124] (fun s124 wx => s124 = .bool false ∧ DrewOf w3 wx)
                        case first =>
                          clear HDn HDor HDl HRl HDat HROW HZ S3 M3
                          go_big_quiet (fail)
                          go_wp2_with fail
                          go_meet
                          exact ⟨rfl, _, World.drewN_drewN _ _ _⟩
                        case rest =>
                          obtain ⟨rfl, m', rfl⟩ := hcut
                          go_wp2_with fail
                          go_roundw
                          case rel => exact ⟨k' + 1 + 1, m', by omega, by go_num, rfl⟩
                          case measure => simp [intOf]; omega
              · obtain rfl : k = D.length := by omega
                have M4 := Lib.hid (M3.out.below F (w' := w3.drewN m) ⟨rfl, rfl, rfl, Nat.le_refl _, fun _ _ => rfl⟩)
                have hb1 : ((D.length : Int) == (cnt z nw i : Int)) = true := by simp [HDl.out]
                have hw2 : IntKind.i64.wrap ((i : Int) - (cnt z nw i : Int)) = (R.length : Int) := by rw [IntWalk.i64_in _ (by omega)]; have := HRl.out; omega
                clear HDat HDor HROW HZ S3 M3 HDl HRl
                generalize cnt z nw i = C at *
                go_wp2_with (first
                  | (go_at_call 18; refine (M4.out.len_ F).mono ?_; rintro e w5 ⟨rfl, m5⟩; have M5 := Lib.hid m5; clear m5)
                  | (go_at_call 14; refine (M5.out.due_ F nw i3 HDn.out rfl).mono ?_; rintro e w6 ⟨p6, c6, rfl, _, m6⟩; have M6 := Lib.hid m6; clear m6)
                  | (go_at_call 6; refine (hwk _).mono ?_; rintro e w7 ⟨rfl, hb7⟩))
                go_ret
                exact ⟨rfl, M6.out.1.trans (hb7.mono M6.out.1.size)⟩
  · go_enter Try.func4, Try.ntmps4
    go_wp2_with (go_at_call 6; refine (hwk _).mono ?_; rintro e w5 ⟨rfl, hb5⟩)
    go_ret
    exact ⟨rfl, hb5⟩
end Go.Proofs.Ytmmgpifidlekaaa.Timer

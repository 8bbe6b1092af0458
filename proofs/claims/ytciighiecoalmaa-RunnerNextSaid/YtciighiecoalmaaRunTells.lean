/-
  Layer 17 (runner): the law of what is told, walked.
-/
import Derived.Test.YtciighiecoalmaaRunWorks
namespace Go.Proofs.Ytciighiecoalmaa.Run
open Go.RowKit Go.Proofs.Ytciighiecoalmaa.Own Go.Proofs.Ytciighiecoalmaa.Brk Go.Proofs.Ytciighiecoalmaa.Calc Go.Proofs.Ytciighiecoalmaa.Tree

/-- a slice that holds numbers of a kind -/
structure Nums (w : World) (k : IntKind) (xs : List Int) (p : Option Addr) (c : Nat) : Prop where
  cap : xs.length ≤ c
  max : c ≤ maxLen
  cells : xs = [] ∨ ∃ b o, p = some ⟨b, o, none⟩ ∧ b < w.heap.size ∧ ∀ i (hi : i < xs.length), w.cell? ⟨b, o + i, none⟩ = some (.int k xs[i])
theorem Nums.below {w w' : World} {k : IntKind} {xs : List Int} {p : Option Addr} {c : Nat} (h : Nums w k xs p c) (hb : Below w.heap.size w w') : Nums w' k xs p c :=
  ⟨h.cap, h.max, h.cells.imp id fun ⟨b, o, e, hl, hc⟩ => ⟨b, o, e, Nat.lt_of_lt_of_le hl hb.size, fun i hi => (hb.cell (p := ⟨b, _, none⟩) hl).trans (hc i hi)⟩⟩
/-- the law's runner, and the world -/
structure Rk (w W : World) (l : List Op) (now : Int) (b q : Nat) (was : Int) : Prop where
  run : Asked W b q (dues now l) (ends now l) was
  lb : w.heap.size ≤ b
  below : Below w.heap.size w W
theorem Rk.keep {w W W' : World} {l : List Op} {now : Int} {b q : Nat} {was : Int} (h : Rk w W l now b q was) (hb : Below W.heap.size W W') : Rk w W' l now b q was := ⟨h.run.below hb, h.lb, h.below.trans (hb.mono h.below.size)⟩
def RkPost (w W : World) (l : List Op) (now : Int) (b q : Nat) (was tt : Int) (r : Ending) (w' : World) : Prop := ∃ v, r = .returned v ∧ Mine w' W.heap.size v (told (dues now l) was tt) ∧ Rk w w' l now b q tt ∧ Out (fun k => k = b) W w'
theorem rk_step {w W : World} {l : List Op} {now : Int} {b q : Nat} {was : Int} (h : Rk w W l now b q was) (hP : Plan (dues now l) (ends now l)) (tt : Int) (ht : was ≤ tt) :
    Calls Try.prog 15 #[.pointer (some ⟨b, 0, none⟩), .int .i64 tt] W (RkPost w W l now b q was tt) := by
  refine (step_calls tt hP h.run ht).mono ?_
  rintro r w' ⟨v, rfl, h1, h2, h3⟩
  exact ⟨v, rfl, h1, ⟨h2, h.lb, h.below.trans (h3.below h.below.size fun i e => by rw [e]; exact h.lb)⟩, h3⟩
theorem mine_same {W : World} {B B' : Nat} {v u : Value} {T : List Op} (h1 : Mine W B v T) (h2 : Mine W B' u T) : Calls Try.prog 14 #[v, u] W fun e w' => e = .returned (.bool true) ∧ Below W.heap.size W w' := by
  obtain ⟨p, c, rfl, o1⟩ := h1.ops
  obtain ⟨p', c', rfl, o2⟩ := h2.ops
  exact same_calls T T.length rfl p p' c c' W o1 o2

set_option maxRecDepth 100000 in
set_option maxHeartbeats 2000000 in
theorem tells_walk (l : List Op) (p : Option Addr) (n c : Nat) (hn : l.length = n) (now : Int) (hnw : -9223372036854775808 ≤ now ∧ now ≤ 9223372036854775807) (xs : List Int) (px : Option Addr) (m cx : Nat) (hm : xs.length = m) (w : World) (h : Ops w l p c) (hx : Nums w .u16 xs px cx) (h16 : ∀ x ∈ xs, 0 ≤ x ∧ x ≤ 65535) :
    Calls Try.prog 3 #[.slice p n c, .int .i64 now, .slice px m cx] w fun e w' => e = .returned (.bool true) ∧ Below w.heap.size w w' := by
  have h1 := h.cap
  have h2 := h.max
  have h3 := hx.cap
  have h4 := hx.max
  unfold maxLen at h2 h4
  have q1 : (n : Int) ≤ 9223372036854775807 := by omega
  have q2 : (m : Int) ≤ 9223372036854775807 := by omega
  have HN := Lib.hid hn
  have HM := Lib.hid hm
  have HH := Lib.hid h
  have HX := Lib.hid hx
  have H16 := Lib.hid h16
  clear h hx h16 h1 h3 hn hm
  by_cases hb1 : 40 < n
  · have hb : (40 : Int) < (n : Int) := by omega
    go_enter Try.func3, Try.ntmps3
    go_wp2_with (go_at_call 6; refine (works_calls _).mono ?_; rintro e w' ⟨rfl, hw⟩)
    go_ret
    exact ⟨rfl, hw⟩
  by_cases hb2 : 40 < m
  · have hb : (40 : Int) < (m : Int) := by omega
    have hb' : ¬ (40 : Int) < (n : Int) := by omega
    go_enter Try.func3, Try.ntmps3
    go_wp2_with (go_at_call 6; refine (works_calls _).mono ?_; rintro e w' ⟨rfl, hw⟩)
    go_ret
    exact ⟨rfl, hw⟩
  have hb3 : ¬ (40 : Int) < (n : Int) := by omega
  have hb4 : ¬ (40 : Int) < (m : Int) := by omega
  by_cases hc : chk now l = 0
  · have HC := Lib.hid hc
    have HP := Lib.hid (plan_of hc (by rw [HN.out]; omega))
    obtain ⟨t1, t2⟩ := chk_inv hc
    have HT := Lib.hid t1
    have HG := Lib.hid t2
    obtain ⟨n0, n1⟩ := isT_iff.1 t1
    clear hc t1 t2 hb1 hb2
    go_enter Try.func3, Try.ntmps3
    go_wp2_with fail
    refine (new_yes l n HN.out (by omega) now (now - 1) (by omega) p c w HH.out HC.out).mono ?_
    rintro e w1 ⟨b, q, rfl, hA, hb, hq, hB⟩
    have R1 : Hid (Rk w w1 l now b q (now - 1)) := Lib.hid ⟨hA, hb, hB⟩
    clear hA hb hq hB
    go_wp2_with fail
    refine (rcheck_calls l n HN.out now p c w1 (HH.out.below R1.out.below)).mono ?_
    rintro e w2 ⟨rfl, hB⟩
    rw [HC.out]
    have R2 := Lib.hid (R1.out.keep hB)
    clear hB R1
    go_wp2_with fail
    refine (ends_calls R2.out.run).mono ?_
    rintro e w' ⟨rfl, rfl⟩
    go_wp2_with fail
    refine (rends_calls l n HN.out now HT.out HG.out p c w2 (HH.out.below R2.out.below)).mono ?_
    rintro e w' ⟨rfl, rfl⟩
    go_wp2_with fail
    go_loopw [10, 11] (fun u i wr => ∃ (k : Nat) (was : Int), k ≤ m ∧ i = .int .i64 k ∧ u = .int .i64 was ∧ now - 1 ≤ was ∧ was ≤ 1099511627776 ∧ Hid (k = 0 → was = now - 1) ∧ Hid (Rk w wr l now b q was)) (fun _ i _ => m - (Go.RowKit.intOf i).toNat)
    case atStart => exact ⟨0, now - 1, Nat.zero_le _, rfl, rfl, by omega, by omega, Lib.hid (fun _ => rfl), R2⟩
    case round =>
      obtain ⟨k, was, hk, rfl, rfl, s0, s1, HZ, R3⟩ := hrel
      rcases Nat.lt_or_eq_of_le hk with hlt | rfl
      · have hkl : k < xs.length := by rw [HM.out]; exact hlt
        rcases HX.out.cells with h0 | ⟨bx, ox, rfl, hbl, hcx⟩
        · rw [h0] at hkl; simp at hkl
        · have c0 := hcx k hkl
          rw [← R3.out.below.cell (p := ⟨bx, _, none⟩) hbl] at c0
          have hx16 := H16.out _ (List.getElem_mem hkl)
          generalize xs[k] = x at *
          have z1 : (k : Int) < (m : Int) := by omega
          obtain ⟨x0, x1⟩ := hx16
          clear hcx
          have HW : Hid ((k = 0 ∧ n = 0) → nxV (dues now l) (ends now l) was = now ∧ nxB (ends now l) was = true) := Lib.hid (fun e => by
            have e2 := HZ.out e.1
            have e3 : l = [] := List.eq_nil_of_length_eq_zero (by rw [HN.out]; exact e.2)
            subst e3
            subst e2
            have e4 : ends now ([] : List Op) = now := rfl
            rw [e4]
            exact ⟨nx_none (by omega) rfl, by unfold nxB; simp; omega⟩)
          obtain ⟨av, hav⟩ : ∃ a, nxV (dues now l) (ends now l) was = a := ⟨_, rfl⟩
          obtain ⟨gv, hgv⟩ : ∃ g, nxB (ends now l) was = g := ⟨_, rfl⟩
          rw [hav, hgv] at HW
          have HAV := Lib.hid hav
          have HGV := Lib.hid hgv
          clear hav hgv
          go_wp2_with fail
          refine (next_at R3.out.run).mono ?_
          rintro e w' ⟨rfl, rfl⟩
          rw [HAV.out, HGV.out]
          go_wp2_with fail
          refine (rnext_calls l n HN.out now was HT.out HG.out p c _ (HH.out.below R3.out.below)).mono ?_
          rintro e w' ⟨rfl, rfl⟩
          rw [HAV.out, HGV.out]
          have h00 : (k = 0 ∧ n = 0) ∨ (k = 0 ∧ n ≠ 0) ∨ k ≠ 0 := by omega
          rcases h00 with ⟨hk0, hn0⟩ | ⟨hk0, hn0⟩ | hk0
          · have hk1 : ((k : Int) == 0) = true := by simpa using hk0
            have hn1 : ((n : Int) == 0) = true := by simpa using hn0
            obtain ⟨e1, rfl⟩ := HW.out ⟨hk0, hn0⟩
            replace e1 := e1.symm
            subst e1
            clear HW hk0 hn0
            by_cases hto : 1099511627776 < was + x + 1
            · go_wp2_with (first | (go_at_call 13; refine (done_at R3.out.run).mono ?_; rw [HGV.out]; rintro e w' ⟨rfl, rfl⟩) | (go_at_call 6; refine (works_calls _).mono ?_; rintro e w' ⟨rfl, hw⟩))
              go_ret
              exact ⟨rfl, R3.out.below.trans (hw.mono R3.out.below.size)⟩
            · go_wp2_with (go_at_call 13; refine (done_at R3.out.run).mono ?_; rw [HGV.out]; rintro e w' ⟨rfl, rfl⟩)
              refine (rk_step R3.out HP.out (was + x + 1) (by omega)).mono ?_
              rintro e w5 ⟨v5, rfl, h5, hR5, -⟩
              have R5 := Lib.hid hR5
              have H5 := Lib.hid h5
              clear h5 hR5
              go_wp2_with fail
              refine (rdue_calls l _ HN.out (by omega) now was (was + x + 1) HT.out HG.out p c w5 (HH.out.below R5.out.below)).mono ?_
              rintro e w6 ⟨v6, rfl, h6, hb6⟩
              have HSm := Lib.hid (mine_same (mine_below H5.out hb6) h6)
              have R6 := Lib.hid (R5.out.keep hb6)
              clear h6 hb6
              go_wp2_with fail
              refine HSm.out.mono ?_
              rintro e w7 ⟨rfl, hb7⟩
              have R7 := Lib.hid (R6.out.keep hb7)
              clear hb7
              go_wp2_with fail
              go_roundw
              case rel => exact ⟨_, _, hlt, by go_num, rfl, by omega, by omega, Lib.hid (fun e => by omega), R7⟩
              case measure => simp [Go.RowKit.intOf]; omega
          · have hk1 : ((k : Int) == 0) = true := by simpa using hk0
            have hn1 : ((n : Int) == 0) = false := by simpa using hn0
            have hn2 : ((n : Int) != 0) = true := by simpa using hn0
            clear hn0 hk0 HW
            by_cases hto : 1099511627776 < was + x + 1
            · go_wp2_with (first | (go_at_call 13; refine (done_at R3.out.run).mono ?_; rw [HGV.out]; rintro e w' ⟨rfl, rfl⟩) | (go_at_call 6; refine (works_calls _).mono ?_; rintro e w' ⟨rfl, hw⟩))
              go_ret
              exact ⟨rfl, R3.out.below.trans (hw.mono R3.out.below.size)⟩
            · go_wp2_with (go_at_call 13; refine (done_at R3.out.run).mono ?_; rw [HGV.out]; rintro e w' ⟨rfl, rfl⟩)
              refine (rk_step R3.out HP.out (was + x + 1) (by omega)).mono ?_
              rintro e w5 ⟨v5, rfl, h5, hR5, -⟩
              have R5 := Lib.hid hR5
              have H5 := Lib.hid h5
              clear h5 hR5
              go_wp2_with fail
              refine (rdue_calls l _ HN.out (by omega) now was (was + x + 1) HT.out HG.out p c w5 (HH.out.below R5.out.below)).mono ?_
              rintro e w6 ⟨v6, rfl, h6, hb6⟩
              have HSm := Lib.hid (mine_same (mine_below H5.out hb6) h6)
              have R6 := Lib.hid (R5.out.keep hb6)
              clear h6 hb6
              go_wp2_with fail
              refine HSm.out.mono ?_
              rintro e w7 ⟨rfl, hb7⟩
              have R7 := Lib.hid (R6.out.keep hb7)
              clear hb7
              go_wp2_with fail
              go_roundw
              case rel => exact ⟨_, _, hlt, by go_num, rfl, by omega, by omega, Lib.hid (fun e => by omega), R7⟩
              case measure => simp [Go.RowKit.intOf]; omega
          · have hk1 : ((k : Int) == 0) = false := by simpa using hk0
            have hk2 : ((k : Int) != 0) = true := by simpa using hk0
            clear hk0 HW
            by_cases hto : 1099511627776 < was + x + 1
            · go_wp2_with (first | (go_at_call 13; refine (done_at R3.out.run).mono ?_; rw [HGV.out]; rintro e w' ⟨rfl, rfl⟩) | (go_at_call 6; refine (works_calls _).mono ?_; rintro e w' ⟨rfl, hw⟩))
              go_ret
              exact ⟨rfl, R3.out.below.trans (hw.mono R3.out.below.size)⟩
            · go_wp2_with (go_at_call 13; refine (done_at R3.out.run).mono ?_; rw [HGV.out]; rintro e w' ⟨rfl, rfl⟩)
              refine (rk_step R3.out HP.out (was + x + 1) (by omega)).mono ?_
              rintro e w5 ⟨v5, rfl, h5, hR5, -⟩
              have R5 := Lib.hid hR5
              have H5 := Lib.hid h5
              clear h5 hR5
              go_wp2_with fail
              refine (rdue_calls l _ HN.out (by omega) now was (was + x + 1) HT.out HG.out p c w5 (HH.out.below R5.out.below)).mono ?_
              rintro e w6 ⟨v6, rfl, h6, hb6⟩
              have HSm := Lib.hid (mine_same (mine_below H5.out hb6) h6)
              have R6 := Lib.hid (R5.out.keep hb6)
              clear h6 hb6
              go_wp2_with fail
              refine HSm.out.mono ?_
              rintro e w7 ⟨rfl, hb7⟩
              have R7 := Lib.hid (R6.out.keep hb7)
              clear hb7
              go_wp2_with fail
              go_roundw
              case rel => exact ⟨_, _, hlt, by go_num, rfl, by omega, by omega, Lib.hid (fun e => by omega), R7⟩
              case measure => simp [Go.RowKit.intOf]; omega
      · go_wp2_with (go_at_call 6; refine (works_calls _).mono ?_; rintro e w' ⟨rfl, hw⟩)
        go_ret
        exact ⟨rfl, R3.out.below.trans (hw.mono R3.out.below.size)⟩
  · obtain ⟨cd, hcd⟩ : ∃ cd, chk now l = cd := ⟨_, rfl⟩
    rw [hcd] at hc
    have HC := Lib.hid hcd
    have k0 : (cd == 0) = false := by simpa using hc
    have k1 : (cd != 0) = true := by simpa using hc
    have HC0 := Lib.hid hc
    clear hcd hb1 hb2 hc
    go_enter Try.func3, Try.ntmps3
    go_wp2_with fail
    refine (new_no l n HN.out (by omega) now p c w HH.out cd HC.out HC0.out).mono ?_
    rintro e w1 ⟨rfl, hB⟩
    have B1 := Lib.hid hB
    clear hB
    go_wp2_with fail
    refine (rcheck_calls l n HN.out now p c w1 (HH.out.below B1.out)).mono ?_
    rintro e w2 ⟨rfl, hB⟩
    have B2 := Lib.hid (B1.out.trans (hB.mono B1.out.size))
    rw [HC.out]
    clear hB
    go_wp2_with (go_at_call 6; refine (works_calls _).mono ?_; rintro e w' ⟨rfl, hw⟩)
    go_ret
    exact ⟨rfl, B2.out.trans (hw.mono B2.out.size)⟩
end Go.Proofs.Ytciighiecoalmaa.Run

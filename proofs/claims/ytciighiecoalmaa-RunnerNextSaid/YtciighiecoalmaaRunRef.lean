/-
  Layer 17 (runner): the document's own Check, Ends, Due, Next, walked.
-/
import Derived.Test.YtciighiecoalmaaRunPlain
import Derived.Test.YtciighiecoalmaaBrkSame
import Derived.Test.YtciighiecoalmaaRow1
namespace Go.Proofs.Ytciighiecoalmaa.Run
open Go.RowKit Go.Proofs.Ytciighiecoalmaa.Own Go.Proofs.Ytciighiecoalmaa.Brk Go.Proofs.Ytciighiecoalmaa.Calc

theorem below_drew {B : Nat} {a w : World} (h : Below B a w) {q : Nat} : Below B a (w.drewN q) := ⟨h.os, h.tape, h.output, h.size, h.block⟩
theorem ret_int {a b : Int} (h : a = b) : Ending.returned (.int .i64 a) = .returned (.int .i64 b) := by rw [h]
theorem drop_at {l : List Op} {k : Nat} (h : k < l.length) : l.drop k = l[k] :: l.drop (k + 1) := List.drop_eq_getElem_cons h
/-- the ways of a step -/
theorem kinds (x : Op) : (¬ Is x ∧ (((x.k == 1) = false ∧ (x.k == 2) = false ∧ (x.k == 3) = false) ∨ (x.k = 1 ∧ x.s = []) ∨ (x.k = 1 ∧ x.s.isEmpty = false ∧ (x.n == 0) = false) ∨ (x.k = 2 ∧ x.s.isEmpty = false) ∨ (x.k = 2 ∧ x.s = [] ∧ decide (0 < x.n) = false) ∨ (x.k = 3 ∧ x.s.isEmpty = false) ∨ (x.k = 3 ∧ x.s = [] ∧ (x.n == 0) = false))) ∨
    (Is x ∧ ((x.k = 1 ∧ x.s.isEmpty = false ∧ x.n = 0) ∨ (x.k = 2 ∧ x.s = [] ∧ 0 < x.n) ∨ (x.k = 3 ∧ x.s = [] ∧ x.n = 0))) := by
  obtain ⟨k, s, n⟩ := x
  unfold Is
  cases s with
  | nil => simp; omega
  | cons c s => simp; omega

set_option maxRecDepth 100000 in
set_option maxHeartbeats 4000000 in
theorem rcheck_calls (l : List Op) (n : Nat) (hn : l.length = n) (now : Int) (p : Option Addr) (c : Nat) (w : World) (h : Ops w l p c) :
    Calls Try.prog 8 #[.slice p n c, .int .i64 now] w fun e w' => e = .returned (.int .i64 (chk now l)) ∧ Below w.heap.size w w' := by
  have hcap := h.cap
  have hmax := h.max
  unfold maxLen at hmax
  have q2 : (n : Int) ≤ 9223372036854775807 := by omega
  have HH := Lib.hid h
  have HN := Lib.hid hn
  clear h
  cases hT : isT now
  · have hC := Lib.hid (chk_out (l := l) hT)
    rcases isT_not.1 hT with h0 | h0
    · clear hT
      go_enter Try.func8, Try.ntmps8
      go_wp2_with fail
      go_ret
      exact ⟨ret_int hC.out.symm, Below.refl _ _⟩
    · have h1 : ¬ now < 0 := by omega
      clear hT
      go_enter Try.func8, Try.ntmps8
      go_wp2_with fail
      go_ret
      exact ⟨ret_int hC.out.symm, Below.refl _ _⟩
  · have hC := Lib.hid (chk_in (l := l) hT)
    obtain ⟨t0, t1⟩ := isT_iff.1 hT
    have HT := Lib.hid hT
    clear hT
    go_enter Try.func8, Try.ntmps8
    go_wp2_with fail
    go_loopw [5, 6] (fun u i wr => ∃ (k : Nat) (r : Int), k ≤ n ∧ i = .int .i64 k ∧ u = .int .i64 r ∧ 0 ≤ r ∧ r ≤ 1099511627776 ∧ Hid (go now l = go (1099511627776 - r) (l.drop k)) ∧ Below w.heap.size w wr) (fun _ i _ => n - (intOf i).toNat)
    case atStart => exact ⟨0, 1099511627776 - now, Nat.zero_le _, rfl, rfl, by omega, by omega, Lib.hid (by rw [show (1099511627776 : Int) - (1099511627776 - now) = now by omega, List.drop_zero]), Below.refl _ _⟩
    case round =>
      obtain ⟨k, r, hk, rfl, rfl, r0, r1, HG, hB⟩ := hrel
      rcases Nat.lt_or_eq_of_le hk with hlt | rfl
      · have hkl : k < l.length := by rw [HN.out]; exact hlt
        rcases HH.out.cells with h0 | ⟨b, o, rfl, hbl, hc⟩
        · rw [h0] at hkl; simp at hkl
        · obtain ⟨c0, c1, c2⟩ := hc k hkl
          rw [← hB.cell (p := ⟨b, _, none⟩) hbl] at c0 c1 c2
          have q1 : (k : Int) < (n : Int) := by omega
          have HD := Lib.hid (drop_at hkl)
          have hsz := hB.size
          generalize hx : l[k] = x at *
          clear hc hx
          have HK := kinds x
          have HF := Lib.hid (fun (hI : Is x) => ov_fit (a := 1099511627776 - r) (isT_iff.2 (by omega)) hI)
          obtain ⟨xk, xs, xn⟩ := x
          simp only at c0 c1 c2 HK
          rcases HK with ⟨HI, HK⟩ | ⟨HI, HK⟩
          · have HE := Lib.hid (show go now l = 1 by rw [HG.out, HD.out, go_no (by rw [ov_no HI]; omega), ov_no HI])
            clear HI HF HG
            rcases HK with ⟨k1, k2, k3⟩ | ⟨rfl, rfl⟩ | ⟨rfl, s1, n1⟩ | ⟨rfl, s1⟩ | ⟨rfl, rfl, n1⟩ | ⟨rfl, s1⟩ | ⟨rfl, rfl, n1⟩ <;>
            · go_wp2_with fail
              go_ret
              exact ⟨ret_int (by rw [hC.out, HE.out]), hB.alloc hsz _⟩
          · have hn0 : 0 ≤ xn := is_n HI
            by_cases hf : xn ≤ r
            · have HE := Lib.hid (show go now l = go (1099511627776 - (r - xn)) (l.drop (k + 1)) by
                rw [HG.out, HD.out, go_ok (ov_ok HI ((HF.out HI).2 (by show 1099511627776 - r + xn ≤ _; omega)))]
                show go (1099511627776 - r + xn) _ = _
                rw [show 1099511627776 - r + xn = 1099511627776 - (r - xn) by omega])
              clear HI HF HG
              rcases HK with ⟨rfl, s1, rfl⟩ | ⟨rfl, rfl, n1⟩ | ⟨rfl, rfl, rfl⟩ <;>
              · go_wp2_with fail
                go_roundw
                case rel => exact ⟨k + 1, _, by omega, by go_num, rfl, by omega, by omega, by first | exact HE | simpa using HE, hB.alloc hsz _⟩
                case measure => simp [intOf]; omega
            · have HE := Lib.hid (show go now l = 2 by
                rw [HG.out, HD.out, go_no (by rw [ov_far HI (fun hc => hf (by have := (HF.out HI).1 hc; simp only at this; omega))]; omega), ov_far HI (fun hc => hf (by have := (HF.out HI).1 hc; simp only at this; omega))])
              have hf2 : r < xn := by omega
              clear HI HF HG hf
              rcases HK with ⟨rfl, s1, rfl⟩ | ⟨rfl, rfl, n1⟩ | ⟨rfl, rfl, rfl⟩
              · omega
              · go_wp2_with fail
                go_ret
                exact ⟨ret_int (by rw [hC.out, HE.out]), hB.alloc hsz _⟩
              · omega
      · have HE := Lib.hid (show go now l = 0 by rw [HG.out, List.drop_eq_nil_of_le (by rw [HN.out]; exact Nat.le_refl _)]; rfl)
        go_wp2_with fail
        go_ret
        exact ⟨ret_int (by rw [hC.out, HE.out]), hB⟩

theorem ends_drop {a : Int} {l : List Op} {k : Nat} (h : k < l.length) {A : Int} (e : A = a + l[k].n) : ends a (l.drop k) = ends A (l.drop (k + 1)) := by
  rw [drop_at h, ends, e]
set_option maxRecDepth 100000 in
set_option maxHeartbeats 2000000 in
theorem rends_calls (l : List Op) (n : Nat) (hn : l.length = n) (now : Int) (hT : isT now = true) (hg : go now l = 0) (p : Option Addr) (c : Nat) (w : World) (h : Ops w l p c) :
    Calls Try.prog 10 #[.slice p n c, .int .i64 now] w fun e w' => e = .returned (.int .i64 (ends now l)) ∧ w = w' := by
  have hcap := h.cap
  have hmax := h.max
  unfold maxLen at hmax
  have q2 : (n : Int) ≤ 9223372036854775807 := by omega
  have HH := Lib.hid h
  have HN := Lib.hid hn
  have HT := Lib.hid hT
  have HG0 := Lib.hid hg
  clear h hT hg
  go_enter Try.func10, Try.ntmps10
  go_wp2_with fail
  go_loopw [1, 5] (fun u i wr => ∃ (k : Nat) (a : Int), k ≤ n ∧ i = .int .i64 k ∧ u = .int .i64 a ∧ Hid (isT a = true ∧ go a (l.drop k) = 0 ∧ ends now l = ends a (l.drop k)) ∧ wr = w) (fun _ i _ => n - (intOf i).toNat)
  case atStart => exact ⟨0, now, Nat.zero_le _, rfl, rfl, Lib.hid ⟨HT.out, by rw [List.drop_zero]; exact HG0.out, by rw [List.drop_zero]⟩, rfl⟩
  case round =>
    obtain ⟨k, a, hk, rfl, rfl, HG, rfl⟩ := hrel
    rcases Nat.lt_or_eq_of_le hk with hlt | rfl
    · have hkl : k < l.length := by rw [HN.out]; exact hlt
      rcases HH.out.cells with h0 | ⟨b, o, rfl, hbl, hc⟩
      · rw [h0] at hkl; simp at hkl
      · obtain ⟨c0, c1, c2⟩ := hc k hkl
        have q1 : (k : Int) < (n : Int) := by omega
        have HD := Lib.hid (drop_at hkl)
        obtain ⟨g1, g2, g3⟩ := HG.out
        rw [HD.out] at g2 g3
        obtain ⟨i1, i2⟩ := go_inv g2
        rw [ends] at g3
        have i3 := ov_tick i1
        obtain ⟨j0, j1⟩ := isT_iff.1 i3
        obtain ⟨j2, j3⟩ := isT_iff.1 g1
        generalize l[k] = x at *
        have HE := Lib.hid (And.intro i3 (And.intro i2 g3))
        clear hc g1 g2 g3 i1 i2 i3 HG
        go_wp2_with fail
        go_roundw
        case rel => exact ⟨k + 1, _, by omega, by go_num, rfl, HE, trivial⟩
        case measure => simp [intOf]; omega
    · have HE := Lib.hid (show ends now l = a by rw [HG.out.2.2, List.drop_eq_nil_of_le (by rw [HN.out]; exact Nat.le_refl _)]; rfl)
      go_wp2_with fail
      go_ret
      exact ⟨ret_int HE.out.symm, rfl⟩
end Go.Proofs.Ytciighiecoalmaa.Run

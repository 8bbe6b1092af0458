/-
  container/heap's up and down, walked over whatever a type keeps its entries in: 'Rep w l': the entries lie in w in the order of the list l.
-/
import Derived.Test.YtmmgpifidlekaaaProg
import Derived.Test.YtmmgpifidlekaaaHeapPlain
import Derived.Deep.QuietTactic
import Derived.BigQuiet
import Derived.WalkKit
import Derived.WalkSpells
import Derived.IntWalk
import Derived.Lib.Hide
import Derived.Deep.LoopGhost
import Derived.Shelf.Abstract
namespace Go.Proofs.Ytmmgpifidlekaaa.Hp
open Go.RowKit

/-- what the heap asks of its methods -/
structure Meth (Rep : World → List Ent → Prop) (T : TypeId) (rv rl rs : Value) (gl gs : Nat) : Prop where
  findL : ∀ {w l}, Rep w l → (method (Try.prog.types.size + 100) T rv "Less").run Try.prog w = .ok (gl, rl) w
  findS : ∀ {w l}, Rep w l → (method (Try.prog.types.size + 100) T rv "Swap").run Try.prog w = .ok (gs, rs) w
  entersL : ∀ args w, (callFunc gl args).run Try.prog w = .ok (.enter gl args) w
  entersS : ∀ args w, (callFunc gs args).run Try.prog w = .ok (.enter gs args) w
  less : ∀ {w l}, Rep w l → ∀ i j : Nat, i < l.length → j < l.length →
    Calls Try.prog gl #[rl, .int .i64 i, .int .i64 j] w fun e w' => e = .returned (.bool (el (gt l i) (gt l j))) ∧ Rep w' l
  swap : ∀ {w l}, Rep w l → ∀ i j : Nat, i < l.length → j < l.length →
    Calls Try.prog gs #[rs, .int .i64 i, .int .i64 j] w fun e w' => e = .returned (.tuple #[]) ∧ Rep w' (swp l i j)

section
variable {Rep : World → List Ent → Prop} {T : TypeId} {rv rl rs : Value} {gl gs : Nat}

theorem up_calls (M : Meth Rep T rv rl rs gl gs) (l : List Ent) (j : Nat) (hj : j < l.length) (hl : l.length < 4611686018427387904) (w : World) (hr : Rep w l) :
    Calls Try.prog 29 #[.iface T rv, .int .i64 j] w fun e w' => e = .returned (.tuple #[]) ∧ Rep w' (hup l j) := by
  have tn := (show Try.prog.types.size = _ from Try.types_size)
  go_enter Try.func29, Try.ntmps29
  go_wp2
  go_loopg [1] j (fun k s1 wr => s1 = .int .i64 (k : Int) ∧ k < l.length ∧ ∃ lk, lk.length = l.length ∧ Aside (Rep wr lk) ∧ Hid (hup lk k = hup l j))
  case atStart => exact ⟨rfl, hj, l, rfl, hr, rfl⟩
  case round =>
    obtain ⟨rfl, hk, lk, hlk, R, HE⟩ := hrel
    cases gk with
    | zero =>
      go_wp2
      go_end0
      have := HE.out
      rw [hup_zero] at this
      exact ⟨rfl, this ▸ R.out⟩
    | succ m =>
      have mL := M.findL R.out
      simp only [tn, Nat.reduceAdd] at mL
      have eL := M.entersL
      have eS := M.entersS
      have hless := M.less R.out (m + 1) (m / 2) (by omega) (by omega)
      have hswap := fun w1 (R1 : Rep w1 lk) => M.swap R1 (m / 2) (m + 1) (by omega) (by omega)
      have hfind := fun w1 (R1 : Rep w1 lk) => M.findS R1
      simp only [tn, Nat.reduceAdd] at hfind
      have e1 : ((m + 1 : Nat) : Int) - 1 = (m : Int) := by omega
      have e2 : (m : Int).tdiv 2 = ((m / 2 : Nat) : Int) := by rw [Int.tdiv_eq_ediv_of_nonneg (by omega)]; omega
      have e3 : (((m / 2 : Nat) : Int) = ((m + 1 : Nat) : Int)) = False := by simp; omega
      have e4 : wrap64 (m : Int) = m := IntWalk.wrap64_in _ (by omega)
      have e5 : wrap64 ((m / 2 : Nat) : Int) = ((m / 2 : Nat) : Int) := IntWalk.wrap64_in _ (by omega)
      obtain ⟨x, hx⟩ : ∃ x : Int, ((m + 1 : Nat) : Int) = x := ⟨_, rfl⟩
      rw [hx] at hless hswap e1 e3 ⊢
      clear hx
      have hm := hk
      clear hk
      cases hel : el (gt lk (m + 1)) (gt lk (m / 2))
      · rw [hel] at hless
        go_wp2_with (first
                | (go_at_fn gl; refine hless.mono ?_; rintro e w1 ⟨rfl, R1⟩))
        go_end0
        have := HE.out
        rw [hup_stop hel] at this
        exact ⟨rfl, this ▸ R1⟩
      · rw [hel] at hless
        go_wp2_with (first
                | (go_at_fn gl; refine hless.mono ?_; rintro e w1 ⟨rfl, R1⟩; have mS := hfind _ R1; have hs := hswap _ R1)
                | (go_at_fn gs; refine hs.mono ?_; rintro e w2 ⟨rfl, R2⟩))
        go_roundg (m / 2)
        case measure => omega
        case rel => exact ⟨rfl, by omega, swp lk (m / 2) (m + 1), by rw [swp_len, hlk], R2, Lib.hid (by rw [← HE.out]; exact (hup_go (by omega) hel).symm)⟩

set_option maxHeartbeats 4000000 in
theorem down_calls (M : Meth Rep T rv rl rs gl gs) (l : List Ent) (i n : Nat) (hn : n ≤ l.length) (hi : i < l.length) (hl : l.length < 2305843009213693952) (w : World) (hr : Rep w l) :
    Calls Try.prog 28 #[.iface T rv, .int .i64 i, .int .i64 n] w fun e w' => e = .returned (.bool (decide (i < (hdn l i n).2))) ∧ Rep w' (hdn l i n).1 := by
  have tn := (show Try.prog.types.size = _ from Try.types_size)
  go_enter Try.func28, Try.ntmps28
  go_wp2
  go_loopg [7] (n - i) (fun g s7 wr => ∃ k, s7 = .int .i64 (k : Nat) ∧ g = n - k ∧ k < l.length ∧ ∃ lk, lk.length = l.length ∧ Aside (Rep wr lk) ∧ Hid (hdn lk k n = hdn l i n))
  case atStart => exact ⟨i, rfl, rfl, hi, l, rfl, hr, rfl⟩
  case round =>
    obtain ⟨k, rfl, rfl, hk, lk, hlk, R, HE⟩ := hrel
    have eL := M.entersL
    have eS := M.entersS
    have hless := fun w1 (R1 : Rep w1 lk) => M.less R1
    have hswap := fun w1 (R1 : Rep w1 lk) => M.swap R1
    have hfindL := fun w1 (R1 : Rep w1 lk) => M.findL R1
    have hfindS := fun w1 (R1 : Rep w1 lk) => M.findS R1
    simp only [tn, Nat.reduceAdd] at hfindL hfindS
    have mL := hfindL _ R.out
    have k2 : (0 : Int) ≤ 2 * (k : Int) + 1 := by omega
    by_cases h1 : 2 * k + 1 < n
    · have k1 : 2 * (k : Int) + 1 < (n : Int) := by omega
      have ka := kid_gt lk k n
      have kb := kid_lt (l := lk) h1
      have c1 : ((2 * k + 1 : Nat) : Int) = 2 * (k : Int) + 1 := by omega
      have c2 : ((2 * k + 2 : Nat) : Int) = 2 * (k : Int) + 1 + 1 := by omega
      -- the child that comes first, and whether it comes ahead
      have hl2 := fun w1 (R1 : Rep w1 lk) => M.less R1 (kid lk k n) k (by omega) (by omega)
      have hs2 := fun w1 (R1 : Rep w1 lk) => M.swap R1 k (kid lk k n) (by omega) (by omega)
      by_cases h2 : 2 * k + 2 < n
      · have k3 : 2 * (k : Int) + 1 + 1 < (n : Int) := by omega
        have hl1 := M.less R.out (2 * k + 2) (2 * k + 1) (by omega) (by omega)
        rw [c1, c2] at hl1
        cases hc : el (gt lk (2 * k + 2)) (gt lk (2 * k + 1))
        · have hk' : kid lk k n = 2 * k + 1 := by simp [kid, hc]
          rw [hc] at hl1
          rw [hk', c1] at hl2 hs2
          cases hel : el (gt lk (2 * k + 1)) (gt lk k)
          · rw [hel] at hl2
            by_cases h5 : i < k
            · have k5 : (i : Int) < (k : Int) := by omega
              go_wp2_with (first
                | (go_at_fn gl; refine hl1.mono ?_; rintro e w1 ⟨rfl, R1⟩; have mL1 := hfindL _ R1)
                | (go_at_fn gl; refine (hl2 _ R1).mono ?_; rintro e w2 ⟨rfl, R2⟩))
              go_ret
              have := HE.out
              rw [hdn_stop (by rw [hk']; exact hel)] at this
              exact ⟨by rw [← this]; simp [h5], by rw [← this]; exact R2⟩
            · have k5 : (k : Int) ≤ (i : Int) := by omega
              go_wp2_with (first
                | (go_at_fn gl; refine hl1.mono ?_; rintro e w1 ⟨rfl, R1⟩; have mL1 := hfindL _ R1)
                | (go_at_fn gl; refine (hl2 _ R1).mono ?_; rintro e w2 ⟨rfl, R2⟩))
              go_ret
              have := HE.out
              rw [hdn_stop (by rw [hk']; exact hel)] at this
              exact ⟨by rw [← this]; simp [h5], by rw [← this]; exact R2⟩
          · rw [hel] at hl2
            go_wp2_with (first
                | (go_at_fn gl; refine hl1.mono ?_; rintro e w1 ⟨rfl, R1⟩; have mL1 := hfindL _ R1)
                | (go_at_fn gl; refine (hl2 _ R1).mono ?_; rintro e w2 ⟨rfl, R2⟩; have mS := hfindS _ R2)
                | (go_at_fn gs; refine (hs2 _ (by assumption)).mono ?_; rintro e w3 ⟨rfl, R3⟩))
            go_roundg (n - (2 * k + 1))
            case measure => omega
            case rel => exact ⟨2 * k + 1, by rw [c1], rfl, by omega, swp lk k (2 * k + 1), by rw [swp_len, hlk], R3, Lib.hid (by rw [← HE.out, hdn_go h1 (by rw [hk']; exact hel), hk'])⟩
        · have hk' : kid lk k n = 2 * k + 2 := by simp [kid, hc, h2]
          rw [hc] at hl1
          rw [hk', c2] at hl2 hs2
          cases hel : el (gt lk (2 * k + 2)) (gt lk k)
          · rw [hel] at hl2
            by_cases h5 : i < k
            · have k5 : (i : Int) < (k : Int) := by omega
              go_wp2_with (first
                | (go_at_fn gl; refine hl1.mono ?_; rintro e w1 ⟨rfl, R1⟩; have mL1 := hfindL _ R1)
                | (go_at_fn gl; refine (hl2 _ R1).mono ?_; rintro e w2 ⟨rfl, R2⟩))
              go_ret
              have := HE.out
              rw [hdn_stop (by rw [hk']; exact hel)] at this
              exact ⟨by rw [← this]; simp [h5], by rw [← this]; exact R2⟩
            · have k5 : (k : Int) ≤ (i : Int) := by omega
              go_wp2_with (first
                | (go_at_fn gl; refine hl1.mono ?_; rintro e w1 ⟨rfl, R1⟩; have mL1 := hfindL _ R1)
                | (go_at_fn gl; refine (hl2 _ R1).mono ?_; rintro e w2 ⟨rfl, R2⟩))
              go_ret
              have := HE.out
              rw [hdn_stop (by rw [hk']; exact hel)] at this
              exact ⟨by rw [← this]; simp [h5], by rw [← this]; exact R2⟩
          · rw [hel] at hl2
            go_wp2_with (first
                | (go_at_fn gl; refine hl1.mono ?_; rintro e w1 ⟨rfl, R1⟩; have mL1 := hfindL _ R1)
                | (go_at_fn gl; refine (hl2 _ R1).mono ?_; rintro e w2 ⟨rfl, R2⟩; have mS := hfindS _ R2)
                | (go_at_fn gs; refine (hs2 _ (by assumption)).mono ?_; rintro e w3 ⟨rfl, R3⟩))
            go_roundg (n - (2 * k + 2))
            case measure => omega
            case rel => exact ⟨2 * k + 2, by rw [c2], rfl, by omega, swp lk k (2 * k + 2), by rw [swp_len, hlk], R3, Lib.hid (by rw [← HE.out, hdn_go h1 (by rw [hk']; exact hel), hk'])⟩
      · have k3 : (n : Int) ≤ 2 * (k : Int) + 1 + 1 := by omega
        have hk' : kid lk k n = 2 * k + 1 := by simp [kid, h2]
        rw [hk', c1] at hl2 hs2
        cases hel : el (gt lk (2 * k + 1)) (gt lk k)
        · rw [hel] at hl2
          by_cases h5 : i < k
          · have k5 : (i : Int) < (k : Int) := by omega
            go_wp2_with (first
                | (go_at_fn gl; refine (hl2 _ R.out).mono ?_; rintro e w2 ⟨rfl, R2⟩))
            go_ret
            have := HE.out
            rw [hdn_stop (by rw [hk']; exact hel)] at this
            exact ⟨by rw [← this]; simp [h5], by rw [← this]; exact R2⟩
          · have k5 : (k : Int) ≤ (i : Int) := by omega
            go_wp2_with (first
                | (go_at_fn gl; refine (hl2 _ R.out).mono ?_; rintro e w2 ⟨rfl, R2⟩))
            go_ret
            have := HE.out
            rw [hdn_stop (by rw [hk']; exact hel)] at this
            exact ⟨by rw [← this]; simp [h5], by rw [← this]; exact R2⟩
        · rw [hel] at hl2
          go_wp2_with (first
                | (go_at_fn gl; refine (hl2 _ R.out).mono ?_; rintro e w2 ⟨rfl, R2⟩; have mS := hfindS _ R2)
                | (go_at_fn gs; refine (hs2 _ (by assumption)).mono ?_; rintro e w3 ⟨rfl, R3⟩))
          go_roundg (n - (2 * k + 1))
          case measure => omega
          case rel => exact ⟨2 * k + 1, by rw [c1], rfl, by omega, swp lk k (2 * k + 1), by rw [swp_len, hlk], R3, Lib.hid (by rw [← HE.out, hdn_go h1 (by rw [hk']; exact hel), hk'])⟩
    · have k1 : (n : Int) ≤ 2 * (k : Int) + 1 := by omega
      by_cases h5 : i < k
      · have k5 : (i : Int) < (k : Int) := by omega
        go_wp2
        go_ret
        have := HE.out
        rw [hdn_none (by omega)] at this
        refine ⟨?_, ?_⟩
        · rw [← this]; simp [h5]
        · rw [← this]; exact R.out
      · have k5 : (k : Int) ≤ (i : Int) := by omega
        go_wp2
        go_ret
        have := HE.out
        rw [hdn_none (by omega)] at this
        refine ⟨?_, ?_⟩
        · rw [← this]; simp [h5]
        · rw [← this]; exact R.out
end
end Go.Proofs.Ytmmgpifidlekaaa.Hp

/-
  Layer 21 (gens): the law of names, walked.
-/
import Derived.Test.YtememmgnhnldaaaDoorGenWorks
import Derived.Test.YtememmgnhnldaaaDoorErrTable
import Derived.Test.YtememmgnhnldaaaDoorArgs
namespace Go.Proofs.YtememmgnhnldaaaDoor.Gen
open Go.RowKit Go.Proofs.YtememmgnhnldaaaDoor.Own Go.Proofs.YtememmgnhnldaaaDoor.Sto Go.Proofs.YtememmgnhnldaaaDoor.Flt

theorem nm_same {b : Bs} {i k : Int} (h : max 0 i = max 0 k) : (nm b i == nm b k) = true := by rw [(nm_inj b).2 h]; simp
theorem nm_other {b : Bs} {i k : Int} (h : max 0 i ≠ max 0 k) : (nm b i == nm b k) = false := by
  cases hx : nm b i == nm b k with
  | false => rfl
  | true => exact absurd ((nm_inj b).1 (by simpa using hx)) h
set_option maxRecDepth 100000 in
set_option maxHeartbeats 4000000 in
theorem names_walk (base : ByteArray) (i k : Int) (w : World) (hT : Tab w) (hs : base.size ≤ maxLen) (hi : -9223372036854775808 ≤ i ∧ i ≤ 9223372036854775807) (hk : -9223372036854775808 ≤ k ∧ k ≤ 9223372036854775807) :
    Calls Tryd.prog 4 #[.string base, .int .i64 i, .int .i64 k] w fun e w' => e = .returned (.bool true) ∧ Below w.heap.size w w' := by
  have HT := Lib.hid (fun W (hb : Below w.heap.size w W) => hT.below hb)
  clear hT
  by_cases h60 : 60 < base.size
  · unfold maxLen at hs
    have q : (60 : Int) < (base.size : Int) := by omega
    go_enter Tryd.func4, Tryd.ntmps4
    go_wp2_with fail
    refine (works_walk _ (HT.out _ (Below.refl _ _))).mono ?_
    rintro e w2 ⟨rfl, hb⟩
    replace hb := Lib.hid hb
    go_wp2_with fail
    go_ret
    exact ⟨rfl, hb.out⟩
  · obtain ⟨b, rfl⟩ : ∃ b : Bs, base = ⟨b.toArray⟩ := ⟨base.data.toList, rfl⟩
    have hb : b.length ≤ 60 := by have := size_of b; omega
    have q : ¬ (60 : Int) < (b.length : Int) := by omega
    have sz := size_of b
    have HN1 := Lib.hid (fun W => name_calls b i (by omega) hi.1 hi.2 W)
    have HN2 := Lib.hid (fun W => name_calls b k (by omega) hk.1 hk.2 W)
    have HR1 := Lib.hid (fun W => rname_calls b i (by omega) hi.1 hi.2 W)
    clear h60 hs hi hk
    have HC : (i ≤ 0 ∧ k ≤ 0 ∧ ¬ 0 < i ∧ ¬ 0 < k ∧ (nm b i == nm b k) = true) ∨ (i ≤ 0 ∧ ¬ 0 < i ∧ 0 < k ∧ ¬ k ≤ 0 ∧ (nm b i == nm b k) = false ∧ ((0 : Int) == k) = false) ∨ (0 < i ∧ ¬ i ≤ 0 ∧ k ≤ 0 ∧ ¬ 0 < k ∧ (nm b i == nm b k) = false ∧ (i == 0) = false) ∨
        (0 < i ∧ ¬ i ≤ 0 ∧ 0 < k ∧ ¬ k ≤ 0 ∧ (nm b i == nm b k) = (i == k)) := by
      by_cases h1 : i ≤ 0 <;> by_cases h2 : k ≤ 0
      · exact .inl ⟨h1, h2, by omega, by omega, nm_same (by omega)⟩
      · exact .inr (.inl ⟨h1, by omega, by omega, h2, nm_other (by omega), by simp; omega⟩)
      · exact .inr (.inr (.inl ⟨by omega, h1, h2, by omega, nm_other (by omega), by simp; omega⟩))
      · refine .inr (.inr (.inr ⟨by omega, h1, by omega, h2, ?_⟩))
        by_cases h3 : i = k
        · rw [nm_same (by omega), h3]; simp
        · rw [nm_other (by omega)]
          simp [h3]
    generalize nm b i = x at *
    generalize nm b k = y at *
    rcases HC with ⟨c1, c2, c3, c4, c5⟩ | ⟨c1, c2, c3, c4, c5, c6⟩ | ⟨c1, c2, c3, c4, c5, c6⟩ | ⟨c1, c2, c3, c4, c5⟩
    all_goals
      go_enter Tryd.func4, Tryd.ntmps4
      go_wp2_with fail
      refine (HN1.out _).mono ?_
      rintro e w2 ⟨rfl, hb⟩
      have B2 := Lib.hid hb
      clear hb
      go_wp2_with fail
      refine (HN2.out _).mono ?_
      rintro e w3 ⟨rfl, hb⟩
      have B3 := Lib.hid (B2.out.trans (hb.mono B2.out.size))
      clear hb
      go_wp2_with fail
      refine (HR1.out _).mono ?_
      rintro e w4 ⟨rfl, rfl⟩
      go_wp2_with fail
      refine (works_walk _ (HT.out _ B3.out)).mono ?_
      rintro e w5 ⟨rfl, hb⟩
      have B5 := Lib.hid (B3.out.trans (hb.mono B3.out.size))
      clear hb
      go_wp2_with fail
      go_ret
      exact ⟨rfl, B5.out⟩
end Go.Proofs.YtememmgnhnldaaaDoor.Gen

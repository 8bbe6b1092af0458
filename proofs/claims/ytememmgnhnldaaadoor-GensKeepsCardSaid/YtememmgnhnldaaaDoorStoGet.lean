/-
  Layer 11 (store): New, Fail, Read.
-/
import Derived.Test.YtememmgnhnldaaaDoorStoBeg
namespace Go.Proofs.YtememmgnhnldaaaDoor.Sto
open Go.RowKit Go.Proofs.YtememmgnhnldaaaDoor.Own Go.Proofs.YtememmgnhnldaaaDoor.KM Go.Proofs.YtememmgnhnldaaaDoor.Flt
open Go.Proofs.YtememmgnhnldaaaDoor.Rw (str)

section
variable {w : World} {bs : Nat → Prop} {b m : Nat} {V : List En} {most total bad : Int}

theorem read_calls (h : Base w bs b m V most total bad) (s : ByteArray) (hs : s.size ≤ maxLen) :
    Calls Tryd.prog 7 #[.pointer (some ⟨b, 0, none⟩), .string s] w fun e w' =>
      e = .returned (.tuple #[.string ⟨(got (V.map En.fl) s.data.toList).bs.toArray⟩, .bool (flk (V.map En.fl) s.data.toList).isSome]) ∧ Below w.heap.size w w' := by
  have h0 := (at_cell h.box 0 : _ = some _)
  have hl := h.look_ok s hs
  obtain ⟨r1, _⟩ := h.got_ s.data.toList
  rw [← gotE_fl]
  obtain ⟨x, hx⟩ : ∃ x, gotE V s.data.toList = x := ⟨_, rfl⟩
  obtain ⟨B, hB⟩ : ∃ B, (flk (V.map En.fl) s.data.toList).isSome = B := ⟨_, rfl⟩
  rw [hx] at r1 hl ⊢
  rw [hB] at hl ⊢
  clear hx hB
  obtain ⟨p, c, hsl, -⟩ := r1.shape
  have ht := (r1.kept (w' := w.alloc (.cells #[x.sl, .int .i64 x.fl.sure] 57 (0, 0))) (fun g hg => Below.heap_alloc _ _ _ (r1.lt hg))).text
  rw [En.val, hsl] at hl
  rw [hsl] at ht
  clear h r1 hsl
  go_enter Tryd.func7, Tryd.ntmps7
  go_wp2_with (go_at_call 22; refine (made_some _ _ _ h0).mono ?_; rintro e w' ⟨rfl, rfl⟩)
  go_ret2
  exact ⟨rfl, (Below.refl _ _).alloc (Nat.le_refl _) _⟩
theorem fail_calls (h : Base w bs b m V most total bad) (n : Int) :
    Calls Tryd.prog 9 #[.pointer (some ⟨b, 0, none⟩), .int .i64 n] w fun e w' => e = .returned (.tuple #[]) ∧ w' = w.setCell ⟨b, 3, none⟩ (.int .i64 n) := by
  have h0 := (at_cell h.box 0 : _ = some _)
  have h3 := (at_cell h.box 3 : _ = some _)
  have f3 := at_frozen h.box 3
  clear h
  go_enter Tryd.func9, Tryd.ntmps9
  go_wp2_with (go_at_call 22; refine (made_some _ _ _ h0).mono ?_; rintro e w' ⟨rfl, rfl⟩)
  go_end0
  exact ⟨rfl, rfl⟩
end

theorem new_out (n : Int) (hn : n < 1 ∨ 16777216 < n) (w : World) : Calls Tryd.prog 14 #[.int .i64 n] w fun e w' => e = .returned (.tuple #[.pointer none, errv w]) ∧ w' = w.alloc (fblk 2) := by
  have hn' := Lib.hid hn
  rcases hn with hn | hn
  · go_enter Tryd.func14, Tryd.ntmps14
    go_wp2_with (go_at_call 30; refine (wrong_calls 2 (by decide) _).mono ?_; rintro e w' ⟨rfl, rfl⟩)
    go_ret2
    exact ⟨rfl, rfl⟩
  · have h1 : ¬ n < 1 := by omega
    go_enter Tryd.func14, Tryd.ntmps14
    go_wp2_with (go_at_call 30; refine (wrong_calls 2 (by decide) _).mono ?_; rintro e w' ⟨rfl, rfl⟩)
    go_ret2
    exact ⟨rfl, rfl⟩
theorem new_in (n : Int) (h1 : 1 ≤ n) (h2 : n ≤ 16777216) (w : World) : Calls Tryd.prog 14 #[.int .i64 n] w fun e w' =>
    ∃ b, e = .returned (.tuple #[.pointer (some ⟨b, 0, none⟩), .nilIface]) ∧ ∃ bs, Sto w' bs b ⟨[], n, 0⟩ ∧ Below w.heap.size w w' ∧ ∀ k, bs k → w.heap.size ≤ k := by
  have q1 : ¬ n < 1 := by omega
  have q2 : ¬ 16777216 < n := by omega
  have hmk : ∀ W : World, (Instr.makeMap 59 none).run Tryd.prog W = .ok (.map (some W.heap.size)) (W.alloc (.map #[] 0)) := fun W => by kernel_rfl
  go_enter Tryd.func14, Tryd.ntmps14
  go_wp2_with fail
  go_ret2
  refine ⟨w.heap.size + 1, rfl, fun k => k = w.heap.size ∨ k = w.heap.size + 1, ⟨⟨List.Pairwise.nil, by simp, by simp, by show ((tot [] : Nat) : Int) ≤ n; simp [tot]; omega, h1, h2, by show -9223372036854775808 ≤ (0 : Int) ∧ (0 : Int) ≤ _; omega⟩, fun k hk => by rcases hk with rfl | rfl <;> simp <;> omega, w.heap.size, [], rfl, ?_⟩, ((Below.refl _ _).alloc (Nat.le_refl _) _).alloc (by simp) _, fun k hk => by rcases hk with rfl | rfl <;> omega⟩
  exact ⟨at_newk _ _ (by simp), ((KMap.made w).kept (Below.heap_alloc _ _ _ (by simp))).cong (fun a => rfl) rfl, List.Pairwise.nil, by simp, List.Pairwise.nil, .inr rfl, .inl rfl, by simp, by omega⟩
end Go.Proofs.YtememmgnhnldaaaDoor.Sto

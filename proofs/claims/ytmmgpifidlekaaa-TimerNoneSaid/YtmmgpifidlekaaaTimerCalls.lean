/-
  Layer 6 (timer): the program's timer, as its callers see it: New, Len, At, Next, and a timer that is nil.
-/
import Derived.Test.YtmmgpifidlekaaaTimerRem
import Derived.Test.YtmmgpifidlekaaaTimerList
import Derived.Test.YtmmgpifidlekaaaTimerFace
namespace Go.Proofs.Ytmmgpifidlekaaa.Timer
open Go.RowKit Go.MapKept Go.ChangeMaps Go.Proofs.Ytmmgpifidlekaaa.Own Go.Proofs.Ytmmgpifidlekaaa.Hp Go.Proofs.Ytmmgpifidlekaaa.KM

/-- the program's timer -/
def IsT : TRel := fun w bs tb most L =>
  ∃ mb pv c H, Heap w tb mb most pv c H ∧ H.Perm L ∧ Srt L ∧ (1 ≤ most ∧ most ≤ 4096 ∧ (L.length : Int) ≤ most) ∧ bs = Bl tb mb pv

theorem tick_calls (n : Int) (w : World) :
    Calls Try.prog 20 #[.int .i64 n] w fun e w' => e = .returned (.bool (isTick n)) ∧ w = w' := by
  by_cases h0 : 0 ≤ n
  · by_cases h1 : n ≤ 1099511627776
    · have ht : isTick n = true := by simp [isTick, h0, h1]
      rw [ht]
      go_enter Try.func20, Try.ntmps20
      go_wp2
      go_ret
      exact ⟨rfl, rfl⟩
    · have ht : isTick n = false := by simp [isTick, h1]
      rw [ht]
      go_enter Try.func20, Try.ntmps20
      go_wp2
      go_ret
      exact ⟨rfl, rfl⟩
  · have ht : isTick n = false := by simp [isTick, h0]
    rw [ht]
    go_enter Try.func20, Try.ntmps20
    go_wp2
    go_ret
    exact ⟨rfl, rfl⟩

section
variable {w w' : World} {bs : Nat → Prop} {tb : Nat} {most : Int} {L : List Ent}
theorem IsT.out {S : Nat → Prop} (h : IsT w bs tb most L) (ho : Out S w w') (hs : ∀ k, bs k → ¬ S k) : IsT w' bs tb most L := by
  obtain ⟨mb, pv, c, H, hh, r1, r2, r3, rfl⟩ := h
  exact ⟨mb, pv, c, H, ⟨hh.at_.out ho hs, hh.dst, hh.rng, hh.hp, hh.small⟩, r1, r2, r3, rfl⟩
/-- what an act leaves, as a caller sees it -/
theorem Left.does {mb : Nat} {pv : Option Addr} {L' M : List Ent} (h : Left (Bl tb mb pv) w w' tb mb most M) (p : M.Perm L') (s : Srt L') (h1 : 1 ≤ most) (h2 : most ≤ 4096) (h3 : (L'.length : Int) ≤ most) : Does IsT w (Bl tb mb pv) w' tb most L' := by
  obtain ⟨pv', c', H', hh, p', o', hn⟩ := h
  refine ⟨Bl tb mb pv', ⟨mb, pv', c', H', hh, p'.trans p, s, ⟨h1, h2, h3⟩, rfl⟩, o', fun k hk => ?_⟩
  rcases hk with rfl | rfl | hk
  · exact .inl (.inl rfl)
  · exact .inl (.inr (.inl rfl))
  · exact hn k hk
theorem Does.refl (h : IsT w bs tb most L) : Does IsT w bs w tb most L := ⟨bs, h, Out.refl _ _, fun _ h => .inl h⟩

theorem new_some (most : Int) (w : World) (h1 : 1 ≤ most) (h2 : most ≤ 4096) : Calls Try.prog 7 #[.int .i64 most] w fun e w' =>
    ∃ tb bs, e = .returned (.tuple #[.pointer (some ⟨tb, 0, none⟩), .int .i64 0]) ∧ IsT w' bs tb most [] ∧ Below w.heap.size w w' ∧ ∀ k, bs k → w.heap.size ≤ k := by
  have hmm : ∀ w : World, (Instr.makeMap 57 none).run Try.prog w = .ok (.map (some w.heap.size)) (w.alloc (.map #[] 0)) := fun _ => rfl
  go_enter Try.func7, Try.ntmps7
  go_wp2
  go_ret2
  have B := at_new (w.alloc (.map #[] 0)) (.cells #[.slice none 0 0, .map (some w.heap.size), .int .i64 most] 62)
  have hsz : (w.alloc (.map #[] 0)).heap.size = w.heap.size + 1 := by simp
  rw [hsz] at B
  have K : KMap Try.prog 3 ik ((w.alloc (.map #[] 0)).alloc (.cells #[.slice none 0 0, .map (some w.heap.size), .int .i64 most] 62)) w.heap.size (fun _ => none) 0 :=
    (KMap.made w).kept (Below.heap_alloc _ _ _ (by simp))
  refine ⟨w.heap.size + 1, Bl (w.heap.size + 1) w.heap.size none, rfl, ⟨w.heap.size, none, 0, [], ⟨⟨B, .inl ⟨rfl, rfl, rfl⟩, by omega, K.cong (fun a => (pl_none (M := []) (fun j hj => by simp at hj)).symm) rfl⟩, by simp [Dst], by simp, fun c c1 c2 => by simp at c2, by simp⟩, List.Perm.refl _, ⟨List.Pairwise.nil, List.Pairwise.nil⟩, ⟨h1, h2, by simp; omega⟩, rfl⟩,
    ((Below.refl _ w).alloc (Nat.le_refl _) _).alloc (by simp) _, fun k hk => ?_⟩
  rcases hk with rfl | rfl | hk
  · omega
  · omega
  · cases hk
theorem new_none (most : Int) (w : World) (h : most < 1 ∨ 4096 < most) : Calls Try.prog 7 #[.int .i64 most] w fun e w' =>
    e = .returned (.tuple #[.pointer none, .int .i64 2]) ∧ Below w.heap.size w w' := by
  by_cases h1 : most < 1
  · clear h
    go_enter Try.func7, Try.ntmps7
    go_wp2
    go_ret2
    exact ⟨rfl, Below.refl _ _⟩
  · have h2 : 4096 < most := by omega
    have h1 : 1 ≤ most := by omega
    clear h
    go_enter Try.func7, Try.ntmps7
    go_wp2
    go_ret2
    exact ⟨rfl, Below.refl _ _⟩

theorem tlen (h : IsT w bs tb most L) : Calls Try.prog 18 #[.pointer (some ⟨tb, 0, none⟩)] w fun e w' => e = .returned (.int .i64 L.length) ∧ w' = w := by
  obtain ⟨mb, pv, c, H, hh, p, r2, r3, rfl⟩ := h
  have hc := len_calls hh.at_
  rw [p.length_eq] at hc
  have tl := at_lt hh.at_.box
  clear hh p
  go_enter Try.func18, Try.ntmps18
  go_wp2_with (go_at_call 24; refine hc.mono ?_; rintro e w' ⟨rfl, rfl⟩)
  go_ret
  exact ⟨rfl, rfl⟩
theorem len_nil (w : World) : Calls Try.prog 18 #[.pointer none] w fun e w' => e = .returned (.int .i64 0) ∧ w' = w := by
  go_enter Try.func18, Try.ntmps18
  go_wp2
  go_ret
  exact ⟨rfl, rfl⟩
theorem at_nil (id : Int) (w : World) : Calls Try.prog 16 #[.pointer none, .int .i64 id] w fun e w' => e = .returned (.tuple #[.int .i64 0, .bool false]) ∧ Below w.heap.size w w' := by
  go_enter Try.func16, Try.ntmps16
  go_wp2
  go_ret2
  exact ⟨rfl, Below.refl _ _⟩
theorem next_nil (w : World) : Calls Try.prog 15 #[.pointer none] w fun e w' => e = .returned (.tuple #[.int .i64 0, .int .i64 0, .bool false]) ∧ Below w.heap.size w w' := by
  go_enter Try.func15, Try.ntmps15
  go_wp2_with (go_at_call 18; refine (len_nil _).mono ?_; rintro e w' ⟨rfl, rfl⟩)
  go_ret3
  exact ⟨rfl, Below.refl _ _⟩
theorem cancel_nil (id : Int) (w : World) : Calls Try.prog 11 #[.pointer none, .int .i64 id] w fun e w' => e = .returned (.bool false) ∧ Below w.heap.size w w' := by
  go_enter Try.func11, Try.ntmps11
  go_wp2
  go_ret
  exact ⟨rfl, Below.refl _ _⟩
theorem set_nil (id t : Int) (w : World) : Calls Try.prog 9 #[.pointer none, .int .i64 id, .int .i64 t] w fun e w' => e = .returned (.int .i64 14) ∧ Below w.heap.size w w' := by
  go_enter Try.func9, Try.ntmps9
  go_wp2
  go_ret
  exact ⟨rfl, Below.refl _ _⟩
theorem due_nil (now : Int) (w : World) : Calls Try.prog 14 #[.pointer none, .int .i64 now] w fun e w' => ∃ p c, e = .returned (.slice p 0 c) ∧ Below w.heap.size w w' := by
  go_enter Try.func14, Try.ntmps14
  go_wp2
  go_loop [5] (fun s => s = .slice none 0 0) (fun _ => 0)
  case atStart => rfl
  case round =>
    obtain rfl := hrel
    go_wp2_with (go_at_call 18; refine (len_nil _).mono ?_; rintro e w' ⟨rfl, rfl⟩)
    go_ret
    exact ⟨none, 0, rfl, Below.refl _ _⟩
end
end Go.Proofs.Ytmmgpifidlekaaa.Timer

/-
  Layer 6 (timer): the program's timer, as its callers see it: At, Next, Cancel.
-/
import Derived.Test.YtmmgpifidlekaaaTimerCalls
namespace Go.Proofs.Ytmmgpifidlekaaa.Timer
open Go.RowKit Go.MapKept Go.ChangeMaps Go.Proofs.Ytmmgpifidlekaaa.Own Go.Proofs.Ytmmgpifidlekaaa.Hp Go.Proofs.Ytmmgpifidlekaaa.KM

section
variable {w : World} {bs : Nat → Prop} {tb : Nat} {most : Int} {L : List Ent}
theorem zero_int (w : World) : (zeroValue 3).run Try.prog w = .ok (.int .i64 0) w := by kernel_rfl
/-- what the map tells of somebody -/
theorem look_in {mb n : Nat} {H : List Ent} {id : Int} {k : Nat} (h : KMap Try.prog 3 ik w mb (pl H) n) (hi : i64 id) (hp : pl H id = some (.int .i64 k)) :
    (Instr.lookup 57 (.map (some mb)) (.int .i64 id) true).run Try.prog w = .ok (.tuple #[.int .i64 k, .bool true]) w := by
  have := h.look true keyed Try.underlying57 (zero_int w) (ikey hi) (ik_inj id)
  rw [hp] at this
  exact this
theorem look_out {mb n : Nat} {H : List Ent} {id : Int} (h : KMap Try.prog 3 ik w mb (pl H) n) (hi : i64 id) (hp : pl H id = none) :
    (Instr.lookup 57 (.map (some mb)) (.int .i64 id) true).run Try.prog w = .ok (.tuple #[.int .i64 0, .bool false]) w := by
  have := h.look true keyed Try.underlying57 (zero_int w) (ikey hi) (ik_inj id)
  rw [hp] at this
  exact this

theorem at_is (id : Int) (h : IsT w bs tb most L) (hi : i64 id) : Calls Try.prog 16 #[.pointer (some ⟨tb, 0, none⟩), .int .i64 id] w fun e w' => e = .returned (.tuple #[.int .i64 (whenL L id), .bool (isIn L id)]) ∧ Below w.heap.size w w' := by
  obtain ⟨mb, pv, c, H, hh, p, r2, r3, rfl⟩ := h
  have b0 := (at_cell hh.at_.box 0 : _ = some _)
  have b1 := (at_cell hh.at_.box 1 : _ = some _)
  cases hc : isIn L id
  · have hl := look_out hh.at_.map hi (pl_out (by rw [isIn_perm p, hc]))
    rw [whenL_none hc]
    clear hh p hc
    go_enter Try.func16, Try.ntmps16
    go_wp2
    go_ret2
    exact ⟨rfl, Below.refl _ _⟩
  · obtain ⟨k, hk, e1, hp⟩ := pl_in (H := H) (id := id) (by rw [isIn_perm p, hc])
    have hl := look_in hh.at_.map hi hp
    have hw : whenL L id = (gt H k).2 := by rw [← e1]; exact whenL_mem (dst_srt r2) (p.mem_iff.1 (gt_mem hk))
    rw [hw]
    rcases hh.at_.q with ⟨_, _, r⟩ | ⟨qb, rfl, R, _, _⟩
    · rw [r] at hk; simp at hk
    · obtain ⟨a1, a2⟩ := R.cell hk
      have k1 : (k : Int) < (H.length : Int) := by omega
      clear hh p hc R hw hp e1
      generalize gt H k = E at *
      obtain ⟨x, t⟩ := E
      simp only at a1 a2 ⊢
      go_enter Try.func16, Try.ntmps16
      go_wp2
      go_ret2
      exact ⟨rfl, Below.refl _ _⟩

theorem next_is (h : IsT w bs tb most L) : Calls Try.prog 15 #[.pointer (some ⟨tb, 0, none⟩)] w fun e w' => e = .returned (nextV L) ∧ Below w.heap.size w w' := by
  have hl := tlen h
  obtain ⟨mb, pv, c, H, hh, p, r2, r3, rfl⟩ := h
  cases L with
  | nil =>
    clear hh p
    go_enter Try.func15, Try.ntmps15
    go_wp2_with (go_at_call 18; refine hl.mono ?_; rintro e w' ⟨rfl, rfl⟩)
    go_ret3
    exact ⟨rfl, Below.refl _ _⟩
  | cons y r =>
    have hn := p.length_eq
    have ht := top_is hh.hp p r2 (by simp)
    have e0 : gt (y :: r) 0 = y := rfl
    rw [e0] at ht
    have b0 := (at_cell hh.at_.box 0 : _ = some _)
    rcases hh.at_.q with ⟨_, _, rr⟩ | ⟨qb, rfl, R, _, _⟩
    · rw [rr] at hn; simp at hn
    · have hk : 0 < H.length := by simp at hn; omega
      obtain ⟨a1, a2⟩ := R.cell hk
      rw [ht] at a1 a2
      have a1 : w.cell? ⟨qb, 0, none⟩ = some (.int .i64 y.1) := by simpa using a1
      have a2 : w.cell? ⟨qb, 1, none⟩ = some (.int .i64 y.2) := by simpa using a2
      have ql := R.lt
      have k1 : (0 : Int) < (H.length : Int) := by omega
      have hl' : ((y :: r).length : Int) = (r.length : Int) + 1 := by simp
      have h1 : ((r.length : Int) + 1 == 0) = false := by simp; omega
      rw [hl'] at hl
      clear hh p R ht e0 hn
      obtain ⟨x, t⟩ := y
      simp only at a1 a2
      go_enter Try.func15, Try.ntmps15
      go_wp2_with (go_at_call 18; refine hl.mono ?_; rintro e w' ⟨rfl, rfl⟩)
      go_region
      all_goals go_wp2
      all_goals go_ret3
      all_goals exact ⟨rfl, bel_drew ((Below.refl _ _).alloc (Nat.le_refl _) _)⟩

theorem cancel_is (id : Int) (h : IsT w bs tb most L) (hi : i64 id) {c : Bool} {L' : List Ent} (hc : isIn L id = c) (hL : delL L id = L') :
    Calls Try.prog 11 #[.pointer (some ⟨tb, 0, none⟩), .int .i64 id] w fun e w' => e = .returned (.bool c) ∧ Does IsT w bs w' tb most L' := by
  have hh0 := h
  obtain ⟨mb, pv, cp, H, hh, p, r2, r3, rfl⟩ := h
  have b0 := (at_cell hh.at_.box 0 : _ = some _)
  have b1 := (at_cell hh.at_.box 1 : _ = some _)
  subst hL
  cases c
  · have hl := look_out hh.at_.map hi (pl_out (by rw [isIn_perm p, hc]))
    rw [del_none hc]
    have HD := Lib.hid (Does.refl hh0)
    clear hh p hc hh0
    go_enter Try.func11, Try.ntmps11
    go_wp2
    go_ret
    exact ⟨rfl, HD.out⟩
  · obtain ⟨k, hk, e1, hp⟩ := pl_in (H := H) (id := id) (by rw [isIn_perm p, hc])
    have hl := look_in hh.at_.map hi hp
    have HR := Lib.hid (remove_acts hh k hk)
    have HP := Lib.hid (erase_perm hh.dst p hk)
    rw [e1] at HP
    have HS := Lib.hid (srt_del r2 id)
    have hlen : (delL L id).length ≤ L.length := delL_len L id
    clear hh p hc hh0
    generalize gt H k = E at *
    go_enter Try.func11, Try.ntmps11
    go_wp2_with (go_at_call 23; refine HR.out.mono ?_; rintro e w2 ⟨rfl, hLeft⟩; have HL := Lib.hid hLeft; clear hLeft)
    go_ret
    exact ⟨rfl, HL.out.does HP.out HS.out r3.1 r3.2.1 (by omega)⟩
end
end Go.Proofs.Ytmmgpifidlekaaa.Timer

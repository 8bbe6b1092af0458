/-
  Layer 6 (timer): the program's timer, as its callers see it: Set.
-/
import Derived.Test.YtmmgpifidlekaaaTimerAsk
namespace Go.Proofs.Ytmmgpifidlekaaa.Timer
open Go.RowKit Go.MapKept Go.ChangeMaps Go.Proofs.Ytmmgpifidlekaaa.Own Go.Proofs.Ytmmgpifidlekaaa.Hp Go.Proofs.Ytmmgpifidlekaaa.KM

section
variable {w : World} {bs : Nat → Prop} {tb : Nat} {most : Int} {L : List Ent}
theorem ins_len (L : List Ent) (x : Ent) : (insL L x).length = L.length + 1 := by rw [(ins_perm' L x).length_eq]; rfl
theorem del_len_in (p : Srt L) {id : Int} (h : isIn L id = true) : (delL L id).length + 1 = L.length := by
  obtain ⟨k, hk, e1, _⟩ := plc_in h
  have := (erase_perm (dst_srt p) (List.Perm.refl L) hk).length_eq
  rw [e1, List.length_eraseIdx_of_lt hk] at this
  omega

theorem Left.ofDrewN {S : Nat → Prop} {w w' : World} {n mb : Nat} {L' : List Ent} (h : Left S (w.drewN n) w' tb mb most L') : Left S w w' tb mb most L' := by
  obtain ⟨pv, c, H, a, b, o, k⟩ := h
  exact ⟨pv, c, H, a, b, o.ofDrewN, k⟩

theorem set_is (id t : Int) (h : IsT w bs tb most L) (hi : i64 id) (_ : i64 t) {c : Int} {L' : List Ent} (hc : setC L most id t = c) (hL : setL L most id t = L') :
    Calls Try.prog 9 #[.pointer (some ⟨tb, 0, none⟩), .int .i64 id, .int .i64 t] w fun e w' => e = .returned (.int .i64 c) ∧ Does IsT w bs w' tb most L' := by
  have hh0 := h
  have hTick := tick_calls t
  have hlen := fun n => tlen (h.out (w' := w.drewN n) ((Out.refl (fun _ => False) w).drewN n) fun _ _ h => h)
  obtain ⟨mb, pv, cp, H, hh, p, r2, r3, rfl⟩ := h
  have b0 := (at_cell hh.at_.box 0 : _ = some _)
  have b1 := (at_cell hh.at_.box 1 : _ = some _)
  have b2 := (at_cell hh.at_.box 2 : _ = some _)
  cases hk : isTick t
  · rw [hk] at hTick
    have e1 : c = 1 := by rw [← hc]; simp [setC, hk]
    have e2 : L' = L := by rw [← hL]; unfold setL; rw [hc, e1]; rfl
    subst e1 e2
    have HD := Lib.hid (Does.refl hh0)
    clear hh p hh0 hc hL hlen
    go_enter Try.func9, Try.ntmps9
    go_wp2_with (go_at_call 20; refine (hTick _).mono ?_; rintro e w2 ⟨rfl, rfl⟩)
    go_ret
    exact ⟨rfl, HD.out⟩
  · rw [hk] at hTick
    cases hin : isIn L id
    · have hn := pl_out (H := H) (id := id) (by rw [isIn_perm p, hin])
      have hl := look_out hh.at_.map hi hn
      by_cases hf : most ≤ L.length
      · have e1 : c = 6 := by rw [← hc]; simp [setC, hk, hin, hf]
        have e2 : L' = L := by rw [← hL]; unfold setL; rw [hc, e1]; rfl
        subst e1 e2
        have HD : Hid (∀ n, Does IsT w (Bl tb mb pv) (w.drewN n) tb most L') := Lib.hid (fun n => ⟨_, hh0.out ((Out.refl (fun _ => False) w).drewN n) (fun _ _ h => h), (Out.refl _ w).drewN n, fun _ h => .inl h⟩)
        clear hh p hh0 hc hL
        go_enter Try.func9, Try.ntmps9
        go_wp2_with (go_at_call 20; refine (hTick _).mono ?_; rintro e w2 ⟨rfl, rfl⟩)
        go_quiet ((go_at_call 18; exact Calls.quiet_of_same (hlen _)))
        go_wp2
        go_ret
        exact ⟨rfl, HD.out _⟩
      · have e1 : c = 0 := by rw [← hc]; simp [setC, hk, hin, hf]
        have e2 : L' = insL (delL L id) (id, t) := by rw [← hL]; unfold setL; rw [hc, e1]; rfl
        subst e1 e2
        have hlp := p.length_eq
        have q1 : (L.length : Int) < most := by omega
        have HA := Lib.hid (fun n => add_calls (w := w.drewN n) (h := ⟨hh.at_.below ⟨rfl, rfl, rfl, Nat.le_refl _, fun _ _ => rfl⟩, hh.dst, hh.rng, hh.hp, hh.small⟩) id t hi hn (by omega))
        have HP := Lib.hid (app_perm p hin t)
        have HS := Lib.hid (srt_ins (srt_del r2 id) (x := (id, t)) fun e he => del_ne he)
        have hll : (insL (delL L id) (id, t)).length = L.length + 1 := by rw [ins_len, del_none hin]
        clear hh p hh0 hc hL
        go_enter Try.func9, Try.ntmps9
        go_wp2_with (go_at_call 20; refine (hTick _).mono ?_; rintro e w2 ⟨rfl, rfl⟩)
        go_quiet ((go_at_call 18; exact Calls.quiet_of_same (hlen _)))
        go_wp2_with (go_at_call 22; refine (HA.out _).mono ?_; rintro e w2 ⟨rfl, hLeft⟩; have HL := Lib.hid hLeft; clear hLeft)
        go_ret
        exact ⟨rfl, HL.out.ofDrewN.does HP.out HS.out r3.1 r3.2.1 (by omega)⟩
    · obtain ⟨k, hkl, e1, hp⟩ := pl_in (H := H) (id := id) (by rw [isIn_perm p, hin])
      have hl := look_in hh.at_.map hi hp
      have e1' : c = 0 := by rw [← hc]; simp [setC, hk, hin]
      have e2 : L' = insL (delL L id) (id, t) := by rw [← hL]; unfold setL; rw [hc, e1']; rfl
      subst e1' e2
      have HM := Lib.hid (move_calls hh k hkl t)
      have HP := Lib.hid (set_perm hh.dst p hkl t)
      rw [e1] at HP HM
      have HS := Lib.hid (srt_ins (srt_del r2 id) (x := (id, t)) fun e he => del_ne he)
      have hll : (insL (delL L id) (id, t)).length = L.length := by rw [ins_len, del_len_in r2 hin]
      clear hh p hh0 hc hL hlen
      go_enter Try.func9, Try.ntmps9
      go_wp2_with (first
        | (go_at_call 20; refine (hTick _).mono ?_; rintro e w2 ⟨rfl, rfl⟩)
        | (go_at_call 21; refine HM.out.mono ?_; rintro e w2 ⟨rfl, hLeft⟩; have HL := Lib.hid hLeft; clear hLeft))
      go_ret
      exact ⟨rfl, HL.out.does HP.out HS.out r3.1 r3.2.1 (by omega)⟩
end
end Go.Proofs.Ytmmgpifidlekaaa.Timer

/-
  Layer 6 (timer): the program's timer, as its callers see it: Due; and the face.
-/
import Derived.Test.YtmmgpifidlekaaaTimerSet
import Derived.Deep.LoopGhost
namespace Go.Proofs.Ytmmgpifidlekaaa.Timer
open Go.RowKit Go.MapKept Go.ChangeMaps Go.Proofs.Ytmmgpifidlekaaa.Own Go.Proofs.Ytmmgpifidlekaaa.Hp Go.Proofs.Ytmmgpifidlekaaa.KM

theorem owns_out {S : Nat → Prop} {w w' : World} {B : Nat} {T : TypeId} {s : Nat} {v : Value} {n : Nat} {xs : List Value} (h : w.ownsRow B T s v n xs) (ho : Out S w w') (hn : ∀ g, v.ownBlock = some g → ¬ S g) : w'.ownsRow B T s v n xs := by
  obtain ⟨h1, h2⟩ := h
  refine ⟨h1, ?_⟩
  rcases h2 with h2 | ⟨g, cap, cur, rfl, hg, hh, r⟩
  · exact .inl h2
  · exact .inr ⟨g, cap, cur, rfl, hg, ho.at_ hh (hn g rfl), r⟩
theorem owns_form {w : World} {B : Nat} {T : TypeId} {s : Nat} {v : Value} {n : Nat} {xs : List Value} (h : w.ownsRow B T s v n xs) : ∃ p c, v = .slice p n c := by
  rcases h.2 with ⟨rfl, rfl⟩ | ⟨g, cap, cur, rfl, _⟩
  · exact ⟨none, 0, rfl⟩
  · exact ⟨_, _, rfl⟩

/-- what stands where, in Due -/
structure DueP (w wr : World) (bs : Nat → Prop) (tb : Nat) (most : Int) (R : List Ent) (O : List Int) (v : Value) : Prop where
  t : ∃ bs', IsT wr bs' tb most R ∧ (∀ k, bs' k → bs k ∨ w.heap.size ≤ k) ∧ ∀ g, v.ownBlock = some g → ¬ bs' g
  out : Out bs w wr
  own : wr.ownsRow w.heap.size 3 1 v O.length (iv O)

theorem DueP.take {w wr w1 : World} {bs : Nat → Prop} {tb mb : Nat} {most : Int} {x : Ent} {R : List Ent} {O : List Int} {v : Value} {pv : Option Addr} {M : List Ent}
    (out : Out bs w wr) (own : wr.ownsRow w.heap.size 3 1 v O.length (iv O)) (h1 : ∀ k, Bl tb mb pv k → bs k ∨ w.heap.size ≤ k) (h2 : ∀ g, v.ownBlock = some g → ¬ Bl tb mb pv g)
    (hl : Left (Bl tb mb pv) wr w1 tb mb most M) (p : M.Perm R) (s : Srt (x :: R)) (r3 : 1 ≤ most ∧ most ≤ 4096 ∧ ((x :: R).length : Int) ≤ most) : DueP w w1 bs tb most R O v := by
  obtain ⟨pv', c', H', hh, p', o', hn⟩ := hl
  have e : R.length + 1 = (x :: R).length := rfl
  refine ⟨⟨Bl tb mb pv', ⟨mb, pv', c', H', hh, p'.trans p, ⟨(List.pairwise_cons.1 s.1).2, (List.pairwise_cons.1 s.2).2⟩, ⟨r3.1, r3.2.1, by omega⟩, rfl⟩, ?_, ?_⟩, out.trans o' fun k hk h => ?_, owns_out own o' h2⟩
  · intro k hk
    rcases hk with rfl | rfl | hk
    · exact h1 _ (.inl rfl)
    · exact h1 _ (.inr (.inl rfl))
    · rcases hn k hk with h | h
      · exact h1 _ h
      · exact .inr (Nat.le_trans out.size h)
  · intro g hg hk
    have lt := World.ownsRow.lt own g hg
    rcases hk with rfl | rfl | hk
    · exact h2 _ hg (.inl rfl)
    · exact h2 _ hg (.inr (.inl rfl))
    · rcases hn g hk with h | h
      · exact h2 _ hg h
      · have := lt.2; omega
  · rcases h1 k h with h | h
    · exact h
    · omega
theorem DueP.add {w wr w1 : World} {bs : Nat → Prop} {tb : Nat} {most : Int} {R : List Ent} {O : List Int} {v : Value} {y : Int} {o : Obj} {g cap : Nat} (h : DueP w wr bs tb most R O v)
    (ho : w1.ownsRow w.heap.size 3 1 (.slice (some ⟨g, 0, none⟩) (O.length + 1) cap) (O.length + 1) (iv O ++ [.int .i64 y])) (hg : (wr.alloc o).grownBy w1 v.ownBlock) (hat : v.ownBlock = some g ∨ g = (wr.alloc o).heap.size) :
    DueP w w1 bs tb most R (O ++ [y]) (.slice (some ⟨g, 0, none⟩) (O.length + 1) cap) := by
  obtain ⟨⟨bs', ht, h1, h2⟩, out, own⟩ := h
  have hb : Out (fun k => v.ownBlock = some k) wr w1 :=
    ⟨by rw [hg.os]; rfl, by rw [hg.tape]; rfl, by rw [hg.output]; rfl, by have := hg.size; simp at this; omega, fun k hk hn => (hg.block k (by simp; omega) (fun e => hn e.symm)).trans (Below.heap_alloc _ _ _ hk)⟩
  refine ⟨⟨bs', ht.out hb fun k hk e => h2 k e hk, h1, fun g' hg' hk => ?_⟩, out.trans hb fun k hk e => ?_, by rw [List.length_append, iv_app]; exact ho⟩
  · have e : g = g' := by simpa [Value.ownBlock] using hg'
    subst e
    rcases hat with e | e
    · exact h2 _ e hk
    · obtain ⟨mb, pv, c, H, hh, _, _, _, rfl⟩ := ht
      have := hh.at_.blocks _ hk
      simp at e; omega
  · have := (World.ownsRow.lt own k e).1; omega

theorem DueP.done {w wr : World} {bs : Nat → Prop} {tb : Nat} {most : Int} {R D : List Ent} {v : Value} (h : DueP w wr bs tb most R (D.map (·.1)) v) :
    ∃ p c, Ending.returned v = .returned (.slice p D.length c) ∧ wr.ownsRow w.heap.size 3 1 (.slice p D.length c) D.length (iv (D.map (·.1))) ∧ Does IsT w bs wr tb most R := by
  obtain ⟨⟨bs', ht, h1, _⟩, out, own⟩ := h
  rw [List.length_map] at own
  obtain ⟨p, c, rfl⟩ := owns_form own
  exact ⟨p, c, rfl, own, bs', ht, out, h1⟩

theorem field_zero (a b : Value) (w : World) : (Instr.field 67 (.agg #[a, b]) 0).run Try.prog w = .ok a w := by kernel_rfl
theorem due_is {w : World} {bs : Nat → Prop} {tb : Nat} {most : Int} {L : List Ent} (now : Int) (h : IsT w bs tb most L) (_ : i64 now) {D L' : List Ent} (hD : due L now = D) (hL : rest L now = L') :
    Calls Try.prog 14 #[.pointer (some ⟨tb, 0, none⟩), .int .i64 now] w fun e w' => ∃ p c, e = .returned (.slice p D.length c) ∧ w'.ownsRow w.heap.size 3 1 (.slice p D.length c) D.length (iv (D.map (·.1))) ∧ Does IsT w bs w' tb most L' := by
  obtain ⟨i0, hi, hz0, hz1, hz2⟩ := info_parts info_int
  have hfz := field_zero
  have hsm : L.length ≤ 4096 := by
    obtain ⟨mb, pv, c, H, hh, p, _, r3, _⟩ := h
    omega
  go_enter Try.func14, Try.ntmps14
  go_wp2_with fail
  go_loopg [5] L.length (fun g v wr => ∃ R O, g = List.length R ∧ Hid (due L now = O ++ due R now) ∧ Hid (rest L now = rest R now) ∧ R.length ≤ L.length ∧ O.length + R.length ≤ L.length ∧ Hid (DueP w wr bs tb most R (O.map (·.1)) v))
  case atStart => exact ⟨L, [], rfl, rfl, rfl, Nat.le_refl _, by simp, ⟨bs, h, fun _ h => .inl h, fun g hg => by cases hg⟩, Out.refl _ _, World.ownsRow_nil _ _ _ _⟩
  case round =>
    obtain ⟨R, O, rfl, HD, HR, hrl, hol, HP⟩ := hrel
    obtain ⟨bs', ht, h1, h2⟩ := HP.out.t
    have hlen := tlen ht
    have hown := HP.out.own
    have hout := HP.out.out
    cases R with
    | nil =>
      clear ht h1 h2 hown hout
      go_wp2_with (go_at_call 18; refine hlen.mono ?_; rintro e w' ⟨rfl, rfl⟩)
      go_ret
      have e1 : D = O := by rw [← hD, HD.out]; simp [due]
      have e2 : L' = [] := by rw [← hL, HR.out]; rfl
      subst e1 e2
      exact HP.out.done
    | cons x R =>
      obtain ⟨mb, pv, c, H, hh, p, r2, r3, rfl⟩ := ht
      have hn := p.length_eq
      have htop := top_is hh.hp p r2 (by simp)
      have e0 : gt (x :: R) 0 = x := rfl
      rw [e0] at htop
      have b0 := (at_cell hh.at_.box 0 : _ = some _)
      have hk : 0 < H.length := by simp at hn; omega
      rcases hh.at_.q with ⟨_, _, rr⟩ | ⟨qb, rfl, Rw, _, _⟩
      · rw [rr] at hk; simp at hk
      · obtain ⟨_, a2⟩ := Rw.cell hk
        rw [htop] at a2
        have a2 : wr.cell? ⟨qb, 1, none⟩ = some (.int .i64 x.2) := by simpa using a2
        have k1 : (0 : Int) < (H.length : Int) := by omega
        have hl' : ((x :: R).length : Int) = (R.length : Int) + 1 := by simp
        have q1 : (0 : Int) < (R.length : Int) + 1 := by omega
        have hr1 : R.length + 1 ≤ L.length := by simpa using hrl
        have hr2 : O.length + (R.length + 1) ≤ L.length := by simpa using hol
        rw [hl'] at hlen
        have HRem := Lib.hid (remove_acts hh 0 hk)
        have HE := Lib.hid (erase_perm hh.dst p hk)
        rw [htop] at HRem HE
        have HE2 : Hid ((H.eraseIdx 0).Perm R) := by
          refine Lib.hid (HE.out.trans ?_)
          have : delL (x :: R) x.1 = R := by
            unfold delL
            rw [List.filter_cons, if_neg (by simp)]
            exact List.filter_eq_self.2 fun e he => by simpa using ((List.pairwise_cons.1 r2.2).1 e he).symm
          rw [this]
        have HT := Lib.hid (fun w1 hl => DueP.take (w1 := w1) (x := x) hout hown h1 h2 hl HE2.out r2 r3)
        clear hh p htop e0 HE hown hout h1 h2 hl' hrl hol Rw r2
        by_cases hle : x.2 ≤ now
        · have HD2 := Lib.hid (show due L now = (O ++ [x]) ++ due R now by rw [HD.out, due_cons, if_pos hle]; simp)
          have HR2 := Lib.hid (show rest L now = rest R now by rw [HR.out, rest_cons, if_pos hle])
          obtain ⟨y, z⟩ := x
          simp only at a2 hle HRem
          go_wp2_with (first
            | (go_at_call 18; refine hlen.mono ?_; rintro e w' ⟨rfl, rfl⟩)
            | (go_at_call 23; refine HRem.out.mono ?_; rintro e w2 ⟨rfl, hLeft⟩; have P2 := Lib.hid (HT.out _ hLeft); clear hLeft; have own2 := P2.out.own)
            | (at_builtin; refine wpList_append_lies _ rfl (.tmp 21) (.tmp 27) 39 rfl w.heap.size 3 i0 _ 1 8 Try.underlying39 hi hz0 hz1 hz2 rfl (by decide) _ _ _ rfl (World.ownsRow.alloc own2 _) ⟨w2.heap.size, 0, none⟩ 1 1 [.int .i64 y] rfl rfl (one_new _ _ _ _ rfl) (by intro u hu; simp at hu; subst hu; rfl) (by omega) (by simp; unfold maxLen; omega) (by simp; omega) (by have := P2.out.out.size; simp; omega) _ rfl ?_; intro g cap w3 own3 grow3 at3 _; have P3' := P2.out.add own3 grow3 at3; rw [List.length_map] at P3'; have P3 := Lib.hid P3'; clear P3'))
          go_roundg R.length
          case rel => exact ⟨R, O ++ [(y, z)], rfl, HD2, HR2, by omega, by simp; omega, by rw [List.map_append, List.map_cons, List.map_nil]; exact P3⟩
          case measure => simp
        · have HD2 := Lib.hid (show due L now = O by rw [HD.out, due_cons, if_neg hle]; simp)
          have HR2 := Lib.hid (show rest L now = x :: R by rw [HR.out, rest_cons, if_neg hle])
          obtain ⟨y, z⟩ := x
          simp only at a2 hle
          go_wp2_with (go_at_call 18; refine hlen.mono ?_; rintro e w' ⟨rfl, rfl⟩)
          go_ret
          have e1 : D = O := by rw [← hD, HD2.out]
          have e2 : L' = (y, z) :: R := by rw [← hL, HR2.out]
          subst e1 e2
          exact HP.out.done

/-- the program's timer has the face that the laws are walked over -/
theorem face : Face IsT where
  blocks := by
    rintro w bs tb most L ⟨mb, pv, c, H, hh, _, _, _, rfl⟩
    exact hh.at_.blocks
  out := fun h ho hs => h.out ho hs
  fits := by
    rintro w bs tb most L ⟨mb, pv, c, H, hh, _, r2, r3, _⟩
    exact ⟨by omega, r2⟩
  new_some := new_some
  new_none := new_none
  set_ := fun id t h hi ht _ _ hc hl => set_is id t h hi ht hc hl
  cancel := fun id h hi _ _ hc hl => cancel_is id h hi hc hl
  due_ := fun now h hn _ _ hd hl => due_is now h hn hd hl
  len_ := fun h => (tlen h).mono fun _ _ ⟨a, b⟩ => ⟨a, 0, b⟩
  at_ := fun id h hi => at_is id h hi
  next := fun h => next_is h
  set_nil := fun id t w _ _ => set_nil id t w
  cancel_nil := fun id w _ => cancel_nil id w
  due_nil := fun now w _ => due_nil now w
  len_nil := fun w => (len_nil w).mono fun _ _ ⟨a, b⟩ => ⟨a, b ▸ Below.refl _ _⟩
  at_nil := fun id w _ => at_nil id w
  next_nil := next_nil
end Go.Proofs.Ytmmgpifidlekaaa.Timer

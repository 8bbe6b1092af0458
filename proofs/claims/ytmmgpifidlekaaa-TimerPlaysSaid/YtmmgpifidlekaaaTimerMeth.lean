/-
  Layer 6 (timer): the heap's methods, as container/heap finds and uses them.
-/
import Derived.Test.YtmmgpifidlekaaaTimerPush
namespace Go.Proofs.Ytmmgpifidlekaaa.Timer
open Go.RowKit Go.Proofs.Ytmmgpifidlekaaa.Own Go.Proofs.Ytmmgpifidlekaaa.Hp Go.Proofs.Ytmmgpifidlekaaa.KM

/-- what a type's table says of a method by its name -/
noncomputable def rowOf (T : TypeId) (name : String) : Option (Bool × Option (FuncId × Bool)) :=
  (Try.prog.info? T).bind fun I => (I.methods.find? (fun x => x.name == name)).map fun m => (m.path.isEmpty, m.func)

theorem find_ptr {w : World} {T E : TypeId} {name : String} {f : FuncId} (hr : rowOf T name = some (true, some (f, true))) (hu : Try.prog.underlying T = some (.pointer E)) {v : Value} (n : Nat) :
    (method (n + 1) T v name).run Try.prog w = .ok (f, v) w := by
  unfold rowOf at hr
  cases hI : Try.prog.info? T with
  | none => simp [hI] at hr
  | some I =>
    simp only [hI, Option.bind_some, Option.map_eq_some_iff, Prod.mk.injEq] at hr
    obtain ⟨m, hm, hp, hf⟩ := hr
    have hp' : m.path = #[] := by simpa using hp
    unfold method
    simp [go_sem, typeInfo, hI, hm, hf, hp', follow, receiverAt, run_underlying hu, Place.get]

theorem find_less {w : World} {v : Value} : (method (Try.prog.types.size + 100) 69 v "Less").run Try.prog w = .ok (46, v) w :=
  find_ptr (by kernel_rfl) Try.underlying69 _
theorem find_swap {w : World} {v : Value} : (method (Try.prog.types.size + 100) 69 v "Swap").run Try.prog w = .ok (49, v) w :=
  find_ptr (by kernel_rfl) Try.underlying69 _
theorem find_len {w : World} {v : Value} : (method (Try.prog.types.size + 100) 69 v "Len").run Try.prog w = .ok (24, v) w :=
  find_ptr (by kernel_rfl) Try.underlying69 _
theorem find_push {w : World} {v : Value} : (method (Try.prog.types.size + 100) 69 v "Push").run Try.prog w = .ok (48, v) w :=
  find_ptr (by kernel_rfl) Try.underlying69 _
theorem find_pop {w : World} {v : Value} : (method (Try.prog.types.size + 100) 69 v "Pop").run Try.prog w = .ok (47, v) w :=
  find_ptr (by kernel_rfl) Try.underlying69 _

/-- the heap as container/heap sees it: from w0 on, with blocks of S, and new ones, alone turned -/
def Rep (w0 : World) (tb mb : Nat) (most : Int) (S : Nat → Prop) (L0 : List Ent) (w : World) (l : List Ent) : Prop :=
  S tb ∧ S mb ∧ ∃ qb c, l.Perm L0 ∧ TAt w tb mb most (some ⟨qb, 0, none⟩) c l (pl l) l.length ∧ Out S w0 w ∧ (S qb ∨ w0.heap.size ≤ qb)

theorem TAt.row {w : World} {tb mb qb c n : Nat} {most : Int} {L : List Ent} {f : Int → Option Value} (h : TAt w tb mb most (some ⟨qb, 0, none⟩) c L f n) : Row w qb c L ∧ qb ≠ tb ∧ qb ≠ mb := by
  rcases h.q with ⟨r, _, _⟩ | ⟨qb', r, Q⟩
  · cases r
  · cases r; exact Q
theorem bl_in {S : Nat → Prop} {N tb mb qb : Nat} (h1 : S tb) (h2 : S mb) (h3 : S qb ∨ N ≤ qb) {k : Nat} (hk : k < N) (h : Bl tb mb (some ⟨qb, 0, none⟩) k) : S k := by
  rcases h with rfl | rfl | h
  · exact h1
  · exact h2
  · cases h
    rcases h3 with h | h
    · exact h
    · omega

section
variable {w0 : World} {tb mb : Nat} {most : Int} {S : Nat → Prop} {L0 : List Ent}
theorem meth (hd : Dst L0) (hr : ∀ e ∈ L0, i64 e.1) :
    Meth (Rep w0 tb mb most S L0) 69 (.pointer (some ⟨tb, 0, none⟩)) (.pointer (some ⟨tb, 0, none⟩)) (.pointer (some ⟨tb, 0, none⟩)) 46 49 where
  findL := fun _ => find_less
  findS := fun _ => find_swap
  entersL := Go.Proofs.enters_of Try.func46 (by kernel_rfl) rfl
  entersS := Go.Proofs.enters_of Try.func49 (by kernel_rfl) rfl
  less := by
    rintro w l ⟨s1, s2, qb, c, hp, T, ho, hq⟩ i j hi hj
    refine (less_calls T T.row.1 i j hi hj).mono ?_
    rintro e w' ⟨rfl, hb⟩
    exact ⟨rfl, s1, s2, qb, c, hp, T.below hb, ho.trans (Out.ofNew (S := fun _ => False) hb) (fun _ _ h => h.elim), hq⟩
  swap := by
    rintro w l ⟨s1, s2, qb, c, hp, T, ho, hq⟩ i j hi hj
    refine (swap_calls T (dst_perm hd hp) (fun e he => hr e (hp.mem_iff.1 he)) i j hi hj).mono ?_
    rintro e w' ⟨rfl, T', o'⟩
    exact ⟨rfl, s1, s2, qb, c, (swp_perm hi hj).trans hp, T', ho.trans o' (fun _ hk h => bl_in s1 s2 hq hk h), hq⟩
theorem lens : Finds (Rep w0 tb mb most S L0) 69 (.pointer (some ⟨tb, 0, none⟩)) "Len" (.pointer (some ⟨tb, 0, none⟩)) 24 where
  find := fun _ => find_len
  enters := Go.Proofs.enters_of Try.func24 (by kernel_rfl) rfl
theorem pops : Finds (Rep w0 tb mb most S L0) 69 (.pointer (some ⟨tb, 0, none⟩)) "Pop" (.pointer (some ⟨tb, 0, none⟩)) 47 where
  find := fun _ => find_pop
  enters := Go.Proofs.enters_of Try.func47 (by kernel_rfl) rfl
theorem rep_len {w : World} {l : List Ent} (h : Rep w0 tb mb most S L0 w l) :
    Calls Try.prog 24 #[.pointer (some ⟨tb, 0, none⟩)] w fun e w' => e = .returned (.int .i64 l.length) ∧ Rep w0 tb mb most S L0 w' l := by
  obtain ⟨s1, s2, qb, c, hp, T, r⟩ := h
  exact (len_calls T).mono fun _ _ ⟨a, b⟩ => ⟨a, b ▸ ⟨s1, s2, qb, c, hp, T, r⟩⟩
end
end Go.Proofs.Ytmmgpifidlekaaa.Timer

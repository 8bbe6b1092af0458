/-
  Layer 6 (timer): what the program's timer is asked to do, as its callers see it, whatever it keeps; and the law's example over that.
-/
import Derived.Test.YtmmgpifidlekaaaTimerRef3
namespace Go.Proofs.Ytmmgpifidlekaaa.Timer
open Go.RowKit Go.Proofs.Ytmmgpifidlekaaa.Own Go.Proofs.Ytmmgpifidlekaaa.Hp

abbrev TRel := World → (Nat → Prop) → Nat → Int → List Ent → Prop
/-- a call turned the timer's blocks alone, and laid new ones -/
def Does (IsT : TRel) (w : World) (bs : Nat → Prop) (w' : World) (tb : Nat) (most : Int) (L : List Ent) : Prop :=
  ∃ bs', IsT w' bs' tb most L ∧ Out bs w w' ∧ ∀ k, bs' k → bs k ∨ w.heap.size ≤ k
def nextV : List Ent → Value
  | [] => .tuple #[.int .i64 0, .int .i64 0, .bool false]
  | e :: _ => .tuple #[.int .i64 e.1, .int .i64 e.2, .bool true]
def pt (b : Nat) : Value := .pointer (some ⟨b, 0, none⟩)

structure Face (IsT : TRel) : Prop where
  blocks : ∀ {w bs tb most L}, IsT w bs tb most L → ∀ k, bs k → k < w.heap.size
  out : ∀ {w w' bs tb most L} {S : Nat → Prop}, IsT w bs tb most L → Out S w w' → (∀ k, bs k → ¬ S k) → IsT w' bs tb most L
  fits : ∀ {w bs tb most L}, IsT w bs tb most L → L.length ≤ 4096 ∧ Srt L
  new_some : ∀ (most : Int) (w : World), 1 ≤ most → most ≤ 4096 → Calls Try.prog 7 #[.int .i64 most] w fun e w' =>
    ∃ tb bs, e = .returned (.tuple #[.pointer (some ⟨tb, 0, none⟩), .int .i64 0]) ∧ IsT w' bs tb most [] ∧ Below w.heap.size w w' ∧ ∀ k, bs k → w.heap.size ≤ k
  new_none : ∀ (most : Int) (w : World), most < 1 ∨ 4096 < most → Calls Try.prog 7 #[.int .i64 most] w fun e w' =>
    e = .returned (.tuple #[.pointer none, .int .i64 2]) ∧ Below w.heap.size w w'
  set_ : ∀ {w bs tb most L} (id t : Int), IsT w bs tb most L → i64 id → i64 t → ∀ {c : Int} {L' : List Ent}, setC L most id t = c → setL L most id t = L' →
    Calls Try.prog 9 #[.pointer (some ⟨tb, 0, none⟩), .int .i64 id, .int .i64 t] w fun e w' => e = .returned (.int .i64 c) ∧ Does IsT w bs w' tb most L'
  cancel : ∀ {w bs tb most L} (id : Int), IsT w bs tb most L → i64 id → ∀ {c : Bool} {L' : List Ent}, isIn L id = c → delL L id = L' →
    Calls Try.prog 11 #[.pointer (some ⟨tb, 0, none⟩), .int .i64 id] w fun e w' => e = .returned (.bool c) ∧ Does IsT w bs w' tb most L'
  due_ : ∀ {w bs tb most L} (now : Int), IsT w bs tb most L → i64 now → ∀ {D L' : List Ent}, due L now = D → rest L now = L' →
    Calls Try.prog 14 #[.pointer (some ⟨tb, 0, none⟩), .int .i64 now] w fun e w' => ∃ p c, e = .returned (.slice p D.length c) ∧ w'.ownsRow w.heap.size 3 1 (.slice p D.length c) D.length (iv (D.map (·.1))) ∧ Does IsT w bs w' tb most L'
  len_ : ∀ {w bs tb most L}, IsT w bs tb most L → Calls Try.prog 18 #[.pointer (some ⟨tb, 0, none⟩)] w fun e w' => e = .returned (.int .i64 L.length) ∧ ∃ n, w' = w.drewN n
  at_ : ∀ {w bs tb most L} (id : Int), IsT w bs tb most L → i64 id → Calls Try.prog 16 #[.pointer (some ⟨tb, 0, none⟩), .int .i64 id] w fun e w' => e = .returned (.tuple #[.int .i64 (whenL L id), .bool (isIn L id)]) ∧ Below w.heap.size w w'
  next : ∀ {w bs tb most L}, IsT w bs tb most L → Calls Try.prog 15 #[.pointer (some ⟨tb, 0, none⟩)] w fun e w' => e = .returned (nextV L) ∧ Below w.heap.size w w'
  set_nil : ∀ (id t : Int) (w : World), i64 id → i64 t → Calls Try.prog 9 #[.pointer none, .int .i64 id, .int .i64 t] w fun e w' => e = .returned (.int .i64 14) ∧ Below w.heap.size w w'
  cancel_nil : ∀ (id : Int) (w : World), i64 id → Calls Try.prog 11 #[.pointer none, .int .i64 id] w fun e w' => e = .returned (.bool false) ∧ Below w.heap.size w w'
  due_nil : ∀ (now : Int) (w : World), i64 now → Calls Try.prog 14 #[.pointer none, .int .i64 now] w fun e w' => ∃ p c, e = .returned (.slice p 0 c) ∧ Below w.heap.size w w'
  len_nil : ∀ (w : World), Calls Try.prog 18 #[.pointer none] w fun e w' => e = .returned (.int .i64 0) ∧ Below w.heap.size w w'
  at_nil : ∀ (id : Int) (w : World), i64 id → Calls Try.prog 16 #[.pointer none, .int .i64 id] w fun e w' => e = .returned (.tuple #[.int .i64 0, .bool false]) ∧ Below w.heap.size w w'
  next_nil : ∀ (w : World), Calls Try.prog 15 #[.pointer none] w fun e w' => e = .returned (.tuple #[.int .i64 0, .int .i64 0, .bool false]) ∧ Below w.heap.size w w'

section
variable {IsT : TRel}
theorem Face.below (F : Face IsT) {w w' : World} {bs : Nat → Prop} {tb : Nat} {most : Int} {L : List Ent} (h : IsT w bs tb most L) (hb : Below w.heap.size w w') : IsT w' bs tb most L :=
  F.out h (Out.ofNew (S := fun _ => False) hb) (fun _ _ h => h)
/-- the timer's blocks are new since W -/
def Mine (IsT : TRel) (W w : World) (tb : Nat) (most : Int) (L : List Ent) : Prop := Below W.heap.size W w ∧ ∃ bs, IsT w bs tb most L ∧ ∀ k, bs k → W.heap.size ≤ k
theorem Mine.does {W w w' : World} {bs : Nat → Prop} {tb : Nat} {most : Int} {L' : List Ent} (hB : Below W.heap.size W w) (hn : ∀ k, bs k → W.heap.size ≤ k) (h : Does IsT w bs w' tb most L') : Mine IsT W w' tb most L' := by
  obtain ⟨bs', h1, h2, h3⟩ := h
  refine ⟨hB.trans (h2.below hB.size hn), bs', h1, fun k hk => ?_⟩
  rcases h3 k hk with h | h
  · exact hn k h
  · exact Nat.le_trans hB.size h
theorem Mine.below (F : Face IsT) {W w w' : World} {tb : Nat} {most : Int} {L : List Ent} (h : Mine IsT W w tb most L) (hb : Below w.heap.size w w') : Mine IsT W w' tb most L := by
  obtain ⟨h1, bs, h2, h3⟩ := h
  exact ⟨h1.trans (hb.mono h1.size), bs, F.below h2 hb, h3⟩
theorem Mine.set_ (F : Face IsT) {W w : World} {tb : Nat} {most : Int} {L : List Ent} (h : Mine IsT W w tb most L) (id t : Int) (h1 : i64 id) (h2 : i64 t) {c : Int} {L' : List Ent} (hc : setC L most id t = c) (hl : setL L most id t = L') :
    Calls Try.prog 9 #[.pointer (some ⟨tb, 0, none⟩), .int .i64 id, .int .i64 t] w fun e w' => e = .returned (.int .i64 c) ∧ Mine IsT W w' tb most L' := by
  obtain ⟨hB, bs, hi, hn⟩ := h
  exact (F.set_ id t hi h1 h2 hc hl).mono fun _ _ ⟨a, b⟩ => ⟨a, Mine.does hB hn b⟩
theorem Mine.cancel (F : Face IsT) {W w : World} {tb : Nat} {most : Int} {L : List Ent} (h : Mine IsT W w tb most L) (id : Int) (h1 : i64 id) {c : Bool} {L' : List Ent} (hc : isIn L id = c) (hl : delL L id = L') :
    Calls Try.prog 11 #[.pointer (some ⟨tb, 0, none⟩), .int .i64 id] w fun e w' => e = .returned (.bool c) ∧ Mine IsT W w' tb most L' := by
  obtain ⟨hB, bs, hi, hn⟩ := h
  exact (F.cancel id hi h1 hc hl).mono fun _ _ ⟨a, b⟩ => ⟨a, Mine.does hB hn b⟩
theorem Mine.due_ (F : Face IsT) {W w : World} {tb : Nat} {most : Int} {L : List Ent} (h : Mine IsT W w tb most L) (now : Int) (h1 : i64 now) {D L' : List Ent} (hd : due L now = D) (hl : rest L now = L') :
    Calls Try.prog 14 #[.pointer (some ⟨tb, 0, none⟩), .int .i64 now] w fun e w' => ∃ p c, e = .returned (.slice p D.length c) ∧ w'.ownsRow W.heap.size 3 1 (.slice p D.length c) D.length (iv (D.map (·.1))) ∧ Mine IsT W w' tb most L' := by
  obtain ⟨hB, bs, hi, hn⟩ := h
  exact (F.due_ now hi h1 hd hl).mono fun _ _ ⟨p, c, a, o, b⟩ => ⟨p, c, a, owns_base o hB.size, Mine.does hB hn b⟩
theorem Mine.next (F : Face IsT) {W w : World} {tb : Nat} {most : Int} {L : List Ent} (h : Mine IsT W w tb most L) :
    Calls Try.prog 15 #[.pointer (some ⟨tb, 0, none⟩)] w fun e w' => e = .returned (nextV L) ∧ Mine IsT W w' tb most L := by
  have h' := h
  obtain ⟨hB, bs, hi, hn⟩ := h
  exact (F.next hi).mono fun _ _ ⟨a, b⟩ => ⟨a, h'.below F b⟩
theorem Mine.len_ (F : Face IsT) {W w : World} {tb : Nat} {most : Int} {L : List Ent} (h : Mine IsT W w tb most L) :
    Calls Try.prog 18 #[.pointer (some ⟨tb, 0, none⟩)] w fun e w' => e = .returned (.int .i64 L.length) ∧ Mine IsT W w' tb most L := by
  have h' := h
  obtain ⟨hB, bs, hi, hn⟩ := h
  refine (F.len_ hi).mono ?_
  rintro e w' ⟨a, m, rfl⟩
  exact ⟨a, h'.below F ⟨rfl, rfl, rfl, Nat.le_refl _, fun _ _ => rfl⟩⟩
theorem Mine.at_ (F : Face IsT) {W w : World} {tb : Nat} {most : Int} {L : List Ent} (h : Mine IsT W w tb most L) (id : Int) (h1 : i64 id) :
    Calls Try.prog 16 #[.pointer (some ⟨tb, 0, none⟩), .int .i64 id] w fun e w' => e = .returned (.tuple #[.int .i64 (whenL L id), .bool (isIn L id)]) ∧ Mine IsT W w' tb most L := by
  have h' := h
  obtain ⟨hB, bs, hi, hn⟩ := h
  exact (F.at_ id hi h1).mono fun _ _ ⟨a, b⟩ => ⟨a, h'.below F b⟩
theorem Mine.new (F : Face IsT) {W w : World} (hB : Below W.heap.size W w) (most : Int) (h1 : 1 ≤ most) (h2 : most ≤ 4096) :
    Calls Try.prog 7 #[.int .i64 most] w fun e w' => ∃ tb, e = .returned (.tuple #[.pointer (some ⟨tb, 0, none⟩), .int .i64 0]) ∧ Mine IsT W w' tb most [] :=
  (F.new_some most w h1 h2).mono fun _ _ ⟨tb, bs, a, b, c, d⟩ => ⟨tb, a, hB.trans (c.mono hB.size), bs, b, fun k hk => Nat.le_trans hB.size (d k hk)⟩

theorem i64_of {n : Int} (h : -9223372036854775808 ≤ n ∧ n ≤ 9223372036854775807) : i64 n := h

theorem none_walk0 (F : Face IsT) (hw : ∀ w, Calls Try.prog 6 #[] w fun e w' => e = .returned (.bool true) ∧ Below w.heap.size w w') (id t : Int) (h1 : i64 id) (h2 : i64 t) (w : World) :
    Calls Try.prog 5 #[.int .i64 id, .int .i64 t] w fun e w' => e = .returned (.bool true) ∧ Below w.heap.size w w' := by
  have hB := Below.refl w.heap.size w
  go_enter Try.func5, Try.ntmps5
  go_wp2_with (first
    | (go_at_call 15; refine (F.next_nil _).mono ?_; rintro e w' ⟨rfl, hb⟩; replace hB := hB.trans (hb.mono hB.size); clear hb)
    | (go_at_call 16; refine (F.at_nil _ _ h1).mono ?_; rintro e w' ⟨rfl, hb⟩; replace hB := hB.trans (hb.mono hB.size); clear hb)
    | (go_at_call 9; refine (F.set_nil _ _ _ h1 h2).mono ?_; rintro e w' ⟨rfl, hb⟩; replace hB := hB.trans (hb.mono hB.size); clear hb)
    | (go_at_call 11; refine (F.cancel_nil _ _ h1).mono ?_; rintro e w' ⟨rfl, hb⟩; replace hB := hB.trans (hb.mono hB.size); clear hb)
    | (go_at_call 18; refine (F.len_nil _).mono ?_; rintro e w' ⟨rfl, hb⟩; replace hB := hB.trans (hb.mono hB.size); clear hb)
    | (go_at_call 14; refine (F.due_nil _ _ h2).mono ?_; rintro e w' ⟨p, c, rfl, hb⟩; replace hB := hB.trans (hb.mono hB.size); clear hb)
    | (go_at_call 6; refine (hw _).mono ?_; rintro e w' ⟨rfl, hb⟩; replace hB := hB.trans (hb.mono hB.size); clear hb))
  go_ret
  exact ⟨rfl, hB⟩
end
end Go.Proofs.Ytmmgpifidlekaaa.Timer

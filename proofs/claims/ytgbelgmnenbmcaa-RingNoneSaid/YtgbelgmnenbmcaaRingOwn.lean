/-
  Layer 4 (ring): a ring of one's own: all calls in one form.
-/
import Derived.Test.YtgbelgmnenbmcaaRingPut
import Derived.Test.YtgbelgmnenbmcaaRingRef
namespace Go.Proofs.Ytgbelgmnenbmcaa.Ring
open Go.RowKit Go.Proofs.Ytgbelgmnenbmcaa.Own

/-- a ring whose blocks lie in G -/
def Owns (G : Nat → Prop) (w : World) (b most gone : Nat) (t : List UInt8) : Prop := ∃ q, IsRing w b q most gone t ∧ ∀ k, two b q k → G k

/-- what a call leaves: its answer, the ring, and all that lies outside G -/
def Does (G : Nat → Prop) (b most gone : Nat) (t : List UInt8) (v : Value) (w : World) (e : Ending) (w' : World) : Prop := e = .returned v ∧ Owns G w' b most gone t ∧ Out G w w'

def putB (most : Nat) (t s : List UInt8) : Bool := decide (t.length + s.length ≤ most)
def putT (most : Nat) (t s : List UInt8) : List UInt8 := if t.length + s.length ≤ most then t ++ s else t
def forceN (most : Nat) (t s : List UInt8) : Nat := t.length + s.length - most
def atV (t : List UInt8) (i : Int) : Int := if h : 0 ≤ i ∧ i.toNat < t.length then ((t[i.toNat]'h.2).toNat : Int) else 0
def atB (t : List UInt8) (i : Int) : Bool := decide (0 ≤ i ∧ i.toNat < t.length)

section
variable {G : Nat → Prop} {w : World} {b most gone : Nat} {t : List UInt8}

theorem Owns.same {w' : World} (h : Owns G w b most gone t) (hb : Below w.heap.size w w') : Owns G w' b most gone t := by
  obtain ⟨q, hr, hq⟩ := h
  exact ⟨q, hr.below hb, hq⟩
theorem Owns.out {w' : World} {S : Nat → Prop} (h : Owns G w b most gone t) (ho : Out S w w') (hs : ∀ k, G k → ¬ S k) : Owns G w' b most gone t := by
  obtain ⟨q, hr, hq⟩ := h
  exact ⟨q, hr.out ho fun k hk => hs k (hq k hk), hq⟩
theorem Owns.len (h : Owns G w b most gone t) : t.length ≤ most ∧ most ≤ 1048576 ∧ 1 ≤ most := by obtain ⟨q, hr, hq⟩ := h; exact hr.len
theorem below_drew {w w' : World} (h : Drew w w') : Below w.heap.size w w' := by obtain ⟨n, rfl⟩ := h; exact ⟨rfl, rfl, rfl, Nat.le_refl _, fun _ _ => rfl⟩

theorem does_of (h : Owns G w b most gone t) {v : Value} {e : Ending} {w' : World} (he : e = .returned v) (hb : Below w.heap.size w w') : Does G b most gone t v w e w' := ⟨he, h.same hb, Out.ofNew hb⟩
theorem does_now {q : Option Nat} (hq : ∀ k, two b q k → G k) (hG : ∀ k, w.heap.size ≤ k → G k) {v : Value} {e : Ending} {w' : World} {gone' : Nat} {t' : List UInt8} (he : e = .returned v) (hn : Now b q most gone' t' w w') : Does G b most gone' t' v w e w' := by
  obtain ⟨q', hr, hq', ho⟩ := hn
  refine ⟨he, ⟨q', hr, ?_⟩, ho.mono fun i _ h => hq i h⟩
  rintro k (rfl | e)
  · exact hq k (.inl rfl)
  · rcases hq' with h' | h'
    · exact hq k (.inr (h' ▸ e))
    · exact hG k (h' k e)
theorem does_at {q : Option Nat} (hq : ∀ k, two b q k → G k) {v : Value} {e : Ending} {w' : World} {gone' : Nat} {t' : List UInt8} (he : e = .returned v) (hr : IsRing w' b q most gone' t') (ho : Out (fun k => k = b) w w') : Does G b most gone' t' v w e w' :=
  ⟨he, ⟨q, hr, hq⟩, ho.mono fun i _ e => by subst e; exact hq i (.inl rfl)⟩

theorem own_len (h : Owns G w b most gone t) : Calls Try.prog 19 #[.pointer (some ⟨b, 0, none⟩)] w (Does G b most gone t (.int .i64 t.length) w) := by
  have h' := h
  obtain ⟨q, hr, hq⟩ := h
  exact (len_calls hr).mono fun e w' ⟨he, hw⟩ => does_of h' he (hw ▸ Below.refl _ _)
theorem own_gone (h : Owns G w b most gone t) : Calls Try.prog 18 #[.pointer (some ⟨b, 0, none⟩)] w (Does G b most gone t (.int .i64 gone) w) := by
  have h' := h
  obtain ⟨q, hr, hq⟩ := h
  exact (gone_calls hr).mono fun e w' ⟨he, hw⟩ => does_of h' he (hw ▸ Below.refl _ _)
theorem own_room (h : Owns G w b most gone t) : Calls Try.prog 21 #[.pointer (some ⟨b, 0, none⟩)] w (Does G b most gone t (.int .i64 ((most : Int) - t.length)) w) := by
  have h' := h
  obtain ⟨q, hr, hq⟩ := h
  exact (room_calls hr).mono fun e w' ⟨he, hw⟩ => does_of h' he (below_drew hw)
theorem own_text (h : Owns G w b most gone t) : Calls Try.prog 17 #[.pointer (some ⟨b, 0, none⟩)] w (Does G b most gone t (.string ⟨t.toArray⟩) w) := by
  have h' := h
  obtain ⟨q, hr, hq⟩ := h
  exact (text_calls hr).mono fun e w' ⟨he, hw⟩ => does_of h' he hw
theorem own_peek (h : Owns G w b most gone t) (n : Int) : Calls Try.prog 14 #[.pointer (some ⟨b, 0, none⟩), .int .i64 n] w (Does G b most gone t (.string ⟨(t.take (upto n t)).toArray⟩) w) := by
  have h' := h
  obtain ⟨q, hr, hq⟩ := h
  exact (peek_calls hr n).mono fun e w' ⟨he, hw⟩ => does_of h' he hw
theorem own_drop (h : Owns G w b most gone t) (n : Int) (hg : gone + t.length ≤ 4611686018427387904) :
    Calls Try.prog 15 #[.pointer (some ⟨b, 0, none⟩), .int .i64 n] w (Does G b most (gone + upto n t) (t.drop (upto n t)) (.int .i64 (upto n t)) w) := by
  obtain ⟨q, hr, hq⟩ := h
  exact (drop_calls hr n hg).mono fun e w' ⟨he, hw, ho⟩ => does_at hq he hw ho
theorem own_take (h : Owns G w b most gone t) (n : Int) (hg : gone + t.length ≤ 4611686018427387904) :
    Calls Try.prog 13 #[.pointer (some ⟨b, 0, none⟩), .int .i64 n] w (Does G b most (gone + upto n t) (t.drop (upto n t)) (.string ⟨(t.take (upto n t)).toArray⟩) w) := by
  obtain ⟨q, hr, hq⟩ := h
  exact (take_calls hr n hg).mono fun e w' ⟨he, hw, ho⟩ => does_at hq he hw ho
theorem own_at (h : Owns G w b most gone t) (i : Int) :
    Calls Try.prog 20 #[.pointer (some ⟨b, 0, none⟩), .int .i64 i] w (Does G b most gone t (.tuple #[.int .u8 (atV t i), .bool (atB t i)]) w) := by
  have h' := h
  obtain ⟨q, hr, hq⟩ := h
  by_cases hi : 0 ≤ i ∧ i.toNat < t.length
  · have e1 : atV t i = ((t[i.toNat]'hi.2).toNat : Int) := by unfold atV; rw [dif_pos hi]
    have e2 : atB t i = true := by unfold atB; exact decide_eq_true hi
    rw [e1, e2]
    have := at_some hr i.toNat hi.2
    rw [Int.toNat_of_nonneg hi.1] at this
    exact this.mono fun e w' ⟨he, hw⟩ => does_of h' he (below_drew hw)
  · have e1 : atV t i = 0 := by unfold atV; rw [dif_neg hi]
    have e2 : atB t i = false := by unfold atB; exact decide_eq_false hi
    rw [e1, e2]
    exact (at_none hr i (by omega)).mono fun e w' ⟨he, hw⟩ => does_of h' he (hw ▸ Below.refl _ _)
theorem own_put (h : Owns G w b most gone t) (hG : ∀ k, w.heap.size ≤ k → G k) (s : ByteArray) :
    Calls Try.prog 9 #[.pointer (some ⟨b, 0, none⟩), .string s] w (Does G b most gone (putT most t s.data.toList) (.bool (putB most t s.data.toList)) w) := by
  have h' := h
  obtain ⟨q, hr, hq⟩ := h
  have hs : s.data.toList.length = s.size := by rw [Array.length_toList]; rfl
  unfold putT putB
  rw [hs]
  by_cases hi : t.length + s.size ≤ most
  · rw [if_pos hi, decide_eq_true hi]
    exact (put_some hr s hi).mono fun e w' ⟨he, hn⟩ => does_now hq hG he hn
  · rw [if_neg hi, decide_eq_false hi]
    exact (put_none hr s (by omega)).mono fun e w' ⟨he, hw⟩ => does_of h' he (below_drew hw)
theorem own_force (h : Owns G w b most gone t) (hG : ∀ k, w.heap.size ≤ k → G k) (s : ByteArray) (hsz : s.size ≤ 9223372036854775807) (hg : gone + t.length + s.size ≤ 4611686018427387904) :
    Calls Try.prog 11 #[.pointer (some ⟨b, 0, none⟩), .string s] w (Does G b most (gone + forceN most t s.data.toList) ((t ++ s.data.toList).drop (forceN most t s.data.toList)) (.int .i64 (forceN most t s.data.toList)) w) := by
  obtain ⟨q, hr, hq⟩ := h
  have hs : s.data.toList.length = s.size := by rw [Array.length_toList]; rfl
  unfold forceN
  rw [hs]
  by_cases hi : t.length + s.size ≤ most
  · rw [Nat.sub_eq_zero_of_le hi]
    exact (force_a hr s hi (by omega)).mono fun e w' ⟨he, hn⟩ => does_now hq hG he hn
  · exact (force_b hr s _ (show t.length + s.size = most + (t.length + s.size - most) by omega) (by omega) hsz hg).mono fun e w' ⟨he, hn⟩ => does_now hq hG he hn
theorem own_new (n : Int) (h0 : 1 ≤ n) (h1 : n ≤ 1048576) (w : World) (hG : ∀ k, w.heap.size ≤ k → G k) :
    Calls Try.prog 7 #[.int .i64 n] w (Does G w.heap.size n.toNat 0 [] (.tuple #[.pointer (some ⟨w.heap.size, 0, none⟩), .int .i64 0]) w) :=
  (new_some n h0 h1 w).mono fun e w' ⟨he, hr, hb⟩ => ⟨he, ⟨none, hr, fun k hk => by rcases hk with rfl | hk; exact hG _ (Nat.le_refl _); cases hk⟩, Out.ofNew hb⟩
end

section
/-- the document's Put, both ways -/
def putA (most n : Nat) (all s : List UInt8) : List UInt8 := if n + s.length ≤ most then all ++ s else all
theorem rput_calls (all : List UInt8) (g most : Nat) (s : ByteArray) (hg : g ≤ all.length) (hl : all.length ≤ 1048576) (hs : s.size ≤ 1048576) (w : World) :
    Calls Try.prog 8 #[.agg #[.string ⟨all.toArray⟩, .int .i64 g, .int .i64 most], .string s] w fun e w' =>
      e = .returned (.tuple #[.agg #[.string ⟨(putA most (all.drop g).length all s.data.toList).toArray⟩, .int .i64 g, .int .i64 most], .bool (putB most (all.drop g) s.data.toList)]) ∧ Below w.heap.size w w' := by
  have hsl : s.data.toList.length = s.size := by rw [Array.length_toList]; rfl
  unfold putA putB
  rw [List.length_drop, hsl]
  by_cases hi : all.length - g + s.size ≤ most
  · rw [if_pos hi, decide_eq_true hi]; exact rput_some all g most s hg hl hs hi w
  · rw [if_neg hi, decide_eq_false hi]; exact rput_none all g most s hg hl hs (by omega) w
theorem putA_drop (most g : Nat) (all s : List UInt8) (hg : g ≤ all.length) : (putA most (all.drop g).length all s).drop g = putT most (all.drop g) s := by
  unfold putA putT
  split
  · rw [List.drop_append_of_le_length hg]
  · rfl
theorem putA_len (most n g : Nat) (all s : List UInt8) (hg : g ≤ all.length) : g ≤ (putA most n all s).length ∧ (putA most n all s).length ≤ all.length + s.length := by
  unfold putA
  split
  · simp; omega
  · omega
theorem upto_rupto (n : Int) (t : List UInt8) : rupto n t = upto n t := rfl
end
end Go.Proofs.Ytgbelgmnenbmcaa.Ring

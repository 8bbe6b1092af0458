/-
  Layer 20 (mark): the stamp; a marker in memory; writeLine, writeBytes, write.
-/
import Derived.Test.YtbjlnaobmgbpfaaDoorBld
import Derived.Test.YtbjlnaobmgbpfaaDoorMrkPlain
import Derived.Test.YtbjlnaobmgbpfaaDoorClockStampS
import Derived.Test.YtbjlnaobmgbpfaaDoorShowP
import Derived.Test.YtbjlnaobmgbpfaaDoorItm
import Derived.Deep.RegionHeld3
import Derived.StillTailTactics
namespace Go.Proofs.YtbjlnaobmgbpfaaDoor.Mark
open Go.RowKit Go.Proofs.YtbjlnaobmgbpfaaDoor.Own Go.Proofs.YtbjlnaobmgbpfaaDoor.Rw Go.Proofs.YtbjlnaobmgbpfaaDoor.Rec Go.Proofs.YtbjlnaobmgbpfaaDoor.Bld Go.Proofs.YtbjlnaobmgbpfaaDoor.Digit Go.Proofs.YtbjlnaobmgbpfaaDoor.Clock

theorem ret_str {a b : List UInt8} (h : a = b) : Ending.returned (.string ⟨a.toArray⟩) = .returned (.string ⟨b.toArray⟩) := by rw [h]
set_option maxHeartbeats 400000 in
theorem stamp_calls' (n : Int) (w : World) (hM : Months w) :
    Calls Tryd.prog 27 #[.int .i64 n] w fun e w' => e = .returned (.string ⟨(st n).toArray⟩) ∧ Below w.heap.size w w' := by
  have HM := Lib.hid hM
  have hl := stmp_le n
  clear hM
  go_enter Tryd.func27, Tryd.ntmps27
  go_wp2_with (go_at_call 36; refine (stamp_calls n _ HM.out).mono ?_; rintro e w1 ⟨rfl, hb⟩)
  go_ret
  exact ⟨ret_string (by simp only [bytes_add]; rfl), hb⟩

/-- a marker in memory -/
def Mk (M : Nat) (o : Bool) (w : World) : Prop := w.heap[M]? = some (.cells #[.bool o] 25 (0, 0))
theorem Mk.below {M : Nat} {o : Bool} {w w' : World} (h : Mk M o w) (hb : Below w.heap.size w w') : Mk M o w' := (hb.block M (at_lt h)).trans h
/-- a marker is no builder's block -/
theorem Mk.other {M B b : Nat} {o : Bool} {t : List UInt8} {w : World} (h : Mk M o w) (hd : Bd B b t w) : ¬ BdS b w M := by
  obtain ⟨p, h1, v, h2, h3, h4⟩ : ∃ p, Lib.BuilderAt 39 5 B b p (Lib.byteCells t) w := by
    rcases hd with h | h
    · exact ⟨_, h⟩
    · exact ⟨_, h⟩
  unfold Mk at h
  rintro (rfl | ⟨p', v', e, hk⟩)
  · rw [h2] at h
    have h := Option.some.inj h
    injection h with _ h _
    exact absurd h (by decide)
  · rw [h2] at e
    have e := Option.some.inj e
    injection e with e1 _ _
    have : v = v' := by injection e1 with e1; injection e1 with _ e1; injection e1
    subst this
    rcases h3.2 with ⟨rfl, _⟩ | ⟨g, cap, cur, rfl, _, hh, _⟩
    · cases hk
    · obtain rfl : g = M := by simpa [Value.ownBlock] using hk
      rw [hh] at h
      have h := Option.some.inj h
      injection h with _ h _
      exact absurd h (by decide)
/-- what a step of a marker and its builder writes -/
def WS (B M k : Nat) : Prop := k = M ∨ B ≤ k
theorem Bd.base {B b : Nat} {t : List UInt8} {w : World} (h : Bd B b t w) {k : Nat} (hk : BdS b w k) : B ≤ k := (Bd.lt h hk).1
theorem Bd.outM {B b M : Nat} {o : Bool} {t : List UInt8} {w w' : World} (h : Bd B b t w) (hm : Mk M o w) (ho : Out (fun k => k = M) w w') : Bd B b t w' := by
  have hn := hm.other h
  have key : ∀ p, Lib.BuilderAt 39 5 B b p (Lib.byteCells t) w → Lib.BuilderAt 39 5 B b p (Lib.byteCells t) w' := by
    rintro p ⟨h1, v, h2, h3, h4⟩
    refine ⟨h1, v, ho.at_ h2 (fun e => hn (.inl e.symm)), Tree.own_out h3 ho fun k hk e => hn (.inr ⟨p, v, h2, e ▸ hk⟩), h4⟩
  exact h.imp (key _) (key _)

/-- the table stands in block 0 -/
theorem months_out {S : Nat → Prop} {w w' : World} (h : Months w) (ho : Out S w w') (h0 : ¬ S 0) : Months w' := fun i hi => by
  have hc := h i hi
  have hlt : 0 < w.heap.size := by
    by_cases e : 0 < w.heap.size
    · exact e
    · have : w.heap[0]? = none := Array.getElem?_eq_none (by omega)
      simp [World.cell?, this] at hc
  rw [ho.cell (p := ⟨0, i, none⟩) hlt h0]; exact hc
theorem months_size {w : World} (h : Months w) : 0 < w.heap.size := by
  have hc := h 0 (by omega)
  by_cases e : 0 < w.heap.size
  · exact e
  · have : w.heap[0]? = none := Array.getElem?_eq_none (by omega)
    simp [World.cell?, this] at hc
theorem Mk.pos {M : Nat} {o : Bool} {w : World} (h : Mk M o w) (hM : Months w) : 0 ≠ M := by
  rintro rfl
  have h1 := hM 0 (by omega)
  rw [at_cell h 0] at h1
  simp at h1

/-- what a call that writes text tells -/
structure WrPost (B b M : Nat) (acc t : List UInt8) (o : Bool) (w w' : World) : Prop where
  bd : Bd B b (acc ++ t) w'
  mkr : Mk M o w'
  out : Out (WS B M) w w'
  mon : Months w'
  pos : 0 < B
  low : B ≤ w'.heap.size
theorem WrPost.start {B b M : Nat} {acc : List UInt8} {o : Bool} {w : World} (hd : Bd B b acc w) (hm : Mk M o w) (hM : Months w) (h0 : 0 < B) (hB : B ≤ w.heap.size) : WrPost B b M acc [] o w w := ⟨by rwa [List.append_nil], hm, Out.refl _ _, hM, h0, hB⟩
theorem WrPost.below {B b M : Nat} {acc t : List UInt8} {o : Bool} {w w1 w2 : World} (h : WrPost B b M acc t o w w1) (hb : Below w1.heap.size w1 w2) : WrPost B b M acc t o w w2 :=
  ⟨h.bd.below hb, h.mkr.below hb, h.out.trans (Out.ofNew (S := fun _ => False) hb) fun _ _ h => h.elim, h.mon.below hb, h.pos, Nat.le_trans h.low hb.size⟩
theorem WrPost.more {B b M : Nat} {acc t u : List UInt8} {o : Bool} {w w1 w2 : World} (h : WrPost B b M acc t o w w1) (hd : Bd B b (acc ++ t ++ u) w2) (ho : Out (BdS b w1) w1 w2) : WrPost B b M acc (t ++ u) o w w2 :=
  ⟨by rwa [← List.append_assoc], ho.at_ h.mkr (h.mkr.other h.bd), h.out.trans ho fun k _ hk => .inr (Bd.base h.bd hk), months_out h.mon ho fun e => by have := Bd.base h.bd e; have := h.pos; omega, h.pos, Nat.le_trans h.low ho.size⟩
theorem WrPost.set {B b M : Nat} {acc t : List UInt8} {o : Bool} {w w1 : World} (h : WrPost B b M acc t o w w1) (o' : Bool) : WrPost B b M acc t o' w (w1.setCell ⟨M, 0, none⟩ (.bool o')) :=
  have ho : Out (fun k => k = M) w1 (w1.setCell ⟨M, 0, none⟩ (.bool o')) := (Out.refl (fun k => k = M) _).setCell (p := ⟨M, 0, none⟩) (fun _ => rfl) _
  ⟨Bd.outM h.bd h.mkr ho, by have := at_set h.mkr 0 (.bool o'); simpa [Mk] using this, h.out.setCell (p := ⟨M, 0, none⟩) (fun _ => .inl rfl) _, months_out h.mon ho (h.mkr.pos h.mon), h.pos, Nat.le_trans h.low ho.size⟩
theorem WrPost.trans {B b M : Nat} {acc t u : List UInt8} {o o' : Bool} {w w1 w2 : World} (h : WrPost B b M acc t o w w1) (h2 : WrPost B b M (acc ++ t) u o' w1 w2) : WrPost B b M acc (t ++ u) o' w w2 :=
  ⟨by rw [← List.append_assoc]; exact h2.bd, h2.mkr, h.out.trans h2.out fun _ _ h => h, h2.mon, h.pos, h2.low⟩
theorem Mk.cell {M : Nat} {o : Bool} {w : World} (h : Mk M o w) : w.cell? ⟨M, 0, none⟩ = some (.bool o) := at_cell h 0
theorem Mk.froz {M : Nat} {o : Bool} {w : World} (h : Mk M o w) : w.frozen? ⟨M, 0, none⟩ = false := at_frozen h 0

/-- a builder's WriteString, told so -/
theorem WrPost.wstr {B b M : Nat} {acc t u : List UInt8} {o : Bool} {w w1 : World} (h : WrPost B b M acc t o w w1) (hl : (acc ++ t).length + u.length ≤ 140737488355328) :
    Calls Tryd.prog 20 #[.pointer (some ⟨b, 0, none⟩), .string ⟨u.toArray⟩] w1 fun e w2 => e = .returned (.tuple #[.int .i64 u.length, .nilIface]) ∧ WrPost B b M acc (t ++ u) o w w2 := by
  have hz : (⟨u.toArray⟩ : ByteArray).size = u.length := List.size_toArray ..
  refine (wstr_calls B b (acc ++ t) ⟨u.toArray⟩ w1 h.bd (by rw [hz]; exact hl) h.low).mono ?_
  rintro e w2 ⟨rfl, h1, h2, h3⟩
  exact ⟨by rw [hz], h.more h1 h3⟩
theorem WrPost.wbyte {B b M : Nat} {acc t : List UInt8} {c : UInt8} {o : Bool} {w w1 : World} (h : WrPost B b M acc t o w w1) (hl : (acc ++ t).length + 1 ≤ 140737488355328) :
    Calls Tryd.prog 28 #[.pointer (some ⟨b, 0, none⟩), .int .u8 c.toNat] w1 fun e w2 => e = .returned .nilIface ∧ WrPost B b M acc (t ++ [c]) o w w2 := by
  refine (wbyte_calls B b (acc ++ t) c w1 h.bd hl h.low).mono ?_
  rintro e w2 ⟨rfl, h1, h2, h3⟩
  exact ⟨rfl, h.more h1 h3⟩
theorem WrPost.stamp {B b M : Nat} {acc t : List UInt8} {o : Bool} {w w1 : World} (h : WrPost B b M acc t o w w1) (n : Int) :
    Calls Tryd.prog 27 #[.int .i64 n] w1 fun e w2 => e = .returned (.string ⟨(st n).toArray⟩) ∧ WrPost B b M acc t o w w2 := by
  refine (stamp_calls' n w1 h.mon).mono ?_
  rintro e w2 ⟨rfl, h1⟩
  exact ⟨rfl, h.below h1⟩

end Go.Proofs.YtbjlnaobmgbpfaaDoor.Mark

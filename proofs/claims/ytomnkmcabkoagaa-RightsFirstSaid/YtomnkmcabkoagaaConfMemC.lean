/-
  Layer 15 (conf): configurations in memory.
-/
import Derived.Test.YtomnkmcabkoagaaConfCf
import Derived.Test.YtomnkmcabkoagaaOwnOut
import Derived.Test.YtomnkmcabkoagaaProg
import Derived.WalkLawsBesides
import Derived.Laws.OwnMore
namespace Go.Proofs.Ytomnkmcabkoagaa.Conf
open Go.RowKit Go.Proofs.Ytomnkmcabkoagaa.Own Go.Proofs.Ytomnkmcabkoagaa.Rw Go.Proofs.Ytomnkmcabkoagaa.Tree

def intOf : Value → Int
  | .int _ n => n
  | _ => 0
def cnv (x : Cn) : List Value := [str x.name, .int .i64 x.kind, .int .i64 x.lines, .int .i64 x.bytes, .int .i64 x.gens, .int .i64 x.size, .int .i64 x.base, .int .i64 x.cap, .int .i64 x.jit, str x.init]
def cnV (x : Cn) : Value := .agg #[.string ⟨x.name.toArray⟩, .int .i64 x.kind, .int .i64 x.lines, .int .i64 x.bytes, .int .i64 x.gens, .int .i64 x.size, .int .i64 x.base, .int .i64 x.cap, .int .i64 x.jit, .string ⟨x.init.toArray⟩]
def urv (u : Bs × Bs) : List Value := [str u.1, str u.2]
def acv (a : Bs × Bs × Int) : List Value := [str a.1, str a.2.1, .int .i64 a.2.2]

section
variable {α : Type} {f : α → List Value} {k : Nat}
theorem fm_len (hf : ∀ x, (f x).length = k) (L : List α) : (L.flatMap f).length = L.length * k := by
  induction L with
  | nil => simp
  | cons x r ih => rw [List.flatMap_cons, List.length_append, ih, hf, List.length_cons, Nat.succ_mul]; omega
theorem fm_get (hf : ∀ x, (f x).length = k) {L : List α} {i : Nat} (h : i < L.length) (j : Nat) (hj : j < k) : (L.flatMap f)[i * k + j]? = (f L[i])[j]? := by
  induction L generalizing i with
  | nil => simp at h
  | cons x r ih =>
    rw [List.flatMap_cons]
    cases i with
    | zero => rw [List.getElem?_append_left (by rw [hf]; omega)]; simp
    | succ i =>
      rw [List.getElem?_append_right (by rw [hf, Nat.succ_mul]; omega), hf, show (i + 1) * k + j - k = i * k + j by rw [Nat.succ_mul]; omega]
      exact ih (by simpa using h)
theorem fm_app (L M : List α) : (L ++ M).flatMap f = L.flatMap f ++ M.flatMap f := by simp
theorem fm_one (x : α) : [x].flatMap f = f x := by simp
end
theorem cnv_len (x : Cn) : (cnv x).length = 10 := rfl
theorem urv_len (x : Bs × Bs) : (urv x).length = 2 := rfl
theorem acv_len (x : Bs × Bs × Int) : (acv x).length = 3 := rfl

/-- a slice of rows of k cells, to be read -/
structure Rd (w : World) (k : Nat) (p : Option Addr) (c n : Nat) (xs : List Value) : Prop where
  cap : n ≤ c
  max : c ≤ maxLen
  len : xs.length = n * k
  cells : n = 0 ∨ ∃ b o, p = some ⟨b, o, none⟩ ∧ b < w.heap.size ∧ ∀ j x, xs[j]? = some x → w.cell? ⟨b, o + j, none⟩ = some x
theorem Rd.below {w w' : World} {k : Nat} {p : Option Addr} {c n : Nat} {xs : List Value} (h : Rd w k p c n xs) (hb : Below w.heap.size w w') : Rd w' k p c n xs :=
  ⟨h.cap, h.max, h.len, h.cells.imp id fun ⟨b, o, e, hl, g⟩ => ⟨b, o, e, Nat.lt_of_lt_of_le hl hb.size, fun j x hx => (hb.cell (p := ⟨b, o + j, none⟩) hl).trans (g j x hx)⟩⟩
theorem own_rd {w : World} {B k n : Nat} {e : TypeId} {v : Value} {xs : List Value} (h : w.ownsRow B e k v n xs) : ∃ p c, v = .slice p n c ∧ Rd w k p c n xs := by
  have hc := @World.ownsRow.cells _ _ _ _ _ _ _ h
  have hl := h.1
  rcases h.2 with ⟨rfl, h0⟩ | ⟨g, cap, cur, rfl, _, hh, h3, h4, _⟩
  · obtain rfl : n = 0 := h0
    exact ⟨none, 0, rfl, Nat.le_refl _, by unfold maxLen; omega, hl, .inl rfl⟩
  · refine ⟨_, cap, rfl, h3, h4, hl, .inr ⟨g, 0, rfl, at_lt hh, fun j x hx => ?_⟩⟩
    have := hc (g := g) rfl j x hx
    rw [add0] at this
    rw [Nat.zero_add]; exact this

/-- texts that lie in blocks below B -/
structure TxB (B : Nat) (w : World) (p : Option Addr) (c : Nat) (ts : List Bs) : Prop where
  tx : Texts w p c ts
  low : ∀ a, p = some a → a.block < B
  nil : p = none → c = 0
theorem TxB.keep {B : Nat} {w w' : World} {p : Option Addr} {c : Nat} {ts : List Bs} (h : TxB B w p c ts) (hb : Below B w w') : TxB B w' p c ts := by
  refine ⟨⟨h.tx.row.cap, h.tx.row.max, ?_⟩, h.low, h.nil⟩
  rcases h.tx.row.cells with h0 | ⟨b, o, rfl, hl, k⟩
  · exact .inl h0
  · have hlt := h.low _ rfl
    exact .inr ⟨b, o, rfl, Nat.lt_of_lt_of_le hl hb.size, fun i x hx => (World.cell?_of_block (a := ⟨b, o + i, none⟩) (hb.block b hlt)).trans (k i x hx)⟩
theorem TxB.up {B B' : Nat} {w : World} {p : Option Addr} {c : Nat} {ts : List Bs} (h : TxB B w p c ts) (hB : B ≤ B') : TxB B' w p c ts := ⟨h.tx, fun a e => Nat.lt_of_lt_of_le (h.low a e) hB, h.nil⟩
theorem TxB.cells {B : Nat} {w : World} {p : Option Addr} {c : Nat} {ts : List Bs} (h : TxB B w p c ts) (hn : ts ≠ []) : ∃ b o, p = some ⟨b, o, none⟩ ∧ b < B ∧ b < w.heap.size ∧ ∀ i (hi : i < ts.length), w.cell? ⟨b, o + i, none⟩ = some (str ts[i]) := by
  rcases h.tx.cells with h0 | ⟨b, o, rfl, hl, k⟩
  · exact absurd h0 hn
  · exact ⟨b, o, rfl, h.low _ rfl, hl, k⟩
theorem own_txB {B : Nat} {w : World} {p : Option Addr} {n c : Nat} {ts : List Bs} (h : w.ownsRow 0 9 1 (.slice p n c) n (strs ts)) (hn : n = ts.length) (hl : ∀ k, (Value.slice p n c).ownBlock = some k → k < B) : TxB B w p c ts := by
  have h0 : p = none → c = 0 := fun e => by
    subst e
    rcases h.2 with ⟨hv, _⟩ | ⟨g, cap, cur, hv, _⟩
    · injection hv
    · injection hv with e; cases e
  obtain ⟨p', c', e, ht⟩ := texts_own h hn
  injection e with e1 _ e2
  subst e1 e2
  exact ⟨ht, fun a ha => hl a.block (by rw [ha]; rfl), h0⟩

/-- groups as cells, their patterns in blocks below B -/
inductive Gs (B : Nat) (w : World) : List Value → List (Bs × List Bs) → Prop
  | nil : Gs B w [] []
  | cons {nm : Bs} {ps : List Bs} {p : Option Addr} {c : Nat} {cs : List Value} {L : List (Bs × List Bs)} (h : TxB B w p c ps) (r : Gs B w cs L) : Gs B w (str nm :: .slice p ps.length c :: cs) ((nm, ps) :: L)
theorem Gs.keep {B : Nat} {w w' : World} {cs : List Value} {L : List (Bs × List Bs)} (h : Gs B w cs L) (hb : Below B w w') : Gs B w' cs L := by
  induction h with
  | nil => exact .nil
  | cons h _ ih => exact .cons (h.keep hb) ih
theorem Gs.up {B B' : Nat} {w : World} {cs : List Value} {L : List (Bs × List Bs)} (h : Gs B w cs L) (hB : B ≤ B') : Gs B' w cs L := by
  induction h with
  | nil => exact .nil
  | cons h _ ih => exact .cons (h.up hB) ih
theorem Gs.len {B : Nat} {w : World} {cs : List Value} {L : List (Bs × List Bs)} (h : Gs B w cs L) : cs.length = L.length * 2 := by
  induction h with
  | nil => rfl
  | cons _ _ ih => simp only [List.length_cons]; omega
theorem Gs.app {B : Nat} {w : World} {cs ds : List Value} {L M : List (Bs × List Bs)} (h : Gs B w cs L) (g : Gs B w ds M) : Gs B w (cs ++ ds) (L ++ M) := by
  induction h with
  | nil => exact g
  | cons h _ ih => exact .cons h ih
theorem Gs.one {B : Nat} {w : World} {cs : List Value} {L : List (Bs × List Bs)} (h : Gs B w cs L) : ∀ u ∈ cs, u.oneCell' = true := by
  induction h with
  | nil => intro u hu; cases hu
  | cons _ _ ih =>
    intro u hu
    rcases List.mem_cons.1 hu with rfl | hu
    · rfl
    rcases List.mem_cons.1 hu with rfl | hu
    · rfl
    · exact ih u hu
theorem Gs.at_ {B : Nat} {w : World} {cs : List Value} {L : List (Bs × List Bs)} (h : Gs B w cs L) : ∀ {i : Nat} (hi : i < L.length), ∃ p c, cs[i * 2]? = some (str L[i].1) ∧ cs[i * 2 + 1]? = some (.slice p L[i].2.length c) ∧ TxB B w p c L[i].2 := by
  induction h with
  | nil => intro i hi; simp at hi
  | @cons nm ps p c cs L h _ ih =>
    intro i hi
    cases i with
    | zero => exact ⟨p, c, rfl, rfl, h⟩
    | succ i =>
      obtain ⟨p', c', e0, e1, r⟩ := ih (i := i) (by simpa using hi)
      rw [Nat.add_mul]
      exact ⟨p', c', e0, e1, r⟩

/-- a configuration's four slices, to be read -/
structure CfR (w : World) (v0 v1 v2 v3 : Value) (c : Cf) : Prop where
  cons : ∃ p k, v0 = .slice p c.cons.length k ∧ Rd w 10 p k c.cons.length (c.cons.flatMap cnv)
  grps : ∃ p k gs, v1 = .slice p c.grps.length k ∧ Rd w 2 p k c.grps.length gs ∧ Gs w.heap.size w gs c.grps
  usrs : ∃ p k, v2 = .slice p c.usrs.length k ∧ Rd w 2 p k c.usrs.length (c.usrs.flatMap urv)
  accs : ∃ p k, v3 = .slice p c.accs.length k ∧ Rd w 3 p k c.accs.length (c.accs.flatMap acv)
theorem CfR.below {w w' : World} {v0 v1 v2 v3 : Value} {c : Cf} (h : CfR w v0 v1 v2 v3 c) (hb : Below w.heap.size w w') : CfR w' v0 v1 v2 v3 c := by
  obtain ⟨p1, k1, e1, r1⟩ := h.cons
  obtain ⟨p2, k2, gs, e2, r2, g2⟩ := h.grps
  obtain ⟨p3, k3, e3, r3⟩ := h.usrs
  obtain ⟨p4, k4, e4, r4⟩ := h.accs
  exact ⟨⟨p1, k1, e1, r1.below hb⟩, ⟨p2, k2, gs, e2, r2.below hb, (g2.keep hb).up hb.size⟩, ⟨p3, k3, e3, r3.below hb⟩, ⟨p4, k4, e4, r4.below hb⟩⟩
/-- and as rows of the call's own, the patterns in blocks below B -/
structure CfO (B : Nat) (w : World) (v0 v1 v2 v3 : Value) (c : Cf) : Prop where
  cons : w.ownsRow B 47 10 v0 c.cons.length (c.cons.flatMap cnv)
  grps : ∃ gs, w.ownsRow B 53 2 v1 c.grps.length gs ∧ Gs B w gs c.grps
  usrs : w.ownsRow B 55 2 v2 c.usrs.length (c.usrs.flatMap urv)
  accs : w.ownsRow B 50 3 v3 c.accs.length (c.accs.flatMap acv)
theorem CfO.read {B : Nat} {w : World} {v0 v1 v2 v3 : Value} {c : Cf} (h : CfO B w v0 v1 v2 v3 c) (hB : B ≤ w.heap.size) : CfR w v0 v1 v2 v3 c := by
  obtain ⟨p1, k1, e1, r1⟩ := own_rd h.cons
  obtain ⟨gs, o2, g2⟩ := h.grps
  obtain ⟨p2, k2, e2, r2⟩ := own_rd o2
  obtain ⟨p3, k3, e3, r3⟩ := own_rd h.usrs
  obtain ⟨p4, k4, e4, r4⟩ := own_rd h.accs
  exact ⟨⟨p1, k1, e1, r1⟩, ⟨p2, k2, gs, e2, r2, g2.up hB⟩, ⟨p3, k3, e3, r3⟩, ⟨p4, k4, e4, r4⟩⟩
/-- a row of one type lies in no block of another -/
theorem own_type {w : World} {B size n b : Nat} {e T : TypeId} {v : Value} {xs : List Value} {C : Array Value} {fr : Nat × Nat} (h : w.ownsRow B e size v n xs) (hb : w.heap[b]? = some (.cells C T fr)) (hT : e ≠ T) : v.ownBlock ≠ some b := by
  intro hk
  rcases h.2 with ⟨rfl, _⟩ | ⟨g, cap, cur, rfl, _, hh, _⟩
  · cases hk
  · obtain rfl : g = b := by simpa [Value.ownBlock] using hk
    rw [hb] at hh
    simp at hh
    exact hT hh.2.1.symm
theorem own_other {w : World} {B B' s s' n n' : Nat} {e e' : TypeId} {v v' : Value} {xs xs' : List Value} (h : w.ownsRow B e s v n xs) (h' : w.ownsRow B' e' s' v' n' xs') (hT : e ≠ e') {k : Nat} (hk : v.ownBlock = some k) (hk' : v'.ownBlock = some k) : False := by
  rcases h'.2 with ⟨rfl, _⟩ | ⟨g, cap, cur, rfl, _, hh, _⟩
  · cases hk'
  · obtain rfl : g = k := by simpa [Value.ownBlock] using hk'
    exact own_type h hh hT hk
theorem own_map {w : World} {B size n b : Nat} {e : TypeId} {v : Value} {xs : List Value} {es : Array MapEntry} {c : Nat} (h : w.ownsRow B e size v n xs) (hb : w.heap[b]? = some (.map es c)) : v.ownBlock ≠ some b := by
  intro hk
  rcases h.2 with ⟨rfl, _⟩ | ⟨g, cap, cur, rfl, _, hh, _⟩
  · cases hk
  · obtain rfl : g = b := by simpa [Value.ownBlock] using hk
    rw [hb] at hh; cases hh
theorem CfO.out {B : Nat} {S : Nat → Prop} {w w' : World} {v0 v1 v2 v3 : Value} {c : Cf} (h : CfO B w v0 v1 v2 v3 c) (ho : Out S w w') (hB : ∀ k, S k → B ≤ k) (hz : B ≤ w.heap.size)
    (h0 : ∀ k, v0.ownBlock = some k → ¬ S k) (h1 : ∀ k, v1.ownBlock = some k → ¬ S k) (h2 : ∀ k, v2.ownBlock = some k → ¬ S k) (h3 : ∀ k, v3.ownBlock = some k → ¬ S k) : CfO B w' v0 v1 v2 v3 c := by
  obtain ⟨gs, o2, g2⟩ := h.grps
  exact ⟨own_out h.cons ho h0, ⟨gs, own_out o2 ho h1, g2.keep (ho.below hz hB)⟩, own_out h.usrs ho h2, own_out h.accs ho h3⟩

end Go.Proofs.Ytomnkmcabkoagaa.Conf

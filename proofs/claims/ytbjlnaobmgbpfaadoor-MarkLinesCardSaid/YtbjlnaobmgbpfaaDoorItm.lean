/-
  Items in memory: as cells, in a slice, as an argument.
-/
import Derived.Test.YtbjlnaobmgbpfaaDoorItmP
import Derived.Test.YtbjlnaobmgbpfaaDoorOwnRow
import Derived.Test.YtbjlnaobmgbpfaaDoorArgs
import Derived.Test.YtbjlnaobmgbpfaaDoorProg
import Derived.Lib.SmallJoins
namespace Go.Proofs.YtbjlnaobmgbpfaaDoor.Rec
open Go.RowKit Go.Proofs.YtbjlnaobmgbpfaaDoor.Own

/-- items as cells -/
def cv (l : List Itm) : List Value := l.flatMap fun x => [.int .i64 x.k, .int .i64 x.a, .string x.b]
theorem cv_len (l : List Itm) : (cv l).length = l.length * 3 := by
  induction l with
  | nil => rfl
  | cons e r ih => simp [cv] at ih ⊢; omega
theorem cv_app (l m : List Itm) : cv (l ++ m) = cv l ++ cv m := by simp [cv]
theorem cv_one (l : List Itm) : ∀ u ∈ cv l, u.oneCell' = true := by
  intro u hu
  simp only [cv, List.mem_flatMap] at hu
  obtain ⟨e, _, h⟩ := hu
  simp at h
  rcases h with rfl | rfl | rfl <;> rfl
theorem cv_get {l : List Itm} {i : Nat} (h : i < l.length) : (cv l)[i * 3]? = some (.int .i64 l[i].k) ∧ (cv l)[i * 3 + 1]? = some (.int .i64 l[i].a) ∧ (cv l)[i * 3 + 2]? = some (.string l[i].b) := by
  induction l generalizing i with
  | nil => simp at h
  | cons e r ih =>
    cases i with
    | zero => simp [cv]
    | succ i =>
      have := ih (i := i) (by simpa using h)
      simpa [cv, Nat.add_mul] using this
theorem info_item : (Tryd.prog.info? 28).map (fun i => (i.zero, i.size, i.bytes)) = some (some (.agg #[.int .i64 0, .int .i64 0, .string ⟨#[]⟩]), 3, 32) := by kernel_rfl

/-- a slice that holds items -/
structure Its (w : World) (xs : List Itm) (p : Option Addr) (c : Nat) : Prop where
  cap : xs.length ≤ c
  max : c ≤ maxLen
  cells : xs = [] ∨ ∃ b o, p = some ⟨b, o, none⟩ ∧ b < w.heap.size ∧ ∀ i (hi : i < xs.length), w.cell? ⟨b, o + i * 3, none⟩ = some (.int .i64 xs[i].k) ∧ w.cell? ⟨b, o + i * 3 + 1, none⟩ = some (.int .i64 xs[i].a) ∧ w.cell? ⟨b, o + i * 3 + 2, none⟩ = some (.string xs[i].b)
theorem Its.kept {w w' : World} {xs : List Itm} {p : Option Addr} {c : Nat} (h : Its w xs p c) (hb : Below w.heap.size w w') : Its w' xs p c :=
  ⟨h.cap, h.max, h.cells.imp id fun ⟨b, o, e, hl, k⟩ => ⟨b, o, e, Nat.lt_of_lt_of_le hl hb.size, fun i hi => ⟨(hb.cell (p := ⟨b, _, none⟩) hl).trans (k i hi).1, (hb.cell (p := ⟨b, _, none⟩) hl).trans (k i hi).2.1, (hb.cell (p := ⟨b, _, none⟩) hl).trans (k i hi).2.2⟩⟩⟩
theorem owns_its {w : World} {B : Nat} {p : Option Addr} {n c : Nat} {xs : List Itm} (h : w.ownsRow B 28 3 (.slice p n c) n (cv xs)) (hn : n = xs.length) : Its w xs p c := by
  subst hn
  have hc := @World.ownsRow.cells _ _ _ _ _ _ _ h
  rcases h.2 with ⟨e, h0⟩ | ⟨g, cap, cur, e, _, hh, h3, h4, _⟩
  · simp only [Value.slice.injEq] at e
    obtain ⟨rfl, _, rfl⟩ := e
    exact ⟨by omega, by unfold maxLen; omega, .inl (List.eq_nil_of_length_eq_zero h0)⟩
  · simp only [Value.slice.injEq] at e
    obtain ⟨rfl, _, rfl⟩ := e
    refine ⟨h3, h4, .inr ⟨g, 0, rfl, at_lt hh, fun i hi => ?_⟩⟩
    obtain ⟨e1, e2, e3⟩ := cv_get hi
    have r1 := hc (g := g) rfl _ _ e1
    have r2 := hc (g := g) rfl _ _ e2
    have r3 := hc (g := g) rfl _ _ e3
    rw [add0] at r1 r2 r3
    rw [Nat.zero_add]
    exact ⟨r1, r2, r3⟩

section
open Go.Joins Go.ChangeShapes Go.WideShapes Go.Deep
variable {H : Type} {enc : TypeId × Value → H} {w : World} {spare : Nat → Bool} {held : Bool}
/-- an item that came in -/
theorem item_arg {v : Value} {d : DataW H} {p : List MemPlace} {base b0 : Nat} {r : Reach} (ho : Value.okWide Tryd.prog w r b0 28 v) (h : DataW.Trod enc Tryd.prog w base spare held 28 v d p) :
    ∃ (k a : Int) (b : ByteArray), v = .agg #[.int .i64 k, .int .i64 a, .string b] ∧ b.size ≤ maxLen := by
  obtain ⟨v0, v1, v2, y0, y1, y2, n, rfl, _, _, h0, h1, h2⟩ := open_agg3 Tryd.underlying28 (by kernel_rfl) (by kernel_rfl) ho h
  obtain ⟨k, hk, _, _⟩ := DataW.trod_int Tryd.underlying3 h0
  obtain ⟨a, ha, _, _⟩ := DataW.trod_int Tryd.underlying3 h1
  obtain ⟨b, hb, _, hw⟩ := DataW.trod_string Tryd.underlying9 h2
  simp at hk ha hb
  subst hk ha hb
  exact ⟨k, a, b, rfl, hw⟩
end

def toI : Value → Int
  | .int _ n => n
  | _ => 0
def toB : Value → ByteArray
  | .string b => b
  | _ => ByteArray.empty
/-- items that came in -/
theorem its_arg {w : World} {v : Value} {n : Nat} {E : Nat → Nat → Value} (h : Row w v n 3 E) (hE : ∀ i, i < n → ∃ (k a : Int) (b : ByteArray), E i 0 = .int .i64 k ∧ E i 1 = .int .i64 a ∧ E i 2 = .string b) :
    ∃ xs p c, v = .slice p xs.length c ∧ Its w xs p c := by
  obtain ⟨a, cap, rfl, h1, h2, h3⟩ := h
  refine ⟨(List.range n).map fun i => ⟨toI (E i 0), toI (E i 1), toB (E i 2)⟩, a, cap, by simp, by simpa using h1, h2, ?_⟩
  rcases h3 with rfl | ⟨b, off, rfl, hb, hc⟩
  · exact .inl rfl
  · refine .inr ⟨b, off, rfl, hb, fun i hi => ?_⟩
    have hi' : i < n := by simpa using hi
    obtain ⟨k, a, bb, e0, e1, e2⟩ := hE i hi'
    have c0 := hc i 0 hi' (by omega)
    have c1 := hc i 1 hi' (by omega)
    have c2 := hc i 2 hi' (by omega)
    simp only [List.getElem_map, List.getElem_range, e0, e1, e2] at c0 c1 c2 ⊢
    exact ⟨c0, c1, c2⟩

end Go.Proofs.YtbjlnaobmgbpfaaDoor.Rec

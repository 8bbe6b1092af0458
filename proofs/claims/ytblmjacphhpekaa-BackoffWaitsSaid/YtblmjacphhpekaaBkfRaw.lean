/-
  Layer 18 (backoff): a rule that came in, out of its reading.
-/
import Derived.Test.YtblmjacphhpekaaProg
import Derived.Test.YtblmjacphhpekaaArgs
namespace Go.Proofs.Ytblmjacphhpekaa.Bkf
open Go.RowKit Go.ChangeShapes Go.WideShapes Go.Deep Go.Proofs.Ytblmjacphhpekaa.Own

section
variable {H : Type} {enc : TypeId × Value → H} {w : World} {base : Nat} {spare : Nat → Bool} {held : Bool}
theorem rule_leaf {E : Nat → Value} {m : Nat} {y : DataW H × List MemPlace} (h : DataW.trod enc Try.prog w base spare held m 23 ((List.range 3).map E) = some y) :
    ∃ b c j : Int, E 0 = .int .i64 b ∧ E 1 = .int .i64 c ∧ E 2 = .int .i64 j := by
  obtain ⟨m0, y0, h0⟩ := leaf_field Try.underlying23 h 0 _ rfl 0 1 rfl (by kernel_rfl) (by omega)
  obtain ⟨m1, y1, h1⟩ := leaf_field Try.underlying23 h 1 _ rfl 1 1 rfl (by kernel_rfl) (by omega)
  obtain ⟨m2, y2, h2⟩ := leaf_field Try.underlying23 h 2 _ rfl 2 1 rfl (by kernel_rfl) (by omega)
  obtain ⟨b, e0, _⟩ := leaf_int Try.underlying3 h0
  obtain ⟨c, e1, _⟩ := leaf_int Try.underlying3 h1
  obtain ⟨j, e2, _⟩ := leaf_int Try.underlying3 h2
  exact ⟨b, c, j, by simpa using e0, by simpa using e1, by simpa using e2⟩
set_option maxRecDepth 100000 in
theorem rule_arg {v : Value} {r : Reach} (t : ∃ d p, DataW.Trod enc Try.prog w base spare held 23 v d p) (o : ∃ b0, Value.okWide Try.prog w r b0 23 v) :
    ∃ b c j : Int, v = .agg #[.int .i64 b, .int .i64 c, .int .i64 j] := by
  obtain ⟨d, p, h⟩ := t
  obtain ⟨b0, ho⟩ := o
  obtain ⟨cs, rfl, hsz⟩ := okWide_struct Try.underlying23 ho
  have hs3 : cs.size = 3 := hsz.trans (by kernel_rfl)
  obtain ⟨l⟩ := cs
  match l, hs3, h with
  | [c0, c1, c2], _, h =>
    obtain ⟨fuel, hf⟩ := h
    have hf' : DataW.trod enc Try.prog w base spare held fuel 23 ((List.range 3).map fun i => [c0, c1, c2].getD i undef) = some (d, p) := hf
    obtain ⟨b, c, j, e0, e1, e2⟩ := rule_leaf hf'
    refine ⟨b, c, j, ?_⟩
    have e0 : c0 = .int .i64 b := e0
    have e1 : c1 = .int .i64 c := e1
    have e2 : c2 = .int .i64 j := e2
    rw [e0, e1, e2]
theorem ci : Try.prog.cellsOf 3 = 1 := by kernel_rfl
end
end Go.Proofs.Ytblmjacphhpekaa.Bkf

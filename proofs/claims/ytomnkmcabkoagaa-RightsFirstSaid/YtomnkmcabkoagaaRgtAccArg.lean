/-
  Layer 16 (rights): an access that came in, out of its reading.
-/
import Derived.Test.YtomnkmcabkoagaaRgtArg
namespace Go.Proofs.Ytomnkmcabkoagaa.Rgt
open Go.RowKit Go.ChangeShapes Go.WideShapes Go.Deep Go.Proofs.Ytomnkmcabkoagaa.Own Go.Proofs.Ytomnkmcabkoagaa.Rw Go.Proofs.Ytomnkmcabkoagaa.Tree Go.Proofs.Ytomnkmcabkoagaa.Conf

section
variable {H : Type} {enc : TypeId × Value → H} {w : World} {base : Nat} {spare : Nat → Bool} {held : Bool}
set_option maxRecDepth 100000 in
theorem acc_arg {v : Value} {r : Reach} (t : ∃ d p, DataW.Trod enc Try.prog w base spare held 50 v d p) (o : ∃ b0, Value.okWide Try.prog w r b0 50 v) :
    ∃ (xa xb : Bs) (xl : Int), v = .agg #[.string ⟨xa.toArray⟩, .string ⟨xb.toArray⟩, .int .i64 xl] := by
  obtain ⟨d, p, h⟩ := t
  obtain ⟨b0, ho⟩ := o
  obtain ⟨cs, rfl, hsz⟩ := okWide_struct Try.underlying50 ho
  have hs3 : cs.size = 3 := hsz.trans (by kernel_rfl)
  obtain ⟨l⟩ := cs
  match l, hs3, h with
  | [c0, c1, c2], _, h =>
    obtain ⟨fuel, hf⟩ := h
    have hf' : DataW.trod enc Try.prog w base spare held fuel 50 ((List.range 3).map fun i => [c0, c1, c2].getD i undef) = some (d, p) := hf
    obtain ⟨x, _, hx⟩ := acc_leaf hf'
    have e0 := hx 0 (by omega)
    have e1 := hx 1 (by omega)
    have e2 := hx 2 (by omega)
    refine ⟨x.1, x.2.1, x.2.2, ?_⟩
    have e0 : c0 = .string ⟨x.1.toArray⟩ := e0
    have e1 : c1 = .string ⟨x.2.1.toArray⟩ := e1
    have e2 : c2 = .int .i64 x.2.2 := e2
    rw [e0, e1, e2]
end
end Go.Proofs.Ytomnkmcabkoagaa.Rgt

/-
  Layer 9 (fault): layers that came in, opened.
-/
import Derived.Test.YtpjjfcgebgejaaaDoorFltTells
import Derived.Test.YtpjjfcgebgejaaaDoorFltTable
namespace Go.Proofs.YtpjjfcgebgejaaaDoor.Flt
open Go.RowKit Go.Proofs.YtpjjfcgebgejaaaDoor.Own Go.ChangeShapes Go.WideShapes Go.Deep

set_option maxRecDepth 100000 in
theorem lays_open {H : Type} {enc : TypeId × Value → H} {v : Value} {w : World} (t : ∃ d p, DataW.Trod enc Tryd.prog w 0 (fun _ => true) true 23 v d p) (o : ∃ base, Value.okWide Tryd.prog w .any base 23 v) :
    ∃ xs p c, v = .slice p xs.length c ∧ LAt w xs p c ∧ ∀ x ∈ xs, -9223372036854775808 ≤ x.line ∧ x.line ≤ 9223372036854775807 := by
  obtain ⟨d, p, t⟩ := t
  obtain ⟨base, o⟩ := o
  obtain ⟨a, len, cap, rfl⟩ := okWide_slice Tryd.underlying23 o
  obtain ⟨n, E, hrow, mm, hE⟩ := Own.args_slice Tryd.underlying23 (size := 3) cLayer (by omega) t ⟨_, _, _, rfl⟩
  exact lays_arg hrow fun i hi => by
    obtain ⟨y, hy⟩ := hE i hi
    obtain ⟨m0, y0, h0⟩ := Own.leaf_field Tryd.underlying26 hy 0 _ rfl 0 1 rfl cCode (by omega)
    obtain ⟨m1, y1, h1⟩ := Own.leaf_field Tryd.underlying26 hy 1 _ rfl 1 1 rfl cInt (by omega)
    obtain ⟨m2, y2, h2⟩ := Own.leaf_field Tryd.underlying26 hy 2 _ rfl 2 1 rfl cString (by omega)
    obtain ⟨k, e0, _⟩ := Own.leaf_int Tryd.underlying22 h0
    obtain ⟨m, e1, hw⟩ := Own.leaf_int Tryd.underlying3 h1
    obtain ⟨s, e2, _⟩ := Own.leaf_string Tryd.underlying9 h2
    exact ⟨k, m, s, by simpa using e0, by simpa using e1, by simpa using e2, Own.wf64 hw⟩
end Go.Proofs.YtpjjfcgebgejaaaDoor.Flt

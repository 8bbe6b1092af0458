/-
  Layer 2 (digit): the program's Show, walked.
-/
import Derived.Test.YtbjlnaobmgbpfaaDoorDigitHex
import Derived.Lib.AppendStr
namespace Go.Proofs.YtbjlnaobmgbpfaaDoor.Digit
open Go.RowKit

/-- a []byte of the call's own that holds l -/
def Owns (w : World) (B : Nat) (v : Value) (l : List UInt8) : Prop := w.ownsRow B 5 1 v l.length (l.map fun b => Value.int .u8 (b.toNat : Int))

theorem owns_below {w w' : World} {B B' : Nat} {v : Value} {l : List UInt8} (h : Owns w B v l) (hb : Below B' w w') (hB : w.heap.size ≤ B') : Owns w' B v l := by
  obtain ⟨h1, h2⟩ := h
  refine ⟨h1, ?_⟩
  rcases h2 with h2 | ⟨g, cap, cur, hv, hg, hh, r⟩
  · exact .inl h2
  · exact .inr ⟨g, cap, cur, hv, hg, by rw [hb.block g (Nat.lt_of_lt_of_le (lt_of_block hh) hB)]; exact hh, r⟩

theorem owns_text {w : World} {B : Nat} {v : Value} {l : List UInt8} (h : Owns w B v l) : (convert 37 9 v).run Tryd.prog w = .ok (.string ⟨l.toArray⟩) w := by
  have hc := @World.ownsRow.cells _ _ _ _ _ _ _ h
  rcases h.2 with ⟨rfl, h0⟩ | ⟨g, cap, cur, rfl, r⟩
  · obtain rfl : l = [] := List.eq_nil_of_length_eq_zero h0
    exact run_convert_bytes_nil w 37 5 Tryd.underlying37 Tryd.underlying5 0 0 9 Tryd.underlying9
  · refine run_convert_bytes_back w 37 9 5 ⟨g, 0, none⟩ cap l Tryd.underlying37 Tryd.underlying5 Tryd.underlying9 (fun j hj => ?_)
    exact hc rfl j _ (by simp [hj])

theorem owns_more {w : World} {B : Nat} {v : Value} {o l : List UInt8} (h : w.ownsRow B 5 1 v (o.length + (⟨l.toArray⟩ : ByteArray).size) (o.map (fun b => Value.int .u8 (b.toNat : Int)) ++ Lib.strCells ⟨l.toArray⟩)) : Owns w B v (o ++ l) := by
  unfold Owns
  rw [List.length_append, List.map_append]
  exact h
theorem owns_grown {w0 w' w w1 : World} {B : Nat} {v : Value} {l : List UInt8} (hb : Below B w0 w') (ho : Owns w B v l) (hg : w'.grownBy w1 v.ownBlock) (hB : B ≤ w'.heap.size) : Below B w0 w1 :=
  hb.grown hg hB (fun k hk => (ho.lt k hk).1)
theorem owns_byte {w : World} {B : Nat} {v : Value} {o : List UInt8} {c : Nat} (hc : c < 256) (h : w.ownsRow B 5 1 v (o.length + 1) (o.map (fun b => Value.int .u8 (b.toNat : Int)) ++ [Value.int .u8 (c : Int)])) : Owns w B v (o ++ [c.toUInt8]) := by
  unfold Owns
  rw [List.length_append, List.map_append]
  have e : ((c.toUInt8.toNat : Nat) : Int) = c := by simp; omega
  rw [List.map_cons, List.map_nil, e]
  exact h

theorem info_u8 : (Tryd.prog.info? 5).map (fun i => (i.zero, i.size, i.bytes)) = some (some (.int .u8 0), 1, 1) := by kernel_rfl

set_option maxRecDepth 100000 in
set_option maxHeartbeats 1000000 in
theorem show_calls (s : ByteArray) (hs : s.size ≤ 100000) (w : World) :
    Calls Tryd.prog 23 #[.string s] w fun e w' => e = .returned (.string ⟨(shw s.data.toList).toArray⟩) ∧ Below w.heap.size w w' := by
  obtain ⟨i0, hi, hz0, hz1, hz2⟩ := info_parts info_u8
  go_enter Tryd.func23, Tryd.ntmps23
  go_wp2
  go_loopw [3, 7] (fun v i wr => ∃ k : Nat, k ≤ s.size ∧ i = .int .i64 k ∧ Owns wr w.heap.size v (shw (s.data.toList.take k)) ∧ Below w.heap.size w wr) (fun _ i _ => s.size - (intOf i).toNat)
  case atStart => exact ⟨0, Nat.zero_le _, rfl, World.ownsRow_nil _ _ _ _, Below.refl _ _⟩
  case round =>
    obtain ⟨k, hk, rfl, hown, hb⟩ := hrel
    have hl := shw_len (s.data.toList.take k)
    rw [List.length_take, size_list, Nat.min_eq_left hk] at hl
    by_cases hlt : k < s.size
    · have HS := Lib.hid (shw_snoc s k hlt)
      have hl2 := (sgn_len s[k].toNat).2
      have hc : (s[k].toNat : Int) < 256 := by have := s[k].toNat_lt; omega
      generalize shw (s.data.toList.take k) = o at hl HS hown
      go_wp2_with (first | (go_at_call 29; refine (sign_calls _ (by omega) (by omega) _).mono ?_; rintro e w' ⟨rfl, hb1⟩) | (at_builtin; refine Lib.wpList_append_own_string _ rfl (.tmp 10) (.tmp 14) 37 9 rfl w.heap.size 5 i0 Tryd.underlying37 Tryd.underlying9 hi hz0 hz1 hz2 _ _ _ rfl (owns_below hown hb1 (Nat.le_refl _)) ⟨(sgn s[k].toNat).toArray⟩ rfl (by rw [size_mk]; unfold maxLen; omega) (by rw [size_mk]; omega) (Nat.le_trans hb.size hb1.size) ?_; intro v' w1 hown1 hgrow1 _))
      have R := owns_more hown1
      have G := owns_grown (hb.trans (hb1.mono hb.size)) hown hgrow1 (Nat.le_trans hb.size hb1.size)
      clear hown1 hgrow1
      go_roundw
      case rel => exact ⟨k + 1, by omega, by go_num, by rw [HS.out]; exact R, G⟩
      case measure => simp [intOf]; omega
    · have ht : s.data.toList.take k = s.data.toList := List.take_of_length_le (by rw [size_list]; omega)
      rw [ht] at hown
      have hcv := owns_text hown
      have HO := Lib.hid hown; clear hown ht
      go_wp2_with fail
      go_ret
      exact ⟨rfl, hb⟩

end Go.Proofs.YtbjlnaobmgbpfaaDoor.Digit

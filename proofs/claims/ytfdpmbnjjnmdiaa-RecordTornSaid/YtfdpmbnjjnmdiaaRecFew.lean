/-
  Layer 8 (record): what the law takes of any items, walked; what comes in.
-/
import Derived.Test.YtfdpmbnjjnmdiaaRecLaws
import Derived.Test.YtfdpmbnjjnmdiaaArgs
import Derived.Lib.SmallJoins
namespace Go.Proofs.Ytfdpmbnjjnmdiaa.Rec
open Go.RowKit Go.Proofs.Ytfdpmbnjjnmdiaa.Sum Go.Proofs.Ytfdpmbnjjnmdiaa.Own

section
open Go.Joins Go.ChangeShapes Go.WideShapes Go.Deep
variable {H : Type} {enc : TypeId × Value → H} {w : World} {spare : Nat → Bool} {held : Bool}
/-- an item that came in -/
theorem item_arg {v : Value} {d : DataW H} {p : List MemPlace} {base b0 : Nat} {r : Reach} (ho : Value.okWide Try.prog w r b0 23 v) (h : DataW.Trod enc Try.prog w base spare held 23 v d p) :
    ∃ (k a : Int) (b : ByteArray), v = .agg #[.int .i64 k, .int .i64 a, .string b] ∧ b.size ≤ maxLen := by
  obtain ⟨v0, v1, v2, y0, y1, y2, n, rfl, _, _, h0, h1, h2⟩ := open_agg3 Try.underlying23 (by kernel_rfl) (by kernel_rfl) ho h
  obtain ⟨k, hk, _, _⟩ := DataW.trod_int Try.underlying3 h0
  obtain ⟨a, ha, _, _⟩ := DataW.trod_int Try.underlying3 h1
  obtain ⟨b, hb, _, hw⟩ := DataW.trod_string Try.underlying9 h2
  simp at hk ha hb
  subst hk ha hb
  exact ⟨k, a, b, rfl, hw⟩
end

def toI : Value → Int
  | .int _ n => n
  | _ => 0
def toB : Value → ByteArray
  | .string b => b
  | _ => ByteArray.empty
/-- items that came in -/
theorem its_arg {w : World} {v : Value} {n : Nat} {E : Nat → Nat → Value} (h : Row w v n 3 E) (hE : ∀ i, i < n → ∃ (k a : Int) (b : ByteArray), E i 0 = .int .i64 k ∧ E i 1 = .int .i64 a ∧ E i 2 = .string b) :
    ∃ xs p c, v = .slice p xs.length c ∧ Its w xs p c := by
  obtain ⟨a, cap, rfl, h1, h2, h3⟩ := h
  refine ⟨(List.range n).map fun i => ⟨toI (E i 0), toI (E i 1), toB (E i 2)⟩, a, cap, by simp, by simpa using h1, h2, ?_⟩
  rcases h3 with rfl | ⟨b, off, rfl, hb, hc⟩
  · exact .inl rfl
  · refine .inr ⟨b, off, rfl, hb, fun i hi => ?_⟩
    have hi' : i < n := by simpa using hi
    obtain ⟨k, a, bb, e0, e1, e2⟩ := hE i hi'
    have c0 := hc i 0 hi' (by omega)
    have c1 := hc i 1 hi' (by omega)
    have c2 := hc i 2 hi' (by omega)
    simp only [List.getElem_map, List.getElem_range, e0, e1, e2] at c0 c1 c2 ⊢
    exact ⟨c0, c1, c2⟩

structure FewAt (w wr : World) (L : List Itm) (k : Nat) (v : Value) : Prop where
  own : wr.ownsRow w.heap.size 23 3 v L.length (cv L)
  below : Below w.heap.size w wr
  len : L.length ≤ k
  ok : ∀ x ∈ L, chk x = 0 ∧ x.b.size ≤ 200
theorem FewAt.step {w wr w5 w1 : World} {L : List Itm} {k : Nat} {v v' : Value} {x : Itm} (h : FewAt w wr L k v) (hx : chk x = 0 ∧ x.b.size ≤ 200) (hb : Below wr.heap.size wr w5)
    (ho : w1.ownsRow w.heap.size 23 3 v' (L.length + 1) (cv L ++ [.int .i64 x.k, .int .i64 x.a, .string x.b])) (hg : w5.grownBy w1 v.ownBlock) :
    FewAt w w1 (L ++ [x]) (k + 1) v' := by
  have hs := h.below.size
  have hs5 := hb.size
  have hlen := h.len
  refine ⟨?_, ?_, ?_, ?_⟩
  · rw [List.length_append, cv_app]; exact ho
  · exact (h.below.trans (hb.mono hs)).grown hg (by omega) (fun k hk => (World.ownsRow.lt h.own k hk).1)
  · rw [List.length_append, List.length_singleton]; omega
  · intro y hy
    rw [List.mem_append, List.mem_singleton] at hy
    rcases hy with hy | rfl
    · exact h.ok y hy
    · exact hx
theorem FewAt.skip {w wr w5 : World} {L : List Itm} {k : Nat} {v : Value} (h : FewAt w wr L k v) (hb : Below wr.heap.size wr w5) : FewAt w w5 L (k + 1) v :=
  ⟨own_below h.own hb, h.below.trans (hb.mono h.below.size), by have := h.len; omega, h.ok⟩
def FewPost (w : World) (e : Ending) (w' : World) : Prop :=
  ∃ (xs : List Itm) (p : Option Addr) (c : Nat), e = .returned (.slice p xs.length c) ∧ Its w' xs p c ∧ (∀ x ∈ xs, chk x = 0 ∧ x.b.size ≤ 200) ∧ xs.length ≤ 12 ∧ Below w.heap.size w w'
theorem FewAt.end_ {w wr : World} {L : List Itm} {k : Nat} {v : Value} (h : FewAt w wr L k v) (hk : k ≤ 12) : FewPost w (.returned v) wr := by
  have ho := h.own
  have hf : ∃ p c, v = .slice p L.length c := by
    rcases ho.2 with ⟨rfl, h0⟩ | ⟨g, cap, cur, rfl, _⟩
    · exact ⟨none, 0, by rw [show L.length = 0 from h0]⟩
    · exact ⟨_, _, rfl⟩
  obtain ⟨p, c, rfl⟩ := hf
  exact ⟨L, p, c, rfl, owns_its ho rfl, h.ok, Nat.le_trans h.len hk, h.below⟩

set_option maxRecDepth 100000 in
set_option maxHeartbeats 2000000 in
theorem few_calls (xs : List Itm) (p : Option Addr) (c : Nat) (w : World) (h : Its w xs p c) :
    Calls Try.prog 17 #[.slice p xs.length c] w (FewPost w) := by
  obtain ⟨i0, hi, hz0, hz1, hz2⟩ := info_parts info_item
  have hcap := h.cap
  have hmax := h.max
  unfold maxLen at hmax
  have q2 : (xs.length : Int) ≤ 9223372036854775807 := by omega
  have HI := Lib.hid h
  clear h
  go_enter Try.func17, Try.ntmps17
  go_wp2_with fail
  go_loopw [3, 4] (fun v i wr => ∃ (L : List Itm) (k : Nat), k ≤ 12 ∧ k ≤ xs.length ∧ i = .int .i64 k ∧ FewAt w wr L k v) (fun _ i _ => 12 - (intOf i).toNat)
  case atStart => exact ⟨[], 0, by omega, by omega, rfl, World.ownsRow_nil _ _ _ _, Below.refl _ _, by simp, fun x hx => absurd hx (by simp)⟩
  case round =>
    obtain ⟨L, k, hk, hkx, rfl, C⟩ := hrel
    by_cases hlt : k < xs.length
    · have q1 : (k : Int) < (xs.length : Int) := by omega
      by_cases h12 : k < 12
      · rcases HI.out.cells with h0 | ⟨b, o, rfl, hb, hc⟩
        · rw [h0] at hlt; simp at hlt
        · obtain ⟨c0, c1, c2⟩ := hc k hlt
          rw [← C.below.cell (p := ⟨b, _, none⟩) hb] at c0 c1 c2
          obtain ⟨kk, aa, bb, hx⟩ : ∃ kk aa bb, xs[k] = ⟨kk, aa, bb⟩ := ⟨_, _, _, rfl⟩
          rw [hx] at c0 c1 c2
          change wr.cell? _ = some (.int .i64 kk) at c0; change wr.cell? _ = some (.int .i64 aa) at c1; change wr.cell? _ = some (.string bb) at c2
          have hbw : b < wr.heap.size := Nat.lt_of_lt_of_le hb C.below.size
          have hlen := C.len
          have hown := C.own
          have hsz := C.below.size
          have HC := Lib.hid C
          have HO := Lib.hid hown
          clear hc hx C hown
          by_cases hs : bb.size ≤ 200
          · go_wp2_with fail
            refine (rcheck_calls kk aa bb _).mono ?_
            rintro e w5 ⟨rfl, hb5⟩
            have d0 := (hb5.cell (p := ⟨b, o + k * 3, none⟩) hbw).trans c0
            have d1 := (hb5.cell (p := ⟨b, o + k * 3 + 1, none⟩) hbw).trans c1
            have d2 := (hb5.cell (p := ⟨b, o + k * 3 + 2, none⟩) hbw).trans c2
            have h5 := hb5.size
            have ho5 := own_below HO.out hb5
            have HB5 := Lib.hid hb5
            clear hb5 c0 c1 c2
            by_cases hz : chk ⟨kk, aa, bb⟩ = 0
            · rw [hz]
              have HZ := Lib.hid hz
              clear hz
              go_wp2_with (at_builtin; refine Own.append_any rfl (.tmp 30) (.tmp 35) 33 rfl w.heap.size 23 i0 _ 3 32 Try.underlying33 hi hz0 hz1 hz2 rfl (by decide) _ _ _ rfl (World.ownsRow.alloc ho5 _) _ 1 1 [.int .i64 kk, .int .i64 aa, .string bb] rfl (fun h => nomatch h) rfl (Own.three_new _ _ _ _ _ _ (by simp)) (by simp [Value.oneCell']) (by unfold maxLen; omega) (by omega) (by simp; omega) ?_; intro v' w1 hown1 hgrow1)
              have C1 := Lib.hid (HC.out.step (x := ⟨kk, aa, bb⟩) ⟨HZ.out, hs⟩ (HB5.out.alloc h5 _) hown1 hgrow1)
              clear hown1 hgrow1 ho5
              go_wp2_with fail
              go_roundw
              case rel => exact ⟨_, k + 1, by omega, by omega, by go_num, C1.out⟩
              case measure => simp [intOf]; omega
            · obtain ⟨cc, hcc⟩ : ∃ cc, chk ⟨kk, aa, bb⟩ = cc := ⟨_, rfl⟩
              rw [hcc] at hz ⊢
              have b3 : (cc == 0) = false := by simpa using hz
              have b4 : (cc != 0) = true := by simpa using hz
              have C1 := Lib.hid (HC.out.skip HB5.out)
              clear hcc ho5 d0 d1 d2
              go_wp2_with fail
              go_roundw
              case rel => exact ⟨_, k + 1, by omega, by omega, by go_num, C1.out⟩
              case measure => simp [intOf]; omega
          · have C1 := Lib.hid (HC.out.skip (Below.refl _ _))
            have hs' : 200 < bb.size := by omega
            clear hs
            go_wp2_with fail
            go_roundw
            case rel => exact ⟨_, k + 1, by omega, by omega, by go_num, C1.out⟩
            case measure => simp [intOf]; omega
      · obtain rfl : k = 12 := by omega
        have HC := Lib.hid C
        clear C
        go_wp2_with fail
        go_ret
        exact HC.out.end_ (Nat.le_refl _)
    · obtain rfl : k = xs.length := by omega
      have HC := Lib.hid C
      clear C
      go_wp2_with fail
      go_ret
      exact HC.out.end_ hk

end Go.Proofs.Ytfdpmbnjjnmdiaa.Rec

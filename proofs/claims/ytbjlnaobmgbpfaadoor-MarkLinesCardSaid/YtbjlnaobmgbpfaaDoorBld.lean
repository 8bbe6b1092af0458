/-
  strings.Builder: WriteString, WriteByte, String, with the blocks that they write. (The seat's shelf holds strings.Repeat's laying, 105.)
-/
import Derived.Test.YtbjlnaobmgbpfaaDoorShelf
import Derived.Test.YtbjlnaobmgbpfaaDoorOwnOut
import Derived.Lib.AppendStr
namespace Go.Proofs.YtbjlnaobmgbpfaaDoor.Bld
open Go.RowKit Go.Proofs.YtbjlnaobmgbpfaaDoor.Own Go.Proofs.YtbjlnaobmgbpfaaDoor.Rw Go.Proofs.YtbjlnaobmgbpfaaDoor.Tree

/-- a builder that holds a text -/
def Bd (B b : Nat) (t : List UInt8) (w : World) : Prop := Lib.IsBuilder 39 5 B b (Lib.byteCells t) w
theorem bdAt_below {B b : Nat} {p : Value} {bs : List Value} {w w' : World} (h : Lib.BuilderAt 39 5 B b p bs w) (hb : Below w.heap.size w w') : Lib.BuilderAt 39 5 B b p bs w' := by
  obtain ⟨h1, v, h2, h3, h4⟩ := h
  exact ⟨h1, v, (hb.block _ (at_lt h2)).trans h2, own_below h3 hb, h4⟩
theorem Bd.below {B b : Nat} {t : List UInt8} {w w' : World} (h : Bd B b t w) (hb : Below w.heap.size w w') : Bd B b t w' := h.imp (fun h => bdAt_below h hb) fun h => bdAt_below h hb
theorem info_u8 : (Tryd.prog.info? 5).map (fun i => (i.zero, i.size, i.bytes)) = some (some (.int .u8 0), 1, 1) := by kernel_rfl
theorem copy_calls (b : Nat) (p v : Value) (w : World) (hbk : w.heap[b]? = some (.cells #[p, v] 39 (0, 0))) (hp : p = .pointer none ∨ p = .pointer (some ⟨b, 0, none⟩)) :
    Calls Tryd.prog 26 #[.pointer (some ⟨b, 0, none⟩)] w fun e w' => e = .returned (.tuple #[]) ∧ w'.heap[b]? = some (.cells #[.pointer (some ⟨b, 0, none⟩), v] 39 (0, 0)) ∧ Out (fun k => k = b) w w' := by
  rcases hp with rfl | rfl
  · refine (Any.Builder_copyCheck_fresh (ρ := Tryd.lays105_ren) { Tryd.lays105 with } Tryd.Builder_Extra_105.toX72 b w (at_cell hbk 0) (by simp [World.shape?, hbk]; rfl) (at_frozen hbk 0)).mono ?_
    rintro e w' ⟨rfl, rfl⟩
    exact ⟨rfl, at_set hbk 0 _, (Out.refl (fun k => k = b) w).setCell (p := ⟨b, 0, none⟩) (fun _ => rfl) _⟩
  · refine (Any.Builder_copyCheck_used (ρ := Tryd.lays105_ren) { Tryd.lays105 with } Tryd.Builder_Extra_105.toX72 b w (at_cell hbk 0)).mono ?_
    rintro e w' ⟨rfl, rfl⟩
    exact ⟨rfl, hbk, Out.refl _ _⟩
/-- the blocks of a builder -/
def BdS (b : Nat) (w : World) (k : Nat) : Prop := k = b ∨ ∃ p v, w.heap[b]? = some (.cells #[p, v] 39 (0, 0)) ∧ v.ownBlock = some k
theorem Bd.lt {B b : Nat} {t : List UInt8} {w : World} (h : Bd B b t w) {k : Nat} (hk : BdS b w k) : B ≤ k ∧ k < w.heap.size := by
  obtain ⟨p, h1, v, h2, h3, h4⟩ : ∃ p, Lib.BuilderAt 39 5 B b p (Lib.byteCells t) w := by
    rcases h with h | h
    · exact ⟨_, h⟩
    · exact ⟨_, h⟩
  rcases hk with rfl | ⟨p', v', e, hk⟩
  · exact ⟨h1, at_lt h2⟩
  · rw [h2] at e
    have e := Option.some.inj e
    injection e with e1 _ _
    have : v = v' := by injection e1 with e1; injection e1 with _ e1; injection e1
    subst this
    exact World.ownsRow.lt h3 k hk
theorem BdS.same {b : Nat} {w w' : World} (h : w'.heap[b]? = w.heap[b]?) {k : Nat} (hk : BdS b w' k) : BdS b w k := by
  rcases hk with rfl | ⟨p', v', e, hk⟩
  · exact .inl rfl
  · exact .inr ⟨p', v', h ▸ e, hk⟩
set_option maxHeartbeats 2000000 in
set_option maxRecDepth 100000 in
theorem wstr_calls (B b : Nat) (acc : List UInt8) (s : ByteArray) (w : World) (h : Bd B b acc w) (hlen : acc.length + s.size ≤ 140737488355328) (hB : B ≤ w.heap.size) :
    Calls Tryd.prog 20 #[.pointer (some ⟨b, 0, none⟩), .string s] w fun e w' => e = .returned (.tuple #[.int .i64 s.size, .nilIface]) ∧ Bd B b (acc ++ s.data.toList) w' ∧ Below B w w' ∧ Out (BdS b w) w w' := by
  obtain ⟨i0, hi, hz0, hz1, hz2⟩ := info_parts info_u8
  obtain ⟨p, hp, hBb, v, hbk, hown, hne⟩ : ∃ p, (p = .pointer none ∨ p = .pointer (some ⟨b, 0, none⟩)) ∧ Lib.BuilderAt 39 5 B b p (Lib.byteCells acc) w := by
    rcases h with h | h
    · exact ⟨_, .inl rfl, h⟩
    · exact ⟨_, .inr rfl, h⟩
  have HC := Lib.hid (copy_calls b p v w hbk hp)
  have HOWN := Lib.hid hown
  have HBK := Lib.hid hbk
  clear hown h hp hbk
  go_enter Tryd.func20, Tryd.ntmps20
  go_wp2_with (go_at_call 26; refine HC.out.mono ?_)
  rintro e w1 ⟨rfl, hb1, ho1⟩
  have own1 := own_out HOWN.out ho1 fun k e hk => hne (hk ▸ e)
  have c1 : w1.cell? ⟨b, 1, none⟩ = some v := at_cell hb1 1
  have s1 := ho1.size
  have HB1 := Lib.hid hb1
  have HO1 := Lib.hid ho1
  clear hb1 ho1
  go_wp2_with (at_builtin; refine Lib.wpList_append_own_string _ rfl _ _ 37 9 rfl B 5 i0 Tryd.underlying37 Tryd.underlying9 hi hz0 hz1 hz2 _ _ _ rfl own1 s rfl ?c3 ?c4 ?c5 ?_)
  case c3 => rw [Lib.byteCells_length]; unfold maxLen; omega
  case c4 => rw [Lib.byteCells_length]; omega
  case c5 => omega
  intro v' w2 hown' hgrow _
  have hb2 : w2.heap[b]? = some (.cells #[.pointer (some ⟨b, 0, none⟩), v] 39 (0, 0)) := by
    rw [hgrow.block b (at_lt HB1.out) (fun e => hne e.symm)]
    exact HB1.out
  have d1 : w2.cell? ⟨b, 1, none⟩ = some v := at_cell hb2 1
  have f1 : w2.frozen? ⟨b, 1, none⟩ = false := at_frozen hb2 1
  obtain ⟨ao, n', cap, rfl⟩ : ∃ ao n' cap, v' = .slice ao n' cap := by
    rcases hown'.2 with ⟨hv, _⟩ | ⟨g, cap, cur, hv, _⟩
    · exact ⟨_, _, _, hv⟩
    · exact ⟨_, _, _, hv⟩
  have HG := Lib.hid hgrow
  have HW := Lib.hid hown'
  have HB2 := Lib.hid hb2
  clear hgrow hown' hb2
  go_wp2
  go_ret2
  have OO : Out (BdS b w) w (w2.setCell ⟨b, 1, none⟩ (.slice ao n' cap)) :=
    (out_grown (HO1.out.mono (S' := BdS b w) fun k _ e => .inl e) HG.out fun k e _ => .inr ⟨p, v, HBK.out, e⟩).setCell (p := ⟨b, 1, none⟩) (fun _ => .inl rfl) _
  refine ⟨rfl, .inr ?_, OO.below hB fun k hk => ?_, OO⟩
  · rw [show Lib.byteCells (acc ++ s.data.toList) = Lib.byteCells acc ++ Lib.strCells s by rw [Lib.strCells_eq]; simp [Lib.byteCells]]
    exact Lib.BuilderAt.put (T := 39) (e := 5) hBb HB2.out (bs' := Lib.byteCells acc ++ Lib.strCells s) (by simpa [Lib.strCells_length] using HW.out) (by decide)
  · rcases hk with rfl | ⟨p', v', e, hk⟩
    · exact hBb
    · rw [HBK.out] at e
      have e := Option.some.inj e
      injection e with e1 _ _
      have : v = v' := by injection e1 with e1; injection e1 with _ e1; injection e1
      subst this
      exact (World.ownsRow.lt HOWN.out k hk).1

set_option maxHeartbeats 2000000 in
set_option maxRecDepth 100000 in
theorem wbyte_calls (B b : Nat) (acc : List UInt8) (c : UInt8) (w : World) (h : Bd B b acc w) (hlen : acc.length + 1 ≤ 140737488355328) (hB : B ≤ w.heap.size) :
    Calls Tryd.prog 28 #[.pointer (some ⟨b, 0, none⟩), .int .u8 c.toNat] w fun e w' => e = .returned .nilIface ∧ Bd B b (acc ++ [c]) w' ∧ Below B w w' ∧ Out (BdS b w) w w' := by
  obtain ⟨i0, hi, hz0, hz1, hz2⟩ := info_parts info_u8
  obtain ⟨p, hp, hBb, v, hbk, hown, hne⟩ : ∃ p, (p = .pointer none ∨ p = .pointer (some ⟨b, 0, none⟩)) ∧ Lib.BuilderAt 39 5 B b p (Lib.byteCells acc) w := by
    rcases h with h | h
    · exact ⟨_, .inl rfl, h⟩
    · exact ⟨_, .inr rfl, h⟩
  have HC := Lib.hid (copy_calls b p v w hbk hp)
  have HOWN := Lib.hid hown
  have HBK := Lib.hid hbk
  have c255 := c.toNat_lt
  clear hown h hp hbk
  go_enter Tryd.func28, Tryd.ntmps28
  go_wp2_with (go_at_call 26; refine HC.out.mono ?_)
  rintro e w1 ⟨rfl, hb1, ho1⟩
  have own1 := own_out HOWN.out ho1 fun k e hk => hne (hk ▸ e)
  have c1 : w1.cell? ⟨b, 1, none⟩ = some v := at_cell hb1 1
  have s1 := ho1.size
  have HB1 := Lib.hid hb1
  have HO1 := Lib.hid ho1
  clear hb1 ho1
  have own2 := World.ownsRow.alloc own1 (.cells #[.int .u8 c.toNat] 5)
  go_wp2_with (at_builtin; refine Own.append_any rfl _ _ 37 rfl B 5 i0 _ 1 1 Tryd.underlying37 hi hz0 hz1 hz2 rfl (by decide) _ _ _ rfl own2 _ 1 1 [.int .u8 c.toNat] rfl (fun h => nomatch h) rfl (Rw.one_new _ _ _ _ (by simp)) (by simp [Value.oneCell']) ?c3 ?c4 ?c5 ?_)
  case c3 => rw [Lib.byteCells_length]; unfold maxLen; omega
  case c4 => rw [Lib.byteCells_length]; omega
  case c5 => simp; omega
  intro v' w2 hown' hgrow
  have hb2 : w2.heap[b]? = some (.cells #[.pointer (some ⟨b, 0, none⟩), v] 39 (0, 0)) := by
    rw [hgrow.block b (by simp; have := at_lt HB1.out; omega) (fun e => hne e.symm)]
    exact at_old _ _ HB1.out
  have d1 : w2.cell? ⟨b, 1, none⟩ = some v := at_cell hb2 1
  have f1 : w2.frozen? ⟨b, 1, none⟩ = false := at_frozen hb2 1
  obtain ⟨ao, n', cap, rfl⟩ : ∃ ao n' cap, v' = .slice ao n' cap := by
    rcases hown'.2 with ⟨hv, _⟩ | ⟨g, cap, cur, hv, _⟩
    · exact ⟨_, _, _, hv⟩
    · exact ⟨_, _, _, hv⟩
  have HG := Lib.hid hgrow
  have HW := Lib.hid hown'
  have HB2 := Lib.hid hb2
  clear hgrow hown' hb2
  go_wp2
  go_ret
  have OO : Out (BdS b w) w (w2.setCell ⟨b, 1, none⟩ (.slice ao n' cap)) :=
    (out_grown ((HO1.out.mono (S' := BdS b w) fun k _ e => .inl e).alloc _) HG.out fun k e _ => .inr ⟨p, v, HBK.out, e⟩).setCell (p := ⟨b, 1, none⟩) (fun _ => .inl rfl) _
  refine ⟨rfl, .inr ?_, OO.below hB fun k hk => ?_, OO⟩
  · rw [show Lib.byteCells (acc ++ [c]) = Lib.byteCells acc ++ [.int .u8 c.toNat] by simp [Lib.byteCells]]
    exact Lib.BuilderAt.put (T := 39) (e := 5) hBb HB2.out (bs' := Lib.byteCells acc ++ [.int .u8 c.toNat]) (by simpa using HW.out) (by decide)
  · rcases hk with rfl | ⟨p', v', e, hk⟩
    · exact hBb
    · rw [HBK.out] at e
      have e := Option.some.inj e
      injection e with e1 _ _
      have : v = v' := by injection e1 with e1; injection e1 with _ e1; injection e1
      subst this
      exact (World.ownsRow.lt HOWN.out k hk).1
theorem text_calls (B b : Nat) (t : List UInt8) (w : World) (h : Bd B b t w) (hB : B ≤ w.heap.size) :
    Calls Tryd.prog 16 #[.pointer (some ⟨b, 0, none⟩)] w fun e w' => e = .returned (.string ⟨t.toArray⟩) ∧ Below B w w' :=
  (Tryd.Builder_String_any B b t w h hB).mono fun _ _ h => h
theorem fresh (w : World) : Bd w.heap.size w.heap.size [] (w.alloc (.cells #[.pointer none, .slice none 0 0] 39 (0, 0))) := Lib.fresh_isBuilder 39 5 w
end Go.Proofs.YtbjlnaobmgbpfaaDoor.Bld

/-
  Bytes in a block known whole: append where there is room, make.
-/
import Derived.Test.YtememmgnhnldaaaDoorOwn
import Derived.Test.YtememmgnhnldaaaDoorProg
import Derived.WalkKit
import Derived.WalkSpells
import Derived.OwnWalk
import Derived.Lib.AppendStr
namespace Go.Proofs.YtememmgnhnldaaaDoor.Own
open Go.RowKit

theorem splice_nil {α : Type} (L : List α) (o : Nat) : splice L o [] = L := by simp [splice]
theorem splice_two {α : Type} (L x y : List α) (o : Nat) (h : o + x.length ≤ L.length) : splice (splice L o x) (o + x.length) y = splice L o (x ++ y) := by
  have e : (L.take o ++ x).length = o + x.length := by rw [List.length_append, List.length_take]; omega
  unfold splice
  rw [← List.append_assoc (L.take o) x, List.take_left' e, List.drop_append, e, show o + x.length + y.length - (o + x.length) = y.length by omega, List.drop_drop, List.drop_of_length_le (by omega), List.nil_append, List.length_append, List.append_assoc, List.append_assoc, show o + x.length + y.length = o + (x.length + y.length) by omega]
theorem splice_at {α : Type} (L x : List α) (o i : Nat) (h : o ≤ L.length) (hi : i < x.length) : (splice L o x)[o + i]? = x[i]? := by
  have e : (L.take o).length = o := by rw [List.length_take]; omega
  unfold splice
  rw [List.getElem?_append_right (by omega), e, show o + i - o = i by omega, List.getElem?_append_left hi]
theorem splice_whole {α : Type} (L x : List α) (h : x.length = L.length) : splice L 0 x = x := by
  unfold splice
  rw [Nat.zero_add, h, List.drop_of_length_le (Nat.le_refl _)]
  simp

section
variable {P : Program} (w : World)
theorem add_at (g o n : Nat) : (⟨g, o, none⟩ : Addr).add n = ⟨g, o + n, none⟩ := by unfold Addr.add; split <;> simp_all
theorem run_append_here (t ty e : TypeId) (i : TypeInfo) (ht : P.underlying t = some (.slice e)) (hi : P.info? e = some i) (hs1 : i.size = 1)
    (g o sLen sCap : Nat) (cur : List Value) (T : TypeId) (hg : w.heap[g]? = some (.cells cur.toArray T (0, 0)))
    (a : Addr) (m c : Nat) (news : List Value) (hl : news.length = m) (hnews : ∀ j u, news[j]? = some u → w.cell? (a.add j) = some u) (h1 : ∀ u ∈ news, u.oneCell' = true)
    (hroom : sLen + m ≤ sCap) (hfit : o + sLen + m ≤ cur.length) :
    (Builtin.append_ #[t, t] ty #[.slice (some ⟨g, o, none⟩) sLen sCap, .slice (some a) m c]).run P w =
      .ok (.slice (some ⟨g, o, none⟩) (sLen + m) sCap) (w.setRow g (splice cur (o + sLen) news).toArray) := by
  have hf := run_firstCells_some (P := P) w 1 m a m c news (by omega) hnews
  have hst := run_storeCells_at P g (o + sLen) T news 0 cur.toArray w hg (by simp; omega) h1
  simp only [Nat.add_zero] at hst
  simp [Builtin.append_, run_underlying ht, sizeOf, typeInfo, hi, hs1, Builtin.lenOf, hroom, hf, add_at, hst, splice]
theorem run_append_here_text (t u ty e : TypeId) (i : TypeInfo) (ht : P.underlying t = some (.slice e)) (hu : P.underlying u = some .string) (hi : P.info? e = some i) (hs1 : i.size = 1)
    (g o sLen sCap : Nat) (cur : List Value) (T : TypeId) (hg : w.heap[g]? = some (.cells cur.toArray T (0, 0))) (s : ByteArray)
    (hroom : sLen + s.size ≤ sCap) (hfit : o + sLen + s.size ≤ cur.length) :
    (Builtin.append_ #[t, u] ty #[.slice (some ⟨g, o, none⟩) sLen sCap, .string s]).run P w =
      .ok (.slice (some ⟨g, o, none⟩) (sLen + s.size) sCap) (w.setRow g (splice cur (o + sLen) (bv s.data.toList)).toArray) := by
  have hb : (bv s.data.toList).length = s.size := by rw [bv_len]; rfl
  have hf : (Builtin.firstCells 1 s.size (.string s)).run P w = .ok (bv s.data.toList).toArray w := Lib.run_firstCells_string w 1 s
  have hst := run_storeCells_at P g (o + sLen) T (bv s.data.toList) 0 cur.toArray w hg (by simp [hb]; omega) (bv_one _)
  simp only [Nat.add_zero] at hst
  simp [Builtin.append_, run_underlying ht, run_underlying hu, sizeOf, typeInfo, hi, hs1, Builtin.lenOf, hroom, hf, add_at, hst, splice]

variable {ops : Array Oper} {rest : List Oper} {o : Oper} {a : Act} {Q : Exit → Act → World → Prop}
theorem wp_here (hgd : o.guard = none) (s x : Operand) (t : TypeId)
    (ho : o.op = .call { callee := .builtin .append, args := #[s, x], argTypes := #[t, t] })
    (e : TypeId) (i : TypeInfo) (ht : P.underlying t = some (.slice e)) (hi : P.info? e = some i) (hs1 : i.size = 1)
    (g off sLen sCap : Nat) (cur : List Value) (T : TypeId) (hs : a.eval s = .slice (some ⟨g, off, none⟩) sLen sCap) (hg : w.heap[g]? = some (.cells cur.toArray T (0, 0)))
    (ad : Addr) (m c : Nat) (news : List Value) (hx : a.eval x = .slice (some ad) m c) (hl : news.length = m) (hnews : ∀ j u, news[j]? = some u → w.cell? (ad.add j) = some u) (h1 : ∀ u ∈ news, u.oneCell' = true)
    (hroom : sLen + m ≤ sCap) (hfit : off + sLen + m ≤ cur.length)
    (h : ∀ w', w'.heap[g]? = some (.cells (splice cur (off + sLen) news).toArray T (0, 0)) → Out (fun k => k = g) w w' → wpList P ops Q rest (a.put o.dst (.slice (some ⟨g, off, none⟩) (sLen + m) sCap)) w') : wpList P ops Q (o :: rest) a w := by
  refine wpList_plain hgd fun K hK => ?_
  have hrun := run_append_here (P := P) w t o.type e i ht hi hs1 g off sLen sCap cur T hg ad m c news hl hnews h1 hroom hfit
  unfold Oper.wp execOp
  simp only [ho, resolve, invoke, builtin, Sem.run_bind, Sem.run_pure, Result.andThen_ok, List.map_toArray, List.map_cons, List.map_nil, hs, hx, hrun]
  exact hK _ _ (h _ (setRow_heap w g cur.toArray _ T _ hg) ((Out.refl (fun k => k = g) _).setRow (fun _ => rfl) _))
theorem wp_here_text (hgd : o.guard = none) (s x : Operand) (t u : TypeId)
    (ho : o.op = .call { callee := .builtin .append, args := #[s, x], argTypes := #[t, u] })
    (e : TypeId) (i : TypeInfo) (ht : P.underlying t = some (.slice e)) (hu : P.underlying u = some .string) (hi : P.info? e = some i) (hs1 : i.size = 1)
    (g off sLen sCap : Nat) (cur : List Value) (T : TypeId) (hs : a.eval s = .slice (some ⟨g, off, none⟩) sLen sCap) (hg : w.heap[g]? = some (.cells cur.toArray T (0, 0)))
    (b : ByteArray) (hx : a.eval x = .string b) (hroom : sLen + b.size ≤ sCap) (hfit : off + sLen + b.size ≤ cur.length)
    (h : ∀ w', w'.heap[g]? = some (.cells (splice cur (off + sLen) (bv b.data.toList)).toArray T (0, 0)) → Out (fun k => k = g) w w' → wpList P ops Q rest (a.put o.dst (.slice (some ⟨g, off, none⟩) (sLen + b.size) sCap)) w') : wpList P ops Q (o :: rest) a w := by
  refine wpList_plain hgd fun K hK => ?_
  have hrun := run_append_here_text (P := P) w t u o.type e i ht hu hi hs1 g off sLen sCap cur T hg b hroom hfit
  unfold Oper.wp execOp
  simp only [ho, resolve, invoke, builtin, Sem.run_bind, Sem.run_pure, Result.andThen_ok, List.map_toArray, List.map_cons, List.map_nil, hs, hx, hrun]
  exact hK _ _ (h _ (setRow_heap w g cur.toArray _ T _ hg) ((Out.refl (fun k => k = g) _).setRow (fun _ => rfl) _))
end

theorem info_byte : (Tryd.prog.info? 5).map (fun i => (i.zero, i.size, i.bytes)) = some (some (.int .u8 0), 1, 1) := by kernel_rfl
theorem madeBytes (n : Nat) : (madeCells (Value.cells (.int .u8 0)) (n * 1)) = (bv (List.replicate n 0)).toArray := by
  apply Array.ext
  · simp [madeCells, bv]
  · intro i h1 h2
    simp [madeCells, bv, Value.cells, Nat.mod_one]
/-- make([]byte, k) -/
theorem make_bytes (W : World) (k : Int) (n : Nat) (hk : k = n) (hn : n ≤ 140737488355328) :
    (Instr.makeSlice 55 (.int .i64 k) (.int .i64 k)).run Tryd.prog W = .ok (.slice (some ⟨W.heap.size, 0, none⟩) n n) (W.alloc (.cells (bv (List.replicate n 0)).toArray 5)) := by
  subst hk
  obtain ⟨i0, hi, hz0, hz1, hz2⟩ := info_parts info_byte
  have := run_make (P := Tryd.prog) W 55 5 i0 (.int .u8 0) Tryd.underlying55 hi hz0 .i64 .i64 n n (by omega) (by omega) (by rw [hz2]; omega) (by omega)
  rw [this, hz1]
  simp only [Int.toNat_natCast]
  rw [madeBytes]
/-- the text of bytes in a block known whole -/
theorem text_of {W : World} {g o n cap : Nat} {C : List Value} {T : TypeId} {l : List UInt8} (h : W.heap[g]? = some (.cells C.toArray T (0, 0))) (hl : l.length = n) (hc : ∀ j, j < n → C[o + j]? = (bv l)[j]?) :
    (convert 55 9 (.slice (some ⟨g, o, none⟩) n cap)).run Tryd.prog W = .ok (.string ⟨l.toArray⟩) W := by
  subst hl
  refine run_convert_bytes_back W 55 9 5 ⟨g, o, none⟩ cap l Tryd.underlying55 Tryd.underlying5 Tryd.underlying9 (fun j hj => ?_)
  rw [add_at, at_cell h]
  have := hc j hj
  rw [bv_get, List.getElem?_eq_getElem hj] at this
  simpa using this
end Go.Proofs.YtememmgnhnldaaaDoor.Own

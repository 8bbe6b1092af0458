/-
  Maps whose elements are whatever values: 'KMap P k kv w b f n': block b of w is a map of n entries; the entry at the key kv a holds the value v just where f a = some v.
-/
import Derived.Maps.OwnSet
import Derived.Maps.OwnOps
import Derived.Test.YtememmgnhnldaaaDoorOwn
namespace Go.Proofs.YtememmgnhnldaaaDoor.KM
open Go.Maps (Keyed)
open Go.MapKept Go.ChangeMaps Go.Proofs.YtememmgnhnldaaaDoor.Own

section
variable {α : Type} {P : Program} {k t e : TypeId} {kv : α → Value} {w : World} {b n : Nat} {f : α → Option Value}

structure KMap (P : Program) (k : TypeId) (kv : α → Value) (w : World) (b : Nat) (f : α → Option Value) (n : Nat) : Prop where
  is : ∃ es clock, w.heap[b]? = some (.map es clock) ∧ es.size = n ∧ Stamped es clock ∧ (∀ x ∈ es.toList, ∃ l, keyOf P k x.key = some l) ∧
    (∀ x ∈ es.toList, ∃ a, x.key = kv a ∧ f a = some x.val) ∧ ∀ a v, f a = some v → ∃ x ∈ es.toList, x.key = kv a ∧ x.val = v

theorem KMap.made (w : World) : KMap P k kv (w.alloc (.map #[] 0)) w.heap.size (fun _ => none) 0 :=
  ⟨#[], 0, at_new w _, rfl, stamped_empty 0, by simp, by simp, fun a v h => nomatch h⟩
theorem KMap.kept {w' : World} (h : KMap P k kv w b f n) (hb : w'.heap[b]? = w.heap[b]?) : KMap P k kv w' b f n := by
  obtain ⟨es, clock, h1, r⟩ := h.is
  exact ⟨es, clock, hb.trans h1, r⟩
theorem KMap.lt (h : KMap P k kv w b f n) : b < w.heap.size := by
  obtain ⟨es, clock, h1, r⟩ := h.is
  exact at_lt h1
theorem KMap.cong {f' : α → Option Value} {n' : Nat} (h : KMap P k kv w b f n) (hf : ∀ a, f a = f' a) (hn : n = n') : KMap P k kv w b f' n' := by
  have : f = f' := funext hf
  subst this hn; exact h

theorem apart {es : Array MapEntry} {clock : Nat} (h : Stamped es clock) {i j : Nat} {x y : MapEntry} (hi : es.toList[i]? = some x) (hj : es.toList[j]? = some y) (hk : x.key = y.key) : i = j := by
  have hn := h.2.2
  have li := (List.getElem?_eq_some_iff.1 hi).1
  have lj := (List.getElem?_eq_some_iff.1 hj).1
  have e1 : (es.toList.map (·.key))[i]? = some x.key := by simp only [List.getElem?_map, hi, Option.map_some]
  have e2 : (es.toList.map (·.key))[j]? = some x.key := by simp only [List.getElem?_map, hj, Option.map_some, hk]
  exact (List.getElem?_inj (by simpa using li) hn).1 (e1.trans e2.symm)

/-- what is at the key -/
theorem KMap.found (h : KMap P k kv w b f n) (K : Keyed P k) {a : α} {l : Lit} (hkey : keyOf P k (kv a) = some l) (hinj : ∀ c, kv c = kv a → c = a) :
    ∃ es clock, w.heap[b]? = some (.map es clock) ∧ ((f a = none ∧ (Instr.findKey k (kv a) es.toList).run P w = .ok none w ∧ ∀ x ∈ es.toList, x.key ≠ kv a) ∨
      ∃ j x, f a = some x.val ∧ (Instr.findKey k (kv a) es.toList).run P w = .ok (some (j, x.val)) w ∧ es.toList[j]? = some x ∧ x.key = kv a) := by
  obtain ⟨es, clock, hb, hn, hst, hks, h1, h2⟩ := h.is
  refine ⟨es, clock, hb, ?_⟩
  rcases K.find w hkey es.toList hks with ⟨r1, r2⟩ | ⟨j, x, r1, r2, r3⟩
  · refine .inl ⟨?_, r1, r2⟩
    cases hf : f a with
    | none => rfl
    | some v =>
      obtain ⟨x, hx, hk, _⟩ := h2 a v hf
      exact absurd hk (r2 x hx)
  · refine .inr ⟨j, x, ?_, r1, r2, r3⟩
    obtain ⟨c, hc, hv⟩ := h1 x (List.mem_of_getElem? r2)
    rw [hinj c (hc.symm.trans r3)] at hv
    exact hv

theorem KMap.look (c : Bool) (h : KMap P k kv w b f n) (K : Keyed P k) (ht : P.underlying t = some (.map k e)) {z : Value} (hz : (zeroValue e).run P w = .ok z w)
    {a : α} {l : Lit} (hkey : keyOf P k (kv a) = some l) (hinj : ∀ c, kv c = kv a → c = a) :
    (Instr.lookup t (.map (some b)) (kv a) c).run P w = .ok (if c then .tuple #[(f a).getD z, .bool (f a).isSome] else (f a).getD z) w := by
  obtain ⟨es, clock, hb, ⟨h0, h1, _⟩ | ⟨j, x, h0, h1, _⟩⟩ := h.found K hkey hinj
  · simp [Instr.lookup, run_underlying ht, MapKept.run_getObj_map hb, K.check w _ hkey, h1, hz, h0, Result.andThen]
  · simp [Instr.lookup, run_underlying ht, MapKept.run_getObj_map hb, K.check w _ hkey, h1, h0, Result.andThen]

theorem KMap.len (h : KMap P k kv w b f n) (ht : P.underlying t = some (.map k e)) (ty : TypeId) : (Builtin.len_ #[t] ty #[.map (some b)]).run P w = .ok (.int .i64 n) w := by
  obtain ⟨es, clock, hb, hn, _⟩ := h.is
  simp [Builtin.len_, run_underlying ht, MapKept.run_getObj_map hb, goInt, hn, Result.andThen]

/-- only block b has turned -/
theorem out_block (w : World) (b : Nat) (o : Obj) : Out (fun i => i = b) w (setBlock w b o) :=
  ⟨rfl, rfl, rfl, by simp [setBlock], fun i _ hi => by simp [setBlock, Ne.symm hi]⟩

section
variable [DecidableEq α]
def put (f : α → Option Value) (a : α) (v : Value) : α → Option Value := fun c => if c = a then some v else f c
def del (f : α → Option Value) (a : α) : α → Option Value := fun c => if c = a then none else f c

theorem KMap.store (h : KMap P k kv w b f n) (K : Keyed P k) (ht : P.underlying t = some (.map k e)) {a : α} {l : Lit} (hkey : keyOf P k (kv a) = some l) (hinj : ∀ c, kv c = kv a → c = a) (v : Value) :
    ∃ w', (Instr.mapUpdate t (.map (some b)) (kv a) v).run P w = .ok () w' ∧ KMap P k kv w' b (put f a v) (if (f a).isSome then n else n + 1) ∧ Out (fun i => i = b) w w' := by
  have hfd := h.found K hkey hinj
  obtain ⟨es, clock, hb, hn, hst, hks, h1, h2⟩ := h.is
  obtain ⟨es', clock', hb', hcase⟩ := hfd
  cases hb.symm.trans hb'
  rcases hcase with ⟨h0, r1, r2⟩ | ⟨j, x0, h0, r1, r2, r3⟩
  · refine ⟨setBlock w b (.map (es.push ⟨kv a, v, clock⟩) (clock + 1)), ?_, ⟨_, _, heap_setBlock_same hb _, ?_, stamped_push hst r2, ?_, ?_, ?_⟩, out_block w b _⟩
    · simp [Instr.mapUpdate, run_underlying ht, MapKept.run_getObj_map hb, K.check w false hkey, r1, MapKept.run_setObj_map _ hb, Result.andThen, setBlock]
    · simp [h0, hn]
    · intro x hx
      simp only [Array.toList_push, List.mem_append, List.mem_singleton] at hx
      rcases hx with hx | rfl
      · exact hks x hx
      · exact ⟨l, hkey⟩
    · intro x hx
      simp only [Array.toList_push, List.mem_append, List.mem_singleton] at hx
      rcases hx with hx | rfl
      · obtain ⟨c, hc, hv⟩ := h1 x hx
        have hne : c ≠ a := fun e => r2 x hx (by rw [hc, e])
        exact ⟨c, hc, by simp [put, hne, hv]⟩
      · exact ⟨a, rfl, by simp [put]⟩
    · intro c u hu
      simp only [Array.toList_push, List.mem_append, List.mem_singleton]
      by_cases hc : c = a
      · subst hc
        simp [put] at hu
        exact ⟨_, .inr rfl, rfl, hu⟩
      · simp [put, hc] at hu
        obtain ⟨x, hx, r⟩ := h2 c u hu
        exact ⟨x, .inl hx, r⟩
  · have hj : es[j]? = some x0 := by simpa using r2
    have hjl : j < es.toList.length := (List.getElem?_eq_some_iff.1 r2).1
    have hkeyf : ∀ e', es[j]? = some e' → ({ e' with key := kv a, val := v } : MapEntry).key = e'.key := fun e' he' => by rw [hj] at he'; cases he'; exact r3.symm
    have hlist : (es.modify j (fun e' => { e' with key := kv a, val := v })).toList = es.toList.set j { x0 with key := kv a, val := v } := by rw [Array.toList_modify, modify_eq_set _ _ _ _ r2]
    have who : ∀ x ∈ es.toList.set j { x0 with key := kv a, val := v }, x = { x0 with key := kv a, val := v } ∨ (x ∈ es.toList ∧ x.key ≠ kv a) := by
      intro x hx
      obtain ⟨i, hi, ex⟩ := List.getElem_of_mem hx
      rw [List.getElem_set] at ex
      split at ex
      · exact Or.inl ex.symm
      · rename_i hne
        have hi' : i < es.toList.length := by simpa using hi
        refine Or.inr ⟨ex ▸ List.getElem_mem hi', fun hk => hne ?_⟩
        exact (apart hst (i := i) (j := j) (by rw [List.getElem?_eq_getElem hi', ex]) r2 (hk.trans r3.symm)).symm
    refine ⟨setBlock w b (.map (es.modify j (fun e' => { e' with key := kv a, val := v })) clock), ?_, ⟨_, _, heap_setBlock_same hb _, ?_, stamped_modify hst _ _ (fun _ _ => rfl) (fun e' _ he' => hkeyf e' he'), ?_, ?_, ?_⟩, out_block w b _⟩
    · simp [Instr.mapUpdate, run_underlying ht, MapKept.run_getObj_map hb, K.check w false hkey, r1, hj, r3, K.stays w hkey, MapKept.run_setObj_map _ hb, Result.andThen, setBlock]
    · simp [h0, hn]
    · intro x hx
      rw [hlist] at hx
      rcases who x hx with rfl | ⟨hx', _⟩
      · exact ⟨l, hkey⟩
      · exact hks x hx'
    · intro x hx
      rw [hlist] at hx
      rcases who x hx with rfl | ⟨hx', hne⟩
      · exact ⟨a, rfl, by simp [put]⟩
      · obtain ⟨c, hc, hv⟩ := h1 x hx'
        have hca : c ≠ a := fun e => hne (by rw [hc, e])
        exact ⟨c, hc, by simp [put, hca, hv]⟩
    · intro c u hu
      rw [hlist]
      by_cases hc : c = a
      · subst hc
        simp [put] at hu
        exact ⟨{ x0 with key := kv c, val := v }, List.mem_iff_getElem.2 ⟨j, by simpa using hjl, by simp⟩, rfl, hu⟩
      · simp [put, hc] at hu
        obtain ⟨x, hx, hk, hv⟩ := h2 c u hu
        obtain ⟨i, hi, ex⟩ := List.getElem_of_mem hx
        have hij : j ≠ i := fun e => by
          subst e
          rw [List.getElem?_eq_getElem hi] at r2
          cases r2
          rw [ex, hk] at r3
          exact hc (hinj c r3)
        exact ⟨x, List.mem_iff_getElem.2 ⟨i, by simpa using hi, by rw [List.getElem_set_ne hij]; exact ex⟩, hk, hv⟩

theorem KMap.drop (h : KMap P k kv w b f n) (K : Keyed P k) (ht : P.underlying t = some (.map k e)) {a : α} {l : Lit} (hkey : keyOf P k (kv a) = some l) (hinj : ∀ c, kv c = kv a → c = a) (ty : TypeId) :
    ∃ w', (Builtin.delete_ #[t, k] ty #[.map (some b), kv a]).run P w = .ok (.tuple #[]) w' ∧ KMap P k kv w' b (del f a) (if (f a).isSome then n - 1 else n) ∧ Out (fun i => i = b) w w' := by
  have hfd := h.found K hkey hinj
  obtain ⟨es, clock, hb, hn, hst, hks, h1, h2⟩ := h.is
  obtain ⟨es', clock', hb', hcase⟩ := hfd
  cases hb.symm.trans hb'
  rcases hcase with ⟨h0, r1, r2⟩ | ⟨j, x0, h0, r1, r2, r3⟩
  · refine ⟨setBlock w b (.map es clock), ?_, ⟨_, _, heap_setBlock_same hb _, ?_, hst, hks, ?_, ?_⟩, out_block w b _⟩
    · simp [Builtin.delete_, run_underlying ht, MapKept.run_getObj_map hb, K.check w _ hkey, r1, MapKept.run_setObj_map _ hb, Result.andThen, setBlock]
    · simp [h0, hn]
    · intro x hx
      obtain ⟨c, hc, hv⟩ := h1 x hx
      have hne : c ≠ a := fun e => r2 x hx (by rw [hc, e])
      exact ⟨c, hc, by simp [del, hne, hv]⟩
    · intro c u hu
      by_cases hc : c = a
      · simp [del, hc] at hu
      · simp [del, hc] at hu
        exact h2 c u hu
  · have hjl : j < es.toList.length := (List.getElem?_eq_some_iff.1 r2).1
    have hjs : j < es.size := by simpa using hjl
    have hsub : (es.eraseIdxIfInBounds j).toList = es.toList.eraseIdx j := by
      unfold Array.eraseIdxIfInBounds
      rw [dif_pos hjs]
      simp
    refine ⟨setBlock w b (.map (es.eraseIdxIfInBounds j) clock), ?_, ⟨_, _, heap_setBlock_same hb _, ?_, stamped_erase hst j, ?_, ?_, ?_⟩, out_block w b _⟩
    · simp [Builtin.delete_, run_underlying ht, MapKept.run_getObj_map hb, K.check w _ hkey, r1, MapKept.run_setObj_map _ hb, Result.andThen, setBlock]
    · have hsz := congrArg List.length hsub
      rw [List.length_eraseIdx_of_lt hjl, Array.length_toList, Array.length_toList] at hsz
      simp only [h0, Option.isSome_some, if_true]
      omega
    · intro x hx
      rw [hsub] at hx
      exact hks x ((List.eraseIdx_sublist _ _).subset hx)
    · intro x hx
      rw [hsub] at hx
      obtain ⟨i, hne, hi⟩ := List.mem_eraseIdx_iff_getElem?.1 hx
      obtain ⟨c, hc, hv⟩ := h1 x (List.mem_of_getElem? hi)
      have hca : c ≠ a := fun e => hne (apart hst hi r2 (by rw [hc, e, r3]))
      exact ⟨c, hc, by simp [del, hca, hv]⟩
    · intro c u hu
      by_cases hc : c = a
      · simp [del, hc] at hu
      · simp [del, hc] at hu
        obtain ⟨x, hx, hk, hv⟩ := h2 c u hu
        obtain ⟨i, hi, ex⟩ := List.getElem_of_mem hx
        refine ⟨x, ?_, hk, hv⟩
        rw [hsub]
        refine List.mem_eraseIdx_iff_getElem?.2 ⟨i, fun e => ?_, by rw [List.getElem?_eq_getElem hi, ex]⟩
        subst e
        rw [List.getElem?_eq_getElem hi] at r2
        cases r2
        rw [ex, hk] at r3
        exact hc (hinj c r3)

/-! ### at the operation, for the walk -/
section
variable {ops : Array Oper} {rest : List Oper} {o : Oper} {act : Act} {Q : Exit → Act → World → Prop}

/-- 'm[a] = v' -/
theorem wp_store (hg : o.guard = none) (m x v : Operand) (t : TypeId) (hop : o.op = Op.mapUpdate t m x v) (k e : TypeId) (K : Keyed P k) (ht : P.underlying t = some (.map k e)) (b n : Nat) (f : α → Option Value)
    (hm : act.eval m = .map (some b)) (h : KMap P k kv w b f n) (a : α) (hx : act.eval x = kv a) (val : Value) (hv : act.eval v = val) {l : Lit} (hkey : keyOf P k (kv a) = some l) (hinj : ∀ c, kv c = kv a → c = a)
    (hK : ∀ w', KMap P k kv w' b (put f a val) (if (f a).isSome then n else n + 1) → Out (fun i => i = b) w w' → wpList P ops Q rest (act.put o.dst undef) w') : wpList P ops Q (o :: rest) act w := by
  refine wpList_plain hg fun K' hK' => ?_
  obtain ⟨w', hrun, r1, r2⟩ := h.store K ht hkey hinj val
  unfold Oper.wp
  simp [execOp, hop, hm, hx, hv, hrun, Result.andThen]
  exact hK' _ _ (hK w' r1 r2)

/-- 'delete(m, a)' -/
theorem wp_drop (hg : o.guard = none) (m x : Operand) (t k : TypeId) (hop : o.op = Op.call { callee := Callee.builtin Builtin.delete, args := #[m, x], argTypes := #[t, k] }) (e : TypeId) (K : Keyed P k) (ht : P.underlying t = some (.map k e)) (b n : Nat) (f : α → Option Value)
    (hm : act.eval m = .map (some b)) (h : KMap P k kv w b f n) (a : α) (hx : act.eval x = kv a) {l : Lit} (hkey : keyOf P k (kv a) = some l) (hinj : ∀ c, kv c = kv a → c = a)
    (hK : ∀ w', KMap P k kv w' b (del f a) (if (f a).isSome then n - 1 else n) → Out (fun i => i = b) w w' → wpList P ops Q rest (act.put o.dst (.tuple #[])) w') : wpList P ops Q (o :: rest) act w := by
  refine wpList_plain hg fun K' hK' => ?_
  obtain ⟨w', hrun, r1, r2⟩ := h.drop K ht hkey hinj o.type
  unfold Oper.wp
  simp [execOp, hop, resolve, invoke, builtin, hm, hx, hrun, Result.andThen]
  exact hK' _ _ (hK w' r1 r2)

omit [DecidableEq α] in
/-- 'len(m)' -/
theorem wp_len (hg : o.guard = none) (m : Operand) (t : TypeId) (hop : o.op = Op.call { callee := Callee.builtin Builtin.len, args := #[m], argTypes := #[t] }) (k e : TypeId) (ht : P.underlying t = some (.map k e)) (b n : Nat) (f : α → Option Value)
    (hm : act.eval m = .map (some b)) (h : KMap P k kv w b f n) (hK : wpList P ops Q rest (act.put o.dst (.int .i64 n)) w) : wpList P ops Q (o :: rest) act w := by
  refine wpList_plain hg fun K' hK' => ?_
  unfold Oper.wp
  simp [execOp, hop, resolve, invoke, builtin, hm, h.len ht o.type, Result.andThen]
  exact hK' _ _ hK

omit [DecidableEq α] in
/-- 'v, ok := m[a]', 'm[a]' -/
theorem wp_look (hg : o.guard = none) (m x : Operand) (t : TypeId) (c : Bool) (hop : o.op = Op.lookup t m x c) (k e : TypeId) (K : Keyed P k) (ht : P.underlying t = some (.map k e)) (z : Value) (hz : ∀ w, (zeroValue e).run P w = .ok z w) (b n : Nat) (f : α → Option Value)
    (hm : act.eval m = .map (some b)) (h : KMap P k kv w b f n) (a : α) (hx : act.eval x = kv a) {l : Lit} (hkey : keyOf P k (kv a) = some l) (hinj : ∀ c, kv c = kv a → c = a)
    (hK : wpList P ops Q rest (act.put o.dst (if c then .tuple #[(f a).getD z, .bool (f a).isSome] else (f a).getD z)) w) : wpList P ops Q (o :: rest) act w := by
  refine wpList_plain hg fun K' hK' => ?_
  unfold Oper.wp
  simp [execOp, hop, hm, hx, h.look c K ht (hz w) hkey hinj, Result.andThen]
  exact hK' _ _ hK
end

/-- numbers as keys -/
def ik (a : Int) : Value := .int .i64 a
theorem ik_inj (a : Int) : ∀ c, ik c = ik a → c = a := by intro c h; cases h; rfl
theorem ik_key {k : TypeId} (hk : P.underlying k = some (.int .i64)) {a : Int} (h : -9223372036854775808 ≤ a ∧ a ≤ 9223372036854775807) : keyOf P k (ik a) = some (.int .i64 a) :=
  Maps.keyOf_int_mk hk (by simp [Lit.wf, IntKind.min, IntKind.max, IntKind.signed, IntKind.bits]; omega)
end
end
end Go.Proofs.YtememmgnhnldaaaDoor.KM

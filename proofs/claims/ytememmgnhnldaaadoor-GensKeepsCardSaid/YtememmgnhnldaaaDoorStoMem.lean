/-
  Layer 11 (store): a store in memory: the box, the map, the rows of bytes.
-/
import Derived.Test.YtememmgnhnldaaaDoorStoModel
import Derived.Test.YtememmgnhnldaaaDoorMap
import Derived.Test.YtememmgnhnldaaaDoorOwnRow
import Derived.Test.YtememmgnhnldaaaDoorRow1
import Derived.Test.YtememmgnhnldaaaDoorRoom
import Derived.Lib.AppendStr
import Derived.StringKeys
import Derived.Lib.Hide
import Derived.WalkKit
namespace Go.Proofs.YtememmgnhnldaaaDoor.Sto
open Go.RowKit Go.Proofs.YtememmgnhnldaaaDoor.Own Go.Proofs.YtememmgnhnldaaaDoor.KM
open Go.Maps (Keyed)
open Go.Proofs.YtememmgnhnldaaaDoor.Rw (str)

theorem str_inj (a : Bs) : ∀ c, str c = str a → c = a := by
  intro c h
  simpa [str] using h
theorem keyed : Keyed Tryd.prog 9 := Maps.string_keyed Tryd.underlying9
theorem str_key {s : ByteArray} (h : s.size ≤ maxLen) : keyOf Tryd.prog 9 (str s.data.toList) = some (.string s.data.toList) := WideMaps.keyOf_string_mk Tryd.underlying9 h

structure En where
  fl : Fl
  sl : Value
def En.val (x : En) : Value := .agg #[x.sl, .int .i64 x.fl.sure]
abbrev enm (x : En) : Bs := x.fl.nm
def look (V : List En) (a : Bs) : Option Value := (lk enm V a).map En.val
/-- bytes in a row of their own -/
def Bt (w : World) (sl : Value) (bs : Bs) : Prop := w.ownsRow 0 5 1 sl bs.length (bv bs)
def Ap (u v : Value) : Prop := ∀ g, u.ownBlock = some g → v.ownBlock ≠ some g
theorem Ap.symm {u v : Value} (h : Ap u v) : Ap v u := fun g hv hu => h g hu hv
theorem Bt.lt {w : World} {sl : Value} {bs : Bs} (h : Bt w sl bs) {g : Nat} (hg : sl.ownBlock = some g) : g < w.heap.size := by
  rcases h.2 with ⟨rfl, _⟩ | ⟨g', cap, cur, rfl, _, hh, _⟩
  · cases hg
  · cases hg; exact at_lt hh
theorem Bt.kept {w w' : World} {sl : Value} {bs : Bs} (h : Bt w sl bs) (hb : ∀ g, sl.ownBlock = some g → w'.heap[g]? = w.heap[g]?) : Bt w' sl bs := by
  refine ⟨h.1, ?_⟩
  rcases h.2 with h0 | ⟨g, cap, cur, hv, hg, hh, r⟩
  · exact .inl h0
  · exact .inr ⟨g, cap, cur, hv, hg, (hb g (by rw [hv]; rfl)).trans hh, r⟩
theorem Bt.nil (w : World) : Bt w (.slice none 0 0) [] := World.ownsRow_nil _ _ _ _
theorem Bt.shape {w : World} {sl : Value} {bs : Bs} (h : Bt w sl bs) : ∃ p c, sl = .slice p bs.length c ∧ bs.length ≤ c ∧ c ≤ maxLen ∧ (p = none → c = 0) := by
  rcases h.2 with ⟨rfl, h0⟩ | ⟨g, cap, cur, rfl, _, hh, h3, h4, _⟩
  · exact ⟨none, 0, by rw [h0], by omega, by unfold maxLen; omega, fun _ => rfl⟩
  · exact ⟨_, cap, rfl, h3, h4, fun h => nomatch h⟩

structure Base (w : World) (bs : Nat → Prop) (b m : Nat) (V : List En) (most total bad : Int) : Prop where
  box : w.heap[b]? = some (.cells #[.map (some m), .int .i64 most, .int .i64 total, .int .i64 bad] 61 (0, 0))
  map : KMap Tryd.prog 9 str w m (look V) V.length
  rise : Rise enm V
  rows : ∀ x ∈ V, Bt w x.sl x.fl.bs
  apart : V.Pairwise fun x y => Ap x.sl y.sl
  bb : bs b
  bm : bs m
  mine : ∀ x ∈ V, ∀ g, x.sl.ownBlock = some g → bs g ∧ g ≠ b ∧ g ≠ m
  ne : b ≠ m

section
variable {w w' : World} {bs : Nat → Prop} {b m : Nat} {V : List En} {most total bad : Int}
theorem Base.lt (h : Base w bs b m V most total bad) : b < w.heap.size ∧ m < w.heap.size := ⟨at_lt h.box, h.map.lt⟩
theorem Base.kept (h : Base w bs b m V most total bad) (hk : ∀ k, bs k → k < w.heap.size → w'.heap[k]? = w.heap[k]?) : Base w' bs b m V most total bad :=
  ⟨(hk b h.bb h.lt.1).trans h.box, h.map.kept (hk m h.bm h.lt.2), h.rise, fun x hx => (h.rows x hx).kept fun g hg => hk g (h.mine x hx g hg).1 ((h.rows x hx).lt hg), h.apart, h.bb, h.bm, h.mine, h.ne⟩
theorem Base.out (h : Base w bs b m V most total bad) {S : Nat → Prop} (ho : Out S w w') (hs : ∀ k, bs k → ¬ S k) : Base w' bs b m V most total bad := h.kept fun k hk hl => ho.block k hl (hs k hk)
theorem Base.below (h : Base w bs b m V most total bad) (hb : Below w.heap.size w w') : Base w' bs b m V most total bad := h.kept fun k _ hl => hb.block k hl
theorem Base.more (h : Base w bs b m V most total bad) {bs' : Nat → Prop} (hs : ∀ k, bs k → bs' k) : Base w bs' b m V most total bad :=
  ⟨h.box, h.map, h.rise, h.rows, h.apart, hs _ h.bb, hs _ h.bm, fun x hx g hg => ⟨hs _ (h.mine x hx g hg).1, (h.mine x hx g hg).2⟩, h.ne⟩
/-- the box's own numbers -/
theorem Base.rebox (h : Base w bs b m V most total bad) {most' total' bad' : Int} (hb : w'.heap[b]? = some (.cells #[.map (some m), .int .i64 most', .int .i64 total', .int .i64 bad'] 61 (0, 0))) (ho : Out (fun k => k = b) w w') : Base w' bs b m V most' total' bad' :=
  ⟨hb, h.map.kept (ho.block m h.lt.2 (fun e => h.ne e.symm)), h.rise, fun x hx => (h.rows x hx).kept fun g hg => ho.block g ((h.rows x hx).lt hg) (h.mine x hx g hg).2.1, h.apart, h.bb, h.bm, h.mine, h.ne⟩
theorem Base.total_ (h : Base w bs b m V most total bad) (n : Int) : Base (w.setCell ⟨b, 2, none⟩ (.int .i64 n)) bs b m V most n bad :=
  h.rebox (by have := at_set h.box 2 (.int .i64 n); simpa using this) ((Out.refl (fun k => k = b) w).setCell (p := ⟨b, 2, none⟩) (fun _ => rfl) _)
theorem Base.bad_ (h : Base w bs b m V most total bad) (n : Int) : Base (w.setCell ⟨b, 3, none⟩ (.int .i64 n)) bs b m V most total n :=
  h.rebox (by have := at_set h.box 3 (.int .i64 n); simpa using this) ((Out.refl (fun k => k = b) w).setCell (p := ⟨b, 3, none⟩) (fun _ => rfl) _)

theorem look_pt (h : Rise enm V) (x : En) (c : Bs) : put (look V) (enm x) x.val c = look (pt enm V x) c := by
  unfold put look
  rw [h.lk_pt]
  split <;> rfl
theorem look_wo (h : Rise enm V) (a c : Bs) : del (look V) a c = look (wo enm V a) c := by
  unfold del look
  rw [h.lk_wo]
  split <;> rfl
theorem look_some (V : List En) (a : Bs) : (look V a).isSome = (lk enm V a).isSome := by unfold look; cases lk enm V a <;> rfl
theorem apart_wo {V : List En} (h : V.Pairwise fun x y => Ap x.sl y.sl) (a : Bs) : (wo enm V a).Pairwise fun x y => Ap x.sl y.sl := List.Pairwise.filter _ h
theorem apart_pt {V : List En} (h : V.Pairwise fun x y => Ap x.sl y.sl) (x : En) (hx : ∀ y ∈ V, enm y ≠ enm x → Ap x.sl y.sl) : (pt enm V x).Pairwise fun x y => Ap x.sl y.sl := by
  refine ((pt_perm (nm := enm) V x).pairwise_iff (fun h => h.symm)).2 (List.pairwise_cons.2 ⟨fun y hy => ?_, apart_wo h _⟩)
  exact hx y (mem_wo.1 hy).1 (mem_wo.1 hy).2
/-- an entry is put into the map -/
theorem Base.put_ (h : Base w bs b m V most total bad) (x : En) {w2 : World} (hbox : w2.heap[b]? = w.heap[b]?) (hrows : ∀ y ∈ V, enm y ≠ enm x → ∀ g, y.sl.ownBlock = some g → w2.heap[g]? = w.heap[g]?)
    (hm : KMap Tryd.prog 9 str w' m (put (look V) (enm x) x.val) (if (look V (enm x)).isSome then V.length else V.length + 1))
    (ho : Out (fun k => k = m) w2 w') (hr : Bt w2 x.sl x.fl.bs) (ha : ∀ y ∈ V, enm y ≠ enm x → Ap x.sl y.sl) (hb : ∀ g, x.sl.ownBlock = some g → bs g ∧ g ≠ b ∧ g ≠ m) : Base w' bs b m (pt enm V x) most total bad := by
  have hbox2 := hbox.trans h.box
  have hmem : ∀ y ∈ pt enm V x, Bt w2 y.sl y.fl.bs ∧ ∀ g, y.sl.ownBlock = some g → bs g ∧ g ≠ b ∧ g ≠ m := by
    intro y hy
    rcases mem_pt.1 hy with rfl | ⟨h1, h2⟩
    · exact ⟨hr, hb⟩
    · exact ⟨(h.rows y h1).kept (hrows y h1 h2), h.mine y h1⟩
  refine ⟨(ho.block b (at_lt hbox2) h.ne).trans hbox2, hm.cong (look_pt h.rise x) ?_, h.rise.pt x, fun y hy => ?_, apart_pt h.apart x ha, h.bb, h.bm, fun y hy => (hmem y hy).2, h.ne⟩
  · rw [look_some, h.rise.len_pt]
  · obtain ⟨r1, r2⟩ := hmem y hy
    exact r1.kept fun g hg => ho.block g (r1.lt hg) (r2 g hg).2.2
theorem apart_mem {V : List En} (h : V.Pairwise fun x y => Ap x.sl y.sl) {x y : En} (hx : x ∈ V) (hy : y ∈ V) (hne : x ≠ y) : Ap x.sl y.sl := by
  induction V with
  | nil => simp at hx
  | cons z r ih =>
    obtain ⟨h1, h2⟩ := List.pairwise_cons.1 h
    rcases List.mem_cons.1 hx with ex | hx' <;> rcases List.mem_cons.1 hy with ey | hy'
    · exact absurd (ex.trans ey.symm) hne
    · rw [ex]; exact h1 y hy'
    · rw [ey]; exact (h1 x hx').symm
    · exact ih h2 hx' hy'
/-- an entry goes -/
theorem Base.del_ (h : Base w bs b m V most total bad) (a : Bs) (hm : KMap Tryd.prog 9 str w' m (del (look V) a) (if (look V a).isSome then V.length - 1 else V.length))
    (ho : Out (fun k => k = m) w w') : Base w' bs b m (wo enm V a) most total bad := by
  refine ⟨(ho.block b h.lt.1 h.ne).trans h.box, hm.cong (look_wo h.rise a) ?_, h.rise.wo a, fun y hy => ?_, apart_wo h.apart a, h.bb, h.bm, fun y hy => h.mine y (mem_wo.1 hy).1, h.ne⟩
  · rw [look_some, h.rise.len_wo]
  · have hy' := (mem_wo.1 hy).1
    exact (h.rows y hy').kept fun g hg => ho.block g ((h.rows y hy').lt hg) (h.mine y hy' g hg).2.2

/-- the entry at a name, or an empty one -/
def gotE (V : List En) (a : Bs) : En := (lk enm V a).getD ⟨⟨a, [], 0⟩, .slice none 0 0⟩
theorem gotE_some {V : List En} {a : Bs} {x : En} (h : lk enm V a = some x) : gotE V a = x := by rw [gotE, h]; rfl
theorem gotE_none {V : List En} {a : Bs} (h : lk enm V a = none) : gotE V a = ⟨⟨a, [], 0⟩, .slice none 0 0⟩ := by rw [gotE, h]; rfl
theorem lk_fl (V : List En) (a : Bs) : (lk enm V a).map En.fl = flk (V.map En.fl) a := lk_map En.fl (fun _ => rfl) V a
theorem gotE_fl (V : List En) (a : Bs) : (gotE V a).fl = got (V.map En.fl) a := by
  unfold gotE got
  rw [← lk_fl]
  cases lk enm V a <;> rfl
theorem lk_is (V : List En) (a : Bs) : (lk enm V a).isSome = (flk (V.map En.fl) a).isSome := by rw [← lk_fl]; cases lk enm V a <;> rfl
theorem Base.got_ (h : Base w bs b m V most total bad) (a : Bs) : Bt w (gotE V a).sl (gotE V a).fl.bs ∧ ∀ g, (gotE V a).sl.ownBlock = some g → bs g ∧ g ≠ b ∧ g ≠ m ∧ gotE V a ∈ V := by
  cases hl : lk enm V a with
  | none => rw [gotE_none hl]; exact ⟨Bt.nil w, fun g hg => by cases hg⟩
  | some x =>
    rw [gotE_some hl]
    have hx := (lk_some hl).1
    exact ⟨h.rows x hx, fun g hg => ⟨(h.mine x hx g hg).1, (h.mine x hx g hg).2.1, (h.mine x hx g hg).2.2, hx⟩⟩
theorem zeroFile (w : World) : (zeroValue 57).run Tryd.prog w = .ok (.agg #[.slice none 0 0, .int .i64 0]) w := by kernel_rfl
theorem look_getD (V : List En) (a : Bs) : (look V a).getD (.agg #[.slice none 0 0, .int .i64 0]) = (gotE V a).val := by
  unfold look gotE
  cases lk enm V a <;> rfl
theorem Base.look_ok (h : Base w bs b m V most total bad) (s : ByteArray) (hs : s.size ≤ maxLen) : (Instr.lookup 59 (.map (some m)) (.string s) true).run Tryd.prog w = .ok (.tuple #[(gotE V s.data.toList).val, .bool (flk (V.map En.fl) s.data.toList).isSome]) w := by
  have := h.map.look true keyed Tryd.underlying59 (zeroFile w) (a := s.data.toList) (str_key hs) (str_inj _)
  rw [look_getD, look_some, lk_is] at this
  exact this
theorem Base.look_ (h : Base w bs b m V most total bad) (s : ByteArray) (hs : s.size ≤ maxLen) : (Instr.lookup 59 (.map (some m)) (.string s) false).run Tryd.prog w = .ok (gotE V s.data.toList).val w := by
  have := h.map.look false keyed Tryd.underlying59 (zeroFile w) (a := s.data.toList) (str_key hs) (str_inj _)
  rw [look_getD] at this
  exact this
theorem nil_text (W : World) : (convert 55 9 (.slice none 0 0)).run Tryd.prog W = .ok (.string ⟨#[]⟩) W := by kernel_rfl
theorem Bt.text {sl : Value} {l : Bs} (h : Bt w sl l) : (convert 55 9 sl).run Tryd.prog w = .ok (.string ⟨l.toArray⟩) w := by
  rcases h.2 with ⟨rfl, h0⟩ | ⟨g, cap, cur, rfl, _, hh, h3, h4, h5, h6⟩
  · obtain rfl := List.eq_nil_of_length_eq_zero h0
    exact nil_text w
  · refine text_of (C := cur.toList) (T := 5) (by rw [Array.toArray_toList]; exact hh) rfl fun j hj => ?_
    have : (cur.toList.take (l.length * 1))[j]? = (bv l)[j]? := by rw [h6]
    rw [Nat.mul_one, List.getElem?_take, if_pos hj] at this
    rwa [Nat.zero_add]

/-- a store, whole -/
structure Sto (w : World) (bs : Nat → Prop) (b : Nat) (t : St) : Prop where
  ok : Ok t
  all : ∀ k, bs k → k < w.heap.size
  is : ∃ m V, V.map En.fl = t.L ∧ Base w bs b m V t.most (tot t.L : Nat) t.bad
theorem Sto.out {t : St} (h : Sto w bs b t) {S : Nat → Prop} (ho : Out S w w') (hs : ∀ k, bs k → ¬ S k) : Sto w' bs b t := by
  obtain ⟨m, V, e, hB⟩ := h.is
  exact ⟨h.ok, fun k hk => Nat.lt_of_lt_of_le (h.all k hk) ho.size, m, V, e, hB.out ho hs⟩
theorem Sto.below {t : St} (h : Sto w bs b t) (hb : Below w.heap.size w w') : Sto w' bs b t := by
  obtain ⟨m, V, e, hB⟩ := h.is
  exact ⟨h.ok, fun k hk => Nat.lt_of_lt_of_le (h.all k hk) hb.size, m, V, e, hB.below hb⟩
theorem Sto.lt {t : St} (h : Sto w bs b t) : b < w.heap.size ∧ bs b := by
  obtain ⟨m, V, e, hB⟩ := h.is
  exact ⟨hB.lt.1, hB.bb⟩

/-- what a call that may write leaves -/
def Does (w : World) (bs : Nat → Prop) (w' : World) (b : Nat) (t' : St) : Prop := ∃ bs', Sto w' bs' b t' ∧ Out bs w w' ∧ ∀ k, bs' k → bs k ∨ w.heap.size ≤ k

/-- what a writing call leaves, in parts -/
def Leaves (w : World) (bs : Nat → Prop) (w' : World) (b m : Nat) (V' : List En) (most total bad : Int) : Prop :=
  ∃ bs', Base w' bs' b m V' most total bad ∧ Out bs w w' ∧ (∀ k, bs' k → bs k ∨ w.heap.size ≤ k) ∧ ∀ k, bs' k → k < w'.heap.size
/-- bytes are appended to a row of their own, or to none -/
theorem text_at (v : Value) (l : Bs) (s : ByteArray) (h : Bt w v l) (ty : TypeId) (hl : l.length ≤ 16777216) (hs : s.size ≤ 16777216) :
    ∃ v' w', (Builtin.append_ #[55, 9] ty #[v, .string s]).run Tryd.prog w = .ok v' w' ∧ Bt w' v' (l ++ s.data.toList) ∧ Out (fun k => v.ownBlock = some k) w w' ∧ (v'.ownBlock = v.ownBlock ∨ ∃ g, v'.ownBlock = some g ∧ w.heap.size ≤ g) := by
  obtain ⟨i0, hi, hz0, hz1, hz2⟩ := info_parts info_byte
  have hsz : s.data.toList.length = s.size := rfl
  have gen : ∀ base, base ≤ w.heap.size → w.ownsRow base 5 1 v l.length (bv l) → ∃ v' w', (Builtin.append_ #[55, 9] ty #[v, .string s]).run Tryd.prog w = .ok v' w' ∧ w'.ownsRow base 5 1 v' (l ++ s.data.toList).length (bv (l ++ s.data.toList)) ∧ Out (fun k => v.ownBlock = some k) w w' := by
    intro base hb ho
    obtain ⟨v', w', h1, h2, h3, _⟩ := Lib.run_append_own_string (P := Tryd.prog) w base 55 9 ty 5 i0 Tryd.underlying55 Tryd.underlying9 hi hz0 hz1 hz2 v l.length (bv l) ho s (by unfold maxLen; omega) (by omega) hb
    refine ⟨v', w', h1, ?_, ⟨h3.os, h3.tape, h3.output, h3.size, fun i hi hn => h3.block i hi (fun e => hn e.symm)⟩⟩
    rw [List.length_append, hsz, bv_app]
    exact h2
  obtain ⟨v', w', h1, h2, h3⟩ := gen 0 (Nat.zero_le _) h
  refine ⟨v', w', h1, h2, h3, ?_⟩
  rcases h.2 with ⟨rfl, h0⟩ | ⟨g, cap, cur, rfl, _, hh, h4, h5, h6, h7⟩
  · obtain ⟨v2, w2, k1, k2, _⟩ := gen w.heap.size (Nat.le_refl _) ⟨h.1, .inl ⟨rfl, h0⟩⟩
    cases k1.symm.trans h1
    rcases k2.2 with ⟨rfl, _⟩ | ⟨g, cap, cur, rfl, hg, _⟩
    · exact .inl rfl
    · exact .inr ⟨g, rfl, hg⟩
  · by_cases hroom : l.length + s.size ≤ cap
    · have hr := Lib.run_append_room_string (P := Tryd.prog) w 55 9 ty 5 i0 Tryd.underlying55 Tryd.underlying9 hi hz1 g l.length cap cur hh s hroom (by omega)
      cases hr.symm.trans h1
      exact .inl rfl
    · have hr := Lib.run_append_grow_string (P := Tryd.prog) w 55 9 ty 5 i0 _ Tryd.underlying55 Tryd.underlying9 hi hz0 ⟨g, 0, none⟩ l.length cap (bv l) (by rw [hz1, bv_len, Nat.mul_one]) (World.ownsRow.cells h (g := g) rfl) s (by omega) (by omega) (by rw [hz2]; exact growslice_fits (by omega) (by omega))
      cases hr.symm.trans h1
      exact .inr ⟨_, rfl, Nat.le_refl _⟩
theorem wp_text {ops : Array Oper} {rest : List Oper} {o : Oper} {a : Act} {Q : Exit → Act → World → Prop} (hgd : o.guard = none) (sl x : Operand)
    (ho : o.op = .call { callee := .builtin .append, args := #[sl, x], argTypes := #[55, 9] })
    (v : Value) (l : Bs) (hv : a.eval sl = v) (h : Bt w v l) (s : ByteArray) (hx : a.eval x = .string s) (hl : l.length ≤ 16777216) (hs : s.size ≤ 16777216)
    (hK : ∀ v' w', Bt w' v' (l ++ s.data.toList) → Out (fun k => v.ownBlock = some k) w w' → (v'.ownBlock = v.ownBlock ∨ ∃ g, v'.ownBlock = some g ∧ w.heap.size ≤ g) → wpList Tryd.prog ops Q rest (a.put o.dst v') w') : wpList Tryd.prog ops Q (o :: rest) a w := by
  refine wpList_plain hgd fun K hK' => ?_
  obtain ⟨v', w', hr, h2, h3, h4⟩ := text_at v l s h o.type hl hs
  unfold Oper.wp execOp
  simp only [ho, resolve, invoke, builtin, Sem.run_bind, Sem.run_pure, Result.andThen_ok, List.map_toArray, List.map_cons, List.map_nil, hv, hx, hr]
  exact hK' _ _ (hK v' w' h2 h3 h4)

/-- an error of one code in memory, or none -/
def fblk (c : Int) : Obj := .cells #[.int .i64 0, .string ⟨#[]⟩, .iface 77 (.int .i64 c)] 112 (0, 0)
def EAt (w : World) (v : Value) (c : Int) (k : Nat) : Prop := (c = 0 ∧ v = .nilIface) ∨ (c ≠ 0 ∧ v = .iface 110 (.pointer (some ⟨k, 0, none⟩)) ∧ w.heap[k]? = some (fblk c))
theorem EAt.kept {v : Value} {c : Int} {k : Nat} (h : EAt w v c k) (hk : k < w.heap.size → w'.heap[k]? = w.heap[k]?) : EAt w' v c k := h.imp id fun ⟨h1, h2, h3⟩ => ⟨h1, h2, (hk (at_lt h3)).trans h3⟩
theorem EAt.below {v : Value} {c : Int} {k : Nat} (h : EAt w v c k) (hb : Below w.heap.size w w') : EAt w' v c k := h.kept fun hl => hb.block k hl
/-- .. and a call that tells such a one -/
def DoesE (w : World) (bs : Nat → Prop) (e : Ending) (w' : World) (b : Nat) (t' : St) (c : Int) : Prop :=
  ∃ v k bs', e = .returned v ∧ EAt w' v c k ∧ (c ≠ 0 → w.heap.size ≤ k ∧ ¬ bs' k) ∧ Sto w' bs' b t' ∧ Out bs w w' ∧ ∀ i, bs' i → bs i ∨ w.heap.size ≤ i
end
end Go.Proofs.YtememmgnhnldaaaDoor.Sto

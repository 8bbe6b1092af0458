/-
  Layer 6 (timer): the document's own timer, walked.
-/
import Derived.Test.YtmmgpifidlekaaaProg
import Derived.Test.YtmmgpifidlekaaaTimerPlain
import Derived.Deep.QuietTactic
import Derived.BigQuiet
import Derived.WalkKit
import Derived.WalkSpells
import Derived.Deep.RegionHeld3
import Derived.IntWalk
import Derived.OwnWalk
import Derived.Laws.AppendOwnNone
import Derived.Laws.AppendOwn
import Derived.Test.YtmmgpifidlekaaaOwn
namespace Go.Proofs.Ytmmgpifidlekaaa.Timer
open Go.RowKit Go.Proofs.Ytmmgpifidlekaaa.Own Go.Proofs.Ytmmgpifidlekaaa.Hp

/-- entries as cells -/
def ev (L : List Ent) : List Value := L.flatMap fun e => [.int .i64 e.1, .int .i64 e.2]
theorem ev_len (L : List Ent) : (ev L).length = L.length * 2 := by
  induction L with
  | nil => rfl
  | cons e r ih => simp [ev] at ih ⊢; omega
theorem ev_app (L M : List Ent) : ev (L ++ M) = ev L ++ ev M := by simp [ev]
theorem ev_get {L : List Ent} {i : Nat} (h : i < L.length) : (ev L)[2 * i]? = some (.int .i64 (gt L i).1) ∧ (ev L)[2 * i + 1]? = some (.int .i64 (gt L i).2) := by
  induction L generalizing i with
  | nil => simp at h
  | cons e r ih =>
    cases i with
    | zero => simp [ev, gt]
    | succ i =>
      have := ih (i := i) (by simpa using h)
      simpa [ev, gt, Nat.mul_add] using this

/-- where the slice of an answer lies: where the old one lay, or in a new block -/
def Loc (w w' : World) (p p' : Option Addr) : Prop := ∀ b o, p' = some ⟨b, o, none⟩ → (∃ o', p = some ⟨b, o', none⟩) ∨ (w.heap.size ≤ b ∧ b < w'.heap.size)
theorem Loc.refl (w w' : World) (p : Option Addr) : Loc w w' p p := fun _ o h => .inl ⟨o, h⟩

/-- a slice value that holds entries -/
structure Es (w : World) (v : Value) (L : List Ent) (p : Option Addr) (c : Nat) : Prop where
  val : v = .slice p L.length c
  cap : L.length ≤ c
  max : c ≤ maxLen
  nil : p = none → c = 0
  cells : ∀ i, i < L.length → ∃ b o, p = some ⟨b, o, none⟩ ∧ w.cell? ⟨b, o + i * 2, none⟩ = some (.int .i64 (gt L i).1) ∧ w.cell? ⟨b, o + i * 2 + 1, none⟩ = some (.int .i64 (gt L i).2)

theorem cell_alloc {w : World} {a : Addr} {x : Value} (h : w.cell? a = some x) (o : Obj) : (w.alloc o).cell? a = some x :=
  (World.cell?_of_block (Below.heap_alloc w o a.block (World.block_lt_of_cell? w a h))).trans h
theorem Es.kept {w w' : World} {v : Value} {L : List Ent} {p : Option Addr} {c : Nat} (h : Es w v L p c) (hb : Below w.heap.size w w') : Es w' v L p c :=
  ⟨h.val, h.cap, h.max, h.nil, fun i hi => by
    obtain ⟨b, o, e, c1, c2⟩ := h.cells i hi
    exact ⟨b, o, e, (hb.cell (World.block_lt_of_cell? w _ c1)).trans c1, (hb.cell (World.block_lt_of_cell? w _ c2)).trans c2⟩⟩

theorem place_calls (L : List Ent) (p : Option Addr) (c : Nat) (v : Value) (most id : Int) (w : World) (h : Es w v L p c) :
    Calls Try.prog 19 #[.agg #[v, .int .i64 most], .int .i64 id] w fun e w' =>
      e = .returned (.int .i64 (plc L id)) ∧ Below w.heap.size w w' := by
  obtain ⟨rfl, hc, hm, hnil, hcell⟩ := h
  go_enter Try.func19, Try.ntmps19
  go_wp2_with fail
  go_loop [5] (fun i => ∃ k : Nat, k ≤ L.length ∧ (∀ j, j < k → (gt L j).1 ≠ id) ∧ i = .int .i64 k) (fun i => L.length - (intOf i).toNat)
  case atStart => exact ⟨0, by omega, fun j hj => by omega, rfl⟩
  case round =>
    obtain ⟨k, hk, hn, rfl⟩ := hrel
    rcases Nat.lt_or_eq_of_le hk with hlt | rfl
    · obtain ⟨b, o, rfl, c1, c2⟩ := hcell k hlt
      have d1 := cell_alloc c1 (.cells #[.slice (some ⟨b, o, none⟩) L.length c, .int .i64 most] 30 (0, 0))
      have q1 : (k : Int) < (L.length : Int) := by omega
      have q2 : (L.length : Int) ≤ 9223372036854775807 := by unfold maxLen at hm; omega
      clear hcell c1 c2
      obtain ⟨x, hx⟩ : ∃ x, x = (gt L k).1 := ⟨_, rfl⟩
      rw [← hx] at d1
      by_cases hi : x = id
      · have hb : (x == id) = true := by simpa using hi
        have hp : plc L id = k := plc_is hlt (by rw [← hx]; exact hi) hn
        go_wp2_with fail
        go_ret
        exact ⟨rfl, (Below.refl _ _).alloc (Nat.le_refl _) _⟩
      · have hb : (x == id) = false := by simpa using hi
        have hn' : ∀ j, j < k + 1 → (gt L j).1 ≠ id := fun j hj => by
          rcases Nat.lt_or_eq_of_le (Nat.le_of_lt_succ hj) with h | rfl
          · exact hn j h
          · rw [← hx]; exact hi
        clear hi hn
        go_wp2_with fail
        go_round
        case rel => exact ⟨k + 1, by omega, hn', by go_num⟩
        case measure => simp [intOf]; omega
    · have hp := plc_none hn
      go_wp2_with fail
      go_ret
      exact ⟨rfl, (Below.refl _ _).alloc (Nat.le_refl _) _⟩

/-- entries in an array of the call's own -/
def OwE (w : World) (B : Nat) (v : Value) (L : List Ent) : Prop := w.ownsRow B 51 2 v L.length (ev L)
theorem info_ent : (Try.prog.info? 51).map (fun i => (i.zero, i.size, i.bytes)) = some (some (.agg #[.int .i64 0, .int .i64 0]), 2, 16) := by kernel_rfl
theorem add_at (g n : Nat) : (⟨g, 0, none⟩ : Addr).add n = ⟨g, n, none⟩ := by cases n <;> simp [Addr.add]
theorem OwE.es {w : World} {B : Nat} {v : Value} {L : List Ent} (h : OwE w B v L) : ∃ p c, Es w v L p c ∧ (p = none ∨ ∃ b, B ≤ b ∧ p = some ⟨b, 0, none⟩ ∧ b < w.heap.size) := by
  have hcells := @World.ownsRow.cells _ _ _ _ _ _ _ h
  rcases h.2 with ⟨rfl, h0⟩ | ⟨g, cap, cur, rfl, h1, h2, h3, h4, _⟩
  · exact ⟨none, 0, ⟨by rw [h0], by omega, by unfold maxLen; omega, fun _ => rfl, fun i hi => by omega⟩, Or.inl rfl⟩
  · refine ⟨_, cap, ⟨rfl, h3, h4, (fun h => nomatch h), fun i hi => ⟨g, 0, rfl, ?_, ?_⟩⟩, Or.inr ⟨g, h1, rfl, at_lt h2⟩⟩
    · have := hcells rfl (2 * i) _ (ev_get hi).1
      rw [add_at] at this
      rw [Nat.zero_add, Nat.mul_comm]; exact this
    · have := hcells rfl (2 * i + 1) _ (ev_get hi).2
      rw [add_at] at this
      rw [Nat.zero_add, Nat.mul_comm]; exact this
theorem ev_one (L : List Ent) : ∀ u ∈ ev L, u.oneCell' = true := by
  intro u hu
  simp only [ev, List.mem_flatMap] at hu
  obtain ⟨e, _, h⟩ := hu
  simp at h
  rcases h with rfl | rfl <;> rfl

/-- append onto an array of the call's own, whatever is appended -/
theorem append_any {P : Program} {w : World} {ops : Array Oper} {rest : List Oper} {o : Oper} {a : Act} {Q : Exit → Act → World → Prop} (hgd : o.guard = none) (s x : Operand) (t : TypeId)
    (ho : o.op = .call { callee := .builtin .append, args := #[s, x], argTypes := #[t, t] })
    (base : Nat) (e : TypeId) (i : TypeInfo) (z : Value) (size bytes : Nat) (ht : P.underlying t = some (.slice e)) (hi : P.info? e = some i) (hz : i.zero = some z)
    (hsize : i.size = size) (hby : i.bytes = bytes) (hzs : z.cells.size = size) (hsz : 0 < size)
    (v : Value) (n : Nat) (xs : List Value) (hs : a.eval s = v) (hown : w.ownsRow base e size v n xs)
    (ao : Option Addr) (m c : Nat) (news : List Value) (hx : a.eval x = .slice ao m c) (hnone : ao = none → m = 0 ∧ c = 0) (hl : news.length = m * size)
    (hnews : ∀ ad, ao = some ad → ∀ j u, news[j]? = some u → w.cell? (ad.add j) = some u) (h1 : ∀ u ∈ news, u.oneCell' = true)
    (h63 : n + m ≤ maxLen) (hbytes : (n + m) * bytes ≤ 140737488355328) (hbase : base ≤ w.heap.size)
    (h : ∀ v' w', w'.ownsRow base e size v' (n + m) (xs ++ news) → w.grownBy w' v.ownBlock → wpList P ops Q rest (a.put o.dst v') w') : wpList P ops Q (o :: rest) a w := by
  cases ao with
  | some ad => exact wpList_append_own w hgd s x t ho base e i z size bytes ht hi hz hsize hby hzs hsz v n xs hs hown ad m c news hx hl (hnews ad rfl) h1 h63 hbytes hbase fun v' w' a b _ => h v' w' a b
  | none =>
    obtain ⟨rfl, rfl⟩ := hnone rfl
    obtain rfl : news = [] := List.eq_nil_of_length_eq_zero (by simpa using hl)
    exact wpList_append_own_none hgd s x t ho base e i size ht hi v n xs hs hown hx (h v w (by simpa using hown) (World.grownBy.refl _ _))

theorem delL_snoc (L : List Ent) (id : Int) {k : Nat} (h : k < L.length) : delL (L.take (k + 1)) id = delL (L.take k) id ++ (if (gt L k).1 = id then [] else [gt L k]) := by
  rw [List.take_add_one, gt_of h]
  unfold delL
  rw [List.filter_append]
  congr 1
  by_cases hc : (gt L k).1 = id <;> simp [hc]
theorem delL_len (L : List Ent) (id : Int) : (delL L id).length ≤ L.length := List.length_filter_le _ _

/-- what stands where, in Cancel: the timer's box, the result's -/
structure CanAt (w wr : World) (L : List Ent) (p : Option Addr) (c : Nat) (most : Int) (M : List Ent) (v : Value) : Prop where
  box : wr.heap[w.heap.size]? = some (.cells #[.slice p L.length c, .int .i64 most] 30 (0, 0))
  res : wr.heap[w.heap.size + 1]? = some (.cells #[.slice none 0 0, .int .i64 0] 30 (0, 0))
  own : OwE wr (w.heap.size + 2) v M
  below : Below w.heap.size w wr

theorem delL_in (L : List Ent) (id : Int) : decide ((delL L id).length < L.length) = isIn L id := by
  induction L with
  | nil => rfl
  | cons e r ih =>
    have h1 := delL_len r id
    by_cases h : e.1 = id
    · have : delL (e :: r) id = delL r id := by simp [delL, h]
      rw [this]; simp [isIn, h]; omega
    · have e1 : delL (e :: r) id = e :: delL r id := by simp [delL, h]
      have e2 : isIn (e :: r) id = isIn r id := by simp [isIn, h]
      rw [e1, e2, ← ih]; simp

theorem two_new (w : World) (x y : Value) (T : TypeId) : ∀ ad, some (⟨w.heap.size, 0, none⟩ : Addr) = some ad → ∀ j u, [x, y][j]? = some u → (w.alloc (.cells #[x, y] T (0, 0))).cell? (ad.add j) = some u := by
  rintro ad ⟨⟩ j u hu
  rw [add_at, at_cell (at_new w _)]
  simpa using hu

theorem one_two (x y : Int) : ∀ u ∈ [Value.int .i64 x, .int .i64 y], u.oneCell' = true := by
  intro u hu
  simp at hu
  rcases hu with rfl | rfl <;> rfl
theorem OwE.set {w : World} {B : Nat} {v : Value} {L : List Ent} (h : OwE w B v L) {k : Nat} (hk : k < B) (i : Nat) (x : Value) : OwE (w.setCell ⟨k, i, none⟩ x) B v L := by
  obtain ⟨h1, h2⟩ := h
  refine ⟨h1, ?_⟩
  rcases h2 with h2 | ⟨g, cap, cur, hv, hg, hh, r⟩
  · exact .inl h2
  · exact .inr ⟨g, cap, cur, hv, hg, by rw [at_set_other _ (by omega)]; exact hh, r⟩

theorem owns_base {w : World} {B B' : Nat} {T : TypeId} {s : Nat} {v : Value} {n : Nat} {xs : List Value} (h : w.ownsRow B T s v n xs) (hb : B' ≤ B) : w.ownsRow B' T s v n xs := by
  obtain ⟨h1, h2⟩ := h
  refine ⟨h1, ?_⟩
  rcases h2 with h2 | ⟨g, cap, cur, hv, hg, r⟩
  · exact .inl h2
  · exact .inr ⟨g, cap, cur, hv, by omega, r⟩
theorem own_ne {w : World} {B : Nat} {v : Value} {L : List Ent} (h : OwE w B v L) {k : Nat} (hk : k < B) : some k ≠ v.ownBlock := fun e => by
  have := (World.ownsRow.lt h) k e.symm; omega

theorem CanAt.step {w wr w1 : World} {L M : List Ent} {p : Option Addr} {c : Nat} {most : Int} {v v' : Value} {x y : Int} {o : Obj} (h : CanAt w wr L p c most M v)
    (ho : w1.ownsRow (w.heap.size + 2) 51 2 v' (M.length + 1) (ev M ++ [.int .i64 x, .int .i64 y])) (hg : (wr.alloc o).grownBy w1 v.ownBlock) : CanAt w w1 L p c most (M ++ [(x, y)]) v' := by
  have hs := h.below.size
  have l1 := at_lt h.box
  have l2 := at_lt h.res
  refine ⟨?_, ?_, ?_, ?_⟩
  · rw [hg.block _ (by simp; omega) (own_ne h.own (by omega))]; exact at_old _ _ h.box
  · rw [hg.block _ (by simp; omega) (own_ne h.own (by omega))]; exact at_old _ _ h.res
  · unfold OwE; rw [List.length_append, ev_app]; exact ho
  · exact (h.below.alloc (by omega) o).grown hg (by simp; omega) (fun k hk => by have := (World.ownsRow.lt h.own) k hk; omega)

set_option maxHeartbeats 1000000 in
theorem cancel_ref (L : List Ent) (p : Option Addr) (c : Nat) (v : Value) (most id : Int) (w : World) (h : Es w v L p c) (hL : L.length ≤ 100000) :
    Calls Try.prog 10 #[.agg #[v, .int .i64 most], .int .i64 id] w fun e w' =>
      (∃ v', e = .returned (.tuple #[.agg #[v', .int .i64 most], .bool (isIn L id)]) ∧ OwE w' w.heap.size v' (delL L id)) ∧ Below w.heap.size w w' := by
  obtain ⟨i0, hi, hz0, hz1, hz2⟩ := info_parts info_ent
  obtain ⟨rfl, hc, hm, hnil, hcell⟩ := h
  go_enter Try.func10, Try.ntmps10
  go_wp2_with fail
  go_loopw [6, 7] (fun v i wr => ∃ k : Nat, k ≤ L.length ∧ i = .int .i64 k ∧ CanAt w wr L p c most (delL (L.take k) id) v) (fun _ i _ => L.length - (intOf i).toNat)
  case atStart => exact ⟨0, by omega, rfl, at_old _ _ (at_new _ _), at_newk _ _ (by simp), World.ownsRow_nil _ _ _ _, ((Below.refl _ w).alloc (Nat.le_refl _) _).alloc (by simp) _⟩
  case round =>
    obtain ⟨k, hk, rfl, C⟩ := hrel
    have b0 := (at_cell C.box 0 : _ = some _)
    have b1 := (at_cell C.box 1 : _ = some _)
    rcases Nat.lt_or_eq_of_le hk with hlt | rfl
    · obtain ⟨b, o, rfl, c1, c2⟩ := hcell k hlt
      have d1 := (C.below.cell (World.block_lt_of_cell? w _ c1)).trans c1
      have d2 := (C.below.cell (World.block_lt_of_cell? w _ c2)).trans c2
      have HS := Lib.hid (delL_snoc L id hlt)
      have hl := Nat.le_trans (delL_len (L.take k) id) (List.length_take_le k L)
      have hs := C.below.size
      have l2 := at_lt C.res
      have hown := C.own
      clear hcell c1 c2
      generalize delL (L.take k) id = M at *
      obtain ⟨x, hx⟩ : ∃ x, x = (gt L k).1 := ⟨_, rfl⟩
      obtain ⟨y, hy⟩ : ∃ y, y = (gt L k).2 := ⟨_, rfl⟩
      rw [← hx] at d1
      rw [← hy] at d2
      have HX := Lib.hid hx
      have HY := Lib.hid hy
      clear hx hy
      have q1 : (k : Int) < (L.length : Int) := by omega
      have q2 : (L.length : Int) ≤ 100000 := by omega
      by_cases hid : x = id
      · have hb : (x == id) = true := by simpa using hid
        have HC := Lib.hid C
        clear C hid
        go_wp2_with fail
        go_roundw
        case rel => exact ⟨k + 1, by omega, by go_num, by rw [HS.out, if_pos (by rw [← HX.out]; simpa using hb), List.append_nil]; exact HC.out⟩
        case measure => simp [intOf]; omega
      · have hb : (x == id) = false := by simpa using hid
        have HC := Lib.hid C
        clear C hid
        go_wp2_with (first | (at_builtin; refine append_any rfl (.tmp 24) (.tmp 30) 28 rfl (w.heap.size + 2) 51 i0 _ 2 16 Try.underlying28 hi hz0 hz1 hz2 rfl (by decide) _ _ _ rfl (World.ownsRow.alloc hown _) (some ⟨wr.heap.size, 0, none⟩) 1 1 [.int .i64 x, .int .i64 y] rfl (fun h => nomatch h) rfl (two_new _ _ _ _) (one_two _ _) (by unfold maxLen; omega) (by omega) (by simp; omega) ?_; intro v' w1 hown1 hgrow1))
        have C1 := HC.out.step hown1 hgrow1
        clear hown1 hgrow1
        go_roundw
        case rel => exact ⟨k + 1, by omega, by go_num, by rw [HS.out, if_neg (by rw [← HX.out]; simpa using hb), ← (show (x, y) = gt L k by rw [HX.out, HY.out])]; exact C1⟩
        case measure => simp [intOf]; omega
    · rw [List.take_length] at C
      obtain ⟨p', c', E, _⟩ := C.own.es
      obtain rfl := E.val
      have y0 := (at_cell C.res 0 : _ = some _)
      have y1 := (at_cell C.res 1 : _ = some _)
      have z0 := at_frozen C.box 0
      have z1 := at_frozen C.res 0
      have z2 := at_frozen C.res 1
      have HI := Lib.hid (delL_in L id)
      have HC := Lib.hid C
      have HE := Lib.hid E
      have ll := delL_len L id
      have q2 : (L.length : Int) ≤ 100000 := by omega
      clear C E hcell
      go_wp2_with fail
      refine bodyPost_ret (v := .tuple #[.agg #[.slice p' (delL L id).length c', .int .i64 most], .bool (decide ((delL L id).length < L.length))]) ?_ rfl ?_
      · simp [results, Try.results10, go_sem, *]
      · have E2 := ((HC.out.own.set (k := w.heap.size) (by omega) 0 (.slice p' (delL L id).length c')).set (k := w.heap.size + 1) (by omega) 0 (.slice p' (delL L id).length c')).set (k := w.heap.size + 1) (by omega) 1 (.int .i64 most)
        exact ⟨⟨_, by rw [HI.out], owns_base E2 (by omega)⟩, ((HC.out.below.setCell (p := ⟨_, _, _⟩) (Nat.le_refl _) _).setCell (p := ⟨_, _, _⟩) (Nat.le_succ _) _).setCell (p := ⟨_, _, _⟩) (Nat.le_succ _) _⟩
end Go.Proofs.Ytmmgpifidlekaaa.Timer

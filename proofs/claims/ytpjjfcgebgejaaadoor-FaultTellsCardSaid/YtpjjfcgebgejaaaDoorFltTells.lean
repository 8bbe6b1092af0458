/-
  Layer 9 (fault): the law on what errors tell, walked.
-/
import Derived.Test.YtpjjfcgebgejaaaDoorFltWrapsW
import Derived.Test.YtpjjfcgebgejaaaDoorArgs
import Derived.Deep.AppendLies
namespace Go.Proofs.YtpjjfcgebgejaaaDoor.Flt
open Go.RowKit Go.Proofs.YtpjjfcgebgejaaaDoor.Own Go.Proofs.YtpjjfcgebgejaaaDoor.Digit

def toI : Value → Int
  | .int _ n => n
  | _ => 0
def toB : Value → ByteArray
  | .string b => b
  | _ => ByteArray.empty
/-- layers that came in -/
theorem lays_arg {w : World} {v : Value} {n : Nat} {E : Nat → Nat → Value} (h : Row w v n 3 E) (hE : ∀ i, i < n → ∃ (k a : Int) (b : ByteArray), E i 0 = .int .i64 k ∧ E i 1 = .int .i64 a ∧ E i 2 = .string b ∧ (-9223372036854775808 ≤ a ∧ a ≤ 9223372036854775807)) :
    ∃ xs p c, v = .slice p xs.length c ∧ LAt w xs p c ∧ ∀ x ∈ xs, -9223372036854775808 ≤ x.line ∧ x.line ≤ 9223372036854775807 := by
  obtain ⟨a, cap, rfl, h1, h2, h3⟩ := h
  refine ⟨(List.range n).map fun i => ⟨toI (E i 0), toI (E i 1), (toB (E i 2)).data.toList⟩, a, cap, by simp, ⟨by simpa using h1, h2, ?_⟩, ?_⟩
  · rcases h3 with rfl | ⟨b, off, rfl, hb, hc⟩
    · exact .inl rfl
    · refine .inr ⟨b, off, rfl, hb, fun i hi => ?_⟩
      have hi' : i < n := by simpa using hi
      obtain ⟨k, a, bb, e0, e1, e2, _⟩ := hE i hi'
      have c0 := hc i 0 hi' (by omega)
      have c1 := hc i 1 hi' (by omega)
      have c2 := hc i 2 hi' (by omega)
      simp only [List.getElem_map, List.getElem_range, e0, e1, e2] at c0 c1 c2 ⊢
      exact ⟨c0, c1, c2⟩
  · intro x hx
    obtain ⟨i, hi, rfl⟩ := List.mem_map.1 hx
    obtain ⟨k, a, bb, _, e1, _, h⟩ := hE i (List.mem_range.1 hi)
    simp only [e1]
    exact h

/-- layers as cells -/
def lv : List Trp → List Value
  | [] => []
  | t :: r => .int .i64 t.code :: .int .i64 t.line :: .string ⟨t.what.toArray⟩ :: lv r
theorem lv_len (l : List Trp) : (lv l).length = l.length * 3 := by
  induction l with
  | nil => rfl
  | cons t r ih => simp only [lv, List.length_cons, ih]; omega
theorem lv_app (l m : List Trp) : lv (l ++ m) = lv l ++ lv m := by
  induction l with
  | nil => rfl
  | cons t r ih => simp only [List.cons_append, lv, ih]
theorem lv_get {l : List Trp} {i : Nat} (h : i < l.length) : (lv l)[i * 3]? = some (.int .i64 l[i].code) ∧ (lv l)[i * 3 + 1]? = some (.int .i64 l[i].line) ∧ (lv l)[i * 3 + 2]? = some (.string ⟨l[i].what.toArray⟩) := by
  induction l generalizing i with
  | nil => simp at h
  | cons t r ih =>
    cases i with
    | zero => exact ⟨rfl, rfl, rfl⟩
    | succ k =>
      obtain ⟨a, b, c⟩ := ih (i := k) (by simpa using h)
      rw [show (k + 1) * 3 = k * 3 + 3 by omega]
      exact ⟨a, b, c⟩
theorem owns_lays {w : World} {B : Nat} {p : Option Addr} {n c : Nat} {xs : List Trp} (h : w.ownsRow B 26 3 (.slice p n c) n (lv xs)) (hn : n = xs.length) : LAt w xs p c := by
  subst hn
  have hc := @World.ownsRow.cells _ _ _ _ _ _ _ h
  rcases h.2 with ⟨e, h0⟩ | ⟨g, cap, cur, e, _, hh, h3, h4, _⟩
  · simp only [Value.slice.injEq] at e
    obtain ⟨rfl, _, rfl⟩ := e
    exact ⟨by omega, by unfold maxLen; omega, .inl (List.eq_nil_of_length_eq_zero h0)⟩
  · simp only [Value.slice.injEq] at e
    obtain ⟨rfl, _, rfl⟩ := e
    refine ⟨h3, h4, .inr ⟨g, 0, rfl, at_lt hh, fun i hi => ?_⟩⟩
    obtain ⟨e1, e2, e3⟩ := lv_get hi
    have r1 := hc (g := g) rfl _ _ e1
    have r2 := hc (g := g) rfl _ _ e2
    have r3 := hc (g := g) rfl _ _ e3
    rw [add0] at r1 r2 r3
    rw [Nat.zero_add]
    exact ⟨r1, r2, r3⟩
theorem info_layer : (Tryd.prog.info? 26).map (fun i => (i.zero, i.size, i.bytes)) = some (some (.agg #[.int .i64 0, .int .i64 0, .string ⟨#[]⟩]), 3, 32) := by kernel_rfl

def un (T : List Trp) : List Trp := T.map fun t => ⟨0, t.line, t.what⟩
theorem un_len (T : List Trp) : (un T).length = T.length := by simp [un]
def lays (T : List Trp) : List Lay := T.map fun t => ⟨0, t.line, t.what⟩

structure TellAt (w wr : World) (T : List Trp) (k : Nat) (v : Value) : Prop where
  own : wr.ownsRow w.heap.size 26 3 v k (lv (un (T.take k)))
  below : Below w.heap.size w wr
  ok : ∀ t ∈ T.take k, t.what.length ≤ 100

theorem take_un {T : List Trp} {k : Nat} (h : k < T.length) : un (T.take (k + 1)) = un (T.take k) ++ [⟨0, T[k].line, T[k].what⟩] := by
  rw [List.take_succ_eq_append_getElem h, un, List.map_append]; rfl
theorem TellAt.step {w wr w1 : World} {T : List Trp} {k : Nat} {v v' : Value} {x : Value} {n : Int} {s : List UInt8} {U : TypeId} (h : TellAt w wr T k v) (hk : k < T.length) (hl : T[k].line = n) (hs : T[k].what = s) (h1 : s.length ≤ 100)
    (ho : w1.ownsRow w.heap.size 26 3 v' (k + 1) (lv (un (T.take k)) ++ [.int .i64 0, .int .i64 n, .string ⟨s.toArray⟩])) (hg : (wr.alloc (.cells #[.int .i64 0, .int .i64 n, x] U)).drew.grownBy w1 v.ownBlock) :
    TellAt w w1 T (k + 1) v' := by
  subst hl hs
  have hz := h.below.size
  refine ⟨?_, (h.below.alloc hz _).drew.grown hg (by simp; omega) (fun k hk => (World.ownsRow.lt h.own k hk).1), ?_⟩
  · rw [take_un hk, lv_app]; exact ho
  · intro t ht
    rw [List.take_succ_eq_append_getElem hk, List.mem_append, List.mem_singleton] at ht
    rcases ht with ht | rfl
    · exact h.ok t ht
    · exact h1
theorem TellAt.start (w : World) (T : List Trp) : TellAt w (w.alloc (.cells #[] 26)) T 0 (.slice (some ⟨w.heap.size, 0, none⟩) 0 0) :=
  ⟨⟨rfl, .inr ⟨w.heap.size, 0, #[], rfl, Nat.le_refl _, at_new w _, Nat.le_refl _, Nat.zero_le _, rfl, rfl⟩⟩, (Below.refl _ _).alloc (Nat.le_refl _) _, fun _ ht => absurd ht (by simp)⟩
theorem three_fresh (w : World) (x y z : Value) (T : TypeId) : ∀ j u, [x, y, z][j]? = some u → (w.alloc (.cells #[x, y, z] T (0, 0))).drew.cell? ((⟨w.heap.size, 0, none⟩ : Addr).add j) = some u := fun j u hu =>
  three_new w x y z T w.heap.size rfl _ rfl j u hu
theorem last_set {w : World} {B n N c0 : Nat} {v : Value} {X : List Trp} {t : Trp} (c : Int) (h : w.ownsRow B 26 3 v N (lv (X ++ [t]))) (hn : X.length = n) (hc : c0 = n * 3) (hN : N = n + 1) :
    ∃ g cap, v = .slice (some ⟨g, 0, none⟩) N cap ∧ B ≤ g ∧ g < w.heap.size ∧ w.cell? ⟨g, c0, none⟩ = some (.int .i64 t.code) ∧ w.frozen? ⟨g, c0, none⟩ = false ∧
      LAt (w.setCell ⟨g, c0, none⟩ (.int .i64 c)) (X ++ [⟨c, t.line, t.what⟩]) (some ⟨g, 0, none⟩) cap := by
  subst hn hc hN
  have hcc := @World.ownsRow.cells _ _ _ _ _ _ _ h
  rcases h.2 with ⟨_, h0⟩ | ⟨g, cap, cur, rfl, hg, hh, h3, h4, _⟩
  · exact absurd h0 (by omega)
  · have hl : (X ++ [t]).length = X.length + 1 := by simp
    have hat : ∀ i (hi : i < (X ++ [t]).length), cur[i * 3]? = some (.int .i64 (X ++ [t])[i].code) ∧ cur[i * 3 + 1]? = some (.int .i64 (X ++ [t])[i].line) ∧ cur[i * 3 + 2]? = some (.string ⟨(X ++ [t])[i].what.toArray⟩) := by
      intro i hi
      obtain ⟨e1, e2, e3⟩ := lv_get hi
      have r1 := hcc (g := g) rfl _ _ e1
      have r2 := hcc (g := g) rfl _ _ e2
      have r3 := hcc (g := g) rfl _ _ e3
      rw [add0, at_cell hh] at r1 r2 r3
      exact ⟨r1, r2, r3⟩
    obtain ⟨l1, l2, l3⟩ := hat X.length (by omega)
    rw [List.getElem_append_right (by omega)] at l1
    refine ⟨g, cap, rfl, hg, at_lt hh, ?_, at_frozen hh _, ?_⟩
    · rw [at_cell hh]; simpa using l1
    · have hs := at_set hh (X.length * 3) (.int .i64 c)
      refine ⟨by simpa using h3, h4, .inr ⟨g, 0, rfl, by simp [World.setCell]; exact at_lt hh, fun i hi => ?_⟩⟩
      rw [Nat.zero_add]
      simp only [at_cell hs, Array.getElem?_setIfInBounds]
      by_cases hx : i < X.length
      · obtain ⟨a1, a2, a3⟩ := hat i (by omega)
        rw [List.getElem_append_left hx] at a1 a2 a3 ⊢
        rw [if_neg (by omega), if_neg (by omega), if_neg (by omega)]
        exact ⟨a1, a2, a3⟩
      · obtain rfl : i = X.length := by simp at hi; omega
        obtain ⟨hlt, _⟩ := Array.getElem?_eq_some_iff.1 l1
        rw [List.getElem_append_right (by omega)] at l2 l3
        rw [if_pos rfl, if_pos hlt, if_neg (by omega), if_neg (by omega)]
        simp at l2 l3 ⊢
        exact ⟨l2, l3⟩
theorem lays_ne {T : List Trp} (h : T.length ≠ 0) : ∃ x l, lays T = x :: l := by
  cases T with
  | nil => exact absurd rfl h
  | cons t r => exact ⟨_, _, rfl⟩
theorem mk_un (c : Int) {T X : List Trp} {t : Trp} (h : un T = X ++ [t]) : mk c (lays T) = X ++ [⟨c, t.line, t.what⟩] := by
  obtain ⟨Y, y, rfl⟩ : ∃ Y y, T = Y ++ [y] := by
    have hT : T ≠ [] := by rintro rfl; simp [un] at h
    exact ⟨T.dropLast, T.getLast hT, (List.dropLast_concat_getLast hT).symm⟩
  have e : un (Y ++ [y]) = un Y ++ [⟨0, y.line, y.what⟩] := by simp [un]
  rw [e] at h
  obtain ⟨rfl, h2⟩ := List.append_inj' h rfl
  obtain rfl := List.singleton_inj.1 h2
  have e2 : lays (Y ++ [y]) = lays Y ++ [⟨0, y.line, y.what⟩] := by simp [lays]
  rw [e2, mk_app]
  congr 1
  simp [lays, un]
theorem un_last {T : List Trp} {n : Nat} (h : T.length = n + 1) : ∃ X t, un T = X ++ [t] ∧ X.length = n := by
  have hne : un T ≠ [] := by intro e; have := congrArg List.length e; rw [un_len, List.length_nil] at this; omega
  exact ⟨(un T).dropLast, (un T).getLast hne, (List.dropLast_concat_getLast hne).symm, by rw [List.length_dropLast, un_len]; omega⟩
theorem tp_mk (c : Int) : ∀ L : List Lay, tp (mk c L) = lp L
  | [] => rfl
  | [_] => rfl
  | x :: y :: r => by rw [mk, tp_cons, tp_mk c (y :: r)]; rfl
theorem mk_last (c : Int) (L : List Lay) (n : Nat) (h : n < (mk c L).length) (hn : L.length = n + 1) : (mk c L)[n].code = c := by
  obtain ⟨Y, y, rfl⟩ : ∃ Y y, L = Y ++ [y] := by
    have hT : L ≠ [] := by rintro rfl; simp at hn
    exact ⟨L.dropLast, L.getLast hT, (List.dropLast_concat_getLast hT).symm⟩
  have hY : Y.length = n := by simpa using hn
  subst hY
  simp only [mk_app]
  rw [List.getElem_append_right (by simp)]
  simp

/-- what the law has made: layers, an error of them -/
structure Tl (w W : World) (L : List Lay) (c : Int) (p : Option Addr) (cap : Nat) (v : Value) : Prop where
  below : Below w.heap.size w W
  tab : Tab W
  lat : LAt W (mk c L) p cap
  err : (c = 0 ∧ v = .nilIface) ∨ (c ≠ 0 ∧ ∃ l, lp l = lp L ∧ Err W W.heap.size v l c)
theorem Tl.below' {w W W' : World} {L : List Lay} {c : Int} {p : Option Addr} {cap : Nat} {v : Value} (h : Tl w W L c p cap v) (hb : Below W.heap.size W W') : Tl w W' L c p cap v :=
  ⟨h.below.trans (hb.mono h.below.size), h.tab.below hb, h.lat.below hb, h.err.imp id fun ⟨hc, l, hl, he⟩ => ⟨hc, l, hl, (he.below hb (Nat.le_refl _)).more hb.size⟩⟩
theorem tl_start {w W w5 : World} {L : List Lay} {c : Int} {p : Option Addr} {cap : Nat} {v : Value} (hb : Below w.heap.size w W) (hT : Tab w) (hl : LAt W (mk c L) p cap) (hm : MadeAt W w5 (mk c L) c 0 v) : Tl w w5 L c p cap v := by
  obtain ⟨h1, h2⟩ := hm
  have hb5 := hb.trans (h1.mono hb.size)
  refine ⟨hb5, hT.below hb5, hl.below h1, h2.imp id fun ⟨hc, l, e, he⟩ => ⟨hc, l, ?_, he⟩⟩
  rw [e, List.drop_zero, tp_mk]
theorem made_at (T : List Trp) (p : Option Addr) (cap : Nat) (c : Int) (W : World) (n : Nat) (hn : T.length = n + 1) (h12 : T.length ≤ 12) (hl : LAt W (mk c (lays T)) p cap) :
    Calls Tryd.prog 7 #[.slice p T.length cap] W (MadePost W (mk c (lays T)) c) := by
  have e : (mk c (lays T)).length = T.length := by rw [mk_len]; simp [lays]
  have := made_calls (mk c (lays T)) p cap W hl (by omega) n (by omega) c (mk_last c (lays T) n (by omega) (by rw [← mk_len c, e]; exact hn))
  rwa [e] at this

section
variable {w W : World} {L : List Lay} {c : Int} {p : Option Addr} {cap : Nat} {v : Value} {n : Nat}
variable (c1 : -9223372036854775808 ≤ c) (c2 : c ≤ 9223372036854775807) (hn : L.length = n) (hn12 : n ≤ 12) (hok : ∀ x ∈ L, OkL x) (h : Tl w W L c p cap v)
include h in
theorem tl_of (hc : c ≠ 0) : Calls Tryd.prog 8 #[v] W fun e w' => e = .returned (.int .i64 c) ∧ Tl w w' L c p cap v := by
  rcases h.err with ⟨e, _⟩ | ⟨_, l, hl, he⟩
  · exact absurd e hc
  · exact (of_calls _ _ _ _ _ (.inr he) (Nat.le_refl _) h.tab).mono fun _ _ ⟨he, hb⟩ => ⟨he, h.below' hb⟩
include hn hn12 h in
theorem tl_line (hc : c ≠ 0) : Calls Tryd.prog 9 #[v] W fun e w' => e = .returned (.int .i64 (lineOf L)) ∧ Tl w w' L c p cap v := by
  rcases h.err with ⟨e, _⟩ | ⟨_, l, hl, he⟩
  · exact absurd e hc
  · rw [← lp_line hl]
    exact (line_calls _ _ _ _ _ (.inr he) (Nat.le_refl _) h.tab (by rw [lp_len hl]; omega)).mono fun _ _ ⟨he, hb⟩ => ⟨he, h.below' hb⟩
include hn hn12 h c1 c2 hok in
theorem tl_text (hc : c ≠ 0) (h0 : n ≠ 0) : Calls Tryd.prog 10 #[v] W fun e w' => e = .returned (.string ⟨(textL L c).toArray⟩) ∧ Tl w w' L c p cap v := by
  rcases h.err with ⟨e, _⟩ | ⟨_, l, hl, he⟩
  · exact absurd e hc
  · have hm : ∀ x ∈ l, ∃ y ∈ L, (y.line, y.what) = (x.line, x.what) := fun x hx => by
      have : (x.line, x.what) ∈ lp L := by rw [← hl]; exact List.mem_map.2 ⟨x, hx, rfl⟩
      obtain ⟨y, hy, e⟩ := List.mem_map.1 this
      exact ⟨y, hy, e⟩
    rw [← lp_text hl]
    refine (text_calls _ _ _ _ _ (.inr he) (Nat.le_refl _) h.tab (by rw [lp_len hl]; omega) ?_ c1 c2 ?_).mono fun _ _ ⟨he, hb⟩ => ⟨he, h.below' hb⟩
    · intro x hx
      obtain ⟨y, hy, e⟩ := hm x hx
      rw [← (Prod.mk.inj e).1]
      exact (hok y hy).1
    · rw [lp_text hl]
      cases L with
      | nil => exact absurd hn.symm h0
      | cons x r =>
        have := text_len c1 c2 hok
        simp only [List.length_cons] at hn
        omega
include h in
theorem tl_has (hc : c ≠ 0) (a : Int) : Calls Tryd.prog 11 #[v, .int .i64 a] W fun e w' => e = .returned (.bool (hasB c a)) ∧ W = w' := by
  rcases h.err with ⟨e, _⟩ | ⟨_, l, hl, he⟩
  · exact absurd e hc
  · exact has_calls _ _ _ a _ _ (.inr he)
include hn h in
theorem tl_rof (h0 : n ≠ 0) : Calls Tryd.prog 12 #[.slice p n cap] W fun e w' => e = .returned (.int .i64 c) ∧ W = w' := by
  have := rof_calls _ _ _ _ h.lat
  rw [mk_len, hn] at this
  cases L with
  | nil => exact absurd hn.symm h0
  | cons x r => rwa [mk_of] at this
include hn h in
theorem tl_rline : Calls Tryd.prog 13 #[.slice p n cap] W fun e w' => e = .returned (.int .i64 (lineOf L)) ∧ W = w' := by
  have := rline_calls _ _ _ _ h.lat
  rwa [mk_len, hn, mk_line] at this
include hn h in
theorem tl_rhas (h0 : n ≠ 0) (a : Int) : Calls Tryd.prog 15 #[.slice p n cap, .int .i64 a] W fun e w' => e = .returned (.bool (hasB c a)) ∧ W = w' := by
  have := rhas_calls _ _ _ a _ h.lat
  rw [mk_len, hn] at this
  cases L with
  | nil => exact absurd hn.symm h0
  | cons x r => rwa [mk_has] at this
include hn hn12 h c1 c2 hok in
theorem tl_rtext (h0 : n ≠ 0) : Calls Tryd.prog 14 #[.slice p n cap] W fun e w' => e = .returned (.string ⟨(textL L c).toArray⟩) ∧ Tl w w' L c p cap v := by
  have := rtext_calls _ _ _ _ h.lat (mk_ok c1 c2 hok) (by rw [mk_len]; omega)
  rw [mk_len, hn] at this
  cases L with
  | nil => exact absurd hn.symm h0
  | cons x r =>
    rw [mk_text] at this
    exact this.mono fun _ _ ⟨he, hb⟩ => ⟨he, h.below' hb⟩
include h in
theorem tl_works : Calls Tryd.prog 6 #[] W fun e w' => e = .returned (.bool true) ∧ Tl w w' L c p cap v :=
  (works_calls _ h.tab).mono fun _ _ ⟨he, hb⟩ => ⟨he, h.below' hb⟩
include h in
theorem tl_of0 : Calls Tryd.prog 8 #[.nilIface] W fun e w' => e = .returned (.int .i64 0) ∧ Tl w w' L c p cap v :=
  (of_calls _ [] 0 0 _ (.inl ⟨rfl, rfl, rfl⟩) (Nat.zero_le _) h.tab).mono fun _ _ ⟨he, hb⟩ => ⟨he, h.below' hb⟩
include h in
theorem tl_line0 : Calls Tryd.prog 9 #[.nilIface] W fun e w' => e = .returned (.int .i64 0) ∧ Tl w w' L c p cap v :=
  (line_calls _ [] 0 0 _ (.inl ⟨rfl, rfl, rfl⟩) (Nat.zero_le _) h.tab (Nat.zero_le _)).mono fun _ _ ⟨he, hb⟩ => ⟨he, h.below' hb⟩
include h in
theorem tl_text0 : Calls Tryd.prog 10 #[.nilIface] W fun e w' => e = .returned (.string ⟨#[]⟩) ∧ Tl w w' L c p cap v :=
  (text_calls _ [] 0 0 _ (.inl ⟨rfl, rfl, rfl⟩) (Nat.zero_le _) h.tab (Nat.zero_le _) (by simp) (by omega) (by omega) (by rw [text_none]; decide)).mono fun _ _ ⟨he, hb⟩ => ⟨he, h.below' hb⟩
end
theorem tl_has0 (a : Int) (W : World) : Calls Tryd.prog 11 #[.nilIface, .int .i64 a] W fun e w' => e = .returned (.bool false) ∧ W = w' := by
  have := has_calls .nilIface [] 0 a 0 W (.inl ⟨rfl, rfl, rfl⟩)
  have e : hasB 0 a = false := by
    by_cases ha : a = 0
    · subst ha; rfl
    · have : ((0 : Int) == a) = false := by simp; omega
      rw [hasB, this, Bool.and_false]
  rwa [e] at this

set_option maxRecDepth 100000 in
set_option maxHeartbeats 4000000 in
theorem tells_walk (T : List Trp) (p : Option Addr) (cap : Nat) (c a : Int) (hL : ∀ t ∈ T, -9223372036854775808 ≤ t.line ∧ t.line ≤ 9223372036854775807) (c1 : -9223372036854775808 ≤ c) (c2 : c ≤ 9223372036854775807) (w : World) (h : LAt w T p cap) (hT : Tab w) :
    Calls Tryd.prog 3 #[.int .i64 c, .slice p T.length cap, .int .i64 a] w fun e w' => e = .returned (.bool true) ∧ Below w.heap.size w w' := by
  have hcap := h.cap
  have hmax := h.max
  unfold maxLen at hmax
  have q2 : (T.length : Int) ≤ 9223372036854775807 := by omega
  obtain ⟨i0, hi, hz0, hz1, hz2⟩ := info_parts info_layer
  have HT := Lib.hid hT
  have HI := Lib.hid h
  clear h hT
  by_cases h12 : T.length ≤ 12
  · by_cases h0 : T.length = 0
    · have b1 : ((T.length : Int) == 0) = true := by simp [h0]
      clear h12
      go_enter Tryd.func3, Tryd.ntmps3
      go_wp2_with (go_at_call 6; refine (works_calls _ HT.out).mono ?_; rintro e w' ⟨rfl, hb⟩; replace hb := Lib.hid hb)
      go_ret
      exact ⟨rfl, hb.out⟩
    · have b1 : ((T.length : Int) == 0) = false := by rw [beq_eq_false_iff_ne]; omega
      have H0 := Lib.hid h0
      clear h0
      go_enter Tryd.func3, Tryd.ntmps3
      go_wp2_with fail
      go_loopw [7, 8] (fun v i wr => ∃ k : Nat, k ≤ T.length ∧ i = .int .i64 k ∧ TellAt w wr T k v) (fun _ i _ => T.length - (intOf i).toNat)
      case atStart => exact ⟨0, by omega, rfl, TellAt.start w T⟩
      case round =>
        obtain ⟨k, hk, rfl, C⟩ := hrel
        by_cases hlt : k < T.length
        · have q1 : (k : Int) < (T.length : Int) := by omega
          rcases HI.out.cells with h0 | ⟨b, o, rfl, hbl, hc⟩
          · rw [h0] at hlt; simp at hlt
          · obtain ⟨d0, d1, d2⟩ := hc k hlt
            rw [← C.below.cell (p := ⟨b, _, none⟩) hbl] at d0 d1 d2
            have hsz := C.below.size
            have hbw : b < wr.heap.size := by omega
            have hown := C.own
            obtain ⟨nl, hnl⟩ : ∃ x, T[k].line = x := ⟨_, rfl⟩
            obtain ⟨s, hs⟩ : ∃ x, T[k].what = x := ⟨_, rfl⟩
            rw [hnl] at d1
            rw [hs] at d2
            have HC := Lib.hid C
            have HNL := Lib.hid hnl
            have HS := Lib.hid hs
            have HO := Lib.hid hown
            clear C hnl hs hc d0 hown
            by_cases h100 : s.length ≤ 100
            · go_wp2_with fail
              have hownA := fun o => (World.ownsRow.alloc HO.out o : (wr.alloc o).drew.ownsRow w.heap.size 26 3 _ _ _)
              have HA := Lib.hid hownA
              clear hownA
              go_region_law (refine step_append_lies _ rfl (.tmp 34) (.tmp 46) 23 rfl w.heap.size 26 i0 _ 3 32 Tryd.underlying23 hi hz0 hz1 hz2 rfl (by decide) _ _ _ rfl (HA.out _) ⟨wr.heap.size, 0, none⟩ 1 1 [.int .i64 0, .int .i64 nl, .string ⟨s.toArray⟩] rfl rfl (three_fresh wr _ _ _ _) (by simp [Value.oneCell']) (by omega) (by unfold maxLen; omega) (by omega) (by simp; omega) _ rfl ?_; intro g cap w2 own2 grow2 at2 _; have C1 := Lib.hid (HC.out.step hlt HNL.out HS.out h100 own2 grow2); clear own2 grow2 at2)
              all_goals
                go_wp2_with fail
                go_roundw
                case rel => exact ⟨k + 1, by omega, by go_num, C1.out⟩
                case measure => simp [intOf]; omega
            · have h100' : 100 < s.length := by omega
              have HT2 := Lib.hid (HT.out.below HC.out.below)
              have HBC := Lib.hid HC.out.below
              clear h100
              go_wp2_with (go_at_call 6; refine (works_calls _ HT2.out).mono ?_; rintro e w' ⟨rfl, hb⟩; replace hb := Lib.hid hb)
              go_ret
              exact ⟨rfl, HBC.out.trans (hb.out.mono hsz)⟩
        · obtain rfl : k = T.length := by omega
          have hown := C.own
          have hok := C.ok
          rw [List.take_length] at hown hok
          obtain ⟨n, hn⟩ : ∃ n, T.length = n + 1 := ⟨T.length - 1, by have := H0.out; omega⟩
          obtain ⟨X, t, hX, hXl⟩ := un_last hn
          rw [hX] at hown
          obtain ⟨g, cp, rfl, hg, hgl, hcell, hfr, hlat⟩ := last_set c hown hXl rfl hn
          rw [← mk_un c hX] at hlat
          have hbs : Below w.heap.size w (wr.setCell ⟨g, n * 3, none⟩ (.int .i64 c)) := C.below.setCell hg _
          have HX := Lib.hid (fun w5 v5 => tl_start (w5 := w5) (v := v5) hbs HT.out hlat)
          have HM := Lib.hid (made_at T _ cp c _ n hn h12 hlat)
          have HLL := Lib.hid (show (lays T).length = T.length by simp [lays])
          have HOK := Lib.hid (show ∀ x ∈ lays T, OkL x by
            intro x hx
            obtain ⟨y, hy, rfl⟩ := List.mem_map.1 hx
            exact ⟨hL y hy, hok y hy⟩)
          have q0 : IntKind.i64.wrap ((T.length : Int) - 1) = n := by
            rw [show ((T.length : Int) - 1) = (n : Int) by omega]; exact IntWalk.i64_in _ (by omega)
          have q1 : (n : Int) < (T.length : Int) := by omega
          have HZ := H0
          clear C hown hok hX hXl hlat hbs hn
          by_cases hc : c = 0
          · subst hc
            go_wp2_with (go_at_call 7; refine HM.out.mono ?_; rintro e w5 ⟨v5, rfl, hm⟩; have hx := HX.out _ _ hm; clear HX hm; have HX := Lib.hid hx; clear hx; obtain rfl : v5 = .nilIface := (by rcases HX.out.err with ⟨_, e⟩ | ⟨e, _⟩; exact e; exact absurd rfl e))
            go_wp2_with fail
            refine (tl_of0 HX.out).mono ?_
            rintro e w6 ⟨rfl, h2⟩
            replace HX := Lib.hid h2
            clear h2
            go_wp2_with fail
            refine (tl_line0 HX.out).mono ?_
            rintro e w7 ⟨rfl, h2⟩
            replace HX := Lib.hid h2
            clear h2
            go_wp2_with fail
            refine (tl_text0 HX.out).mono ?_
            rintro e w8 ⟨rfl, h2⟩
            replace HX := Lib.hid h2
            clear h2
            go_wp2_with fail
            refine (tl_has0 a _).mono ?_
            rintro e w' ⟨rfl, rfl⟩
            go_wp2_with fail
            refine (tl_works HX.out).mono ?_
            rintro e w9 ⟨rfl, h2⟩
            replace HX := Lib.hid h2
            clear h2
            go_wp2_with fail
            go_ret
            exact ⟨rfl, HX.out.below⟩
          · have b2 : (c == 0) = false := by simpa using hc
            have HC := Lib.hid hc
            clear hc
            go_wp2_with (go_at_call 7; refine HM.out.mono ?_; rintro e w5 ⟨v5, rfl, hm⟩; have hx := HX.out _ _ hm; clear HX hm; have HX := Lib.hid hx; clear hx; obtain ⟨ut, uv, rfl⟩ : ∃ ut uv, v5 = .iface ut uv := (by rcases HX.out.err with ⟨e, _⟩ | ⟨_, l, _, e⟩; exact absurd e HC.out; exact err_nil e))
            go_wp2_with fail
            refine (tl_of HX.out HC.out).mono ?_
            rintro e w6 ⟨rfl, h2⟩
            replace HX := Lib.hid h2
            clear h2
            go_wp2_with fail
            refine (tl_rof HLL.out HX.out HZ.out).mono ?_
            rintro e w' ⟨rfl, rfl⟩
            go_wp2_with fail
            refine (tl_line HLL.out h12 HX.out HC.out).mono ?_
            rintro e w7 ⟨rfl, h2⟩
            replace HX := Lib.hid h2
            clear h2
            go_wp2_with fail
            refine (tl_rline HLL.out HX.out).mono ?_
            rintro e w' ⟨rfl, rfl⟩
            go_wp2_with fail
            refine (tl_text c1 c2 HLL.out h12 HOK.out HX.out HC.out HZ.out).mono ?_
            rintro e w8 ⟨rfl, h2⟩
            replace HX := Lib.hid h2
            clear h2
            go_wp2_with fail
            refine (tl_rtext c1 c2 HLL.out h12 HOK.out HX.out HZ.out).mono ?_
            rintro e w9 ⟨rfl, h2⟩
            replace HX := Lib.hid h2
            clear h2
            go_wp2_with fail
            refine (tl_has HX.out HC.out a).mono ?_
            rintro e w' ⟨rfl, rfl⟩
            go_wp2_with fail
            refine (tl_rhas HLL.out HX.out HZ.out a).mono ?_
            rintro e w' ⟨rfl, rfl⟩
            go_wp2_with fail
            refine (tl_works HX.out).mono ?_
            rintro e w10 ⟨rfl, h2⟩
            replace HX := Lib.hid h2
            clear h2
            go_wp2_with fail
            go_ret
            exact ⟨rfl, HX.out.below⟩
  · have h12' : 12 < T.length := by omega
    clear h12
    go_enter Tryd.func3, Tryd.ntmps3
    go_wp2_with (go_at_call 6; refine (works_calls _ HT.out).mono ?_; rintro e w' ⟨rfl, hb⟩; replace hb := Lib.hid hb)
    go_ret
    exact ⟨rfl, hb.out⟩
end Go.Proofs.YtpjjfcgebgejaaaDoor.Flt

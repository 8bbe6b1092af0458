/-
  Layer 20 (mark): lines of a text; plain Lean.
-/
import Derived.Test.YtbjlnaobmgbpfaaDoorMrkPlain
namespace Go.Proofs.YtbjlnaobmgbpfaaDoor.Mark
open Go.Proofs.YtbjlnaobmgbpfaaDoor.Rec Go.Proofs.YtbjlnaobmgbpfaaDoor.Digit Go.Proofs.YtbjlnaobmgbpfaaDoor.Clock

/-- lines that are done, and the one that is begun -/
abbrev LS := List (List UInt8) × List UInt8
def lstep (s : LS) (c : UInt8) : LS := if c = 10 then (s.1 ++ [s.2 ++ [c]], []) else (s.1, s.2 ++ [c])
def feed (s : LS) (l : List UInt8) : LS := l.foldl lstep s
def ends (s : LS) : List (List UInt8) := if s.2 = [] then s.1 else s.1 ++ [s.2]
def lines (l : List UInt8) : List (List UInt8) := ends (feed ([], []) l)
theorem feed_app (s : LS) (l m : List UInt8) : feed s (l ++ m) = feed (feed s l) m := List.foldl_append
theorem feed_cons (s : LS) (c : UInt8) (l : List UInt8) : feed s (c :: l) = feed (lstep s c) l := rfl
theorem step_10 (D : List (List UInt8)) (x : List UInt8) : lstep (D, x) 10 = (D ++ [x ++ [10]], []) := if_pos rfl
theorem step_no (D : List (List UInt8)) (x : List UInt8) {c : UInt8} (h : c ≠ 10) : lstep (D, x) c = (D, x ++ [c]) := if_neg h
theorem feed_no (D : List (List UInt8)) (x l : List UInt8) (h : ∀ c ∈ l, c ≠ 10) : feed (D, x) l = (D, x ++ l) := by
  induction l generalizing x with
  | nil => simp [feed]
  | cons c r ih =>
    rw [feed_cons, step_no _ _ (h c (by simp)), ih _ fun y hy => h y (by simp [hy])]
    simp
theorem feed_le (s : LS) (l : List UInt8) : (feed s l).1.length ≤ s.1.length + l.length ∧ (feed s l).2.length ≤ s.2.length + l.length := by
  induction l generalizing s with
  | nil => simp [feed]
  | cons c r ih =>
    obtain ⟨D, x⟩ := s
    rw [feed_cons]
    by_cases h : c = 10
    · subst h
      rw [step_10]
      have := ih (D ++ [x ++ [10]], [])
      simp at this ⊢
      omega
    · rw [step_no _ _ h]
      have := ih (D, x ++ [c])
      simp at this ⊢
      omega

/-- a line with a stamp ahead, and something behind it -/
def Good (x : List UInt8) : Prop := ∃ a b, x = [91] ++ a ++ [93, 32] ++ b ∧ a.length = 19 ∧ b ≠ []
theorem Good.len {x : List UInt8} (h : Good x) : 23 ≤ x.length := by
  obtain ⟨a, b, rfl, ha, hb⟩ := h
  have : 1 ≤ b.length := by
    cases b with
    | nil => exact absurd rfl hb
    | cons c r => simp
  simp; omega
theorem Good.more {x : List UInt8} (h : Good x) (c : UInt8) : Good (x ++ [c]) := by
  obtain ⟨a, b, rfl, ha, hb⟩ := h
  exact ⟨a, b ++ [c], by simp, ha, by simp⟩
theorem Good.first {x : List UInt8} (h : Good x) : x[0]? = some 91 := by
  obtain ⟨a, b, rfl, ha, hb⟩ := h
  simp
theorem Good.mid {x : List UInt8} (h : Good x) : (x.take 22).drop 20 = [93, 32] := by
  obtain ⟨a, b, rfl, ha, hb⟩ := h
  have e : [91] ++ a ++ [93, 32] ++ b = ([91] ++ a) ++ ([93, 32] ++ b) := by simp
  have hl : ([91] ++ a).length = 20 := by simp [ha]
  rw [e, List.take_append, hl, List.take_of_length_le (by omega), List.drop_append, hl, List.drop_of_length_le (by omega)]
  rfl
theorem d2_no {x : Int} (h0 : 0 ≤ x) (h : x < 100) : ∀ c ∈ d2 x, c ≠ 10 := by
  have key : ∀ n : Nat, n < 10 → hexd n ≠ 10 := by decide
  intro c hc
  simp only [d2, List.mem_cons, List.not_mem_nil, or_false] at hc
  rcases hc with rfl | rfl
  · exact key _ (by omega)
  · exact key _ (by omega)
theorem st_no {t : Int} (h0 : 0 ≤ t) (h : t ≤ 252455615999) : ∀ c ∈ st t, c ≠ 10 := by
  obtain ⟨y, m, d, hd, hy⟩ := has_day h0 h
  have hd31 := isday_d hd
  have e := stmp_some h0 h hd
  obtain ⟨h2000, m1, m2, d1, -, -⟩ := hd
  intro c hc
  simp only [st, e, stm, day, clk, List.mem_append, List.mem_cons, List.not_mem_nil, or_false, or_assoc] at hc
  rcases hc with rfl | hc | hc | rfl | hc | rfl | hc | rfl | hc | rfl | hc | rfl | hc | rfl | rfl
  all_goals first | decide | exact d2_no (by omega) (by omega) _ hc
theorem st_is {t : Int} (h0 : 0 ≤ t) (h : t ≤ 252455615999) : ∃ a, st t = [91] ++ a ++ [93, 32] ∧ a.length = 19 := ⟨stmp t, rfl, stmp_len h0 h⟩
theorem st_good {t : Int} (h0 : 0 ≤ t) (h : t ≤ 252455615999) (c : UInt8) : Good (st t ++ [c]) := by
  obtain ⟨a, e, ha⟩ := st_is h0 h
  exact ⟨a, [c], by rw [e], ha, by simp⟩
theorem sgn_no (n : Nat) (hn : n < 256) : ∀ c ∈ sgn n, c ≠ 10 := by
  have key : ∀ n : Fin 256, ∀ c ∈ sgn n.val, c ≠ 10 := by decide +kernel
  exact key ⟨n, hn⟩
theorem shw_no (l : List UInt8) : ∀ c ∈ shw l, c ≠ 10 := by
  intro c hc
  simp only [shw, List.mem_flatMap] at hc
  obtain ⟨x, _, hx⟩ := hc
  exact sgn_no _ x.toNat_lt c hx

/-- where the lines of what is written stand -/
structure LInv (s : LS) (o : Bool) : Prop where
  done : ∀ x ∈ s.1, Good x
  off : o = false → s.2 = []
  on : o = true → Good s.2
/-- without stamps -/
def back (s : LS) : List UInt8 := (s.1.map fun x => x.drop 22).flatten ++ s.2.drop 22
theorem LInv.start : LInv ([], []) false := ⟨fun _ h => absurd h (by simp), fun _ => rfl, fun h => nomatch h⟩
theorem st_drop {t : Int} (h0 : 0 ≤ t) (h : t ≤ 252455615999) (x : List UInt8) : (st t ++ x).drop 22 = x := by
  have := st_len h0 h
  rw [List.drop_append, this, List.drop_of_length_le (by omega)]; rfl
theorem Good.drop {x : List UInt8} (h : Good x) (c : UInt8) : (x ++ [c]).drop 22 = x.drop 22 ++ [c] := by
  have := h.len
  rw [List.drop_append_of_le_length (by omega)]
theorem LInv.byte {s : LS} {o : Bool} (h : LInv s o) {t : Int} (h0 : 0 ≤ t) (h1 : t ≤ 252455615999) (c : UInt8) :
    LInv (feed s ((if o then [] else st t) ++ [c])) (c != 10) ∧ back (feed s ((if o then [] else st t) ++ [c])) = back s ++ [c] := by
  obtain ⟨D, x⟩ := s
  cases o with
  | true =>
    have hg : Good x := h.on rfl
    have hd : ∀ y ∈ D, Good y := h.done
    show LInv (lstep (D, x) c) _ ∧ back (lstep (D, x) c) = _
    by_cases e : c = 10
    · subst e
      rw [step_10]
      refine ⟨⟨fun y hy => ?_, fun _ => rfl, fun e => absurd e (by decide)⟩, ?_⟩
      · rw [List.mem_append, List.mem_singleton] at hy
        rcases hy with hy | rfl
        · exact hd y hy
        · exact hg.more _
      · simp only [back, List.map_append, List.flatten_append, List.map_cons, List.map_nil, List.flatten_cons, List.flatten_nil, List.drop_nil, List.append_nil, hg.drop, List.append_assoc]
    · rw [step_no _ _ e]
      refine ⟨⟨hd, fun e2 => absurd e2 (by simp [e]), fun _ => hg.more _⟩, ?_⟩
      simp only [back, hg.drop, List.append_assoc]
  | false =>
    have hx : x = [] := h.off rfl
    have hd : ∀ y ∈ D, Good y := h.done
    subst hx
    show LInv (feed (D, []) (st t ++ [c])) _ ∧ back (feed (D, []) (st t ++ [c])) = _
    rw [feed_app, feed_no _ _ _ (st_no h0 h1), List.nil_append]
    show LInv (lstep (D, st t) c) _ ∧ back (lstep (D, st t) c) = _
    by_cases e : c = 10
    · subst e
      rw [step_10]
      refine ⟨⟨fun y hy => ?_, fun _ => rfl, fun e => absurd e (by decide)⟩, ?_⟩
      · rw [List.mem_append, List.mem_singleton] at hy
        rcases hy with hy | rfl
        · exact hd y hy
        · exact st_good h0 h1 _
      · simp only [back, List.map_append, List.flatten_append, List.map_cons, List.map_nil, List.flatten_cons, List.flatten_nil, List.drop_nil, List.append_nil, st_drop h0 h1]
    · rw [step_no _ _ e]
      refine ⟨⟨hd, fun e2 => absurd e2 (by simp [e]), fun _ => st_good h0 h1 _⟩, ?_⟩
      simp only [back, st_drop h0 h1, List.drop_nil, List.append_nil]
theorem LInv.dat {s : LS} {o : Bool} (h : LInv s o) {t : Int} (h0 : 0 ≤ t) (h1 : t ≤ 252455615999) (l : List UInt8) :
    LInv (feed s (dat o (st t) l)) (opn o l) ∧ back (feed s (dat o (st t) l)) = back s ++ l := by
  induction l generalizing s o with
  | nil => exact ⟨h, by simp [Mark.dat, feed]⟩
  | cons c r ih =>
    have e : Mark.dat o (st t) (c :: r) = ((if o then [] else st t) ++ [c]) ++ Mark.dat (c != 10) (st t) r := by simp [Mark.dat]
    obtain ⟨g1, g2⟩ := h.byte h0 h1 c
    obtain ⟨k1, k2⟩ := ih g1
    rw [e, feed_app]
    exact ⟨k1, by rw [k2, g2]; simp⟩
theorem LInv.lin {s : LS} {o : Bool} (h : LInv s o) {t : Int} (h0 : 0 ≤ t) (h1 : t ≤ 252455615999) {b : List UInt8} (hb : ∀ c ∈ b, c ≠ 10) :
    LInv (feed s (lin o (st t) (b ++ [10]))) false := by
  have hd : LInv (feed s (if o then [10] else [])) false := by
    cases o with
    | false => exact h
    | true =>
      obtain ⟨D, x⟩ := s
      show LInv (lstep (D, x) 10) false
      rw [step_10]
      refine ⟨fun y hy => ?_, fun _ => rfl, fun e => nomatch e⟩
      rw [List.mem_append, List.mem_singleton] at hy
      rcases hy with hy | rfl
      · exact h.done y hy
      · exact (h.on rfl).more _
  unfold Mark.lin
  rw [List.append_assoc, feed_app]
  generalize feed s (if o then [10] else []) = s2 at *
  obtain ⟨D, x⟩ := s2
  have hx : x = [] := hd.off rfl
  subst hx
  rw [← List.append_assoc, feed_app, feed_no _ _ _ (fun c hc => (List.mem_append.1 hc).elim (st_no h0 h1 c) (hb c))]
  show LInv (lstep _ 10) false
  rw [step_10]
  refine ⟨fun y hy => ?_, fun _ => rfl, fun e => nomatch e⟩
  rw [List.mem_append, List.mem_singleton] at hy
  rcases hy with hy | rfl
  · exact hd.done y hy
  · obtain ⟨a, e, ha⟩ := st_is h0 h1
    exact ⟨a, b ++ [10], by rw [e]; simp, ha, by simp⟩
def InT (x : Itm) : Prop := 0 ≤ x.a ∧ x.a ≤ 252455615999
theorem LInv.it {s : LS} {o : Bool} (h : LInv s o) {x : Itm} (hx : InT x) : LInv (feed s (itT o x)) (itO o x) := by
  by_cases k1 : x.k = 1
  · rw [itT_1 k1, itO_1 k1]; exact (h.dat hx.1 hx.2 _).1
  by_cases k2 : x.k = 2
  · rw [itT_2 k2, itO_2 k2, note_end]
    refine h.lin hx.1 hx.2 fun c hc => ?_
    simp only [List.mem_append, List.mem_cons, List.not_mem_nil, or_false] at hc
    rcases hc with (((rfl | rfl | rfl) | hc) | rfl | rfl | rfl)
    all_goals first | decide | exact shw_no _ c hc
  by_cases k3 : x.k = 3
  · rw [itT_3 k3, itO_3 k3, gap_end]
    refine h.lin hx.1 hx.2 fun c hc => ?_
    simp only [List.mem_append, List.mem_cons, List.not_mem_nil, or_false] at hc
    rcases hc with (((rfl | rfl | rfl) | hc) | rfl | rfl | rfl | rfl | rfl | rfl | rfl | rfl)
    all_goals first | decide | exact shw_no _ c hc
  · rw [itT_0 k1 k2 k3, itO_0 k1 k2 k3]; exact h
theorem LInv.txt {s : LS} {o : Bool} (h : LInv s o) {l : List Itm} (hl : ∀ x ∈ l, InT x) : LInv (feed s (txt o l)) (fin o l) := by
  induction l generalizing s o with
  | nil => exact h
  | cons x r ih =>
    show LInv (feed s (itT o x ++ Mark.txt (itO o x) r)) (fin (itO o x) r)
    rw [feed_app]
    exact ih (h.it (hl x (by simp))) fun y hy => hl y (by simp [hy])
theorem LInv.ends {s : LS} {o : Bool} (h : LInv s o) : ∀ x ∈ ends s, Good x := by
  intro x hx
  unfold Mark.ends at hx
  split at hx
  · exact h.done x hx
  · rename_i hne
    rw [List.mem_append, List.mem_singleton] at hx
    rcases hx with hx | rfl
    · exact h.done x hx
    · cases o with
      | true => exact h.on rfl
      | false => exact absurd (h.off rfl) hne
/-- each line has its stamp -/
theorem lines_good {l : List Itm} (hl : ∀ x ∈ l, InT x) : ∀ x ∈ lines (txt false l), Good x := (LInv.start.txt hl).ends
/-- without the stamps, what the console told is there -/
def rest (L : List (List UInt8)) : List UInt8 := (L.map fun x => x.drop 22).flatten
theorem back_ends (s : LS) : rest (ends s) = back s := by
  obtain ⟨D, x⟩ := s
  unfold ends back rest
  by_cases h : x = []
  · subst h; simp
  · rw [if_neg h]; simp
theorem data_back {l : List Itm} (hl : ∀ x ∈ l, InT x) (hk : ∀ x ∈ l, x.k = 1) : ∀ {s : LS} {o : Bool}, LInv s o → back (feed s (txt o l)) = back s ++ dta l := by
  induction l with
  | nil => intro s o _; simp [txt, dta, feed]
  | cons x r ih =>
    intro s o h
    have hx := hl x (by simp)
    have k1 := hk x (by simp)
    show back (feed s (itT o x ++ txt (itO o x) r)) = back s ++ ((if x.k = 1 then x.b.data.toList else []) ++ dta r)
    rw [feed_app, ih (fun y hy => hl y (by simp [hy])) (fun y hy => hk y (by simp [hy])) (h.it hx), itT_1 k1, (h.dat hx.1 hx.2 _).2, if_pos k1, List.append_assoc]
theorem lines_back {l : List Itm} (hl : ∀ x ∈ l, InT x) (hk : ∀ x ∈ l, x.k = 1) : rest (lines (txt false l)) = dta l := by
  unfold lines
  rw [back_ends, data_back hl hk LInv.start]; rfl
/-- the items that a console told -/
def only (l : List Itm) : List Itm := l.filter fun x => x.k == 1
theorem only_1 {l : List Itm} {k : Nat} (h : k < l.length) (hk : l[k].k = 1) : only (l.take (k + 1)) = only (l.take k) ++ [l[k]] := by
  unfold only; rw [take_next h, List.filter_append]; simp [hk]
theorem only_0 {l : List Itm} {k : Nat} (h : k < l.length) (hk : l[k].k ≠ 1) : only (l.take (k + 1)) = only (l.take k) := by
  unfold only; rw [take_next h, List.filter_append]; simp [hk]
theorem dta_only (l : List Itm) : dta (only l) = dta l := by
  induction l with
  | nil => rfl
  | cons x r ih =>
    by_cases h : x.k = 1
    · have : only (x :: r) = x :: only r := by simp [only, h]
      rw [this]; simp [dta, ih]
    · have : only (x :: r) = only r := by simp [only, h]
      rw [this, ih]; simp [dta, h]
theorem only_mem {l : List Itm} {x : Itm} (h : x ∈ only l) : x ∈ l ∧ x.k = 1 := by simpa [only] using h
end Go.Proofs.YtbjlnaobmgbpfaaDoor.Mark

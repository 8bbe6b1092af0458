/-
  Layer 12 (lex): plain Lean: what is put, with gaps between, is read as it was.
-/
import Derived.Test.YtijnijlekidhcaaDoorLexPlain
namespace Go.Proofs.YtijnijlekidhcaaDoor.Lex
open Go.RowKit

/-- a piece, and what stands behind it -/
structure Pt where
  k : Int
  t : List UInt8
  g : Int
def gapT (g : Int) : List UInt8 := if g % 4 = 0 then [32] else if g % 4 = 1 then [10] else if g % 4 = 2 then [35, 32, 97, 32, 123, 32, 98, 32, 34, 32, 99, 10] else [9, 13, 10, 32, 10]
def gapN (g : Int) : Int := if g % 4 = 0 then 0 else if g % 4 = 1 then 1 else if g % 4 = 2 then 1 else 2
theorem gap_cases (g : Int) : (g % 4 = 0 ∧ gapT g = [32] ∧ gapN g = 0) ∨ (g % 4 = 1 ∧ gapT g = [10] ∧ gapN g = 1) ∨ (g % 4 = 2 ∧ gapT g = [35, 32, 97, 32, 123, 32, 98, 32, 34, 32, 99, 10] ∧ gapN g = 1) ∨ (g % 4 = 3 ∧ gapT g = [9, 13, 10, 32, 10] ∧ gapN g = 2) := by
  have h : g % 4 = 0 ∨ g % 4 = 1 ∨ g % 4 = 2 ∨ g % 4 = 3 := by omega
  rcases h with h | h | h | h <;> simp [gapT, gapN, h]
theorem gapN_range (g : Int) : 0 ≤ gapN g ∧ gapN g ≤ 2 := by
  rcases gap_cases g with ⟨_, _, h⟩ | ⟨_, _, h⟩ | ⟨_, _, h⟩ | ⟨_, _, h⟩ <;> rw [h] <;> decide
theorem gapT_len (g : Int) : (gapT g).length ≤ 12 ∧ 1 ≤ (gapT g).length := by
  rcases gap_cases g with ⟨_, h, _⟩ | ⟨_, h, _⟩ | ⟨_, h, _⟩ | ⟨_, h, _⟩ <;> rw [h] <;> decide
theorem gap_skip (g : Int) (m : List UInt8) : skip false (gapT g ++ m) = (gapT g).length + skip false m ∧ (skn false (gapT g ++ m) : Int) = gapN g + skn false m := by
  rcases gap_cases g with ⟨_, h, k⟩ | ⟨_, h, k⟩ | ⟨_, h, k⟩ | ⟨_, h, k⟩
  all_goals rw [h, k]
  all_goals simp [skip, skn, bb]
  all_goals omega
theorem gap_word (g : Int) (m : List UInt8) : wlen (gapT g ++ m) = 0 := by
  rcases gap_cases g with ⟨_, h, k⟩ | ⟨_, h, k⟩ | ⟨_, h, k⟩ | ⟨_, h, k⟩
  all_goals rw [h]; rfl

/-- which pieces can be put -/
theorem put_kinds {k : Int} {t : List UInt8} (h : ptC k t = 0) : (k = 1 ∧ isW t = true ∧ ptT k t = t) ∨ (k = 2 ∧ allq t = true ∧ ptT k t = 34 :: esc t ++ [34]) ∨ (k = 3 ∧ t = [] ∧ ptT k t = [123]) ∨ (k = 4 ∧ t = [] ∧ ptT k t = [125]) ∨ (k = 5 ∧ t = [] ∧ ptT k t = [59]) := by
  by_cases hout : k < 1 ∨ 5 < k
  · rw [(ptC_out hout t).1] at h; cases h
  · rcases (show k = 1 ∨ k = 2 ∨ k = 3 ∨ k = 4 ∨ k = 5 by omega) with rfl | rfl | rfl | rfl | rfl
    · cases hw : isW t
      · rw [((ptC_word t).2 hw).1] at h; cases h
      · exact .inl ⟨rfl, rfl, ((ptC_word t).1 hw).2⟩
    · cases hw : allq t
      · rw [((ptC_quote t).2 hw).1] at h; cases h
      · exact .inr (.inl ⟨rfl, rfl, ((ptC_quote t).1 hw).2⟩)
    all_goals
      have ht : t = [] := by
        by_cases e : t = []
        · exact e
        · rw [(ptC_mark (by omega) (by omega) e).1] at h; cases h
      subst ht
    · exact .inr (.inr (.inl ⟨rfl, rfl, ptC_3.2⟩))
    · exact .inr (.inr (.inr (.inl ⟨rfl, rfl, ptC_4.2⟩)))
    · exact .inr (.inr (.inr (.inr ⟨rfl, rfl, ptC_5.2⟩)))
/-- a piece that was put, with a gap behind it: it is the first, and nothing is skipped ahead of it -/
theorem first_put {k : Int} {t : List UInt8} (h : ptC k t = 0) (g : Int) (m : List UInt8) : first (ptT k t ++ (gapT g ++ m)) = some (k, t, (ptT k t).length) ∧ skip false (ptT k t ++ (gapT g ++ m)) = 0 ∧ skn false (ptT k t ++ (gapT g ++ m)) = 0 ∧ 1 ≤ (ptT k t).length := by
  rcases put_kinds h with ⟨rfl, hw, e⟩ | ⟨rfl, hw, e⟩ | ⟨rfl, rfl, e⟩ | ⟨rfl, rfl, e⟩ | ⟨rfl, rfl, e⟩
  · rw [e]
    obtain ⟨hne, hall⟩ := isW_all hw
    have hl := wlen_all hall (gapT g ++ m)
    rw [gap_word, Nat.add_zero] at hl
    cases t with
    | nil => exact absurd rfl hne
    | cons c r =>
      have hc := hall c (by simp)
      have hc2 := (wb_iff _).1 hc
      have e2 : (c :: r) ++ (gapT g ++ m) = c :: (r ++ (gapT g ++ m)) := rfl
      refine ⟨?_, ?_, ?_, by simp⟩
      · have := first_word hc (r ++ (gapT g ++ m))
        rw [← e2, hl] at this
        rw [this, List.take_left']
        rfl
      · rw [e2]; exact skip_end (by omega) (by simp [bb]; omega) (by omega) _
      · rw [e2]; exact skn_end (by omega) (by simp [bb]; omega) (by omega) _
  · rw [e]
    have e2 : (34 :: esc t ++ [34]) ++ (gapT g ++ m) = 34 :: (esc t ++ 34 :: (gapT g ++ m)) := by simp
    rw [e2]
    refine ⟨?_, rfl, rfl, by simp⟩
    rw [first_quote rfl, unq_esc_all t _ hw]
    simp
  all_goals
    rw [e]
    exact ⟨rfl, rfl, rfl, by simp⟩

def txt (A : List Pt) : List UInt8 := A.flatMap fun x => ptT x.k x.t ++ gapT x.g
def lns : List Pt → Int
  | [] => 0
  | x :: r => gapN x.g + lns r
def wnt : Int → List Pt → List Pc
  | _, [] => []
  | n, x :: r => ⟨x.k, x.t, n⟩ :: wnt (n + gapN x.g) r
theorem txt_app (A : List Pt) (x : Pt) : txt (A ++ [x]) = txt A ++ ptT x.k x.t ++ gapT x.g := by simp [txt]
theorem txt_cons (x : Pt) (A : List Pt) : txt (x :: A) = ptT x.k x.t ++ (gapT x.g ++ txt A) := by simp [txt]
theorem lns_app (A : List Pt) (x : Pt) : lns (A ++ [x]) = lns A + gapN x.g := by
  induction A with
  | nil => simp [lns]
  | cons y r ih => rw [List.cons_append, lns, lns, ih]; omega
theorem wnt_len (A : List Pt) : ∀ n, (wnt n A).length = A.length := by
  induction A with
  | nil => intro n; rfl
  | cons y r ih => intro n; rw [wnt, List.length_cons, List.length_cons, ih]
theorem wnt_app (A : List Pt) (x : Pt) : ∀ n, wnt n (A ++ [x]) = wnt n A ++ [⟨x.k, x.t, n + lns A⟩] := by
  induction A with
  | nil => intro n; simp [wnt, lns]
  | cons y r ih => intro n; rw [List.cons_append, wnt, wnt, ih, lns, List.cons_append, Int.add_assoc]
theorem lns_range (A : List Pt) : 0 ≤ lns A ∧ lns A ≤ 2 * A.length := by
  induction A with
  | nil => simp [lns]
  | cons y r ih => have := gapN_range y.g; rw [lns, List.length_cons]; omega
theorem txt_len {A : List Pt} (h : ∀ x ∈ A, ptC x.k x.t = 0 ∧ x.t.length ≤ 60) : (txt A).length ≤ 134 * A.length ∧ A.length ≤ (txt A).length := by
  induction A with
  | nil => simp [txt]
  | cons y r ih =>
    have h1 := ih fun x hx => h x (by simp [hx])
    obtain ⟨hc, ht⟩ := h y (by simp)
    have hg := gapT_len y.g
    have hp : (ptT y.k y.t).length ≤ 122 := by
      rcases put_kinds hc with ⟨_, _, e⟩ | ⟨_, _, e⟩ | ⟨_, _, e⟩ | ⟨_, _, e⟩ | ⟨_, _, e⟩
      · rw [e]; omega
      · rw [e]; have := esc_len y.t; simp; omega
      all_goals rw [e]; simp
    rw [txt_cons, List.length_append, List.length_append, List.length_cons]
    omega
theorem txt_start {A : List Pt} (h : ∀ x ∈ A, ptC x.k x.t = 0) : skip false (txt A) = 0 ∧ skn false (txt A) = 0 := by
  cases A with
  | nil => exact ⟨rfl, rfl⟩
  | cons y r =>
    rw [txt_cons]
    obtain ⟨_, h1, h2, _⟩ := first_put (h y (by simp)) y.g (txt r)
    exact ⟨h1, h2⟩
theorem read_txt : ∀ (A : List Pt) (acc : List Pc) (line : Int) (f : Nat), (∀ x ∈ A, ptC x.k x.t = 0) → acc.length + A.length ≤ 8192 → A.length < f → read f acc (txt A) line = .ok (acc ++ wnt line A)
  | [], acc, line, f, _, _, hf => by
    obtain ⟨f', rfl⟩ : ∃ f', f = f' + 1 := ⟨f - 1, by simp at hf; omega⟩
    show read (f' + 1) acc [] line = _
    rw [read_nil, wnt, List.append_nil]
  | y :: r, acc, line, f, h, h8, hf => by
    rw [List.length_cons] at h8 hf
    obtain ⟨f', rfl⟩ : ∃ f', f = f' + 1 := ⟨f - 1, by omega⟩
    obtain ⟨h1, _, _, h2⟩ := first_put (h y (by simp)) y.g (txt r)
    obtain ⟨h3, h4⟩ := gap_skip y.g (txt r)
    obtain ⟨h5, h6⟩ := txt_start fun x hx => h x (List.mem_cons_of_mem _ hx)
    rw [txt_cons]
    have hd : (ptT y.k y.t ++ (gapT y.g ++ txt r)).drop (ptT y.k y.t).length = gapT y.g ++ txt r := List.drop_left' rfl
    have hd2 : (gapT y.g ++ txt r).drop (gapT y.g).length = txt r := List.drop_left' rfl
    rw [read_some f' (by intro e; rw [e] at h1; cases h1) (by omega) h1, hd, h3, h4, h5, h6, Nat.add_zero, hd2]
    have hr := read_txt r (acc ++ [⟨y.k, y.t, line⟩]) (line + (gapN y.g + ((0 : Nat) : Int))) f' (fun x hx => h x (List.mem_cons_of_mem _ hx)) (by rw [List.length_append, List.length_singleton]; omega) (by omega)
    rw [hr, wnt]
    simp
/-- what is put is read -/
theorem total_txt {A : List Pt} (h : ∀ x ∈ A, ptC x.k x.t = 0 ∧ x.t.length ≤ 60) (hA : A.length ≤ 30) : total (txt A) = .ok (wnt 1 A) := by
  have hl := txt_len h
  obtain ⟨h5, h6⟩ := txt_start fun x hx => (h x hx).1
  rw [total_fit (by omega), h5, h6, List.drop_zero]
  have := read_txt A [] 1 ((txt A).length + 1) (fun x hx => (h x hx).1) (by simp; omega) (by omega)
  simpa using this
end Go.Proofs.YtijnijlekidhcaaDoor.Lex

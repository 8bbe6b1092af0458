/-
  Layer 10 (word): plain facts: the words of a text, words put together, texts in order, each once.
-/
import Derived.Lib.FieldsP
import Derived.Lib.SpaceUEq
import Derived.Lib.Join
import Derived.Lib.SlicesCompact
import Derived.Lib.RowBridge
import Derived.Sort.KeysCollected
namespace Go.Proofs.Ytbchfkocpnmdiaa.Word

def blank (c : UInt8) : Bool := c == 32 || c == 9
def wordOf (cur : List UInt8) : List (List UInt8) := if cur = [] then [] else [cur]
def cutGo : List UInt8 → List UInt8 → List (List UInt8)
  | cur, [] => wordOf cur
  | cur, c :: t => if blank c then wordOf cur ++ cutGo [] t else cutGo (cur ++ [c]) t
def cut (s : List UInt8) : List (List UInt8) := cutGo [] s
def lone (w : List UInt8) : Prop := ∀ c ∈ w, blank c = false
def weight (ws : List (List UInt8)) : Nat := (ws.map fun w => w.length + 1).sum
def joinW (ws : List (List UInt8)) : List UInt8 := Lib.join ws [32]

theorem wordOf_nil : wordOf [] = [] := rfl
theorem wordOf_ne {cur : List UInt8} (h : cur ≠ []) : wordOf cur = [cur] := by simp [wordOf, h]
theorem cutGo_blank {c : UInt8} (h : blank c = true) (cur t : List UInt8) : cutGo cur (c :: t) = wordOf cur ++ cutGo [] t := by simp [cutGo, h]
theorem cutGo_sign {c : UInt8} (h : blank c = false) (cur t : List UInt8) : cutGo cur (c :: t) = cutGo (cur ++ [c]) t := by simp [cutGo, h]
theorem cutGo_lone {w : List UInt8} (h : lone w) : ∀ cur t, cutGo cur (w ++ t) = cutGo (cur ++ w) t := by
  induction w with
  | nil => intro cur t; simp
  | cons c w ih =>
    intro cur t
    rw [List.cons_append, cutGo_sign (h c (by simp)), ih (fun x hx => h x (by simp [hx]))]
    simp
theorem wordOf_mem {cur w : List UInt8} (h : w ∈ wordOf cur) : w = cur ∧ cur ≠ [] := by
  by_cases hc : cur = []
  · subst hc; simp [wordOf] at h
  · rw [wordOf_ne hc] at h; exact ⟨by simpa using h, hc⟩
theorem cutGo_words : ∀ (s cur : List UInt8), lone cur → ∀ w ∈ cutGo cur s, w ≠ [] ∧ lone w
  | [], cur, hc, w, hw => by obtain ⟨rfl, h⟩ := wordOf_mem hw; exact ⟨h, hc⟩
  | c :: t, cur, hc, w, hw => by
    cases hb : blank c with
    | true =>
      rw [cutGo_blank hb, List.mem_append] at hw
      rcases hw with hw | hw
      · obtain ⟨rfl, h⟩ := wordOf_mem hw; exact ⟨h, hc⟩
      · exact cutGo_words t [] (fun _ h => by simp at h) w hw
    | false =>
      rw [cutGo_sign hb] at hw
      refine cutGo_words t (cur ++ [c]) (fun x hx => ?_) w hw
      rw [List.mem_append] at hx
      rcases hx with hx | hx
      · exact hc x hx
      · obtain rfl : x = c := by simpa using hx
        exact hb
theorem cut_words {s w : List UInt8} (h : w ∈ cut s) : w ≠ [] ∧ lone w := cutGo_words s [] (fun _ h => by simp at h) w h
theorem weight_app (a b : List (List UInt8)) : weight (a ++ b) = weight a + weight b := by simp [weight]
theorem weight_word (cur : List UInt8) : weight (wordOf cur) ≤ cur.length + 1 := by
  by_cases h : cur = []
  · subst h; simp [wordOf, weight]
  · rw [wordOf_ne h]; simp [weight]
theorem cutGo_weight : ∀ (s cur : List UInt8), weight (cutGo cur s) ≤ cur.length + s.length + 1
  | [], cur => by have := weight_word cur; simp only [cutGo, List.length_nil]; omega
  | c :: t, cur => by
    cases hb : blank c with
    | true =>
      rw [cutGo_blank hb, weight_app]
      have h1 := weight_word cur
      have h2 := cutGo_weight t []
      simp only [List.length_nil, List.length_cons] at h2 ⊢
      omega
    | false =>
      rw [cutGo_sign hb]
      have := cutGo_weight t (cur ++ [c])
      simp only [List.length_append, List.length_cons, List.length_nil] at this ⊢
      omega
theorem cut_weight (s : List UInt8) : weight (cut s) ≤ s.length + 1 := by have := cutGo_weight s []; simp at this; exact this
theorem len_weight (ws : List (List UInt8)) : ws.length ≤ weight ws := by
  induction ws with
  | nil => simp [weight]
  | cons w ws ih => simp only [weight, List.map_cons, List.sum_cons, List.length_cons] at ih ⊢; omega
theorem tail_weight (ws : List (List UInt8)) : (Lib.joinTail [32] ws).length = weight ws := by
  induction ws with
  | nil => rfl
  | cons w ws ih => simp only [Lib.joinTail, weight, List.map_cons, List.sum_cons, List.flatten_cons, List.length_append, List.length_cons, List.length_nil] at ih ⊢; omega
theorem join_weight (ws : List (List UInt8)) : (joinW ws).length ≤ weight ws := by
  cases ws with
  | nil => simp [joinW, Lib.join_nil]
  | cons w ws =>
    rw [joinW, Lib.join_cons, List.length_append, tail_weight]
    simp only [weight, List.map_cons, List.sum_cons]; omega
theorem weight_le {ws : List (List UInt8)} {m : Nat} (h : ∀ w ∈ ws, w.length ≤ m) : weight ws ≤ ws.length * (m + 1) := by
  induction ws with
  | nil => simp [weight]
  | cons w ws ih =>
    have h1 := h w (by simp)
    have h2 := ih (fun x hx => h x (by simp [hx]))
    simp only [weight, List.map_cons, List.sum_cons, List.length_cons, Nat.add_mul] at h2 ⊢
    omega
theorem tail_cut : ∀ (ws : List (List UInt8)), (∀ w ∈ ws, w ≠ [] ∧ lone w) → ∀ cur, cutGo cur (Lib.joinTail [32] ws) = wordOf cur ++ ws
  | [], _, cur => by simp [Lib.joinTail, cutGo]
  | w :: ws, h, cur => by
    have e : Lib.joinTail [32] (w :: ws) = 32 :: (w ++ Lib.joinTail [32] ws) := by simp [Lib.joinTail]
    obtain ⟨h1, h2⟩ := h w (by simp)
    rw [e, cutGo_blank (by decide), cutGo_lone h2, tail_cut ws (fun x hx => h x (by simp [hx])), List.nil_append, wordOf_ne h1]; rfl
theorem cut_join {ws : List (List UInt8)} (h : ∀ w ∈ ws, w ≠ [] ∧ lone w) : cut (joinW ws) = ws := by
  cases ws with
  | nil => rfl
  | cons w ws =>
    obtain ⟨h1, h2⟩ := h w (by simp)
    rw [cut, joinW, Lib.join_cons, cutGo_lone h2, tail_cut ws (fun x hx => h x (by simp [hx])), List.nil_append, wordOf_ne h1]; rfl
theorem cut_again (s : List UInt8) : cut (joinW (cut s)) = cut s := cut_join fun _ hw => cut_words hw

/-! ### words put together, one by one -/
theorem join_first {ts : List (List UInt8)} (h : 0 < ts.length) : joinW (ts.take 1) = ts[0] := by
  cases ts with
  | nil => simp at h
  | cons a r => simp [joinW, Lib.join_one]
theorem join_next {ts : List (List UInt8)} {k : Nat} (h0 : 0 < k) (h : k < ts.length) : joinW (ts.take (k + 1)) = joinW (ts.take k) ++ [32] ++ ts[k] := by
  cases ts with
  | nil => simp at h
  | cons a r =>
    obtain ⟨j, rfl⟩ : ∃ j, k = j + 1 := ⟨k - 1, by omega⟩
    have hj : j < r.length := by simpa using h
    rw [List.take_succ_cons, List.take_succ_cons, joinW, joinW, Lib.join_cons, Lib.join_cons, Lib.joinTail_take_succ _ _ _ r[j] (by simp [hj])]
    simp

/-! ### the library's words -/
def blankR (x : Nat) : Bool := x == 32 || x == 9
def ext (s : List UInt8) (x : Nat × Nat) : List UInt8 := (s.take x.2).drop x.1
def curOf (s : List UInt8) (pos : Nat) : Option Nat → List UInt8
  | none => []
  | some a => ext s (a, pos)
open Go.Lib in
theorem dec_blank (s : ByteArray) (pos : Nat) (hp : pos < s.size) (h : blankR (Utf8.decode s pos).1 = true) : (Utf8.decode s pos).2 = 1 ∧ blank (s.data.toList[pos]'hp) = true := by
  rw [decode_at] at h ⊢
  have hg : s.get! pos = s.data.toList[pos]'hp := by
    rw [ByteArray.get!, Array.getElem!_eq_getD, Array.getD_eq_getD_getElem?, Array.getElem?_eq_getElem (show pos < s.data.size from hp)]; rfl
  rw [hg] at h ⊢
  generalize s.data.toList[pos]'hp = c at *
  have hc := decodeN_cases (s.size - pos) c.toNat (s.get! (pos + 1)).toNat (s.get! (pos + 2)).toNat (s.get! (pos + 3)).toNat
  simp only [blankR, Bool.or_eq_true, beq_iff_eq] at h
  rcases hc with ⟨_, hc⟩ | ⟨_, _, _, h2, hc⟩ | ⟨_, _, _, _, h2, hc⟩ | ⟨h2, _⟩ | hc
  · rw [hc] at h ⊢
    refine ⟨rfl, ?_⟩
    rcases h with h | h
    · have : c = 32 := UInt8.toNat_inj.1 h
      rw [this]; rfl
    · have : c = 9 := UInt8.toNat_inj.1 h
      rw [this]; rfl
  · rw [hc] at h; simp only at h; omega
  · rw [hc] at h; simp only at h; omega
  · omega
  · rw [hc] at h; simp only at h; omega
open Go.Lib in
theorem dec_lone (s : ByteArray) (pos : Nat) (hp : pos < s.size) (h : blankR (Utf8.decode s pos).1 = false) : 1 ≤ (Utf8.decode s pos).2 ∧ pos + (Utf8.decode s pos).2 ≤ s.size ∧ ∀ j (_ : j < (Utf8.decode s pos).2) (hj : pos + j < s.size), blank (s.data.toList[pos + j]'hj) = false := by
  have hg : ∀ i (hi : i < s.size), s.get! i = s.data.toList[i]'hi := by
    intro i hi
    rw [ByteArray.get!, Array.getElem!_eq_getD, Array.getD_eq_getD_getElem?, Array.getElem?_eq_getElem (show i < s.data.size from hi)]; rfl
  have hw := width_pos s pos
  rw [decode_at] at h hw ⊢
  have hc := decodeN_conts (s.size - pos) (s.get! pos).toNat (s.get! (pos + 1)).toNat (s.get! (pos + 2)).toNat (s.get! (pos + 3)).toNat
  obtain ⟨c2, c3, c4, c5⟩ := hc
  have high : ∀ c : UInt8, 128 ≤ c.toNat → blank c = false := by
    intro c hc
    simp only [blank, Bool.or_eq_false_iff, beq_eq_false_iff_ne]
    constructor
    · rintro rfl; revert hc; decide
    · rintro rfl; revert hc; decide
  refine ⟨hw, by omega, fun j hj hjs => ?_⟩
  rw [← hg _ hjs]
  match j, hj with
  | 0, _ =>
    by_cases h128 : (s.get! pos).toNat < 128
    · rw [decodeN_ascii _ _ _ _ _ h128] at h
      simp only [blankR, Bool.or_eq_false_iff, beq_eq_false_iff_ne] at h
      simp only [blank, Bool.or_eq_false_iff, beq_eq_false_iff_ne, Nat.add_zero]
      exact ⟨fun e => h.1 (by rw [e]; rfl), fun e => h.2 (by rw [e]; rfl)⟩
    · exact high _ (by rw [Nat.add_zero]; omega)
  | 1, hj => exact high _ (by have := (c2 (by omega)).1; omega)
  | 2, hj => exact high _ (by have := (c3 (by omega)).1; omega)
  | 3, hj => exact high _ (by have := (c4 (by omega)).1; omega)
  | j + 4, hj => omega

theorem take_mid (l : List UInt8) (a n : Nat) : l.take (a + n) = l.take a ++ (l.drop a).take n := by rw [List.take_add]
open Go.Lib in
theorem spans_cut (s : ByteArray) : ∀ (f pos : Nat) (st : Option Nat) (acc : List (Nat × Nat)), pos ≤ s.size → s.size ≤ pos + f → (∀ a, st = some a → a < pos) →
    (closeSpans s (spansFromP blankR s f pos st acc)).map (ext s.data.toList) = acc.map (ext s.data.toList) ++ cutGo (curOf s.data.toList pos st) (s.data.toList.drop pos)
  | 0, pos, st, acc, h1, h2, h3 => by
    obtain rfl : pos = s.size := by omega
    have hd : s.data.toList.drop s.size = [] := List.drop_of_length_le (Nat.le_refl _)
    rw [hd]
    cases st with
    | none => simp [spansFromP, closeSpans, cutGo, curOf, wordOf]
    | some a =>
      have hne : ext s.data.toList (a, s.size) ≠ [] := by
        intro h0
        have := congrArg List.length h0
        have ha := h3 a rfl
        simp only [ext, List.length_drop, List.length_take, List.length_nil] at this
        have hl : s.data.toList.length = s.size := rfl
        omega
      simp only [spansFromP, closeSpans, cutGo, curOf, List.map_append, List.map_cons, List.map_nil]
      rw [wordOf_ne hne]
  | f + 1, pos, st, acc, h1, h2, h3 => by
    have hl : s.data.toList.length = s.size := rfl
    by_cases hp : pos < s.size
    · have hcur : ∀ a, st = some a → ext s.data.toList (a, pos) ≠ [] := by
        intro a ha h0
        have := congrArg List.length h0
        have ha := h3 a ha
        simp only [ext, List.length_drop, List.length_take, List.length_nil] at this
        omega
      unfold spansFromP
      rw [if_pos hp]
      cases hb : blankR (Utf8.decode s pos).1 with
      | true =>
        obtain ⟨hw, hbl⟩ := dec_blank s pos hp hb
        rw [if_pos rfl, hw]
        have hd : s.data.toList.drop pos = s.data.toList[pos]'hp :: s.data.toList.drop (pos + 1) := List.drop_eq_getElem_cons (i := pos) hp
        rw [hd, cutGo_blank hbl]
        cases st with
        | none =>
          simp only
          rw [spans_cut s f (pos + 1) none acc (by omega) (by omega) (by simp)]
          simp [curOf, wordOf]
        | some a =>
          simp only
          rw [spans_cut s f (pos + 1) none (acc ++ [(a, pos)]) (by omega) (by omega) (by simp)]
          simp only [List.map_append, List.map_cons, List.map_nil, curOf]
          rw [wordOf_ne (hcur a rfl), List.append_assoc]
      | false =>
        obtain ⟨hw1, hw2, hw3⟩ := dec_lone s pos hp hb
        rw [if_neg (by simp)]
        generalize (Utf8.decode s pos).2 = n at *
        have hL : lone ((s.data.toList.drop pos).take n) := by
          intro c hc
          obtain ⟨i, hi, rfl⟩ := List.mem_iff_getElem.1 hc
          have hi' : i < n ∧ i < s.size - pos := by
            rw [List.length_take, List.length_drop] at hi; omega
          rw [List.getElem_take, List.getElem_drop]
          exact hw3 i hi'.1 (by omega)
        have hd : s.data.toList.drop pos = (s.data.toList.drop pos).take n ++ s.data.toList.drop (pos + n) := by
          rw [← List.drop_drop, List.take_append_drop]
        rw [hd, cutGo_lone hL]
        cases st with
        | none =>
          simp only
          rw [spans_cut s f (pos + n) (some pos) acc hw2 (by omega) (by rintro a ⟨⟩; omega)]
          congr 2
          simp only [curOf, ext, List.nil_append]
          rw [take_mid, List.drop_append, List.drop_of_length_le (by rw [List.length_take]; omega), List.length_take, show pos - min pos s.data.toList.length = 0 by omega]; simp
        | some a =>
          simp only
          rw [spans_cut s f (pos + n) (some a) acc hw2 (by omega) (by rintro b ⟨⟩; have := h3 a rfl; omega)]
          congr 2
          have ha := h3 a rfl
          simp only [curOf, ext]
          rw [take_mid, List.drop_append_of_le_length (by rw [List.length_take]; omega)]
    · obtain rfl : pos = s.size := by omega
      rw [spansFromP_end _ _ _ _ _ _ hp]
      have := spans_cut s 0 s.size st acc (Nat.le_refl _) (by omega) h3
      simpa [spansFromP] using this
open Go.Lib in
theorem fields_cut (s : ByteArray) : (goFieldsP blankR s).map (·.data.toList) = cut s.data.toList := by
  have h := spans_cut s s.size 0 none [] (Nat.zero_le _) (by omega) (by simp)
  simp only [List.map_nil, List.nil_append, List.drop_zero, curOf] at h
  rw [cut, ← h, goFieldsP, List.map_map]
  refine List.map_congr_left fun x _ => ?_
  simp only [ext, Function.comp, ByteArray.data_extract, Array.toList_extract, List.extract_eq_drop_take']

end Go.Proofs.Ytbchfkocpnmdiaa.Word

/-
  Layer 10 (word): the library's FieldsFunc, Join, Clone, Sort, Compact, over rows of texts.
-/
import Derived.Test.YtbchfkocpnmdiaaShelf
import Derived.Test.YtbchfkocpnmdiaaWordSortP
import Derived.Test.YtbchfkocpnmdiaaRow1
import Derived.Sort.OwnSorted
import Derived.Lib.OwnBridge
namespace Go.Proofs.Ytbchfkocpnmdiaa.Word
open Go.RowKit Go.Proofs.Ytbchfkocpnmdiaa.Own Go.Proofs.Ytbchfkocpnmdiaa.Rw Go.Sort

def TPost (w : World) (ts : List Bs) (e : Ending) (w' : World) : Prop := ∃ p c, e = .returned (.slice p ts.length c) ∧ Texts w' p c ts ∧ Below w.heap.size w w'

set_option maxHeartbeats 400000 in
theorem blank_calls (x : Nat) (w : World) : Calls Try.prog 28 #[.int .i32 x] w fun e w' => e = .returned (.bool (blankR x)) ∧ w = w' := by
  rcases (show x = 32 ∨ x = 9 ∨ (x ≠ 32 ∧ x ≠ 9) by omega) with h | h | ⟨h, h2⟩
  · have H : Hid (blankR x = true) := Lib.hid (by simp [blankR, h])
    go_enter Try.func28, Try.ntmps28
    go_wp2
    go_ret
    exact ⟨by rw [H.out]; rfl, rfl⟩
  · have H : Hid (blankR x = true) := Lib.hid (by simp [blankR, h])
    go_enter Try.func28, Try.ntmps28
    go_wp2
    go_ret
    exact ⟨by rw [H.out]; rfl, rfl⟩
  · have H : Hid (blankR x = false) := Lib.hid (by simp [blankR, h, h2])
    have c1 : ((x : Int) == 32) = false := by simp; omega
    have c2 : ((x : Int) == 9) = false := by simp; omega
    go_enter Try.func28, Try.ntmps28
    go_wp2
    go_ret
    exact ⟨by rw [H.out]; rfl, rfl⟩

theorem map_str (xs : List ByteArray) : xs.map Value.string = strs (xs.map (·.data.toList)) := by
  rw [strs, List.map_map]; rfl
def bs (ts : List Bs) : List ByteArray := ts.map fun l => ⟨l.toArray⟩
theorem bs_back (ts : List Bs) : (bs ts).map (·.data.toList) = ts := by rw [bs, List.map_map]; exact (List.map_congr_left (fun _ _ => rfl)).trans (List.map_id ts)
theorem bs_len (ts : List Bs) : (bs ts).length = ts.length := by simp [bs]

theorem fields_post (s : ByteArray) (hs : s.size ≤ 1000000) (w : World) : Calls Try.prog 27 #[.string s, .func (.func 28) #[] #[]] w (TPost w (cut s.data.toList)) := by
  refine (Try.strings_FieldsFunc_runes 28 #[] (enters_of Try.func28 (by kernel_rfl) rfl) blankR s w (by omega) (fun W x _ _ => (blank_calls x W).mono fun _ _ h => ⟨h.1, 0, h.2.symm⟩)).mono ?_
  rintro e w' ⟨A, rfl, hA, hown, hb⟩
  rw [map_str, fields_cut] at hown
  have hl : (Lib.goFieldsP blankR s).length = (cut s.data.toList).length := by rw [← fields_cut, List.length_map]
  rw [hl] at hown ⊢
  obtain ⟨p, c, he, ht⟩ := texts_own hown rfl
  cases he
  exact ⟨_, _, rfl, ht, hb⟩

theorem join_lib (ts : List Bs) (p : Option Addr) (c : Nat) (w : World) (h : Texts w p c ts) (hw : weight ts ≤ 1000000) : Calls Try.prog 29 #[.slice p ts.length c, .string ⟨#[32]⟩] w fun e w' => e = .returned (str (joinW ts)) ∧ Below w.heap.size w w' := by
  rcases h.cells with rfl | ⟨b, o, rfl, hb, hc⟩
  · refine (Try.strings_Join_none p c ⟨#[32]⟩ w).mono ?_
    rintro e w' ⟨rfl, rfl⟩
    exact ⟨rfl, Below.refl _ _⟩
  · have hj := join_weight ts
    have hn := len_weight ts
    have H := Try.strings_Join b o c (bs ts) ⟨#[32]⟩ w (fun j x hx => by
      have hj : j < ts.length := by
        have := (List.getElem?_eq_some_iff.1 hx).1
        rwa [bs_len] at this
      rw [hc j hj]
      simp [bs, hj] at hx
      rw [← hx]; rfl) hb (by rw [bs_len]; omega) (by rw [bs_len]; exact h.cap.1) (by rw [bs_back]; exact Nat.le_trans hj (by omega))
    rw [bs_len, bs_back] at H
    exact H

theorem clone_lib (ts : List Bs) (p : Option Addr) (c : Nat) (w : World) (h : Texts w p c ts) (hn : ts.length ≤ 1000000) : Calls Try.prog 30 #[.slice p ts.length c] w fun e w' => (ts = [] ∧ e = .returned (.slice none 0 0) ∨ ∃ g cap, e = .returned (.slice (some ⟨g, 0, none⟩) ts.length cap) ∧ w'.ownsRow w.heap.size 9 1 (.slice (some ⟨g, 0, none⟩) ts.length cap) ts.length (strs ts) ∧ w.heap.size ≤ g) ∧ Below w.heap.size w w' := by
  have fin : ∀ {v' : Value} {w' : World} {n : Nat} {us : List Bs}, w'.ownsRow w.heap.size 9 1 v' n (strs us) → v' ≠ .slice none 0 0 → ∃ g cap, v' = .slice (some ⟨g, 0, none⟩) n cap ∧ w'.ownsRow w.heap.size 9 1 (.slice (some ⟨g, 0, none⟩) n cap) n (strs us) ∧ w.heap.size ≤ g := by
    intro v' w' n us hown hne
    have h0 := hown
    rcases hown.2 with ⟨e0, _⟩ | ⟨g, cap, cur, rfl, hg, _⟩
    · exact absurd e0 hne
    · exact ⟨g, cap, rfl, h0, hg⟩
  rcases h.cells with rfl | ⟨b, o, rfl, hb, hc⟩
  · cases p with
    | none =>
      refine (Try.slices_Clone_string_nil 0 c w).mono ?_
      rintro e w' ⟨rfl, rfl⟩
      exact ⟨.inl ⟨rfl, rfl⟩, Below.refl _ _⟩
    | some a =>
      refine (Try.slices_Clone_string_zero a c w).mono ?_
      rintro e w' ⟨v', rfl, hown, hne, hbl⟩
      obtain ⟨g, cap, rfl, ho, hg⟩ := fin (us := []) hown hne
      exact ⟨.inr ⟨g, cap, rfl, ho, hg⟩, hbl⟩
  · have H := Try.slices_Clone_string b o ts.length c (bs ts) w (by rw [bs_len]; exact Nat.le_refl _) (by omega) (fun j hj => by
      rw [bs_len] at hj
      rw [hc j hj, List.getD_eq_getElem?_getD, bs, List.getElem?_map, List.getElem?_eq_getElem hj]; rfl)
    refine H.mono ?_
    rintro e w' ⟨v', rfl, hown, hne, hbl⟩
    rw [List.take_of_length_le (by rw [bs_len]; exact Nat.le_refl _), map_str, bs_back] at hown
    obtain ⟨g, cap, rfl, ho, hg⟩ := fin hown hne
    exact ⟨.inr ⟨g, cap, rfl, ho, hg⟩, hbl⟩

theorem own_holds {w : World} {B g n cap : Nat} {e : TypeId} {ss : List Bs} (h : w.ownsRow B e 1 (.slice (some ⟨g, 0, none⟩) n cap) n (strs ss)) : ss.length = n ∧ B ≤ g ∧ g < w.heap.size ∧ n ≤ cap ∧ Holds encStr w g 0 ss.toArray := by
  obtain ⟨g', cap', hv, h1, h2, h3, _, h5, h6⟩ := Lib.holds_of_ownsRow (enc := encStr) (zs := ss) h (by simp)
  cases hv
  exact ⟨h5, h1, h2, h3, h6⟩
def srtM (ss : List Bs) : List Bs := ss.mergeSort fun x y => decide (x ≤ y)
theorem sort_lib (ss : List Bs) (n : Nat) (B g cap : Nat) (w : World) (h : w.ownsRow B 9 1 (.slice (some ⟨g, 0, none⟩) n cap) n (strs ss)) (hn : n ≤ 1000000) :
    Calls Try.prog 31 #[.slice (some ⟨g, 0, none⟩) n cap] w fun e w' => e = .returned (.tuple #[]) ∧ w'.ownsRow B 9 1 (.slice (some ⟨g, 0, none⟩) n cap) n (strs (srtM ss)) ∧ w.grownBy w' (some g) := by
  obtain ⟨rfl, hB, hg, hc, hH⟩ := own_holds h
  refine (Try.slices_Sort_string g 0 cap ss w hH hg (by omega)).mono ?_
  rintro e w' ⟨rfl, nn, os, rfl⟩
  rcases h.2 with ⟨h0, _⟩ | ⟨g', cap', cur, hv, hbase, hb, h1, h2, h3, h4⟩
  · cases h0
  cases hv
  exact ⟨rfl, ownsRow_sorted (n := nn) (os := os) (ts := srtM ss) (List.length_mergeSort ss) hbase hb h1 h2 h3, grownBy_sorted _⟩
theorem compact_lib (zs : List Bs) (n : Nat) (B g cap : Nat) (w : World) (h : w.ownsRow B 9 1 (.slice (some ⟨g, 0, none⟩) n cap) n (strs zs)) (hn : n ≤ 1000000) :
    Calls Try.prog 32 #[.slice (some ⟨g, 0, none⟩) n cap] w fun e w' => e = .returned (.slice (some ⟨g, 0, none⟩) (Lib.compact zs).length cap) ∧ w'.ownsRow B 9 1 (.slice (some ⟨g, 0, none⟩) (Lib.compact zs).length cap) (Lib.compact zs).length (strs (Lib.compact zs)) ∧ Below B w w' := by
  obtain ⟨rfl, hB, hg, hc, hH⟩ := own_holds h
  refine (Try.slices_Compact_string g 0 cap zs w hH (by omega) hc).mono ?_
  rintro e w' ⟨rfl, q, rfl⟩
  have hle := Lib.compact_length_le zs
  have := Lib.ownsRow_putRow (enc := encStr) (q := q) (k := (Lib.compact zs).length) (ys := Lib.compact zs ++ List.replicate (zs.length - (Lib.compact zs).length) []) h (by simp; omega) hle
  rw [List.take_left] at this
  exact ⟨rfl, this, Lib.below_putRow (Below.refl _ _) hB⟩

end Go.Proofs.Ytbchfkocpnmdiaa.Word

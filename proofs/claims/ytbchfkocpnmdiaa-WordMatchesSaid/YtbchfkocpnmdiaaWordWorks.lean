/-
  Layer 10 (word): the laws' example.
-/
import Derived.Test.YtbchfkocpnmdiaaWordRefSort
import Derived.Test.YtbchfkocpnmdiaaWordOps
namespace Go.Proofs.Ytbchfkocpnmdiaa.Word
open Go.RowKit Go.Proofs.Ytbchfkocpnmdiaa.Own Go.Proofs.Ytbchfkocpnmdiaa.Rw

theorem cut_of (s : ByteArray) (hs : s.size ≤ 1000000) (ws : List Bs) (h : cut s.data.toList = ws) (w : World) : Calls Try.prog 13 #[.string s] w (TPost w ws) := by subst h; exact cut_calls s hs w
theorem sort_of (ts us : List Bs) (n : Nat) (hn : ts.length = n) (p : Option Addr) (c : Nat) (w : World) (h : Texts w p c ts) (hl : n ≤ 1000000) (he : srt ts = us) : Calls Try.prog 18 #[.slice p n c] w (TPost w us) := by subst hn he; exact sort_calls ts p c w h hl
theorem join_of (ts : List Bs) (l : List UInt8) (n : Nat) (hn : ts.length = n) (p : Option Addr) (c : Nat) (w : World) (h : Texts w p c ts) (hw : weight ts ≤ 1000000) (he : joinW ts = l) : Calls Try.prog 16 #[.slice p n c] w fun e w' => e = .returned (.string ⟨l.toArray⟩) ∧ Below w.heap.size w w' := by subst hn he; exact join_calls ts p c w h hw
theorem texts_new (w : World) (ts : List Bs) (n : Nat) (hn : ts.length = n) (T : TypeId) (g : Nat) (hg : g = w.heap.size) (hl : n ≤ 1000000) : Texts (w.alloc (.cells (strs ts).toArray T (0, 0))) (some ⟨g, 0, none⟩) n ts := by
  subst hn
  have h := own_new w (strs ts) T g hg (by rw [strs_len]; unfold maxLen; omega)
  rw [strs_len] at h
  obtain ⟨p, c, e, ht⟩ := texts_own h rfl
  cases e
  exact ht

def callB : Bs := [99, 97, 108, 108]
def webB : Bs := [119, 101, 98, 49]
theorem ex_cut : cut [32, 99, 97, 108, 108, 32, 32, 119, 101, 98, 49, 9] = [callB, webB] := by decide
theorem ex_srt : srt [[98], [97], [98]] = [[97], [98]] := by
  refine strict_uniq (srt_spec _).1 (by unfold Strict; decide) fun y => ?_
  rw [(srt_spec _).2]
  simp only [List.mem_cons, List.not_mem_nil, or_false]
  constructor
  · rintro (h | h | h)
    · exact .inr h
    · exact .inl h
    · exact .inr h
  · rintro (h | h)
    · exact .inr (.inl h)
    · exact .inl h

structure Ex (w wr : World) (p1 : Option Addr) (c1 : Nat) (p2 : Option Addr) (c2 : Nat) : Prop where
  l : Texts wr p1 c1 [callB, webB]
  m : Texts wr p2 c2 [[97], [98]]
  below : Below w.heap.size w wr
theorem Ex.after {w wr w' : World} {p1 p2 : Option Addr} {c1 c2 : Nat} (h : Ex w wr p1 c1 p2 c2) (hb : Below wr.heap.size wr w') : Ex w w' p1 c1 p2 c2 := ⟨h.l.below hb, h.m.below hb, h.below.trans (hb.mono h.below.size)⟩

set_option maxRecDepth 100000 in
set_option maxHeartbeats 4000000 in
theorem works_calls (w : World) : Calls Try.prog 6 #[] w fun e w' => e = .returned (.bool true) ∧ Below w.heap.size w w' := by
  have i1 : isName [119, 101, 98, 45, 49, 46, 97] = true := by decide
  have i2 : isName [49, 119, 101, 98] = false := by decide
  have i3 : isName [] = false := by decide
  have f1 : isPat [119, 101, 98, 42] = true := by decide
  have f2 : isPat [119, 101, 32, 98] = false := by decide
  have m1 : isPat [119, 42, 98, 63] = true := by decide
  have m2 : isPat [42] = true := by decide
  have g1 : glob [119, 42, 98, 63] [119, 101, 101, 101, 98, 49] = true := by decide
  have g2 : glob [119, 42, 98, 63] [119, 101, 98] = false := by decide
  have g3 : glob [42] [] = true := by decide
  go_enter Try.func6, Try.ntmps6
  go_wp2_with fail
  refine (cut_of _ (by decide) [callB, webB] ex_cut _).mono ?_
  rintro e w1 ⟨p1, c1, rfl, ht1, hb1⟩
  have HT1 := Lib.hid ht1
  have HB1 := Lib.hid hb1
  have hs1 := hb1.size
  clear ht1 hb1
  go_wp2_with fail
  refine (sort_of [[98], [97], [98]] [[97], [98]] 3 rfl _ _ _ (texts_new _ _ 3 rfl _ _ (by simp) (by omega)) (by omega) ex_srt).mono ?_
  rintro e w2 ⟨p2, c2, rfl, ht2, hb2⟩
  have E : Ex w w2 p1 c1 p2 c2 := by
    have h1 := (Below.refl w1.heap.size w1).alloc (Nat.le_refl _) (.cells #[.string ⟨#[98]⟩, .string ⟨#[97]⟩, .string ⟨#[98]⟩] 9 (0, 0))
    have h2 := h1.trans (hb2.mono h1.size)
    exact ⟨HT1.out.below h2, ht2, HB1.out.trans (h2.mono hs1)⟩
  replace E := Lib.hid E
  clear ht2 hb2
  go_wp2_with (first
    | (go_at_call 7; refine (is_calls _ _).mono ?_; rintro e w' ⟨rfl, rfl⟩)
    | (go_at_call 9; refine (fits_calls _ _).mono ?_; rintro e w' ⟨rfl, rfl⟩)
    | (go_at_call 11; refine (match_calls _ _ (by decide) _).mono ?_; rintro e w' ⟨rfl, hb⟩; replace E := Lib.hid (E.out.after hb); clear hb))
  refine (same_at [callB, webB] 2 rfl _ _ _ _ _ (E.out.after ((Below.refl _ _).alloc (Nat.le_refl _) _)).l (texts_new _ [callB, webB] 2 rfl _ _ (by simp) (by omega)) (by omega)).mono ?_
  rintro e w3 ⟨rfl, hb3⟩
  replace E := Lib.hid ((E.out.after ((Below.refl _ _).alloc (Nat.le_refl _) _)).after hb3)
  clear hb3
  go_wp2_with fail
  refine (same_at [[97], [98]] 2 rfl _ _ _ _ _ (E.out.after ((Below.refl _ _).alloc (Nat.le_refl _) _)).m (texts_new _ [[97], [98]] 2 rfl _ _ (by simp) (by omega)) (by omega)).mono ?_
  rintro e w4 ⟨rfl, hb4⟩
  replace E := Lib.hid ((E.out.after ((Below.refl _ _).alloc (Nat.le_refl _) _)).after hb4)
  clear hb4
  go_wp2_with fail
  refine (join_of [[97], [98]] [97, 32, 98] 2 rfl _ _ _ (texts_new _ [[97], [98]] 2 rfl _ _ (by simp) (by omega)) (by decide) rfl).mono ?_
  rintro e w5 ⟨rfl, hb5⟩
  replace E := Lib.hid ((E.out.after ((Below.refl _ _).alloc (Nat.le_refl _) _)).after hb5)
  clear hb5
  go_wp2_with fail
  go_ret
  exact ⟨rfl, E.out.below⟩

end Go.Proofs.Ytbchfkocpnmdiaa.Word

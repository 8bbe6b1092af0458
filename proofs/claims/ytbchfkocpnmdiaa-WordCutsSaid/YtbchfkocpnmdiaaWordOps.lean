/-
  Layer 10 (word): the program's Cut, Join and Sort, walked.
-/
import Derived.Test.YtbchfkocpnmdiaaWordLib
namespace Go.Proofs.Ytbchfkocpnmdiaa.Word
open Go.RowKit Go.Proofs.Ytbchfkocpnmdiaa.Own Go.Proofs.Ytbchfkocpnmdiaa.Rw

set_option maxHeartbeats 400000 in
theorem cut_calls (s : ByteArray) (hs : s.size ≤ 1000000) (w : World) : Calls Try.prog 13 #[.string s] w (TPost w (cut s.data.toList)) := by
  go_enter Try.func13, Try.ntmps13
  go_wp2_with (go_at_call 27; refine (fields_post s hs _).mono ?_; rintro e w' ⟨p, c, rfl, ht, hb⟩; have HT := Lib.hid ht; have HB := Lib.hid hb; clear ht hb)
  go_ret
  exact ⟨p, c, rfl, HT.out, HB.out⟩

set_option maxHeartbeats 400000 in
theorem join_calls (ts : List Bs) (p : Option Addr) (c : Nat) (w : World) (h : Texts w p c ts) (hw : weight ts ≤ 1000000) : Calls Try.prog 16 #[.slice p ts.length c] w fun e w' => e = .returned (str (joinW ts)) ∧ Below w.heap.size w w' := by
  have H := Lib.hid (join_lib ts p c w h hw)
  clear h
  go_enter Try.func16, Try.ntmps16
  go_wp2_with (go_at_call 29; refine H.out.mono ?_; rintro e w' ⟨rfl, hb⟩; have HB := Lib.hid hb; clear hb)
  go_ret
  exact ⟨rfl, HB.out⟩

set_option maxHeartbeats 1000000 in
theorem sort_calls (ts : List Bs) (p : Option Addr) (c : Nat) (w : World) (h : Texts w p c ts) (hn : ts.length ≤ 1000000) : Calls Try.prog 18 #[.slice p ts.length c] w (TPost w (srt ts)) := by
  have H := Lib.hid (clone_lib ts p c w h hn)
  clear h
  go_enter Try.func18, Try.ntmps18
  go_wp2_with fail
  refine H.out.mono ?_
  rintro e w1 ⟨⟨rfl, rfl⟩ | ⟨g, cap, rfl, hown, hg⟩, hb⟩
  · have HB := Lib.hid hb
    clear hb
    go_wp2_with (first
      | (go_at_call 31; refine (Try.slices_Sort_string_none none 0 _).mono ?_; rintro e w' ⟨rfl, rfl⟩)
      | (go_at_call 32; refine (Try.slices_Compact_string_empty none 0 _).mono ?_; rintro e w' ⟨rfl, rfl⟩))
    go_ret
    refine ⟨none, 0, ?_, ?_, HB.out⟩
    · rw [srt_nil]; rfl
    · rw [srt_nil]; exact texts_nil _
  · have HB := Lib.hid hb
    have HS := Lib.hid (sort_lib ts ts.length w.heap.size g cap w1 hown hn)
    have hlt := (own_holds hown).2.2.1
    clear hb hown
    obtain ⟨n, hnn⟩ : ∃ n, ts.length = n := ⟨_, rfl⟩
    rw [hnn] at HS hn ⊢
    go_wp2_with fail
    refine HS.out.mono ?_
    rintro e w2 ⟨rfl, hown2, hgr⟩
    have hb2 : Below w.heap.size w w2 := HB.out.grown hgr HB.out.size (fun k hk => by cases hk; exact hg)
    have HB2 := Lib.hid hb2
    have HC := Lib.hid (compact_lib (srtM ts) n w.heap.size g cap w2 hown2 hn)
    clear hb2 hown2 hgr
    go_wp2_with fail
    refine HC.out.mono ?_
    rintro e w3 ⟨rfl, hown3, hb3⟩
    obtain ⟨p', c', he, ht⟩ := texts_own hown3 rfl
    cases he
    have HB3 := Lib.hid (HB2.out.trans hb3)
    have HT := Lib.hid ht
    clear hown3 hb3 ht
    go_wp2_with fail
    go_ret
    exact ⟨_, _, rfl, HT.out, HB3.out⟩

end Go.Proofs.Ytbchfkocpnmdiaa.Word

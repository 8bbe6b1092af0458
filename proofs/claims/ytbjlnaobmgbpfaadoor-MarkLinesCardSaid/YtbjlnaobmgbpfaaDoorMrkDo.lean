/-
  Layer 20 (mark): write, Add, Open, walked.
-/
import Derived.Test.YtbjlnaobmgbpfaaDoorMrkWrite
namespace Go.Proofs.YtbjlnaobmgbpfaaDoor.Mark
open Go.RowKit Go.Proofs.YtbjlnaobmgbpfaaDoor.Own Go.Proofs.YtbjlnaobmgbpfaaDoor.Rw Go.Proofs.YtbjlnaobmgbpfaaDoor.Rec Go.Proofs.YtbjlnaobmgbpfaaDoor.Bld Go.Proofs.YtbjlnaobmgbpfaaDoor.Digit Go.Proofs.YtbjlnaobmgbpfaaDoor.Clock

theorem WrPost.ofAlloc {B b M : Nat} {acc t : List UInt8} {o : Bool} {w w1 : World} {x : Obj} (h : WrPost B b M acc t o (w.alloc x) w1) : WrPost B b M acc t o w w1 :=
  ⟨h.bd, h.mkr, ((Out.refl (WS B M) w).alloc x).trans h.out fun _ _ h => h, h.mon, h.pos, h.low⟩
theorem WrPost.ofBelow {B b M : Nat} {acc t : List UInt8} {o : Bool} {w w0 w1 : World} (hb : Below w.heap.size w w0) (h : WrPost B b M acc t o w0 w1) : WrPost B b M acc t o w w1 :=
  ⟨h.bd, h.mkr, (Out.ofNew (S := WS B M) hb).trans h.out fun _ _ h => h, h.mon, h.pos, h.low⟩
theorem box3 {w : World} {b : Nat} {x0 x1 x2 : Value} {T : TypeId} (h : w.heap[b]? = some (.cells #[x0, x1, x2] T (0, 0))) : w.cell? ⟨b, 0, none⟩ = some x0 ∧ w.cell? ⟨b, 1, none⟩ = some x1 ∧ w.cell? ⟨b, 2, none⟩ = some x2 :=
  ⟨at_cell h 0, at_cell h 1, at_cell h 2⟩
theorem note_txt (l : List UInt8) : (⟨#[45, 45, 32]⟩ : ByteArray) ++ ⟨(shw l).toArray⟩ ++ ⟨#[32, 45, 45, 10]⟩ = ⟨(noteB l).toArray⟩ := by
  apply ByteArray.ext; simp [ByteArray.data_append, noteB]
theorem gap_txt (l : List UInt8) : (⟨#[45, 45, 32]⟩ : ByteArray) ++ ⟨(shw l).toArray⟩ ++ ⟨#[32, 108, 111, 115, 116, 32, 45, 45, 10]⟩ = ⟨(gapB l).toArray⟩ := by
  apply ByteArray.ext; simp [ByteArray.data_append, gapB]
theorem note_len (l : List UInt8) : (noteB l).length ≤ 7 + 4 * l.length := by have := shw_len l; simp [noteB]; omega
theorem gap_len (l : List UInt8) : (gapB l).length ≤ 12 + 4 * l.length := by have := shw_len l; simp [gapB]; omega

set_option maxRecDepth 100000 in
set_option maxHeartbeats 4000000 in
theorem write_calls (B b M : Nat) (acc : List UInt8) (o : Bool) (x : Itm) (w : World) (hM : Months w) (hd : Bd B b acc w) (hm : Mk M o w) (h0 : 0 < B) (hB : B ≤ w.heap.size) (hx : x.b.size ≤ 100000) (hlen : acc.length ≤ 1000000000000) :
    Calls Tryd.prog 15 #[.pointer (some ⟨M, 0, none⟩), .pointer (some ⟨b, 0, none⟩), .agg #[.int .i64 x.k, .int .i64 x.a, .string x.b]] w (EndPost B b M acc (itT o x) (itO o x) w) := by
  obtain ⟨k, a, s⟩ := x
  simp only at hx ⊢
  have hb1 : Below w.heap.size w (w.alloc (.cells #[.int .i64 k, .int .i64 a, .string s] 28 (0, 0))) := (Below.refl _ _).alloc (Nat.le_refl _) _
  have hbox := at_new w (.cells #[.int .i64 k, .int .i64 a, .string s] 28 (0, 0))
  have H1 := Lib.hid (WrPost.start hd hm hM h0 hB)
  by_cases k1 : k = 1
  · subst k1
    have HW := Lib.hid (writeBytes_calls B b M acc o a s _ (hM.below hb1) (hd.below hb1) (hm.below hb1) h0 (Nat.le_trans hB hb1.size) (by omega))
    clear hb1 hM hd hm
    go_enter Tryd.func15, Tryd.ntmps15
    go_wp2_with fail
    refine HW.out.mono ?_
    rintro e w1 ⟨rfl, h1⟩
    have C := Lib.hid h1
    clear h1
    go_wp2_with fail
    go_end0
    exact ⟨rfl, C.out.ofAlloc⟩
  have b1 : (k == 1) = false := by simpa using k1
  by_cases k2 : k = 2
  · subst k2
    have lx : w.heap.size < (w.alloc (.cells #[.int .i64 2, .int .i64 a, .string s] 28 (0, 0))).heap.size := at_lt hbox
    obtain ⟨x0, x1, x2⟩ := box3 hbox
    have hs4 := shw_len s.data.toList
    have hsl : s.data.toList.length = s.size := rfl
    have HT := Lib.hid (note_txt s.data.toList)
    have hnl := note_len s.data.toList
    have HW : Hid (∀ W : World, Below (w.alloc (.cells #[.int .i64 2, .int .i64 a, .string s] 28 (0, 0))).heap.size (w.alloc (.cells #[.int .i64 2, .int .i64 a, .string s] 28 (0, 0))) W → Calls Tryd.prog 22 #[.pointer (some ⟨M, 0, none⟩), .pointer (some ⟨b, 0, none⟩), .int .i64 a, .string ⟨(noteB s.data.toList).toArray⟩] W (EndPost B b M acc (itT o ⟨2, a, s⟩) (itO o ⟨2, a, s⟩) w)) := Lib.hid fun W hb =>
      have hb2 : Below w.heap.size w W := hb1.trans (hb.mono hb1.size)
      (writeLine_calls B b M acc o a (noteB s.data.toList) W (hM.below hb2) (hd.below hb2) (hm.below hb2) h0 (Nat.le_trans hB hb2.size) (by omega)).mono fun e w' h => ⟨h.1, by rw [itT_2 rfl, itO_2 rfl]; exact WrPost.ofBelow hb2 h.2⟩
    clear hb1 hM hd hm
    go_enter Tryd.func15, Tryd.ntmps15
    go_wp2_with fail
    generalize w.alloc (.cells #[.int .i64 2, .int .i64 a, .string s] 28 (0, 0)) = W at *
    generalize w.heap.size = bx at *
    go_region_with (first
      | (go_at_call 23; refine (show_calls s hx _).mono ?_; rintro e w5 ⟨rfl, hb5⟩; have y1 := (hb5.cell (p := ⟨bx, 1, none⟩) lx).trans x1; have y2 := (hb5.cell (p := ⟨bx, 2, none⟩) lx).trans x2)
      | (go_at_call 22; rw [HT.out]; refine (HW.out _ ⟨hb5.os, hb5.tape, hb5.output, hb5.size, hb5.block⟩).mono ?_; rintro e w6 ⟨rfl, h6⟩))
    all_goals
      go_wp2_with fail
      go_end0
      exact ⟨rfl, h6⟩
  have b2 : (k == 2) = false := by simpa using k2
  by_cases k3 : k = 3
  · subst k3
    have lx : w.heap.size < (w.alloc (.cells #[.int .i64 3, .int .i64 a, .string s] 28 (0, 0))).heap.size := at_lt hbox
    obtain ⟨x0, x1, x2⟩ := box3 hbox
    have hs4 := shw_len s.data.toList
    have hsl : s.data.toList.length = s.size := rfl
    have HT := Lib.hid (gap_txt s.data.toList)
    have hnl := gap_len s.data.toList
    have HW : Hid (∀ W : World, Below (w.alloc (.cells #[.int .i64 3, .int .i64 a, .string s] 28 (0, 0))).heap.size (w.alloc (.cells #[.int .i64 3, .int .i64 a, .string s] 28 (0, 0))) W → Calls Tryd.prog 22 #[.pointer (some ⟨M, 0, none⟩), .pointer (some ⟨b, 0, none⟩), .int .i64 a, .string ⟨(gapB s.data.toList).toArray⟩] W (EndPost B b M acc (itT o ⟨3, a, s⟩) (itO o ⟨3, a, s⟩) w)) := Lib.hid fun W hb =>
      have hb2 : Below w.heap.size w W := hb1.trans (hb.mono hb1.size)
      (writeLine_calls B b M acc o a (gapB s.data.toList) W (hM.below hb2) (hd.below hb2) (hm.below hb2) h0 (Nat.le_trans hB hb2.size) (by omega)).mono fun e w' h => ⟨h.1, by rw [itT_3 rfl, itO_3 rfl]; exact WrPost.ofBelow hb2 h.2⟩
    clear hb1 hM hd hm
    go_enter Tryd.func15, Tryd.ntmps15
    go_wp2_with fail
    generalize w.alloc (.cells #[.int .i64 3, .int .i64 a, .string s] 28 (0, 0)) = W at *
    generalize w.heap.size = bx at *
    go_region_with (first
      | (go_at_call 23; refine (show_calls s hx _).mono ?_; rintro e w5 ⟨rfl, hb5⟩; have y1 := (hb5.cell (p := ⟨bx, 1, none⟩) lx).trans x1; have y2 := (hb5.cell (p := ⟨bx, 2, none⟩) lx).trans x2)
      | (go_at_call 22; rw [HT.out]; refine (HW.out _ ⟨hb5.os, hb5.tape, hb5.output, hb5.size, hb5.block⟩).mono ?_; rintro e w6 ⟨rfl, h6⟩))
    all_goals
      go_wp2_with fail
      go_end0
      exact ⟨rfl, h6⟩
  have b3 : (k == 3) = false := by simpa using k3
  have HE := Lib.hid (show WrPost B b M acc (itT o ⟨k, a, s⟩) (itO o ⟨k, a, s⟩) w (w.alloc (.cells #[.int .i64 k, .int .i64 a, .string s] 28 (0, 0))) by rw [itT_0 k1 k2 k3, itO_0 k1 k2 k3]; exact H1.out.below hb1)
  clear hb1 hM hd hm
  go_enter Tryd.func15, Tryd.ntmps15
  go_wp2_with fail
  go_end0
  exact ⟨rfl, HE.out⟩
end Go.Proofs.YtbjlnaobmgbpfaaDoor.Mark

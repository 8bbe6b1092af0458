/-
  Layer 9 (fault): an error made of layers, walked.
-/
import Derived.Test.YtpjjfcgebgejaaaDoorFltRefText
import Derived.Test.YtpjjfcgebgejaaaDoorFltSays
import Derived.StillTailTactics
namespace Go.Proofs.YtpjjfcgebgejaaaDoor.Flt
open Go.RowKit Go.Proofs.YtpjjfcgebgejaaaDoor.Own Go.Proofs.YtpjjfcgebgejaaaDoor.Digit

def lp (l : List Lay) : List (Int × List UInt8) := l.map fun x => (x.line, x.what)
def tp (T : List Trp) : List (Int × List UInt8) := T.map fun t => (t.line, t.what)
theorem lp_cons (x : Lay) (l : List Lay) : lp (x :: l) = (x.line, x.what) :: lp l := rfl
theorem tp_cons (x : Trp) (l : List Trp) : tp (x :: l) = (x.line, x.what) :: tp l := rfl
theorem lp_pieces {l m : List Lay} (h : lp l = lp m) : pieces l = pieces m := by
  have e : ∀ l : List Lay, pieces l = (lp l).flatMap fun x => [placeL x.1, x.2] := by
    intro l
    induction l with
    | nil => rfl
    | cons x r ih => rw [pieces_cons, ih]; rfl
  rw [e, e, h]
theorem lp_text {l m : List Lay} (h : lp l = lp m) (c : Int) : textL l c = textL m c := by rw [textL, lp_pieces h]; rfl
theorem lp_line {l m : List Lay} (h : lp l = lp m) : lineOf l = lineOf m := by
  induction l generalizing m with
  | nil => cases m with
    | nil => rfl
    | cons y s => cases h
  | cons x r ih => cases m with
    | nil => cases h
    | cons y s =>
      rw [lp_cons, lp_cons, List.cons.injEq, Prod.mk.injEq] at h
      rw [lineOf, lineOf, h.1.1, ih h.2]
theorem lp_len {l m : List Lay} (h : lp l = lp m) : l.length = m.length := by
  have := congrArg List.length h; simpa [lp] using this
theorem tp_len {l : List Lay} {T : List Trp} (h : lp l = tp T) : l.length = T.length := by
  have := congrArg List.length h; simpa [lp, tp] using this

def MadeAt (w wr : World) (T : List Trp) (c : Int) (m : Nat) (v : Value) : Prop :=
  Below w.heap.size w wr ∧ ((c = 0 ∧ v = .nilIface) ∨ (c ≠ 0 ∧ ∃ l, lp l = tp (T.drop m) ∧ Err wr wr.heap.size v l c))
def MadePost (w : World) (T : List Trp) (c : Int) (e : Ending) (w' : World) : Prop := ∃ v, e = .returned v ∧ MadeAt w w' T c 0 v
theorem tp_drop {T : List Trp} {j : Nat} (h : j < T.length) : tp (T.drop j) = (T[j].line, T[j].what) :: tp (T.drop (j + 1)) := by
  rw [List.drop_eq_getElem_cons h, tp_cons]

theorem new_any (T : List Trp) (c n : Int) (s : List UInt8) (k : Nat) (w : World) (hd : tp (T.drop k) = (n, s) :: tp []) :
    Calls Tryd.prog 16 #[.int .i64 c, .int .i64 n, .string ⟨s.toArray⟩] w.drew fun e w' => ∃ v, e = .returned v ∧ MadeAt w w' T c k v := by
  by_cases hc : c = 0
  · subst hc
    refine (new_nil _ _ _).mono ?_
    rintro e w' ⟨rfl, rfl⟩
    exact ⟨_, rfl, (Below.refl _ _).drew, .inl ⟨rfl, rfl⟩⟩
  · refine (new_some c n ⟨s.toArray⟩ hc _).mono ?_
    rintro e w' ⟨rfl, rfl⟩
    refine ⟨_, rfl, (Below.refl _ _).drew.alloc (Nat.le_refl _) _, .inr ⟨hc, [⟨w.heap.size, n, s⟩], ?_, ?_⟩⟩
    · rw [hd]; rfl
    · have := Err.wrap (w := w.drew) (N := 0) (l := []) (c := c) rfl (Nat.zero_le _) n ⟨s.toArray⟩
      exact this.more (by simp)
theorem wrap_any (T : List Trp) (c n : Int) (s : List UInt8) (j : Nat) (w wr : World) (v : Value) (h : MadeAt w wr T c (j + 1) v) (hd : tp (T.drop j) = (n, s) :: tp (T.drop (j + 1))) :
    Calls Tryd.prog 17 #[v, .int .i64 n, .string ⟨s.toArray⟩] wr.drew fun e w' => ∃ v', e = .returned v' ∧ MadeAt w w' T c j v' := by
  obtain ⟨hb, ⟨hc, rfl⟩ | ⟨hc, l, hl, he⟩⟩ := h
  · refine (wrap_nil _ _ _).mono ?_
    rintro e w' ⟨rfl, rfl⟩
    exact ⟨_, rfl, hb.drew, .inl ⟨hc, rfl⟩⟩
  · obtain ⟨ut, uv, rfl⟩ := err_nil he
    refine (wrap_some ut uv n ⟨s.toArray⟩ _).mono ?_
    rintro e w' ⟨rfl, rfl⟩
    refine ⟨_, rfl, hb.drew.alloc hb.size _, .inr ⟨hc, ⟨wr.heap.size, n, s⟩ :: l, ?_, ?_⟩⟩
    · rw [hd, lp_cons, hl]
    · have := Err.wrap (w := wr.drew) (he.same (w' := wr.drew) fun k o _ h => h) (Nat.le_refl _) n ⟨s.toArray⟩
      exact this.more (by simp)

set_option maxRecDepth 100000 in
set_option maxHeartbeats 2000000 in
theorem made_calls (T : List Trp) (p : Option Addr) (c : Nat) (w : World) (h : LAt w T p c) (hn : T.length ≤ 1000) (n : Nat) (hn1 : T.length = n + 1) (cc : Int) (hcc : (T[n]'(by omega)).code = cc) :
    Calls Tryd.prog 7 #[.slice p T.length c] w (MadePost w T cc) := by
  have hcap := h.cap
  have hmax := h.max
  unfold maxLen at hmax
  have HI := Lib.hid h
  rcases h.cells with h0 | ⟨b, o, rfl, hbl, hc⟩
  · rw [h0] at hn1; simp at hn1
  · obtain ⟨c0, c1, c2⟩ := hc n (by omega)
    have HC := Lib.hid hc
    have htd := tp_drop (T := T) (j := n) (by omega)
    rw [List.drop_of_length_le (i := n + 1) (by omega)] at htd
    obtain ⟨y, hy⟩ : ∃ y, T[n]'(by omega) = y := ⟨_, rfl⟩
    rw [hy] at c0 c1 c2 htd hcc
    obtain ⟨yc, yl, yw⟩ := y
    simp only at c0 c1 c2 htd hcc
    subst hcc
    have HD := Lib.hid htd
    clear hc htd hy h
    have q0 : IntKind.i64.wrap ((T.length : Int) - 1) = n := by
      rw [show ((T.length : Int) - 1) = (n : Int) by omega]; exact IntWalk.i64_in _ (by omega)
    have q1 : (n : Int) < (T.length : Int) := by omega
    have q3 : n < T.length := by omega
    have HN := Lib.hid hn1
    clear hn1
    go_enter Tryd.func7, Tryd.ntmps7
    go_wp2_with fail
    go_still_tail 15, (by kernel_rfl)
    change wpList _ _ _ _ _ w.drew
    have hnew := new_any T yc yl yw n w HD.out
    clear c0 c1 c2 q0
    generalize w.drew = w2 at hnew ⊢
    go_wp2_with (go_at_call 16; refine hnew.mono ?_; rintro e w5 ⟨v, rfl, hm⟩; replace hm := Lib.hid hm; clear hnew)
    go_loopw [4, 5] (fun v i wr => ∃ m : Nat, m ≤ n ∧ i = .int .i64 ((m : Int) - 1) ∧ MadeAt w wr T yc m v) (fun _ i _ => (intOf i + 1).toNat)
    case atStart => exact ⟨n, Nat.le_refl _, by first | rfl | (congr 1; exact IntWalk.i64_in _ (by omega)), hm.out⟩
    case round =>
      obtain ⟨m, hm, rfl, C⟩ := hrel
      cases m with
      | zero =>
        have HC := Lib.hid C
        clear C
        go_wp2_with fail
        go_ret
        exact ⟨_, rfl, HC.out⟩
      | succ j =>
        rw [show (((j + 1 : Nat) : Int) - 1) = (j : Int) by omega]
        have hjT : j < T.length := by omega
        obtain ⟨d0, d1, d2⟩ := HC.out j hjT
        rw [← C.1.cell (p := ⟨b, _, none⟩) hbl] at d0 d1 d2
        have hsz := C.1.size
        have hbw : b < wr.heap.size := by omega
        have q4 : (j : Int) < (T.length : Int) := by omega
        have htd := tp_drop hjT
        obtain ⟨y, hy⟩ : ∃ y, T[j] = y := ⟨_, rfl⟩
        rw [hy] at d0 d1 d2 htd
        obtain ⟨xc, xl, xw⟩ := y
        simp only at d0 d1 d2 htd
        have hwrap := wrap_any T yc xl xw j w wr _ C htd
        have HW := Lib.hid hwrap
        clear hwrap htd hy C
        go_wp2_with fail
        go_still_tail 11, (by kernel_rfl)
        change wpList _ _ _ _ _ wr.drew
        have hw2 := HW.out
        clear d0 d1 d2 HW
        generalize wr.drew = w6 at hw2 ⊢
        go_wp2_with (go_at_call 17; refine hw2.mono ?_; rintro e w7 ⟨v, rfl, hm⟩; replace hm := Lib.hid hm; clear hw2)
        go_roundw
        case rel => exact ⟨j, by omega, by go_num, hm.out⟩
        case measure => simp [intOf]
end Go.Proofs.YtpjjfcgebgejaaaDoor.Flt

/-
  Layer 20 (mark): All, Data, walked.
-/
import Derived.Test.YtbjlnaobmgbpfaaDoorMrkAdd
namespace Go.Proofs.YtbjlnaobmgbpfaaDoor.Mark
open Go.RowKit Go.Proofs.YtbjlnaobmgbpfaaDoor.Own Go.Proofs.YtbjlnaobmgbpfaaDoor.Rw Go.Proofs.YtbjlnaobmgbpfaaDoor.Rec Go.Proofs.YtbjlnaobmgbpfaaDoor.Bld Go.Proofs.YtbjlnaobmgbpfaaDoor.Digit Go.Proofs.YtbjlnaobmgbpfaaDoor.Clock

theorem WrPost.outer {B b M : Nat} {acc t : List UInt8} {o : Bool} {w w0 w1 : World} (h : WrPost B b M acc t o w0 w1) (hb : Below B w w0) (hB : B ≤ w.heap.size) (hM : B ≤ M) : Below B w w1 :=
  hb.trans (h.out.below (Nat.le_trans hB hb.size) fun i hi => by rcases hi with rfl | hi <;> assumption)
theorem Its.at_ {w : World} {xs : List Itm} {p : Option Addr} {c : Nat} (h : Its w xs p c) {k : Nat} (hk : k < xs.length) : ∃ b o, p = some ⟨b, o, none⟩ ∧ b < w.heap.size ∧ w.cell? ⟨b, o + k * 3, none⟩ = some (.int .i64 xs[k].k) ∧ w.cell? ⟨b, o + k * 3 + 1, none⟩ = some (.int .i64 xs[k].a) ∧ w.cell? ⟨b, o + k * 3 + 2, none⟩ = some (.string xs[k].b) := by
  rcases h.cells with h0 | ⟨b, o, e, hb, hc⟩
  · rw [h0] at hk; simp at hk
  · obtain ⟨c0, c1, c2⟩ := hc k hk
    exact ⟨b, o, e, hb, c0, c1, c2⟩
def TextPost (t : List UInt8) (w : World) (e : Ending) (w' : World) : Prop := e = .returned (.string ⟨t.toArray⟩) ∧ Below w.heap.size w w'

set_option maxRecDepth 100000 in
set_option maxHeartbeats 4000000 in
theorem all_calls (xs : List Itm) (p : Option Addr) (c n : Nat) (hn : xs.length = n) (w : World) (h : Its w xs p c) (hM : Months w) (hx : ∀ x ∈ xs, x.b.size ≤ 100000) (ht : Mark.tot xs ≤ 1000000000000) :
    Calls Tryd.prog 10 #[.slice p n c] w (TextPost (txt false xs) w) := by
  have hcap := h.cap
  have hmax := h.max
  unfold maxLen at hmax
  rw [hn] at hcap
  have q2 : (n : Int) ≤ 9223372036854775807 := by omega
  have HI := Lib.hid h
  have HN := Lib.hid hn
  have HX := Lib.hid hx
  have HT := Lib.hid ht
  have hb1 : Below w.heap.size w (w.alloc (.cells #[.pointer none, .slice none 0 0] 39 (0, 0))) := (Below.refl _ _).alloc (Nat.le_refl _) _
  have hb2 : Below w.heap.size w ((w.alloc (.cells #[.pointer none, .slice none 0 0] 39 (0, 0))).alloc (.cells #[.bool false] 25 (0, 0))) := hb1.alloc hb1.size _
  have hd : Bd w.heap.size w.heap.size [] ((w.alloc (.cells #[.pointer none, .slice none 0 0] 39 (0, 0))).alloc (.cells #[.bool false] 25 (0, 0))) := (fresh w).below ((Below.refl _ _).alloc (Nat.le_refl _) _)
  have hm : Mk (w.heap.size + 1) false ((w.alloc (.cells #[.pointer none, .slice none 0 0] 39 (0, 0))).alloc (.cells #[.bool false] 25 (0, 0))) := at_newk _ _ (by simp)
  have C0 := Lib.hid (WrPost.start hd hm (hM.below hb2) (months_size hM) hb2.size)
  have HB2 := Lib.hid hb2
  clear h hn hx ht hM hb1 hb2 hd hm
  go_enter Tryd.func10, Tryd.ntmps10
  go_wp2_with fail
  go_loopw [9] (fun i wr => ∃ k : Nat, k ≤ n ∧ i = .int .i64 k ∧ WrPost w.heap.size w.heap.size (w.heap.size + 1) [] (txt false (xs.take k)) (fin false (xs.take k)) ((w.alloc (.cells #[.pointer none, .slice none 0 0] 39 (0, 0))).alloc (.cells #[.bool false] 25 (0, 0))) wr) (fun i _ => n - (intOf i).toNat)
  case atStart => exact ⟨0, Nat.zero_le _, rfl, C0.out⟩
  case round =>
    obtain ⟨k, hkn, rfl, hC⟩ := hrel
    have C := Lib.hid hC
    have hBw := hC.outer HB2.out (Nat.le_refl _) (by omega)
    have hsz := hBw.size
    clear hC C0
    rcases Nat.lt_or_eq_of_le hkn with hlt | rfl
    · have q1 : (k : Int) < (n : Int) := by omega
      have hk : k < xs.length := by rw [HN.out]; exact hlt
      obtain ⟨b, o, rfl, hb, c0, c1, c2⟩ := Its.at_ HI.out hk
      rw [← hBw.cell (p := ⟨b, _, none⟩) hb] at c0 c1 c2
      have hbw : b < wr.heap.size := Nat.lt_of_lt_of_le hb hsz
      have HX1 := HX.out xs[k] (List.getElem_mem hk)
      have HL : ([] ++ txt false (xs.take k)).length ≤ 1000000000000 := Nat.le_trans (txt_take_le _ _ _) HT.out
      have NT := Lib.hid (txt_next false hk)
      have NF := Lib.hid (fin_next false hk)
      generalize xs[k] = x at *
      obtain ⟨xk, xa, xb⟩ := x
      simp only at c0 c1 c2 HX1
      have hb3 : Below wr.heap.size wr (wr.alloc (.cells #[.int .i64 xk, .int .i64 xa, .string xb] 28 (0, 0))) := (Below.refl _ _).alloc (Nat.le_refl _) _
      have C1 := C.out.below hb3
      have HW := Lib.hid (write_calls _ _ _ _ _ ⟨xk, xa, xb⟩ _ C1.mon C1.bd C1.mkr C1.pos C1.low HX1 HL)
      have HC1 := Lib.hid C1
      clear C1 hb3 HX1 HL hBw
      go_wp2_with fail
      refine HW.out.mono ?_
      rintro e w1 ⟨rfl, h1⟩
      have C2 := HC1.out.trans h1
      rw [← NT.out, ← NF.out] at C2
      have HC2 := Lib.hid C2
      clear C2 h1 c0 c1 c2
      go_wp2_with fail
      go_roundw
      case rel => exact ⟨k + 1, by omega, by go_num, HC2.out⟩
      case measure => simp [intOf]; omega
    · have H1 := C.out
      rw [List.take_of_length_le (Nat.le_of_eq HN.out)] at H1
      have HC1 := Lib.hid H1
      clear H1
      go_wp2_with fail
      refine (text_calls _ _ _ _ HC1.out.bd HC1.out.low).mono ?_
      rintro e w2 ⟨rfl, h2⟩
      have B2 := Lib.hid h2
      clear h2
      go_wp2_with fail
      go_ret
      exact ⟨rfl, hBw.trans B2.out⟩

structure DAt (w : World) (t : List UInt8) (wr : World) : Prop where
  bd : Bd w.heap.size w.heap.size t wr
  below : Below w.heap.size w wr
theorem DAt.alloc {w wr : World} {t : List UInt8} (h : DAt w t wr) (x : Obj) : DAt w t (wr.alloc x) := ⟨h.bd.below ((Below.refl _ _).alloc (Nat.le_refl _) _), h.below.alloc h.below.size _⟩

set_option maxRecDepth 100000 in
set_option maxHeartbeats 4000000 in
theorem data_calls (xs : List Itm) (p : Option Addr) (c n : Nat) (hn : xs.length = n) (w : World) (h : Its w xs p c) (ht : Mark.tot xs ≤ 1000000000000) :
    Calls Tryd.prog 11 #[.slice p n c] w (TextPost (dta xs) w) := by
  have hcap := h.cap
  have hmax := h.max
  unfold maxLen at hmax
  rw [hn] at hcap
  have q2 : (n : Int) ≤ 9223372036854775807 := by omega
  have HI := Lib.hid h
  have HN := Lib.hid hn
  have HT := Lib.hid ht
  have C0 := Lib.hid (show DAt w [] (w.alloc (.cells #[.pointer none, .slice none 0 0] 39 (0, 0))) from ⟨fresh w, (Below.refl _ _).alloc (Nat.le_refl _) _⟩)
  clear h hn ht
  go_enter Tryd.func11, Tryd.ntmps11
  go_wp2_with fail
  go_loopw [8] (fun i wr => ∃ k : Nat, k ≤ n ∧ i = .int .i64 k ∧ DAt w (dta (xs.take k)) wr) (fun i _ => n - (intOf i).toNat)
  case atStart => exact ⟨0, Nat.zero_le _, rfl, C0.out⟩
  case round =>
    obtain ⟨k, hkn, rfl, hC⟩ := hrel
    have C := Lib.hid hC
    have hBw := hC.below
    have hsz := hBw.size
    clear hC C0
    rcases Nat.lt_or_eq_of_le hkn with hlt | rfl
    · have q1 : (k : Int) < (n : Int) := by omega
      have hk : k < xs.length := by rw [HN.out]; exact hlt
      obtain ⟨b, o, rfl, hb, c0, c1, c2⟩ := Its.at_ HI.out hk
      rw [← hBw.cell (p := ⟨b, _, none⟩) hb] at c0 c1 c2
      have hbw : b < wr.heap.size := Nat.lt_of_lt_of_le hb hsz
      have HL : (dta (xs.take (k + 1))).length ≤ 1000000000000 := Nat.le_trans (dta_take_le _ _) HT.out
      have N1 := Lib.hid (fun e => dta_1 hk e)
      have N0 := Lib.hid (fun e => dta_0 hk e)
      have HLL := Lib.hid HL
      clear HL
      generalize xs[k] = x at *
      obtain ⟨xk, xa, xb⟩ := x
      simp only at c0 c1 c2 N1 N0
      by_cases k1 : xk = 1
      · subst k1
        have e1 := N1.out rfl
        have HL := HLL.out
        rw [e1, List.length_append] at HL
        have HE := Lib.hid e1
        have C1 := Lib.hid (C.out.alloc (.cells #[.int .i64 1, .int .i64 xa, .string xb] 28 (0, 0)))
        have hbs : xb.data.toList.length = xb.size := rfl
        clear e1 N1 N0 hBw
        go_wp2_with fail
        refine (wstr_calls _ _ _ xb _ C1.out.bd (by omega) C1.out.below.size).mono ?_
        rintro e w1 ⟨rfl, h1, h2, -⟩
        have C2 := Lib.hid (show DAt w (dta (xs.take (k + 1))) w1 by rw [HE.out]; exact ⟨h1, C1.out.below.trans h2⟩)
        clear h1 h2 c0 c1 c2
        go_wp2_with fail
        go_roundw
        case rel => exact ⟨k + 1, by omega, by go_num, C2.out⟩
        case measure => simp [intOf]; omega
      · have b1 : (xk == 1) = false := by simpa using k1
        have C2 := Lib.hid (show DAt w (dta (xs.take (k + 1))) (wr.alloc (.cells #[.int .i64 xk, .int .i64 xa, .string xb] 28 (0, 0))) by rw [N0.out k1]; exact C.out.alloc _)
        clear k1 N1 N0 hBw
        go_wp2_with fail
        go_roundw
        case rel => exact ⟨k + 1, by omega, by go_num, C2.out⟩
        case measure => simp [intOf]; omega
    · have H1 := C.out
      rw [List.take_of_length_le (Nat.le_of_eq HN.out)] at H1
      have HC1 := Lib.hid H1
      clear H1
      go_wp2_with fail
      refine (text_calls _ _ _ _ HC1.out.bd hsz).mono ?_
      rintro e w2 ⟨rfl, h2⟩
      have B2 := Lib.hid h2
      clear h2
      go_wp2_with fail
      go_ret
      exact ⟨rfl, hBw.trans B2.out⟩
end Go.Proofs.YtbjlnaobmgbpfaaDoor.Mark

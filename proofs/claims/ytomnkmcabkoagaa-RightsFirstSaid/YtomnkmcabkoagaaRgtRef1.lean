/-
  Layer 16 (rights): the document's own Level, Sees, Enter, begins, Same.
-/
import Derived.Test.YtomnkmcabkoagaaRgtPick
namespace Go.Proofs.Ytomnkmcabkoagaa.Rgt
open Go.RowKit Go.Proofs.Ytomnkmcabkoagaa.Own Go.Proofs.Ytomnkmcabkoagaa.Rw Go.Proofs.Ytomnkmcabkoagaa.Tree Go.Proofs.Ytomnkmcabkoagaa.Conf

theorem At3.below {w w' : World} {b o : Nat} {x : Ac} (h : At3 w b o x) (hb : Below w.heap.size w w') (hl : b < w.heap.size) : At3 w' b o x := by
  have k : ∀ j, w'.cell? ⟨b, j, none⟩ = w.cell? ⟨b, j, none⟩ := fun j => hb.cell (p := ⟨b, j, none⟩) hl
  unfold At3
  simp only [k]
  exact h
def Sml (l : List Ac) : Prop := ∀ a ∈ l, a.1.length ≤ 65536 ∧ a.2.1.length ≤ 65536
set_option maxRecDepth 100000 in
set_option maxHeartbeats 4000000 in
theorem rLevel_calls (l : List Ac) (hl : Sml l) (u c : Bs) (hu : u.length ≤ 65536) (hc : c.length ≤ 65536) (p : Option Addr) (k n : Nat) (v0 v1 v2 : Value) (b0 b1 b2 b3 b4 b5 b6 b7 b8 b9 : Bs) (hn : n = l.length) (w : World) (h : Rd w 3 p k n (l.flatMap acv)) :
    Calls Try.prog 8 #[confV v0 v1 v2 (.slice p n k) b0 b1 b2 b3 b4 b5 b6 b7 b8 b9, .string ⟨u.toArray⟩, .string ⟨c.toArray⟩] w fun e w' => e = .returned (.int .i64 (lvlM l u c)) ∧ Below w.heap.size w w' := by
  have HX := Lib.hid (at_new w (.cells #[v0, v1, v2, .slice p n k, .string ⟨b0.toArray⟩, .string ⟨b1.toArray⟩, .string ⟨b2.toArray⟩, .string ⟨b3.toArray⟩, .string ⟨b4.toArray⟩, .string ⟨b5.toArray⟩, .string ⟨b6.toArray⟩, .string ⟨b7.toArray⟩, .string ⟨b8.toArray⟩, .string ⟨b9.toArray⟩] 28))
  have HB0 := Lib.hid ((Below.refl w.heap.size w).alloc (Nat.le_refl _) (.cells #[v0, v1, v2, .slice p n k, .string ⟨b0.toArray⟩, .string ⟨b1.toArray⟩, .string ⟨b2.toArray⟩, .string ⟨b3.toArray⟩, .string ⟨b4.toArray⟩, .string ⟨b5.toArray⟩, .string ⟨b6.toArray⟩, .string ⟨b7.toArray⟩, .string ⟨b8.toArray⟩, .string ⟨b9.toArray⟩] 28))
  have HSW := Lib.hid (show (w.alloc (.cells #[v0, v1, v2, .slice p n k, .string ⟨b0.toArray⟩, .string ⟨b1.toArray⟩, .string ⟨b2.toArray⟩, .string ⟨b3.toArray⟩, .string ⟨b4.toArray⟩, .string ⟨b5.toArray⟩, .string ⟨b6.toArray⟩, .string ⟨b7.toArray⟩, .string ⟨b8.toArray⟩, .string ⟨b9.toArray⟩] 28)).heap.size = w.heap.size + 1 by simp)
  have HR := Lib.hid h
  have HN := Lib.hid hn
  have HL := Lib.hid hl
  have hcap := h.cap
  have hmax := h.max
  unfold maxLen at hmax
  clear h hn hl
  unfold confV
  go_enter Try.func8, Try.ntmps8
  go_wp2_with fail
  generalize (w.alloc (.cells #[v0, v1, v2, .slice p n k, .string ⟨b0.toArray⟩, .string ⟨b1.toArray⟩, .string ⟨b2.toArray⟩, .string ⟨b3.toArray⟩, .string ⟨b4.toArray⟩, .string ⟨b5.toArray⟩, .string ⟨b6.toArray⟩, .string ⟨b7.toArray⟩, .string ⟨b8.toArray⟩, .string ⟨b9.toArray⟩] 28)) = W at *
  go_loopw [7] (fun i wr => ∃ kk : Nat, kk ≤ n ∧ i = .int .i64 kk ∧ Below W.heap.size W wr ∧ (l.take kk).find? (fitA u c) = none) (fun i _ => n - (Conf.intOf i).toNat)
  case atStart => exact ⟨0, by omega, rfl, Below.refl _ _, rfl⟩
  case round =>
    obtain ⟨kk, hk, rfl, hb, hno⟩ := hrel
    rename World => wr
    have HB := Lib.hid (HB0.out.trans (hb.mono HB0.out.size))
    have HNO := Lib.hid hno
    have HX2 := Lib.hid ((hb.block _ (at_lt HX.out)).trans HX.out)
    have HBW := Lib.hid hb
    have hsz := hb.size
    have e0 := (at_cell HX2.out 3 : _ = some (Value.slice p n k))
    clear hb hno
    rcases Nat.lt_or_eq_of_le hk with hlt | rfl
    · have hl1 : kk < l.length := by rw [← HN.out]; exact hlt
      obtain ⟨g, o, rfl, hg, hkn, hat⟩ := acc_at (HR.out.below HB.out) hl1
      obtain ⟨a0, a1, a2⟩ := hat
      have hsm := HL.out _ (List.getElem_mem hl1)
      have HAT := Lib.hid fun (h : fitA u c l[kk] = true) => lvlM_at hl1 h HNO.out
      have HNX := Lib.hid fun (h : fitA u c l[kk] = false) => lvlM_next hl1 h HNO.out
      clear HNO
      generalize l[kk] = x at *
      have HAA := Lib.hid (show At3 wr g (o + kk * 3) x from ⟨a0, a1, a2⟩)
      have HM1 := Lib.hid (rfit_calls x.1 c hsm.1 hc)
      have HM2 := Lib.hid (rfit_calls x.2.1 u hsm.2 hu)
      have HD := Lib.hid (show fitA u c x = (fit x.1 c && fit x.2.1 u) from rfl)
      have q1 : (kk : Int) < (n : Int) := by omega
      clear hsm hl1 a1 a2
      cases h1 : fit x.1 c with
      | false =>
        have HF := Lib.hid (HNX.out (by rw [HD.out, h1]; rfl))
        rw [h1] at HM1
        clear HAT HNX h1
        go_wp2_with fail
        refine (HM1.out _).mono ?_
        rintro e w5 ⟨rfl, hb5⟩
        have HB5 := Lib.hid (HBW.out.trans (hb5.mono hsz))
        clear hb5
        go_wp2_with fail
        go_roundw
        case rel => exact ⟨kk + 1, by omega, by go_num, HB5.out, HF.out⟩
        case measure => simp [Conf.intOf]; omega
      | true =>
        rw [h1] at HM1
        cases h2 : fit x.2.1 u with
        | false =>
          have HF := Lib.hid (HNX.out (by rw [HD.out, h1, h2]; rfl))
          rw [h2] at HM2
          clear HAT HNX h1 h2
          go_wp2_with fail
          refine (HM1.out _).mono ?_
          rintro e w5 ⟨rfl, hb5⟩
          have e1 := (at_cell ((hb5.block _ (at_lt HX2.out)).trans HX2.out) 3 : _ = some (Value.slice (some ⟨g, o, none⟩) n k))
          have a1 := (HAA.out.below hb5 hg).2.1
          have HB5 := Lib.hid (HBW.out.trans (hb5.mono hsz))
          clear hb5 a0
          go_wp2_with fail
          refine (HM2.out _).mono ?_
          rintro e w6 ⟨rfl, hb6⟩
          have HB6 := Lib.hid (HB5.out.trans (hb6.mono HB5.out.size))
          clear hb6 e1 a1
          go_wp2_with fail
          go_roundw
          case rel => exact ⟨kk + 1, by omega, by go_num, HB6.out, HF.out⟩
          case measure => simp [Conf.intOf]; omega
        | true =>
          have HF := Lib.hid (HAT.out (by rw [HD.out, h1, h2]; rfl))
          rw [h2] at HM2
          clear HAT HNX h1 h2
          go_wp2_with fail
          refine (HM1.out _).mono ?_
          rintro e w5 ⟨rfl, hb5⟩
          have N5 := Lib.hid ((hb5.block _ (at_lt HX2.out)).trans HX2.out)
          have e1 := (at_cell N5.out 3 : _ = some (Value.slice (some ⟨g, o, none⟩) n k))
          have A5 := Lib.hid (HAA.out.below hb5 hg)
          have a1 := A5.out.2.1
          have g5 := Nat.lt_of_lt_of_le hg hb5.size
          have HB5 := Lib.hid (HBW.out.trans (hb5.mono hsz))
          clear hb5 a0
          go_wp2_with fail
          refine (HM2.out _).mono ?_
          rintro e w6 ⟨rfl, hb6⟩
          have e2 := (at_cell ((hb6.block _ (at_lt N5.out)).trans N5.out) 3 : _ = some (Value.slice (some ⟨g, o, none⟩) n k))
          have a2 := (A5.out.below hb6 g5).2.2
          have HB6 := Lib.hid (HB0.out.trans ((HB5.out.trans (hb6.mono HB5.out.size)).mono HB0.out.size))
          clear hb6 e1 a1
          go_wp2_with fail
          go_ret
          exact ⟨by rw [HF.out]; rfl, HB6.out⟩
    · have HF := Lib.hid (lvlM_none HN.out HNO.out)
      go_wp2_with fail
      go_ret
      exact ⟨by rw [HF.out]; rfl, HB.out⟩

set_option maxRecDepth 100000 in
set_option maxHeartbeats 4000000 in
theorem rEnter_calls (c : Cf) (u ps : Bs) (p2 : Option Addr) (k2 n2 : Nat) (v0 v1 v3 : Value) (b0 b1 b2 b3 b4 b5 b6 b7 b8 b9 : Bs) (hn : n2 = c.usrs.length) (w : World) (h : Rd w 2 p2 k2 n2 (c.usrs.flatMap urv)) :
    Calls Try.prog 15 #[confV v0 v1 (.slice p2 n2 k2) v3 b0 b1 b2 b3 b4 b5 b6 b7 b8 b9, .string ⟨u.toArray⟩, .string ⟨ps.toArray⟩] w fun e w' => e = .returned (.int .i64 (entM c u ps)) ∧ Below w.heap.size w w' := by
  have HX := Lib.hid (at_new w (.cells #[v0, v1, .slice p2 n2 k2, v3, .string ⟨b0.toArray⟩, .string ⟨b1.toArray⟩, .string ⟨b2.toArray⟩, .string ⟨b3.toArray⟩, .string ⟨b4.toArray⟩, .string ⟨b5.toArray⟩, .string ⟨b6.toArray⟩, .string ⟨b7.toArray⟩, .string ⟨b8.toArray⟩, .string ⟨b9.toArray⟩] 28))
  have HB0 := Lib.hid ((Below.refl w.heap.size w).alloc (Nat.le_refl _) (.cells #[v0, v1, .slice p2 n2 k2, v3, .string ⟨b0.toArray⟩, .string ⟨b1.toArray⟩, .string ⟨b2.toArray⟩, .string ⟨b3.toArray⟩, .string ⟨b4.toArray⟩, .string ⟨b5.toArray⟩, .string ⟨b6.toArray⟩, .string ⟨b7.toArray⟩, .string ⟨b8.toArray⟩, .string ⟨b9.toArray⟩] 28))
  have HSW := Lib.hid (show (w.alloc (.cells #[v0, v1, .slice p2 n2 k2, v3, .string ⟨b0.toArray⟩, .string ⟨b1.toArray⟩, .string ⟨b2.toArray⟩, .string ⟨b3.toArray⟩, .string ⟨b4.toArray⟩, .string ⟨b5.toArray⟩, .string ⟨b6.toArray⟩, .string ⟨b7.toArray⟩, .string ⟨b8.toArray⟩, .string ⟨b9.toArray⟩] 28)).heap.size = w.heap.size + 1 by simp)
  have HR := Lib.hid h
  have HN := Lib.hid hn
  have hcap := h.cap
  have hmax := h.max
  unfold maxLen at hmax
  clear h hn
  unfold confV
  go_enter Try.func15, Try.ntmps15
  go_wp2_with fail
  generalize (w.alloc (.cells #[v0, v1, .slice p2 n2 k2, v3, .string ⟨b0.toArray⟩, .string ⟨b1.toArray⟩, .string ⟨b2.toArray⟩, .string ⟨b3.toArray⟩, .string ⟨b4.toArray⟩, .string ⟨b5.toArray⟩, .string ⟨b6.toArray⟩, .string ⟨b7.toArray⟩, .string ⟨b8.toArray⟩, .string ⟨b9.toArray⟩] 28)) = W at *
  have e0 := (at_cell HX.out 2 : _ = some (Value.slice p2 n2 k2))
  go_loop [7] (fun i => ∃ kk : Nat, kk ≤ n2 ∧ i = .int .i64 kk ∧ (c.usrs.take kk).find? (usrF u) = none) (fun i => n2 - (Conf.intOf i).toNat)
  case atStart => exact ⟨0, by omega, rfl, rfl⟩
  case round =>
    obtain ⟨kk, hk, rfl, hno⟩ := hrel
    have HNO := Lib.hid hno
    clear hno
    rcases Nat.lt_or_eq_of_le hk with hlt | rfl
    · have hl1 : kk < c.usrs.length := by rw [← HN.out]; exact hlt
      obtain ⟨g, o, rfl, hg, hkn, a0, a1⟩ := usr_at (HR.out.below HB0.out) hl1
      have q1 : (kk : Int) < (n2 : Int) := by omega
      have HY := Lib.hid fun (h : usrF u c.usrs[kk] = true) => (show c.usrs.find? (usrF u) = some c.usrs[kk] by
        conv => lhs; rw [← List.take_append_drop kk c.usrs]
        rw [List.find?_append, HNO.out, List.drop_eq_getElem_cons hl1, List.find?_cons_of_pos h]
        rfl)
      have HZ := Lib.hid fun (h : usrF u c.usrs[kk] = false) => (show (c.usrs.take (kk + 1)).find? (usrF u) = none by
        rw [List.take_succ_eq_append_getElem hl1, List.find?_append, HNO.out]
        simp [h])
      clear HNO
      generalize c.usrs[kk] = x at *
      cases hf : usrF u x with
      | false =>
        have HF := Lib.hid (HZ.out hf)
        have b1 : (x.1 == u) = false := hf
        clear HY HZ hf hl1
        go_wp2_with fail
        go_round
        case rel => exact ⟨kk + 1, by omega, by go_num, HF.out⟩
        case measure => simp [Conf.intOf]; omega
      | true =>
        have hfind := HY.out hf
        have b1 : (x.1 == u) = true := hf
        by_cases hp : x.2 = ps
        · have HF := Lib.hid (ent_ok hfind hp)
          have b2 : (x.2 == ps) = true := by simp [hp]
          clear HY HZ hf hl1 hfind hp
          go_wp2_with fail
          go_ret
          exact ⟨by rw [HF.out]; rfl, HB0.out⟩
        · have HF := Lib.hid (ent_bad hfind hp)
          have b2 : (x.2 == ps) = false := by simp [hp]
          clear HY HZ hf hl1 hfind hp
          go_wp2_with fail
          go_ret
          exact ⟨by rw [HF.out]; rfl, HB0.out⟩
    · have HF := Lib.hid (ent_none (p := ps) (by have := HNO.out; rwa [List.take_of_length_le (by have := HN.out; omega)] at this))
      go_wp2_with fail
      go_ret
      exact ⟨by rw [HF.out]; rfl, HB0.out⟩

def begB (q s : Bs) : Bool := decide (q ≠ []) && hpx q s
set_option maxRecDepth 100000 in
set_option maxHeartbeats 4000000 in
theorem rbegins_calls (s q : Bs) (w : World) : Calls Try.prog 40 #[.string ⟨s.toArray⟩, .string ⟨q.toArray⟩] w fun e w' => e = .returned (.bool (begB q s)) ∧ w = w' := by
  by_cases h0 : q = []
  · subst h0
    go_enter Try.func40, Try.ntmps40
    go_wp2_with fail
    go_ret
    exact ⟨rfl, rfl⟩
  have b0 : (q == []) = false := by simp [h0]
  by_cases h : q.length ≤ s.length
  · have H := Lib.hid (show begB q s = (((⟨s.toArray⟩ : ByteArray).extract 0 q.length).toList == q) by unfold begB hpx; rw [decide_eq_true h, ext_list]; simp [h0])
    have q1 : (q.length : Int) ≤ (s.length : Int) := by omega
    clear h0
    go_enter Try.func40, Try.ntmps40
    go_wp2_with fail
    go_ret
    exact ⟨by rw [H.out]; rfl, rfl⟩
  · have H := Lib.hid (show begB q s = false by unfold begB hpx; rw [decide_eq_false h]; simp)
    have q1 : ¬ (q.length : Int) ≤ (s.length : Int) := by omega
    clear h0
    go_enter Try.func40, Try.ntmps40
    go_wp2_with fail
    go_ret
    exact ⟨by rw [H.out]; rfl, rfl⟩
end Go.Proofs.Ytomnkmcabkoagaa.Rgt

/-
  Layer 16 (rights): levels: the accesses that fit a user, the level at a console.
-/
import Derived.Test.YtomnkmcabkoagaaRgtPlaces
import Derived.Test.YtomnkmcabkoagaaWordRefMatch
namespace Go.Proofs.Ytomnkmcabkoagaa.Rgt
open Go.RowKit Go.Proofs.Ytomnkmcabkoagaa.Own Go.Proofs.Ytomnkmcabkoagaa.Rw Go.Proofs.Ytomnkmcabkoagaa.Tree Go.Proofs.Ytomnkmcabkoagaa.Conf

theorem fit_calls (p s : Bs) (hs : s.length ≤ 65536) (w : World) : Calls Try.prog 35 #[.string ⟨p.toArray⟩, .string ⟨s.toArray⟩] w fun e w' => e = .returned (.bool (fit p s)) ∧ Below w.heap.size w w' :=
  Word.match_calls ⟨p.toArray⟩ ⟨s.toArray⟩ (by rw [show (⟨s.toArray⟩ : ByteArray).size = s.length from List.size_toArray ..]; omega) w
theorem rfit_calls (p s : Bs) (hp : p.length ≤ 65536) (hs : s.length ≤ 65536) (w : World) : Calls Try.prog 23 #[.string ⟨p.toArray⟩, .string ⟨s.toArray⟩] w fun e w' => e = .returned (.bool (fit p s)) ∧ Below w.heap.size w w' :=
  Word.rmatch_calls ⟨p.toArray⟩ ⟨s.toArray⟩ (by rw [show (⟨s.toArray⟩ : ByteArray).size = s.length from List.size_toArray ..]; omega) (by rw [show (⟨p.toArray⟩ : ByteArray).size = p.length from List.size_toArray ..]; omega) w

set_option maxRecDepth 100000 in
set_option maxHeartbeats 1000000 in
/-- the closure: does an access fit the user? -/
theorem own1_calls (a : Ac) (u : Bs) (hu : u.length ≤ 65536) (g : Nat) (w : World) (hg : g < w.heap.size) (hc : w.cell? ⟨g, 0, none⟩ = some (.string ⟨u.toArray⟩)) :
    Calls Try.prog 44 #[acV a, .pointer (some ⟨g, 0, none⟩)] w fun e w' => e = .returned (.bool (fit a.2.1 u)) ∧ Below w.heap.size w w' := by
  have HM := Lib.hid (fit_calls a.2.1 u hu)
  unfold acV
  generalize a.1 = a1 at *
  generalize a.2.1 = a2 at *
  generalize a.2.2 = a3 at *
  have HB := Lib.hid ((Below.refl w.heap.size w).alloc (Nat.le_refl _) (.cells #[.string ⟨a1.toArray⟩, .string ⟨a2.toArray⟩, .int .i64 a3] 50))
  go_enter Try.func44, Try.ntmps44
  go_wp2_with fail
  refine (HM.out _).mono ?_
  rintro e w5 ⟨rfl, hb5⟩
  go_wp2_with fail
  go_ret
  exact ⟨rfl, HB.out.trans (hb5.mono HB.out.size)⟩

def ownP (l : List Ac) (u : Bs) : List Nat := plc l fun a => fit a.2.1 u
/-- the question for a level, as a value -/
structure LvV (w : World) (p : Option Addr) (n k : Nat) (l : List Ac) (u : Bs) (q : Option Addr) (m d : Nat) : Prop where
  rd : Rd w 1 q d m (nsv (ownP l u))
  len : m = (ownP l u).length
theorem LvV.below {w w' : World} {p : Option Addr} {n k : Nat} {l : List Ac} {u : Bs} {q : Option Addr} {m d : Nat} (h : LvV w p n k l u q m d) (hb : Below w.heap.size w w') : LvV w' p n k l u q m d := ⟨h.rd.below hb, h.len⟩
def lvF (p : Option Addr) (n k : Nat) (q : Option Addr) (m d : Nat) : Value := .func (.func 45) #[.agg #[.slice p n k, .slice q m d]] #[]
def LvPost (p : Option Addr) (n k : Nat) (l : List Ac) (u : Bs) (w : World) (e : Ending) (w' : World) : Prop := ∃ q m d, e = .returned (lvF p n k q m d) ∧ LvV w' p n k l u q m d ∧ Below w.heap.size w w'

set_option maxRecDepth 100000 in
set_option maxHeartbeats 4000000 in
theorem levelOf_calls (l : List Ac) (u : Bs) (hu : u.length ≤ 65536) (p : Option Addr) (k n : Nat) (v0 v1 v2 : Value) (b0 b1 b2 b3 b4 b5 b6 b7 b8 b9 : Bs) (hn : n = l.length) (hm : n ≤ 65536) (w : World) (h : Rd w 3 p k n (l.flatMap acv)) :
    Calls Try.prog 24 #[confV v0 v1 v2 (.slice p n k) b0 b1 b2 b3 b4 b5 b6 b7 b8 b9, .string ⟨u.toArray⟩] w (LvPost p n k l u w) := by
  have HN := Lib.hid hn
  have hA := (Below.refl w.heap.size w).alloc (Nat.le_refl _) (.cells #[v0, v1, v2, .slice p n k, .string ⟨b0.toArray⟩, .string ⟨b1.toArray⟩, .string ⟨b2.toArray⟩, .string ⟨b3.toArray⟩, .string ⟨b4.toArray⟩, .string ⟨b5.toArray⟩, .string ⟨b6.toArray⟩, .string ⟨b7.toArray⟩, .string ⟨b8.toArray⟩, .string ⟨b9.toArray⟩] 28)
  have nA := at_new w (.cells #[v0, v1, v2, .slice p n k, .string ⟨b0.toArray⟩, .string ⟨b1.toArray⟩, .string ⟨b2.toArray⟩, .string ⟨b3.toArray⟩, .string ⟨b4.toArray⟩, .string ⟨b5.toArray⟩, .string ⟨b6.toArray⟩, .string ⟨b7.toArray⟩, .string ⟨b8.toArray⟩, .string ⟨b9.toArray⟩] 28)
  generalize hW : (w.alloc (.cells #[v0, v1, v2, .slice p n k, .string ⟨b0.toArray⟩, .string ⟨b1.toArray⟩, .string ⟨b2.toArray⟩, .string ⟨b3.toArray⟩, .string ⟨b4.toArray⟩, .string ⟨b5.toArray⟩, .string ⟨b6.toArray⟩, .string ⟨b7.toArray⟩, .string ⟨b8.toArray⟩, .string ⟨b9.toArray⟩] 28)) = W at hA nA
  have hs : W.heap.size = w.heap.size + 1 := by rw [← hW]; simp
  have hA2 := hA.alloc hA.size (.cells #[.string ⟨u.toArray⟩] 9)
  have nA2 : (W.alloc (.cells #[.string ⟨u.toArray⟩] 9)).cell? ⟨w.heap.size + 1, 0, none⟩ = some (.string ⟨u.toArray⟩) := by
    rw [← hs]; exact at_cell (at_new W _) 0
  have nA3 : (W.alloc (.cells #[.string ⟨u.toArray⟩] 9)).cell? ⟨w.heap.size, 3, none⟩ = some (.slice p n k) := at_cell (at_old W _ nA) 3
  have hs2 : (W.alloc (.cells #[.string ⟨u.toArray⟩] 9)).heap.size = w.heap.size + 2 := by simp [hs]
  have HP := Lib.hid (placesA_calls l (fun a => fit a.2.1 u) 44 (enters_of Try.func44 (by kernel_rfl) rfl) ⟨w.heap.size + 1, 0, none⟩ p k n hn hm _ (h.below hA2)
    (fun a _ w' hb => own1_calls a u hu (w.heap.size + 1) w' (by have := hb.size; omega) ((hb.cell (p := ⟨w.heap.size + 1, 0, none⟩) (by rw [hs2]; show w.heap.size + 1 < _; omega)).trans nA2)))
  have HA2 := Lib.hid hA2
  have HA3 := Lib.hid nA3
  have HS2 := Lib.hid hs2
  have HNA := Lib.hid nA
  have HHS := Lib.hid hs
  clear hA nA hA2 nA2 nA3 hs2 hn h hs
  rw [← hW] at HP HA2 HA3 HS2
  clear hW HNA HHS
  unfold LvPost confV lvF
  go_enter Try.func24, Try.ntmps24
  go_wp2_with fail
  refine HP.out.mono ?_
  rintro e w5 ⟨v, rfl, ho, hb5⟩
  obtain ⟨q, d, rfl, hr⟩ := own_rd ho
  have c3 := (hb5.cell (p := ⟨w.heap.size, 3, none⟩) (by rw [HS2.out]; show w.heap.size < _; omega)).trans HA3.out
  have HR := Lib.hid hr
  have HB := Lib.hid (HA2.out.trans (hb5.mono HA2.out.size))
  clear ho hr hb5 HP
  go_wp2_with fail
  go_ret
  exact ⟨q, _, d, rfl, ⟨HR.out, rfl⟩, HB.out⟩

set_option maxRecDepth 100000 in
set_option maxHeartbeats 4000000 in
/-- the level, asked by its value -/
theorem level_calls (l : List Ac) (u c : Bs) (hc : c.length ≤ 65536) (p : Option Addr) (k n : Nat) (q : Option Addr) (m d : Nat) (w : World) (h : Rd w 3 p k n (l.flatMap acv)) (hv : LvV w p n k l u q m d) :
    Calls Try.prog 45 #[.agg #[.slice p n k, .slice q m d], .string ⟨c.toArray⟩] w fun e w' => e = .returned (.int .i64 (lvlM l u c)) ∧ Below w.heap.size w w' := by
  have HR := Lib.hid h
  have HV := Lib.hid hv
  have hL := hv.len
  have hml : m ≤ l.length := by rw [hL]; unfold ownP plc; exact plc_len l _ _
  have hn : l.length = n := by have := h.len; rw [fm_len acv_len] at this; omega
  have hcap := hv.rd.cap
  have hmax := hv.rd.max
  have hcap2 := h.cap
  have hmax2 := h.max
  unfold maxLen at hmax hmax2
  have HE := Lib.hid (lvlO_eq l u c)
  have HIN : Hid (∀ i ∈ ownP l u, i < l.length) := Lib.hid fun i hi => by
    unfold ownP at hi
    obtain ⟨h, _⟩ := plc_mem.1 hi
    exact h
  have HL := Lib.hid hL
  have HNN := Lib.hid hn
  have hB0 := (Below.refl w.heap.size w).alloc (Nat.le_refl _) (.cells #[.slice p n k, .slice q m d] 74)
  have nB := at_new w (.cells #[.slice p n k, .slice q m d] 74)
  have HB0 := Lib.hid hB0
  have HNB := Lib.hid nB
  have hsW : (w.alloc (.cells #[.slice p n k, .slice q m d] 74)).heap.size = w.heap.size + 1 := by simp
  have HSW := Lib.hid hsW
  clear h hv hL hn hB0 nB hsW
  go_enter Try.func45, Try.ntmps45
  go_wp2_with fail
  go_loopw [10] (fun i wr => ∃ kk : Nat, kk ≤ m ∧ i = .int .i64 kk ∧ Below (w.heap.size + 1) (w.alloc (.cells #[.slice p n k, .slice q m d] 74)) wr ∧ ((ownP l u).take kk).find? (fun i => l[i]?.any fun a => fit a.1 c) = none) (fun i _ => m - (Conf.intOf i).toNat)
  case atStart => exact ⟨0, by omega, rfl, (Below.refl _ _), rfl⟩
  case round =>
    obtain ⟨kk, hk, rfl, hb, hno⟩ := hrel
    rename World => wr
    have HB := Lib.hid hb
    have HNO := Lib.hid hno
    have hbig : Below w.heap.size w wr := HB0.out.trans (hb.mono (by omega))
    have HBIG := Lib.hid hbig
    have e0 := (hb.cell (p := ⟨w.heap.size, 0, none⟩) (by show w.heap.size < _; omega)).trans (at_cell HNB.out 0 : _ = some (Value.slice p n k))
    clear hb hno hbig
    rcases Nat.lt_or_eq_of_le hk with hlt | rfl
    · have hl1 : kk < (ownP l u).length := by rw [← HL.out]; exact hlt
      have hr := HV.out.rd.below HBIG.out
      rcases hr.cells with h0 | ⟨g, o, rfl, hg, hcl⟩
      · omega
      have c0 := hcl kk (.int .i64 (ownP l u)[kk]) (by unfold nsv; rw [List.getElem?_map, List.getElem?_eq_getElem hl1]; rfl)
      have hil := HIN.out _ (List.getElem_mem hl1)
      obtain ⟨g3, o3, rfl, hg3, hi3, a0, a1, a2⟩ := acc_at (HR.out.below HBIG.out) hil
      have HAT := Lib.hid fun (h : fit l[(ownP l u)[kk]].1 c = true) => (lvlO_at hl1 rfl hil h HNO.out).symm.trans HE.out
      have HNX := Lib.hid fun (h : fit l[(ownP l u)[kk]].1 c = false) => own_next hl1 rfl hil h HNO.out
      clear hr hcl HNO
      generalize l[(ownP l u)[kk]] = x at *
      generalize (ownP l u)[kk] = i at *
      have HM := Lib.hid (fit_calls x.1 c hc)
      have q1 : (kk : Int) < (m : Int) := by omega
      have q2 : (i : Int) < (n : Int) := by have := HNN.out; omega
      have q3 : (0 : Int) ≤ (i : Int) := by omega
      cases hf : fit x.1 c with
      | true =>
        have HF := Lib.hid (HAT.out hf)
        rw [hf] at HM
        clear HAT HNX hf hl1 hil
        go_wp2_with fail
        refine (HM.out _).mono ?_
        rintro e w5 ⟨rfl, hb5⟩
        have hw := HBIG.out.size
        have a2' := (hb5.cell (p := ⟨g3, o3 + i * 3 + 2, none⟩) hg3).trans a2
        have e0' := (hb5.cell (p := ⟨w.heap.size, 0, none⟩) (by have := HB.out.size; have := HSW.out; show w.heap.size < _; omega)).trans e0
        have HB5 := Lib.hid (HBIG.out.trans (hb5.mono hw))
        clear hb5
        go_wp2_with fail
        go_ret
        exact ⟨by rw [← HF.out]; rfl, HB5.out⟩
      | false =>
        have HF := Lib.hid (HNX.out hf)
        rw [hf] at HM
        clear HAT HNX hf hl1 hil
        go_wp2_with fail
        refine (HM.out _).mono ?_
        rintro e w5 ⟨rfl, hb5⟩
        have HB5 := Lib.hid (HB.out.trans (hb5.mono (by have := HB.out.size; have := HSW.out; omega)))
        clear hb5
        go_wp2_with fail
        go_roundw
        case rel => exact ⟨kk + 1, by omega, by go_num, HB5.out, HF.out⟩
        case measure => simp [Conf.intOf]; omega
    · have HF := Lib.hid ((lvlO_none HL.out HNO.out).symm.trans HE.out)
      go_wp2_with fail
      go_ret
      exact ⟨by rw [← HF.out]; rfl, HBIG.out⟩
end Go.Proofs.Ytomnkmcabkoagaa.Rgt

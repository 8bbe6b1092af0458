/-
  Layer 14 (brk): the law's example, walked.
-/
import Derived.Test.YtiblmhjlngcidaaBrkRead
import Derived.Test.YtiblmhjlngcidaaBrkPut
import Derived.Test.YtiblmhjlngcidaaBrkRefOps
namespace Go.Proofs.Ytiblmhjlngcidaa.Brk
open Go.RowKit Go.Proofs.Ytiblmhjlngcidaa.Digit Go.Proofs.Ytiblmhjlngcidaa.Own

def exA : List UInt8 := [97, 92, 114, 92, 119, 49, 50, 92, 100, 92, 122, 92, 122, 126]
def ex : List Op := [⟨1, [97, 13], 0⟩, ⟨2, [], 13⟩, ⟨3, [], 0⟩, ⟨3, [], 0⟩, ⟨1, [126], 0⟩]
theorem exA_is : rC exA = 0 ∧ rV exA = ex := by
  refine r_some (by decide) ?_
  have s1 : rdF [] exA = rdF [⟨1, [97], 0⟩] [92, 114, 92, 119, 49, 50, 92, 100, 92, 122, 92, 122, 126] :=
    rdF_step (t := [97]) (one_plain _ (by decide) (by decide) (by decide)) (by simp)
  have s2 : rdF [⟨1, [97], 0⟩] [92, 114, 92, 119, 49, 50, 92, 100, 92, 122, 92, 122, 126] = rdF [⟨1, [97, 13], 0⟩] [92, 119, 49, 50, 92, 100, 92, 122, 92, 122, 126] :=
    rdF_step (t := [92, 114]) (one_esc 114 _) (by simp)
  have s3 : rdF [⟨1, [97, 13], 0⟩] [92, 119, 49, 50, 92, 100, 92, 122, 92, 122, 126] = rdF [⟨1, [97, 13], 0⟩, ⟨2, [], 12⟩] [92, 100, 92, 122, 92, 122, 126] :=
    rdF_step (t := wsg 12) (one_wsg (by decide) (by decide) _) (wsg_ne _)
  have s4 : rdF [⟨1, [97, 13], 0⟩, ⟨2, [], 12⟩] [92, 100, 92, 122, 92, 122, 126] = rdF [⟨1, [97, 13], 0⟩, ⟨2, [], 13⟩] [92, 122, 92, 122, 126] :=
    rdF_step (t := wsg 1) (one_wsg (by decide) (by decide) _) (wsg_ne _)
  have s5 : rdF [⟨1, [97, 13], 0⟩, ⟨2, [], 13⟩] [92, 122, 92, 122, 126] = rdF [⟨1, [97, 13], 0⟩, ⟨2, [], 13⟩, ⟨3, [], 0⟩] [92, 122, 126] :=
    rdF_step (t := [92, 122]) (one_brk _) (by simp)
  have s6 : rdF [⟨1, [97, 13], 0⟩, ⟨2, [], 13⟩, ⟨3, [], 0⟩] [92, 122, 126] = rdF [⟨1, [97, 13], 0⟩, ⟨2, [], 13⟩, ⟨3, [], 0⟩, ⟨3, [], 0⟩] [126] :=
    rdF_step (t := [92, 122]) (one_brk _) (by simp)
  have s7 : rdF [⟨1, [97, 13], 0⟩, ⟨2, [], 13⟩, ⟨3, [], 0⟩, ⟨3, [], 0⟩] [126] = rdF ex [] :=
    rdF_step (t := [126]) (one_plain _ (by decide) (by decide) (by decide)) (by simp)
  rw [s1, s2, s3, s4, s5, s6, s7, rdF_nil]
theorem ex_good : Good ex := by
  have := r_good exA
  rwa [exA_is.2] at this
def exT : List UInt8 := [97, 92, 114, 92, 119, 49, 51, 92, 122, 92, 122, 126]
theorem ex_txt : txt ex = exT := by
  have e : tx ⟨2, [], 13⟩ = [92, 119, 49, 51] := by
    show wtx (13 : Int).toNat = _
    rw [wtx_le (by decide)]; decide
  unfold ex
  rw [txt_cons, txt_cons, e, txt_cons, txt_cons, txt_cons]
  rfl
theorem ex_put : pC ex = 0 ∧ pV ex = exT := by
  have := p_fit ex_good (by rw [ex_txt]; decide)
  rwa [ex_txt] at this
theorem exB_is : rC [92, 119, 48, 48] = 3 ∧ rV [92, 119, 48, 48] = [] := by
  refine r_none (by decide) (rdF_no (by simp) ?_)
  rw [one_esc]
  have e : esc 119 [48, 48] = if tk [48, 48] = 0 then no else (⟨2, [], tk [48, 48]⟩, 4) := rfl
  rw [e, tk_none, if_pos rfl]
  · rfl
  · rintro ⟨n, h1, h2, h3⟩
    have := two_inj h2 (by omega) (h3.trans (show [48, 48] = two 0 by decide))
    omega
def exC : List Op := [⟨2, [], 1⟩, ⟨2, [], 1⟩]
theorem exC_put : pC exC = 1 ∧ pV exC = [] := by
  refine p_bad fun h => ?_
  obtain ⟨x, e, _, hp⟩ := h 1 (by decide)
  obtain ⟨y, e2, h2⟩ := hp (by omega)
  obtain rfl : x = ⟨2, [], 1⟩ := (Option.some.inj e).symm
  obtain rfl : y = ⟨2, [], 1⟩ := (Option.some.inj e2).symm
  cases h2
def exD : List Op := [⟨2, [], 1099511627776⟩]
theorem txt_wait (N : Nat) : txt [⟨2, [], (N : Int)⟩] = wtx N := by
  rw [txt_one]
  show wtx (N : Int).toNat = _
  rw [Int.toNat_natCast]
theorem long_wait (m : Int) (h : 6336 < m) : pC [⟨2, [], m⟩] = 5 ∧ pV [⟨2, [], m⟩] = [] := by
  obtain ⟨N, rfl⟩ : ∃ N : Nat, m = N := ⟨m.toNat, by omega⟩
  refine p_big (good_snoc (l := []) good_nil (.inr (.inl ⟨rfl, rfl, by show (1 : Int) ≤ (N : Int); omega⟩)) (fun L y e => by simp at e)) ?_
  rw [txt_wait]
  exact wtx_long (by omega)
theorem exD_put : pC exD = 5 ∧ pV exD = [] := long_wait 1099511627776 (by omega)
theorem ops_lit (w : World) (L : List Op) (cs : Array Value) (n : Nat) (hcs : cs = (ov L).toArray) (hn : n = L.length) (hm : n ≤ 1000) (g : Nat) (hg : g = w.heap.size) : Ops (w.alloc (.cells cs 32)) L (some ⟨g, 0, none⟩) n := by
  subst hn hcs hg
  refine ⟨Nat.le_refl _, by unfold maxLen; omega, .inr ⟨w.heap.size, 0, rfl, by simp, fun i hi => ?_⟩⟩
  have hh := at_new w (.cells (ov L).toArray 32)
  have e0 := ov_get hi 0 (by omega)
  have e1 := ov_get hi 1 (by omega)
  have e2 := ov_get hi 2 (by omega)
  rw [Nat.zero_add, at_cell hh, at_cell hh, at_cell hh]
  exact ⟨(List.getElem?_toArray ..).trans e0, (List.getElem?_toArray ..).trans e1, (List.getElem?_toArray ..).trans e2⟩

set_option maxRecDepth 100000 in
set_option maxHeartbeats 4000000 in
theorem works_calls (w : World) :
    Calls Try.prog 6 #[] w fun e w' => e = .returned (.bool true) ∧ Below w.heap.size w w' := by
  go_enter Try.func6, Try.ntmps6
  go_wp2_with fail
  refine (read_calls exA (by decide) _).mono ?_
  rintro e w1 ⟨v1, rfl, hm1, hb1⟩
  rw [exA_is.1]
  rw [exA_is.2] at hm1
  obtain ⟨p1, c1, rfl, ho1⟩ := hm1.ops
  have O1 := Lib.hid ho1
  have B1 := Lib.hid hb1
  clear hm1 ho1 hb1
  rw [show ex.length = 5 from rfl]
  go_wp2_with fail
  refine (put_calls ex p1 c1 5 rfl _ O1.out).mono ?_
  rintro e w2 ⟨rfl, hb2⟩
  rw [ex_put.1, ex_put.2]
  have O2 := Lib.hid (O1.out.below hb2)
  have B2 := Lib.hid (B1.out.trans (hb2.mono B1.out.size))
  clear hb2
  go_wp2_with fail
  refine (read_calls [92, 119, 48, 48] (by decide) _).mono ?_
  rintro e w3 ⟨v3, rfl, hm3, hb3⟩
  rw [exB_is.1]
  obtain ⟨p3, c3, rfl, -⟩ := hm3.ops
  rw [exB_is.2]
  have O3 := Lib.hid (O2.out.below hb3)
  have B3 := Lib.hid (B2.out.trans (hb3.mono B2.out.size))
  clear hm3 hb3
  rw [show ([] : List Op).length = 0 from rfl]
  go_wp2_with fail
  have HA4 := Lib.hid ((Below.refl w3.heap.size w3).alloc (Nat.le_refl _) (.cells #[.int .i64 2, .string ⟨#[]⟩, .int .i64 1, .int .i64 2, .string ⟨#[]⟩, .int .i64 1] 32))
  refine (put_calls exC _ 2 2 rfl _ (ops_lit w3 exC _ 2 rfl rfl (by omega) _ rfl)).mono ?_
  rintro e w4 ⟨rfl, hb4⟩
  rw [exC_put.1, exC_put.2]
  have O4 := Lib.hid ((O3.out.below HA4.out).below hb4)
  have B4 := Lib.hid ((B3.out.trans (HA4.out.mono B3.out.size)).trans (hb4.mono (Nat.le_trans B3.out.size HA4.out.size)))
  clear hb4 HA4
  go_wp2_with fail
  have HA5 := Lib.hid ((Below.refl w4.heap.size w4).alloc (Nat.le_refl _) (.cells #[.int .i64 2, .string ⟨#[]⟩, .int .i64 1099511627776] 32))
  refine (put_calls exD _ 1 1 rfl _ (ops_lit w4 exD _ 1 rfl rfl (by omega) _ rfl)).mono ?_
  rintro e w5 ⟨rfl, hb5⟩
  rw [exD_put.1, exD_put.2]
  have O5 := Lib.hid ((O4.out.below HA5.out).below hb5)
  have B5 := Lib.hid ((B4.out.trans (HA5.out.mono B4.out.size)).trans (hb5.mono (Nat.le_trans B4.out.size HA5.out.size)))
  clear hb5 HA5
  go_wp2_with fail
  have HA6 := Lib.hid ((Below.refl w5.heap.size w5).alloc (Nat.le_refl _) (.cells #[.int .i64 1, .string ⟨#[97, 13]⟩, .int .i64 0, .int .i64 2, .string ⟨#[]⟩, .int .i64 13, .int .i64 3, .string ⟨#[]⟩, .int .i64 0, .int .i64 3, .string ⟨#[]⟩, .int .i64 0, .int .i64 1, .string ⟨#[126]⟩, .int .i64 0] 32))
  refine (same_calls ex 5 rfl p1 _ c1 5 _ (O5.out.below HA6.out) (ops_lit w5 ex _ 5 rfl rfl (by omega) _ rfl)).mono ?_
  rintro e w6 ⟨rfl, hb6⟩
  have O6 := Lib.hid ((O5.out.below HA6.out).below hb6)
  have B6 := Lib.hid ((B5.out.trans (HA6.out.mono B5.out.size)).trans (hb6.mono (Nat.le_trans B5.out.size HA6.out.size)))
  clear hb6 HA6
  have EO := Lib.hid (show ∀ x ∈ ex, Ok x from exA_is.2 ▸ (r_bd exA).ok)
  have g1 : (exT == [97, 92, 114, 92, 119, 49, 51, 92, 122, 92, 122, 126]) = true := by decide
  go_wp2_with fail
  refine (cost_calls ex p1 c1 5 rfl _ O6.out EO.out (by decide)).mono ?_
  rintro e w7 ⟨rfl, hb7⟩
  rw [show cst ex = 13 by decide]
  have O7 := Lib.hid (O6.out.below hb7)
  have B7 := Lib.hid (B6.out.trans (hb7.mono B6.out.size))
  clear hb7
  go_wp2_with fail
  refine (bytes_calls ex p1 c1 5 rfl _ O7.out EO.out (by decide)).mono ?_
  rintro e w8 ⟨rfl, hb8⟩
  rw [show byt ex = [97, 13, 126] by decide]
  have B8 := Lib.hid (B7.out.trans (hb8.mono B7.out.size))
  clear hb8
  go_wp2_with fail
  go_ret
  exact ⟨rfl, B8.out⟩
end Go.Proofs.Ytiblmhjlngcidaa.Brk

/-
  Layer 20 (mark): MarkPieces, walked.
-/
import Derived.Test.YtbjlnaobmgbpfaaDoorMrkTells
import Derived.Deep.AppendLies
namespace Go.Proofs.YtbjlnaobmgbpfaaDoor.Mark
open Go.RowKit Go.Proofs.YtbjlnaobmgbpfaaDoor.Own Go.Proofs.YtbjlnaobmgbpfaaDoor.Rw Go.Proofs.YtbjlnaobmgbpfaaDoor.Rec Go.Proofs.YtbjlnaobmgbpfaaDoor.Bld Go.Proofs.YtbjlnaobmgbpfaaDoor.Digit Go.Proofs.YtbjlnaobmgbpfaaDoor.Clock

theorem its_cv {w : World} {xs : List Itm} {b o c : Nat} (h : Its w xs (some ⟨b, o, none⟩) c) : ∀ j u, (cv xs)[j]? = some u → w.cell? ⟨b, o + j, none⟩ = some u := by
  intro j u hu
  have hj := (List.getElem?_eq_some_iff.1 hu).1
  rw [cv_len] at hj
  have hq : j / 3 < xs.length := by omega
  obtain ⟨b', o', e, -, c0, c1, c2⟩ := Its.at_ h hq
  simp only [Option.some.injEq, Addr.mk.injEq, and_true] at e
  obtain ⟨rfl, rfl⟩ := e
  obtain ⟨e0, e1, e2⟩ := cv_get hq
  have hr : j = j / 3 * 3 ∨ j = j / 3 * 3 + 1 ∨ j = j / 3 * 3 + 2 := by omega
  rcases hr with e | e | e <;> rw [e] at hu ⊢
  · rw [e0] at hu; rw [c0]; exact hu
  · rw [e1] at hu; rw [← Nat.add_assoc, c1]; exact hu
  · rw [e2] at hu; rw [← Nat.add_assoc, c2]; exact hu
theorem cv_take (xs : List Itm) (i : Nat) (j : Nat) (u : Value) (h : (cv (xs.take i))[j]? = some u) : (cv xs)[j]? = some u := by
  have hj := (List.getElem?_eq_some_iff.1 h).1
  have e : cv xs = cv (xs.take i) ++ cv (xs.drop i) := by rw [← cv_app, List.take_append_drop]
  rw [e, List.getElem?_append_left hj]; exact h
theorem cv_drop (xs : List Itm) (i : Nat) (hi : i ≤ xs.length) (j : Nat) (u : Value) (h : (cv (xs.drop i))[j]? = some u) : (cv xs)[i * 3 + j]? = some u := by
  have e : cv xs = cv (xs.take i) ++ cv (xs.drop i) := by rw [← cv_app, List.take_append_drop]
  have hl : (cv (xs.take i)).length = i * 3 := by rw [cv_len, List.length_take, Nat.min_eq_left hi]
  rw [e, List.getElem?_append_right (by omega), hl, Nat.add_sub_cancel_left]; exact h
theorem add_any (b o j : Nat) : (⟨b, o, none⟩ : Addr).add j = ⟨b, o + j, none⟩ := by cases j <;> simp [Addr.add]

/-- the pieces of a slice of items, ahead of one of them and behind it -/
structure Cuts (w1 : World) (xs : List Itm) (b o n c i : Nat) (p2 : Addr) : Prop where
  s1 : ∀ W, (Instr.sliceAt 22 (.slice (some ⟨b, o, none⟩) n c) none (some (.int .i64 i)) none).run Tryd.prog W = .ok (.slice (some ⟨b, o, none⟩) i c) W
  s2 : ∀ W, (Instr.sliceAt 22 (.slice (some ⟨b, o, none⟩) n c) (some (.int .i64 ((i : Int) + 1))) none none).run Tryd.prog W = .ok (.slice (some p2) (n - (i + 1)) (c - (i + 1))) W
  h1 : ∀ w', Below w1.heap.size w1 w' → ∀ j u, (cv (xs.take i))[j]? = some u → w'.cell? ((⟨b, o, none⟩ : Addr).add j) = some u
  h2 : ∀ w', Below w1.heap.size w1 w' → ∀ j u, (cv (xs.drop (i + 1)))[j]? = some u → w'.cell? (p2.add j) = some u
theorem cuts {w1 : World} {xs : List Itm} {b o n c i : Nat} (h : Its w1 xs (some ⟨b, o, none⟩) c) (hb : b < w1.heap.size) (hn : xs.length = n) (hi : i < n) : ∃ p2, Cuts w1 xs b o n c i p2 := by
  have hcap := h.cap
  rw [hn] at hcap
  have hel : Tryd.prog.elem 22 = 28 := by simp [Program.elem, Tryd.underlying22]
  have ht : Tryd.prog.underlying 22 = some (.slice (Tryd.prog.elem 22)) := by rw [hel]; exact Tryd.underlying22
  obtain ⟨i0, hi0, hz0, hz1, hz2⟩ := info_parts info_item
  have hs : ∀ W, (sizeOf 28).run Tryd.prog W = .ok 3 W := fun W => by simp [sizeOf, typeInfo, hi0, hz1]
  have e1 : ((i : Int) + 1).toNat = i + 1 := by omega
  have hcell : ∀ w', Below w1.heap.size w1 w' → ∀ j u, (cv xs)[j]? = some u → w'.cell? ⟨b, o + j, none⟩ = some u := fun w' hbb j u hu => (hbb.cell (p := ⟨b, o + j, none⟩) hb).trans (its_cv h j u hu)
  refine ⟨if c = i + 1 then ⟨b, o, none⟩ else ⟨b, o + (i + 1) * 3, none⟩, fun W => ?_, fun W => ?_, fun w' hbb j u hu => ?_, fun w' hbb j u hu => ?_⟩
  · rw [run_sliceAt_slice W _ _ _ _ _ ht, run_slice_h W _ _ _ _ ht .i64 i (by omega) (by omega), hel, hs, Int.toNat_natCast]
    simp only [Result.andThen, sliced, Option.map_some, Nat.zero_mul, Nat.sub_zero]
    split <;> simp [add_any]
  · rw [run_sliceAt_slice W _ _ _ _ _ ht, run_slice_l W _ _ _ _ ht .i64 _ (by omega) (by omega), hel, hs, e1]
    simp only [Result.andThen, sliced, Option.map_some, add_any]
    split <;> rfl
  · rw [add_any]; exact hcell w' hbb _ _ (cv_take _ _ _ _ hu)
  · have hj := (List.getElem?_eq_some_iff.1 hu).1
    rw [cv_len, List.length_drop] at hj
    rw [if_neg (by omega), add_any, Nat.add_assoc]
    exact hcell w' hbb _ _ (cv_drop _ _ (by omega) _ _ hu)
theorem six_fresh (w : World) (x y z x' y' z' : Value) (T : TypeId) : ∀ j u, [x, y, z, x', y', z'][j]? = some u → (w.alloc (.cells #[x, y, z, x', y', z'] T (0, 0))).drew.cell? ((⟨w.heap.size, 0, none⟩ : Addr).add j) = some u := fun j u hu => by
  rw [add0]
  show (w.alloc _).cell? _ = _
  rw [at_cell (at_new w _)]
  simpa using hu
theorem cut_parts (s : ByteArray) (k : Nat) (hk : k ≤ s.size) : s.data.toList = (s.extract 0 k).data.toList ++ (s.extract k s.size).data.toList := by
  rw [ByteArray.data_extract, ByteArray.data_extract, Array.toList_extract, Array.toList_extract]
  have hl : s.data.toList.length = s.size := rfl
  have h2 : (s.data.toList.drop k).take (s.size - k) = s.data.toList.drop k := List.take_of_length_le (by rw [List.length_drop]; omega)
  simp [h2]

theorem cut_to {P : Program} (t : TypeId) (ht : P.underlying t = some .string) (s : ByteArray) (j : Int) (h0 : 0 ≤ j) (h : j ≤ s.size) (W : World) :
    (Instr.sliceAt t (.string s) none (some (.int .i64 j)) none).run P W = .ok (.string (s.extract 0 j.toNat)) W := by
  rw [run_sliceAt_string W t _ _ _ _ ht, run_slice_string_to_if W t s .i64 j ht, if_pos ⟨h0, h⟩]
theorem cut_from {P : Program} (t : TypeId) (ht : P.underlying t = some .string) (s : ByteArray) (i : Int) (h0 : 0 ≤ i) (h : i ≤ s.size) (W : World) :
    (Instr.sliceAt t (.string s) (some (.int .i64 i)) none none).run P W = .ok (.string (s.extract i.toNat s.size)) W := by
  rw [run_sliceAt_string W t _ _ _ _ ht, run_slice_string_from_if W t s .i64 i ht, if_pos ⟨h0, h⟩]
theorem old_cell {w : World} {b o : Nat} (h : b < w.heap.size) (x : Obj) : (w.alloc x).drew.cell? ⟨b, o, none⟩ = w.cell? ⟨b, o, none⟩ := World.cell?_of_block (Below.heap_alloc w x b h)
theorem mod_nat (a : Int) (n : Nat) (hn : 0 < n) : ∃ i : Nat, a % (n : Int) = i ∧ i < n := by
  have h1 := Int.emod_nonneg a (show (n : Int) ≠ 0 by omega)
  have h2 := Int.emod_lt_of_pos a (show (0 : Int) < n by omega)
  exact ⟨(a % (n : Int)).toNat, by omega, by omega⟩

set_option maxRecDepth 100000 in
set_option maxHeartbeats 4000000 in
theorem pieces_walk (ys : List Itm) (p : Option Addr) (c n : Nat) (hn : ys.length = n) (a1 a2 : Int) (ha : 0 ≤ a1 ∧ a1 ≤ 255) (hc2 : 0 ≤ a2 ∧ a2 ≤ 255) (w : World) (hM : Months w) (h : Its w ys p c) :
    Calls Tryd.prog 4 #[.slice p n c, .int .u8 a1, .int .u8 a2] w fun e w' => e = .returned (.bool true) ∧ Below w.heap.size w w' := by
  have HF := Lib.hid (few_calls ys p c n hn w h)
  have HM := Lib.hid hM
  obtain ⟨i0, hi0, hz0, hz1, hz2⟩ := info_parts info_item
  clear h hM hn
  go_enter Tryd.func4, Tryd.ntmps4
  go_wp2_with fail
  refine HF.out.mono ?_
  rintro e w1 ⟨xs, n, p, c, rfl, hn, h16, hI, h80, hb1⟩
  have hs1 := hb1.size
  have hcap := hI.cap
  have hmax := hI.max
  unfold maxLen at hmax
  rw [hn] at hcap
  have HI := Lib.hid hI
  have HN := Lib.hid hn
  have H8 := Lib.hid h80
  have HT := Lib.hid (few_tot hn h16 h80)
  have B1 := Lib.hid hb1
  have HM1 := Lib.hid (HM.out.below hb1)
  have q2 : (n : Int) ≤ 16 := by omega
  clear hb1 hI hn h80 HF
  by_cases h0 : n = 0
  · have q0 : ((n : Int) == 0) = true := by simp [h0]
    clear h0
    go_wp2_with fail
    refine (works_calls _ HM1.out).mono ?_
    rintro e w2 ⟨rfl, hb⟩
    have HB := Lib.hid (B1.out.trans (hb.mono hs1))
    clear hb
    go_wp2_with fail
    go_ret
    exact ⟨rfl, HB.out⟩
  · have q0 : ((n : Int) == 0) = false := by
      have : ¬ (n : Int) = 0 := by omega
      simpa using this
    have q0' : (0 : Int) < (n : Int) := by omega
    obtain ⟨i, hmod, hin⟩ := mod_nat a1 n (by omega)
    have q1 : (i : Int) < (n : Int) := by omega
    have hk : i < xs.length := by rw [HN.out]; exact hin
    obtain ⟨b, o, rfl, hb, c0, c1, c2⟩ := Its.at_ HI.out hk
    have HX1 := H8.out xs[i] (List.getElem_mem hk)
    obtain ⟨x, hx⟩ : ∃ x, xs[i] = x := ⟨_, rfl⟩
    rw [hx] at c0 c1 c2 HX1
    have HXX := Lib.hid hx
    obtain ⟨xk, xa, xb⟩ := x
    simp only at c0 c1 c2 HX1
    clear hx
    go_upto_region 5 with (fail)
    rw [hmod]
    clear hmod
    by_cases k1 : xk = 1
    · subst k1
      obtain ⟨k, hmod, hkb⟩ := mod_nat a2 (xb.size + 1) (by omega)
      rw [Int.natCast_add] at hmod
      change a2 % ((xb.size : Int) + 1) = _ at hmod
      go_upto_region 8 with (fail)
      rw [hmod]
      clear hmod
      obtain ⟨p2, CU⟩ := cuts HI.out hb HN.out hin
      have CS1 := CU.s1
      have CS2 := CU.s2
      have HCU := Lib.hid CU
      have hcl1 : (cv (xs.take i)).length = i * 3 := by rw [cv_len, List.length_take, HN.out, Nat.min_eq_left (by omega)]
      have HCL1 := Lib.hid hcl1
      clear CU hcl1
      go_wp2_with (at_builtin; refine Own.append_any rfl _ _ 22 rfl w1.heap.size 28 i0 _ 3 32 Tryd.underlying22 hi0 hz0 hz1 hz2 rfl (by decide) (.slice none 0 0) 0 [] rfl (World.ownsRow_nil _ _ _ _) (some ⟨b, o, none⟩) i c (cv (xs.take i)) rfl (fun h => nomatch h) HCL1.out (by rintro ad ⟨⟩; exact HCU.out.h1 _ (Below.refl _ _)) (cv_one _) (by unfold maxLen; omega) (by omega) (Nat.le_refl _) ?_; intro v2 w2 own2 grow2)
      have hb2 : Below w1.heap.size w1 w2 := (Below.refl _ _).grown grow2 (Nat.le_refl _) (fun k hk => by cases hk)
      rw [Nat.zero_add, List.nil_append] at own2
      have O2 := Lib.hid own2
      have HB2 := Lib.hid hb2
      have hs2 := hb2.size
      have d1 := (hb2.cell (p := ⟨b, o + i * 3 + 1, none⟩) hb).trans c1
      have d2 := (hb2.cell (p := ⟨b, o + i * 3 + 2, none⟩) hb).trans c2
      have hbw2 : b < w2.heap.size := Nat.lt_of_lt_of_le hb hs2
      have HC1 := Lib.hid c1
      have HC2 := Lib.hid c2
      clear own2 grow2 hb2 c0 c1 c2
      go_upto_region 10 with (fail)
      have q3 : (0 : Int) ≤ (i : Int) := by omega
      have q4 : (k : Int) ≤ (xb.size : Int) := by omega
      have q5 : (0 : Int) ≤ (k : Int) := by omega
      have hownA := fun o => (World.ownsRow.alloc O2.out o : (w2.alloc o).drew.ownsRow w1.heap.size 28 3 _ _ _)
      have HA := Lib.hid hownA
      clear hownA
      have SL1 : ∀ W, (Instr.sliceAt 9 (.string xb) none (some (.int .i64 k)) none).run Tryd.prog W = .ok (.string (xb.extract 0 k)) W := fun W => cut_to _ Tryd.underlying9 xb k q5 q4 W
      have SL2 : ∀ W, (Instr.sliceAt 9 (.string xb) (some (.int .i64 k)) none none).run Tryd.prog W = .ok (.string (xb.extract k xb.size)) W := fun W => cut_from _ Tryd.underlying9 xb k q5 q4 W
      obtain ⟨P1, hP1⟩ : ∃ P, xb.extract 0 k = P := ⟨_, rfl⟩
      obtain ⟨P2, hP2⟩ : ∃ P, xb.extract k xb.size = P := ⟨_, rfl⟩
      rw [hP1] at SL1
      rw [hP2] at SL2
      have HP1 := Lib.hid hP1
      have HP2 := Lib.hid hP2
      clear hP1 hP2
      go_region_held3 (fun w' => w'.cell? ⟨b, o + i * 3 + 1, none⟩ = some (.int .i64 xa) ∧ w'.cell? ⟨b, o + i * 3 + 2, none⟩ = some (.string xb))
        (first
          | exact ⟨d1, d2⟩
          | exact ⟨(old_cell hbw2 _).trans d1, (old_cell hbw2 _).trans d2⟩
          | exact ⟨(hb3.cell (p := ⟨b, o + i * 3 + 1, none⟩) hb).trans HC1.out, (hb3.cell (p := ⟨b, o + i * 3 + 2, none⟩) hb).trans HC2.out⟩
          | go_keep)
        ((refine step_append_lies _ rfl (.tmp 43) (.tmp 70) 22 rfl w1.heap.size 28 i0 _ 3 32 Tryd.underlying22 hi0 hz0 hz1 hz2 rfl (by decide) _ _ _ rfl (HA.out _) ⟨w2.heap.size, 0, none⟩ 2 2 [.int .i64 1, .int .i64 xa, .string P1, .int .i64 1, .int .i64 xa, .string P2] rfl rfl (six_fresh w2 _ _ _ _ _ _ _) (by simp [Value.oneCell']) (by omega) (by unfold maxLen; omega) (by omega) (by simp; omega) _ rfl ?_; intro g cap w3 own3 grow3 at3 _; have hb3 : Below w1.heap.size w1 w3 := ((HB2.out.alloc hs2 _).drew).grown grow3 (Nat.le_trans hs2 (by simp)) (fun k hk => (World.ownsRow.lt O2.out k hk).1)))
      obtain ⟨V3, hV3⟩ : ∃ L, xs.take i ++ [⟨1, xa, P1⟩, ⟨1, xa, P2⟩] = L := ⟨_, rfl⟩
      have hl3 : V3.length = i + 2 := by rw [← hV3, List.length_append, List.length_take, HN.out, Nat.min_eq_left (by omega)]; rfl
      have hcv3 : cv (xs.take i) ++ [.int .i64 1, .int .i64 xa, .string P1, .int .i64 1, .int .i64 xa, .string P2] = cv V3 := by rw [← hV3, cv_app]; rfl
      rw [hcv3] at own3
      have O3 := Lib.hid own3
      have HB3 := Lib.hid hb3
      have hs3 := hb3.size
      have HV3 := Lib.hid hV3
      have hcl2 : (cv (xs.drop (i + 1))).length = (n - (i + 1)) * 3 := by rw [cv_len, List.length_drop, HN.out]
      have HCL2 := Lib.hid hcl2
      clear own3 grow3 at3 hb3 hV3 hcv3 hcl2 d1 d2 SL1 SL2
      go_wp2_with (at_builtin; refine Own.append_any rfl _ _ 22 rfl w1.heap.size 28 i0 _ 3 32 Tryd.underlying22 hi0 hz0 hz1 hz2 rfl (by decide) _ (i + 2) (cv V3) rfl O3.out (some p2) (n - (i + 1)) (c - (i + 1)) (cv (xs.drop (i + 1))) rfl (fun h => nomatch h) HCL2.out (by rintro ad ⟨⟩; exact HCU.out.h2 _ HB3.out) (cv_one _) (by unfold maxLen; omega) (by omega) hs3 ?_; intro v4 w4 own4 grow4)
      have hb4 : Below w1.heap.size w1 w4 := HB3.out.grown grow4 hs3 (fun k hk => (World.ownsRow.lt O3.out k hk).1)
      obtain ⟨p4, c4, rfl, -, -⟩ := Tree.own_slice own4
      rw [← cv_app] at own4
      have hl4 : (V3 ++ xs.drop (i + 1)).length = i + 2 + (n - (i + 1)) := by rw [List.length_append, hl3, List.length_drop, HN.out]
      have HI4 := Lib.hid (owns_its own4 hl4.symm)
      have HI1 := Lib.hid (HI.out.kept hb4)
      have HM4 := Lib.hid (HM1.out.below hb4)
      have HB4 := Lib.hid (B1.out.trans (hb4.mono hs1))
      have H84 : ∀ x ∈ V3 ++ xs.drop (i + 1), x.b.size ≤ 80 := by
        intro x hx
        rw [← HV3.out] at hx
        simp only [List.mem_append, List.mem_cons, List.not_mem_nil, or_false] at hx
        rcases hx with (hx | rfl | rfl) | hx
        · exact H8.out x (List.mem_of_mem_take hx)
        · rw [← HP1.out, ByteArray.size_extract]; omega
        · rw [← HP2.out, ByteArray.size_extract]; omega
        · exact H8.out x (List.mem_of_mem_drop hx)
      have HX4 := Lib.hid fun x hx => Nat.le_trans (H84 x hx) (show 80 ≤ 100000 by omega)
      have HX := Lib.hid fun x hx => Nat.le_trans (H8.out x hx) (show 80 ≤ 100000 by omega)
      have HT4 := Lib.hid (show Mark.tot (V3 ++ xs.drop (i + 1)) ≤ 1000000000000 by
        have h1 := Mark.tot_le H84
        have h2 : (V3 ++ xs.drop (i + 1)).length * (40 + 23 * 80) ≤ 17 * (40 + 23 * 80) := Nat.mul_le_mul_right _ (by omega)
        omega)
      have HL4 := Lib.hid hl4
      have TX := Lib.hid (show txt false (V3 ++ xs.drop (i + 1)) = txt false xs by
        have e : xs = xs.take i ++ ⟨1, xa, xb⟩ :: xs.drop (i + 1) := by
          have h1 := (List.take_append_drop i xs).symm
          rwa [List.drop_eq_getElem_cons hk, HXX.out] at h1
        rw [← HV3.out, pieces false (xs.take i) (xs.drop (i + 1)) ⟨1, xa, xb⟩ ⟨1, xa, P1⟩ ⟨1, xa, P2⟩ rfl rfl rfl rfl rfl (by rw [← HP1.out, ← HP2.out]; exact cut_parts xb k (by omega)), ← e])
      clear own4 grow4 hb4 hl4 hl3 H84 CS1 CS2
      go_wp2_with fail
      refine (all_calls _ p4 c4 _ HL4.out _ HI4.out HM4.out HX4.out HT4.out).mono ?_
      rintro e w5 ⟨rfl, hb⟩
      rw [TX.out]
      have HI5 := Lib.hid (HI1.out.kept hb)
      have HM5 := Lib.hid (HM4.out.below hb)
      have HB5 := Lib.hid (HB4.out.trans (hb.mono HB4.out.size))
      clear hb
      go_wp2_with fail
      refine (all_calls xs _ c n HN.out _ HI5.out HM5.out HX.out HT.out).mono ?_
      rintro e w6 ⟨rfl, hb⟩
      have HM6 := Lib.hid (HM5.out.below hb)
      have HB6 := Lib.hid (HB5.out.trans (hb.mono HB5.out.size))
      clear hb
      go_wp2_with fail
      refine (works_calls _ HM6.out).mono ?_
      rintro e w7 ⟨rfl, hb⟩
      have HB7 := Lib.hid (HB6.out.trans (hb.mono HB6.out.size))
      clear hb
      go_wp2_with fail
      go_ret
      exact ⟨rfl, HB7.out⟩
    · have b1 : (xk != 1) = true := by simpa using k1
      have b2 : (xk == 1) = false := by simpa using k1
      clear k1
      go_wp2_with fail
      refine (works_calls _ HM1.out).mono ?_
      rintro e w2 ⟨rfl, hb⟩
      have HB := Lib.hid (B1.out.trans (hb.mono hs1))
      clear hb
      go_wp2_with fail
      go_ret
      exact ⟨rfl, HB.out⟩
end Go.Proofs.YtbjlnaobmgbpfaaDoor.Mark

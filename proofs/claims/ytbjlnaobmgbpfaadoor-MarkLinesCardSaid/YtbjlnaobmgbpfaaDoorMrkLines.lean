/-
  Layer 20 (mark): MarkLines, walked.
-/
import Derived.Test.YtbjlnaobmgbpfaaDoorMrkTells
import Derived.Test.YtbjlnaobmgbpfaaDoorMrkLinesR
import Derived.Deep.QuietTactic
import Derived.BigQuiet
namespace Go.Proofs.YtbjlnaobmgbpfaaDoor.Mark
open Go.RowKit Go.Proofs.YtbjlnaobmgbpfaaDoor.Own Go.Proofs.YtbjlnaobmgbpfaaDoor.Rw Go.Proofs.YtbjlnaobmgbpfaaDoor.Rec Go.Proofs.YtbjlnaobmgbpfaaDoor.Bld Go.Proofs.YtbjlnaobmgbpfaaDoor.Digit Go.Proofs.YtbjlnaobmgbpfaaDoor.Clock

/-- a good line, as a text -/
theorem good_text {x : List UInt8} (h : Good x) {s : ByteArray} (hs : s = ⟨x.toArray⟩) : 23 ≤ s.size ∧ (∃ h0 : 0 < s.size, s[0] = 91) ∧ s.extract 20 22 = ⟨#[93, 32]⟩ := by
  have hl := h.len
  have hsz : s.size = x.length := by rw [hs]; exact List.size_toArray ..
  refine ⟨by omega, ⟨by omega, ?_⟩, ?_⟩
  · have hf := h.first
    subst hs
    have : (⟨x.toArray⟩ : ByteArray)[0]'(by omega) = x[0]'(by omega) := rfl
    rw [this]
    rw [List.getElem?_eq_getElem (by omega)] at hf
    exact Option.some.inj hf
  · have hm := h.mid
    subst hs
    apply ByteArray.ext
    rw [ByteArray.data_extract]
    apply Array.ext'
    rw [Array.toList_extract]
    have : (x.drop 20).take 2 = [93, 32] := by rw [← hm, List.drop_take]
    simpa using this
theorem rest_take {L : List (List UInt8)} {k : Nat} (h : k < L.length) : rest (L.take (k + 1)) = rest (L.take k) ++ L[k].drop 22 := by
  unfold rest; rw [take_next h, List.map_append, List.flatten_append]; simp
theorem rest_le (L : List (List UInt8)) (k : Nat) : (rest (L.take k)).length ≤ (rest L).length := by
  have e : rest L = rest (L.take k) ++ rest (L.drop k) := by
    unfold rest; rw [← List.flatten_append, ← List.map_append, List.take_append_drop]
  rw [e, List.length_append]; omega
theorem Texts.at_ {w : World} {p : Option Addr} {c : Nat} {ts : List (List UInt8)} (h : Texts w p c ts) {k : Nat} (hk : k < ts.length) : ∃ b o, p = some ⟨b, o, none⟩ ∧ b < w.heap.size ∧ w.cell? ⟨b, o + k, none⟩ = some (.string ⟨ts[k].toArray⟩) := by
  rcases h.cells with h0 | ⟨b, o, e, hb, hc⟩
  · rw [h0] at hk; simp at hk
  · exact ⟨b, o, e, hb, hc k hk⟩
theorem drop_text (x : List UInt8) (s : ByteArray) (hs : s = ⟨x.toArray⟩) : s.extract 22 s.size = ⟨(x.drop 22).toArray⟩ := by
  subst hs
  apply ByteArray.ext
  rw [ByteArray.data_extract]
  apply Array.ext'
  rw [Array.toList_extract]
  have : (⟨x.toArray⟩ : ByteArray).size = x.length := List.size_toArray ..
  rw [this]
  have h2 : (x.drop 22).take (x.length - 22) = x.drop 22 := List.take_of_length_le (by rw [List.length_drop]; omega)
  simpa using h2
/-- items that are picked -/
structure PkAt (w wr : World) (v : Value) (L : List Itm) : Prop where
  own : wr.ownsRow w.heap.size 28 3 v L.length (cv L)
  below : Below w.heap.size w wr
theorem PkAt.step {w wr w1 : World} {v v' : Value} {L : List Itm} {x : Itm} (h : PkAt w wr v L) (o : Obj)
    (ho : w1.ownsRow w.heap.size 28 3 v' (L.length + 1) (cv L ++ [.int .i64 x.k, .int .i64 x.a, .string x.b])) (hg : (wr.alloc o).grownBy w1 v.ownBlock) : PkAt w w1 v' (L ++ [x]) := by
  have hs := h.below.size
  refine ⟨?_, (h.below.alloc hs o).grown hg (by simp; omega) (fun k hk => (World.ownsRow.lt h.own k hk).1)⟩
  rw [List.length_append, cv_app]; exact ho

set_option maxRecDepth 100000 in
set_option maxHeartbeats 8000000 in
theorem lines_walk (ys : List Itm) (p : Option Addr) (c n : Nat) (hn : ys.length = n) (w : World) (hM : Months w) (h : Its w ys p c) :
    Calls Tryd.prog 5 #[.slice p n c] w fun e w' => e = .returned (.bool true) ∧ Below w.heap.size w w' := by
  have HF := Lib.hid (few_calls ys p c n hn w h)
  have HM := Lib.hid hM
  obtain ⟨i0, hi0, hz0, hz1, hz2⟩ := info_parts info_item
  clear h hM hn
  go_enter Tryd.func5, Tryd.ntmps5
  go_wp2_with fail
  refine HF.out.mono ?_
  rintro e w1 ⟨xs, n, p, c, rfl, hn, h16, hI, h80, hb1⟩
  have hs1 := hb1.size
  have hcap := hI.cap
  have hmax := hI.max
  unfold maxLen at hmax
  rw [hn] at hcap
  have HI := Lib.hid hI
  have HN := Lib.hid hn
  have H8 := Lib.hid h80
  have HT := Lib.hid (few_tot hn h16 h80)
  have B1 := Lib.hid hb1
  have HM1 := Lib.hid (HM.out.below hb1)
  have HX := Lib.hid fun x hx => Nat.le_trans (h80 x hx) (show 80 ≤ 100000 by omega)
  have q2 : (n : Int) ≤ 16 := by omega
  clear hb1 hI hn h80 HF
  go_wp2_with fail
  go_loop [3] (fun iv => ∃ k : Nat, k ≤ n ∧ iv = .int .i64 k ∧ Hid (∀ x ∈ xs.take k, InT x)) (fun iv => n - (intOf iv).toNat)
  case atStart => exact ⟨0, Nat.zero_le _, rfl, Lib.hid (by simp)⟩
  case round =>
    obtain ⟨k, hkn, rfl, HIN⟩ := hrel
    rcases Nat.lt_or_eq_of_le hkn with hlt | ek
    · have q1 : (k : Int) < (n : Int) := by omega
      have hk : k < xs.length := by rw [HN.out]; exact hlt
      obtain ⟨b, o, rfl, hb, c0, c1, c2⟩ := Its.at_ HI.out hk
      have HTN := Lib.hid (take_next hk)
      generalize xs[k] = x at *
      obtain ⟨xk, xa, xb⟩ := x
      simp only at c0 c1 c2
      by_cases g0 : xa < 0
      · go_wp2_with fail
        refine (works_calls _ HM1.out).mono ?_
        rintro e w2 ⟨rfl, hb⟩
        have HB := Lib.hid (B1.out.trans (hb.mono hs1))
        clear hb
        go_wp2_with fail
        go_ret
        exact ⟨rfl, HB.out⟩
      by_cases g1 : 252455615999 < xa
      · go_wp2_with fail
        refine (works_calls _ HM1.out).mono ?_
        rintro e w2 ⟨rfl, hb⟩
        have HB := Lib.hid (B1.out.trans (hb.mono hs1))
        clear hb
        go_wp2_with fail
        go_ret
        exact ⟨rfl, HB.out⟩
      · have g3 : 0 ≤ xa := by omega
        have g4 : xa ≤ 252455615999 := by omega
        have HIN2 : Hid (∀ x ∈ xs.take (k + 1), InT x) := Lib.hid (by
          rw [HTN.out]
          intro y hy
          rw [List.mem_append, List.mem_singleton] at hy
          rcases hy with hy | rfl
          · exact HIN.out y hy
          · exact ⟨g3, g4⟩)
        clear g0 g1
        go_wp2_with fail
        go_round
        case rel => exact ⟨k + 1, by omega, by go_num, HIN2⟩
        case measure => simp [intOf]; omega
    · obtain rfl := ek.symm
      have hin := HIN.out
      rw [List.take_of_length_le (Nat.le_of_eq HN.out)] at hin
      have HALL := Lib.hid hin
      clear hin HIN
      go_wp2_with fail
      refine (all_calls xs p c _ HN.out _ HI.out HM1.out HX.out HT.out).mono ?_
      rintro e w2 ⟨rfl, hb⟩
      have HI2 := Lib.hid (HI.out.kept hb)
      have HM2 := Lib.hid (HM1.out.below hb)
      have B2 := Lib.hid (B1.out.trans (hb.mono hs1))
      have hl1 := Nat.le_trans (txt_le false xs) HT.out
      clear hb
      go_wp2_with fail
      refine (rlines_calls ⟨(txt false xs).toArray⟩ (by show (txt false xs).toArray.size ≤ _; rw [List.size_toArray]; exact hl1) _).mono ?_
      rintro e w3 ⟨p3, c3, n3, rfl, hn3, hT3, hb⟩
      have hs3 := hb.size
      have HI3 := Lib.hid (HI2.out.kept hb)
      have HM3 := Lib.hid (HM2.out.below hb)
      have B3 := Lib.hid (B2.out.trans (hb.mono B2.out.size))
      have HG := Lib.hid (lines_good HALL.out)
      change (lines (txt false xs)).length = n3 at hn3
      change Texts w3 p3 c3 (lines (txt false xs)) at hT3
      generalize lines (txt false xs) = L at *
      have hcap3 := hT3.cap
      unfold maxLen at hcap3
      rw [hn3] at hcap3
      have q3 : (n3 : Int) ≤ 9223372036854775807 := by omega
      have HN3 := Lib.hid hn3
      have HT3 := Lib.hid hT3
      clear hn3 hT3 hb hcap3 hl1
      go_wp2_with fail
      go_loop [5] (fun iv => ∃ j : Nat, j ≤ n3 ∧ iv = .int .i64 j) (fun iv => n3 - (intOf iv).toNat)
      case atStart => exact ⟨0, Nat.zero_le _, rfl⟩
      case round =>
        obtain ⟨j, hj, rfl⟩ := hrel
        rcases Nat.lt_or_eq_of_le hj with hlt | ej
        · have q4 : (j : Int) < (n3 : Int) := by omega
          have hjl : j < L.length := by rw [HN3.out]; exact hlt
          obtain ⟨b, o, rfl, hb, c0⟩ := Texts.at_ HT3.out hjl
          obtain ⟨S, hS⟩ : ∃ S : ByteArray, S = ⟨L[j].toArray⟩ := ⟨_, rfl⟩
          obtain ⟨g1, ⟨g2, g3⟩, g4⟩ := good_text (HG.out _ (List.getElem_mem hjl)) hS
          rw [← hS] at c0
          have g5 : (23 : Int) ≤ (S.size : Int) := by omega
          have g6 : ¬ (S.size : Int) < 23 := by omega
          clear hS
          go_wp2_with fail
          go_round
          case rel => exact ⟨j + 1, by omega, by go_num⟩
          case measure => simp [intOf]; omega
        · obtain rfl := ej.symm
          have C0 := Lib.hid (show PkAt w3 w3 (.slice none 0 0) (only (xs.take 0)) from ⟨World.ownsRow_nil _ _ _ _, Below.refl _ _⟩)
          go_wp2_with fail
          go_loopw [6, 7] (fun v iv wr => ∃ k : Nat, k ≤ n ∧ iv = .int .i64 k ∧ PkAt w3 wr v (only (xs.take k))) (fun _ iv _ => n - (intOf iv).toNat)
          case atStart => exact ⟨0, Nat.zero_le _, rfl, C0.out⟩
          case round =>
            clear C0
            obtain ⟨k, hkn, rfl, C⟩ := hrel
            have HC := Lib.hid C
            have hBw := C.below
            have hsz := hBw.size
            clear C
            rcases Nat.lt_or_eq_of_le hkn with hlt | ek
            · have q1 : (k : Int) < (n : Int) := by omega
              have hk : k < xs.length := by rw [HN.out]; exact hlt
              obtain ⟨b, o, rfl, hb, c0, c1, c2⟩ := Its.at_ HI3.out hk
              rw [← hBw.cell (p := ⟨b, _, none⟩) hb] at c0 c1 c2
              have hbw : b < wr.heap.size := Nat.lt_of_lt_of_le hb hsz
              have hle : (only (xs.take k)).length ≤ k := Nat.le_trans (List.length_filter_le _ _) (List.length_take_le _ _)
              have N1 := Lib.hid (fun e => only_1 hk e)
              have N0 := Lib.hid (fun e => only_0 hk e)
              generalize xs[k] = x at *
              obtain ⟨xk, xa, xb⟩ := x
              simp only at c0 c1 c2 N1 N0
              clear hBw
              by_cases k1 : xk = 1
              · subst k1
                have N2 := Lib.hid (N1.out rfl)
                have HO := Lib.hid HC.out.own
                clear N1 N0
                generalize only (xs.take k) = G at *
                go_wp2_with (at_builtin; refine Own.append_any rfl _ _ 22 rfl w3.heap.size 28 i0 _ 3 32 Tryd.underlying22 hi0 hz0 hz1 hz2 rfl (by decide) _ _ _ rfl (World.ownsRow.alloc HO.out _) _ 1 1 [.int .i64 1, .int .i64 xa, .string xb] rfl (fun h => nomatch h) rfl (Own.three_new _ _ _ _ _ _ (by simp)) (by simp [Value.oneCell']) (by unfold maxLen; omega) (by omega) (by simp; omega) ?_; intro v' w5 hown1 hgrow1)
                have C1 := HC.out.step (x := ⟨1, xa, xb⟩) _ hown1 hgrow1
                rw [← N2.out] at C1
                have HC1 := Lib.hid C1
                clear hown1 hgrow1 C1
                go_wp2_with fail
                go_roundw
                case rel => exact ⟨k + 1, by omega, by go_num, HC1.out⟩
                case measure => simp [intOf]; omega
              · have b1 : (xk == 1) = false := by simpa using k1
                have C1 := HC.out
                rw [← N0.out k1] at C1
                have HC1 := Lib.hid C1
                clear k1 N1 N0 C1
                go_wp2_with fail
                go_roundw
                case rel => exact ⟨k + 1, by omega, by go_num, HC1.out⟩
                case measure => simp [intOf]; omega
            · obtain rfl := ek.symm
              have C1 := HC.out
              rw [List.take_of_length_le (Nat.le_of_eq HN.out)] at C1
              have hlo : (only xs).length ≤ 16 := Nat.le_trans (List.length_filter_le _ _) (by rw [HN.out]; exact h16)
              have hown := C1.own
              obtain ⟨p4, c4, rfl, -, -⟩ := Tree.own_slice hown
              have HI4 := Lib.hid (owns_its hown rfl)
              have HI5 := Lib.hid (HI3.out.kept C1.below)
              have HM4 := Lib.hid (HM3.out.below C1.below)
              have B4 := Lib.hid (B3.out.trans (C1.below.mono B3.out.size))
              have H84 : ∀ x ∈ only xs, x.b.size ≤ 80 := fun x hx => H8.out x (only_mem hx).1
              have HX4 := Lib.hid fun x hx => Nat.le_trans (H84 x hx) (show 80 ≤ 100000 by omega)
              have HT4 := Lib.hid (few_tot (xs := only xs) rfl hlo H84)
              have HB4 := Lib.hid (lines_back (l := only xs) (fun x hx => HALL.out x (only_mem hx).1) (fun x hx => (only_mem hx).2))
              have HG4 := Lib.hid (lines_good (l := only xs) (fun x hx => HALL.out x (only_mem hx).1))
              have HDO := Lib.hid (dta_only xs)
              generalize only xs = os at *
              obtain ⟨m, hm⟩ : ∃ m, os.length = m := ⟨_, rfl⟩
              rw [hm] at hlo ⊢
              have HM := Lib.hid hm
              clear hm C1 hown H84 HC hBw
              go_wp2_with fail
              refine (all_calls os p4 c4 m HM.out _ HI4.out HM4.out HX4.out HT4.out).mono ?_
              rintro e w5 ⟨rfl, hb⟩
              have HI6 := Lib.hid (HI5.out.kept hb)
              have HM5 := Lib.hid (HM4.out.below hb)
              have B5 := Lib.hid (B4.out.trans (hb.mono B4.out.size))
              have hl1 := Nat.le_trans (txt_le false os) HT4.out
              clear hb
              go_wp2_with fail
              refine (rlines_calls ⟨(txt false os).toArray⟩ (by show (txt false os).toArray.size ≤ _; rw [List.size_toArray]; exact hl1) _).mono ?_
              rintro e w6 ⟨p6, c6, n6, rfl, hn6, hT6, hb⟩
              have HI7 := Lib.hid (HI6.out.kept hb)
              have HM6 := Lib.hid (HM5.out.below hb)
              have B6 := Lib.hid (B5.out.trans (hb.mono B5.out.size))
              change (lines (txt false os)).length = n6 at hn6
              change Texts w6 p6 c6 (lines (txt false os)) at hT6
              generalize lines (txt false os) = L2 at *
              have hcap6 := hT6.cap
              unfold maxLen at hcap6
              rw [hn6] at hcap6
              have q6 : (n6 : Int) ≤ 9223372036854775807 := by omega
              have HN6 := Lib.hid hn6
              have HT6 := Lib.hid hT6
              have HRL := Lib.hid (show (rest L2).length ≤ 1000000000000 by rw [HB4.out]; exact Nat.le_trans (dta_le os) HT4.out)
              clear hn6 hT6 hb hcap6 hl1
              go_wp2_with fail
              go_loop [8, 10] (fun bv iv => ∃ j : Nat, j ≤ n6 ∧ iv = .int .i64 j ∧ bv = .string ⟨(rest (L2.take j)).toArray⟩) (fun _ iv => n6 - (intOf iv).toNat)
              case atStart => exact ⟨0, Nat.zero_le _, rfl, rfl⟩
              case round =>
                obtain ⟨j, hj, rfl, rfl⟩ := hrel
                rcases Nat.lt_or_eq_of_le hj with hlt | ej
                · have q4 : (j : Int) < (n6 : Int) := by omega
                  have hjl : j < L2.length := by rw [HN6.out]; exact hlt
                  obtain ⟨b, o, rfl, hb, c0⟩ := Texts.at_ HT6.out hjl
                  obtain ⟨S, hS⟩ : ∃ S : ByteArray, S = ⟨L2[j].toArray⟩ := ⟨_, rfl⟩
                  obtain ⟨g1, ⟨g2, g3⟩, g4⟩ := good_text (HG4.out _ (List.getElem_mem hjl)) hS
                  have DT := drop_text _ S hS
                  have RT := rest_take hjl
                  have hr1 := Nat.le_trans (rest_le L2 (j + 1)) HRL.out
                  rw [RT, List.length_append] at hr1
                  rw [← hS] at c0
                  have g5 : (23 : Int) ≤ (S.size : Int) := by omega
                  have g6 : ¬ (S.size : Int) < 23 := by omega
                  have hss : S.size = (L2[j].drop 22).length + 22 := by
                    have : S.size = L2[j].length := by rw [hS]; exact List.size_toArray ..
                    rw [List.length_drop]; omega
                  have HDT := Lib.hid DT
                  have HRT := Lib.hid RT
                  generalize L2[j].drop 22 = U at *
                  generalize rest (L2.take j) = T at *
                  have z1 : S.size ≤ 2000000000000 := by omega
                  have z2 : T.length ≤ 2000000000000 := by omega
                  clear hS DT RT g3 g4 hss hr1
                  go_wp2_with fail
                  rw [HDT.out, cat_text]
                  go_round
                  case rel => exact ⟨j + 1, by omega, by go_num, by rw [HRT.out]⟩
                  case measure => simp [intOf]; omega
                · obtain rfl := ej.symm
                  rw [List.take_of_length_le (Nat.le_of_eq HN6.out), HB4.out, HDO.out]
                  go_wp2_with fail
                  refine (data_calls xs p c _ HN.out _ HI7.out HT.out).mono ?_
                  rintro e w7 ⟨rfl, hb⟩
                  have HM7 := Lib.hid (HM6.out.below hb)
                  have B7 := Lib.hid (B6.out.trans (hb.mono B6.out.size))
                  clear hb
                  go_wp2_with fail
                  refine (works_calls _ HM7.out).mono ?_
                  rintro e w8 ⟨rfl, hb⟩
                  have B8 := Lib.hid (B7.out.trans (hb.mono B7.out.size))
                  clear hb
                  go_wp2_with fail
                  go_ret
                  exact ⟨rfl, B8.out⟩
end Go.Proofs.YtbjlnaobmgbpfaaDoor.Mark

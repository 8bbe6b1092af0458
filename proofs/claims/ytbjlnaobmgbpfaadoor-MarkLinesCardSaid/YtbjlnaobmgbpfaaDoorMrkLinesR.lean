/-
  Layer 5's document: Lines, walked.
-/
import Derived.Test.YtbjlnaobmgbpfaaDoorMrkLinesP
import Derived.Test.YtbjlnaobmgbpfaaDoorMrkRef
namespace Go.Proofs.YtbjlnaobmgbpfaaDoor.Mark
open Go.RowKit Go.Proofs.YtbjlnaobmgbpfaaDoor.Own Go.Proofs.YtbjlnaobmgbpfaaDoor.Rw Go.Proofs.YtbjlnaobmgbpfaaDoor.Rec Go.Proofs.YtbjlnaobmgbpfaaDoor.Bld Go.Proofs.YtbjlnaobmgbpfaaDoor.Digit Go.Proofs.YtbjlnaobmgbpfaaDoor.Clock

theorem info_str : (Tryd.prog.info? 9).map (fun i => (i.zero, i.size, i.bytes)) = some (some (.string ⟨#[]⟩), 1, 16) := by kernel_rfl
structure LnAt (w wr : World) (v : Value) (s : LS) : Prop where
  own : wr.ownsRow w.heap.size 9 1 v s.1.length (strs s.1)
  below : Below w.heap.size w wr
def LnPost (L : List (List UInt8)) (w : World) (e : Ending) (w' : World) : Prop :=
  ∃ p c n, e = .returned (.slice p n c) ∧ L.length = n ∧ Texts w' p c L ∧ Below w.heap.size w w'
theorem LnAt.step {w wr w1 : World} {v v' : Value} {D : List (List UInt8)} {x y : List UInt8} {z : List UInt8} (h : LnAt w wr v (D, x)) (o : Obj)
    (ho : w1.ownsRow w.heap.size 9 1 v' (D.length + 1) (strs D ++ [.string ⟨y.toArray⟩])) (hg : (wr.alloc o).grownBy w1 v.ownBlock) : LnAt w w1 v' (D ++ [y], z) := by
  have hs := h.below.size
  refine ⟨?_, (h.below.alloc hs o).grown hg (by simp; omega) (fun k hk => (World.ownsRow.lt h.own k hk).1)⟩
  show w1.ownsRow w.heap.size 9 1 v' (D ++ [y]).length (strs (D ++ [y]))
  rw [List.length_append, strs_app]; exact ho
theorem LnAt.end_ {w wr : World} {v : Value} {D : List (List UInt8)} {x : List UInt8} (h : LnAt w wr v (D, x)) : LnPost D w (.returned v) wr := by
  obtain ⟨p, c, rfl, hT⟩ := texts_own h.own rfl
  exact ⟨p, c, _, rfl, rfl, hT, h.below⟩
theorem feed_next (s : ByteArray) (k : Nat) (h : k < s.size) : feed ([], []) (s.data.toList.take (k + 1)) = lstep (feed ([], []) (s.data.toList.take k)) s[k] := by
  have h1 : k < s.data.toList.length := h
  rw [take_next h1, feed_app]; rfl
theorem lne {x : List UInt8} (h : x ≠ []) : ((⟨x.toArray⟩ : ByteArray).toList).isEmpty = false ∧ ((⟨x.toArray⟩ : ByteArray).toList != []) = true ∧ (x != []) = true ∧ x.isEmpty = false := by
  cases x with
  | nil => exact absurd rfl h
  | cons c r => rw [ByteArray.toList_eq]; exact ⟨rfl, rfl, rfl, rfl⟩

set_option maxRecDepth 100000 in
set_option maxHeartbeats 4000000 in
theorem rlines_calls (s : ByteArray) (hs : s.size ≤ 1000000000000) (w : World) :
    Calls Tryd.prog 14 #[.string s] w (LnPost (lines s.data.toList) w) := by
  obtain ⟨i0, hi, hz0, hz1, hz2⟩ := info_parts info_str
  have q2 : (s.size : Int) ≤ 1000000000000 := by omega
  go_enter Tryd.func14, Tryd.ntmps14
  go_wp2_with fail
  go_loopw [3, 4, 5] (fun v xv i wr => ∃ (k : Nat) (D : List (List UInt8)) (x : List UInt8), k ≤ s.size ∧ i = .int .i64 k ∧ xv = .string ⟨x.toArray⟩ ∧ Hid (feed ([], []) (s.data.toList.take k) = (D, x)) ∧ LnAt w wr v (D, x)) (fun _ _ i _ => s.size - (intOf i).toNat)
  case atStart => exact ⟨0, [], [], Nat.zero_le _, rfl, rfl, Lib.hid rfl, World.ownsRow_nil _ _ _ _, Below.refl _ _⟩
  case round =>
    obtain ⟨k, D, x, hk, rfl, rfl, HF, C⟩ := hrel
    have hle := feed_le ([], []) (s.data.toList.take k)
    rw [HF.out, List.length_take] at hle
    simp only [List.length_nil, Nat.zero_add] at hle
    obtain ⟨hD, hx⟩ := hle
    have hD2 : D.length ≤ k := Nat.le_trans hD (Nat.min_le_left _ _)
    have hx2 : x.length ≤ k := Nat.le_trans hx (Nat.min_le_left _ _)
    have hsz := C.below.size
    have HC := Lib.hid C
    clear C hD hx
    rcases Nat.lt_or_eq_of_le hk with hlt | rfl
    · have q1 : (k : Int) < (s.size : Int) := by omega
      have ST := one_text s k hlt
      have FN := feed_next s k hlt
      rw [HF.out] at FN
      obtain ⟨c, hc⟩ : ∃ c, s[k] = c := ⟨_, rfl⟩
      rw [hc] at ST FN
      have HST := Lib.hid ST
      have z1 : ¬ 9223372036854775807 < x.length + 1 := by omega
      have HO := Lib.hid HC.out.own
      clear ST
      by_cases h10 : c = 10
      · subst h10
        rw [step_10] at FN
        have HFN := Lib.hid FN
        have b1 : ((s[k].toNat : Int) == 10) = true := by rw [hc]; rfl
        clear FN
        go_upto_region 7 with (fail)
        rw [HST.out, cat_text]
        obtain ⟨y, hy⟩ : ∃ y, x ++ [10] = y := ⟨_, rfl⟩
        rw [hy]
        have HY := Lib.hid hy
        clear hy
        go_wp2_with (at_builtin; refine Own.append_any rfl _ _ 33 rfl w.heap.size 9 i0 _ 1 16 Tryd.underlying33 hi hz0 hz1 hz2 rfl (by decide) _ _ _ rfl (World.ownsRow.alloc HO.out _) _ 1 1 [.string ⟨y.toArray⟩] rfl (fun h => nomatch h) rfl (Rw.one_new _ _ _ _ (by simp)) (by simp [Value.oneCell']) (by show D.length + 1 ≤ _; unfold maxLen; omega) (by show (D.length + 1) * _ ≤ _; omega) (by simp; omega) ?_; intro v' w1 hown1 hgrow1)
        have C1 := Lib.hid (HC.out.step (z := []) _ hown1 hgrow1)
        rw [← HY.out] at C1
        clear hown1 hgrow1
        go_wp2_with fail
        go_roundw
        case rel => exact ⟨k + 1, D ++ [x ++ [10]], [], by omega, by go_num, rfl, HFN, C1.out⟩
        case measure => simp [intOf]; omega
      · rw [step_no _ _ h10] at FN
        have HFN := Lib.hid FN
        have b1 : ((c.toNat : Int) == 10) = false := by
          have : ¬ (c.toNat : Int) = 10 := fun e => h10 (UInt8.toNat_inj.1 (by show c.toNat = 10; omega))
          simpa using this
        clear FN h10
        go_upto_region 7 with (fail)
        rw [HST.out, cat_text]
        go_wp2_with fail
        go_roundw
        case rel => exact ⟨k + 1, D, x ++ [c], by omega, by go_num, rfl, HFN, ⟨HC.out.own, HC.out.below⟩⟩
        case measure => simp [intOf]; omega
    · have HE := HF.out
      rw [List.take_of_length_le (show s.data.toList.length ≤ s.size from Nat.le_refl _)] at HE
      have HL : lines s.data.toList = ends (D, x) := by unfold lines; rw [HE]
      have HO := Lib.hid HC.out.own
      clear HE
      by_cases hx0 : x = []
      · subst hx0
        have HL2 := Lib.hid (HL.trans (if_pos rfl))
        clear HL
        go_wp2_with fail
        go_ret
        rw [HL2.out]
        exact HC.out.end_
      · have HL2 := Lib.hid (HL.trans (if_neg hx0))
        obtain ⟨n1, n2, n3, n4⟩ := lne hx0
        clear HL hx0
        go_wp2_with (at_builtin; refine Own.append_any rfl _ _ 33 rfl w.heap.size 9 i0 _ 1 16 Tryd.underlying33 hi hz0 hz1 hz2 rfl (by decide) _ _ _ rfl (World.ownsRow.alloc HO.out _) _ 1 1 [.string ⟨x.toArray⟩] rfl (fun h => nomatch h) rfl (Rw.one_new _ _ _ _ (by simp)) (by simp [Value.oneCell']) (by show D.length + 1 ≤ _; unfold maxLen; omega) (by show (D.length + 1) * _ ≤ _; omega) (by simp; omega) ?_; intro v' w1 hown1 hgrow1)
        have C1 := Lib.hid (HC.out.step (z := []) _ hown1 hgrow1)
        clear hown1 hgrow1
        go_wp2_with fail
        go_ret
        rw [HL2.out]
        exact C1.out.end_
end Go.Proofs.YtbjlnaobmgbpfaaDoor.Mark

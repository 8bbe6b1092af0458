/-
  Layer 10 (word): the document's own Match, walked: for which beginnings of a text each beginning of the pattern stands.
-/
import Derived.Test.YtomnkmcabkoagaaWordMatch
import Derived.Test.YtomnkmcabkoagaaRow1
namespace Go.Proofs.Ytomnkmcabkoagaa.Word
open Go.RowKit Go.Proofs.Ytomnkmcabkoagaa.Own Go.Proofs.Ytomnkmcabkoagaa.Rw

def rowB (q s : List UInt8) : Nat → List Bool
  | 0 => [glob q []]
  | k + 1 => rowB q s k ++ [glob q (s.take (k + 1))]
def bv (l : List Bool) : List Value := l.map Value.bool
theorem rowB_len (q s : List UInt8) (k : Nat) : (rowB q s k).length = k + 1 := by
  induction k with
  | zero => rfl
  | succ k ih => simp [rowB, ih]
theorem rowB_at (q s : List UInt8) (k j : Nat) (h : j ≤ k) : (rowB q s k)[j]? = some (glob q (s.take j)) := by
  induction k with
  | zero => obtain rfl : j = 0 := by omega
            rfl
  | succ k ih =>
    by_cases hj : j ≤ k
    · rw [rowB, List.getElem?_append_left (by rw [rowB_len]; omega), ih hj]
    · obtain rfl : j = k + 1 := by omega
      rw [rowB, List.getElem?_append_right (by rw [rowB_len]; omega), rowB_len]; simp
theorem bv_at {l : List Bool} {j : Nat} {b : Bool} (h : l[j]? = some b) : (bv l)[j]? = some (.bool b) := by simp [bv, h]
theorem bv_next (q s : List UInt8) (k : Nat) : bv (rowB q s (k + 1)) = bv (rowB q s k) ++ [.bool (glob q (s.take (k + 1)))] := by simp [bv, rowB]
theorem bv_len (q s : List UInt8) (k : Nat) : (bv (rowB q s k)).length = k + 1 := by simp [bv, rowB_len]
theorem glob_none (s : List UInt8) (k : Nat) (h : k < s.length) : glob [] (s.take (k + 1)) = false := by
  rw [glob_nil]
  cases s with
  | nil => simp at h
  | cons a t => rfl
theorem info_bool : (Try.prog.info? 4).map (fun i => (i.zero, i.size, i.bytes)) = some (some (.bool false), 1, 1) := by kernel_rfl

theorem bools_next {w1 : World} {B : Nat} {v1 : Value} {q s : List UInt8} {k : Nat} {b : Bool} (hb : glob q (s.take (k + 1)) = b) (h : w1.ownsRow B 4 1 v1 (k + 1 + 1) (bv (rowB q s k) ++ [.bool b])) : w1.ownsRow B 4 1 v1 (k + 1 + 1) (bv (rowB q s (k + 1))) := by rw [bv_next, hb]; exact h
theorem rm_star {p s : List UInt8} {k j : Nat} (hk : k < p.length) (hj : j < s.length) (h : p[k] = 42) : glob (p.take (k + 1)) (s.take (j + 1)) = (glob (p.take k) (s.take (j + 1)) || glob (p.take (k + 1)) (s.take j)) := by
  rw [take_snoc p k hk, h, take_snoc s j hj, row_star]
theorem rm_one {p s : List UInt8} {k j : Nat} (hk : k < p.length) (hj : j < s.length) (h : p[k] ≠ 42) : glob (p.take (k + 1)) (s.take (j + 1)) = (glob (p.take k) (s.take j) && (p[k] == 63 || p[k] == s[j])) := by
  rw [take_snoc p k hk, take_snoc s j hj, row_one h]
theorem rm_zero {p : List UInt8} {k : Nat} (hk : k < p.length) : glob (p.take (k + 1)) [] = (p[k] == 42 && glob (p.take k) []) := by
  rw [take_snoc p k hk, row_zero]
theorem row_cell {w : World} {B g c n j : Nat} {q s : List UInt8} (h : w.ownsRow B 4 1 (.slice (some ⟨g, 0, none⟩) (n + 1) c) (n + 1) (bv (rowB q s n))) (hj : j ≤ n) : w.cell? ⟨g, j, none⟩ = some (.bool (glob q (s.take j))) := own_cell h rfl (bv_at (rowB_at q s n j hj))

theorem own_blk {w : World} {B n : Nat} {e : TypeId} {g c : Nat} {xs : List Value} (h : w.ownsRow B e 1 (.slice (some ⟨g, 0, none⟩) n c) n xs) : ∃ o, w.heap[g]? = some o ∧ True := by
  rcases h.2 with ⟨h0, _⟩ | ⟨g', cap, cur, hv, _, hh, _⟩
  · cases h0
  · cases hv; exact ⟨_, hh, trivial⟩
theorem own_drew {w : World} {B e size n : Nat} {v : Value} {xs : List Value} (h : w.ownsRow B e size v n xs) (q : Nat) : (w.drewN q).ownsRow B e size v n xs := h
theorem below_drewn {w : World} (q : Nat) (o : Obj) : Below w.heap.size w ((w.drewN q).alloc o) := ((below_drew (Below.refl _ _) : Below w.heap.size w (w.drewN q)).alloc (Nat.le_refl _) _)

structure RmAt (w wr wx : World) (v5 v8 : Value) (q q' s : List UInt8) (n j : Nat) : Prop where
  old : wr.ownsRow w.heap.size 4 1 v5 (n + 1) (bv (rowB q s n))
  new : wx.ownsRow wr.heap.size 4 1 v8 (j + 1) (bv (rowB q' s j))
  low : Below w.heap.size w wr
  below : Below wr.heap.size wr wx
theorem RmAt.row {w wr wx : World} {v5 v8 : Value} {q q' s : List UInt8} {n j : Nat} (h : RmAt w wr wx v5 v8 q q' s n j) : wx.ownsRow w.heap.size 4 1 v5 (n + 1) (bv (rowB q s n)) := own_below h.old h.below
theorem RmAt.all {w wr wx : World} {v5 v8 : Value} {q q' s : List UInt8} {n j : Nat} (h : RmAt w wr wx v5 v8 q q' s n j) : Below w.heap.size w wx := h.low.trans (h.below.mono h.low.size)
theorem RmAt.next {w wr wx w1 wy : World} {v5 v8 v1 : Value} {q q' s : List UInt8} {n j : Nat} {b : Bool} (h : RmAt w wr wx v5 v8 q q' s n j) (hb : glob q' (s.take (j + 1)) = b)
    (hy : Below wx.heap.size wx wy) (hown : w1.ownsRow wr.heap.size 4 1 v1 (j + 1 + 1) (bv (rowB q' s j) ++ [.bool b])) (hg : wy.grownBy w1 v8.ownBlock) : RmAt w wr w1 v5 v1 q q' s n (j + 1) := by
  refine ⟨h.old, bools_next hb hown, h.low, ?_⟩
  have hs := h.below.size
  have h2 : Below wr.heap.size wr wy := h.below.trans (hy.mono hs)
  exact h2.grown hg h2.size (fun k hk => by have := (World.ownsRow.lt h.new k hk).1; omega)
theorem RmAt.drew {w wr wx : World} {v5 v8 : Value} {q q' s : List UInt8} {n j : Nat} (h : RmAt w wr wx v5 v8 q q' s n j) (m : Nat) : RmAt w wr (wx.drewN m) v5 v8 q q' s n j := ⟨h.old, h.new, h.low, below_drew h.below⟩

set_option maxRecDepth 100000 in
set_option maxHeartbeats 4000000 in
theorem rmatch_calls (p s : ByteArray) (hs : s.size ≤ 1000000) (hp0 : p.size ≤ 1000000) (w : World) : Calls Try.prog 23 #[.string p, .string s] w fun e w' => e = .returned (.bool (isPat p.data.toList && glob p.data.toList s.data.toList)) ∧ Below w.heap.size w w' := by
  obtain ⟨i0, hi, hz0, hz1, hz2⟩ := info_parts info_bool
  cases hp : isPat p.data.toList with
  | false =>
    go_enter Try.func23, Try.ntmps23
    go_wp2_with (go_at_call 42; refine (rfits_calls _ hp0 _).mono ?_; rintro e w' ⟨rfl, rfl⟩)
    go_ret
    exact ⟨rfl, Below.refl _ _⟩
  | true =>
    rw [Bool.true_and]
    have hr0 : (bv (rowB [] s.data.toList 0)) = [.bool true] := rfl
    go_enter Try.func23, Try.ntmps23
    go_wp2_with (go_at_call 42; refine (rfits_calls _ hp0 _).mono ?_; rintro e w' ⟨rfl, rfl⟩)
    go_loopw [5, 6] (fun v i wr => ∃ k : Nat, k ≤ s.size ∧ i = .int .i64 k ∧ wr.ownsRow w.heap.size 4 1 v (k + 1) (bv (rowB [] s.data.toList k)) ∧ Below w.heap.size w wr) (fun _ i _ => s.size - (intOf i).toNat)
    case atStart =>
      exact ⟨0, Nat.zero_le _, rfl, own_new w [.bool true] _ _ rfl (by unfold maxLen; simp), (Below.refl _ _).alloc (Nat.le_refl _) _⟩
    case round =>
      obtain ⟨k, hk, rfl, hown, hB⟩ := hrel
      obtain ⟨g, c, rfl, hg1, hg2, hg3, hg4⟩ := own_shape hown (by omega)
      have hsz := hB.size
      by_cases hlt : k < s.size
      · have HG := Lib.hid (glob_none s.data.toList k (by rw [size_list]; exact hlt))
        have HB := Lib.hid hB
        have HO := Lib.hid hown
        clear hB hown
        go_wp2_with (at_builtin; refine Own.append_any rfl (.tmp 21) (.tmp 22) 70 rfl w.heap.size 4 i0 _ 1 1 Try.underlying70 hi hz0 hz1 hz2 rfl (by decide) _ _ _ rfl (World.ownsRow.alloc HO.out _) _ 1 1 [.bool false] rfl (fun h => nomatch h) rfl (one_new _ _ _ _ (by simp)) (by simp [Value.oneCell']) (by unfold maxLen; omega) (by omega) (by simp; omega) ?_; intro v1 w1 hown1 hgrow1)
        have C1 := Lib.hid (bools_next HG.out hown1)
        have C2 := Lib.hid ((HB.out.alloc hsz _).grown hgrow1 (by simp; omega) (fun j hj => by have := (World.ownsRow.lt HO.out j hj).1; omega))
        clear hown1 hgrow1
        go_wp2_with fail
        go_roundw
        case rel => exact ⟨k + 1, by omega, by go_num, C1.out, C2.out⟩
        case measure => simp [intOf]; omega
      · obtain rfl : k = s.size := by omega
        have HB := Lib.hid hB
        have HO := Lib.hid hown
        clear hB hown
        go_wp2_with fail
        go_loopw [5, 7] (fun v i wr => ∃ k : Nat, k ≤ p.size ∧ i = .int .i64 k ∧ wr.ownsRow w.heap.size 4 1 v (s.size + 1) (bv (rowB (p.data.toList.take k) s.data.toList s.size)) ∧ Below w.heap.size w wr) (fun _ i _ => p.size - (intOf i).toNat)
        case atStart => exact ⟨0, Nat.zero_le _, rfl, HO.out, HB.out⟩
        case round =>
          rename World => wo
          obtain ⟨k, hk, rfl, hown, hB⟩ := hrel
          obtain ⟨g, c, rfl, hg1, hg2, hg3, hg4⟩ := own_shape hown (by omega)
          have hsz := hB.size
          by_cases hlt : k < p.size
          · have c0 := row_cell hown (Nat.zero_le _)
            rw [List.take_zero] at c0
            obtain ⟨b0, hb0⟩ : ∃ b, glob (p.data.toList.take k) [] = b := ⟨_, rfl⟩
            rw [hb0] at c0
            have hz := rm_zero (p := p.data.toList) (k := k) (by rw [size_list]; exact hlt)
            rw [hb0] at hz
            have HB := Lib.hid hB
            have HO := Lib.hid hown
            clear hB hown hb0
            by_cases h42 : p[k].toNat = 42
            · have e0 : ((p[k].toNat : Int) == 42) = true := by simp [h42]
              have hp42 : p.data.toList[k]'hlt = 42 := UInt8.toNat_inj.1 h42
              have HZ : Hid (glob (p.data.toList.take (k + 1)) [] = b0) := Lib.hid (by rw [hz, hp42]; rfl)
              have HS := fun j (hj : j < s.size) => rm_star (s := s.data.toList) (j := j) (show k < p.data.toList.length from hlt) hj hp42
              replace HS := Lib.hid HS
              clear hz hp42
              go_wp2_with fail
              go_loopw [8, 9] (fun v i wx => ∃ j : Nat, j ≤ s.size ∧ i = .int .i64 ((j : Int) + 1) ∧ RmAt w wo wx (.slice (some ⟨g, 0, none⟩) (s.size + 1) c) v (p.data.toList.take k) (p.data.toList.take (k + 1)) s.data.toList s.size j) (fun _ i _ => s.size + 1 - (intOf i).toNat)
              case atStart =>
                refine ⟨0, Nat.zero_le _, rfl, HO.out, ?_, HB.out, (Below.refl _ _).alloc (Nat.le_refl _) _⟩
                have := own_new wo [.bool b0] 4 _ rfl (by unfold maxLen; simp)
                rw [show bv (rowB (p.data.toList.take (k + 1)) s.data.toList 0) = [.bool b0] by rw [rowB, HZ.out]; rfl]
                exact this
              case round =>
                obtain ⟨j, hj, rfl, C⟩ := hrel
                obtain ⟨g8, c8, rfl, hg8, hl8, hn8, hc8⟩ := own_shape C.new (by omega)
                have hl5 := at_lt (Exists.choose_spec (own_blk C.row)).1
                have hs8 := C.all.size
                have hs9 := C.below.size
                by_cases hjn : j < s.size
                · have r0 := row_cell C.row (show j ≤ s.size by omega)
                  have r1 := row_cell C.row (show j + 1 ≤ s.size by omega)
                  have n0 := row_cell C.new (Nat.le_refl j)
                  have q1 : ((j : Int) + 1).toNat = j + 1 := by omega
                  have HN := Lib.hid (HS.out j hjn)
                  have hnew := C.new
                  have HC := Lib.hid C
                  have HW := Lib.hid hnew
                  clear C hnew
                  generalize glob (p.data.toList.take k) (s.data.toList.take j) = x0 at *
                  generalize glob (p.data.toList.take k) (s.data.toList.take (j + 1)) = x1 at *
                  generalize glob (p.data.toList.take (k + 1)) (s.data.toList.take j) = x2 at *
                  cases x1 with
                  | true =>
                    go_wp2_with (at_builtin; refine Own.append_any rfl (.tmp 82) (.tmp 84) 70 rfl wo.heap.size 4 i0 _ 1 1 Try.underlying70 hi hz0 hz1 hz2 rfl (by decide) _ _ _ rfl (World.ownsRow.alloc HW.out _) _ 1 1 [.bool true] rfl (fun h => nomatch h) rfl (one_new _ _ _ _ (by simp)) (by simp [Value.oneCell']) (by unfold maxLen; omega) (by omega) (by simp; omega) ?_; intro v1 w1 hown1 hgrow1)
                    have C1 := Lib.hid (HC.out.next (b := true) (by rw [HN.out]; rfl) ((Below.refl _ _).alloc (Nat.le_refl _) _) hown1 hgrow1)
                    clear hown1 hgrow1
                    go_wp2_with fail
                    go_roundw
                    case rel => exact ⟨j + 1, by omega, by go_num, C1.out⟩
                    case measure => simp [intOf]; omega
                  | false =>
                    cases x2 with
                    | true =>
                      go_wp2_with (at_builtin; refine Own.append_any rfl (.tmp 82) (.tmp 84) 70 rfl wo.heap.size 4 i0 _ 1 1 Try.underlying70 hi hz0 hz1 hz2 rfl (by decide) _ _ _ rfl (World.ownsRow.alloc HW.out _) _ 1 1 [.bool true] rfl (fun h => nomatch h) rfl (one_new _ _ _ _ (by simp)) (by simp [Value.oneCell']) (by unfold maxLen; omega) (by omega) (by simp; omega) ?_; intro v1 w1 hown1 hgrow1)
                      have C1 := Lib.hid (HC.out.next (b := true) (by rw [HN.out]; rfl) ((Below.refl _ _).alloc (Nat.le_refl _) _) hown1 hgrow1)
                      clear hown1 hgrow1
                      go_wp2_with fail
                      go_roundw
                      case rel => exact ⟨j + 1, by omega, by go_num, C1.out⟩
                      case measure => simp [intOf]; omega
                    | false =>
                      go_wp2_with (at_builtin; refine Own.append_any rfl (.tmp 82) (.tmp 84) 70 rfl wo.heap.size 4 i0 _ 1 1 Try.underlying70 hi hz0 hz1 hz2 rfl (by decide) _ _ _ rfl (World.ownsRow.alloc HW.out _) _ 1 1 [.bool false] rfl (fun h => nomatch h) rfl (one_new _ _ _ _ (by simp)) (by simp [Value.oneCell']) (by unfold maxLen; omega) (by omega) (by simp; omega) ?_; intro v1 w1 hown1 hgrow1)
                      have C1 := Lib.hid (HC.out.next (b := false) (by rw [HN.out]; rfl) ((Below.refl _ _).alloc (Nat.le_refl _) _) hown1 hgrow1)
                      clear hown1 hgrow1
                      go_wp2_with fail
                      go_roundw
                      case rel => exact ⟨j + 1, by omega, by go_num, C1.out⟩
                      case measure => simp [intOf]; omega
                · obtain rfl : j = s.size := by omega
                  have HC := Lib.hid C
                  clear C
                  go_wp2_with fail
                  go_roundw
                  case rel => exact ⟨k + 1, by omega, by go_num, own_base HC.out.new HB.out.size, HC.out.all⟩
                  case measure => simp [intOf]; omega

            · have e0 : ((p[k].toNat : Int) == 42) = false := by simp; omega
              have hp42 : p.data.toList[k]'hlt ≠ 42 := u_ne h42
              have HZ : Hid (glob (p.data.toList.take (k + 1)) [] = false) := Lib.hid (by rw [hz, show (p.data.toList[k]'hlt == 42) = false by simpa using hp42]; rfl)
              have HS := fun j (hj : j < s.size) => rm_one (s := s.data.toList) (j := j) (show k < p.data.toList.length from hlt) hj hp42
              replace HS := Lib.hid HS
              clear hz hp42
              by_cases h63 : p[k].toNat = 63
              · have e3 : ((p[k].toNat : Int) == 63) = true := by simp [h63]
                have hq : (p.data.toList[k]'hlt == 63) = true := by simpa using UInt8.toNat_inj.1 h63
                have HQ := Lib.hid hq
                clear hq
                go_wp2_with fail
                go_loopw [8, 9] (fun v i wx => ∃ j : Nat, j ≤ s.size ∧ i = .int .i64 ((j : Int) + 1) ∧ RmAt w wo wx (.slice (some ⟨g, 0, none⟩) (s.size + 1) c) v (p.data.toList.take k) (p.data.toList.take (k + 1)) s.data.toList s.size j) (fun _ i _ => s.size + 1 - (intOf i).toNat)
                case atStart =>
                  refine ⟨0, Nat.zero_le _, rfl, HO.out, ?_, HB.out, (Below.refl _ _).alloc (Nat.le_refl _) _⟩
                  have := own_new wo [.bool false] 4 _ rfl (by unfold maxLen; simp)
                  rw [show bv (rowB (p.data.toList.take (k + 1)) s.data.toList 0) = [.bool false] by rw [rowB, HZ.out]; rfl]
                  exact this
                case round =>
                  obtain ⟨j, hj, rfl, C⟩ := hrel
                  obtain ⟨g8, c8, rfl, hg8, hl8, hn8, hc8⟩ := own_shape C.new (by omega)
                  have hl5 := at_lt (Exists.choose_spec (own_blk C.row)).1
                  have hs8 := C.all.size
                  have hs9 := C.below.size
                  by_cases hjn : j < s.size
                  · have r0 := row_cell C.row (show j ≤ s.size by omega)
                    have r1 := row_cell C.row (show j + 1 ≤ s.size by omega)
                    have n0 := row_cell C.new (Nat.le_refl j)
                    have q1 : ((j : Int) + 1).toNat = j + 1 := by omega
                    have HN := Lib.hid (HS.out j hjn)
                    have hnew := C.new
                    have HC := Lib.hid C
                    have HW := Lib.hid hnew
                    clear C hnew
                    generalize glob (p.data.toList.take k) (s.data.toList.take j) = x0 at *
                    generalize glob (p.data.toList.take k) (s.data.toList.take (j + 1)) = x1 at *
                    generalize glob (p.data.toList.take (k + 1)) (s.data.toList.take j) = x2 at *
                    cases x0 with
                    | false =>
                      go_wp2_with fail
                      go_quiet (fail)
                      go_wp2_with (at_builtin; refine Own.append_any rfl (.tmp 82) (.tmp 84) 70 rfl wo.heap.size 4 i0 _ 1 1 Try.underlying70 hi hz0 hz1 hz2 rfl (by decide) _ _ _ rfl (World.ownsRow.alloc (own_drew HW.out _) _) _ 1 1 [.bool false] rfl (fun h => nomatch h) rfl (one_new _ _ _ _ (by simp)) (by simp [Value.oneCell']) (by unfold maxLen; omega) (by omega) (by simp; omega) ?_; intro v1 w1 hown1 hgrow1)
                      have C1 := Lib.hid (HC.out.next (b := false) (by rw [HN.out]; rfl) (below_drewn _ _) hown1 hgrow1)
                      clear hown1 hgrow1
                      go_wp2_with fail
                      go_roundw
                      case rel => exact ⟨j + 1, by omega, by go_num, C1.out⟩
                      case measure => simp [intOf]; omega
                    | true =>
                      go_wp2_with fail
                      go_quiet (fail)
                      go_wp2_with (at_builtin; refine Own.append_any rfl (.tmp 82) (.tmp 84) 70 rfl wo.heap.size 4 i0 _ 1 1 Try.underlying70 hi hz0 hz1 hz2 rfl (by decide) _ _ _ rfl (World.ownsRow.alloc (own_drew HW.out _) _) _ 1 1 [.bool true] rfl (fun h => nomatch h) rfl (one_new _ _ _ _ (by simp)) (by simp [Value.oneCell']) (by unfold maxLen; omega) (by omega) (by simp; omega) ?_; intro v1 w1 hown1 hgrow1)
                      have C1 := Lib.hid (HC.out.next (b := true) (by rw [HN.out, HQ.out]; rfl) (below_drewn _ _) hown1 hgrow1)
                      clear hown1 hgrow1
                      go_wp2_with fail
                      go_roundw
                      case rel => exact ⟨j + 1, by omega, by go_num, C1.out⟩
                      case measure => simp [intOf]; omega
                  · obtain rfl : j = s.size := by omega
                    have HC := Lib.hid C
                    clear C
                    go_wp2_with fail
                    go_roundw
                    case rel => exact ⟨k + 1, by omega, by go_num, own_base HC.out.new HB.out.size, HC.out.all⟩
                    case measure => simp [intOf]; omega

              · have e3 : ((p[k].toNat : Int) == 63) = false := by simp; omega
                have hq : (p.data.toList[k]'hlt == 63) = false := by simpa using u_ne h63
                have HQ := Lib.hid hq
                clear hq
                go_wp2_with fail
                go_loopw [8, 9] (fun v i wx => ∃ j : Nat, j ≤ s.size ∧ i = .int .i64 ((j : Int) + 1) ∧ RmAt w wo wx (.slice (some ⟨g, 0, none⟩) (s.size + 1) c) v (p.data.toList.take k) (p.data.toList.take (k + 1)) s.data.toList s.size j) (fun _ i _ => s.size + 1 - (intOf i).toNat)
                case atStart =>
                  refine ⟨0, Nat.zero_le _, rfl, HO.out, ?_, HB.out, (Below.refl _ _).alloc (Nat.le_refl _) _⟩
                  have := own_new wo [.bool false] 4 _ rfl (by unfold maxLen; simp)
                  rw [show bv (rowB (p.data.toList.take (k + 1)) s.data.toList 0) = [.bool false] by rw [rowB, HZ.out]; rfl]
                  exact this
                case round =>
                  obtain ⟨j, hj, rfl, C⟩ := hrel
                  obtain ⟨g8, c8, rfl, hg8, hl8, hn8, hc8⟩ := own_shape C.new (by omega)
                  have hl5 := at_lt (Exists.choose_spec (own_blk C.row)).1
                  have hs8 := C.all.size
                  have hs9 := C.below.size
                  by_cases hjn : j < s.size
                  · have r0 := row_cell C.row (show j ≤ s.size by omega)
                    have r1 := row_cell C.row (show j + 1 ≤ s.size by omega)
                    have n0 := row_cell C.new (Nat.le_refl j)
                    have q1 : ((j : Int) + 1).toNat = j + 1 := by omega
                    have HN := Lib.hid (HS.out j hjn)
                    have hnew := C.new
                    have HC := Lib.hid C
                    have HW := Lib.hid hnew
                    clear C hnew
                    generalize glob (p.data.toList.take k) (s.data.toList.take j) = x0 at *
                    generalize glob (p.data.toList.take k) (s.data.toList.take (j + 1)) = x1 at *
                    generalize glob (p.data.toList.take (k + 1)) (s.data.toList.take j) = x2 at *
                    cases x0 with
                    | false =>
                      go_wp2_with fail
                      go_quiet (fail)
                      go_wp2_with (at_builtin; refine Own.append_any rfl (.tmp 82) (.tmp 84) 70 rfl wo.heap.size 4 i0 _ 1 1 Try.underlying70 hi hz0 hz1 hz2 rfl (by decide) _ _ _ rfl (World.ownsRow.alloc (own_drew HW.out _) _) _ 1 1 [.bool false] rfl (fun h => nomatch h) rfl (one_new _ _ _ _ (by simp)) (by simp [Value.oneCell']) (by unfold maxLen; omega) (by omega) (by simp; omega) ?_; intro v1 w1 hown1 hgrow1)
                      have C1 := Lib.hid (HC.out.next (b := false) (by rw [HN.out]; rfl) (below_drewn _ _) hown1 hgrow1)
                      clear hown1 hgrow1
                      go_wp2_with fail
                      go_roundw
                      case rel => exact ⟨j + 1, by omega, by go_num, C1.out⟩
                      case measure => simp [intOf]; omega
                    | true =>
                      cases hm : (p.data.toList[k]'hlt == s.data.toList[j]'hjn) with
                      | true =>
                        have HM := Lib.hid hm
                        have e4 : ((p[k].toNat : Int) == (s[j].toNat : Int)) = true := by
                          have h2 : p[k].toNat = s[j].toNat := congrArg UInt8.toNat (eq_of_beq hm)
                          simp [h2]
                        clear hm
                        go_wp2_with fail
                        go_quiet (fail)
                        go_wp2_with (at_builtin; refine Own.append_any rfl (.tmp 82) (.tmp 84) 70 rfl wo.heap.size 4 i0 _ 1 1 Try.underlying70 hi hz0 hz1 hz2 rfl (by decide) _ _ _ rfl (World.ownsRow.alloc (own_drew HW.out _) _) _ 1 1 [.bool true] rfl (fun h => nomatch h) rfl (one_new _ _ _ _ (by simp)) (by simp [Value.oneCell']) (by unfold maxLen; omega) (by omega) (by simp; omega) ?_; intro v1 w1 hown1 hgrow1)
                        have C1 := Lib.hid (HC.out.next (b := true) (by rw [HN.out, HQ.out, HM.out]; rfl) (below_drewn _ _) hown1 hgrow1)
                        clear hown1 hgrow1
                        go_wp2_with fail
                        go_roundw
                        case rel => exact ⟨j + 1, by omega, by go_num, C1.out⟩
                        case measure => simp [intOf]; omega
                      | false =>
                        have HM := Lib.hid hm
                        have e4 : ((p[k].toNat : Int) == (s[j].toNat : Int)) = false := by
                          have h2 : p[k].toNat ≠ s[j].toNat := fun e => ne_of_beq_false hm (UInt8.toNat_inj.1 e)
                          simp; omega
                        clear hm
                        go_wp2_with fail
                        go_quiet (fail)
                        go_wp2_with (at_builtin; refine Own.append_any rfl (.tmp 82) (.tmp 84) 70 rfl wo.heap.size 4 i0 _ 1 1 Try.underlying70 hi hz0 hz1 hz2 rfl (by decide) _ _ _ rfl (World.ownsRow.alloc (own_drew HW.out _) _) _ 1 1 [.bool false] rfl (fun h => nomatch h) rfl (one_new _ _ _ _ (by simp)) (by simp [Value.oneCell']) (by unfold maxLen; omega) (by omega) (by simp; omega) ?_; intro v1 w1 hown1 hgrow1)
                        have C1 := Lib.hid (HC.out.next (b := false) (by rw [HN.out, HQ.out, HM.out]; rfl) (below_drewn _ _) hown1 hgrow1)
                        clear hown1 hgrow1
                        go_wp2_with fail
                        go_roundw
                        case rel => exact ⟨j + 1, by omega, by go_num, C1.out⟩
                        case measure => simp [intOf]; omega
                  · obtain rfl : j = s.size := by omega
                    have HC := Lib.hid C
                    clear C
                    go_wp2_with fail
                    go_roundw
                    case rel => exact ⟨k + 1, by omega, by go_num, own_base HC.out.new HB.out.size, HC.out.all⟩
                    case measure => simp [intOf]; omega

          · obtain rfl : k = p.size := by omega
            have c0 := row_cell hown (Nat.le_refl _)
            rw [show p.data.toList.take p.size = p.data.toList from List.take_of_length_le (Nat.le_of_eq (size_list p)), show s.data.toList.take s.size = s.data.toList from List.take_of_length_le (Nat.le_of_eq (size_list s))] at c0
            generalize hbb : glob p.data.toList s.data.toList = bb at c0
            have HBB := Lib.hid hbb
            clear hbb
            have HB := Lib.hid hB
            clear hB hown
            go_wp2_with fail
            go_ret
            exact ⟨by rw [HBB.out]; rfl, HB.out⟩

end Go.Proofs.Ytomnkmcabkoagaa.Word

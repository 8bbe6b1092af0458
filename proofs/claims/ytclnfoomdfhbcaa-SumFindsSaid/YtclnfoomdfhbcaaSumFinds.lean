/-
  Layer 7 (sum): the walk of SumFinds.
-/
import Derived.Test.YtclnfoomdfhbcaaSumBytes
import Derived.Laws.BitsAllLaws
namespace Go.Proofs.Ytclnfoomdfhbcaa.Sum
open Go.RowKit

theorem xor_byte (a b : UInt8) : bits .xor .u8 (a.toNat : Int) (b.toNat : Int) = ((a ^^^ b).toNat : Int) := by
  rw [u8_xor_nat _ _ a.toNat_lt b.toNat_lt, UInt8.toNat_xor]
theorem xor_same {a b : UInt8} : a ^^^ b = a ↔ b = 0 := by
  constructor
  · intro h
    have : a ^^^ (a ^^^ b) = a ^^^ a := by rw [h]
    rwa [← UInt8.xor_assoc, UInt8.xor_self, UInt8.zero_xor] at this
  · rintro rfl; exact UInt8.xor_zero

/-- the byte at k + 1 -/
theorem byte_after (s : ByteArray) (k : Nat) (h : k + 1 < s.size) (W : World) :
    (Instr.index 9 (.string s) (.int .i64 ((k : Int) + 1))).run Try.prog W = .ok (.int .u8 (s[k + 1].toNat : Int)) W := by
  have hi : 0 ≤ (k : Int) + 1 ∧ (k : Int) + 1 < (s.size : Int) := by omega
  rw [run_index_string W _ s _ _ Try.underlying9, dif_pos hi]
  simp only [show ((k : Int) + 1).toNat = k + 1 by omega]

/-- the text as it is turned, and what its sum tells -/
theorem turned_by {l : List UInt8} {k : Nat} (hk : k < l.length) (b : UInt8) :
    (sumOf (l.set k (l[k] ^^^ b)) == sumOf l) = ((b.toNat : Int) == 0) := by
  rw [Bool.eq_iff_iff, beq_iff_eq, beq_iff_eq, turned hk, xor_same]
  constructor
  · rintro rfl; rfl
  · intro h; apply UInt8.toNat_inj.1; have : b.toNat = 0 := by omega
    exact this

theorem swapped_by {l : List UInt8} {k : Nat} (hk : k + 1 < l.length) :
    (sumOf ((l.set k l[k + 1]).set (k + 1) l[k]) == sumOf l) = ((l[k].toNat : Int) == (l[k + 1].toNat : Int)) := by
  rw [Bool.eq_iff_iff, beq_iff_eq, beq_iff_eq, swapped hk]
  constructor
  · intro h; rw [h]
  · intro h; apply UInt8.toNat_inj.1; omega

theorem text_again {W : World} {B n cap : Nat} {l : List UInt8} (hl : l.length = n) (h : BytesAt W B l) :
    BytesAt W B l ∧ (convert 33 9 (.slice (some ⟨B, 0, none⟩) n cap)).run Try.prog W = .ok (.string ⟨l.toArray⟩) W := by
  subst hl; exact ⟨h, h.text cap⟩

set_option maxRecDepth 100000 in
set_option maxHeartbeats 4000000 in
theorem finds_walk (s : ByteArray) (at_ y : Int) (h0 : 0 ≤ at_) (h1 : at_ < 65536) (y0 : 0 ≤ y) (y1 : y < 256) (w : World) :
    Calls Try.prog 5 #[.string s, .int .u16 at_, .int .u8 y] w fun e w' => e = .returned (.bool true) ∧ Below w.heap.size w w' := by
  have hB := Below.refl w.heap.size w
  by_cases hs : s.size ≤ 2000
  · by_cases hz : s.size = 0
    · have hz' : s = ByteArray.empty := ByteArray.ext (Array.eq_empty_of_size_eq_zero hz)
      subst hz'
      go_enter Try.func5, Try.ntmps5
      go_wp2_with (go_at_call 6; refine (works_calls _).mono ?_; rintro e w' ⟨rfl, hb⟩; replace hB := hB.trans (hb.mono hB.size); clear hb)
      go_ret
      exact ⟨rfl, hB⟩
    · have hz1 : (s.toList == []) = false := by
        rw [beq_eq_false_iff_ne, ByteArray.toList_eq]; intro h
        have := congrArg List.length h
        rw [size_list] at this; exact hz this
      have hz2 : 0 < s.size := by omega
      obtain ⟨k, hk⟩ : ∃ k : Nat, at_ % (s.size : Int) = k := ⟨(at_ % (s.size : Int)).toNat, by have := Int.emod_nonneg at_ (b := (s.size : Int)) (by omega); omega⟩
      have hlt : k < s.size := by have := Int.emod_lt_of_pos at_ (b := (s.size : Int)) (by omega); omega
      obtain ⟨b, rfl⟩ : ∃ b : UInt8, (b.toNat : Int) = y := ⟨byteI y, byteI_back y0 y1⟩
      obtain ⟨w1, cap1, hr1, H1, B1⟩ := bytes_new s w
      have hl : k < s.data.toList.length := hlt
      have c1 := H1.cell k hl
      have f1 := H1.free k hl
      obtain ⟨c, hc⟩ : ∃ c, s[k] ^^^ b = c := ⟨_, rfl⟩
      have hx := xor_byte s[k] b
      have hd := turned_by hl b
      rw [show s.data.toList[k] = s[k] from rfl] at c1 hd
      rw [hc] at hx hd
      clear hc
      have T := H1.set k c
      have hcv := T.text cap1
      have hll : (s.data.toList.set k c).length = s.size := by rw [List.length_set, size_list]
      rw [hll] at hcv
      have B2 := B1.setCell (p := ⟨w.heap.size, k, none⟩) (Nat.le_refl _) (.int .u8 (c.toNat : Int))
      have k1 : (k : Int) < (s.size : Int) := by omega
      generalize s.data.toList.set k c = l2 at hd T hcv hll
      have hl2 : (⟨l2.toArray⟩ : ByteArray).size ≤ 9223372036854775807 := by rw [← size_list]; show l2.length ≤ _; omega
      clear H1 B1 hB
      by_cases hk1 : k + 1 < s.size
      · have k2 : (k : Int) + 1 < (s.size : Int) := by omega
        have e1 : ((k : Int) + 1).toNat = k + 1 := by omega
        have ix := byte_after s k hk1
        have hl' : k + 1 < s.data.toList.length := hk1
        obtain ⟨w3, cap2, hr2, H3, B3⟩ := bytes_new s (w1.setCell ⟨w.heap.size, k, none⟩ (.int .u8 (c.toNat : Int)))
        have hB2 := H3.lt
        obtain ⟨B, hB⟩ : ∃ B, (w1.setCell ⟨w.heap.size, k, none⟩ (.int .u8 (c.toNat : Int))).heap.size = B := ⟨_, rfl⟩
        rw [hB] at hr2 H3 B3 hB2
        have B4 := B2.trans (B3.mono (by rw [← hB]; exact B2.size))
        have hBw : w.heap.size ≤ B := by rw [← hB]; exact B2.size
        have g0 := H3.cell k hl
        have g1 := H3.cell (k + 1) hl'
        have p0 := H3.free k hl
        have p1 := H3.free (k + 1) hl'
        have H4 := H3.set k s[k + 1]
        have H5 := H4.set (k + 1) s[k]
        have q0 := H4.cell (k + 1) (by rw [List.length_set]; exact hl')
        have q1 := H4.free (k + 1) (by rw [List.length_set]; exact hl')
        have hd2 := swapped_by hl'
        rw [show s.data.toList[k] = s[k] from rfl, show s.data.toList[k + 1] = s[k + 1] from rfl] at hd2
        have B5 := (B4.setCell (p := ⟨B, k, none⟩) hBw (.int .u8 (s[k + 1].toNat : Int))).setCell (p := ⟨B, k + 1, none⟩) hBw (.int .u8 (s[k].toNat : Int))
        have hl3 : ((s.data.toList.set k s[k + 1]).set (k + 1) s[k]).length = s.size := by rw [List.length_set, List.length_set, size_list]
        generalize (s.data.toList.set k s[k + 1]).set (k + 1) s[k] = l3 at H5 hd2 hl3
        have HB := Lib.hid B5; clear B5 B4 B3 B2
        have HL := Lib.hid hl2; clear hl2
        have HT := Lib.hid T; clear T hll hB
        have HH := Lib.hid H5; clear H5 H4 H3
        have HD := Lib.hid hd2; clear hd2
        rw [show s.data.toList[k] = s[k] from rfl] at g0
        rw [show s.data.toList[k + 1] = s[k + 1] from rfl] at g1
        . go_enter Try.func5, Try.ntmps5
          go_wp2_with (first | (go_at_call 9; refine (of_calls _ (by first | omega | exact HL.out) _).mono ?_; rintro e w' ⟨rfl, rfl⟩) | (go_at_call 6; refine (works_calls _).mono ?_; rintro e w' ⟨rfl, hb⟩))
          go_region
          have hw4 : Hid (Below w.heap.size w ((w3.setCell ⟨B, k, none⟩ (.int .u8 (s[k + 1].toNat : Int))).setCell ⟨B, k + 1, none⟩ (.int .u8 (s[k].toNat : Int))).drew) := Lib.hid HB.out.drew
          have hs4 : Hid (BytesAt ((w3.setCell ⟨B, k, none⟩ (.int .u8 (s[k + 1].toNat : Int))).setCell ⟨B, k + 1, none⟩ (.int .u8 (s[k].toNat : Int))).drew B l3) := Lib.hid (HH.out.kept rfl)
          generalize (((w3.setCell ⟨B, k, none⟩ (.int .u8 (s[k + 1].toNat : Int))).setCell ⟨B, k + 1, none⟩ (.int .u8 (s[k].toNat : Int))).drew) = w4 at hw4 hs4 ⊢
          clear hr1 hr2 hcv g0 g1 p0 p1 q0 q1 c1 f1 HB HH HT hx hd
          have hcv := (hs4.out.kept (W' := w4.drew) rfl).text cap2
          rw [hl3] at hcv
          have hl4 : Hid ((⟨l3.toArray⟩ : ByteArray).size ≤ 9223372036854775807) := Lib.hid (by rw [← size_list]; show l3.length ≤ _; omega)
          have hB4 : Hid (Below w.heap.size w w4.drew) := Lib.hid hw4.out.drew
          have hS4 : Hid (BytesAt w4.drew B l3) := Lib.hid (hs4.out.kept rfl)
          have kw : IntKind.i64.wrap ((k : Int) + 1) = (k : Int) + 1 := IntWalk.i64_in _ (by omega)
          have hd2 := HD.out
          clear hw4 hs4
          cases hv2 : ((s[k].toNat : Int) == (s[k + 1].toNat : Int))
          all_goals rw [hv2] at hd2
          all_goals
            go_wp2_with fail
            go_region_held3 (fun w' => Below w.heap.size w w' ∧ BytesAt w' B l3 ∧ (convert 33 9 (.slice (some ⟨B, 0, none⟩) s.size cap2)).run Try.prog w' = .ok (.string ⟨l3.toArray⟩) w')
              (first
                | exact ⟨hB4.out, hS4.out, hcv⟩
                | (go_split_ands; exact ⟨Below.trans (by assumption) (hb5.mono (Below.size (by assumption))), text_again hl3 (BytesAt.kept (by assumption) (hb5.block B (BytesAt.lt (by assumption))))⟩))
              (first
                | (go_at_call 9; refine (of_calls _ (by first | omega | exact hl4.out) _).mono ?_; rintro e w5 ⟨rfl, rfl⟩)
                | (go_at_call 6; refine (works_calls _).mono ?_; rintro e w5 ⟨rfl, hb5⟩))
            all_goals (go_wp2_with fail; go_ret; go_split_ands; exact ⟨rfl, by assumption⟩)
      · have k2 : (s.size : Int) ≤ (k : Int) + 1 := by omega
        have HB := Lib.hid B2; clear B2
        have HL := Lib.hid hl2; clear hl2
        have HT := Lib.hid T; clear T hll
        . go_enter Try.func5, Try.ntmps5
          go_wp2_with (first | (go_at_call 9; refine (of_calls _ (by first | omega | exact HL.out) _).mono ?_; rintro e w' ⟨rfl, rfl⟩) | (go_at_call 6; refine (works_calls _).mono ?_; rintro e w' ⟨rfl, hb⟩))
          go_ret
          exact ⟨rfl, HB.out.trans (hb.mono HB.out.size)⟩
  · go_enter Try.func5, Try.ntmps5
    go_wp2_with (go_at_call 6; refine (works_calls _).mono ?_; rintro e w' ⟨rfl, hb⟩; replace hB := hB.trans (hb.mono hB.size); clear hb)
    go_ret
    exact ⟨rfl, hB⟩

end Go.Proofs.Ytclnfoomdfhbcaa.Sum

/-
Layer 7 (sum): the document's own answers, walked.
Layer 7 (sum): the program's is, of, Of, walked.
Layer 7 (sum): the program's Put, walked.
Layer 7 (sum): the program's Fits, walked.
Layer 8 (record): Check, Len, the numbers that bytes tell, walked.
Layer 8 (record): an item's bytes, into a room for just these: walked.
Layer 8 (record): the head of an item, walked.
Layer 8 (record): Read, walked.
Items in memory: as cells, in a slice, as an argument.
Layer 8 (record): Scan, walked.
-/
import Derived.Test.YtpaeemkdjgbejaaGreatPack4
import Derived.WalkKit
import Derived.WalkSpells
import Derived.Deep.RegionHeld3
import Derived.Test.YtpaeemkdjgbejaaGreatProg
import Derived.Lib.Hide
import Derived.Laws.BitsLemmas
import Derived.WalkSmall
import Derived.Deep.Draws
import Derived.Deep.QuietTactic
import Derived.BigQuiet
import Derived.StillTailTactics
import Derived.Laws.Slices
import Derived.IntWalk
import Derived.Deep.DeepCutAuto
import Derived.Lib.SmallJoins
section
namespace Go.Proofs.YtpaeemkdjgbejaaGreat.Sum
open Go.RowKit

theorem ret_string {a b : ByteArray} (h : a = b) : Ending.returned (.string a) = .returned (.string b) := by rw [h]
theorem ret_i64 {a b : Int} (h : a = b) : Ending.returned (.int .i64 a) = .returned (.int .i64 b) := by rw [h]
theorem ret_bool {a b : Bool} (h : a = b) : Ending.returned (.bool a) = .returned (.bool b) := by rw [h]
theorem ret_two {a b c d : Int} (h : a = b) (g : c = d) : Ending.returned (.tuple #[.int .i64 a, .int .i64 c]) = .returned (.tuple #[.int .i64 b, .int .i64 d]) := by rw [h, g]
theorem size_list (s : ByteArray) : s.data.toList.length = s.size := rfl

theorem sum_snoc (s : ByteArray) (k : Nat) (h : k < s.size) : sumOf (s.data.toList.take (k + 1)) = (257 * sumOf (s.data.toList.take k) + (s[k].toNat : Int) + 1) % 2147483647 := by
  rw [sumOf_take _ (by rw [size_list]; exact h)]; rfl

set_option maxHeartbeats 400000 in
theorem rof_calls (s : ByteArray) (hs : s.size ≤ 9223372036854775807) (w : World) :
    Calls Tryz.prog 75 #[.string s] w fun e w' => e = .returned (.int .i64 (sumOf s.data.toList)) ∧ w = w' := by
  go_enter Tryz.func75, Tryz.ntmps75
  go_wp2
  go_loop [3, 4] (fun n i => ∃ k : Nat, k ≤ s.size ∧ i = .int .i64 k ∧ n = .int .i64 (sumOf (s.data.toList.take k))) (fun _ i => s.size - (intOf i).toNat)
  case atStart => exact ⟨0, Nat.zero_le _, rfl, rfl⟩
  case round =>
    obtain ⟨k, hk, rfl, rfl⟩ := hrel
    obtain ⟨hb1, hb2⟩ := sumOf_range (s.data.toList.take k)
    by_cases hlt : k < s.size
    · have HS := Lib.hid (sum_snoc s k hlt)
      have hc : (s[k].toNat : Int) < 256 := by have := s[k].toNat_lt; omega
      go_wp2_with fail
      go_round
      case rel => exact ⟨k + 1, by omega, by go_num, by rw [HS.out]⟩
      case measure => simp [intOf]; omega
    · have he : s.data.toList.take k = s.data.toList := List.take_of_length_le (by rw [size_list]; omega)
      rw [he] at *
      clear he
      go_wp2_with fail
      go_ret
      exact ⟨rfl, rfl⟩

theorem four_bytes {P : Program} (W : World) (b : Nat) (x y z u : UInt8) (src dst e : TypeId) (hs : P.underlying src = some (.slice e)) (he : P.underlying e = some (.int .u8)) (hd : P.underlying dst = some .string)
    (hx : W.cell? ⟨b, 0, none⟩ = some (.int .u8 (x.toNat : Int))) (hy : W.cell? ⟨b, 1, none⟩ = some (.int .u8 (y.toNat : Int))) (hz : W.cell? ⟨b, 2, none⟩ = some (.int .u8 (z.toNat : Int))) (hu : W.cell? ⟨b, 3, none⟩ = some (.int .u8 (u.toNat : Int))) :
    (convert src dst (.slice (some ⟨b, 0, none⟩) 4 4)).run P W = .ok (.string ⟨#[x, y, z, u]⟩) W := by
  refine run_convert_bytes_back W src dst e ⟨b, 0, none⟩ 4 [x, y, z, u] hs he hd (fun j hj => ?_)
  match j, hj with
  | 0, _ => exact hx
  | 1, _ => exact hy
  | 2, _ => exact hz
  | 3, _ => exact hu
  | j + 4, hj => simp at hj; omega

set_option maxHeartbeats 400000 in
theorem rput_calls (n : Int) (w : World) :
    Calls Tryz.prog 74 #[.int .i64 n] w fun e w' => e = .returned (.string ⟨(putL n).toArray⟩) ∧ Below w.heap.size w w' := by
  by_cases h : n < 0 ∨ 2147483647 ≤ n
  · rw [put_none h]
    rcases h with h | h
    · go_enter Tryz.func74, Tryz.ntmps74
      go_wp2_with fail
      go_ret
      exact ⟨rfl, Below.refl _ _⟩
    · have h0 : 0 ≤ n := by omega
      go_enter Tryz.func74, Tryz.ntmps74
      go_wp2_with fail
      go_ret
      exact ⟨rfl, Below.refl _ _⟩
  · have h0 : 0 ≤ n := by omega
    have h1 : n < 2147483647 := by omega
    rw [put_some h0 h1]
    clear h
    have hcv := fun (W : World) (b : Nat) hx hy hz hu => four_bytes (P := Tryz.prog) W b (byteI (n / 16777216 % 256)) (byteI (n / 65536 % 256)) (byteI (n / 256 % 256)) (byteI (n % 256)) 74 9 5 Tryz.underlying74 Tryz.underlying5 Tryz.underlying9 hx hy hz hu
    rw [byteI_back (by omega) (by omega), byteI_back (by omega) (by omega), byteI_back (by omega) (by omega), byteI_back (by omega) (by omega), show n / 16777216 % 256 = n / 16777216 by omega] at hcv
    go_enter Tryz.func74, Tryz.ntmps74
    go_wp2_with fail
    go_ret
    exact ⟨ret_string (by unfold four; rw [show n / 16777216 % 256 = n / 16777216 by omega]), (Below.refl _ _).alloc (Nat.le_refl _) _⟩

end Go.Proofs.YtpaeemkdjgbejaaGreat.Sum
end

section
namespace Go.Proofs.YtpaeemkdjgbejaaGreat.Sum
open Go.RowKit

theorem is_calls (n : Int) (w : World) :
    Calls Tryz.prog 79 #[.int .i64 n] w fun e w' => e = .returned (.bool (isSum n)) ∧ w = w' := by
  by_cases h0 : 0 ≤ n
  · by_cases h1 : n < 2147483647
    · go_enter Tryz.func79, Tryz.ntmps79
      go_wp2_with fail
      go_ret
      exact ⟨ret_bool (by rw [isSum_iff.2 ⟨h0, h1⟩]), rfl⟩
    · go_enter Tryz.func79, Tryz.ntmps79
      go_wp2_with fail
      go_ret
      exact ⟨ret_bool (by rw [isSum_not.2 (by omega)]), rfl⟩
  · go_enter Tryz.func79, Tryz.ntmps79
    go_wp2_with fail
    go_ret
    exact ⟨ret_bool (by rw [isSum_not.2 (by omega)]), rfl⟩

set_option maxHeartbeats 400000 in
theorem of0_calls (s : ByteArray) (hs : s.size ≤ 9223372036854775807) (w : World) :
    Calls Tryz.prog 80 #[.string s] w fun e w' => e = .returned (.int .i64 (sumOf s.data.toList)) ∧ w = w' := by
  go_enter Tryz.func80, Tryz.ntmps80
  go_wp2_with fail
  go_loop [3, 7] (fun n i => ∃ k : Nat, k ≤ s.size ∧ i = .int .i64 k ∧ n = .int .i64 (sumOf (s.data.toList.take k))) (fun _ i => s.size - (intOf i).toNat)
  case atStart => exact ⟨0, Nat.zero_le _, rfl, rfl⟩
  case round =>
    obtain ⟨k, hk, rfl, rfl⟩ := hrel
    obtain ⟨hb1, hb2⟩ := sumOf_range (s.data.toList.take k)
    by_cases hlt : k < s.size
    · have HS := Lib.hid (sum_snoc s k hlt)
      have hc : (s[k].toNat : Int) < 256 := by have := s[k].toNat_lt; omega
      go_wp2_with fail
      go_round
      case rel => exact ⟨k + 1, by omega, by go_num, by rw [HS.out]⟩
      case measure => simp [intOf]; omega
    · have he : s.data.toList.take k = s.data.toList := List.take_of_length_le (by rw [size_list]; omega)
      rw [he] at *
      clear he
      go_wp2_with fail
      go_ret
      exact ⟨rfl, rfl⟩
theorem of_calls (s : ByteArray) (hs : s.size ≤ 9223372036854775807) (w : World) :
    Calls Tryz.prog 70 #[.string s] w fun e w' => e = .returned (.int .i64 (sumOf s.data.toList)) ∧ w = w' := by
  go_enter Tryz.func70, Tryz.ntmps70
  go_wp2_with (go_at_call 80; refine (of0_calls _ hs _).mono ?_; rintro e w' ⟨rfl, rfl⟩)
  go_ret
  exact ⟨rfl, rfl⟩

end Go.Proofs.YtpaeemkdjgbejaaGreat.Sum
end

section
namespace Go.Proofs.YtpaeemkdjgbejaaGreat.Sum
open Go.RowKit

theorem be_from (l : List UInt8) : ∀ m : List UInt8, be (l ++ m) = m.foldl (fun n b => n * 256 + (b.toNat : Int)) (be l) := fun m => by unfold be; rw [List.foldl_append]
theorem be_snoc (s : ByteArray) (k : Nat) (h : k < s.size) : be (s.data.toList.take (k + 1)) = be (s.data.toList.take k) * 256 + (s[k].toNat : Int) := by
  rw [List.take_add_one, List.getElem?_eq_getElem (by rw [size_list]; exact h), be_from]; rfl
theorem be_range (s : ByteArray) (k : Nat) (h : k ≤ s.size) : 0 ≤ be (s.data.toList.take k) ∧ be (s.data.toList.take k) < 256 ^ k := by
  induction k with
  | zero => exact ⟨Int.le_refl _, by show (0 : Int) < 1; omega⟩
  | succ k ih =>
    have := ih (by omega)
    have := s[k].toNat_lt
    rw [be_snoc s k h, Int.pow_succ]
    omega
theorem or_byte {x c : Int} (h0 : 0 ≤ x) (h1 : x < 4294967296) (c0 : 0 ≤ c) (c1 : c < 256) : bits .or .i64 (x * 256) c = x * 256 + c := by
  exact bits_join .i64 63 (by decide) (fun n a b => by rw [IntKind.wrap_i64]; omega) 8 _ _ (by omega) (by omega) (by omega) c0 (by omega) (by omega)

theorem set_cells {w : World} {b : Nat} {C : Array Value} {t : TypeId} (h : w.heap[b]? = some (.cells C t (0, 0))) (i : Nat) (v : Value) : (w.setCell ⟨b, i, none⟩ v).heap[b]? = some (.cells (C.setIfInBounds i v) t (0, 0)) := by
  have hlt := lt_of_block h
  have h' : w.heap[b] = .cells C t (0, 0) := by simpa [Array.getElem?_eq_getElem hlt] using h
  show (w.heap.modify b _)[b]? = _
  rw [Array.getElem?_eq_getElem (by simpa using hlt), Array.getElem_modify_self, h']
  rfl

theorem at_cell {w : World} {b i : Nat} {C : Array Value} {t : TypeId} {v : Value} (h : w.heap[b]? = some (.cells C t (0, 0))) (hv : C[i]? = some v) : w.cell? ⟨b, i, none⟩ = some v := by
  simp [World.cell?, h, hv]
theorem at_frozen {w : World} {b : Nat} {C : Array Value} {t : TypeId} (h : w.heap[b]? = some (.cells C t (0, 0))) (i : Nat) : w.frozen? ⟨b, i, none⟩ = false := by
  simp [World.frozen?, h]
/-- the array that a sum is put into, k bytes from its end filled -/
def PutAt (w : World) (n : Int) (k : Nat) (x : Value) (wr : World) : Prop :=
  ∃ a b c d : Int, wr.heap[w.heap.size]? = some (.cells #[.int .u8 a, .int .u8 b, .int .u8 c, .int .u8 d] 125 (0, 0)) ∧ Below w.heap.size w wr ∧
    ((k = 0 ∧ x = .int .i64 n) ∨ (k = 1 ∧ x = .int .i64 (n / 256) ∧ d = n % 256) ∨ (k = 2 ∧ x = .int .i64 (n / 65536) ∧ d = n % 256 ∧ c = n / 256 % 256) ∨
     (k = 3 ∧ x = .int .i64 (n / 16777216) ∧ d = n % 256 ∧ c = n / 256 % 256 ∧ b = n / 65536 % 256) ∨ (k = 4 ∧ x = .int .i64 (n / 16777216 / 256) ∧ d = n % 256 ∧ c = n / 256 % 256 ∧ b = n / 65536 % 256 ∧ a = n / 16777216 % 256))

set_option maxRecDepth 100000 in
set_option maxHeartbeats 400000 in
theorem put_calls (n : Int) (w : World) :
    Calls Tryz.prog 69 #[.int .i64 n] w fun e w' => e = .returned (.string ⟨(putL n).toArray⟩) ∧ Below w.heap.size w w' := by
  cases hq : isSum n
  · rw [put_none (isSum_not.1 hq)]
    go_enter Tryz.func69, Tryz.ntmps69
    go_wp2_with (go_at_call 79; refine (is_calls _ _).mono ?_; rintro e w' ⟨rfl, rfl⟩)
    go_ret
    exact ⟨rfl, Below.refl _ _⟩
  · obtain ⟨n0, n1⟩ := isSum_iff.1 hq
    rw [put_some n0 n1]
    go_enter Tryz.func69, Tryz.ntmps69
    go_wp2_with (go_at_call 79; refine (is_calls _ _).mono ?_; rintro e w' ⟨rfl, rfl⟩)
    clear hq
    go_loopw [0, 8] (fun x i wr => ∃ k : Nat, k ≤ 4 ∧ i = .int .i64 k ∧ PutAt w n k x wr) (fun _ i _ => 4 - (intOf i).toNat)
    case atStart => exact ⟨0, Nat.zero_le _, rfl, 0, 0, 0, 0, by show (w.heap.push _)[w.heap.size]? = _; simp, (Below.refl _ _).alloc (Nat.le_refl _) _, .inl ⟨rfl, rfl⟩⟩
    case round =>
      obtain ⟨k, hk, rfl, a, b, c, d, hh, hb, hk'⟩ := hrel
      rcases hk' with ⟨rfl, rfl⟩ | ⟨rfl, rfl, rfl⟩ | ⟨rfl, rfl, rfl, rfl⟩ | ⟨rfl, rfl, rfl, rfl, rfl⟩ | ⟨rfl, rfl, rfl, rfl, rfl, rfl⟩
      all_goals
        have HH := Lib.hid hh
        have x0 : wr.cell? ⟨w.heap.size, 0, none⟩ = some (.int .u8 _) := at_cell hh rfl
        have x1 : wr.cell? ⟨w.heap.size, 1, none⟩ = some (.int .u8 _) := at_cell hh rfl
        have x2 : wr.cell? ⟨w.heap.size, 2, none⟩ = some (.int .u8 _) := at_cell hh rfl
        have x3 : wr.cell? ⟨w.heap.size, 3, none⟩ = some (.int .u8 _) := at_cell hh rfl
        have f0 : wr.frozen? ⟨w.heap.size, 0, none⟩ = false := at_frozen hh 0
        have f1 : wr.frozen? ⟨w.heap.size, 1, none⟩ = false := at_frozen hh 1
        have f2 : wr.frozen? ⟨w.heap.size, 2, none⟩ = false := at_frozen hh 2
        have f3 : wr.frozen? ⟨w.heap.size, 3, none⟩ = false := at_frozen hh 3
        clear hh
      · have hn := set_cells HH.out 3 (.int .u8 (n % 256))
        have HN := Lib.hid hn; clear hn
        go_wp2_with fail
        go_roundw
        case rel => exact ⟨1, by omega, by go_num, a, b, c, _, HN.out, hb.setCell (Nat.le_refl _) _, .inr (.inl ⟨rfl, rfl, rfl⟩)⟩
        case measure => simp [intOf]
      · have hn := set_cells HH.out 2 (.int .u8 (n / 256 % 256))
        have HN := Lib.hid hn; clear hn
        go_wp2_with fail
        go_roundw
        case rel => exact ⟨2, by omega, by go_num, a, b, _, _, HN.out, hb.setCell (Nat.le_refl _) _, .inr (.inr (.inl ⟨rfl, by go_num, rfl, rfl⟩))⟩
        case measure => simp [intOf]
      · have hn := set_cells HH.out 1 (.int .u8 (n / 65536 % 256))
        have HN := Lib.hid hn; clear hn
        go_wp2_with fail
        go_roundw
        case rel => exact ⟨3, by omega, by go_num, a, _, _, _, HN.out, hb.setCell (Nat.le_refl _) _, .inr (.inr (.inr (.inl ⟨rfl, by go_num, rfl, rfl, rfl⟩)))⟩
        case measure => simp [intOf]
      · have hn := set_cells HH.out 0 (.int .u8 (n / 16777216))
        have HN := Lib.hid hn; clear hn
        go_wp2_with fail
        go_roundw
        case rel => exact ⟨4, by omega, by go_num, _, _, _, _, HN.out, hb.setCell (Nat.le_refl _) _, .inr (.inr (.inr (.inr ⟨rfl, by go_num, rfl, rfl, rfl, by omega⟩)))⟩
        case measure => simp [intOf]
      · have hcv := fun (W : World) (b : Nat) hx hy hz hu => four_bytes (P := Tryz.prog) W b (byteI (n / 16777216 % 256)) (byteI (n / 65536 % 256)) (byteI (n / 256 % 256)) (byteI (n % 256)) 74 9 5 Tryz.underlying74 Tryz.underlying5 Tryz.underlying9 hx hy hz hu
        rw [byteI_back (by omega) (by omega), byteI_back (by omega) (by omega), byteI_back (by omega) (by omega), byteI_back (by omega) (by omega)] at hcv
        go_wp2_with fail
        go_ret
        exact ⟨rfl, hb⟩

end Go.Proofs.YtpaeemkdjgbejaaGreat.Sum
end

section
namespace Go.Proofs.YtpaeemkdjgbejaaGreat.Sum
open Go.RowKit

theorem cut_to {P : Program} (t : TypeId) (ht : P.underlying t = some .string) (s : ByteArray) (j : Int) (h0 : 0 ≤ j) (h : j ≤ s.size) (W : World) :
    (Instr.sliceAt t (.string s) none (some (.int .i64 j)) none).run P W = .ok (.string (s.extract 0 j.toNat)) W := by
  rw [run_sliceAt_string W t _ _ _ _ ht, run_slice_string_to_if W t s .i64 j ht, if_pos ⟨h0, h⟩]
theorem cut_from {P : Program} (t : TypeId) (ht : P.underlying t = some .string) (s : ByteArray) (i : Int) (h0 : 0 ≤ i) (h : i ≤ s.size) (W : World) :
    (Instr.sliceAt t (.string s) (some (.int .i64 i)) none none).run P W = .ok (.string (s.extract i.toNat s.size)) W := by
  rw [run_sliceAt_string W t _ _ _ _ ht, run_slice_string_from_if W t s .i64 i ht, if_pos ⟨h0, h⟩]
theorem extract_list (s : ByteArray) (i j : Nat) : (s.extract i j).data.toList = (s.data.toList.take j).drop i := by
  simp [ByteArray.data_extract, Array.toList_extract, List.drop_take]

/-- a text's two parts -/
theorem fits_parts (s : ByteArray) (h : 4 ≤ s.size) : ∃ p q : ByteArray, Hid (p.size ≤ s.size) ∧
    (∀ W, (Instr.sliceAt 9 (.string s) none (some (.int .i64 ((s.size : Int) - 4))) none).run Tryz.prog W = .ok (.string p) W) ∧
    (∀ W, (Instr.sliceAt 9 (.string s) (some (.int .i64 ((s.size : Int) - 4))) none none).run Tryz.prog W = .ok (.string q) W) ∧
    Hid (fits s.data.toList = (putL (sumOf p.data.toList) == q.toList)) := by
  refine ⟨_, _, ?_, fun W => cut_to 9 Tryz.underlying9 s _ (by omega) (by omega) W, fun W => cut_from 9 Tryz.underlying9 s _ (by omega) (by omega) W, Lib.hid ?_⟩
  · exact Lib.hid (by simp [ByteArray.size_extract]; omega)
  · rw [fits_long (by rw [size_list]; exact h), ByteArray.toList_eq, extract_list, extract_list, size_list, show ((s.size : Int) - 4).toNat = s.size - 4 by omega, List.drop_zero, List.take_of_length_le (i := s.size) (by rw [size_list]; omega)]

set_option maxRecDepth 100000 in
set_option maxHeartbeats 400000 in
theorem fits_calls (s : ByteArray) (hs : s.size ≤ 9223372036854775807) (w : World) :
    Calls Tryz.prog 55 #[.string s] w fun e w' => e = .returned (.bool (fits s.data.toList)) ∧ Below w.heap.size w w' := by
  by_cases h : 4 ≤ s.size
  · obtain ⟨p, q, hp, h1, h2, hf⟩ := fits_parts s h
    have d1 : decide ((4 : Int) ≤ (s.size : Int)) = true := decide_eq_true (by omega)
    have d2 : decide ((0 : Int) ≤ (s.size : Int) - 4) = true := decide_eq_true (by omega)
    have hB : Hid (Below w.heap.size w w) := Lib.hid (Below.refl _ _)
    go_enter Tryz.func55, Tryz.ntmps55
    go_wp2_with fail
    go_region_held3 (fun w' => Below w.heap.size w w')
      (first
        | exact hB.out.drew
        | (exact Below.trans (by assumption) (hb5.mono (Below.size (by assumption))))
        | assumption)
      (first
        | (go_at_call 70; refine (of_calls _ (Nat.le_trans hp.out hs) _).mono ?_; rintro e w5 ⟨rfl, rfl⟩)
        | (go_at_call 69; refine (put_calls _ _).mono ?_; rintro e w5 ⟨rfl, hb5⟩))
    all_goals (go_wp2_with fail; go_ret; exact ⟨ret_bool (by rw [hf.out]; exact Bool.eq_iff_iff.2 (by rw [beq_iff_eq, beq_iff_eq, eq_comm])), by assumption⟩)
  · have h4 : s.size < 4 := by omega
    rw [fits_short (by rw [size_list]; exact h4)]
    have d1 : decide ((4 : Int) ≤ (s.size : Int)) = false := decide_eq_false (by omega)
    have d2 : decide ((0 : Int) ≤ (s.size : Int) - 4) = false := decide_eq_false (by omega)
    go_enter Tryz.func55, Tryz.ntmps55
    go_wp2_with fail
    go_quiet (fail)
    go_wp2_with fail
    go_ret
    exact ⟨rfl, below_drewN (Below.refl _ _) _⟩

end Go.Proofs.YtpaeemkdjgbejaaGreat.Sum
end

section
namespace Go.Proofs.YtpaeemkdjgbejaaGreat.Rec
open Go.RowKit Go.Proofs.YtpaeemkdjgbejaaGreat.Sum

/-- may a number be a tick? -/
def isT (n : Int) : Bool := decide (0 ≤ n) && decide (n ≤ 1099511627776)
theorem isT_iff {n : Int} : isT n = true ↔ 0 ≤ n ∧ n ≤ 1099511627776 := by simp [isT]
theorem isT_not {n : Int} : isT n = false ↔ n < 0 ∨ 1099511627776 < n := by
  rw [← Bool.not_eq_true, isT_iff]; omega
theorem ist_calls (n : Int) (w : World) :
    Calls Tryz.prog 49 #[.int .i64 n] w fun e w' => e = .returned (.bool (isT n)) ∧ w = w' := by
  by_cases h0 : 0 ≤ n
  · by_cases h1 : n ≤ 1099511627776
    · go_enter Tryz.func49, Tryz.ntmps49
      go_wp2
      go_ret
      exact ⟨ret_bool (by rw [isT_iff.2 ⟨h0, h1⟩]), rfl⟩
    · go_enter Tryz.func49, Tryz.ntmps49
      go_wp2
      go_ret
      exact ⟨ret_bool (by rw [isT_not.2 (by omega)]), rfl⟩
  · go_enter Tryz.func49, Tryz.ntmps49
    go_wp2
    go_ret
    exact ⟨ret_bool (by rw [isT_not.2 (by omega)]), rfl⟩

/-- the ways through an item's check -/
theorem chk_ways (k a : Int) (b : ByteArray) :
    (k < 1 ∧ chk ⟨k, a, b⟩ = 1) ∨ (1 ≤ k ∧ 15 < k ∧ chk ⟨k, a, b⟩ = 1) ∨ (1 ≤ k ∧ k ≤ 15 ∧ a < 0 ∧ chk ⟨k, a, b⟩ = 2) ∨ (1 ≤ k ∧ k ≤ 15 ∧ 0 ≤ a ∧ 1099511627776 < a ∧ chk ⟨k, a, b⟩ = 2) ∨
    (1 ≤ k ∧ k ≤ 15 ∧ 0 ≤ a ∧ a ≤ 1099511627776 ∧ 4096 < b.size ∧ chk ⟨k, a, b⟩ = 5) ∨ (1 ≤ k ∧ k ≤ 15 ∧ 0 ≤ a ∧ a ≤ 1099511627776 ∧ b.size ≤ 4096 ∧ chk ⟨k, a, b⟩ = 0) := by
  by_cases h1 : k < 1
  · exact .inl ⟨h1, chk_arg (.inl h1)⟩
  · by_cases h2 : 15 < k
    · exact .inr (.inl ⟨by omega, h2, chk_arg (.inr h2)⟩)
    · have k1 : 1 ≤ k := by omega
      have k2 : k ≤ 15 := by omega
      by_cases h3 : a < 0
      · exact .inr (.inr (.inl ⟨k1, k2, h3, chk_range k1 k2 (.inl h3)⟩))
      · by_cases h4 : 1099511627776 < a
        · exact .inr (.inr (.inr (.inl ⟨k1, k2, by omega, h4, chk_range k1 k2 (.inr h4)⟩)))
        · by_cases h5 : 4096 < b.size
          · exact .inr (.inr (.inr (.inr (.inl ⟨k1, k2, by omega, by omega, h5, chk_size k1 k2 (show (0 : Int) ≤ a by omega) (show a ≤ 1099511627776 by omega) h5⟩))))
          · exact .inr (.inr (.inr (.inr (.inr ⟨k1, k2, by omega, by omega, by omega, chk_ok.2 ⟨k1, k2, by show (0 : Int) ≤ a; omega, by show a ≤ 1099511627776; omega, by show b.size ≤ 4096; omega⟩⟩))))

set_option maxHeartbeats 400000 in
theorem check_calls (k a : Int) (b : ByteArray) (w : World) :
    Calls Tryz.prog 31 #[.agg #[.int .i64 k, .int .i64 a, .string b]] w fun e w' => e = .returned (.int .i64 (chk ⟨k, a, b⟩)) ∧ Below w.heap.size w w' := by
  rcases chk_ways k a b with ⟨h1, e⟩ | ⟨h1, h2, e⟩ | ⟨h1, h2, h3, e⟩ | ⟨h1, h2, h3, h4, e⟩ | ⟨h1, h2, h3, h4, h5, e⟩ | ⟨h1, h2, h3, h4, h5, e⟩
  all_goals
    have HE := Lib.hid e; clear e
  · go_enter Tryz.func31, Tryz.ntmps31
    go_wp2_with fail
    go_ret
    exact ⟨ret_i64 HE.out.symm, (Below.refl _ _).alloc (Nat.le_refl _) _⟩
  · go_enter Tryz.func31, Tryz.ntmps31
    go_wp2_with fail
    go_ret
    exact ⟨ret_i64 HE.out.symm, (Below.refl _ _).alloc (Nat.le_refl _) _⟩
  · have hT : isT a = false := isT_not.2 (by omega)
    go_enter Tryz.func31, Tryz.ntmps31
    go_wp2_with (go_at_call 49; refine (ist_calls _ _).mono ?_; rintro e w' ⟨rfl, rfl⟩)
    go_ret
    exact ⟨ret_i64 HE.out.symm, (Below.refl _ _).alloc (Nat.le_refl _) _⟩
  · have hT : isT a = false := isT_not.2 (by omega)
    go_enter Tryz.func31, Tryz.ntmps31
    go_wp2_with (go_at_call 49; refine (ist_calls _ _).mono ?_; rintro e w' ⟨rfl, rfl⟩)
    go_ret
    exact ⟨ret_i64 HE.out.symm, (Below.refl _ _).alloc (Nat.le_refl _) _⟩
  · have hT : isT a = true := isT_iff.2 (by omega)
    go_enter Tryz.func31, Tryz.ntmps31
    go_wp2_with (go_at_call 49; refine (ist_calls _ _).mono ?_; rintro e w' ⟨rfl, rfl⟩)
    go_ret
    exact ⟨ret_i64 HE.out.symm, (Below.refl _ _).alloc (Nat.le_refl _) _⟩
  · have hT : isT a = true := isT_iff.2 (by omega)
    go_enter Tryz.func31, Tryz.ntmps31
    go_wp2_with (go_at_call 49; refine (ist_calls _ _).mono ?_; rintro e w' ⟨rfl, rfl⟩)
    go_ret
    exact ⟨ret_i64 HE.out.symm, (Below.refl _ _).alloc (Nat.le_refl _) _⟩

set_option maxHeartbeats 400000 in
theorem rcheck_calls (k a : Int) (b : ByteArray) (w : World) :
    Calls Tryz.prog 63 #[.agg #[.int .i64 k, .int .i64 a, .string b]] w fun e w' => e = .returned (.int .i64 (chk ⟨k, a, b⟩)) ∧ Below w.heap.size w w' := by
  rcases chk_ways k a b with ⟨h1, e⟩ | ⟨h1, h2, e⟩ | ⟨h1, h2, h3, e⟩ | ⟨h1, h2, h3, h4, e⟩ | ⟨h1, h2, h3, h4, h5, e⟩ | ⟨h1, h2, h3, h4, h5, e⟩
  all_goals
    have HE := Lib.hid e; clear e
    go_enter Tryz.func63, Tryz.ntmps63
    go_wp2_with fail
    go_ret
    exact ⟨ret_i64 HE.out.symm, (Below.refl _ _).alloc (Nat.le_refl _) _⟩

theorem whole_calls (n : Int) (h0 : 0 ≤ n) (h1 : n ≤ 4611686018427387904) (w : World) :
    Calls Tryz.prog 54 #[.int .i64 n] w fun e w' => e = .returned (.int .i64 (14 + n)) ∧ w = w' := by
  go_enter Tryz.func54, Tryz.ntmps54
  go_wp2_with fail
  go_ret
  exact ⟨ret_i64 (by omega), rfl⟩

theorem len_calls (k a : Int) (b : ByteArray) (hb : b.size ≤ 4611686018427387904) (w : World) :
    Calls Tryz.prog 71 #[.agg #[.int .i64 k, .int .i64 a, .string b]] w fun e w' => e = .returned (.int .i64 (14 + (b.size : Int))) ∧ Below w.heap.size w w' := by
  have h0 : (0 : Int) ≤ (b.size : Int) := by omega
  have h1 : (b.size : Int) ≤ 4611686018427387904 := by omega
  go_enter Tryz.func71, Tryz.ntmps71
  go_wp2_with (go_at_call 54; refine (whole_calls _ (by omega) (by omega) _).mono ?_; rintro e w' ⟨rfl, rfl⟩)
  go_ret
  exact ⟨rfl, (Below.refl _ _).alloc (Nat.le_refl _) _⟩

theorem or_more {x c : Int} (h0 : 0 ≤ x) (h1 : x < 1099511627776) (c0 : 0 ≤ c) (c1 : c < 256) : bits .or .i64 (x * 256) c = x * 256 + c := by
  exact bits_join .i64 63 (by decide) (fun n a b => by rw [IntKind.wrap_i64]; omega) 8 _ _ (by omega) (by omega) (by omega) c0 (by omega) (by omega)
theorem be_less (s : ByteArray) (hs : s.size ≤ 6) (k : Nat) (h : k < s.size) : 0 ≤ be (s.data.toList.take k) ∧ be (s.data.toList.take k) < 1099511627776 := by
  have hb := be_range s k (by omega)
  refine ⟨hb.1, Int.lt_of_lt_of_le hb.2 ?_⟩
  have : k = 0 ∨ k = 1 ∨ k = 2 ∨ k = 3 ∨ k = 4 ∨ k = 5 := by omega
  rcases this with rfl | rfl | rfl | rfl | rfl | rfl <;> decide

set_option maxHeartbeats 400000 in
theorem number_calls (s : ByteArray) (hs : s.size ≤ 6) (w : World) :
    Calls Tryz.prog 68 #[.string s] w fun e w' => e = .returned (.int .i64 (be s.data.toList)) ∧ w = w' := by
  go_enter Tryz.func68, Tryz.ntmps68
  go_wp2_with fail
  go_loop [3, 7] (fun n i => ∃ k : Nat, k ≤ s.size ∧ i = .int .i64 k ∧ n = .int .i64 (be (s.data.toList.take k))) (fun _ i => s.size - (intOf i).toNat)
  case atStart => exact ⟨0, Nat.zero_le _, rfl, rfl⟩
  case round =>
    obtain ⟨k, hk, rfl, rfl⟩ := hrel
    by_cases hlt : k < s.size
    · have HS := Lib.hid (be_snoc s k hlt)
      have hc : (s[k].toNat : Int) < 256 := by have := s[k].toNat_lt; omega
      obtain ⟨hb0, hb2⟩ := be_less s hs k hlt
      generalize be (s.data.toList.take k) = v at hb0 hb2 HS ⊢
      have ho := or_more hb0 hb2 (c := (s[k].toNat : Int)) (by omega) (by omega)
      go_wp2_with fail
      go_round
      case rel => exact ⟨k + 1, by omega, by go_num, by rw [HS.out]⟩
      case measure => simp [intOf]; omega
    · have he : s.data.toList.take k = s.data.toList := List.take_of_length_le (by rw [size_list]; omega)
      rw [he] at *
      clear he
      go_wp2_with fail
      go_ret
      exact ⟨rfl, rfl⟩

set_option maxHeartbeats 400000 in
theorem rnumber_calls (s : ByteArray) (hs : s.size ≤ 6) (w : World) :
    Calls Tryz.prog 62 #[.string s] w fun e w' => e = .returned (.int .i64 (be s.data.toList)) ∧ w = w' := by
  go_enter Tryz.func62, Tryz.ntmps62
  go_wp2_with fail
  go_loop [3, 4] (fun n i => ∃ k : Nat, k ≤ s.size ∧ i = .int .i64 k ∧ n = .int .i64 (be (s.data.toList.take k))) (fun _ i => s.size - (intOf i).toNat)
  case atStart => exact ⟨0, Nat.zero_le _, rfl, rfl⟩
  case round =>
    obtain ⟨k, hk, rfl, rfl⟩ := hrel
    by_cases hlt : k < s.size
    · have HS := Lib.hid (be_snoc s k hlt)
      have hc : (s[k].toNat : Int) < 256 := by have := s[k].toNat_lt; omega
      obtain ⟨hb0, hb2⟩ := be_less s hs k hlt
      generalize be (s.data.toList.take k) = v at hb0 hb2 HS ⊢
      go_wp2_with fail
      go_round
      case rel => exact ⟨k + 1, by omega, by go_num, by rw [HS.out, Int.mul_comm]⟩
      case measure => simp [intOf]; omega
    · have he : s.data.toList.take k = s.data.toList := List.take_of_length_le (by rw [size_list]; omega)
      rw [he] at *
      clear he
      go_wp2_with fail
      go_ret
      exact ⟨rfl, rfl⟩

end Go.Proofs.YtpaeemkdjgbejaaGreat.Rec
end

section
namespace Go.Proofs.YtpaeemkdjgbejaaGreat.Rec
open Go.RowKit Go.Proofs.YtpaeemkdjgbejaaGreat.Sum Go.Proofs.YtpaeemkdjgbejaaGreat.Own

/-- bytes put behind the p bytes of a room -/
def PutIn (g o p c : Nat) (cur : List Value) (l : List UInt8) (w : World) (e : Ending) (w' : World) : Prop :=
  e = .returned (.slice (some ⟨g, o, none⟩) (p + l.length) c) ∧ w'.heap[g]? = some (.cells (splice cur (o + p) (bv l)).toArray 5 (0, 0)) ∧ Out (fun k => k = g) w w'

/-- so many bytes are put -/
structure NumAt (g o p c : Nat) (cur : List Value) (l : List UInt8) (w wr : World) (v : Value) : Prop where
  val : v = .slice (some ⟨g, o, none⟩) (p + l.length) c
  row : wr.heap[g]? = some (.cells (splice cur (o + p) (bv l)).toArray 5 (0, 0))
  out : Out (fun k => k = g) w wr
theorem NumAt.cast {g o p c : Nat} {cur : List Value} {l l' : List UInt8} {w wr : World} {v : Value} (h : NumAt g o p c cur l w wr v) (e : l = l') : NumAt g o p c cur l' w wr v := e ▸ h
theorem NumAt.step {g o p c : Nat} {cur : List Value} {l : List UInt8} {w wr w1 : World} {v : Value} {b : UInt8} (h : NumAt g o p c cur l w wr v) (hf : o + p + l.length + 1 ≤ cur.length) {ob : Obj}
    (h1 : w1.heap[g]? = some (.cells (splice (splice cur (o + p) (bv l)) (o + (p + l.length)) (bv [b])).toArray 5 (0, 0))) (ho : Out (fun k => k = g) (wr.alloc ob) w1) :
    NumAt g o p c cur (l ++ [b]) w w1 (.slice (some ⟨g, o, none⟩) (p + l.length + 1) c) := by
  refine ⟨by rw [List.length_append]; rfl, ?_, (h.out.alloc ob).trans ho (fun _ _ h => h)⟩
  rw [h1, show o + (p + l.length) = o + p + (bv l).length by rw [bv_len]; omega, splice_two _ _ _ _ (by rw [bv_len]; omega), ← bv_app]

theorem byte_new (w : World) (x : Int) (b : UInt8) (hb : (b.toNat : Int) = x) (T : TypeId) (g : Nat) (hg : g = w.heap.size) : ∀ j u, (bv [b])[j]? = some u → (w.alloc (.cells #[.int .u8 x] T (0, 0))).cell? ((⟨g, 0, none⟩ : Addr).add j) = some u := by
  subst hg hb
  intro j u hu
  rw [add_at, Own.at_cell (at_new w _), Nat.zero_add]
  simpa [bv] using hu

theorem dig2 {n : Int} (_ : 0 ≤ n) (h1 : n < 65536) : dig 2 n = [byteI (n / 256), byteI (n % 256)] := by
  have e : dig 2 n = [byteI (n / 256 % 256), byteI (n % 256)] := rfl
  rw [e, show n / 256 % 256 = n / 256 by omega]
theorem dig6 {n : Int} (_ : 0 ≤ n) (h1 : n < 281474976710656) : dig 6 n = [byteI (n / 1099511627776), byteI (n / 4294967296 % 256), byteI (n / 16777216 % 256), byteI (n / 65536 % 256), byteI (n / 256 % 256), byteI (n % 256)] := by
  have e : dig 6 n = [byteI (n / 256 / 256 / 256 / 256 / 256 % 256), byteI (n / 256 / 256 / 256 / 256 % 256), byteI (n / 256 / 256 / 256 % 256), byteI (n / 256 / 256 % 256), byteI (n / 256 % 256), byteI (n % 256)] := rfl
  rw [e, show n / 256 / 256 / 256 / 256 / 256 % 256 = n / 1099511627776 by omega, show n / 256 / 256 / 256 / 256 % 256 = n / 4294967296 % 256 by omega, show n / 256 / 256 / 256 % 256 = n / 16777216 % 256 by omega, show n / 256 / 256 % 256 = n / 65536 % 256 by omega]

set_option maxRecDepth 100000 in
set_option maxHeartbeats 2000000 in
theorem num2_calls (w : World) (g o p c : Nat) (cur : List Value) (n : Int) (n0 : 0 ≤ n) (n1 : n < 65536) (hg : w.heap[g]? = some (.cells cur.toArray 5 (0, 0))) (hroom : p + 2 ≤ c) (hfit : o + c ≤ cur.length) :
    Calls Tryz.prog 81 #[.slice (some ⟨g, o, none⟩) p c, .int .i64 n, .int .i64 2] w (PutIn g o p c cur (dig 2 n) w) := by
  obtain ⟨i0, hi, hz0, hz1, hz2⟩ := info_parts info_byte
  have hgl := at_lt hg
  have HD := Lib.hid (dig2 n0 n1)
  go_enter Tryz.func81, Tryz.ntmps81
  go_wp2_with fail
  go_loopw [0, 9] (fun v i wr => ∃ k : Nat, k ≤ 2 ∧ i = .int .i64 k ∧ NumAt g o p c cur ((dig 2 n).take k) w wr v) (fun _ i _ => 2 - (intOf i).toNat)
  case atStart => exact ⟨0, by omega, rfl, rfl, by simpa [splice, bv] using hg, Out.refl _ _⟩
  case round =>
    obtain ⟨k, hk, rfl, N⟩ := hrel
    have hk' : k = 0 ∨ k = 1 ∨ k = 2 := by omega
    rw [HD.out] at N
    rcases hk' with rfl | rfl | rfl
    · obtain ⟨l, hl⟩ : ∃ l : List UInt8, [] = l := ⟨_, rfl⟩
      have N := NumAt.cast N hl
      have hll : l.length ≤ 0 := by rw [← hl]; exact Nat.le_refl _
      obtain rfl := N.val
      have hrow := N.row
      have HC : Hid ((splice cur (o + p) (bv l)).length = cur.length) := Lib.hid (length_splice _ _ _ (by rw [bv_len]; omega))
      have HB : Hid (((byteI (n / 256)).toNat : Int) = n / 256) := Lib.hid (byteI_back (by omega) (by omega))
      have HN := Lib.hid N
      have HL := Lib.hid hl
      have hlt : g < wr.heap.size := at_lt hrow
      clear N hl
      go_wp2_with (at_builtin; (refine wp_here _ rfl (.tmp 12) (.tmp 21) 74 rfl 5 i0 Tryz.underlying74 hi hz1 g o (p + l.length) c (splice cur (o + p) (bv l)) 5 rfl (at_old _ _ hrow) ⟨wr.heap.size, 0, none⟩ 1 1 (bv [byteI (n / 256)]) rfl rfl (byte_new _ _ _ HB.out _ _ rfl) (bv_one _) (by omega) (by rw [HC.out]; omega) ?_); intro w1 h1 ho1)
      have N1 := HN.out.step (b := byteI (n / 256)) (by omega) h1 ho1
      have HN1 := Lib.hid N1
      clear h1 ho1 hrow N1
      go_roundw
      case rel => exact ⟨1, by omega, by go_num, by rw [HD.out]; exact NumAt.cast HN1.out (by rw [← HL.out]; rfl)⟩
      case measure => simp [intOf]
    · obtain ⟨l, hl⟩ : ∃ l : List UInt8, [byteI (n / 256)] = l := ⟨_, rfl⟩
      have N := NumAt.cast N hl
      have hll : l.length ≤ 1 := by rw [← hl]; exact Nat.le_refl _
      obtain rfl := N.val
      have hrow := N.row
      have HC : Hid ((splice cur (o + p) (bv l)).length = cur.length) := Lib.hid (length_splice _ _ _ (by rw [bv_len]; omega))
      have HB : Hid (((byteI (n % 256)).toNat : Int) = n % 256) := Lib.hid (byteI_back (by omega) (by omega))
      have HN := Lib.hid N
      have HL := Lib.hid hl
      have hlt : g < wr.heap.size := at_lt hrow
      clear N hl
      go_wp2_with (at_builtin; (refine wp_here _ rfl (.tmp 12) (.tmp 21) 74 rfl 5 i0 Tryz.underlying74 hi hz1 g o (p + l.length) c (splice cur (o + p) (bv l)) 5 rfl (at_old _ _ hrow) ⟨wr.heap.size, 0, none⟩ 1 1 (bv [byteI (n % 256)]) rfl rfl (byte_new _ _ _ HB.out _ _ rfl) (bv_one _) (by omega) (by rw [HC.out]; omega) ?_); intro w1 h1 ho1)
      have N1 := HN.out.step (b := byteI (n % 256)) (by omega) h1 ho1
      have HN1 := Lib.hid N1
      clear h1 ho1 hrow N1
      go_roundw
      case rel => exact ⟨2, by omega, by go_num, by rw [HD.out]; exact NumAt.cast HN1.out (by rw [← HL.out]; rfl)⟩
      case measure => simp [intOf]
    · have N := NumAt.cast (l' := dig 2 n) N (by rw [HD.out]; rfl)
      obtain rfl := N.val
      have HN := Lib.hid N
      clear N
      go_wp2_with fail
      go_ret
      exact ⟨rfl, HN.out.row, HN.out.out⟩

set_option maxRecDepth 100000 in
set_option maxHeartbeats 2000000 in
theorem num6_calls (w : World) (g o p c : Nat) (cur : List Value) (n : Int) (n0 : 0 ≤ n) (n1 : n < 281474976710656) (hg : w.heap[g]? = some (.cells cur.toArray 5 (0, 0))) (hroom : p + 6 ≤ c) (hfit : o + c ≤ cur.length) :
    Calls Tryz.prog 81 #[.slice (some ⟨g, o, none⟩) p c, .int .i64 n, .int .i64 6] w (PutIn g o p c cur (dig 6 n) w) := by
  obtain ⟨i0, hi, hz0, hz1, hz2⟩ := info_parts info_byte
  have hgl := at_lt hg
  have HD := Lib.hid (dig6 n0 n1)
  go_enter Tryz.func81, Tryz.ntmps81
  go_wp2_with fail
  go_loopw [0, 9] (fun v i wr => ∃ k : Nat, k ≤ 6 ∧ i = .int .i64 k ∧ NumAt g o p c cur ((dig 6 n).take k) w wr v) (fun _ i _ => 6 - (intOf i).toNat)
  case atStart => exact ⟨0, by omega, rfl, rfl, by simpa [splice, bv] using hg, Out.refl _ _⟩
  case round =>
    obtain ⟨k, hk, rfl, N⟩ := hrel
    have hk' : k = 0 ∨ k = 1 ∨ k = 2 ∨ k = 3 ∨ k = 4 ∨ k = 5 ∨ k = 6 := by omega
    rw [HD.out] at N
    rcases hk' with rfl | rfl | rfl | rfl | rfl | rfl | rfl
    · obtain ⟨l, hl⟩ : ∃ l : List UInt8, [] = l := ⟨_, rfl⟩
      have N := NumAt.cast N hl
      have hll : l.length ≤ 0 := by rw [← hl]; exact Nat.le_refl _
      obtain rfl := N.val
      have hrow := N.row
      have HC : Hid ((splice cur (o + p) (bv l)).length = cur.length) := Lib.hid (length_splice _ _ _ (by rw [bv_len]; omega))
      have HB : Hid (((byteI (n / 1099511627776)).toNat : Int) = n / 1099511627776) := Lib.hid (byteI_back (by omega) (by omega))
      have HN := Lib.hid N
      have HL := Lib.hid hl
      have hlt : g < wr.heap.size := at_lt hrow
      clear N hl
      go_wp2_with (at_builtin; (refine wp_here _ rfl (.tmp 12) (.tmp 21) 74 rfl 5 i0 Tryz.underlying74 hi hz1 g o (p + l.length) c (splice cur (o + p) (bv l)) 5 rfl (at_old _ _ hrow) ⟨wr.heap.size, 0, none⟩ 1 1 (bv [byteI (n / 1099511627776)]) rfl rfl (byte_new _ _ _ HB.out _ _ rfl) (bv_one _) (by omega) (by rw [HC.out]; omega) ?_); intro w1 h1 ho1)
      have N1 := HN.out.step (b := byteI (n / 1099511627776)) (by omega) h1 ho1
      have HN1 := Lib.hid N1
      clear h1 ho1 hrow N1
      go_roundw
      case rel => exact ⟨1, by omega, by go_num, by rw [HD.out]; exact NumAt.cast HN1.out (by rw [← HL.out]; rfl)⟩
      case measure => simp [intOf]
    · obtain ⟨l, hl⟩ : ∃ l : List UInt8, [byteI (n / 1099511627776)] = l := ⟨_, rfl⟩
      have N := NumAt.cast N hl
      have hll : l.length ≤ 1 := by rw [← hl]; exact Nat.le_refl _
      obtain rfl := N.val
      have hrow := N.row
      have HC : Hid ((splice cur (o + p) (bv l)).length = cur.length) := Lib.hid (length_splice _ _ _ (by rw [bv_len]; omega))
      have HB : Hid (((byteI (n / 4294967296 % 256)).toNat : Int) = n / 4294967296 % 256) := Lib.hid (byteI_back (by omega) (by omega))
      have HN := Lib.hid N
      have HL := Lib.hid hl
      have hlt : g < wr.heap.size := at_lt hrow
      clear N hl
      go_wp2_with (at_builtin; (refine wp_here _ rfl (.tmp 12) (.tmp 21) 74 rfl 5 i0 Tryz.underlying74 hi hz1 g o (p + l.length) c (splice cur (o + p) (bv l)) 5 rfl (at_old _ _ hrow) ⟨wr.heap.size, 0, none⟩ 1 1 (bv [byteI (n / 4294967296 % 256)]) rfl rfl (byte_new _ _ _ HB.out _ _ rfl) (bv_one _) (by omega) (by rw [HC.out]; omega) ?_); intro w1 h1 ho1)
      have N1 := HN.out.step (b := byteI (n / 4294967296 % 256)) (by omega) h1 ho1
      have HN1 := Lib.hid N1
      clear h1 ho1 hrow N1
      go_roundw
      case rel => exact ⟨2, by omega, by go_num, by rw [HD.out]; exact NumAt.cast HN1.out (by rw [← HL.out]; rfl)⟩
      case measure => simp [intOf]
    · obtain ⟨l, hl⟩ : ∃ l : List UInt8, [byteI (n / 1099511627776), byteI (n / 4294967296 % 256)] = l := ⟨_, rfl⟩
      have N := NumAt.cast N hl
      have hll : l.length ≤ 2 := by rw [← hl]; exact Nat.le_refl _
      obtain rfl := N.val
      have hrow := N.row
      have HC : Hid ((splice cur (o + p) (bv l)).length = cur.length) := Lib.hid (length_splice _ _ _ (by rw [bv_len]; omega))
      have HB : Hid (((byteI (n / 16777216 % 256)).toNat : Int) = n / 16777216 % 256) := Lib.hid (byteI_back (by omega) (by omega))
      have HN := Lib.hid N
      have HL := Lib.hid hl
      have hlt : g < wr.heap.size := at_lt hrow
      clear N hl
      go_wp2_with (at_builtin; (refine wp_here _ rfl (.tmp 12) (.tmp 21) 74 rfl 5 i0 Tryz.underlying74 hi hz1 g o (p + l.length) c (splice cur (o + p) (bv l)) 5 rfl (at_old _ _ hrow) ⟨wr.heap.size, 0, none⟩ 1 1 (bv [byteI (n / 16777216 % 256)]) rfl rfl (byte_new _ _ _ HB.out _ _ rfl) (bv_one _) (by omega) (by rw [HC.out]; omega) ?_); intro w1 h1 ho1)
      have N1 := HN.out.step (b := byteI (n / 16777216 % 256)) (by omega) h1 ho1
      have HN1 := Lib.hid N1
      clear h1 ho1 hrow N1
      go_roundw
      case rel => exact ⟨3, by omega, by go_num, by rw [HD.out]; exact NumAt.cast HN1.out (by rw [← HL.out]; rfl)⟩
      case measure => simp [intOf]
    · obtain ⟨l, hl⟩ : ∃ l : List UInt8, [byteI (n / 1099511627776), byteI (n / 4294967296 % 256), byteI (n / 16777216 % 256)] = l := ⟨_, rfl⟩
      have N := NumAt.cast N hl
      have hll : l.length ≤ 3 := by rw [← hl]; exact Nat.le_refl _
      obtain rfl := N.val
      have hrow := N.row
      have HC : Hid ((splice cur (o + p) (bv l)).length = cur.length) := Lib.hid (length_splice _ _ _ (by rw [bv_len]; omega))
      have HB : Hid (((byteI (n / 65536 % 256)).toNat : Int) = n / 65536 % 256) := Lib.hid (byteI_back (by omega) (by omega))
      have HN := Lib.hid N
      have HL := Lib.hid hl
      have hlt : g < wr.heap.size := at_lt hrow
      clear N hl
      go_wp2_with (at_builtin; (refine wp_here _ rfl (.tmp 12) (.tmp 21) 74 rfl 5 i0 Tryz.underlying74 hi hz1 g o (p + l.length) c (splice cur (o + p) (bv l)) 5 rfl (at_old _ _ hrow) ⟨wr.heap.size, 0, none⟩ 1 1 (bv [byteI (n / 65536 % 256)]) rfl rfl (byte_new _ _ _ HB.out _ _ rfl) (bv_one _) (by omega) (by rw [HC.out]; omega) ?_); intro w1 h1 ho1)
      have N1 := HN.out.step (b := byteI (n / 65536 % 256)) (by omega) h1 ho1
      have HN1 := Lib.hid N1
      clear h1 ho1 hrow N1
      go_roundw
      case rel => exact ⟨4, by omega, by go_num, by rw [HD.out]; exact NumAt.cast HN1.out (by rw [← HL.out]; rfl)⟩
      case measure => simp [intOf]
    · obtain ⟨l, hl⟩ : ∃ l : List UInt8, [byteI (n / 1099511627776), byteI (n / 4294967296 % 256), byteI (n / 16777216 % 256), byteI (n / 65536 % 256)] = l := ⟨_, rfl⟩
      have N := NumAt.cast N hl
      have hll : l.length ≤ 4 := by rw [← hl]; exact Nat.le_refl _
      obtain rfl := N.val
      have hrow := N.row
      have HC : Hid ((splice cur (o + p) (bv l)).length = cur.length) := Lib.hid (length_splice _ _ _ (by rw [bv_len]; omega))
      have HB : Hid (((byteI (n / 256 % 256)).toNat : Int) = n / 256 % 256) := Lib.hid (byteI_back (by omega) (by omega))
      have HN := Lib.hid N
      have HL := Lib.hid hl
      have hlt : g < wr.heap.size := at_lt hrow
      clear N hl
      go_wp2_with (at_builtin; (refine wp_here _ rfl (.tmp 12) (.tmp 21) 74 rfl 5 i0 Tryz.underlying74 hi hz1 g o (p + l.length) c (splice cur (o + p) (bv l)) 5 rfl (at_old _ _ hrow) ⟨wr.heap.size, 0, none⟩ 1 1 (bv [byteI (n / 256 % 256)]) rfl rfl (byte_new _ _ _ HB.out _ _ rfl) (bv_one _) (by omega) (by rw [HC.out]; omega) ?_); intro w1 h1 ho1)
      have N1 := HN.out.step (b := byteI (n / 256 % 256)) (by omega) h1 ho1
      have HN1 := Lib.hid N1
      clear h1 ho1 hrow N1
      go_roundw
      case rel => exact ⟨5, by omega, by go_num, by rw [HD.out]; exact NumAt.cast HN1.out (by rw [← HL.out]; rfl)⟩
      case measure => simp [intOf]
    · obtain ⟨l, hl⟩ : ∃ l : List UInt8, [byteI (n / 1099511627776), byteI (n / 4294967296 % 256), byteI (n / 16777216 % 256), byteI (n / 65536 % 256), byteI (n / 256 % 256)] = l := ⟨_, rfl⟩
      have N := NumAt.cast N hl
      have hll : l.length ≤ 5 := by rw [← hl]; exact Nat.le_refl _
      obtain rfl := N.val
      have hrow := N.row
      have HC : Hid ((splice cur (o + p) (bv l)).length = cur.length) := Lib.hid (length_splice _ _ _ (by rw [bv_len]; omega))
      have HB : Hid (((byteI (n % 256)).toNat : Int) = n % 256) := Lib.hid (byteI_back (by omega) (by omega))
      have HN := Lib.hid N
      have HL := Lib.hid hl
      have hlt : g < wr.heap.size := at_lt hrow
      clear N hl
      go_wp2_with (at_builtin; (refine wp_here _ rfl (.tmp 12) (.tmp 21) 74 rfl 5 i0 Tryz.underlying74 hi hz1 g o (p + l.length) c (splice cur (o + p) (bv l)) 5 rfl (at_old _ _ hrow) ⟨wr.heap.size, 0, none⟩ 1 1 (bv [byteI (n % 256)]) rfl rfl (byte_new _ _ _ HB.out _ _ rfl) (bv_one _) (by omega) (by rw [HC.out]; omega) ?_); intro w1 h1 ho1)
      have N1 := HN.out.step (b := byteI (n % 256)) (by omega) h1 ho1
      have HN1 := Lib.hid N1
      clear h1 ho1 hrow N1
      go_roundw
      case rel => exact ⟨6, by omega, by go_num, by rw [HD.out]; exact NumAt.cast HN1.out (by rw [← HL.out]; rfl)⟩
      case measure => simp [intOf]
    · have N := NumAt.cast (l' := dig 6 n) N (by rw [HD.out]; rfl)
      obtain rfl := N.val
      have HN := Lib.hid N
      clear N
      go_wp2_with fail
      go_ret
      exact ⟨rfl, HN.out.row, HN.out.out⟩

theorem two_new (w : World) (x : Int) (b : UInt8) (hb : (b.toNat : Int) = x) (T : TypeId) (g : Nat) (hg : g = w.heap.size) : ∀ j u, (bv [87, b])[j]? = some u → (w.alloc (.cells #[.int .u8 87, .int .u8 x] T (0, 0))).cell? ((⟨g, 0, none⟩ : Addr).add j) = some u := by
  subst hg hb
  intro j u hu
  rw [add_at, Own.at_cell (at_new w _), Nat.zero_add]
  simpa [bv] using hu
theorem box3 {w : World} {b : Nat} {x y z : Value} {t : TypeId} (h : w.heap[b]? = some (.cells #[x, y, z] t (0, 0))) :
    w.cell? ⟨b, 0, none⟩ = some x ∧ w.cell? ⟨b, 1, none⟩ = some y ∧ w.cell? ⟨b, 2, none⟩ = some z :=
  ⟨Own.at_cell h 0, Own.at_cell h 1, Own.at_cell h 2⟩
theorem sp {cur : List Value} {o p : Nat} {l m r : List UInt8} (hp : l.length = p) (hr : l ++ m = r) (h : o + p ≤ cur.length) : splice (splice cur o (bv l)) (o + p) (bv m) = splice cur o (bv r) := by
  subst hp hr
  have := splice_two cur (bv l) (bv m) o (by rw [bv_len]; exact h)
  rw [bv_len] at this
  rw [this, bv_app]
theorem sp_len {cur : List Value} {o : Nat} {l : List UInt8} (h : o + l.length ≤ cur.length) : (splice cur o (bv l)).length = cur.length := length_splice _ _ _ (by rw [bv_len]; exact h)
theorem ret_slice {A : Option Addr} {n m c : Nat} (h : n = m) : Ending.returned (.slice A n c) = .returned (.slice A m c) := by rw [h]

/-- bytes that are put so far: the row, the item's box -/
structure PutAt (g o : Nat) (cur : List Value) (k a : Int) (b : ByteArray) (l : List UInt8) (w wr : World) : Prop where
  row : wr.heap[g]? = some (.cells (splice cur o (bv l)).toArray 5 (0, 0))
  box : wr.heap[w.heap.size]? = some (.cells #[.int .i64 k, .int .i64 a, .string b] 36 (0, 0))
  out : Out (fun k => k = g) w wr
theorem PutAt.step {g o p : Nat} {cur : List Value} {k a : Int} {b : ByteArray} {l m r : List UInt8} {w wr w1 : World} (h : PutAt g o cur k a b l w wr) (hg : g < w.heap.size) (hp : l.length = p) (hr : l ++ m = r) (hf : o + p ≤ cur.length)
    (h1 : w1.heap[g]? = some (.cells (splice (splice cur o (bv l)) (o + p) (bv m)).toArray 5 (0, 0))) (ho : Out (fun k => k = g) wr w1) : PutAt g o cur k a b r w w1 :=
  ⟨by rw [h1, sp hp hr hf], ho.at_ h.box (by omega), h.out.trans ho (fun _ _ h => h)⟩
theorem PutAt.below {g o : Nat} {cur : List Value} {k a : Int} {b : ByteArray} {l : List UInt8} {w wr w1 : World} (h : PutAt g o cur k a b l w wr) (hb : Below wr.heap.size wr w1) : PutAt g o cur k a b l w w1 :=
  ⟨(hb.block g (at_lt h.row)).trans h.row, (hb.block _ (at_lt h.box)).trans h.box, h.out.trans (Out.ofNew (S := fun k => k = g) hb) (fun _ _ h => h)⟩

set_option maxRecDepth 100000 in
set_option maxHeartbeats 2000000 in
theorem item_calls (w : World) (g o c : Nat) (cur : List Value) (k a : Int) (b : ByteArray) (hx : chk ⟨k, a, b⟩ = 0) (hg : w.heap[g]? = some (.cells cur.toArray 5 (0, 0))) (hroom : 14 + b.size ≤ c) (hfit : o + c ≤ cur.length) :
    Calls Tryz.prog 72 #[.slice (some ⟨g, o, none⟩) 0 c, .agg #[.int .i64 k, .int .i64 a, .string b]] w (PutIn g o 0 c cur (bytesOf ⟨k, a, b⟩) w) := by
  obtain ⟨i0, hi, hz0, hz1, hz2⟩ := info_parts info_byte
  obtain ⟨k0, k1, a0, a1, b1⟩ := chk_ok.1 hx
  change 1 ≤ k at k0; change k ≤ 15 at k1; change 0 ≤ a at a0; change a ≤ 1099511627776 at a1; change b.size ≤ 4096 at b1
  have hgl := at_lt hg
  have HB : Hid (((byteI k).toNat : Int) = k) := Lib.hid (byteI_back (by omega) (by omega))
  have HS := Lib.hid (noSum_len ⟨k, a, b⟩)
  have HH := Lib.hid (head_len ⟨k, a, b⟩)
  go_enter Tryz.func72, Tryz.ntmps72
  go_wp2_with (at_builtin; refine wp_here _ rfl (.tmp 6) (.tmp 10) 74 rfl 5 i0 Tryz.underlying74 hi hz1 g o 0 c cur 5 rfl (at_old _ _ (at_old _ _ hg)) ⟨w.heap.size + 1, 0, none⟩ 2 2 (bv [87, byteI k]) rfl rfl (two_new _ _ _ HB.out _ _ (by simp)) (bv_one _) (by omega) (by omega) ?_; intro w1 h1 ho1; have P1 : PutAt g o cur k a b [87, byteI k] w w1 := ⟨h1, ho1.at_ (at_old _ _ (at_new _ _)) (by omega), (((Out.refl (fun k => k = g) w).alloc _).alloc _).trans ho1 (fun _ _ h => h)⟩; clear h1 ho1; obtain ⟨x0, x1, x2⟩ := box3 P1.box; have HP1 := Lib.hid P1; clear P1)
  refine (num6_calls w1 g o 2 c (splice cur o (bv [87, byteI k])) a a0 (by omega) HP1.out.row (by omega) (by rw [sp_len (by show o + 2 ≤ _; omega)]; exact hfit)).mono ?_
  rintro e w2 ⟨rfl, h2, ho2⟩
  have P2 := HP1.out.step (p := 2) hgl rfl rfl (by omega) h2 ho2
  clear h2 ho2 x0 x1 x2 HP1
  obtain ⟨x0, x1, x2⟩ := box3 P2.box
  have HP2 := Lib.hid P2
  clear P2
  rw [show 2 + (dig 6 a).length = 8 by rw [dig_len]]
  have b0 : (0 : Int) ≤ (b.size : Int) := by omega
  have b2 : (b.size : Int) < 65536 := by omega
  go_wp2_with fail
  refine (num2_calls w2 g o 8 c (splice cur o (bv ([87, byteI k] ++ dig 6 a))) (b.size : Int) b0 b2 HP2.out.row (by omega) (by rw [sp_len (by rw [List.length_append, dig_len]; show o + 8 ≤ _; omega)]; exact hfit)).mono ?_
  rintro e w3 ⟨rfl, h3, ho3⟩
  have P3 : PutAt g o cur k a b (headL ⟨k, a, b⟩) w w3 := HP2.out.step (p := 8) hgl (by rw [List.length_append, dig_len]; rfl) (by rw [List.append_assoc]; rfl) (by omega) h3 ho3
  clear h3 ho3 x0 x1 x2 HP2
  obtain ⟨x0, x1, x2⟩ := box3 P3.box
  have hr3 := P3.row
  have HP3 := Lib.hid P3
  clear P3
  rw [show 8 + (dig 2 (b.size : Int)).length = 10 by rw [dig_len]]
  have HOf : Hid (∀ W, Calls Tryz.prog 70 #[.string ⟨(noSum ⟨k, a, b⟩).toArray⟩] W fun e w' => e = .returned (.int .i64 (sumOf (noSum ⟨k, a, b⟩))) ∧ W = w') := Lib.hid (fun W => of_calls _ (by show (noSum ⟨k, a, b⟩).length ≤ _; rw [HS.out]; show 10 + b.size ≤ _; omega) W)
  go_wp2_with (at_builtin; refine wp_here_text _ rfl (.tmp 21) (.tmp 23) 74 9 rfl 5 i0 Tryz.underlying74 Tryz.underlying9 hi hz1 g o 10 c (splice cur o (bv (headL ⟨k, a, b⟩))) 5 rfl hr3 b rfl (by omega) (by rw [sp_len (by rw [HH.out]; omega)]; omega) ?_; intro w4 h4 ho4; have P4 : PutAt g o cur k a b (noSum ⟨k, a, b⟩) w w4 := HP3.out.step (p := 10) hgl HH.out rfl (by omega) h4 ho4; clear h4 ho4 x0 x1 x2 HP3; have hcv := text_of (n := 10 + b.size) (cap := c) (l := noSum ⟨k, a, b⟩) (o := o) P4.row HS.out (fun j hj => splice_at _ _ _ _ (by omega) (by rw [bv_len, HS.out]; exact hj)); have HP4 := Lib.hid P4; clear P4)
  refine (HOf.out _).mono ?_
  rintro e w' ⟨rfl, rfl⟩
  go_wp2_with fail
  refine (Sum.put_calls _ _).mono ?_
  rintro e w5 ⟨rfl, hb5⟩
  have P5 := HP4.out.below hb5
  have hr5 := P5.row
  have h4 : (⟨(putL (sumOf (noSum ⟨k, a, b⟩))).toArray⟩ : ByteArray).size = 4 := by show (putL (sumOf (noSum ⟨k, a, b⟩))).length = 4; rw [put_sum, four_len]
  have H4 := Lib.hid h4
  have HP5 := Lib.hid P5
  clear P5 hb5 hcv h4
  go_wp2_with (at_builtin; refine wp_here_text _ rfl (.tmp 25) (.tmp 29) 74 9 rfl 5 i0 Tryz.underlying74 Tryz.underlying9 hi hz1 g o (10 + b.size) c (splice cur o (bv (noSum ⟨k, a, b⟩))) 5 rfl hr5 _ rfl (by rw [H4.out]; omega) (by rw [sp_len (by rw [HS.out]; show o + (10 + b.size) ≤ _; omega), H4.out]; omega) ?_; intro w6 h6 ho6; have P6 : PutAt g o cur k a b (bytesOf ⟨k, a, b⟩) w w6 := HP5.out.step (p := 10 + b.size) hgl HS.out rfl (by omega) h6 ho6; clear h6 ho6; have HP6 := Lib.hid P6; clear P6)
  go_ret
  exact ⟨ret_slice (by rw [bytes_len, put_sum, four_len]; show 10 + b.size + 4 = 0 + (14 + b.size); omega), HP6.out.row, HP6.out.out⟩

end Go.Proofs.YtpaeemkdjgbejaaGreat.Rec
end

section
namespace Go.Proofs.YtpaeemkdjgbejaaGreat.Rec
open Go.RowKit Go.Proofs.YtpaeemkdjgbejaaGreat.Sum

theorem cut_mid {P : Program} (t : TypeId) (ht : P.underlying t = some .string) (s : ByteArray) (i j : Int) (h0 : 0 ≤ i) (h1 : i ≤ j) (h : j ≤ s.size) (W : World) :
    (Instr.sliceAt t (.string s) (some (.int .i64 i)) (some (.int .i64 j)) none).run P W = .ok (.string (s.extract i.toNat j.toNat)) W := by
  rw [run_sliceAt_string W t _ _ _ _ ht, run_slice_string W t s .i64 .i64 i j ht h0 h1 h]
theorem first_of (s : ByteArray) (h : 0 < s.size) : s.data.toList.head? = some s[0] := by
  obtain ⟨⟨l⟩⟩ := s
  cases l with
  | nil => exact absurd h (Nat.lt_irrefl 0)
  | cons a l => rfl
theorem kd_of (s : ByteArray) (h : 1 < s.size) : kd s.data.toList = (s[1].toNat : Int) := by
  obtain ⟨⟨l⟩⟩ := s
  match l, h with
  | a :: b :: l, _ => rfl
theorem mid_list (s : ByteArray) (i j : Nat) : (s.extract i j).data.toList = (s.data.toList.drop i).take (j - i) := by
  rw [extract_list, List.drop_take]
theorem mid_size (s : ByteArray) (i j : Nat) : (s.extract i j).size ≤ j - i := by
  simp [ByteArray.size_extract]; omega

theorem row3 {w : World} {b : Nat} {x y z : Value} {t : TypeId} (h : w.heap[b]? = some (.cells #[x, y, z] t (0, 0))) :
    w.cell? ⟨b, 0, none⟩ = some x ∧ w.cell? ⟨b, 1, none⟩ = some y ∧ w.cell? ⟨b, 2, none⟩ = some z ∧ w.frozen? ⟨b, 0, none⟩ = false ∧ w.frozen? ⟨b, 1, none⟩ = false ∧ w.frozen? ⟨b, 2, none⟩ = false :=
  ⟨Own.at_cell h 0, Own.at_cell h 1, Own.at_cell h 2, Own.at_frozen h 0, Own.at_frozen h 1, Own.at_frozen h 2⟩

/-- what an item's head tells -/
structure Parts (s : ByteArray) (a n : Int) : Prop where
  at_ : ∃ p : ByteArray, p.size ≤ 6 ∧ be p.data.toList = a ∧ ∀ W, (Instr.sliceAt 9 (.string s) (some (.int .i64 2)) (some (.int .i64 8)) none).run Tryz.prog W = .ok (.string p) W
  ln : ∃ p : ByteArray, p.size ≤ 6 ∧ be p.data.toList = n ∧ ∀ W, (Instr.sliceAt 9 (.string s) (some (.int .i64 8)) (some (.int .i64 10)) none).run Tryz.prog W = .ok (.string p) W
theorem parts_of (s : ByteArray) (h : 10 ≤ s.size) : Parts s (Rec.at_ s.data.toList) (Rec.ln s.data.toList) :=
  ⟨⟨s.extract 2 8, mid_size s 2 8, by rw [mid_list]; rfl, fun W => cut_mid 9 Tryz.underlying9 s 2 8 (by omega) (by omega) (by omega) W⟩,
   ⟨s.extract 8 10, Nat.le_trans (mid_size s 8 10) (by omega), by rw [mid_list]; rfl, fun W => cut_mid 9 Tryz.underlying9 s 8 10 (by omega) (by omega) (by omega) W⟩⟩

/-- the ways through an item's head -/
theorem head_ways (s : ByteArray) : s = ByteArray.empty ∨ ((s.toList == []) = false ∧ ∃ h : 0 < s.size,
    ((((s[0].toNat : Int) == 87) = false ∧ hdC s.data.toList = 3) ∨
     (((s[0].toNat : Int) == 87) = true ∧ s.size < 10 ∧ hdC s.data.toList = 13) ∨
     (((s[0].toNat : Int) == 87) = true ∧ ∃ h10 : 10 ≤ s.size, kd s.data.toList = (s[1].toNat : Int) ∧
       ((chk (hdI s.data.toList) ≠ 0 ∧ hdC s.data.toList = chk (hdI s.data.toList)) ∨
        (chk (hdI s.data.toList) = 0 ∧ 4096 < ln s.data.toList ∧ hdC s.data.toList = 5) ∨
        (chk (hdI s.data.toList) = 0 ∧ ln s.data.toList ≤ 4096 ∧ hdC s.data.toList = 0))))) := by
  by_cases h0 : s.size = 0
  · exact .inl (ByteArray.ext (Array.eq_empty_of_size_eq_zero h0))
  · right
    have hp : 0 < s.size := by omega
    have hne : s.data.toList ≠ [] := by
      intro e; apply h0; rw [← size_list, e]; rfl
    refine ⟨by rw [beq_eq_false_iff_ne, ByteArray.toList_eq]; exact hne, hp, ?_⟩
    have hf := first_of s hp
    by_cases h1 : s[0] = 87
    · have hb : ((s[0].toNat : Int) == 87) = true := by rw [h1]; rfl
      rw [h1] at hf
      right
      by_cases h2 : s.size < 10
      · exact .inl ⟨hb, h2, hd_short hne hf h2⟩
      · right
        have h10 : 10 ≤ s.size := by omega
        refine ⟨hb, h10, kd_of s (by omega), ?_⟩
        by_cases h3 : chk (hdI s.data.toList) = 0
        · right
          by_cases h4 : 4096 < ln s.data.toList
          · exact .inl ⟨h3, h4, hd_size hf h10 h3 h4⟩
          · exact .inr ⟨h3, by omega, hd_ok hf h10 h3 (by omega)⟩
        · exact .inl ⟨h3, hd_chk hf h10 h3⟩
    · left
      refine ⟨?_, hd_form hne (by rw [hf]; simpa using h1)⟩
      rw [beq_eq_false_iff_ne]
      intro e
      apply h1
      apply UInt8.toNat_inj.1
      show s[0].toNat = 87
      omega

def HeadPost (s : ByteArray) (w : World) (e : Ending) (w' : World) : Prop :=
  e = .returned (.tuple #[.agg #[.int .i64 (hdX s.data.toList).k, .int .i64 (hdX s.data.toList).a, .string (hdX s.data.toList).b], .int .i64 (hdN s.data.toList), .int .i64 (hdC s.data.toList)]) ∧ Below w.heap.size w w'
theorem head_none {s : ByteArray} {w w' : World} {c : Int} (h : hdC s.data.toList = c) (hc : c ≠ 0) (hb : Below w.heap.size w w') : HeadPost s w (.returned (.tuple #[.agg #[.int .i64 0, .int .i64 0, .string ByteArray.empty], .int .i64 0, .int .i64 c])) w' := by
  obtain ⟨e1, e2⟩ := hd_none (l := s.data.toList) (by rw [h]; exact hc)
  exact ⟨by rw [e1, e2, h]; rfl, hb⟩
theorem head_some {s : ByteArray} {w w' : World} (h : hdC s.data.toList = 0) (hb : Below w.heap.size w w') : HeadPost s w (.returned (.tuple #[.agg #[.int .i64 (kd s.data.toList), .int .i64 (Rec.at_ s.data.toList), .string ByteArray.empty], .int .i64 (ln s.data.toList), .int .i64 0])) w' := by
  obtain ⟨e1, e2⟩ := hd_some h
  exact ⟨by rw [e1, e2, h]; rfl, hb⟩

set_option maxRecDepth 100000 in
set_option maxHeartbeats 1000000 in
theorem head_calls (s : ByteArray) (hs : s.size ≤ 4611686018427387904) (w : World) :
    Calls Tryz.prog 53 #[.string s] w (HeadPost s w) := by
  rcases head_ways s with rfl | ⟨hz, hp, ⟨h1, e⟩ | ⟨h1, h2, e⟩ | ⟨h1, h10, hk, hx⟩⟩
  · go_enter Tryz.func53, Tryz.ntmps53
    go_wp2_with fail
    refine bodyPost_ret (v := .tuple #[.agg #[.int .i64 0, .int .i64 0, .string ByteArray.empty], .int .i64 0, .int .i64 13]) ?_ rfl (head_none rfl (by decide) ((Below.refl _ _).alloc (Nat.le_refl _) _))
    simp [results, Tryz.results53, go_sem, *]
    rfl
  · have HE := Lib.hid e; clear e
    go_enter Tryz.func53, Tryz.ntmps53
    go_wp2_with fail
    refine bodyPost_ret (v := .tuple #[.agg #[.int .i64 0, .int .i64 0, .string ByteArray.empty], .int .i64 0, .int .i64 3]) ?_ rfl (head_none HE.out (by decide) ((Below.refl _ _).alloc (Nat.le_refl _) _))
    simp [results, Tryz.results53, go_sem, *]
    rfl
  · have HE := Lib.hid e; clear e
    go_enter Tryz.func53, Tryz.ntmps53
    go_wp2_with fail
    refine bodyPost_ret (v := .tuple #[.agg #[.int .i64 0, .int .i64 0, .string ByteArray.empty], .int .i64 0, .int .i64 13]) ?_ rfl (head_none HE.out (by decide) ((Below.refl _ _).alloc (Nat.le_refl _) _))
    simp [results, Tryz.results53, go_sem, *]
    rfl
  · obtain ⟨⟨p, hp6, hpa, hpw⟩, q, hq6, hqn, hqw⟩ := parts_of s h10
    obtain ⟨c, hc⟩ : ∃ c, chk (hdI s.data.toList) = c := ⟨_, rfl⟩
    rw [hc] at hx
    unfold hdI at hc
    rw [hk, ← hpa] at hc
    have HC : Hid (chk ⟨(s[1].toNat : Int), be p.data.toList, ⟨#[]⟩⟩ = c) := Lib.hid hc
    have HN := Lib.hid hqn
    have HP := Lib.hid hpa
    have HK := Lib.hid hk
    have k1 : (1 : Int) < (s.size : Int) := by omega
    have k2 : (s[1].toNat : Int) < 256 := by have := s[1].toNat_lt; omega
    have b1 : ((s[0].toNat : Int) != 87) = false := by simpa using h1
    have b2 : decide ((s.size : Int) < 10) = false := decide_eq_false (by omega)
    have kw : IntKind.i64.wrap (s[1].toNat : Int) = (s[1].toNat : Int) := IntWalk.i64_in _ (by omega)
    clear hc hqn hpa hk
    go_enter Tryz.func53, Tryz.ntmps53
    go_upto_region 7 with (fail)
    go_cut [5] (fun s5 wx => s5 = .pointer (some ⟨w.heap.size + 1, 0, none⟩) ∧ wx = ((w.alloc (.cells #[.int .i64 0, .int .i64 0, .string ⟨#[]⟩] 36)).alloc (.cells #[.int .i64 (s[1].toNat : Int), .int .i64 (be p.data.toList), .string ⟨#[]⟩] 36)).drew)
    case first =>
      go_region_held3 (fun w' => True)
        (first | trivial)
        (first
          | (go_at_call 68; refine (number_calls _ hp6 _).mono ?_; rintro e w5 ⟨rfl, rfl⟩))
      all_goals (go_wp2_with fail; go_meet; exact ⟨rfl, rfl⟩)
    case rest =>
      obtain ⟨rfl, rfl⟩ := hcut
      go_wp2_with fail
      refine (check_calls _ _ _ _).mono ?_
      rintro e w5 ⟨rfl, hb5⟩
      rw [HC.out]
      have hr : w5.heap[w.heap.size]? = some (.cells #[.int .i64 0, .int .i64 0, .string ⟨#[]⟩] 36 (0, 0)) := by
        rw [hb5.block w.heap.size (by simp; omega)]; show ((w.alloc _).alloc _).heap[_]? = _; exact Own.at_old _ _ (Own.at_new _ _)
      have hq : w5.heap[w.heap.size + 1]? = some (.cells #[.int .i64 (s[1].toNat : Int), .int .i64 (be p.data.toList), .string ⟨#[]⟩] 36 (0, 0)) := by
        rw [hb5.block (w.heap.size + 1) (by simp)]; show ((w.alloc _).alloc _).heap[_]? = _; exact Own.at_newk _ _ (by simp)
      have hB : Below w.heap.size w w5 := ((((Below.refl _ _).alloc (Nat.le_refl _) _).alloc (by simp) _).drew).trans (hb5.mono (by simp; omega))
      clear hb5
      obtain ⟨c0, c1, c2, f0, f1, f2⟩ := row3 hr
      obtain ⟨d0, d1, d2, g0, g1, g2⟩ := row3 hq
      clear hr hq
      rcases hx with ⟨hc0, e⟩ | ⟨hc0, hn, e⟩ | ⟨hc0, hn, e⟩
      · have HE := Lib.hid e; clear e
        have b3 : (c != 0) = true := by simpa using hc0
        have b4 : (c == 0) = false := by simpa using hc0
        go_wp2_with fail
        refine bodyPost_ret (v := .tuple #[.agg #[.int .i64 0, .int .i64 0, .string ByteArray.empty], .int .i64 0, .int .i64 c]) ?_ rfl (head_none HE.out hc0 (((hB.setCell (p := ⟨_, _, _⟩) (Nat.le_refl _) _).setCell (p := ⟨_, _, _⟩) (Nat.le_refl _) _).setCell (p := ⟨_, _, _⟩) (Nat.le_refl _) _))
        simp [results, Tryz.results53, go_sem, *]
        rfl
      · have HE := Lib.hid e; clear e
        subst hc0
        rw [← HN.out] at hn
        go_wp2_with (go_at_call 68; refine (number_calls _ hq6 _).mono ?_; rintro e w' ⟨rfl, rfl⟩)
        refine bodyPost_ret (v := .tuple #[.agg #[.int .i64 0, .int .i64 0, .string ByteArray.empty], .int .i64 0, .int .i64 5]) ?_ rfl (head_none HE.out (by decide) (((hB.setCell (p := ⟨_, _, _⟩) (Nat.le_refl _) _).setCell (p := ⟨_, _, _⟩) (Nat.le_refl _) _).setCell (p := ⟨_, _, _⟩) (Nat.le_refl _) _))
        simp [results, Tryz.results53, go_sem, *]
        rfl
      · have HE := Lib.hid e; clear e
        subst hc0
        rw [← HN.out] at hn
        go_wp2_with (go_at_call 68; refine (number_calls _ hq6 _).mono ?_; rintro e w' ⟨rfl, rfl⟩)
        refine bodyPost_ret (v := .tuple #[.agg #[.int .i64 (kd s.data.toList), .int .i64 (Rec.at_ s.data.toList), .string ByteArray.empty], .int .i64 (ln s.data.toList), .int .i64 0]) ?_ rfl (head_some HE.out (((hB.setCell (p := ⟨_, _, _⟩) (Nat.le_refl _) _).setCell (p := ⟨_, _, _⟩) (Nat.le_refl _) _).setCell (p := ⟨_, _, _⟩) (Nat.le_refl _) _))
        rw [HK.out, ← HP.out, ← HN.out]
        simp [results, Tryz.results53, go_sem, *]
        rfl

end Go.Proofs.YtpaeemkdjgbejaaGreat.Rec
end

section
namespace Go.Proofs.YtpaeemkdjgbejaaGreat.Rec
open Go.RowKit Go.Proofs.YtpaeemkdjgbejaaGreat.Sum

theorem head_no (s : ByteArray) (hs : s.size ≤ 4611686018427387904) (h : hdC s.data.toList ≠ 0) (w : World) :
    Calls Tryz.prog 53 #[.string s] w fun e w' => e = .returned (.tuple #[.agg #[.int .i64 0, .int .i64 0, .string ⟨#[]⟩], .int .i64 0, .int .i64 (hdC s.data.toList)]) ∧ Below w.heap.size w w' :=
  (head_calls s hs w).mono fun e w' hp => by
    obtain ⟨rfl, hb⟩ := hp
    obtain ⟨e1, e2⟩ := hd_none h
    rw [e1, e2]; exact ⟨rfl, hb⟩
theorem head_yes (s : ByteArray) (hs : s.size ≤ 4611686018427387904) (h : hdC s.data.toList = 0) (w : World) :
    Calls Tryz.prog 53 #[.string s] w fun e w' => e = .returned (.tuple #[.agg #[.int .i64 (kd s.data.toList), .int .i64 (Rec.at_ s.data.toList), .string ⟨#[]⟩], .int .i64 (ln s.data.toList), .int .i64 0]) ∧ Below w.heap.size w w' :=
  (head_calls s hs w).mono fun e w' hp => by
    obtain ⟨rfl, hb⟩ := hp
    obtain ⟨e1, e2⟩ := hd_some h
    rw [e1, e2, h]; exact ⟨rfl, hb⟩

def ReadPost (s : ByteArray) (w : World) (e : Ending) (w' : World) : Prop :=
  e = .returned (.tuple #[.agg #[.int .i64 (rdX s.data.toList).k, .int .i64 (rdX s.data.toList).a, .string (rdX s.data.toList).b], .int .i64 (rdN s.data.toList), .int .i64 (rdC s.data.toList)]) ∧ Below w.heap.size w w'
theorem read_none {s : ByteArray} {w w' : World} {c : Int} (h : rdC s.data.toList = c) (hc : c ≠ 0) (hb : Below w.heap.size w w') : ReadPost s w (.returned (.tuple #[.agg #[.int .i64 0, .int .i64 0, .string ⟨#[]⟩], .int .i64 0, .int .i64 c])) w' := by
  obtain ⟨e1, e2⟩ := rd_none (l := s.data.toList) (by rw [h]; exact hc)
  exact ⟨by rw [e1, e2, h]; rfl, hb⟩
theorem read_some {s b : ByteArray} {w w' : World} (h : rdC s.data.toList = 0) (hbd : b = ⟨(bodyL s.data.toList).toArray⟩) (hb : Below w.heap.size w w') : ReadPost s w (.returned (.tuple #[.agg #[.int .i64 (kd s.data.toList), .int .i64 (Rec.at_ s.data.toList), .string b], .int .i64 (14 + ln s.data.toList), .int .i64 0])) w' := by
  obtain ⟨e1, e2⟩ := rd_some h
  exact ⟨by rw [e1, e2, h, hbd]; rfl, hb⟩

/-- what follows an item's head -/
structure Rest (s : ByteArray) (n : Int) : Prop where
  all : ∃ p : ByteArray, p.size ≤ s.size ∧ p.data.toList = s.data.toList.take (14 + n.toNat) ∧ ∀ W, (Instr.sliceAt 9 (.string s) none (some (.int .i64 (14 + n))) none).run Tryz.prog W = .ok (.string p) W
  body : ∃ b : ByteArray, b.data.toList = (s.data.toList.drop 10).take n.toNat ∧ ∀ W, (Instr.sliceAt 9 (.string s) (some (.int .i64 10)) (some (.int .i64 (10 + n))) none).run Tryz.prog W = .ok (.string b) W
theorem rest_of (s : ByteArray) (n : Int) (h0 : 0 ≤ n) (h : 14 + n ≤ s.size) : Rest s n :=
  ⟨⟨s.extract 0 (14 + n).toNat, by simp [ByteArray.size_extract]; omega, by rw [extract_list, List.drop_zero, show (14 + n).toNat = 14 + n.toNat by omega], fun W => cut_to 9 Tryz.underlying9 s _ (by omega) h W⟩,
   ⟨s.extract 10 (10 + n).toNat, by rw [mid_list, show (10 + n).toNat - 10 = n.toNat by omega], fun W => cut_mid 9 Tryz.underlying9 s 10 _ (by omega) (by omega) (by omega) W⟩⟩
theorem ba_of_list {b : ByteArray} {l : List UInt8} (h : b.data.toList = l) : b = ⟨l.toArray⟩ := by
  subst h; rw [Array.toArray_toList]

set_option maxRecDepth 100000 in
set_option maxHeartbeats 1000000 in
theorem read_calls (s : ByteArray) (hs : s.size ≤ 4611686018427387904) (w : World) :
    Calls Tryz.prog 39 #[.string s] w (ReadPost s w) := by
  by_cases h0 : hdC s.data.toList = 0
  · have hn0 := (ln_range s.data.toList).1
    have hn1 := (ln_range s.data.toList).2
    have HY := Lib.hid (head_yes s hs h0)
    by_cases h1 : 14 + ln s.data.toList ≤ (s.size : Int)
    · obtain ⟨⟨p, hps, hpl, hpw⟩, b, hbl, hbw⟩ := rest_of s _ hn0 h1
      cases hf : fits p.data.toList
      · have HE := Lib.hid (rd_sum h0 h1 (by rw [← hpl]; exact hf))
        clear h0 hbl hpl
        generalize ln s.data.toList = n at *
        go_enter Tryz.func39, Tryz.ntmps39
        go_wp2_with fail
        refine (HY.out _).mono ?_
        rintro e w5 ⟨rfl, hb5⟩
        have hr : w5.heap[w.heap.size]? = some (.cells #[.int .i64 0, .int .i64 0, .string ⟨#[]⟩] 36 (0, 0)) := by
          rw [hb5.block w.heap.size (by simp)]; exact Own.at_new _ _
        have hB : Below w.heap.size w w5 := ((Below.refl _ _).alloc (Nat.le_refl _) _).trans (hb5.mono (by simp))
        have n1 : w.heap.size < w5.heap.size := Own.at_lt hr
        clear hb5
        go_wp2_with (go_at_call 54; refine (whole_calls _ (by omega) (by omega) _).mono ?_; rintro e w' ⟨rfl, rfl⟩)
        refine (fits_calls p (by omega) _).mono ?_
        rintro e w6 ⟨rfl, hb6⟩
        rw [hf]
        have hr6 : w6.heap[w.heap.size]? = some (.cells #[.int .i64 0, .int .i64 0, .string ⟨#[]⟩] 36 (0, 0)) := by
          rw [hb6.block w.heap.size (by simp; omega)]; exact Own.at_old _ _ hr
        have hq6 : w6.heap[w5.heap.size]? = some (.cells #[.int .i64 (kd s.data.toList), .int .i64 (Rec.at_ s.data.toList), .string ⟨#[]⟩] 36 (0, 0)) := by
          rw [hb6.block w5.heap.size (by simp)]; exact Own.at_new _ _
        replace hB : Below w.heap.size w w6 := (hB.alloc (by omega) _).trans (hb6.mono (by simp; omega))
        clear hb6 hr
        obtain ⟨c0, c1, c2, f0, f1, f2⟩ := row3 hr6
        obtain ⟨d0, d1, d2, g0, g1, g2⟩ := row3 hq6
        have hlt6 : w5.heap.size < w6.heap.size := Own.at_lt hq6
        clear hr6 hq6
        generalize w5.heap.size = g at *
        have n2 : g ≠ w.heap.size := by omega
        have n3 : w.heap.size ≠ g := by omega
        go_wp2_with fail
        refine bodyPost_ret (v := .tuple #[.agg #[.int .i64 0, .int .i64 0, .string ⟨#[]⟩], .int .i64 0, .int .i64 4]) ?_ rfl (read_none HE.out (by decide) (((hB.setCell (p := ⟨_, _, _⟩) (Nat.le_refl _) _).setCell (p := ⟨_, _, _⟩) (Nat.le_refl _) _).setCell (p := ⟨_, _, _⟩) (Nat.le_refl _) _))
        simp [results, Tryz.results39, go_sem, *]
      · have HE := Lib.hid (rd_ok h0 h1 (by rw [← hpl]; exact hf))
        have HL : Hid (b = ⟨(bodyL s.data.toList).toArray⟩) := Lib.hid (ba_of_list hbl)
        obtain ⟨n, hn⟩ : ∃ n, ln s.data.toList = n := ⟨_, rfl⟩
        rw [hn] at hn0 hn1 HY h1 hpw hbw
        have HN := Lib.hid hn
        clear h0 hbl hpl hn
        go_enter Tryz.func39, Tryz.ntmps39
        go_wp2_with fail
        refine (HY.out _).mono ?_
        rintro e w5 ⟨rfl, hb5⟩
        have hr : w5.heap[w.heap.size]? = some (.cells #[.int .i64 0, .int .i64 0, .string ⟨#[]⟩] 36 (0, 0)) := by
          rw [hb5.block w.heap.size (by simp)]; exact Own.at_new _ _
        have hB : Below w.heap.size w w5 := ((Below.refl _ _).alloc (Nat.le_refl _) _).trans (hb5.mono (by simp))
        have n1 : w.heap.size < w5.heap.size := Own.at_lt hr
        clear hb5
        go_wp2_with (go_at_call 54; refine (whole_calls _ (by omega) (by omega) _).mono ?_; rintro e w' ⟨rfl, rfl⟩)
        refine (fits_calls p (by omega) _).mono ?_
        rintro e w6 ⟨rfl, hb6⟩
        rw [hf]
        have hr6 : w6.heap[w.heap.size]? = some (.cells #[.int .i64 0, .int .i64 0, .string ⟨#[]⟩] 36 (0, 0)) := by
          rw [hb6.block w.heap.size (by simp; omega)]; exact Own.at_old _ _ hr
        have hq6 : w6.heap[w5.heap.size]? = some (.cells #[.int .i64 (kd s.data.toList), .int .i64 (Rec.at_ s.data.toList), .string ⟨#[]⟩] 36 (0, 0)) := by
          rw [hb6.block w5.heap.size (by simp)]; exact Own.at_new _ _
        replace hB : Below w.heap.size w w6 := (hB.alloc (by omega) _).trans (hb6.mono (by simp; omega))
        clear hb6 hr
        obtain ⟨c0, c1, c2, f0, f1, f2⟩ := row3 hr6
        obtain ⟨d0, d1, d2, g0, g1, g2⟩ := row3 hq6
        have hlt6 : w5.heap.size < w6.heap.size := Own.at_lt hq6
        clear hr6 hq6
        generalize w5.heap.size = g at *
        have n2 : g ≠ w.heap.size := by omega
        have n3 : w.heap.size ≠ g := by omega
        go_wp2_with fail
        refine bodyPost_ret (v := .tuple #[.agg #[.int .i64 (kd s.data.toList), .int .i64 (Rec.at_ s.data.toList), .string b], .int .i64 (14 + ln s.data.toList), .int .i64 0]) ?_ rfl (read_some HE.out HL.out (by first | exact hB | exact ((((hB.setCell (p := ⟨_, _, _⟩) (by simp; omega) _).setCell (p := ⟨_, _, _⟩) (Nat.le_refl _) _).setCell (p := ⟨_, _, _⟩) (Nat.le_refl _) _).setCell (p := ⟨_, _, _⟩) (Nat.le_refl _) _)))
        rw [HN.out]
        simp [results, Tryz.results39, go_sem, *]
    · have HE := Lib.hid (rd_cut h0 (show (s.data.toList.length : Int) < _ by rw [size_list]; omega))
      have h2 : (s.size : Int) < 14 + ln s.data.toList := by omega
      clear h0 h1
      generalize ln s.data.toList = n at *
      go_enter Tryz.func39, Tryz.ntmps39
      go_wp2_with fail
      refine (HY.out _).mono ?_
      rintro e w5 ⟨rfl, hb5⟩
      have hr : w5.heap[w.heap.size]? = some (.cells #[.int .i64 0, .int .i64 0, .string ⟨#[]⟩] 36 (0, 0)) := by
        rw [hb5.block w.heap.size (by simp)]; exact Own.at_new _ _
      have hB : Below w.heap.size w w5 := ((Below.refl _ _).alloc (Nat.le_refl _) _).trans (hb5.mono (by simp))
      have n1 : w.heap.size < w5.heap.size := Own.at_lt hr
      clear hb5
      obtain ⟨c0, c1, c2, f0, f1, f2⟩ := row3 hr
      clear hr
      go_wp2_with (go_at_call 54; refine (whole_calls _ (by omega) (by omega) _).mono ?_; rintro e w' ⟨rfl, rfl⟩)
      refine bodyPost_ret (v := .tuple #[.agg #[.int .i64 0, .int .i64 0, .string ⟨#[]⟩], .int .i64 0, .int .i64 13]) ?_ rfl (read_none HE.out (by decide) ((((hB.setCell (p := ⟨_, _, _⟩) (Nat.le_refl _) _).setCell (p := ⟨_, _, _⟩) (Nat.le_refl _) _).setCell (p := ⟨_, _, _⟩) (Nat.le_refl _) _).alloc (by simp; omega) _))
      simp [results, Tryz.results39, go_sem, *]
  · have HE := Lib.hid (rd_hd h0)
    have HY := Lib.hid (head_no s hs h0)
    generalize hdC s.data.toList = c at h0 HE HY
    have b3 : (c != 0) = true := by simpa using h0
    go_enter Tryz.func39, Tryz.ntmps39
    go_wp2_with fail
    refine (HY.out _).mono ?_
    rintro e w5 ⟨rfl, hb5⟩
    have hr : w5.heap[w.heap.size]? = some (.cells #[.int .i64 0, .int .i64 0, .string ⟨#[]⟩] 36 (0, 0)) := by
      rw [hb5.block w.heap.size (by simp)]; exact Own.at_new _ _
    have hB : Below w.heap.size w w5 := ((Below.refl _ _).alloc (Nat.le_refl _) _).trans (hb5.mono (by simp))
    have n1 : w.heap.size < w5.heap.size := Own.at_lt hr
    clear hb5
    obtain ⟨c0, c1, c2, f0, f1, f2⟩ := row3 hr
    clear hr
    go_wp2_with fail
    refine bodyPost_ret (v := .tuple #[.agg #[.int .i64 0, .int .i64 0, .string ⟨#[]⟩], .int .i64 0, .int .i64 c]) ?_ rfl (read_none HE.out h0 ((((hB.setCell (p := ⟨_, _, _⟩) (Nat.le_refl _) _).setCell (p := ⟨_, _, _⟩) (Nat.le_refl _) _).setCell (p := ⟨_, _, _⟩) (Nat.le_refl _) _).alloc (by simp; omega) _))
    simp [results, Tryz.results39, go_sem, *]

end Go.Proofs.YtpaeemkdjgbejaaGreat.Rec
end

section
namespace Go.Proofs.YtpaeemkdjgbejaaGreat.Rec
open Go.RowKit Go.Proofs.YtpaeemkdjgbejaaGreat.Own

/-- items as cells -/
def cv (l : List Itm) : List Value := l.flatMap fun x => [.int .i64 x.k, .int .i64 x.a, .string x.b]
theorem cv_len (l : List Itm) : (cv l).length = l.length * 3 := by
  induction l with
  | nil => rfl
  | cons e r ih => simp [cv] at ih ⊢; omega
theorem cv_app (l m : List Itm) : cv (l ++ m) = cv l ++ cv m := by simp [cv]
theorem cv_one (l : List Itm) : ∀ u ∈ cv l, u.oneCell' = true := by
  intro u hu
  simp only [cv, List.mem_flatMap] at hu
  obtain ⟨e, _, h⟩ := hu
  simp at h
  rcases h with rfl | rfl | rfl <;> rfl
theorem cv_get {l : List Itm} {i : Nat} (h : i < l.length) : (cv l)[i * 3]? = some (.int .i64 l[i].k) ∧ (cv l)[i * 3 + 1]? = some (.int .i64 l[i].a) ∧ (cv l)[i * 3 + 2]? = some (.string l[i].b) := by
  induction l generalizing i with
  | nil => simp at h
  | cons e r ih =>
    cases i with
    | zero => simp [cv]
    | succ i =>
      have := ih (i := i) (by simpa using h)
      simpa [cv, Nat.add_mul] using this
theorem info_item : (Tryz.prog.info? 36).map (fun i => (i.zero, i.size, i.bytes)) = some (some (.agg #[.int .i64 0, .int .i64 0, .string ⟨#[]⟩]), 3, 32) := by kernel_rfl

/-- a slice that holds items -/
structure Its (w : World) (xs : List Itm) (p : Option Addr) (c : Nat) : Prop where
  cap : xs.length ≤ c
  max : c ≤ maxLen
  cells : xs = [] ∨ ∃ b o, p = some ⟨b, o, none⟩ ∧ b < w.heap.size ∧ ∀ i (hi : i < xs.length), w.cell? ⟨b, o + i * 3, none⟩ = some (.int .i64 xs[i].k) ∧ w.cell? ⟨b, o + i * 3 + 1, none⟩ = some (.int .i64 xs[i].a) ∧ w.cell? ⟨b, o + i * 3 + 2, none⟩ = some (.string xs[i].b)
theorem Its.kept {w w' : World} {xs : List Itm} {p : Option Addr} {c : Nat} (h : Its w xs p c) (hb : Below w.heap.size w w') : Its w' xs p c :=
  ⟨h.cap, h.max, h.cells.imp id fun ⟨b, o, e, hl, k⟩ => ⟨b, o, e, Nat.lt_of_lt_of_le hl hb.size, fun i hi => ⟨(hb.cell (p := ⟨b, _, none⟩) hl).trans (k i hi).1, (hb.cell (p := ⟨b, _, none⟩) hl).trans (k i hi).2.1, (hb.cell (p := ⟨b, _, none⟩) hl).trans (k i hi).2.2⟩⟩⟩
theorem owns_its {w : World} {B : Nat} {p : Option Addr} {n c : Nat} {xs : List Itm} (h : w.ownsRow B 36 3 (.slice p n c) n (cv xs)) (hn : n = xs.length) : Its w xs p c := by
  subst hn
  have hc := @World.ownsRow.cells _ _ _ _ _ _ _ h
  rcases h.2 with ⟨e, h0⟩ | ⟨g, cap, cur, e, _, hh, h3, h4, _⟩
  · simp only [Value.slice.injEq] at e
    obtain ⟨rfl, _, rfl⟩ := e
    exact ⟨by omega, by unfold maxLen; omega, .inl (List.eq_nil_of_length_eq_zero h0)⟩
  · simp only [Value.slice.injEq] at e
    obtain ⟨rfl, _, rfl⟩ := e
    refine ⟨h3, h4, .inr ⟨g, 0, rfl, at_lt hh, fun i hi => ?_⟩⟩
    obtain ⟨e1, e2, e3⟩ := cv_get hi
    have r1 := hc (g := g) rfl _ _ e1
    have r2 := hc (g := g) rfl _ _ e2
    have r3 := hc (g := g) rfl _ _ e3
    rw [add0] at r1 r2 r3
    rw [Nat.zero_add]
    exact ⟨r1, r2, r3⟩

section
open Go.Joins Go.ChangeShapes Go.WideShapes Go.Deep
variable {H : Type} {enc : TypeId × Value → H} {w : World} {spare : Nat → Bool} {held : Bool}
set_option maxRecDepth 100000 in
/-- an item that came in -/
theorem item_arg {v : Value} {d : DataW H} {p : List MemPlace} {base b0 : Nat} {r : Reach} (ho : Value.okWide Tryz.prog w r b0 36 v) (h : DataW.Trod enc Tryz.prog w base spare held 36 v d p) :
    ∃ (k a : Int) (b : ByteArray), v = .agg #[.int .i64 k, .int .i64 a, .string b] ∧ b.size ≤ maxLen := by
  obtain ⟨v0, v1, v2, y0, y1, y2, n, rfl, _, _, h0, h1, h2⟩ := open_agg3 Tryz.underlying36 (by kernel_rfl) (by kernel_rfl) ho h
  obtain ⟨k, hk, _, _⟩ := DataW.trod_int Tryz.underlying3 h0
  obtain ⟨a, ha, _, _⟩ := DataW.trod_int Tryz.underlying3 h1
  obtain ⟨b, hb, _, hw⟩ := DataW.trod_string Tryz.underlying9 h2
  simp at hk ha hb
  subst hk ha hb
  exact ⟨k, a, b, rfl, hw⟩
end

def toI : Value → Int
  | .int _ n => n
  | _ => 0
def toB : Value → ByteArray
  | .string b => b
  | _ => ByteArray.empty
/-- items that came in -/
theorem its_arg {w : World} {v : Value} {n : Nat} {E : Nat → Nat → Value} (h : Row w v n 3 E) (hE : ∀ i, i < n → ∃ (k a : Int) (b : ByteArray), E i 0 = .int .i64 k ∧ E i 1 = .int .i64 a ∧ E i 2 = .string b) :
    ∃ xs p c, v = .slice p xs.length c ∧ Its w xs p c := by
  obtain ⟨a, cap, rfl, h1, h2, h3⟩ := h
  refine ⟨(List.range n).map fun i => ⟨toI (E i 0), toI (E i 1), toB (E i 2)⟩, a, cap, by simp, by simpa using h1, h2, ?_⟩
  rcases h3 with rfl | ⟨b, off, rfl, hb, hc⟩
  · exact .inl rfl
  · refine .inr ⟨b, off, rfl, hb, fun i hi => ?_⟩
    have hi' : i < n := by simpa using hi
    obtain ⟨k, a, bb, e0, e1, e2⟩ := hE i hi'
    have c0 := hc i 0 hi' (by omega)
    have c1 := hc i 1 hi' (by omega)
    have c2 := hc i 2 hi' (by omega)
    simp only [List.getElem_map, List.getElem_range, e0, e1, e2] at c0 c1 c2 ⊢
    exact ⟨c0, c1, c2⟩

end Go.Proofs.YtpaeemkdjgbejaaGreat.Rec
end

section
namespace Go.Proofs.YtpaeemkdjgbejaaGreat.Rec
open Go.RowKit Go.Proofs.YtpaeemkdjgbejaaGreat.Sum


theorem read_no (s : ByteArray) (hs : s.size ≤ 4611686018427387904) (h : rdC s.data.toList ≠ 0) (w : World) :
    Calls Tryz.prog 39 #[.string s] w fun e w' => e = .returned (.tuple #[.agg #[.int .i64 0, .int .i64 0, .string ⟨#[]⟩], .int .i64 0, .int .i64 (rdC s.data.toList)]) ∧ Below w.heap.size w w' :=
  (read_calls s hs w).mono fun e w' hp => by
    obtain ⟨rfl, hb⟩ := hp
    obtain ⟨e1, e2⟩ := rd_none h
    rw [e1, e2]; exact ⟨rfl, hb⟩
theorem read_yes (s : ByteArray) (hs : s.size ≤ 4611686018427387904) (h : rdC s.data.toList = 0) (x : Itm) (n : Int) (hx : rdX s.data.toList = x) (hn : rdN s.data.toList = n) (w : World) :
    Calls Tryz.prog 39 #[.string s] w fun e w' => e = .returned (.tuple #[.agg #[.int .i64 x.k, .int .i64 x.a, .string x.b], .int .i64 n, .int .i64 0]) ∧ Below w.heap.size w w' :=
  (read_calls s hs w).mono fun e w' hp => by
    obtain ⟨rfl, hb⟩ := hp
    rw [hx, hn, h]; exact ⟨rfl, hb⟩

/-- what is left of a text -/
theorem from_of (s : ByteArray) (k : Nat) (hk : k ≤ s.size) : ∃ p : ByteArray, p.size ≤ s.size ∧ p.data.toList = s.data.toList.drop k ∧ ∀ W, (Instr.sliceAt 9 (.string s) (some (.int .i64 k)) none none).run Tryz.prog W = .ok (.string p) W :=
  ⟨s.extract (k : Int).toNat s.size, by simp [ByteArray.size_extract], by rw [extract_list, show (k : Int).toNat = k by omega, List.take_of_length_le (by rw [size_list]; omega)], fun W => cut_from 9 Tryz.underlying9 s k (by omega) (by omega) W⟩

/-- items found, so many bytes done -/
structure ScanAt (s : ByteArray) (w wr : World) (L : List Itm) (k : Nat) (v : Value) : Prop where
  own : wr.ownsRow w.heap.size 36 3 v L.length (cv L)
  below : Below w.heap.size w wr
  len : L.length ≤ k
  le : k ≤ s.size
  left : scan s.data.toList = (L ++ (scan (s.data.toList.drop k)).1, (k : Int) + (scan (s.data.toList.drop k)).2)
def ScanPost (s : ByteArray) (w : World) (e : Ending) (w' : World) : Prop :=
  ∃ v, e = .returned (.tuple #[v, .int .i64 (scan s.data.toList).2]) ∧ w'.ownsRow w.heap.size 36 3 v (scan s.data.toList).1.length (cv (scan s.data.toList).1) ∧ Below w.heap.size w w'
theorem ScanAt.end_ {s : ByteArray} {w wr w' : World} {L : List Itm} {k : Nat} {v : Value} (h : ScanAt s w wr L k v) (hr : rdC (s.data.toList.drop k) ≠ 0) (hb : Below wr.heap.size wr w') : ScanPost s w (.returned (.tuple #[v, .int .i64 k])) w' := by
  have e := h.left
  rw [scan_no hr] at e
  have hs := h.below.size
  refine ⟨v, ?_, ?_, h.below.trans (hb.mono hs)⟩
  · rw [e]; simp
  · rw [e]
    have := Own.own_below h.own hb
    simpa using this
theorem ScanAt.step {s : ByteArray} {w wr w5 w1 : World} {L : List Itm} {k : Nat} {v v' : Value} (h : ScanAt s w wr L k v) (hr : rdC (s.data.toList.drop k) = 0) (hb : Below wr.heap.size wr w5)
    (ho : w1.ownsRow w.heap.size 36 3 v' (L.length + 1) (cv L ++ [.int .i64 (rdX (s.data.toList.drop k)).k, .int .i64 (rdX (s.data.toList.drop k)).a, .string (rdX (s.data.toList.drop k)).b])) (hg : w5.grownBy w1 v.ownBlock) :
    ScanAt s w w1 (L ++ [rdX (s.data.toList.drop k)]) (k + (rdN (s.data.toList.drop k)).toNat) v' := by
  have hs := h.below.size
  have hs5 := hb.size
  have e := h.left
  obtain ⟨_, hn⟩ := rd_some hr
  have hn0 := ln_range (s.data.toList.drop k)
  have hl := (rd_inv hr).2.1
  have hle := h.le
  have hlen := h.len
  rw [List.length_drop, size_list] at hl
  refine ⟨?_, ?_, ?_, ?_, ?_⟩
  · rw [List.length_append, cv_app]; exact ho
  · exact (h.below.trans (hb.mono hs)).grown hg (by omega) (fun k hk => (World.ownsRow.lt h.own k hk).1)
  · rw [List.length_append, List.length_singleton, hn]; omega
  · rw [hn]; omega
  · have dd : s.data.toList.drop (k + (14 + (ln (s.data.toList.drop k)).toNat)) = (s.data.toList.drop k).drop (14 + (ln (s.data.toList.drop k)).toNat) := by rw [List.drop_drop]
    rw [e, scan_ok hr, show (rdN (s.data.toList.drop k)).toNat = 14 + (ln (s.data.toList.drop k)).toNat by rw [hn]; omega, dd, List.append_assoc]
    refine Prod.ext rfl ?_
    show (k : Int) + (rdN (s.data.toList.drop k) + _) = ((k + (14 + (ln (s.data.toList.drop k)).toNat) : Nat) : Int) + _
    rw [hn]; omega

set_option maxRecDepth 100000 in
set_option maxHeartbeats 1000000 in
theorem scan_calls (s : ByteArray) (hs : s.size ≤ 1099511627776) (w : World) :
    Calls Tryz.prog 21 #[.string s] w (ScanPost s w) := by
  obtain ⟨i0, hi, hz0, hz1, hz2⟩ := info_parts info_item
  go_enter Tryz.func21, Tryz.ntmps21
  go_wp2_with fail
  go_step3
  go_wp2_with fail
  go_step3
  go_wp2_with fail
  go_loopw [4, 5] (fun v a wr => ∃ (L : List Itm) (k : Nat), a = .int .i64 k ∧ ScanAt s w wr L k v) (fun _ a _ => s.size - (intOf a).toNat)
  case atStart => exact ⟨[], 0, rfl, World.ownsRow_nil _ _ _ _, Below.refl _ _, by simp, by omega, by simp⟩
  case round =>
    obtain ⟨L, k, rfl, C⟩ := hrel
    have hle := C.le
    have hlen := C.len
    have hown := C.own
    have hsz := C.below.size
    obtain ⟨p, hps, hpl, hpw⟩ := from_of s k hle
    have k0 : (k : Int) ≤ 1099511627776 := by omega
    by_cases hr : rdC (s.data.toList.drop k) = 0
    · obtain ⟨_, hn⟩ := rd_some hr
      have hn0 := ln_range (s.data.toList.drop k)
      obtain ⟨n, hnn⟩ : ∃ n, rdN (s.data.toList.drop k) = n := ⟨_, rfl⟩
      obtain ⟨x, hxx⟩ : ∃ x, rdX (s.data.toList.drop k) = x := ⟨_, rfl⟩
      have HY := Lib.hid (read_yes p (by omega) (by rw [hpl]; exact hr) x n (by rw [hpl]; exact hxx) (by rw [hpl]; exact hnn))
      have hl := (rd_inv hr).2.1
      rw [List.length_drop, size_list] at hl
      have n0 : 0 ≤ n := by omega
      have n3 : n + k ≤ (s.size : Int) := by omega
      have n1 : n + k ≤ 1099511627776 := by omega
      have n2 : 14 ≤ n := by omega
      have HC := Lib.hid C
      have HR := Lib.hid hr
      have HN := Lib.hid hnn
      have HX := Lib.hid hxx
      have HO := Lib.hid hown
      clear C hr hnn hxx hown hl hn hn0 hpl
      go_wp2_with fail
      refine (HY.out _).mono ?_
      rintro e w5 ⟨rfl, hb5⟩
      have HB5 := Lib.hid hb5
      have h5 := hb5.size
      have ho5 := Own.own_below HO.out hb5
      clear hb5
      go_wp2_with (at_builtin; (refine Own.append_any rfl (.tmp 20) (.tmp 22) 34 rfl w.heap.size 36 i0 _ 3 32 Tryz.underlying34 hi hz0 hz1 hz2 rfl (by decide) _ _ _ rfl (World.ownsRow.alloc (World.ownsRow.alloc ho5 _) _) _ 1 1 [.int .i64 x.k, .int .i64 x.a, .string x.b] rfl (fun h => nomatch h) rfl (Own.three_new _ _ _ _ _ _ (by simp)) (by simp [Value.oneCell']) (by unfold maxLen; omega) (by omega) (by simp; omega) ?_; intro v' w1 hown1 hgrow1))
      have C1 := HC.out.step HR.out ((HB5.out.alloc h5 _).alloc (by simp; omega) _) (by rw [HX.out]; exact hown1) hgrow1
      rw [HX.out, HN.out] at C1
      have HC1 := Lib.hid C1
      clear C1 hown1 hgrow1 ho5
      go_wp2_with fail
      go_roundw
      case rel => exact ⟨_, _, by rw [show (k : Int) + n = ((k + n.toNat : Nat) : Int) by omega], HC1.out⟩
      case measure => simp [intOf]; omega
    · have HY := Lib.hid (read_no p (by omega) (by rw [hpl]; exact hr))
      rw [hpl] at HY
      have HC := Lib.hid C
      have HR := Lib.hid hr
      obtain ⟨c, hc⟩ : ∃ c, rdC (s.data.toList.drop k) = c := ⟨_, rfl⟩
      rw [hc] at HY hr
      have b3 : (c == 0) = false := by simpa using hr
      have b4 : (c != 0) = true := by simpa using hr
      clear C hc hown hpl hr
      go_wp2_with fail
      refine (HY.out _).mono ?_
      rintro e w5 ⟨rfl, hb5⟩
      have HB5 := Lib.hid hb5
      clear hb5
      go_wp2_with fail
      rw [Exit.noGoto_ret]
      go_ret2
      exact HC.out.end_ HR.out (HB5.out.alloc HB5.out.size _)
end Go.Proofs.YtpaeemkdjgbejaaGreat.Rec
end


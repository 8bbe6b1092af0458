/-
  Layer 7 (sum): the program's Put, walked.
-/
import Derived.Test.YtfdpmbnjjnmdiaaSumIs
import Derived.StillTailTactics
import Derived.Laws.Slices
import Derived.IntWalk
namespace Go.Proofs.Ytfdpmbnjjnmdiaa.Sum
open Go.RowKit

theorem be_from (l : List UInt8) : ∀ m : List UInt8, be (l ++ m) = m.foldl (fun n b => n * 256 + (b.toNat : Int)) (be l) := fun m => by unfold be; rw [List.foldl_append]
theorem be_snoc (s : ByteArray) (k : Nat) (h : k < s.size) : be (s.data.toList.take (k + 1)) = be (s.data.toList.take k) * 256 + (s[k].toNat : Int) := by
  rw [List.take_add_one, List.getElem?_eq_getElem (by rw [size_list]; exact h), be_from]; rfl
theorem be_range (s : ByteArray) (k : Nat) (h : k ≤ s.size) : 0 ≤ be (s.data.toList.take k) ∧ be (s.data.toList.take k) < 256 ^ k := by
  induction k with
  | zero => exact ⟨Int.le_refl _, by show (0 : Int) < 1; omega⟩
  | succ k ih =>
    have := ih (by omega)
    have := s[k].toNat_lt
    rw [be_snoc s k h, Int.pow_succ]
    omega
theorem or_byte {x c : Int} (h0 : 0 ≤ x) (h1 : x < 4294967296) (c0 : 0 ≤ c) (c1 : c < 256) : bits .or .i64 (x * 256) c = x * 256 + c := by
  exact bits_join .i64 63 (by decide) (fun n a b => by rw [IntKind.wrap_i64]; omega) 8 _ _ (by omega) (by omega) (by omega) c0 (by omega) (by omega)

theorem set_cells {w : World} {b : Nat} {C : Array Value} {t : TypeId} (h : w.heap[b]? = some (.cells C t (0, 0))) (i : Nat) (v : Value) : (w.setCell ⟨b, i, none⟩ v).heap[b]? = some (.cells (C.setIfInBounds i v) t (0, 0)) := by
  have hlt := lt_of_block h
  have h' : w.heap[b] = .cells C t (0, 0) := by simpa [Array.getElem?_eq_getElem hlt] using h
  show (w.heap.modify b _)[b]? = _
  rw [Array.getElem?_eq_getElem (by simpa using hlt), Array.getElem_modify_self, h']
  rfl

theorem at_cell {w : World} {b i : Nat} {C : Array Value} {t : TypeId} {v : Value} (h : w.heap[b]? = some (.cells C t (0, 0))) (hv : C[i]? = some v) : w.cell? ⟨b, i, none⟩ = some v := by
  simp [World.cell?, h, hv]
theorem at_frozen {w : World} {b : Nat} {C : Array Value} {t : TypeId} (h : w.heap[b]? = some (.cells C t (0, 0))) (i : Nat) : w.frozen? ⟨b, i, none⟩ = false := by
  simp [World.frozen?, h]
/-- the array that a sum is put into, k bytes from its end filled -/
def PutAt (w : World) (n : Int) (k : Nat) (x : Value) (wr : World) : Prop :=
  ∃ a b c d : Int, wr.heap[w.heap.size]? = some (.cells #[.int .u8 a, .int .u8 b, .int .u8 c, .int .u8 d] 51 (0, 0)) ∧ Below w.heap.size w wr ∧
    ((k = 0 ∧ x = .int .i64 n) ∨ (k = 1 ∧ x = .int .i64 (n / 256) ∧ d = n % 256) ∨ (k = 2 ∧ x = .int .i64 (n / 65536) ∧ d = n % 256 ∧ c = n / 256 % 256) ∨
     (k = 3 ∧ x = .int .i64 (n / 16777216) ∧ d = n % 256 ∧ c = n / 256 % 256 ∧ b = n / 65536 % 256) ∨ (k = 4 ∧ x = .int .i64 (n / 16777216 / 256) ∧ d = n % 256 ∧ c = n / 256 % 256 ∧ b = n / 65536 % 256 ∧ a = n / 16777216 % 256))

set_option maxRecDepth 100000 in
set_option maxHeartbeats 400000 in
theorem put_calls (n : Int) (w : World) :
    Calls Try.prog 29 #[.int .i64 n] w fun e w' => e = .returned (.string ⟨(putL n).toArray⟩) ∧ Below w.heap.size w w' := by
  cases hq : isSum n
  · rw [put_none (isSum_not.1 hq)]
    go_enter Try.func29, Try.ntmps29
    go_wp2_with (go_at_call 32; refine (is_calls _ _).mono ?_; rintro e w' ⟨rfl, rfl⟩)
    go_ret
    exact ⟨rfl, Below.refl _ _⟩
  · obtain ⟨n0, n1⟩ := isSum_iff.1 hq
    rw [put_some n0 n1]
    go_enter Try.func29, Try.ntmps29
    go_wp2_with (go_at_call 32; refine (is_calls _ _).mono ?_; rintro e w' ⟨rfl, rfl⟩)
    clear hq
    go_loopw [0, 8] (fun x i wr => ∃ k : Nat, k ≤ 4 ∧ i = .int .i64 k ∧ PutAt w n k x wr) (fun _ i _ => 4 - (intOf i).toNat)
    case atStart => exact ⟨0, Nat.zero_le _, rfl, 0, 0, 0, 0, by show (w.heap.push _)[w.heap.size]? = _; simp, (Below.refl _ _).alloc (Nat.le_refl _) _, .inl ⟨rfl, rfl⟩⟩
    case round =>
      obtain ⟨k, hk, rfl, a, b, c, d, hh, hb, hk'⟩ := hrel
      rcases hk' with ⟨rfl, rfl⟩ | ⟨rfl, rfl, rfl⟩ | ⟨rfl, rfl, rfl, rfl⟩ | ⟨rfl, rfl, rfl, rfl, rfl⟩ | ⟨rfl, rfl, rfl, rfl, rfl, rfl⟩
      all_goals
        have HH := Lib.hid hh
        have x0 : wr.cell? ⟨w.heap.size, 0, none⟩ = some (.int .u8 _) := at_cell hh rfl
        have x1 : wr.cell? ⟨w.heap.size, 1, none⟩ = some (.int .u8 _) := at_cell hh rfl
        have x2 : wr.cell? ⟨w.heap.size, 2, none⟩ = some (.int .u8 _) := at_cell hh rfl
        have x3 : wr.cell? ⟨w.heap.size, 3, none⟩ = some (.int .u8 _) := at_cell hh rfl
        have f0 : wr.frozen? ⟨w.heap.size, 0, none⟩ = false := at_frozen hh 0
        have f1 : wr.frozen? ⟨w.heap.size, 1, none⟩ = false := at_frozen hh 1
        have f2 : wr.frozen? ⟨w.heap.size, 2, none⟩ = false := at_frozen hh 2
        have f3 : wr.frozen? ⟨w.heap.size, 3, none⟩ = false := at_frozen hh 3
        clear hh
      · have hn := set_cells HH.out 3 (.int .u8 (n % 256))
        have HN := Lib.hid hn; clear hn
        go_wp2_with fail
        go_roundw
        case rel => exact ⟨1, by omega, by go_num, a, b, c, _, HN.out, hb.setCell (Nat.le_refl _) _, .inr (.inl ⟨rfl, rfl, rfl⟩)⟩
        case measure => simp [intOf]
      · have hn := set_cells HH.out 2 (.int .u8 (n / 256 % 256))
        have HN := Lib.hid hn; clear hn
        go_wp2_with fail
        go_roundw
        case rel => exact ⟨2, by omega, by go_num, a, b, _, _, HN.out, hb.setCell (Nat.le_refl _) _, .inr (.inr (.inl ⟨rfl, by go_num, rfl, rfl⟩))⟩
        case measure => simp [intOf]
      · have hn := set_cells HH.out 1 (.int .u8 (n / 65536 % 256))
        have HN := Lib.hid hn; clear hn
        go_wp2_with fail
        go_roundw
        case rel => exact ⟨3, by omega, by go_num, a, _, _, _, HN.out, hb.setCell (Nat.le_refl _) _, .inr (.inr (.inr (.inl ⟨rfl, by go_num, rfl, rfl, rfl⟩)))⟩
        case measure => simp [intOf]
      · have hn := set_cells HH.out 0 (.int .u8 (n / 16777216))
        have HN := Lib.hid hn; clear hn
        go_wp2_with fail
        go_roundw
        case rel => exact ⟨4, by omega, by go_num, _, _, _, _, HN.out, hb.setCell (Nat.le_refl _) _, .inr (.inr (.inr (.inr ⟨rfl, by go_num, rfl, rfl, rfl, by omega⟩)))⟩
        case measure => simp [intOf]
      · have hcv := fun (W : World) (b : Nat) hx hy hz hu => four_bytes (P := Try.prog) W b (byteI (n / 16777216 % 256)) (byteI (n / 65536 % 256)) (byteI (n / 256 % 256)) (byteI (n % 256)) 42 9 5 Try.underlying42 Try.underlying5 Try.underlying9 hx hy hz hu
        rw [byteI_back (by omega) (by omega), byteI_back (by omega) (by omega), byteI_back (by omega) (by omega), byteI_back (by omega) (by omega)] at hcv
        go_wp2_with fail
        go_ret
        exact ⟨rfl, hb⟩

end Go.Proofs.Ytfdpmbnjjnmdiaa.Sum

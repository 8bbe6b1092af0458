/-
  Layer 8 (record): an item's bytes, into a room for just these: walked.
-/
import Derived.Test.YtfdpmbnjjnmdiaaRecLow
import Derived.Test.YtfdpmbnjjnmdiaaRoom
namespace Go.Proofs.Ytfdpmbnjjnmdiaa.Rec
open Go.RowKit Go.Proofs.Ytfdpmbnjjnmdiaa.Sum Go.Proofs.Ytfdpmbnjjnmdiaa.Own

/-- bytes put behind the p bytes of a room -/
def PutIn (g o p c : Nat) (cur : List Value) (l : List UInt8) (w : World) (e : Ending) (w' : World) : Prop :=
  e = .returned (.slice (some ⟨g, o, none⟩) (p + l.length) c) ∧ w'.heap[g]? = some (.cells (splice cur (o + p) (bv l)).toArray 5 (0, 0)) ∧ Out (fun k => k = g) w w'

/-- so many bytes are put -/
structure NumAt (g o p c : Nat) (cur : List Value) (l : List UInt8) (w wr : World) (v : Value) : Prop where
  val : v = .slice (some ⟨g, o, none⟩) (p + l.length) c
  row : wr.heap[g]? = some (.cells (splice cur (o + p) (bv l)).toArray 5 (0, 0))
  out : Out (fun k => k = g) w wr
theorem NumAt.cast {g o p c : Nat} {cur : List Value} {l l' : List UInt8} {w wr : World} {v : Value} (h : NumAt g o p c cur l w wr v) (e : l = l') : NumAt g o p c cur l' w wr v := e ▸ h
theorem NumAt.step {g o p c : Nat} {cur : List Value} {l : List UInt8} {w wr w1 : World} {v : Value} {b : UInt8} (h : NumAt g o p c cur l w wr v) (hf : o + p + l.length + 1 ≤ cur.length) {ob : Obj}
    (h1 : w1.heap[g]? = some (.cells (splice (splice cur (o + p) (bv l)) (o + (p + l.length)) (bv [b])).toArray 5 (0, 0))) (ho : Out (fun k => k = g) (wr.alloc ob) w1) :
    NumAt g o p c cur (l ++ [b]) w w1 (.slice (some ⟨g, o, none⟩) (p + l.length + 1) c) := by
  refine ⟨by rw [List.length_append]; rfl, ?_, (h.out.alloc ob).trans ho (fun _ _ h => h)⟩
  rw [h1, show o + (p + l.length) = o + p + (bv l).length by rw [bv_len]; omega, splice_two _ _ _ _ (by rw [bv_len]; omega), ← bv_app]

theorem byte_new (w : World) (x : Int) (b : UInt8) (hb : (b.toNat : Int) = x) (T : TypeId) (g : Nat) (hg : g = w.heap.size) : ∀ j u, (bv [b])[j]? = some u → (w.alloc (.cells #[.int .u8 x] T (0, 0))).cell? ((⟨g, 0, none⟩ : Addr).add j) = some u := by
  subst hg hb
  intro j u hu
  rw [add_at, Own.at_cell (at_new w _), Nat.zero_add]
  simpa [bv] using hu

theorem dig2 {n : Int} (_ : 0 ≤ n) (h1 : n < 65536) : dig 2 n = [byteI (n / 256), byteI (n % 256)] := by
  have e : dig 2 n = [byteI (n / 256 % 256), byteI (n % 256)] := rfl
  rw [e, show n / 256 % 256 = n / 256 by omega]
theorem dig6 {n : Int} (_ : 0 ≤ n) (h1 : n < 281474976710656) : dig 6 n = [byteI (n / 1099511627776), byteI (n / 4294967296 % 256), byteI (n / 16777216 % 256), byteI (n / 65536 % 256), byteI (n / 256 % 256), byteI (n % 256)] := by
  have e : dig 6 n = [byteI (n / 256 / 256 / 256 / 256 / 256 % 256), byteI (n / 256 / 256 / 256 / 256 % 256), byteI (n / 256 / 256 / 256 % 256), byteI (n / 256 / 256 % 256), byteI (n / 256 % 256), byteI (n % 256)] := rfl
  rw [e, show n / 256 / 256 / 256 / 256 / 256 % 256 = n / 1099511627776 by omega, show n / 256 / 256 / 256 / 256 % 256 = n / 4294967296 % 256 by omega, show n / 256 / 256 / 256 % 256 = n / 16777216 % 256 by omega, show n / 256 / 256 % 256 = n / 65536 % 256 by omega]

set_option maxRecDepth 100000 in
set_option maxHeartbeats 2000000 in
theorem num2_calls (w : World) (g o p c : Nat) (cur : List Value) (n : Int) (n0 : 0 ≤ n) (n1 : n < 65536) (hg : w.heap[g]? = some (.cells cur.toArray 5 (0, 0))) (hroom : p + 2 ≤ c) (hfit : o + c ≤ cur.length) :
    Calls Try.prog 31 #[.slice (some ⟨g, o, none⟩) p c, .int .i64 n, .int .i64 2] w (PutIn g o p c cur (dig 2 n) w) := by
  obtain ⟨i0, hi, hz0, hz1, hz2⟩ := info_parts info_byte
  have hgl := at_lt hg
  have HD := Lib.hid (dig2 n0 n1)
  go_enter Try.func31, Try.ntmps31
  go_wp2_with fail
  go_loopw [0, 9] (fun v i wr => ∃ k : Nat, k ≤ 2 ∧ i = .int .i64 k ∧ NumAt g o p c cur ((dig 2 n).take k) w wr v) (fun _ i _ => 2 - (intOf i).toNat)
  case atStart => exact ⟨0, by omega, rfl, rfl, by simpa [splice, bv] using hg, Out.refl _ _⟩
  case round =>
    obtain ⟨k, hk, rfl, N⟩ := hrel
    have hk' : k = 0 ∨ k = 1 ∨ k = 2 := by omega
    rw [HD.out] at N
    rcases hk' with rfl | rfl | rfl
    · obtain ⟨l, hl⟩ : ∃ l : List UInt8, [] = l := ⟨_, rfl⟩
      have N := NumAt.cast N hl
      have hll : l.length ≤ 0 := by rw [← hl]; exact Nat.le_refl _
      obtain rfl := N.val
      have hrow := N.row
      have HC : Hid ((splice cur (o + p) (bv l)).length = cur.length) := Lib.hid (length_splice _ _ _ (by rw [bv_len]; omega))
      have HB : Hid (((byteI (n / 256)).toNat : Int) = n / 256) := Lib.hid (byteI_back (by omega) (by omega))
      have HN := Lib.hid N
      have HL := Lib.hid hl
      have hlt : g < wr.heap.size := at_lt hrow
      clear N hl
      go_wp2_with (at_builtin; (refine wp_here _ rfl (.tmp 12) (.tmp 21) 42 rfl 5 i0 Try.underlying42 hi hz1 g o (p + l.length) c (splice cur (o + p) (bv l)) 5 rfl (at_old _ _ hrow) ⟨wr.heap.size, 0, none⟩ 1 1 (bv [byteI (n / 256)]) rfl rfl (byte_new _ _ _ HB.out _ _ rfl) (bv_one _) (by omega) (by rw [HC.out]; omega) ?_); intro w1 h1 ho1)
      have N1 := HN.out.step (b := byteI (n / 256)) (by omega) h1 ho1
      have HN1 := Lib.hid N1
      clear h1 ho1 hrow N1
      go_roundw
      case rel => exact ⟨1, by omega, by go_num, by rw [HD.out]; exact NumAt.cast HN1.out (by rw [← HL.out]; rfl)⟩
      case measure => simp [intOf]
    · obtain ⟨l, hl⟩ : ∃ l : List UInt8, [byteI (n / 256)] = l := ⟨_, rfl⟩
      have N := NumAt.cast N hl
      have hll : l.length ≤ 1 := by rw [← hl]; exact Nat.le_refl _
      obtain rfl := N.val
      have hrow := N.row
      have HC : Hid ((splice cur (o + p) (bv l)).length = cur.length) := Lib.hid (length_splice _ _ _ (by rw [bv_len]; omega))
      have HB : Hid (((byteI (n % 256)).toNat : Int) = n % 256) := Lib.hid (byteI_back (by omega) (by omega))
      have HN := Lib.hid N
      have HL := Lib.hid hl
      have hlt : g < wr.heap.size := at_lt hrow
      clear N hl
      go_wp2_with (at_builtin; (refine wp_here _ rfl (.tmp 12) (.tmp 21) 42 rfl 5 i0 Try.underlying42 hi hz1 g o (p + l.length) c (splice cur (o + p) (bv l)) 5 rfl (at_old _ _ hrow) ⟨wr.heap.size, 0, none⟩ 1 1 (bv [byteI (n % 256)]) rfl rfl (byte_new _ _ _ HB.out _ _ rfl) (bv_one _) (by omega) (by rw [HC.out]; omega) ?_); intro w1 h1 ho1)
      have N1 := HN.out.step (b := byteI (n % 256)) (by omega) h1 ho1
      have HN1 := Lib.hid N1
      clear h1 ho1 hrow N1
      go_roundw
      case rel => exact ⟨2, by omega, by go_num, by rw [HD.out]; exact NumAt.cast HN1.out (by rw [← HL.out]; rfl)⟩
      case measure => simp [intOf]
    · have N := NumAt.cast (l' := dig 2 n) N (by rw [HD.out]; rfl)
      obtain rfl := N.val
      have HN := Lib.hid N
      clear N
      go_wp2_with fail
      go_ret
      exact ⟨rfl, HN.out.row, HN.out.out⟩

set_option maxRecDepth 100000 in
set_option maxHeartbeats 2000000 in
theorem num6_calls (w : World) (g o p c : Nat) (cur : List Value) (n : Int) (n0 : 0 ≤ n) (n1 : n < 281474976710656) (hg : w.heap[g]? = some (.cells cur.toArray 5 (0, 0))) (hroom : p + 6 ≤ c) (hfit : o + c ≤ cur.length) :
    Calls Try.prog 31 #[.slice (some ⟨g, o, none⟩) p c, .int .i64 n, .int .i64 6] w (PutIn g o p c cur (dig 6 n) w) := by
  obtain ⟨i0, hi, hz0, hz1, hz2⟩ := info_parts info_byte
  have hgl := at_lt hg
  have HD := Lib.hid (dig6 n0 n1)
  go_enter Try.func31, Try.ntmps31
  go_wp2_with fail
  go_loopw [0, 9] (fun v i wr => ∃ k : Nat, k ≤ 6 ∧ i = .int .i64 k ∧ NumAt g o p c cur ((dig 6 n).take k) w wr v) (fun _ i _ => 6 - (intOf i).toNat)
  case atStart => exact ⟨0, by omega, rfl, rfl, by simpa [splice, bv] using hg, Out.refl _ _⟩
  case round =>
    obtain ⟨k, hk, rfl, N⟩ := hrel
    have hk' : k = 0 ∨ k = 1 ∨ k = 2 ∨ k = 3 ∨ k = 4 ∨ k = 5 ∨ k = 6 := by omega
    rw [HD.out] at N
    rcases hk' with rfl | rfl | rfl | rfl | rfl | rfl | rfl
    · obtain ⟨l, hl⟩ : ∃ l : List UInt8, [] = l := ⟨_, rfl⟩
      have N := NumAt.cast N hl
      have hll : l.length ≤ 0 := by rw [← hl]; exact Nat.le_refl _
      obtain rfl := N.val
      have hrow := N.row
      have HC : Hid ((splice cur (o + p) (bv l)).length = cur.length) := Lib.hid (length_splice _ _ _ (by rw [bv_len]; omega))
      have HB : Hid (((byteI (n / 1099511627776)).toNat : Int) = n / 1099511627776) := Lib.hid (byteI_back (by omega) (by omega))
      have HN := Lib.hid N
      have HL := Lib.hid hl
      have hlt : g < wr.heap.size := at_lt hrow
      clear N hl
      go_wp2_with (at_builtin; (refine wp_here _ rfl (.tmp 12) (.tmp 21) 42 rfl 5 i0 Try.underlying42 hi hz1 g o (p + l.length) c (splice cur (o + p) (bv l)) 5 rfl (at_old _ _ hrow) ⟨wr.heap.size, 0, none⟩ 1 1 (bv [byteI (n / 1099511627776)]) rfl rfl (byte_new _ _ _ HB.out _ _ rfl) (bv_one _) (by omega) (by rw [HC.out]; omega) ?_); intro w1 h1 ho1)
      have N1 := HN.out.step (b := byteI (n / 1099511627776)) (by omega) h1 ho1
      have HN1 := Lib.hid N1
      clear h1 ho1 hrow N1
      go_roundw
      case rel => exact ⟨1, by omega, by go_num, by rw [HD.out]; exact NumAt.cast HN1.out (by rw [← HL.out]; rfl)⟩
      case measure => simp [intOf]
    · obtain ⟨l, hl⟩ : ∃ l : List UInt8, [byteI (n / 1099511627776)] = l := ⟨_, rfl⟩
      have N := NumAt.cast N hl
      have hll : l.length ≤ 1 := by rw [← hl]; exact Nat.le_refl _
      obtain rfl := N.val
      have hrow := N.row
      have HC : Hid ((splice cur (o + p) (bv l)).length = cur.length) := Lib.hid (length_splice _ _ _ (by rw [bv_len]; omega))
      have HB : Hid (((byteI (n / 4294967296 % 256)).toNat : Int) = n / 4294967296 % 256) := Lib.hid (byteI_back (by omega) (by omega))
      have HN := Lib.hid N
      have HL := Lib.hid hl
      have hlt : g < wr.heap.size := at_lt hrow
      clear N hl
      go_wp2_with (at_builtin; (refine wp_here _ rfl (.tmp 12) (.tmp 21) 42 rfl 5 i0 Try.underlying42 hi hz1 g o (p + l.length) c (splice cur (o + p) (bv l)) 5 rfl (at_old _ _ hrow) ⟨wr.heap.size, 0, none⟩ 1 1 (bv [byteI (n / 4294967296 % 256)]) rfl rfl (byte_new _ _ _ HB.out _ _ rfl) (bv_one _) (by omega) (by rw [HC.out]; omega) ?_); intro w1 h1 ho1)
      have N1 := HN.out.step (b := byteI (n / 4294967296 % 256)) (by omega) h1 ho1
      have HN1 := Lib.hid N1
      clear h1 ho1 hrow N1
      go_roundw
      case rel => exact ⟨2, by omega, by go_num, by rw [HD.out]; exact NumAt.cast HN1.out (by rw [← HL.out]; rfl)⟩
      case measure => simp [intOf]
    · obtain ⟨l, hl⟩ : ∃ l : List UInt8, [byteI (n / 1099511627776), byteI (n / 4294967296 % 256)] = l := ⟨_, rfl⟩
      have N := NumAt.cast N hl
      have hll : l.length ≤ 2 := by rw [← hl]; exact Nat.le_refl _
      obtain rfl := N.val
      have hrow := N.row
      have HC : Hid ((splice cur (o + p) (bv l)).length = cur.length) := Lib.hid (length_splice _ _ _ (by rw [bv_len]; omega))
      have HB : Hid (((byteI (n / 16777216 % 256)).toNat : Int) = n / 16777216 % 256) := Lib.hid (byteI_back (by omega) (by omega))
      have HN := Lib.hid N
      have HL := Lib.hid hl
      have hlt : g < wr.heap.size := at_lt hrow
      clear N hl
      go_wp2_with (at_builtin; (refine wp_here _ rfl (.tmp 12) (.tmp 21) 42 rfl 5 i0 Try.underlying42 hi hz1 g o (p + l.length) c (splice cur (o + p) (bv l)) 5 rfl (at_old _ _ hrow) ⟨wr.heap.size, 0, none⟩ 1 1 (bv [byteI (n / 16777216 % 256)]) rfl rfl (byte_new _ _ _ HB.out _ _ rfl) (bv_one _) (by omega) (by rw [HC.out]; omega) ?_); intro w1 h1 ho1)
      have N1 := HN.out.step (b := byteI (n / 16777216 % 256)) (by omega) h1 ho1
      have HN1 := Lib.hid N1
      clear h1 ho1 hrow N1
      go_roundw
      case rel => exact ⟨3, by omega, by go_num, by rw [HD.out]; exact NumAt.cast HN1.out (by rw [← HL.out]; rfl)⟩
      case measure => simp [intOf]
    · obtain ⟨l, hl⟩ : ∃ l : List UInt8, [byteI (n / 1099511627776), byteI (n / 4294967296 % 256), byteI (n / 16777216 % 256)] = l := ⟨_, rfl⟩
      have N := NumAt.cast N hl
      have hll : l.length ≤ 3 := by rw [← hl]; exact Nat.le_refl _
      obtain rfl := N.val
      have hrow := N.row
      have HC : Hid ((splice cur (o + p) (bv l)).length = cur.length) := Lib.hid (length_splice _ _ _ (by rw [bv_len]; omega))
      have HB : Hid (((byteI (n / 65536 % 256)).toNat : Int) = n / 65536 % 256) := Lib.hid (byteI_back (by omega) (by omega))
      have HN := Lib.hid N
      have HL := Lib.hid hl
      have hlt : g < wr.heap.size := at_lt hrow
      clear N hl
      go_wp2_with (at_builtin; (refine wp_here _ rfl (.tmp 12) (.tmp 21) 42 rfl 5 i0 Try.underlying42 hi hz1 g o (p + l.length) c (splice cur (o + p) (bv l)) 5 rfl (at_old _ _ hrow) ⟨wr.heap.size, 0, none⟩ 1 1 (bv [byteI (n / 65536 % 256)]) rfl rfl (byte_new _ _ _ HB.out _ _ rfl) (bv_one _) (by omega) (by rw [HC.out]; omega) ?_); intro w1 h1 ho1)
      have N1 := HN.out.step (b := byteI (n / 65536 % 256)) (by omega) h1 ho1
      have HN1 := Lib.hid N1
      clear h1 ho1 hrow N1
      go_roundw
      case rel => exact ⟨4, by omega, by go_num, by rw [HD.out]; exact NumAt.cast HN1.out (by rw [← HL.out]; rfl)⟩
      case measure => simp [intOf]
    · obtain ⟨l, hl⟩ : ∃ l : List UInt8, [byteI (n / 1099511627776), byteI (n / 4294967296 % 256), byteI (n / 16777216 % 256), byteI (n / 65536 % 256)] = l := ⟨_, rfl⟩
      have N := NumAt.cast N hl
      have hll : l.length ≤ 4 := by rw [← hl]; exact Nat.le_refl _
      obtain rfl := N.val
      have hrow := N.row
      have HC : Hid ((splice cur (o + p) (bv l)).length = cur.length) := Lib.hid (length_splice _ _ _ (by rw [bv_len]; omega))
      have HB : Hid (((byteI (n / 256 % 256)).toNat : Int) = n / 256 % 256) := Lib.hid (byteI_back (by omega) (by omega))
      have HN := Lib.hid N
      have HL := Lib.hid hl
      have hlt : g < wr.heap.size := at_lt hrow
      clear N hl
      go_wp2_with (at_builtin; (refine wp_here _ rfl (.tmp 12) (.tmp 21) 42 rfl 5 i0 Try.underlying42 hi hz1 g o (p + l.length) c (splice cur (o + p) (bv l)) 5 rfl (at_old _ _ hrow) ⟨wr.heap.size, 0, none⟩ 1 1 (bv [byteI (n / 256 % 256)]) rfl rfl (byte_new _ _ _ HB.out _ _ rfl) (bv_one _) (by omega) (by rw [HC.out]; omega) ?_); intro w1 h1 ho1)
      have N1 := HN.out.step (b := byteI (n / 256 % 256)) (by omega) h1 ho1
      have HN1 := Lib.hid N1
      clear h1 ho1 hrow N1
      go_roundw
      case rel => exact ⟨5, by omega, by go_num, by rw [HD.out]; exact NumAt.cast HN1.out (by rw [← HL.out]; rfl)⟩
      case measure => simp [intOf]
    · obtain ⟨l, hl⟩ : ∃ l : List UInt8, [byteI (n / 1099511627776), byteI (n / 4294967296 % 256), byteI (n / 16777216 % 256), byteI (n / 65536 % 256), byteI (n / 256 % 256)] = l := ⟨_, rfl⟩
      have N := NumAt.cast N hl
      have hll : l.length ≤ 5 := by rw [← hl]; exact Nat.le_refl _
      obtain rfl := N.val
      have hrow := N.row
      have HC : Hid ((splice cur (o + p) (bv l)).length = cur.length) := Lib.hid (length_splice _ _ _ (by rw [bv_len]; omega))
      have HB : Hid (((byteI (n % 256)).toNat : Int) = n % 256) := Lib.hid (byteI_back (by omega) (by omega))
      have HN := Lib.hid N
      have HL := Lib.hid hl
      have hlt : g < wr.heap.size := at_lt hrow
      clear N hl
      go_wp2_with (at_builtin; (refine wp_here _ rfl (.tmp 12) (.tmp 21) 42 rfl 5 i0 Try.underlying42 hi hz1 g o (p + l.length) c (splice cur (o + p) (bv l)) 5 rfl (at_old _ _ hrow) ⟨wr.heap.size, 0, none⟩ 1 1 (bv [byteI (n % 256)]) rfl rfl (byte_new _ _ _ HB.out _ _ rfl) (bv_one _) (by omega) (by rw [HC.out]; omega) ?_); intro w1 h1 ho1)
      have N1 := HN.out.step (b := byteI (n % 256)) (by omega) h1 ho1
      have HN1 := Lib.hid N1
      clear h1 ho1 hrow N1
      go_roundw
      case rel => exact ⟨6, by omega, by go_num, by rw [HD.out]; exact NumAt.cast HN1.out (by rw [← HL.out]; rfl)⟩
      case measure => simp [intOf]
    · have N := NumAt.cast (l' := dig 6 n) N (by rw [HD.out]; rfl)
      obtain rfl := N.val
      have HN := Lib.hid N
      clear N
      go_wp2_with fail
      go_ret
      exact ⟨rfl, HN.out.row, HN.out.out⟩

theorem two_new (w : World) (x : Int) (b : UInt8) (hb : (b.toNat : Int) = x) (T : TypeId) (g : Nat) (hg : g = w.heap.size) : ∀ j u, (bv [87, b])[j]? = some u → (w.alloc (.cells #[.int .u8 87, .int .u8 x] T (0, 0))).cell? ((⟨g, 0, none⟩ : Addr).add j) = some u := by
  subst hg hb
  intro j u hu
  rw [add_at, Own.at_cell (at_new w _), Nat.zero_add]
  simpa [bv] using hu
theorem box3 {w : World} {b : Nat} {x y z : Value} {t : TypeId} (h : w.heap[b]? = some (.cells #[x, y, z] t (0, 0))) :
    w.cell? ⟨b, 0, none⟩ = some x ∧ w.cell? ⟨b, 1, none⟩ = some y ∧ w.cell? ⟨b, 2, none⟩ = some z :=
  ⟨Own.at_cell h 0, Own.at_cell h 1, Own.at_cell h 2⟩
theorem sp {cur : List Value} {o p : Nat} {l m r : List UInt8} (hp : l.length = p) (hr : l ++ m = r) (h : o + p ≤ cur.length) : splice (splice cur o (bv l)) (o + p) (bv m) = splice cur o (bv r) := by
  subst hp hr
  have := splice_two cur (bv l) (bv m) o (by rw [bv_len]; exact h)
  rw [bv_len] at this
  rw [this, bv_app]
theorem sp_len {cur : List Value} {o : Nat} {l : List UInt8} (h : o + l.length ≤ cur.length) : (splice cur o (bv l)).length = cur.length := length_splice _ _ _ (by rw [bv_len]; exact h)
theorem ret_slice {A : Option Addr} {n m c : Nat} (h : n = m) : Ending.returned (.slice A n c) = .returned (.slice A m c) := by rw [h]

/-- bytes that are put so far: the row, the item's box -/
structure PutAt (g o : Nat) (cur : List Value) (k a : Int) (b : ByteArray) (l : List UInt8) (w wr : World) : Prop where
  row : wr.heap[g]? = some (.cells (splice cur o (bv l)).toArray 5 (0, 0))
  box : wr.heap[w.heap.size]? = some (.cells #[.int .i64 k, .int .i64 a, .string b] 23 (0, 0))
  out : Out (fun k => k = g) w wr
theorem PutAt.step {g o p : Nat} {cur : List Value} {k a : Int} {b : ByteArray} {l m r : List UInt8} {w wr w1 : World} (h : PutAt g o cur k a b l w wr) (hg : g < w.heap.size) (hp : l.length = p) (hr : l ++ m = r) (hf : o + p ≤ cur.length)
    (h1 : w1.heap[g]? = some (.cells (splice (splice cur o (bv l)) (o + p) (bv m)).toArray 5 (0, 0))) (ho : Out (fun k => k = g) wr w1) : PutAt g o cur k a b r w w1 :=
  ⟨by rw [h1, sp hp hr hf], ho.at_ h.box (by omega), h.out.trans ho (fun _ _ h => h)⟩
theorem PutAt.below {g o : Nat} {cur : List Value} {k a : Int} {b : ByteArray} {l : List UInt8} {w wr w1 : World} (h : PutAt g o cur k a b l w wr) (hb : Below wr.heap.size wr w1) : PutAt g o cur k a b l w w1 :=
  ⟨(hb.block g (at_lt h.row)).trans h.row, (hb.block _ (at_lt h.box)).trans h.box, h.out.trans (Out.ofNew (S := fun k => k = g) hb) (fun _ _ h => h)⟩

set_option maxRecDepth 100000 in
set_option maxHeartbeats 2000000 in
theorem item_calls (w : World) (g o c : Nat) (cur : List Value) (k a : Int) (b : ByteArray) (hx : chk ⟨k, a, b⟩ = 0) (hg : w.heap[g]? = some (.cells cur.toArray 5 (0, 0))) (hroom : 14 + b.size ≤ c) (hfit : o + c ≤ cur.length) :
    Calls Try.prog 27 #[.slice (some ⟨g, o, none⟩) 0 c, .agg #[.int .i64 k, .int .i64 a, .string b]] w (PutIn g o 0 c cur (bytesOf ⟨k, a, b⟩) w) := by
  obtain ⟨i0, hi, hz0, hz1, hz2⟩ := info_parts info_byte
  obtain ⟨k0, k1, a0, a1, b1⟩ := chk_ok.1 hx
  change 1 ≤ k at k0; change k ≤ 15 at k1; change 0 ≤ a at a0; change a ≤ 1099511627776 at a1; change b.size ≤ 4096 at b1
  have hgl := at_lt hg
  have HB : Hid (((byteI k).toNat : Int) = k) := Lib.hid (byteI_back (by omega) (by omega))
  have HS := Lib.hid (noSum_len ⟨k, a, b⟩)
  have HH := Lib.hid (head_len ⟨k, a, b⟩)
  go_enter Try.func27, Try.ntmps27
  go_wp2_with (at_builtin; refine wp_here _ rfl (.tmp 6) (.tmp 10) 42 rfl 5 i0 Try.underlying42 hi hz1 g o 0 c cur 5 rfl (at_old _ _ (at_old _ _ hg)) ⟨w.heap.size + 1, 0, none⟩ 2 2 (bv [87, byteI k]) rfl rfl (two_new _ _ _ HB.out _ _ (by simp)) (bv_one _) (by omega) (by omega) ?_; intro w1 h1 ho1; have P1 : PutAt g o cur k a b [87, byteI k] w w1 := ⟨h1, ho1.at_ (at_old _ _ (at_new _ _)) (by omega), (((Out.refl (fun k => k = g) w).alloc _).alloc _).trans ho1 (fun _ _ h => h)⟩; clear h1 ho1; obtain ⟨x0, x1, x2⟩ := box3 P1.box; have HP1 := Lib.hid P1; clear P1)
  refine (num6_calls w1 g o 2 c (splice cur o (bv [87, byteI k])) a a0 (by omega) HP1.out.row (by omega) (by rw [sp_len (by show o + 2 ≤ _; omega)]; exact hfit)).mono ?_
  rintro e w2 ⟨rfl, h2, ho2⟩
  have P2 := HP1.out.step (p := 2) hgl rfl rfl (by omega) h2 ho2
  clear h2 ho2 x0 x1 x2 HP1
  obtain ⟨x0, x1, x2⟩ := box3 P2.box
  have HP2 := Lib.hid P2
  clear P2
  rw [show 2 + (dig 6 a).length = 8 by rw [dig_len]]
  have b0 : (0 : Int) ≤ (b.size : Int) := by omega
  have b2 : (b.size : Int) < 65536 := by omega
  go_wp2_with fail
  refine (num2_calls w2 g o 8 c (splice cur o (bv ([87, byteI k] ++ dig 6 a))) (b.size : Int) b0 b2 HP2.out.row (by omega) (by rw [sp_len (by rw [List.length_append, dig_len]; show o + 8 ≤ _; omega)]; exact hfit)).mono ?_
  rintro e w3 ⟨rfl, h3, ho3⟩
  have P3 : PutAt g o cur k a b (headL ⟨k, a, b⟩) w w3 := HP2.out.step (p := 8) hgl (by rw [List.length_append, dig_len]; rfl) (by rw [List.append_assoc]; rfl) (by omega) h3 ho3
  clear h3 ho3 x0 x1 x2 HP2
  obtain ⟨x0, x1, x2⟩ := box3 P3.box
  have hr3 := P3.row
  have HP3 := Lib.hid P3
  clear P3
  rw [show 8 + (dig 2 (b.size : Int)).length = 10 by rw [dig_len]]
  have HOf : Hid (∀ W, Calls Try.prog 30 #[.string ⟨(noSum ⟨k, a, b⟩).toArray⟩] W fun e w' => e = .returned (.int .i64 (sumOf (noSum ⟨k, a, b⟩))) ∧ W = w') := Lib.hid (fun W => of_calls _ (by show (noSum ⟨k, a, b⟩).length ≤ _; rw [HS.out]; show 10 + b.size ≤ _; omega) W)
  go_wp2_with (at_builtin; refine wp_here_text _ rfl (.tmp 21) (.tmp 23) 42 9 rfl 5 i0 Try.underlying42 Try.underlying9 hi hz1 g o 10 c (splice cur o (bv (headL ⟨k, a, b⟩))) 5 rfl hr3 b rfl (by omega) (by rw [sp_len (by rw [HH.out]; omega)]; omega) ?_; intro w4 h4 ho4; have P4 : PutAt g o cur k a b (noSum ⟨k, a, b⟩) w w4 := HP3.out.step (p := 10) hgl HH.out rfl (by omega) h4 ho4; clear h4 ho4 x0 x1 x2 HP3; have hcv := text_of (n := 10 + b.size) (cap := c) (l := noSum ⟨k, a, b⟩) (o := o) P4.row HS.out (fun j hj => splice_at _ _ _ _ (by omega) (by rw [bv_len, HS.out]; exact hj)); have HP4 := Lib.hid P4; clear P4)
  refine (HOf.out _).mono ?_
  rintro e w' ⟨rfl, rfl⟩
  go_wp2_with fail
  refine (Sum.put_calls _ _).mono ?_
  rintro e w5 ⟨rfl, hb5⟩
  have P5 := HP4.out.below hb5
  have hr5 := P5.row
  have h4 : (⟨(putL (sumOf (noSum ⟨k, a, b⟩))).toArray⟩ : ByteArray).size = 4 := by show (putL (sumOf (noSum ⟨k, a, b⟩))).length = 4; rw [put_sum, four_len]
  have H4 := Lib.hid h4
  have HP5 := Lib.hid P5
  clear P5 hb5 hcv h4
  go_wp2_with (at_builtin; refine wp_here_text _ rfl (.tmp 25) (.tmp 29) 42 9 rfl 5 i0 Try.underlying42 Try.underlying9 hi hz1 g o (10 + b.size) c (splice cur o (bv (noSum ⟨k, a, b⟩))) 5 rfl hr5 _ rfl (by rw [H4.out]; omega) (by rw [sp_len (by rw [HS.out]; show o + (10 + b.size) ≤ _; omega), H4.out]; omega) ?_; intro w6 h6 ho6; have P6 : PutAt g o cur k a b (bytesOf ⟨k, a, b⟩) w w6 := HP5.out.step (p := 10 + b.size) hgl HS.out rfl (by omega) h6 ho6; clear h6 ho6; have HP6 := Lib.hid P6; clear P6)
  go_ret
  exact ⟨ret_slice (by rw [bytes_len, put_sum, four_len]; show 10 + b.size + 4 = 0 + (14 + b.size); omega), HP6.out.row, HP6.out.out⟩

end Go.Proofs.Ytfdpmbnjjnmdiaa.Rec

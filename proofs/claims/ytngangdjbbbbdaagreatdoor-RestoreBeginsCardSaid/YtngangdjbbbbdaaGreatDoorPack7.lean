/-
Layer 8 (record): an item's bytes, into a room for just these: walked.
Layer 8 (record): All, walked.
Layer 8 (record): Put, the program's and the document's, walked.
Layer 8 (record): the document's Read, walked.
Layer 8 (record): the document's Scan and Same, walked.
Layers 20 and 23, the document's: Data; Torn, Lost, Tail.
Layer 23 (restore): Tail, Begin, Last.
Layer 21 (gens), plain: the stores that the law makes; what a turn makes of one.
-/
import Derived.Test.YtngangdjbbbbdaaGreatDoorPack6
section
namespace Go.Proofs.YtngangdjbbbbdaaGreatDoor.Rec
open Go.RowKit Go.Proofs.YtngangdjbbbbdaaGreatDoor.Sum Go.Proofs.YtngangdjbbbbdaaGreatDoor.Own

/-- bytes put behind the p bytes of a room -/
def PutIn (g o p c : Nat) (cur : List Value) (l : List UInt8) (w : World) (e : Ending) (w' : World) : Prop :=
  e = .returned (.slice (some ⟨g, o, none⟩) (p + l.length) c) ∧ w'.heap[g]? = some (.cells (splice cur (o + p) (bv l)).toArray 5 (0, 0)) ∧ Out (fun k => k = g) w w'

/-- so many bytes are put -/
structure NumAt (g o p c : Nat) (cur : List Value) (l : List UInt8) (w wr : World) (v : Value) : Prop where
  val : v = .slice (some ⟨g, o, none⟩) (p + l.length) c
  row : wr.heap[g]? = some (.cells (splice cur (o + p) (bv l)).toArray 5 (0, 0))
  out : Out (fun k => k = g) w wr
theorem NumAt.cast {g o p c : Nat} {cur : List Value} {l l' : List UInt8} {w wr : World} {v : Value} (h : NumAt g o p c cur l w wr v) (e : l = l') : NumAt g o p c cur l' w wr v := e ▸ h
theorem NumAt.step {g o p c : Nat} {cur : List Value} {l : List UInt8} {w wr w1 : World} {v : Value} {b : UInt8} (h : NumAt g o p c cur l w wr v) (hf : o + p + l.length + 1 ≤ cur.length) {ob : Obj}
    (h1 : w1.heap[g]? = some (.cells (splice (splice cur (o + p) (bv l)) (o + (p + l.length)) (bv [b])).toArray 5 (0, 0))) (ho : Out (fun k => k = g) (wr.alloc ob) w1) :
    NumAt g o p c cur (l ++ [b]) w w1 (.slice (some ⟨g, o, none⟩) (p + l.length + 1) c) := by
  refine ⟨by rw [List.length_append]; rfl, ?_, (h.out.alloc ob).trans ho (fun _ _ h => h)⟩
  rw [h1, show o + (p + l.length) = o + p + (bv l).length by rw [bv_len]; omega, splice_two _ _ _ _ (by rw [bv_len]; omega), ← bv_app]

theorem byte_new (w : World) (x : Int) (b : UInt8) (hb : (b.toNat : Int) = x) (T : TypeId) (g : Nat) (hg : g = w.heap.size) : ∀ j u, (bv [b])[j]? = some u → (w.alloc (.cells #[.int .u8 x] T (0, 0))).cell? ((⟨g, 0, none⟩ : Addr).add j) = some u := by
  subst hg hb
  intro j u hu
  rw [add_at, Own.at_cell (at_new w _), Nat.zero_add]
  simpa [bv] using hu

theorem dig2 {n : Int} (_ : 0 ≤ n) (h1 : n < 65536) : dig 2 n = [byteI (n / 256), byteI (n % 256)] := by
  have e : dig 2 n = [byteI (n / 256 % 256), byteI (n % 256)] := rfl
  rw [e, show n / 256 % 256 = n / 256 by omega]
theorem dig6 {n : Int} (_ : 0 ≤ n) (h1 : n < 281474976710656) : dig 6 n = [byteI (n / 1099511627776), byteI (n / 4294967296 % 256), byteI (n / 16777216 % 256), byteI (n / 65536 % 256), byteI (n / 256 % 256), byteI (n % 256)] := by
  have e : dig 6 n = [byteI (n / 256 / 256 / 256 / 256 / 256 % 256), byteI (n / 256 / 256 / 256 / 256 % 256), byteI (n / 256 / 256 / 256 % 256), byteI (n / 256 / 256 % 256), byteI (n / 256 % 256), byteI (n % 256)] := rfl
  rw [e, show n / 256 / 256 / 256 / 256 / 256 % 256 = n / 1099511627776 by omega, show n / 256 / 256 / 256 / 256 % 256 = n / 4294967296 % 256 by omega, show n / 256 / 256 / 256 % 256 = n / 16777216 % 256 by omega, show n / 256 / 256 % 256 = n / 65536 % 256 by omega]

set_option maxRecDepth 100000 in
set_option maxHeartbeats 2000000 in
theorem num2_calls (w : World) (g o p c : Nat) (cur : List Value) (n : Int) (n0 : 0 ≤ n) (n1 : n < 65536) (hg : w.heap[g]? = some (.cells cur.toArray 5 (0, 0))) (hroom : p + 2 ≤ c) (hfit : o + c ≤ cur.length) :
    Calls Tryz.prog 113 #[.slice (some ⟨g, o, none⟩) p c, .int .i64 n, .int .i64 2] w (PutIn g o p c cur (dig 2 n) w) := by
  obtain ⟨i0, hi, hz0, hz1, hz2⟩ := info_parts info_byte
  have hgl := at_lt hg
  have HD := Lib.hid (dig2 n0 n1)
  go_enter Tryz.func113, Tryz.ntmps113
  go_wp2_with fail
  go_loopw [0, 9] (fun v i wr => ∃ k : Nat, k ≤ 2 ∧ i = .int .i64 k ∧ NumAt g o p c cur ((dig 2 n).take k) w wr v) (fun _ i _ => 2 - (intOf i).toNat)
  case atStart => exact ⟨0, by omega, rfl, rfl, by simpa [splice, bv] using hg, Out.refl _ _⟩
  case round =>
    obtain ⟨k, hk, rfl, N⟩ := hrel
    have hk' : k = 0 ∨ k = 1 ∨ k = 2 := by omega
    rw [HD.out] at N
    rcases hk' with rfl | rfl | rfl
    · obtain ⟨l, hl⟩ : ∃ l : List UInt8, [] = l := ⟨_, rfl⟩
      have N := NumAt.cast N hl
      have hll : l.length ≤ 0 := by rw [← hl]; exact Nat.le_refl _
      obtain rfl := N.val
      have hrow := N.row
      have HC : Hid ((splice cur (o + p) (bv l)).length = cur.length) := Lib.hid (length_splice _ _ _ (by rw [bv_len]; omega))
      have HB : Hid (((byteI (n / 256)).toNat : Int) = n / 256) := Lib.hid (byteI_back (by omega) (by omega))
      have HN := Lib.hid N
      have HL := Lib.hid hl
      have hlt : g < wr.heap.size := at_lt hrow
      clear N hl
      go_wp2_with (at_builtin; (refine wp_here _ rfl (.tmp 12) (.tmp 21) 58 rfl 5 i0 Tryz.underlying58 hi hz1 g o (p + l.length) c (splice cur (o + p) (bv l)) 5 rfl (at_old _ _ hrow) ⟨wr.heap.size, 0, none⟩ 1 1 (bv [byteI (n / 256)]) rfl rfl (byte_new _ _ _ HB.out _ _ rfl) (bv_one _) (by omega) (by rw [HC.out]; omega) ?_); intro w1 h1 ho1)
      have N1 := HN.out.step (b := byteI (n / 256)) (by omega) h1 ho1
      have HN1 := Lib.hid N1
      clear h1 ho1 hrow N1
      go_roundw
      case rel => exact ⟨1, by omega, by go_num, by rw [HD.out]; exact NumAt.cast HN1.out (by rw [← HL.out]; rfl)⟩
      case measure => simp [intOf]
    · obtain ⟨l, hl⟩ : ∃ l : List UInt8, [byteI (n / 256)] = l := ⟨_, rfl⟩
      have N := NumAt.cast N hl
      have hll : l.length ≤ 1 := by rw [← hl]; exact Nat.le_refl _
      obtain rfl := N.val
      have hrow := N.row
      have HC : Hid ((splice cur (o + p) (bv l)).length = cur.length) := Lib.hid (length_splice _ _ _ (by rw [bv_len]; omega))
      have HB : Hid (((byteI (n % 256)).toNat : Int) = n % 256) := Lib.hid (byteI_back (by omega) (by omega))
      have HN := Lib.hid N
      have HL := Lib.hid hl
      have hlt : g < wr.heap.size := at_lt hrow
      clear N hl
      go_wp2_with (at_builtin; (refine wp_here _ rfl (.tmp 12) (.tmp 21) 58 rfl 5 i0 Tryz.underlying58 hi hz1 g o (p + l.length) c (splice cur (o + p) (bv l)) 5 rfl (at_old _ _ hrow) ⟨wr.heap.size, 0, none⟩ 1 1 (bv [byteI (n % 256)]) rfl rfl (byte_new _ _ _ HB.out _ _ rfl) (bv_one _) (by omega) (by rw [HC.out]; omega) ?_); intro w1 h1 ho1)
      have N1 := HN.out.step (b := byteI (n % 256)) (by omega) h1 ho1
      have HN1 := Lib.hid N1
      clear h1 ho1 hrow N1
      go_roundw
      case rel => exact ⟨2, by omega, by go_num, by rw [HD.out]; exact NumAt.cast HN1.out (by rw [← HL.out]; rfl)⟩
      case measure => simp [intOf]
    · have N := NumAt.cast (l' := dig 2 n) N (by rw [HD.out]; rfl)
      obtain rfl := N.val
      have HN := Lib.hid N
      clear N
      go_wp2_with fail
      go_ret
      exact ⟨rfl, HN.out.row, HN.out.out⟩

set_option maxRecDepth 100000 in
set_option maxHeartbeats 2000000 in
theorem num6_calls (w : World) (g o p c : Nat) (cur : List Value) (n : Int) (n0 : 0 ≤ n) (n1 : n < 281474976710656) (hg : w.heap[g]? = some (.cells cur.toArray 5 (0, 0))) (hroom : p + 6 ≤ c) (hfit : o + c ≤ cur.length) :
    Calls Tryz.prog 113 #[.slice (some ⟨g, o, none⟩) p c, .int .i64 n, .int .i64 6] w (PutIn g o p c cur (dig 6 n) w) := by
  obtain ⟨i0, hi, hz0, hz1, hz2⟩ := info_parts info_byte
  have hgl := at_lt hg
  have HD := Lib.hid (dig6 n0 n1)
  go_enter Tryz.func113, Tryz.ntmps113
  go_wp2_with fail
  go_loopw [0, 9] (fun v i wr => ∃ k : Nat, k ≤ 6 ∧ i = .int .i64 k ∧ NumAt g o p c cur ((dig 6 n).take k) w wr v) (fun _ i _ => 6 - (intOf i).toNat)
  case atStart => exact ⟨0, by omega, rfl, rfl, by simpa [splice, bv] using hg, Out.refl _ _⟩
  case round =>
    obtain ⟨k, hk, rfl, N⟩ := hrel
    have hk' : k = 0 ∨ k = 1 ∨ k = 2 ∨ k = 3 ∨ k = 4 ∨ k = 5 ∨ k = 6 := by omega
    rw [HD.out] at N
    rcases hk' with rfl | rfl | rfl | rfl | rfl | rfl | rfl
    · obtain ⟨l, hl⟩ : ∃ l : List UInt8, [] = l := ⟨_, rfl⟩
      have N := NumAt.cast N hl
      have hll : l.length ≤ 0 := by rw [← hl]; exact Nat.le_refl _
      obtain rfl := N.val
      have hrow := N.row
      have HC : Hid ((splice cur (o + p) (bv l)).length = cur.length) := Lib.hid (length_splice _ _ _ (by rw [bv_len]; omega))
      have HB : Hid (((byteI (n / 1099511627776)).toNat : Int) = n / 1099511627776) := Lib.hid (byteI_back (by omega) (by omega))
      have HN := Lib.hid N
      have HL := Lib.hid hl
      have hlt : g < wr.heap.size := at_lt hrow
      clear N hl
      go_wp2_with (at_builtin; (refine wp_here _ rfl (.tmp 12) (.tmp 21) 58 rfl 5 i0 Tryz.underlying58 hi hz1 g o (p + l.length) c (splice cur (o + p) (bv l)) 5 rfl (at_old _ _ hrow) ⟨wr.heap.size, 0, none⟩ 1 1 (bv [byteI (n / 1099511627776)]) rfl rfl (byte_new _ _ _ HB.out _ _ rfl) (bv_one _) (by omega) (by rw [HC.out]; omega) ?_); intro w1 h1 ho1)
      have N1 := HN.out.step (b := byteI (n / 1099511627776)) (by omega) h1 ho1
      have HN1 := Lib.hid N1
      clear h1 ho1 hrow N1
      go_roundw
      case rel => exact ⟨1, by omega, by go_num, by rw [HD.out]; exact NumAt.cast HN1.out (by rw [← HL.out]; rfl)⟩
      case measure => simp [intOf]
    · obtain ⟨l, hl⟩ : ∃ l : List UInt8, [byteI (n / 1099511627776)] = l := ⟨_, rfl⟩
      have N := NumAt.cast N hl
      have hll : l.length ≤ 1 := by rw [← hl]; exact Nat.le_refl _
      obtain rfl := N.val
      have hrow := N.row
      have HC : Hid ((splice cur (o + p) (bv l)).length = cur.length) := Lib.hid (length_splice _ _ _ (by rw [bv_len]; omega))
      have HB : Hid (((byteI (n / 4294967296 % 256)).toNat : Int) = n / 4294967296 % 256) := Lib.hid (byteI_back (by omega) (by omega))
      have HN := Lib.hid N
      have HL := Lib.hid hl
      have hlt : g < wr.heap.size := at_lt hrow
      clear N hl
      go_wp2_with (at_builtin; (refine wp_here _ rfl (.tmp 12) (.tmp 21) 58 rfl 5 i0 Tryz.underlying58 hi hz1 g o (p + l.length) c (splice cur (o + p) (bv l)) 5 rfl (at_old _ _ hrow) ⟨wr.heap.size, 0, none⟩ 1 1 (bv [byteI (n / 4294967296 % 256)]) rfl rfl (byte_new _ _ _ HB.out _ _ rfl) (bv_one _) (by omega) (by rw [HC.out]; omega) ?_); intro w1 h1 ho1)
      have N1 := HN.out.step (b := byteI (n / 4294967296 % 256)) (by omega) h1 ho1
      have HN1 := Lib.hid N1
      clear h1 ho1 hrow N1
      go_roundw
      case rel => exact ⟨2, by omega, by go_num, by rw [HD.out]; exact NumAt.cast HN1.out (by rw [← HL.out]; rfl)⟩
      case measure => simp [intOf]
    · obtain ⟨l, hl⟩ : ∃ l : List UInt8, [byteI (n / 1099511627776), byteI (n / 4294967296 % 256)] = l := ⟨_, rfl⟩
      have N := NumAt.cast N hl
      have hll : l.length ≤ 2 := by rw [← hl]; exact Nat.le_refl _
      obtain rfl := N.val
      have hrow := N.row
      have HC : Hid ((splice cur (o + p) (bv l)).length = cur.length) := Lib.hid (length_splice _ _ _ (by rw [bv_len]; omega))
      have HB : Hid (((byteI (n / 16777216 % 256)).toNat : Int) = n / 16777216 % 256) := Lib.hid (byteI_back (by omega) (by omega))
      have HN := Lib.hid N
      have HL := Lib.hid hl
      have hlt : g < wr.heap.size := at_lt hrow
      clear N hl
      go_wp2_with (at_builtin; (refine wp_here _ rfl (.tmp 12) (.tmp 21) 58 rfl 5 i0 Tryz.underlying58 hi hz1 g o (p + l.length) c (splice cur (o + p) (bv l)) 5 rfl (at_old _ _ hrow) ⟨wr.heap.size, 0, none⟩ 1 1 (bv [byteI (n / 16777216 % 256)]) rfl rfl (byte_new _ _ _ HB.out _ _ rfl) (bv_one _) (by omega) (by rw [HC.out]; omega) ?_); intro w1 h1 ho1)
      have N1 := HN.out.step (b := byteI (n / 16777216 % 256)) (by omega) h1 ho1
      have HN1 := Lib.hid N1
      clear h1 ho1 hrow N1
      go_roundw
      case rel => exact ⟨3, by omega, by go_num, by rw [HD.out]; exact NumAt.cast HN1.out (by rw [← HL.out]; rfl)⟩
      case measure => simp [intOf]
    · obtain ⟨l, hl⟩ : ∃ l : List UInt8, [byteI (n / 1099511627776), byteI (n / 4294967296 % 256), byteI (n / 16777216 % 256)] = l := ⟨_, rfl⟩
      have N := NumAt.cast N hl
      have hll : l.length ≤ 3 := by rw [← hl]; exact Nat.le_refl _
      obtain rfl := N.val
      have hrow := N.row
      have HC : Hid ((splice cur (o + p) (bv l)).length = cur.length) := Lib.hid (length_splice _ _ _ (by rw [bv_len]; omega))
      have HB : Hid (((byteI (n / 65536 % 256)).toNat : Int) = n / 65536 % 256) := Lib.hid (byteI_back (by omega) (by omega))
      have HN := Lib.hid N
      have HL := Lib.hid hl
      have hlt : g < wr.heap.size := at_lt hrow
      clear N hl
      go_wp2_with (at_builtin; (refine wp_here _ rfl (.tmp 12) (.tmp 21) 58 rfl 5 i0 Tryz.underlying58 hi hz1 g o (p + l.length) c (splice cur (o + p) (bv l)) 5 rfl (at_old _ _ hrow) ⟨wr.heap.size, 0, none⟩ 1 1 (bv [byteI (n / 65536 % 256)]) rfl rfl (byte_new _ _ _ HB.out _ _ rfl) (bv_one _) (by omega) (by rw [HC.out]; omega) ?_); intro w1 h1 ho1)
      have N1 := HN.out.step (b := byteI (n / 65536 % 256)) (by omega) h1 ho1
      have HN1 := Lib.hid N1
      clear h1 ho1 hrow N1
      go_roundw
      case rel => exact ⟨4, by omega, by go_num, by rw [HD.out]; exact NumAt.cast HN1.out (by rw [← HL.out]; rfl)⟩
      case measure => simp [intOf]
    · obtain ⟨l, hl⟩ : ∃ l : List UInt8, [byteI (n / 1099511627776), byteI (n / 4294967296 % 256), byteI (n / 16777216 % 256), byteI (n / 65536 % 256)] = l := ⟨_, rfl⟩
      have N := NumAt.cast N hl
      have hll : l.length ≤ 4 := by rw [← hl]; exact Nat.le_refl _
      obtain rfl := N.val
      have hrow := N.row
      have HC : Hid ((splice cur (o + p) (bv l)).length = cur.length) := Lib.hid (length_splice _ _ _ (by rw [bv_len]; omega))
      have HB : Hid (((byteI (n / 256 % 256)).toNat : Int) = n / 256 % 256) := Lib.hid (byteI_back (by omega) (by omega))
      have HN := Lib.hid N
      have HL := Lib.hid hl
      have hlt : g < wr.heap.size := at_lt hrow
      clear N hl
      go_wp2_with (at_builtin; (refine wp_here _ rfl (.tmp 12) (.tmp 21) 58 rfl 5 i0 Tryz.underlying58 hi hz1 g o (p + l.length) c (splice cur (o + p) (bv l)) 5 rfl (at_old _ _ hrow) ⟨wr.heap.size, 0, none⟩ 1 1 (bv [byteI (n / 256 % 256)]) rfl rfl (byte_new _ _ _ HB.out _ _ rfl) (bv_one _) (by omega) (by rw [HC.out]; omega) ?_); intro w1 h1 ho1)
      have N1 := HN.out.step (b := byteI (n / 256 % 256)) (by omega) h1 ho1
      have HN1 := Lib.hid N1
      clear h1 ho1 hrow N1
      go_roundw
      case rel => exact ⟨5, by omega, by go_num, by rw [HD.out]; exact NumAt.cast HN1.out (by rw [← HL.out]; rfl)⟩
      case measure => simp [intOf]
    · obtain ⟨l, hl⟩ : ∃ l : List UInt8, [byteI (n / 1099511627776), byteI (n / 4294967296 % 256), byteI (n / 16777216 % 256), byteI (n / 65536 % 256), byteI (n / 256 % 256)] = l := ⟨_, rfl⟩
      have N := NumAt.cast N hl
      have hll : l.length ≤ 5 := by rw [← hl]; exact Nat.le_refl _
      obtain rfl := N.val
      have hrow := N.row
      have HC : Hid ((splice cur (o + p) (bv l)).length = cur.length) := Lib.hid (length_splice _ _ _ (by rw [bv_len]; omega))
      have HB : Hid (((byteI (n % 256)).toNat : Int) = n % 256) := Lib.hid (byteI_back (by omega) (by omega))
      have HN := Lib.hid N
      have HL := Lib.hid hl
      have hlt : g < wr.heap.size := at_lt hrow
      clear N hl
      go_wp2_with (at_builtin; (refine wp_here _ rfl (.tmp 12) (.tmp 21) 58 rfl 5 i0 Tryz.underlying58 hi hz1 g o (p + l.length) c (splice cur (o + p) (bv l)) 5 rfl (at_old _ _ hrow) ⟨wr.heap.size, 0, none⟩ 1 1 (bv [byteI (n % 256)]) rfl rfl (byte_new _ _ _ HB.out _ _ rfl) (bv_one _) (by omega) (by rw [HC.out]; omega) ?_); intro w1 h1 ho1)
      have N1 := HN.out.step (b := byteI (n % 256)) (by omega) h1 ho1
      have HN1 := Lib.hid N1
      clear h1 ho1 hrow N1
      go_roundw
      case rel => exact ⟨6, by omega, by go_num, by rw [HD.out]; exact NumAt.cast HN1.out (by rw [← HL.out]; rfl)⟩
      case measure => simp [intOf]
    · have N := NumAt.cast (l' := dig 6 n) N (by rw [HD.out]; rfl)
      obtain rfl := N.val
      have HN := Lib.hid N
      clear N
      go_wp2_with fail
      go_ret
      exact ⟨rfl, HN.out.row, HN.out.out⟩

theorem two_new (w : World) (x : Int) (b : UInt8) (hb : (b.toNat : Int) = x) (T : TypeId) (g : Nat) (hg : g = w.heap.size) : ∀ j u, (bv [87, b])[j]? = some u → (w.alloc (.cells #[.int .u8 87, .int .u8 x] T (0, 0))).cell? ((⟨g, 0, none⟩ : Addr).add j) = some u := by
  subst hg hb
  intro j u hu
  rw [add_at, Own.at_cell (at_new w _), Nat.zero_add]
  simpa [bv] using hu
theorem box3 {w : World} {b : Nat} {x y z : Value} {t : TypeId} (h : w.heap[b]? = some (.cells #[x, y, z] t (0, 0))) :
    w.cell? ⟨b, 0, none⟩ = some x ∧ w.cell? ⟨b, 1, none⟩ = some y ∧ w.cell? ⟨b, 2, none⟩ = some z :=
  ⟨Own.at_cell h 0, Own.at_cell h 1, Own.at_cell h 2⟩
theorem sp {cur : List Value} {o p : Nat} {l m r : List UInt8} (hp : l.length = p) (hr : l ++ m = r) (h : o + p ≤ cur.length) : splice (splice cur o (bv l)) (o + p) (bv m) = splice cur o (bv r) := by
  subst hp hr
  have := splice_two cur (bv l) (bv m) o (by rw [bv_len]; exact h)
  rw [bv_len] at this
  rw [this, bv_app]
theorem sp_len {cur : List Value} {o : Nat} {l : List UInt8} (h : o + l.length ≤ cur.length) : (splice cur o (bv l)).length = cur.length := length_splice _ _ _ (by rw [bv_len]; exact h)
theorem ret_slice {A : Option Addr} {n m c : Nat} (h : n = m) : Ending.returned (.slice A n c) = .returned (.slice A m c) := by rw [h]

/-- bytes that are put so far: the row, the item's box -/
structure PutAt (g o : Nat) (cur : List Value) (k a : Int) (b : ByteArray) (l : List UInt8) (w wr : World) : Prop where
  row : wr.heap[g]? = some (.cells (splice cur o (bv l)).toArray 5 (0, 0))
  box : wr.heap[w.heap.size]? = some (.cells #[.int .i64 k, .int .i64 a, .string b] 43 (0, 0))
  out : Out (fun k => k = g) w wr
theorem PutAt.step {g o p : Nat} {cur : List Value} {k a : Int} {b : ByteArray} {l m r : List UInt8} {w wr w1 : World} (h : PutAt g o cur k a b l w wr) (hg : g < w.heap.size) (hp : l.length = p) (hr : l ++ m = r) (hf : o + p ≤ cur.length)
    (h1 : w1.heap[g]? = some (.cells (splice (splice cur o (bv l)) (o + p) (bv m)).toArray 5 (0, 0))) (ho : Out (fun k => k = g) wr w1) : PutAt g o cur k a b r w w1 :=
  ⟨by rw [h1, sp hp hr hf], ho.at_ h.box (by omega), h.out.trans ho (fun _ _ h => h)⟩
theorem PutAt.below {g o : Nat} {cur : List Value} {k a : Int} {b : ByteArray} {l : List UInt8} {w wr w1 : World} (h : PutAt g o cur k a b l w wr) (hb : Below wr.heap.size wr w1) : PutAt g o cur k a b l w w1 :=
  ⟨(hb.block g (at_lt h.row)).trans h.row, (hb.block _ (at_lt h.box)).trans h.box, h.out.trans (Out.ofNew (S := fun k => k = g) hb) (fun _ _ h => h)⟩

set_option maxRecDepth 100000 in
set_option maxHeartbeats 2000000 in
theorem item_calls (w : World) (g o c : Nat) (cur : List Value) (k a : Int) (b : ByteArray) (hx : chk ⟨k, a, b⟩ = 0) (hg : w.heap[g]? = some (.cells cur.toArray 5 (0, 0))) (hroom : 14 + b.size ≤ c) (hfit : o + c ≤ cur.length) :
    Calls Tryz.prog 104 #[.slice (some ⟨g, o, none⟩) 0 c, .agg #[.int .i64 k, .int .i64 a, .string b]] w (PutIn g o 0 c cur (bytesOf ⟨k, a, b⟩) w) := by
  obtain ⟨i0, hi, hz0, hz1, hz2⟩ := info_parts info_byte
  obtain ⟨k0, k1, a0, a1, b1⟩ := chk_ok.1 hx
  change 1 ≤ k at k0; change k ≤ 15 at k1; change 0 ≤ a at a0; change a ≤ 1099511627776 at a1; change b.size ≤ 4096 at b1
  have hgl := at_lt hg
  have HB : Hid (((byteI k).toNat : Int) = k) := Lib.hid (byteI_back (by omega) (by omega))
  have HS := Lib.hid (noSum_len ⟨k, a, b⟩)
  have HH := Lib.hid (head_len ⟨k, a, b⟩)
  go_enter Tryz.func104, Tryz.ntmps104
  go_wp2_with (at_builtin; refine wp_here _ rfl (.tmp 6) (.tmp 10) 58 rfl 5 i0 Tryz.underlying58 hi hz1 g o 0 c cur 5 rfl (at_old _ _ (at_old _ _ hg)) ⟨w.heap.size + 1, 0, none⟩ 2 2 (bv [87, byteI k]) rfl rfl (two_new _ _ _ HB.out _ _ (by simp)) (bv_one _) (by omega) (by omega) ?_; intro w1 h1 ho1; have P1 : PutAt g o cur k a b [87, byteI k] w w1 := ⟨h1, ho1.at_ (at_old _ _ (at_new _ _)) (by omega), (((Out.refl (fun k => k = g) w).alloc _).alloc _).trans ho1 (fun _ _ h => h)⟩; clear h1 ho1; obtain ⟨x0, x1, x2⟩ := box3 P1.box; have HP1 := Lib.hid P1; clear P1)
  refine (num6_calls w1 g o 2 c (splice cur o (bv [87, byteI k])) a a0 (by omega) HP1.out.row (by omega) (by rw [sp_len (by show o + 2 ≤ _; omega)]; exact hfit)).mono ?_
  rintro e w2 ⟨rfl, h2, ho2⟩
  have P2 := HP1.out.step (p := 2) hgl rfl rfl (by omega) h2 ho2
  clear h2 ho2 x0 x1 x2 HP1
  obtain ⟨x0, x1, x2⟩ := box3 P2.box
  have HP2 := Lib.hid P2
  clear P2
  rw [show 2 + (dig 6 a).length = 8 by rw [dig_len]]
  have b0 : (0 : Int) ≤ (b.size : Int) := by omega
  have b2 : (b.size : Int) < 65536 := by omega
  go_wp2_with fail
  refine (num2_calls w2 g o 8 c (splice cur o (bv ([87, byteI k] ++ dig 6 a))) (b.size : Int) b0 b2 HP2.out.row (by omega) (by rw [sp_len (by rw [List.length_append, dig_len]; show o + 8 ≤ _; omega)]; exact hfit)).mono ?_
  rintro e w3 ⟨rfl, h3, ho3⟩
  have P3 : PutAt g o cur k a b (headL ⟨k, a, b⟩) w w3 := HP2.out.step (p := 8) hgl (by rw [List.length_append, dig_len]; rfl) (by rw [List.append_assoc]; rfl) (by omega) h3 ho3
  clear h3 ho3 x0 x1 x2 HP2
  obtain ⟨x0, x1, x2⟩ := box3 P3.box
  have hr3 := P3.row
  have HP3 := Lib.hid P3
  clear P3
  rw [show 8 + (dig 2 (b.size : Int)).length = 10 by rw [dig_len]]
  have HOf : Hid (∀ W, Calls Tryz.prog 115 #[.string ⟨(noSum ⟨k, a, b⟩).toArray⟩] W fun e w' => e = .returned (.int .i64 (sumOf (noSum ⟨k, a, b⟩))) ∧ W = w') := Lib.hid (fun W => of_calls _ (by show (noSum ⟨k, a, b⟩).length ≤ _; rw [HS.out]; show 10 + b.size ≤ _; omega) W)
  go_wp2_with (at_builtin; refine wp_here_text _ rfl (.tmp 21) (.tmp 23) 58 9 rfl 5 i0 Tryz.underlying58 Tryz.underlying9 hi hz1 g o 10 c (splice cur o (bv (headL ⟨k, a, b⟩))) 5 rfl hr3 b rfl (by omega) (by rw [sp_len (by rw [HH.out]; omega)]; omega) ?_; intro w4 h4 ho4; have P4 : PutAt g o cur k a b (noSum ⟨k, a, b⟩) w w4 := HP3.out.step (p := 10) hgl HH.out rfl (by omega) h4 ho4; clear h4 ho4 x0 x1 x2 HP3; have hcv := text_of (n := 10 + b.size) (cap := c) (l := noSum ⟨k, a, b⟩) (o := o) P4.row HS.out (fun j hj => splice_at _ _ _ _ (by omega) (by rw [bv_len, HS.out]; exact hj)); have HP4 := Lib.hid P4; clear P4)
  refine (HOf.out _).mono ?_
  rintro e w' ⟨rfl, rfl⟩
  go_wp2_with fail
  refine (Sum.put_calls _ _).mono ?_
  rintro e w5 ⟨rfl, hb5⟩
  have P5 := HP4.out.below hb5
  have hr5 := P5.row
  have h4 : (⟨(putL (sumOf (noSum ⟨k, a, b⟩))).toArray⟩ : ByteArray).size = 4 := by show (putL (sumOf (noSum ⟨k, a, b⟩))).length = 4; rw [put_sum, four_len]
  have H4 := Lib.hid h4
  have HP5 := Lib.hid P5
  clear P5 hb5 hcv h4
  go_wp2_with (at_builtin; refine wp_here_text _ rfl (.tmp 25) (.tmp 29) 58 9 rfl 5 i0 Tryz.underlying58 Tryz.underlying9 hi hz1 g o (10 + b.size) c (splice cur o (bv (noSum ⟨k, a, b⟩))) 5 rfl hr5 _ rfl (by rw [H4.out]; omega) (by rw [sp_len (by rw [HS.out]; show o + (10 + b.size) ≤ _; omega), H4.out]; omega) ?_; intro w6 h6 ho6; have P6 : PutAt g o cur k a b (bytesOf ⟨k, a, b⟩) w w6 := HP5.out.step (p := 10 + b.size) hgl HS.out rfl (by omega) h6 ho6; clear h6 ho6; have HP6 := Lib.hid P6; clear P6)
  go_ret
  exact ⟨ret_slice (by rw [bytes_len, put_sum, four_len]; show 10 + b.size + 4 = 0 + (14 + b.size); omega), HP6.out.row, HP6.out.out⟩

end Go.Proofs.YtngangdjbbbbdaaGreatDoor.Rec
end

section
namespace Go.Proofs.YtngangdjbbbbdaaGreatDoor.Rec
open Go.RowKit Go.Proofs.YtngangdjbbbbdaaGreatDoor.Sum Go.Proofs.YtngangdjbbbbdaaGreatDoor.Own

theorem allC_at {xs : List Itm} {k : Nat} (hk : k < xs.length) (h : ∀ j (hj : j < xs.length), j < k → chk xs[j] = 0) (hc : chk xs[k] ≠ 0) : allC xs = chk xs[k] := by
  induction xs generalizing k with
  | nil => simp at hk
  | cons x l ih =>
    cases k with
    | zero =>
      have hc' : chk x ≠ 0 := hc
      show (if chk x = 0 then _ else _) = chk x
      rw [if_neg hc']
    | succ k =>
      have h0 : chk x = 0 := h 0 (by simp) (by omega)
      show (if chk x = 0 then _ else _) = _
      rw [if_pos h0]
      exact ih (by simpa using hk) (fun j hj hlt => h (j + 1) (by simpa using hj) (by omega)) hc
theorem allC_all {xs : List Itm} (h : ∀ j (hj : j < xs.length), j < xs.length → chk xs[j] = 0) : allC xs = 0 := allC_ok fun x hx => by
  obtain ⟨j, hj, rfl⟩ := List.getElem_of_mem hx
  exact h j hj hj
theorem tot_small {xs : List Itm} (k : Nat) (h : ∀ j (hj : j < xs.length), j < k → chk xs[j] = 0) : tot (xs.take k) ≤ k * 4110 := by
  refine Nat.le_trans (tot_le fun x hx => ?_) (Nat.mul_le_mul_right _ (List.length_take_le _ _))
  obtain ⟨j, hj, rfl⟩ := List.getElem_of_mem hx
  rw [List.length_take] at hj
  rw [List.getElem_take]
  exact (chk_ok.1 (h j (by omega) (by omega))).2.2.2.2

def AllPost (xs : List Itm) (w : World) (e : Ending) (w' : World) : Prop :=
  e = .returned (.tuple #[.string ⟨(allV xs).toArray⟩, .int .i64 (allC xs)]) ∧ Below w.heap.size w w'
theorem all_none {xs : List Itm} {w w' : World} {c : Int} (h : allC xs = c) (hc : c ≠ 0) (hb : Below w.heap.size w w') : AllPost xs w (.returned (.tuple #[.string ⟨#[]⟩, .int .i64 c])) w' :=
  ⟨by unfold allV; rw [h, if_neg hc], hb⟩
theorem all_some {xs : List Itm} {w w' : World} (h : allC xs = 0) (hb : Below w.heap.size w w') : AllPost xs w (.returned (.tuple #[.string ⟨(flat xs).toArray⟩, .int .i64 0])) w' :=
  ⟨by unfold allV; rw [h, if_pos rfl], hb⟩

theorem cut3 (g N p m : Nat) (hm : 0 < m) (h : p + m ≤ N) (W : World) :
    (Instr.sliceAt 58 (.slice (some ⟨g, 0, none⟩) N N) (some (.int .i64 (p : Int))) (some (.int .i64 (p : Int))) (some (.int .i64 ((p : Int) + (m : Int))))).run Tryz.prog W = .ok (.slice (some ⟨g, p, none⟩) 0 m) W := by
  have ht : Tryz.prog.underlying 58 = some (.slice (Tryz.prog.elem 58)) := by kernel_rfl
  have he : Tryz.prog.elem 58 = 5 := by kernel_rfl
  obtain ⟨i0, hi, hz0, hz1, hz2⟩ := info_parts info_byte
  rw [run_sliceAt_slice W _ _ _ _ _ ht, run_slice_lhm W _ _ _ _ ht .i64 .i64 .i64 _ _ _ (by omega) (by omega) (by omega) (by omega), he]
  have e1 : ((p : Int) + (m : Int)).toNat = p + m := by omega
  have hs : (sizeOf 5).run Tryz.prog W = .ok 1 W := by simp [sizeOf, typeInfo, hi, hz1]
  rw [hs]
  simp only [Result.andThen, sliced, e1, Int.toNat_natCast, if_neg (show ¬ p + m = p by omega)]
  simp [add_at]

/-- the first so many items' bytes are put -/
structure AllAt (g : Nat) (xs : List Itm) (k : Nat) (w wr : World) : Prop where
  row : wr.heap[g]? = some (.cells (splice (bv (List.replicate (tot xs) 0)) 0 (bv (flat (xs.take k)))).toArray 5 (0, 0))
  below : Below w.heap.size w wr

set_option maxRecDepth 100000 in
set_option maxHeartbeats 2000000 in
theorem all_calls (xs : List Itm) (p : Option Addr) (c : Nat) (w : World) (h : Its w xs p c) (hn : xs.length ≤ 1000000) :
    Calls Tryz.prog 92 #[.slice p xs.length c] w (AllPost xs w) := by
  have hcap := h.cap
  have hmax := h.max
  unfold maxLen at hmax
  have q2 : (xs.length : Int) ≤ 1000000 := by omega
  have HI := Lib.hid h
  clear h
  go_enter Tryz.func92, Tryz.ntmps92
  go_wp2_with fail
  go_loopw [4, 15] (fun z i wr => ∃ k : Nat, k ≤ xs.length ∧ i = .int .i64 k ∧ z = .int .i64 ((tot (xs.take k) : Nat) : Int) ∧ Hid (∀ j (hj : j < xs.length), j < k → chk xs[j] = 0) ∧ Below w.heap.size w wr) (fun _ i _ => xs.length - (intOf i).toNat)
  case atStart => exact ⟨0, by omega, rfl, rfl, Lib.hid (fun j hj h => absurd h (by omega)), Below.refl _ _⟩
  case round =>
    obtain ⟨k, hk, rfl, rfl, HK, hB⟩ := hrel
    have ht := tot_small k HK.out
    rcases Nat.lt_or_eq_of_le hk with hlt | rfl
    · rcases HI.out.cells with h0 | ⟨b, o, rfl, hb, hc⟩
      · rw [h0] at hlt; simp at hlt
      · obtain ⟨c0, c1, c2⟩ := hc k hlt
        rw [← hB.cell (p := ⟨b, _, none⟩) hb] at c0 c1 c2
        have q1 : (k : Int) < (xs.length : Int) := by omega
        have HT := Lib.hid (tot_take hlt)
        obtain ⟨kk, aa, bb, hx⟩ : ∃ kk aa bb, xs[k] = ⟨kk, aa, bb⟩ := ⟨_, _, _, rfl⟩
        have HX := Lib.hid hx
        rw [hx] at c0 c1 c2
        change wr.cell? _ = some (.int .i64 kk) at c0; change wr.cell? _ = some (.int .i64 aa) at c1; change wr.cell? _ = some (.string bb) at c2
        clear hc hx
        generalize tot (xs.take k) = t at *
        have t0 : (t : Int) ≤ 5000000000 := by omega
        go_wp2_with fail
        refine (check_calls kk aa bb _).mono ?_
        rintro e w5 ⟨rfl, hb5⟩
        have hq : w5.heap[wr.heap.size]? = some (.cells #[.int .i64 kk, .int .i64 aa, .string bb] 43 (0, 0)) := by
          rw [hb5.block wr.heap.size (by simp)]; exact at_new _ _
        have hsz := hB.size
        replace hB : Below w.heap.size w w5 := (hB.alloc hsz _).trans (hb5.mono (by simp; omega))
        clear hb5
        obtain ⟨d0, d1, d2⟩ := box3 hq
        have hl5 := at_lt hq
        clear hq c0 c1 c2
        by_cases hz : chk ⟨kk, aa, bb⟩ = 0
        · rw [hz]
          have hbb : bb.size ≤ 4096 := (chk_ok.1 hz).2.2.2.2
          have HZ := Lib.hid hz
          clear hz
          go_wp2_with fail
          refine (len_calls kk aa bb (by omega) _).mono ?_
          rintro e w6 ⟨rfl, hb6⟩
          replace hB := hB.trans (hb6.mono (by omega))
          clear hb6 d0 d1 d2
          go_wp2_with fail
          go_roundw
          case rel => exact ⟨k + 1, by omega, by go_num, by rw [HT.out, HX.out]; show _ = Value.int .i64 ((t + (14 + bb.size) : Nat) : Int); go_num, Lib.hid (fun j hj hlt => by
            rcases Nat.lt_or_eq_of_le (Nat.le_of_lt_succ hlt) with h | rfl
            · exact HK.out j hj h
            · rw [HX.out]; exact HZ.out), hB⟩
          case measure => simp [intOf]; omega
        · have HC := Lib.hid (allC_at hlt HK.out (by rw [HX.out]; exact hz))
          rw [HX.out] at HC
          obtain ⟨cc, hcc⟩ : ∃ cc, chk ⟨kk, aa, bb⟩ = cc := ⟨_, rfl⟩
          rw [hcc] at hz HC ⊢
          have b3 : (cc != 0) = true := by simpa using hz
          clear hcc d0 d1 d2
          go_wp2_with fail
          go_ret2
          exact all_none HC.out hz hB
    · rw [List.take_length] at ht ⊢
      have HC := Lib.hid (allC_all HK.out)
      have hsz := hB.size
      have hmk := fun W => make_bytes W ((tot xs : Nat) : Int) (tot xs) rfl (by omega)
      have hR : (bv (List.replicate (tot xs) 0)).length = tot xs := by rw [bv_len, List.length_replicate]
      have HR := Lib.hid hR
      clear hR
      go_wp2_with fail
      have A0 : AllAt wr.heap.size xs 0 w (wr.alloc (.cells (bv (List.replicate (tot xs) 0)).toArray 5)) :=
        ⟨by rw [show flat (xs.take 0) = [] from rfl, show bv [] = [] from rfl, splice_nil]; exact at_new _ _, hB.alloc hsz _⟩
      generalize wr.alloc (.cells (bv (List.replicate (tot xs) 0)).toArray 5) = w1 at *
      generalize wr.heap.size = g at *
      have hg : w.heap.size ≤ g := hsz
      clear hmk hB
      go_loopw [9, 33] (fun z i w2 => ∃ k : Nat, k ≤ xs.length ∧ i = .int .i64 k ∧ z = .int .i64 ((tot (xs.take k) : Nat) : Int) ∧ AllAt g xs k w w2) (fun _ i _ => xs.length - (intOf i).toNat)
      case atStart => exact ⟨0, by omega, rfl, rfl, A0⟩
      case round =>
        obtain ⟨k, hk, rfl, rfl, C⟩ := hrel
        have hle := tot_take_le xs k
        rcases Nat.lt_or_eq_of_le hk with hlt | rfl
        · rcases HI.out.cells with h0 | ⟨b, o, rfl, hb, hc⟩
          · rw [h0] at hlt; simp at hlt
          · obtain ⟨c0, c1, c2⟩ := hc k hlt
            rw [← C.below.cell (p := ⟨b, _, none⟩) hb] at c0 c1 c2
            have q1 : (k : Int) < (xs.length : Int) := by omega
            have hle2 := tot_take_le xs (k + 1)
            have hT := tot_take hlt
            have hz := HK.out k hlt hlt
            obtain ⟨kk, aa, bb, hx⟩ : ∃ kk aa bb, xs[k] = ⟨kk, aa, bb⟩ := ⟨_, _, _, rfl⟩
            have HX := Lib.hid hx
            rw [hx] at c0 c1 c2 hT hz
            have HT := Lib.hid hT
            change wr.cell? _ = some (.int .i64 kk) at c0; change wr.cell? _ = some (.int .i64 aa) at c1; change wr.cell? _ = some (.string bb) at c2
            change tot (xs.take (k + 1)) = tot (xs.take k) + (14 + bb.size) at hT
            rw [hT] at hle2
            have hbb : bb.size ≤ 4096 := (chk_ok.1 hz).2.2.2.2
            have HZ := Lib.hid hz
            clear hc hx hT hz
            obtain ⟨t, ht'⟩ : ∃ t, tot (xs.take k) = t := ⟨_, rfl⟩
            rw [ht'] at hle hle2 ⊢
            have HT' := Lib.hid ht'
            clear ht'
            have t0 : (t : Int) ≤ 5000000000 := by omega
            have hcut := cut3 g (tot xs) t (14 + bb.size) (by omega) (by omega)
            have e1 : (((14 + bb.size : Nat) : Nat) : Int) = 14 + (bb.size : Int) := by omega
            rw [e1] at hcut
            have kw : IntKind.i64.wrap ((t : Int) + (14 + (bb.size : Int))) = (t : Int) + (14 + (bb.size : Int)) := IntWalk.i64_in _ (by omega)
            clear e1
            go_wp2_with fail
            have hrow := C.row
            have hBW := C.below
            have hgl := at_lt hrow
            have hnb : wr.heap.size ≠ g := by omega
            replace hrow := at_old wr (.cells #[.int .i64 kk, .int .i64 aa, .string bb] 43 (0, 0)) hrow
            have hbox := at_new wr (.cells #[.int .i64 kk, .int .i64 aa, .string bb] 43 (0, 0))
            replace hBW := hBW.alloc hBW.size (.cells #[.int .i64 kk, .int .i64 aa, .string bb] 43 (0, 0))
            clear c0 c1 c2 C
            generalize wr.alloc (.cells #[.int .i64 kk, .int .i64 aa, .string bb] 43 (0, 0)) = W at *
            generalize wr.heap.size = bx at *
            obtain ⟨x0, x1, x2⟩ := box3 hbox
            have lx := at_lt hbox
            have lg := at_lt hrow
            have HRow := Lib.hid hrow
            have HBW := Lib.hid hBW
            clear hbox hrow hBW
            go_cut [12] (fun s12 wx => s12 = .slice (some ⟨g, t, none⟩) (0 + (bytesOf ⟨kk, aa, bb⟩).length) (14 + bb.size) ∧ AllAt g xs (k + 1) w wx)
            case first =>
              go_region_held3 (fun w' => w'.cell? ⟨bx, 0, none⟩ = some (.int .i64 kk) ∧ w'.cell? ⟨bx, 1, none⟩ = some (.int .i64 aa) ∧ w'.cell? ⟨bx, 2, none⟩ = some (.string bb))
                (first
                  | go_keep
                  | exact ⟨(hb5.cell (p := ⟨bx, 0, none⟩) lx).trans x0, (hb5.cell (p := ⟨bx, 1, none⟩) lx).trans x1, (hb5.cell (p := ⟨bx, 2, none⟩) lx).trans x2⟩
                  | exact ⟨(ho6.cell (p := ⟨bx, 0, none⟩) (Nat.lt_of_lt_of_le lx hb5.size) hnb).trans ((hb5.cell (p := ⟨bx, 0, none⟩) lx).trans x0), (ho6.cell (p := ⟨bx, 1, none⟩) (Nat.lt_of_lt_of_le lx hb5.size) hnb).trans ((hb5.cell (p := ⟨bx, 1, none⟩) lx).trans x1), (ho6.cell (p := ⟨bx, 2, none⟩) (Nat.lt_of_lt_of_le lx hb5.size) hnb).trans ((hb5.cell (p := ⟨bx, 2, none⟩) lx).trans x2)⟩)
                (first
                  | (go_at_call 103; refine (len_calls kk aa bb (by omega) _).mono ?_; rintro e w5 ⟨rfl, hb5⟩)
                  | (go_at_call 104; refine (item_calls _ g t (14 + bb.size) _ kk aa bb HZ.out ((hb5.block g lg).trans HRow.out) (Nat.le_refl _) (by rw [sp_len (by rw [flat_len, HT'.out, HR.out]; omega), HR.out]; omega)).mono ?_; rintro e w6 ⟨rfl, h6, ho6⟩))
              all_goals
                go_wp2_with fail
                go_meet
                refine ⟨by rw [Nat.zero_add], ⟨?_, ?_⟩⟩
                · rw [h6]
                  have e := sp (cur := bv (List.replicate (tot xs) 0)) (o := 0) (p := t) (l := flat (xs.take k)) (m := bytesOf ⟨kk, aa, bb⟩) (r := flat (xs.take (k + 1))) (by rw [flat_len, HT'.out]) (by rw [List.take_add_one, List.getElem?_eq_getElem hlt, HX.out, flat_app]; simp [flat]) (by rw [HR.out]; omega)
                  rw [Nat.zero_add] at e
                  rw [← e]; rfl
                · exact (HBW.out.drew.trans (hb5.mono HBW.out.size)).trans (ho6.below (Nat.le_trans HBW.out.size (show W.heap.size ≤ w5.heap.size from hb5.size)) (fun i e => by rw [e]; exact hg))
            case rest =>
              obtain ⟨rfl, C⟩ := hcut
              have e2 : (bytesOf ⟨kk, aa, bb⟩).length = 14 + bb.size := bytes_len _
              rw [e2]
              have HC2 := Lib.hid C
              clear C e2 x0 x1 x2 hcut
              go_wp2_with fail
              go_roundw
              case rel => exact ⟨k + 1, by omega, by go_num, by rw [HT.out, HT'.out]; show _ = Value.int .i64 ((t + (14 + bb.size) : Nat) : Int); go_num, HC2.out⟩
              case measure => simp [intOf]; omega
        · have hrow := C.row
          rw [List.take_length] at hrow
          have hF : (flat xs).length = tot xs := flat_len xs
          rw [splice_whole _ _ (by rw [bv_len, hF, HR.out])] at hrow
          have hcv := text_of (n := tot xs) (cap := tot xs) (o := 0) hrow hF (fun j hj => by rw [Nat.zero_add])
          have HB := Lib.hid C.below
          clear hrow C hF
          go_wp2_with fail
          go_ret2
          exact all_some HC.out HB.out
end Go.Proofs.YtngangdjbbbbdaaGreatDoor.Rec
end

section
namespace Go.Proofs.YtngangdjbbbbdaaGreatDoor.Rec
open Go.RowKit Go.Proofs.YtngangdjbbbbdaaGreatDoor.Sum Go.Proofs.YtngangdjbbbbdaaGreatDoor.Own

def PutPost (x : Itm) (w : World) (e : Ending) (w' : World) : Prop :=
  e = .returned (.tuple #[.string ⟨(putV x).toArray⟩, .int .i64 (chk x)]) ∧ Below w.heap.size w w'

set_option maxHeartbeats 400000 in
theorem put_calls (k a : Int) (b : ByteArray) (w : World) :
    Calls Tryz.prog 75 #[.agg #[.int .i64 k, .int .i64 a, .string b]] w (PutPost ⟨k, a, b⟩ w) := by
  have HA : Hid (∀ W, Its W [⟨k, a, b⟩] (some ⟨w.heap.size + 1, 0, none⟩) 1 → Calls Tryz.prog 92 #[.slice (some ⟨w.heap.size + 1, 0, none⟩) 1 1] W (AllPost [⟨k, a, b⟩] W)) := Lib.hid (fun W h => all_calls [⟨k, a, b⟩] _ 1 W h (by show 1 ≤ 1000000; omega))
  go_enter Tryz.func75, Tryz.ntmps75
  go_wp2_with fail
  refine (HA.out _ ⟨by show 1 ≤ 1; omega, by unfold maxLen; omega, .inr ⟨w.heap.size + 1, 0, rfl, by simp, fun i hi => ?_⟩⟩).mono ?_
  · have h0 : i = 0 := by have : i < 1 := hi; omega
    subst h0
    have hq := at_newk (w.alloc (.cells #[.int .i64 k, .int .i64 a, .string b] 43 (0, 0))) (.cells #[.int .i64 k, .int .i64 a, .string b] 43 (0, 0)) (k := w.heap.size + 1) (by simp)
    exact box3 hq
  · rintro e w5 ⟨rfl, hb5⟩
    obtain ⟨e1, e2⟩ := all_one ⟨k, a, b⟩
    rw [e1, e2]
    have hB : Below w.heap.size w w5 := (((Below.refl _ _).alloc (Nat.le_refl _) _).alloc (by simp) _).trans (hb5.mono (by simp; omega))
    clear hb5
    go_wp2_with fail
    go_ret2
    exact ⟨rfl, hB⟩

theorem ba_app (l m : List UInt8) : (⟨l.toArray⟩ : ByteArray) ++ ⟨m.toArray⟩ = ⟨(l ++ m).toArray⟩ := ByteArray.ext (by simp [ByteArray.data_append])
theorem dig_cons (k : Nat) : ∀ n : Int, 0 ≤ n → dig (k + 1) n = byteI (n / 256 ^ k % 256) :: dig k n := by
  induction k with
  | zero => intro n _; show [byteI (n % 256)] = [byteI (n / 1 % 256)]; rw [Int.ediv_one]
  | succ k ih =>
    intro n hn
    rw [dig, ih _ (by omega), List.cons_append]
    congr 2
    · congr 1
      rw [Int.pow_succ, Int.mul_comm, ← Int.ediv_ediv_of_nonneg (by omega)]

theorem byte_text {P : Program} (W : World) (b : Nat) (x : Int) (c : UInt8) (hc : (c.toNat : Int) = x) (src dst e : TypeId) (hs : P.underlying src = some (.slice e)) (he : P.underlying e = some (.int .u8)) (hd : P.underlying dst = some .string)
    (h : W.cell? ⟨b, 0, none⟩ = some (.int .u8 x)) : (convert src dst (.slice (some ⟨b, 0, none⟩) 1 1)).run P W = .ok (.string ⟨#[c]⟩) W := by
  subst hc
  refine run_convert_bytes_back W src dst e ⟨b, 0, none⟩ 1 [c] hs he hd (fun j hj => ?_)
  have : j = 0 := by simp at hj; omega
  subst this; exact h
theorem two_text {P : Program} (W : World) (b : Nat) (x y : Int) (c d : UInt8) (hc : (c.toNat : Int) = x) (hd' : (d.toNat : Int) = y) (src dst e : TypeId) (hs : P.underlying src = some (.slice e)) (he : P.underlying e = some (.int .u8)) (hd : P.underlying dst = some .string)
    (h : W.cell? ⟨b, 0, none⟩ = some (.int .u8 x)) (h' : W.cell? ⟨b, 1, none⟩ = some (.int .u8 y)) : (convert src dst (.slice (some ⟨b, 0, none⟩) 2 2)).run P W = .ok (.string ⟨#[c, d]⟩) W := by
  subst hc hd'
  refine run_convert_bytes_back W src dst e ⟨b, 0, none⟩ 2 [c, d] hs he hd (fun j hj => ?_)
  match j, hj with
  | 0, _ => exact h
  | 1, _ => exact h'
  | j + 2, hj => exact absurd hj (by simp)

end Go.Proofs.YtngangdjbbbbdaaGreatDoor.Rec
end

section
namespace Go.Proofs.YtngangdjbbbbdaaGreatDoor.Rec
open Go.RowKit Go.Proofs.YtngangdjbbbbdaaGreatDoor.Sum

theorem texts_same {p : ByteArray} {l : List UInt8} {c : Bool} (h : p.data.toList = l ↔ c = true) : (p.toList == l) = c := by
  rw [ByteArray.toList_eq, Bool.eq_iff_iff, beq_iff_eq, h]

end Go.Proofs.YtngangdjbbbbdaaGreatDoor.Rec
end

section
namespace Go.Proofs.YtngangdjbbbbdaaGreatDoor.Rec
open Go.RowKit Go.Proofs.YtngangdjbbbbdaaGreatDoor.Sum Go.Proofs.YtngangdjbbbbdaaGreatDoor.Own

end Go.Proofs.YtngangdjbbbbdaaGreatDoor.Rec
end

section
namespace Go.Proofs.YtngangdjbbbbdaaGreatDoor.Rst
open Go.RowKit Go.Proofs.YtngangdjbbbbdaaGreatDoor.Own
open Go.Proofs.YtngangdjbbbbdaaGreatDoor.Rec (Itm Its cv cv_len cv_app)
open Go.Proofs.YtngangdjbbbbdaaGreatDoor.Rw (str strs Texts)
open Go.Proofs.YtngangdjbbbbdaaGreatDoor.Tl (text_ext drop_text)

/-- what a console told -/
def dat (l : List Itm) : Bs := l.flatMap fun x => if x.k = 1 then x.b.data.toList else []
theorem dat_app (l m : List Itm) : dat (l ++ m) = dat l ++ dat m := by simp [dat]
theorem dat_one {x : Itm} (h : x.k = 1) : dat [x] = x.b.data.toList := by simp [dat, h]
theorem dat_no {x : Itm} (h : ¬ x.k = 1) : dat [x] = [] := by simp [dat, h]
theorem dat_take_le (l : List Itm) (k : Nat) : (dat (l.take k)).length ≤ (dat l).length := by
  have e : dat l = dat (l.take k) ++ dat (l.drop k) := by rw [← dat_app, List.take_append_drop]
  rw [e, List.length_append]; omega
theorem text_app (a : Bs) (b : ByteArray) : (⟨a.toArray⟩ : ByteArray) ++ b = ⟨(a ++ b.data.toList).toArray⟩ := text_ext (by
  show ((⟨a.toArray⟩ : ByteArray) ++ b).data.toList = _
  simp)
end Go.Proofs.YtngangdjbbbbdaaGreatDoor.Rst
end

section
namespace Go.Proofs.YtngangdjbbbbdaaGreatDoor.Rst
open Go.RowKit Go.Proofs.YtngangdjbbbbdaaGreatDoor.Own Go.Proofs.YtngangdjbbbbdaaGreatDoor.Sto Go.Proofs.YtngangdjbbbbdaaGreatDoor.Gen
open Go.Proofs.YtngangdjbbbbdaaGreatDoor.Rec (Itm Its cv cv_len cv_app)
open Go.Proofs.YtngangdjbbbbdaaGreatDoor.Rw (str strs Texts)
open Go.Proofs.YtngangdjbbbbdaaGreatDoor.Tl (IsTail)

set_option maxRecDepth 100000 in
theorem last_nil_calls (p : Option Addr) (c : Nat) (w : World) : Calls Tryz.prog 14 #[.slice p 0 c] w fun e w' => e = .returned (.int .i64 0) ∧ w = w' := by
  go_enter Tryz.func14, Tryz.ntmps14
  go_wp2_with fail
  go_ret
  exact ⟨rfl, rfl⟩
set_option maxRecDepth 100000 in
theorem last_calls (xs : List Itm) (p : Option Addr) (c n : Nat) (hn : n = xs.length) (w : World) (h : Its w xs p c) :
    Calls Tryz.prog 14 #[.slice p n c] w fun e w' => e = .returned (.int .i64 (lastAt xs)) ∧ w = w' := by
  rcases Nat.eq_zero_or_pos n with rfl | h0
  · refine (last_nil_calls p c w).mono ?_
    rintro e w' ⟨rfl, rfl⟩
    rw [last_nil hn.symm]
    exact ⟨rfl, rfl⟩
  · obtain ⟨m, rfl⟩ : ∃ m, n = m + 1 := ⟨n - 1, by omega⟩
    have hcap := h.cap
    have hmax := h.max
    rw [← hn] at hcap
    unfold maxLen at hmax
    obtain ⟨g, o, rfl, hg, c0, c1, c2⟩ := its_at h (k := m) (by omega)
    have HE := Lib.hid (lastAt_some hn.symm)
    generalize xs[m] = x at *
    have q0 : (((m + 1 : Nat) : Int) == 0) = false := by
      have : ¬ ((m + 1 : Nat) : Int) = 0 := by omega
      simpa using this
    have q1 : ((m + 1 : Nat) : Int) - 1 = (m : Int) := by omega
    clear h hn
    go_enter Tryz.func14, Tryz.ntmps14
    go_wp2_with fail
    go_ret
    exact ⟨by rw [HE.out]; rfl, rfl⟩
set_option maxRecDepth 100000 in
set_option maxHeartbeats 4000000 in
theorem tail_yes (xs : List Itm) (p : Option Addr) (c z : Nat) (hn : z = xs.length) (w : World) (h : Its w xs p c) (ht : (dat xs).length ≤ 1000000000) (n m : Nat) (h1 : 1 ≤ n) (h2 : n ≤ 1024) (h3 : 1 ≤ m) (h4 : m ≤ 65536) :
    Calls Tryz.prog 29 #[.slice p z c, .int .i64 n, .int .i64 m] w fun e w' => ∃ k b q, e = .returned (.tuple #[.pointer (some ⟨k, 0, none⟩), .int .i64 0]) ∧ IsTail w w' k b q n m (dat xs) := by
  have hcap := h.cap
  have hmax := h.max
  rw [← hn] at hcap
  unfold maxLen at hmax
  have HI := Lib.hid h
  have HN := Lib.hid hn
  have HT := Lib.hid ht
  clear h hn ht
  go_enter Tryz.func29, Tryz.ntmps29
  go_wp2_with fail
  refine (Tl.new_yes n m h1 h2 h3 h4 _).mono ?_
  rintro e w5 ⟨k, b, rfl, hT⟩
  have HT5 := Lib.hid hT
  clear hT
  go_wp2_with fail
  go_loopw [23] (fun iv wr => ∃ (i : Nat) (D : Bs) (q : Option Nat), i ≤ z ∧ iv = .int .i64 i ∧ Hid (D = dat (xs.take i)) ∧ Hid (IsTail w wr k b q n m D)) (fun iv _ => z - (intOf iv).toNat)
  case atStart => exact ⟨0, [], none, Nat.zero_le _, rfl, Lib.hid rfl, HT5⟩
  case round =>
    obtain ⟨i, D, q, hk, rfl, HD, H⟩ := hrel
    rename World => wr
    rcases Nat.lt_or_eq_of_le hk with hlt | rfl
    · have q1 : (i : Int) < (z : Int) := by omega
      have hkl : i < xs.length := by rw [← HN.out]; exact hlt
      obtain ⟨g, o, rfl, hg, c0, c1, c2⟩ := its_at (HI.out.kept H.out.below) hkl
      have HX := Lib.hid (show dat (xs.take (i + 1)) = D ++ dat [xs[i]] by rw [take_snoc hkl, dat_app, HD.out])
      have hle := Nat.le_trans (dat_take_le xs (i + 1)) HT.out
      rw [HX.out, List.length_append] at hle
      generalize xs[i] = x at *
      obtain ⟨xk, xa, xb⟩ := x
      simp only at c0 c1 c2
      have HA := Lib.hid (H.out.same ((Below.refl _ wr).alloc (Nat.le_refl _) (.cells #[.int .i64 xk, .int .i64 xa, .string xb] 43 (0, 0))))
      by_cases hx1 : xk = 1
      · subst hx1
        rw [dat_one rfl] at HX hle
        have HF := Lib.hid (Tl.feed_calls HA.out xb hle)
        clear hle
        go_wp2_with fail
        refine HF.out.mono ?_
        rintro e w6 ⟨rfl, q', hT⟩
        have HT6 := Lib.hid hT
        clear hT
        go_wp2_with fail
        go_roundw
        case rel => exact ⟨i + 1, _, q', by omega, by go_num, Lib.hid HX.out.symm, HT6⟩
        case measure => simp [intOf]; omega
      · rw [dat_no hx1, List.append_nil] at HX
        have b1 : (xk == 1) = false := by simpa using hx1
        clear hx1
        go_wp2_with fail
        go_roundw
        case rel => exact ⟨i + 1, D, q, by omega, by go_num, Lib.hid HX.out.symm, HA⟩
        case measure => simp [intOf]; omega
    · have HE := Lib.hid (show D = dat xs by rw [HD.out, List.take_of_length_le (by rw [HN.out]; exact Nat.le_refl _)])
      go_wp2_with fail
      go_ret2
      exact ⟨k, b, q, rfl, by rw [← HE.out]; exact H.out⟩
set_option maxRecDepth 100000 in
theorem tail_no (p : Option Addr) (c z : Nat) (n m : Nat) (h : n = 0 ∨ m = 0) (h2 : n ≤ 1024) (w : World) :
    Calls Tryz.prog 29 #[.slice p z c, .int .i64 n, .int .i64 m] w fun e w' => e = .returned (.tuple #[.pointer none, .int .i64 2]) ∧ Below w.heap.size w w' := by
  have HN := Lib.hid (Tl.new_no n m h h2)
  clear h
  go_enter Tryz.func29, Tryz.ntmps29
  go_wp2_with fail
  refine (HN.out _).mono ?_
  rintro e w5 ⟨rfl, hb⟩
  have HB := Lib.hid hb
  clear hb
  go_wp2_with fail
  go_ret2
  exact ⟨rfl, HB.out⟩
theorem does_ret {w w' : World} {bs : Nat → Prop} {e : Ending} {b : Nat} {t' : St} {c : Int} (h : DoesE w bs e w' b t' c) : ∃ v, e = .returned v := by
  obtain ⟨v, k, bs', he, _⟩ := h
  exact ⟨v, he⟩
theorem does_pre {w w5 w' : World} {bs : Nat → Prop} {e : Ending} {b : Nat} {t' : St} {c : Int} (hb : Below w.heap.size w w5) (h : DoesE w5 bs e w' b t' c) : DoesE w bs e w' b t' c := by
  obtain ⟨v, k, bs', he, hE, hk, hs, ho, hn⟩ := h
  have hsz := hb.size
  refine ⟨v, k, bs', he, hE, fun hc => ⟨Nat.le_trans hsz (hk hc).1, (hk hc).2⟩, hs, (Out.ofNew (S := bs) hb).trans ho fun _ _ h => h, fun i hi => ?_⟩
  rcases hn i hi with h1 | h1
  · exact .inl h1
  · exact .inr (by omega)
set_option maxRecDepth 100000 in
/-- there is no newest generation -/
theorem begin_none {w : World} {bs : Nat → Prop} {b : Nat} {t : St} (h : Sto w bs b t) (a : Bs) (ha : a.length ≤ 1000000) (n : Int) (hf : (flk t.L a).isSome = false) :
    Calls Tryz.prog 7 #[pb b, .string ⟨a.toArray⟩, .int .i64 n] w fun e w' => e = .returned .nilIface ∧ Below w.heap.size w w' := by
  have HN := Lib.hid (names_calls h a ha 1)
  have HL : Hid (((fnd t (ser a (held 1))).map Fl.nm).length = 0) := Lib.hid (by
    have e : ser a (held 1) = [a] := by show [nm a 0] = _; rw [nm_zero a (by omega)]
    rw [e, List.length_map]
    unfold fnd
    cases hx : flk t.L a with
    | none => simp [hx]
    | some x => rw [hx] at hf; cases hf)
  clear h hf
  go_enter Tryz.func7, Tryz.ntmps7
  go_wp2_with fail
  refine HN.out.mono ?_
  rintro e w5 ⟨p, c, k, rfl, hk, -, hb, -, -⟩
  rw [HL.out] at hk
  subst hk
  have HB := Lib.hid hb
  clear hb
  go_wp2_with fail
  go_ret
  exact ⟨rfl, HB.out⟩
set_option maxRecDepth 100000 in
theorem begin_some {w : World} {bs : Nat → Prop} {b : Nat} {t : St} (h : Sto w bs b t) (a : Bs) (ha : a.length ≤ 1000000) (n : Int) (hf : (flk t.L a).isSome = true) :
    Calls Tryz.prog 7 #[pb b, .string ⟨a.toArray⟩, .int .i64 n] w fun e w' => DoesE w bs e w' b (trT t (ser a (held n))) (trC t (ser a (held n))) := by
  have HN := Lib.hid (names_calls h a ha 1)
  have HL : Hid (((fnd t (ser a (held 1))).map Fl.nm).length = 1) := Lib.hid (by
    have e : ser a (held 1) = [a] := by show [nm a 0] = _; rw [nm_zero a (by omega)]
    rw [e, List.length_map]
    unfold fnd
    cases hx : flk t.L a with
    | none => rw [hx] at hf; cases hf
    | some x => simp [hx])
  have HT := Lib.hid fun w5 (hb : Below w.heap.size w w5) => (turn_calls (h.below hb) a ha n).mono fun e w' hd => does_pre hb hd
  clear h hf
  go_enter Tryz.func7, Tryz.ntmps7
  go_wp2_with fail
  refine HN.out.mono ?_
  rintro e w5 ⟨p, c, k, rfl, hk, -, hb, -, -⟩
  rw [HL.out] at hk
  subst hk
  have HT5 := Lib.hid (HT.out w5 hb)
  clear hb
  go_wp2_with fail
  refine HT5.out.mono ?_
  intro e w6 hd
  obtain ⟨v, hv⟩ := does_ret hd
  subst hv
  have HD := Lib.hid hd
  clear hd
  go_wp2_with fail
  go_ret
  exact HD.out
end Go.Proofs.YtngangdjbbbbdaaGreatDoor.Rst
end

section
namespace Go.Proofs.YtngangdjbbbbdaaGreatDoor.Gen
open Go.Proofs.YtngangdjbbbbdaaGreatDoor.Sto Go.Proofs.YtngangdjbbbbdaaGreatDoor.Digit

def lg : Bs := [108, 111, 103]
def oth : Bs := [111, 116, 104, 101, 114]
theorem nmc_digit {c : UInt8} (h : 48 ≤ c.toNat ∧ c.toNat ≤ 57) : nmc c.toNat = true := by
  unfold nmc
  rw [decide_eq_true (by omega), decide_eq_true (by omega)]
  simp; omega
theorem lg_nm {i : Nat} (h : i < 18) : isNm (nm lg (i : Nat)) = true := by
  by_cases h0 : ((i : Nat) : Int) ≤ 0
  · rw [nm_zero _ h0]; rfl
  · rw [nm_more _ h0]
    have hd : dec (i : Nat) = decN i := by rw [dec, if_neg (by omega)]; rfl
    have hl := decN_len 1 i (by omega)
    have e1 : (lg ++ 46 :: dec (i : Nat)).length ≤ 64 ∧ 1 ≤ (lg ++ 46 :: dec (i : Nat)).length := by
      rw [hd]; simp [lg]; omega
    rw [isNm, Bool.and_eq_true]
    refine ⟨decide_eq_true ⟨e1.2, e1.1⟩, ?_⟩
    rw [allc, List.all_eq_true]
    intro c hc
    rw [hd, List.mem_append, List.mem_cons] at hc
    rcases hc with hc | rfl | hc
    · simp only [lg, List.mem_cons, List.not_mem_nil, or_false] at hc
      rcases hc with rfl | rfl | rfl <;> rfl
    · rfl
    · exact nmc_digit (decN_digit i c hc)
theorem lg_head (i : Int) : (nm lg i).head? = some 108 := by
  unfold nm
  split <;> rfl
theorem lg_oth (i : Int) : nm lg i ≠ oth := fun h => by
  have := lg_head i
  rw [h] at this
  cases this
theorem lg_size {i : Nat} (h : i < 18) : (nm lg (i : Nat)).length ≤ 64 := (isNm_len (lg_nm h)).2
theorem ser_nm {k : Nat} (hk : k ≤ 16) : ∀ a ∈ ser lg k, isNm a = true := by
  intro a ha
  obtain ⟨i, h1, rfl⟩ := ser_mem.1 ha
  exact lg_nm (by omega)
theorem ser_oth (k : Nat) : oth ∉ ser lg k := fun h => by
  obtain ⟨i, _, h2⟩ := ser_mem.1 h
  exact lg_oth _ h2.symm

/-- a store as the law makes it -/
structure Gd (t : St) (k : Nat) : Prop where
  bad : t.bad = 0
  most : t.most = 10000
  len : t.L.length ≤ k
  hoth : has t oth = some [111]
theorem beg_same {t : St} (h : t.bad = 0) (a : Bs) : begT t a = t := by
  unfold begT
  rw [if_neg (by omega)]
theorem app_same {t : St} (h : t.bad = 0) (a s : Bs) : (appT t a s).bad = 0 ∧ (appT t a s).most = t.most ∧ (appT t a s).L.length ≤ t.L.length + 1 := by
  unfold appT
  split
  · split
    · exact ⟨h, rfl, by omega⟩
    · exact ⟨h, rfl, pt_len _ _⟩
  · rw [beg_same h]; exact ⟨h, rfl, by omega⟩
theorem syn_same {t : St} (h : t.bad = 0) (a : Bs) : (synT t a).bad = 0 ∧ (synT t a).most = t.most ∧ (synT t a).L.length ≤ t.L.length + 1 := by
  unfold synT
  split
  · split
    · exact ⟨h, rfl, pt_len _ _⟩
    · exact ⟨h, rfl, by omega⟩
  · rw [beg_same h]; exact ⟨h, rfl, by omega⟩
theorem syn_len {t : St} (hok : Ok t) (h : t.bad = 0) (a : Bs) : (synT t a).L.length ≤ t.L.length := by
  unfold synT
  split
  · split
    · rename_i hs
      show (fpt t.L _).length ≤ _
      rw [fpt, hok.rise.len_pt]
      show (if (flk t.L a).isSome = true then _ else _) ≤ _
      rw [if_pos hs]; exact Nat.le_refl _
    · exact Nat.le_refl _
  · rw [beg_same h]; exact Nat.le_refl _
theorem app_has {t : St} (hok : Ok t) (h : t.bad = 0) {a s c : Bs} (hne : c ≠ a) : has (appT t a s) c = has t c := by
  unfold appT
  split
  · split
    · rfl
    · rw [has_pt hok, if_neg hne]
  · rw [beg_same h]
theorem syn_has {t : St} (hok : Ok t) (h : t.bad = 0) {a c : Bs} (hne : c ≠ a) : has (synT t a) c = has t c := by
  unfold synT
  split
  · split
    · rw [has_pt hok, if_neg hne]
    · rfl
  · rw [beg_same h]
theorem Gd.app {t : St} {k : Nat} (h : Gd t k) (hok : Ok t) {a s : Bs} (hne : oth ≠ a) : Gd (appT t a s) (k + 1) := by
  obtain ⟨e1, e2, e3⟩ := app_same h.bad a s
  have := h.len
  exact ⟨e1, e2.trans h.most, by omega, (app_has hok h.bad hne).trans h.hoth⟩
theorem Gd.syn {t : St} {k : Nat} (h : Gd t k) (hok : Ok t) {a : Bs} (hne : oth ≠ a) : Gd (synT t a) k := by
  obtain ⟨e1, e2, _⟩ := syn_same h.bad a
  have := syn_len hok h.bad a
  have := h.len
  exact ⟨e1, e2.trans h.most, by omega, (syn_has hok h.bad hne).trans h.hoth⟩
theorem Gd.more {t : St} {k m : Nat} (h : Gd t k) (hm : k ≤ m) : Gd t m := ⟨h.bad, h.most, by have := h.len; omega, h.hoth⟩
theorem gd_new : Gd (appT ⟨[], 10000, 0⟩ oth [111]) 1 := ⟨rfl, rfl, by decide, rfl⟩

theorem has_read {t : St} {a l : Bs} (h : has t a = some l) : (got t.L a).bs = l ∧ (flk t.L a).isSome = true := by
  unfold has at h
  cases hl : flk t.L a with
  | none => rw [hl] at h; cases h
  | some x => rw [hl] at h; rw [got_some hl]; exact ⟨by simpa using h, rfl⟩
/-- what the law asks of a turn -/
structure Keeps (t T : St) (K : Nat) (C : Int) (fl : Bool) : Prop where
  hoth : has T oth = some [111]
  way : (fl = true ∧ C = 12 ∧ fnd T (ser lg K) = fnd t (ser lg K) ∧ 0 < (fnd t (ser lg K)).length) ∨
    (C = 0 ∧ (flk T.L lg).isSome = false ∧ (((flk t.L (nm lg ((K : Int) - 1))).isSome = true ∧ ∃ x, (fnd t (ser lg K)).map Fl.bs = x :: (fnd T (ser lg K)).map Fl.bs) ∨
      ((flk t.L (nm lg ((K : Int) - 1))).isSome = false ∧ (fnd t (ser lg K)).map Fl.bs = (fnd T (ser lg K)).map Fl.bs)))
theorem lg_in {K : Nat} (h : 1 ≤ K) : lg ∈ ser lg K := ser_mem.2 ⟨0, h, (nm_zero lg (by omega)).symm⟩
theorem keeps_fail {t : St} {k : Nat} (hg : Gd t k) (K : Nat) (h1 : 1 ≤ K) (hK : K ≤ 16) : Keeps t (trT ⟨t.L, t.most, 1⟩ (ser lg K)) K (trC ⟨t.L, t.most, 1⟩ (ser lg K)) true := by
  obtain ⟨e1, e2⟩ := tr_fails (ser lg K) ⟨t.L, t.most, 1⟩ rfl (ser_nm hK)
  have e3 : ∀ ns, fnd (trT ⟨t.L, t.most, 1⟩ (ser lg K)) ns = fnd t ns := fun ns => fnd_same e1 ns
  refine ⟨?_, ?_⟩
  · rw [← hg.hoth]; unfold has; rw [e1]
  · rcases e2 with ⟨c, hne⟩ | ⟨c, hnil⟩
    · left
      exact ⟨rfl, c, e3 _, List.length_pos_iff.2 hne⟩
    · right
      have hno : ∀ a ∈ ser lg K, flk t.L a = none := fun a ha => by
        unfold fnd at hnil
        exact List.filterMap_eq_nil_iff.1 hnil a ha
      have hlast : nm lg ((K : Int) - 1) ∈ ser lg K := ser_mem.2 ⟨K - 1, by omega, by rw [show ((K - 1 : Nat) : Int) = (K : Int) - 1 by omega]⟩
      refine ⟨c, ?_, .inr ⟨?_, ?_⟩⟩
      · rw [e1]; show (flk t.L lg).isSome = false; rw [hno _ (lg_in h1)]; rfl
      · rw [hno _ hlast]; rfl
      · rw [e3]
theorem keeps_ok {t : St} {k : Nat} (hok : Ok t) (hg : Gd t k) (K : Nat) (h1 : 1 ≤ K) (hK : K ≤ 16) : Keeps t (trT t (ser lg K)) K (trC t (ser lg K)) false := by
  obtain ⟨m, rfl⟩ : ∃ m, K = m + 1 := ⟨K - 1, by omega⟩
  have hnm := ser_nm hK
  have hnd := ser_nodup lg (m + 1)
  have hoth := ser_oth (m + 1)
  have hlast := ser_last lg (m + 1) h1
  have e0 : ser lg (m + 1) = nm lg (m : Nat) :: ser lg m := rfl
  have e1 : ((m + 1 : Nat) : Int) - 1 = (m : Nat) := by omega
  rw [e0] at hnm hnd hoth hlast
  obtain ⟨g1, g2, g3, g4, g5⟩ := tr_goes (nm lg (m : Nat)) (ser lg m) t hok (by rw [hg.bad]; decide) hnd hnm
  rw [← e0] at g1 g3 g4 g5
  refine ⟨(g5 _ (by rw [e0]; exact hoth)).trans hg.hoth, .inr ⟨g1, ?_, ?_⟩⟩
  · have := g4 _ (by rw [e0]; exact hlast)
    rw [← has_is, this]; rfl
  · rw [fnd_bs, fnd_bs, g3, e1, e0]
    cases hs : (flk t.L (nm lg (m : Nat))).isSome with
    | true =>
      obtain ⟨x, hx⟩ : ∃ x, has t (nm lg (m : Nat)) = some x := by
        have := has_is t (nm lg (m : Nat)); rw [hs] at this; exact Option.isSome_iff_exists.1 this
      exact .inl ⟨rfl, x, fm_some hx⟩
    | false =>
      have hq : has t (nm lg (m : Nat)) = none := by have := has_is t (nm lg (m : Nat)); rw [hs] at this; simpa using this
      exact .inr ⟨rfl, fm_none hq⟩
end Go.Proofs.YtngangdjbbbbdaaGreatDoor.Gen
end


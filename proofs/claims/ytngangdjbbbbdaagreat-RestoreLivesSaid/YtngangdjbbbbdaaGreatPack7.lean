/-
Layer 8 (record): an item's bytes, into a room for just these: walked.
Layer 8 (record): All, walked.
Layer 8 (record): Put, the program's and the document's, walked.
Layer 8 (record): the document's Read, walked.
Layer 8 (record): the document's Scan and Same, walked.
Layers 20 and 23, the document's: Data; Torn, Lost, Tail.
Layer 23 (restore): Tail, Begin, Last.
-/
import Derived.Test.YtngangdjbbbbdaaGreatPack6
section
namespace Go.Proofs.YtngangdjbbbbdaaGreat.Rec
open Go.RowKit Go.Proofs.YtngangdjbbbbdaaGreat.Sum Go.Proofs.YtngangdjbbbbdaaGreat.Own

/-- bytes put behind the p bytes of a room -/
def PutIn (g o p c : Nat) (cur : List Value) (l : List UInt8) (w : World) (e : Ending) (w' : World) : Prop :=
  e = .returned (.slice (some ⟨g, o, none⟩) (p + l.length) c) ∧ w'.heap[g]? = some (.cells (splice cur (o + p) (bv l)).toArray 5 (0, 0)) ∧ Out (fun k => k = g) w w'

/-- so many bytes are put -/
structure NumAt (g o p c : Nat) (cur : List Value) (l : List UInt8) (w wr : World) (v : Value) : Prop where
  val : v = .slice (some ⟨g, o, none⟩) (p + l.length) c
  row : wr.heap[g]? = some (.cells (splice cur (o + p) (bv l)).toArray 5 (0, 0))
  out : Out (fun k => k = g) w wr
theorem NumAt.cast {g o p c : Nat} {cur : List Value} {l l' : List UInt8} {w wr : World} {v : Value} (h : NumAt g o p c cur l w wr v) (e : l = l') : NumAt g o p c cur l' w wr v := e ▸ h
theorem NumAt.step {g o p c : Nat} {cur : List Value} {l : List UInt8} {w wr w1 : World} {v : Value} {b : UInt8} (h : NumAt g o p c cur l w wr v) (hf : o + p + l.length + 1 ≤ cur.length) {ob : Obj}
    (h1 : w1.heap[g]? = some (.cells (splice (splice cur (o + p) (bv l)) (o + (p + l.length)) (bv [b])).toArray 5 (0, 0))) (ho : Out (fun k => k = g) (wr.alloc ob) w1) :
    NumAt g o p c cur (l ++ [b]) w w1 (.slice (some ⟨g, o, none⟩) (p + l.length + 1) c) := by
  refine ⟨by rw [List.length_append]; rfl, ?_, (h.out.alloc ob).trans ho (fun _ _ h => h)⟩
  rw [h1, show o + (p + l.length) = o + p + (bv l).length by rw [bv_len]; omega, splice_two _ _ _ _ (by rw [bv_len]; omega), ← bv_app]

theorem byte_new (w : World) (x : Int) (b : UInt8) (hb : (b.toNat : Int) = x) (T : TypeId) (g : Nat) (hg : g = w.heap.size) : ∀ j u, (bv [b])[j]? = some u → (w.alloc (.cells #[.int .u8 x] T (0, 0))).cell? ((⟨g, 0, none⟩ : Addr).add j) = some u := by
  subst hg hb
  intro j u hu
  rw [add_at, Own.at_cell (at_new w _), Nat.zero_add]
  simpa [bv] using hu

theorem dig2 {n : Int} (_ : 0 ≤ n) (h1 : n < 65536) : dig 2 n = [byteI (n / 256), byteI (n % 256)] := by
  have e : dig 2 n = [byteI (n / 256 % 256), byteI (n % 256)] := rfl
  rw [e, show n / 256 % 256 = n / 256 by omega]
theorem dig6 {n : Int} (_ : 0 ≤ n) (h1 : n < 281474976710656) : dig 6 n = [byteI (n / 1099511627776), byteI (n / 4294967296 % 256), byteI (n / 16777216 % 256), byteI (n / 65536 % 256), byteI (n / 256 % 256), byteI (n % 256)] := by
  have e : dig 6 n = [byteI (n / 256 / 256 / 256 / 256 / 256 % 256), byteI (n / 256 / 256 / 256 / 256 % 256), byteI (n / 256 / 256 / 256 % 256), byteI (n / 256 / 256 % 256), byteI (n / 256 % 256), byteI (n % 256)] := rfl
  rw [e, show n / 256 / 256 / 256 / 256 / 256 % 256 = n / 1099511627776 by omega, show n / 256 / 256 / 256 / 256 % 256 = n / 4294967296 % 256 by omega, show n / 256 / 256 / 256 % 256 = n / 16777216 % 256 by omega, show n / 256 / 256 % 256 = n / 65536 % 256 by omega]

set_option maxRecDepth 100000 in
set_option maxHeartbeats 2000000 in
theorem num2_calls (w : World) (g o p c : Nat) (cur : List Value) (n : Int) (n0 : 0 ≤ n) (n1 : n < 65536) (hg : w.heap[g]? = some (.cells cur.toArray 5 (0, 0))) (hroom : p + 2 ≤ c) (hfit : o + c ≤ cur.length) :
    Calls Tryz.prog 143 #[.slice (some ⟨g, o, none⟩) p c, .int .i64 n, .int .i64 2] w (PutIn g o p c cur (dig 2 n) w) := by
  obtain ⟨i0, hi, hz0, hz1, hz2⟩ := info_parts info_byte
  have hgl := at_lt hg
  have HD := Lib.hid (dig2 n0 n1)
  go_enter Tryz.func143, Tryz.ntmps143
  go_wp2_with fail
  go_loopw [0, 9] (fun v i wr => ∃ k : Nat, k ≤ 2 ∧ i = .int .i64 k ∧ NumAt g o p c cur ((dig 2 n).take k) w wr v) (fun _ i _ => 2 - (intOf i).toNat)
  case atStart => exact ⟨0, by omega, rfl, rfl, by simpa [splice, bv] using hg, Out.refl _ _⟩
  case round =>
    obtain ⟨k, hk, rfl, N⟩ := hrel
    have hk' : k = 0 ∨ k = 1 ∨ k = 2 := by omega
    rw [HD.out] at N
    rcases hk' with rfl | rfl | rfl
    · obtain ⟨l, hl⟩ : ∃ l : List UInt8, [] = l := ⟨_, rfl⟩
      have N := NumAt.cast N hl
      have hll : l.length ≤ 0 := by rw [← hl]; exact Nat.le_refl _
      obtain rfl := N.val
      have hrow := N.row
      have HC : Hid ((splice cur (o + p) (bv l)).length = cur.length) := Lib.hid (length_splice _ _ _ (by rw [bv_len]; omega))
      have HB : Hid (((byteI (n / 256)).toNat : Int) = n / 256) := Lib.hid (byteI_back (by omega) (by omega))
      have HN := Lib.hid N
      have HL := Lib.hid hl
      have hlt : g < wr.heap.size := at_lt hrow
      clear N hl
      go_wp2_with (at_builtin; (refine wp_here _ rfl (.tmp 12) (.tmp 21) 112 rfl 5 i0 Tryz.underlying112 hi hz1 g o (p + l.length) c (splice cur (o + p) (bv l)) 5 rfl (at_old _ _ hrow) ⟨wr.heap.size, 0, none⟩ 1 1 (bv [byteI (n / 256)]) rfl rfl (byte_new _ _ _ HB.out _ _ rfl) (bv_one _) (by omega) (by rw [HC.out]; omega) ?_); intro w1 h1 ho1)
      have N1 := HN.out.step (b := byteI (n / 256)) (by omega) h1 ho1
      have HN1 := Lib.hid N1
      clear h1 ho1 hrow N1
      go_roundw
      case rel => exact ⟨1, by omega, by go_num, by rw [HD.out]; exact NumAt.cast HN1.out (by rw [← HL.out]; rfl)⟩
      case measure => simp [intOf]
    · obtain ⟨l, hl⟩ : ∃ l : List UInt8, [byteI (n / 256)] = l := ⟨_, rfl⟩
      have N := NumAt.cast N hl
      have hll : l.length ≤ 1 := by rw [← hl]; exact Nat.le_refl _
      obtain rfl := N.val
      have hrow := N.row
      have HC : Hid ((splice cur (o + p) (bv l)).length = cur.length) := Lib.hid (length_splice _ _ _ (by rw [bv_len]; omega))
      have HB : Hid (((byteI (n % 256)).toNat : Int) = n % 256) := Lib.hid (byteI_back (by omega) (by omega))
      have HN := Lib.hid N
      have HL := Lib.hid hl
      have hlt : g < wr.heap.size := at_lt hrow
      clear N hl
      go_wp2_with (at_builtin; (refine wp_here _ rfl (.tmp 12) (.tmp 21) 112 rfl 5 i0 Tryz.underlying112 hi hz1 g o (p + l.length) c (splice cur (o + p) (bv l)) 5 rfl (at_old _ _ hrow) ⟨wr.heap.size, 0, none⟩ 1 1 (bv [byteI (n % 256)]) rfl rfl (byte_new _ _ _ HB.out _ _ rfl) (bv_one _) (by omega) (by rw [HC.out]; omega) ?_); intro w1 h1 ho1)
      have N1 := HN.out.step (b := byteI (n % 256)) (by omega) h1 ho1
      have HN1 := Lib.hid N1
      clear h1 ho1 hrow N1
      go_roundw
      case rel => exact ⟨2, by omega, by go_num, by rw [HD.out]; exact NumAt.cast HN1.out (by rw [← HL.out]; rfl)⟩
      case measure => simp [intOf]
    · have N := NumAt.cast (l' := dig 2 n) N (by rw [HD.out]; rfl)
      obtain rfl := N.val
      have HN := Lib.hid N
      clear N
      go_wp2_with fail
      go_ret
      exact ⟨rfl, HN.out.row, HN.out.out⟩

set_option maxRecDepth 100000 in
set_option maxHeartbeats 2000000 in
theorem num6_calls (w : World) (g o p c : Nat) (cur : List Value) (n : Int) (n0 : 0 ≤ n) (n1 : n < 281474976710656) (hg : w.heap[g]? = some (.cells cur.toArray 5 (0, 0))) (hroom : p + 6 ≤ c) (hfit : o + c ≤ cur.length) :
    Calls Tryz.prog 143 #[.slice (some ⟨g, o, none⟩) p c, .int .i64 n, .int .i64 6] w (PutIn g o p c cur (dig 6 n) w) := by
  obtain ⟨i0, hi, hz0, hz1, hz2⟩ := info_parts info_byte
  have hgl := at_lt hg
  have HD := Lib.hid (dig6 n0 n1)
  go_enter Tryz.func143, Tryz.ntmps143
  go_wp2_with fail
  go_loopw [0, 9] (fun v i wr => ∃ k : Nat, k ≤ 6 ∧ i = .int .i64 k ∧ NumAt g o p c cur ((dig 6 n).take k) w wr v) (fun _ i _ => 6 - (intOf i).toNat)
  case atStart => exact ⟨0, by omega, rfl, rfl, by simpa [splice, bv] using hg, Out.refl _ _⟩
  case round =>
    obtain ⟨k, hk, rfl, N⟩ := hrel
    have hk' : k = 0 ∨ k = 1 ∨ k = 2 ∨ k = 3 ∨ k = 4 ∨ k = 5 ∨ k = 6 := by omega
    rw [HD.out] at N
    rcases hk' with rfl | rfl | rfl | rfl | rfl | rfl | rfl
    · obtain ⟨l, hl⟩ : ∃ l : List UInt8, [] = l := ⟨_, rfl⟩
      have N := NumAt.cast N hl
      have hll : l.length ≤ 0 := by rw [← hl]; exact Nat.le_refl _
      obtain rfl := N.val
      have hrow := N.row
      have HC : Hid ((splice cur (o + p) (bv l)).length = cur.length) := Lib.hid (length_splice _ _ _ (by rw [bv_len]; omega))
      have HB : Hid (((byteI (n / 1099511627776)).toNat : Int) = n / 1099511627776) := Lib.hid (byteI_back (by omega) (by omega))
      have HN := Lib.hid N
      have HL := Lib.hid hl
      have hlt : g < wr.heap.size := at_lt hrow
      clear N hl
      go_wp2_with (at_builtin; (refine wp_here _ rfl (.tmp 12) (.tmp 21) 112 rfl 5 i0 Tryz.underlying112 hi hz1 g o (p + l.length) c (splice cur (o + p) (bv l)) 5 rfl (at_old _ _ hrow) ⟨wr.heap.size, 0, none⟩ 1 1 (bv [byteI (n / 1099511627776)]) rfl rfl (byte_new _ _ _ HB.out _ _ rfl) (bv_one _) (by omega) (by rw [HC.out]; omega) ?_); intro w1 h1 ho1)
      have N1 := HN.out.step (b := byteI (n / 1099511627776)) (by omega) h1 ho1
      have HN1 := Lib.hid N1
      clear h1 ho1 hrow N1
      go_roundw
      case rel => exact ⟨1, by omega, by go_num, by rw [HD.out]; exact NumAt.cast HN1.out (by rw [← HL.out]; rfl)⟩
      case measure => simp [intOf]
    · obtain ⟨l, hl⟩ : ∃ l : List UInt8, [byteI (n / 1099511627776)] = l := ⟨_, rfl⟩
      have N := NumAt.cast N hl
      have hll : l.length ≤ 1 := by rw [← hl]; exact Nat.le_refl _
      obtain rfl := N.val
      have hrow := N.row
      have HC : Hid ((splice cur (o + p) (bv l)).length = cur.length) := Lib.hid (length_splice _ _ _ (by rw [bv_len]; omega))
      have HB : Hid (((byteI (n / 4294967296 % 256)).toNat : Int) = n / 4294967296 % 256) := Lib.hid (byteI_back (by omega) (by omega))
      have HN := Lib.hid N
      have HL := Lib.hid hl
      have hlt : g < wr.heap.size := at_lt hrow
      clear N hl
      go_wp2_with (at_builtin; (refine wp_here _ rfl (.tmp 12) (.tmp 21) 112 rfl 5 i0 Tryz.underlying112 hi hz1 g o (p + l.length) c (splice cur (o + p) (bv l)) 5 rfl (at_old _ _ hrow) ⟨wr.heap.size, 0, none⟩ 1 1 (bv [byteI (n / 4294967296 % 256)]) rfl rfl (byte_new _ _ _ HB.out _ _ rfl) (bv_one _) (by omega) (by rw [HC.out]; omega) ?_); intro w1 h1 ho1)
      have N1 := HN.out.step (b := byteI (n / 4294967296 % 256)) (by omega) h1 ho1
      have HN1 := Lib.hid N1
      clear h1 ho1 hrow N1
      go_roundw
      case rel => exact ⟨2, by omega, by go_num, by rw [HD.out]; exact NumAt.cast HN1.out (by rw [← HL.out]; rfl)⟩
      case measure => simp [intOf]
    · obtain ⟨l, hl⟩ : ∃ l : List UInt8, [byteI (n / 1099511627776), byteI (n / 4294967296 % 256)] = l := ⟨_, rfl⟩
      have N := NumAt.cast N hl
      have hll : l.length ≤ 2 := by rw [← hl]; exact Nat.le_refl _
      obtain rfl := N.val
      have hrow := N.row
      have HC : Hid ((splice cur (o + p) (bv l)).length = cur.length) := Lib.hid (length_splice _ _ _ (by rw [bv_len]; omega))
      have HB : Hid (((byteI (n / 16777216 % 256)).toNat : Int) = n / 16777216 % 256) := Lib.hid (byteI_back (by omega) (by omega))
      have HN := Lib.hid N
      have HL := Lib.hid hl
      have hlt : g < wr.heap.size := at_lt hrow
      clear N hl
      go_wp2_with (at_builtin; (refine wp_here _ rfl (.tmp 12) (.tmp 21) 112 rfl 5 i0 Tryz.underlying112 hi hz1 g o (p + l.length) c (splice cur (o + p) (bv l)) 5 rfl (at_old _ _ hrow) ⟨wr.heap.size, 0, none⟩ 1 1 (bv [byteI (n / 16777216 % 256)]) rfl rfl (byte_new _ _ _ HB.out _ _ rfl) (bv_one _) (by omega) (by rw [HC.out]; omega) ?_); intro w1 h1 ho1)
      have N1 := HN.out.step (b := byteI (n / 16777216 % 256)) (by omega) h1 ho1
      have HN1 := Lib.hid N1
      clear h1 ho1 hrow N1
      go_roundw
      case rel => exact ⟨3, by omega, by go_num, by rw [HD.out]; exact NumAt.cast HN1.out (by rw [← HL.out]; rfl)⟩
      case measure => simp [intOf]
    · obtain ⟨l, hl⟩ : ∃ l : List UInt8, [byteI (n / 1099511627776), byteI (n / 4294967296 % 256), byteI (n / 16777216 % 256)] = l := ⟨_, rfl⟩
      have N := NumAt.cast N hl
      have hll : l.length ≤ 3 := by rw [← hl]; exact Nat.le_refl _
      obtain rfl := N.val
      have hrow := N.row
      have HC : Hid ((splice cur (o + p) (bv l)).length = cur.length) := Lib.hid (length_splice _ _ _ (by rw [bv_len]; omega))
      have HB : Hid (((byteI (n / 65536 % 256)).toNat : Int) = n / 65536 % 256) := Lib.hid (byteI_back (by omega) (by omega))
      have HN := Lib.hid N
      have HL := Lib.hid hl
      have hlt : g < wr.heap.size := at_lt hrow
      clear N hl
      go_wp2_with (at_builtin; (refine wp_here _ rfl (.tmp 12) (.tmp 21) 112 rfl 5 i0 Tryz.underlying112 hi hz1 g o (p + l.length) c (splice cur (o + p) (bv l)) 5 rfl (at_old _ _ hrow) ⟨wr.heap.size, 0, none⟩ 1 1 (bv [byteI (n / 65536 % 256)]) rfl rfl (byte_new _ _ _ HB.out _ _ rfl) (bv_one _) (by omega) (by rw [HC.out]; omega) ?_); intro w1 h1 ho1)
      have N1 := HN.out.step (b := byteI (n / 65536 % 256)) (by omega) h1 ho1
      have HN1 := Lib.hid N1
      clear h1 ho1 hrow N1
      go_roundw
      case rel => exact ⟨4, by omega, by go_num, by rw [HD.out]; exact NumAt.cast HN1.out (by rw [← HL.out]; rfl)⟩
      case measure => simp [intOf]
    · obtain ⟨l, hl⟩ : ∃ l : List UInt8, [byteI (n / 1099511627776), byteI (n / 4294967296 % 256), byteI (n / 16777216 % 256), byteI (n / 65536 % 256)] = l := ⟨_, rfl⟩
      have N := NumAt.cast N hl
      have hll : l.length ≤ 4 := by rw [← hl]; exact Nat.le_refl _
      obtain rfl := N.val
      have hrow := N.row
      have HC : Hid ((splice cur (o + p) (bv l)).length = cur.length) := Lib.hid (length_splice _ _ _ (by rw [bv_len]; omega))
      have HB : Hid (((byteI (n / 256 % 256)).toNat : Int) = n / 256 % 256) := Lib.hid (byteI_back (by omega) (by omega))
      have HN := Lib.hid N
      have HL := Lib.hid hl
      have hlt : g < wr.heap.size := at_lt hrow
      clear N hl
      go_wp2_with (at_builtin; (refine wp_here _ rfl (.tmp 12) (.tmp 21) 112 rfl 5 i0 Tryz.underlying112 hi hz1 g o (p + l.length) c (splice cur (o + p) (bv l)) 5 rfl (at_old _ _ hrow) ⟨wr.heap.size, 0, none⟩ 1 1 (bv [byteI (n / 256 % 256)]) rfl rfl (byte_new _ _ _ HB.out _ _ rfl) (bv_one _) (by omega) (by rw [HC.out]; omega) ?_); intro w1 h1 ho1)
      have N1 := HN.out.step (b := byteI (n / 256 % 256)) (by omega) h1 ho1
      have HN1 := Lib.hid N1
      clear h1 ho1 hrow N1
      go_roundw
      case rel => exact ⟨5, by omega, by go_num, by rw [HD.out]; exact NumAt.cast HN1.out (by rw [← HL.out]; rfl)⟩
      case measure => simp [intOf]
    · obtain ⟨l, hl⟩ : ∃ l : List UInt8, [byteI (n / 1099511627776), byteI (n / 4294967296 % 256), byteI (n / 16777216 % 256), byteI (n / 65536 % 256), byteI (n / 256 % 256)] = l := ⟨_, rfl⟩
      have N := NumAt.cast N hl
      have hll : l.length ≤ 5 := by rw [← hl]; exact Nat.le_refl _
      obtain rfl := N.val
      have hrow := N.row
      have HC : Hid ((splice cur (o + p) (bv l)).length = cur.length) := Lib.hid (length_splice _ _ _ (by rw [bv_len]; omega))
      have HB : Hid (((byteI (n % 256)).toNat : Int) = n % 256) := Lib.hid (byteI_back (by omega) (by omega))
      have HN := Lib.hid N
      have HL := Lib.hid hl
      have hlt : g < wr.heap.size := at_lt hrow
      clear N hl
      go_wp2_with (at_builtin; (refine wp_here _ rfl (.tmp 12) (.tmp 21) 112 rfl 5 i0 Tryz.underlying112 hi hz1 g o (p + l.length) c (splice cur (o + p) (bv l)) 5 rfl (at_old _ _ hrow) ⟨wr.heap.size, 0, none⟩ 1 1 (bv [byteI (n % 256)]) rfl rfl (byte_new _ _ _ HB.out _ _ rfl) (bv_one _) (by omega) (by rw [HC.out]; omega) ?_); intro w1 h1 ho1)
      have N1 := HN.out.step (b := byteI (n % 256)) (by omega) h1 ho1
      have HN1 := Lib.hid N1
      clear h1 ho1 hrow N1
      go_roundw
      case rel => exact ⟨6, by omega, by go_num, by rw [HD.out]; exact NumAt.cast HN1.out (by rw [← HL.out]; rfl)⟩
      case measure => simp [intOf]
    · have N := NumAt.cast (l' := dig 6 n) N (by rw [HD.out]; rfl)
      obtain rfl := N.val
      have HN := Lib.hid N
      clear N
      go_wp2_with fail
      go_ret
      exact ⟨rfl, HN.out.row, HN.out.out⟩

theorem two_new (w : World) (x : Int) (b : UInt8) (hb : (b.toNat : Int) = x) (T : TypeId) (g : Nat) (hg : g = w.heap.size) : ∀ j u, (bv [87, b])[j]? = some u → (w.alloc (.cells #[.int .u8 87, .int .u8 x] T (0, 0))).cell? ((⟨g, 0, none⟩ : Addr).add j) = some u := by
  subst hg hb
  intro j u hu
  rw [add_at, Own.at_cell (at_new w _), Nat.zero_add]
  simpa [bv] using hu
theorem box3 {w : World} {b : Nat} {x y z : Value} {t : TypeId} (h : w.heap[b]? = some (.cells #[x, y, z] t (0, 0))) :
    w.cell? ⟨b, 0, none⟩ = some x ∧ w.cell? ⟨b, 1, none⟩ = some y ∧ w.cell? ⟨b, 2, none⟩ = some z :=
  ⟨Own.at_cell h 0, Own.at_cell h 1, Own.at_cell h 2⟩
theorem sp {cur : List Value} {o p : Nat} {l m r : List UInt8} (hp : l.length = p) (hr : l ++ m = r) (h : o + p ≤ cur.length) : splice (splice cur o (bv l)) (o + p) (bv m) = splice cur o (bv r) := by
  subst hp hr
  have := splice_two cur (bv l) (bv m) o (by rw [bv_len]; exact h)
  rw [bv_len] at this
  rw [this, bv_app]
theorem sp_len {cur : List Value} {o : Nat} {l : List UInt8} (h : o + l.length ≤ cur.length) : (splice cur o (bv l)).length = cur.length := length_splice _ _ _ (by rw [bv_len]; exact h)
theorem ret_slice {A : Option Addr} {n m c : Nat} (h : n = m) : Ending.returned (.slice A n c) = .returned (.slice A m c) := by rw [h]

/-- bytes that are put so far: the row, the item's box -/
structure PutAt (g o : Nat) (cur : List Value) (k a : Int) (b : ByteArray) (l : List UInt8) (w wr : World) : Prop where
  row : wr.heap[g]? = some (.cells (splice cur o (bv l)).toArray 5 (0, 0))
  box : wr.heap[w.heap.size]? = some (.cells #[.int .i64 k, .int .i64 a, .string b] 42 (0, 0))
  out : Out (fun k => k = g) w wr
theorem PutAt.step {g o p : Nat} {cur : List Value} {k a : Int} {b : ByteArray} {l m r : List UInt8} {w wr w1 : World} (h : PutAt g o cur k a b l w wr) (hg : g < w.heap.size) (hp : l.length = p) (hr : l ++ m = r) (hf : o + p ≤ cur.length)
    (h1 : w1.heap[g]? = some (.cells (splice (splice cur o (bv l)) (o + p) (bv m)).toArray 5 (0, 0))) (ho : Out (fun k => k = g) wr w1) : PutAt g o cur k a b r w w1 :=
  ⟨by rw [h1, sp hp hr hf], ho.at_ h.box (by omega), h.out.trans ho (fun _ _ h => h)⟩
theorem PutAt.below {g o : Nat} {cur : List Value} {k a : Int} {b : ByteArray} {l : List UInt8} {w wr w1 : World} (h : PutAt g o cur k a b l w wr) (hb : Below wr.heap.size wr w1) : PutAt g o cur k a b l w w1 :=
  ⟨(hb.block g (at_lt h.row)).trans h.row, (hb.block _ (at_lt h.box)).trans h.box, h.out.trans (Out.ofNew (S := fun k => k = g) hb) (fun _ _ h => h)⟩

set_option maxRecDepth 100000 in
set_option maxHeartbeats 2000000 in
theorem item_calls (w : World) (g o c : Nat) (cur : List Value) (k a : Int) (b : ByteArray) (hx : chk ⟨k, a, b⟩ = 0) (hg : w.heap[g]? = some (.cells cur.toArray 5 (0, 0))) (hroom : 14 + b.size ≤ c) (hfit : o + c ≤ cur.length) :
    Calls Tryz.prog 129 #[.slice (some ⟨g, o, none⟩) 0 c, .agg #[.int .i64 k, .int .i64 a, .string b]] w (PutIn g o 0 c cur (bytesOf ⟨k, a, b⟩) w) := by
  obtain ⟨i0, hi, hz0, hz1, hz2⟩ := info_parts info_byte
  obtain ⟨k0, k1, a0, a1, b1⟩ := chk_ok.1 hx
  change 1 ≤ k at k0; change k ≤ 15 at k1; change 0 ≤ a at a0; change a ≤ 1099511627776 at a1; change b.size ≤ 4096 at b1
  have hgl := at_lt hg
  have HB : Hid (((byteI k).toNat : Int) = k) := Lib.hid (byteI_back (by omega) (by omega))
  have HS := Lib.hid (noSum_len ⟨k, a, b⟩)
  have HH := Lib.hid (head_len ⟨k, a, b⟩)
  go_enter Tryz.func129, Tryz.ntmps129
  go_wp2_with (at_builtin; refine wp_here _ rfl (.tmp 6) (.tmp 10) 112 rfl 5 i0 Tryz.underlying112 hi hz1 g o 0 c cur 5 rfl (at_old _ _ (at_old _ _ hg)) ⟨w.heap.size + 1, 0, none⟩ 2 2 (bv [87, byteI k]) rfl rfl (two_new _ _ _ HB.out _ _ (by simp)) (bv_one _) (by omega) (by omega) ?_; intro w1 h1 ho1; have P1 : PutAt g o cur k a b [87, byteI k] w w1 := ⟨h1, ho1.at_ (at_old _ _ (at_new _ _)) (by omega), (((Out.refl (fun k => k = g) w).alloc _).alloc _).trans ho1 (fun _ _ h => h)⟩; clear h1 ho1; obtain ⟨x0, x1, x2⟩ := box3 P1.box; have HP1 := Lib.hid P1; clear P1)
  refine (num6_calls w1 g o 2 c (splice cur o (bv [87, byteI k])) a a0 (by omega) HP1.out.row (by omega) (by rw [sp_len (by show o + 2 ≤ _; omega)]; exact hfit)).mono ?_
  rintro e w2 ⟨rfl, h2, ho2⟩
  have P2 := HP1.out.step (p := 2) hgl rfl rfl (by omega) h2 ho2
  clear h2 ho2 x0 x1 x2 HP1
  obtain ⟨x0, x1, x2⟩ := box3 P2.box
  have HP2 := Lib.hid P2
  clear P2
  rw [show 2 + (dig 6 a).length = 8 by rw [dig_len]]
  have b0 : (0 : Int) ≤ (b.size : Int) := by omega
  have b2 : (b.size : Int) < 65536 := by omega
  go_wp2_with fail
  refine (num2_calls w2 g o 8 c (splice cur o (bv ([87, byteI k] ++ dig 6 a))) (b.size : Int) b0 b2 HP2.out.row (by omega) (by rw [sp_len (by rw [List.length_append, dig_len]; show o + 8 ≤ _; omega)]; exact hfit)).mono ?_
  rintro e w3 ⟨rfl, h3, ho3⟩
  have P3 : PutAt g o cur k a b (headL ⟨k, a, b⟩) w w3 := HP2.out.step (p := 8) hgl (by rw [List.length_append, dig_len]; rfl) (by rw [List.append_assoc]; rfl) (by omega) h3 ho3
  clear h3 ho3 x0 x1 x2 HP2
  obtain ⟨x0, x1, x2⟩ := box3 P3.box
  have hr3 := P3.row
  have HP3 := Lib.hid P3
  clear P3
  rw [show 8 + (dig 2 (b.size : Int)).length = 10 by rw [dig_len]]
  have HOf : Hid (∀ W, Calls Tryz.prog 127 #[.string ⟨(noSum ⟨k, a, b⟩).toArray⟩] W fun e w' => e = .returned (.int .i64 (sumOf (noSum ⟨k, a, b⟩))) ∧ W = w') := Lib.hid (fun W => of_calls _ (by show (noSum ⟨k, a, b⟩).length ≤ _; rw [HS.out]; show 10 + b.size ≤ _; omega) W)
  go_wp2_with (at_builtin; refine wp_here_text _ rfl (.tmp 21) (.tmp 23) 112 9 rfl 5 i0 Tryz.underlying112 Tryz.underlying9 hi hz1 g o 10 c (splice cur o (bv (headL ⟨k, a, b⟩))) 5 rfl hr3 b rfl (by omega) (by rw [sp_len (by rw [HH.out]; omega)]; omega) ?_; intro w4 h4 ho4; have P4 : PutAt g o cur k a b (noSum ⟨k, a, b⟩) w w4 := HP3.out.step (p := 10) hgl HH.out rfl (by omega) h4 ho4; clear h4 ho4 x0 x1 x2 HP3; have hcv := text_of (n := 10 + b.size) (cap := c) (l := noSum ⟨k, a, b⟩) (o := o) P4.row HS.out (fun j hj => splice_at _ _ _ _ (by omega) (by rw [bv_len, HS.out]; exact hj)); have HP4 := Lib.hid P4; clear P4)
  refine (HOf.out _).mono ?_
  rintro e w' ⟨rfl, rfl⟩
  go_wp2_with fail
  refine (Sum.put_calls _ _).mono ?_
  rintro e w5 ⟨rfl, hb5⟩
  have P5 := HP4.out.below hb5
  have hr5 := P5.row
  have h4 : (⟨(putL (sumOf (noSum ⟨k, a, b⟩))).toArray⟩ : ByteArray).size = 4 := by show (putL (sumOf (noSum ⟨k, a, b⟩))).length = 4; rw [put_sum, four_len]
  have H4 := Lib.hid h4
  have HP5 := Lib.hid P5
  clear P5 hb5 hcv h4
  go_wp2_with (at_builtin; refine wp_here_text _ rfl (.tmp 25) (.tmp 29) 112 9 rfl 5 i0 Tryz.underlying112 Tryz.underlying9 hi hz1 g o (10 + b.size) c (splice cur o (bv (noSum ⟨k, a, b⟩))) 5 rfl hr5 _ rfl (by rw [H4.out]; omega) (by rw [sp_len (by rw [HS.out]; show o + (10 + b.size) ≤ _; omega), H4.out]; omega) ?_; intro w6 h6 ho6; have P6 : PutAt g o cur k a b (bytesOf ⟨k, a, b⟩) w w6 := HP5.out.step (p := 10 + b.size) hgl HS.out rfl (by omega) h6 ho6; clear h6 ho6; have HP6 := Lib.hid P6; clear P6)
  go_ret
  exact ⟨ret_slice (by rw [bytes_len, put_sum, four_len]; show 10 + b.size + 4 = 0 + (14 + b.size); omega), HP6.out.row, HP6.out.out⟩

end Go.Proofs.YtngangdjbbbbdaaGreat.Rec
end

section
namespace Go.Proofs.YtngangdjbbbbdaaGreat.Rec
open Go.RowKit Go.Proofs.YtngangdjbbbbdaaGreat.Sum Go.Proofs.YtngangdjbbbbdaaGreat.Own

theorem allC_at {xs : List Itm} {k : Nat} (hk : k < xs.length) (h : ∀ j (hj : j < xs.length), j < k → chk xs[j] = 0) (hc : chk xs[k] ≠ 0) : allC xs = chk xs[k] := by
  induction xs generalizing k with
  | nil => simp at hk
  | cons x l ih =>
    cases k with
    | zero =>
      have hc' : chk x ≠ 0 := hc
      show (if chk x = 0 then _ else _) = chk x
      rw [if_neg hc']
    | succ k =>
      have h0 : chk x = 0 := h 0 (by simp) (by omega)
      show (if chk x = 0 then _ else _) = _
      rw [if_pos h0]
      exact ih (by simpa using hk) (fun j hj hlt => h (j + 1) (by simpa using hj) (by omega)) hc
theorem allC_all {xs : List Itm} (h : ∀ j (hj : j < xs.length), j < xs.length → chk xs[j] = 0) : allC xs = 0 := allC_ok fun x hx => by
  obtain ⟨j, hj, rfl⟩ := List.getElem_of_mem hx
  exact h j hj hj
theorem tot_small {xs : List Itm} (k : Nat) (h : ∀ j (hj : j < xs.length), j < k → chk xs[j] = 0) : tot (xs.take k) ≤ k * 4110 := by
  refine Nat.le_trans (tot_le fun x hx => ?_) (Nat.mul_le_mul_right _ (List.length_take_le _ _))
  obtain ⟨j, hj, rfl⟩ := List.getElem_of_mem hx
  rw [List.length_take] at hj
  rw [List.getElem_take]
  exact (chk_ok.1 (h j (by omega) (by omega))).2.2.2.2

def AllPost (xs : List Itm) (w : World) (e : Ending) (w' : World) : Prop :=
  e = .returned (.tuple #[.string ⟨(allV xs).toArray⟩, .int .i64 (allC xs)]) ∧ Below w.heap.size w w'
theorem all_none {xs : List Itm} {w w' : World} {c : Int} (h : allC xs = c) (hc : c ≠ 0) (hb : Below w.heap.size w w') : AllPost xs w (.returned (.tuple #[.string ⟨#[]⟩, .int .i64 c])) w' :=
  ⟨by unfold allV; rw [h, if_neg hc], hb⟩
theorem all_some {xs : List Itm} {w w' : World} (h : allC xs = 0) (hb : Below w.heap.size w w') : AllPost xs w (.returned (.tuple #[.string ⟨(flat xs).toArray⟩, .int .i64 0])) w' :=
  ⟨by unfold allV; rw [h, if_pos rfl], hb⟩

theorem cut3 (g N p m : Nat) (hm : 0 < m) (h : p + m ≤ N) (W : World) :
    (Instr.sliceAt 112 (.slice (some ⟨g, 0, none⟩) N N) (some (.int .i64 (p : Int))) (some (.int .i64 (p : Int))) (some (.int .i64 ((p : Int) + (m : Int))))).run Tryz.prog W = .ok (.slice (some ⟨g, p, none⟩) 0 m) W := by
  have ht : Tryz.prog.underlying 112 = some (.slice (Tryz.prog.elem 112)) := by kernel_rfl
  have he : Tryz.prog.elem 112 = 5 := by kernel_rfl
  obtain ⟨i0, hi, hz0, hz1, hz2⟩ := info_parts info_byte
  rw [run_sliceAt_slice W _ _ _ _ _ ht, run_slice_lhm W _ _ _ _ ht .i64 .i64 .i64 _ _ _ (by omega) (by omega) (by omega) (by omega), he]
  have e1 : ((p : Int) + (m : Int)).toNat = p + m := by omega
  have hs : (sizeOf 5).run Tryz.prog W = .ok 1 W := by simp [sizeOf, typeInfo, hi, hz1]
  rw [hs]
  simp only [Result.andThen, sliced, e1, Int.toNat_natCast, if_neg (show ¬ p + m = p by omega)]
  simp [add_at]

/-- the first so many items' bytes are put -/
structure AllAt (g : Nat) (xs : List Itm) (k : Nat) (w wr : World) : Prop where
  row : wr.heap[g]? = some (.cells (splice (bv (List.replicate (tot xs) 0)) 0 (bv (flat (xs.take k)))).toArray 5 (0, 0))
  below : Below w.heap.size w wr

set_option maxRecDepth 100000 in
set_option maxHeartbeats 2000000 in
theorem all_calls (xs : List Itm) (p : Option Addr) (c : Nat) (w : World) (h : Its w xs p c) (hn : xs.length ≤ 1000000) :
    Calls Tryz.prog 119 #[.slice p xs.length c] w (AllPost xs w) := by
  have hcap := h.cap
  have hmax := h.max
  unfold maxLen at hmax
  have q2 : (xs.length : Int) ≤ 1000000 := by omega
  have HI := Lib.hid h
  clear h
  go_enter Tryz.func119, Tryz.ntmps119
  go_wp2_with fail
  go_loopw [4, 15] (fun z i wr => ∃ k : Nat, k ≤ xs.length ∧ i = .int .i64 k ∧ z = .int .i64 ((tot (xs.take k) : Nat) : Int) ∧ Hid (∀ j (hj : j < xs.length), j < k → chk xs[j] = 0) ∧ Below w.heap.size w wr) (fun _ i _ => xs.length - (intOf i).toNat)
  case atStart => exact ⟨0, by omega, rfl, rfl, Lib.hid (fun j hj h => absurd h (by omega)), Below.refl _ _⟩
  case round =>
    obtain ⟨k, hk, rfl, rfl, HK, hB⟩ := hrel
    have ht := tot_small k HK.out
    rcases Nat.lt_or_eq_of_le hk with hlt | rfl
    · rcases HI.out.cells with h0 | ⟨b, o, rfl, hb, hc⟩
      · rw [h0] at hlt; simp at hlt
      · obtain ⟨c0, c1, c2⟩ := hc k hlt
        rw [← hB.cell (p := ⟨b, _, none⟩) hb] at c0 c1 c2
        have q1 : (k : Int) < (xs.length : Int) := by omega
        have HT := Lib.hid (tot_take hlt)
        obtain ⟨kk, aa, bb, hx⟩ : ∃ kk aa bb, xs[k] = ⟨kk, aa, bb⟩ := ⟨_, _, _, rfl⟩
        have HX := Lib.hid hx
        rw [hx] at c0 c1 c2
        change wr.cell? _ = some (.int .i64 kk) at c0; change wr.cell? _ = some (.int .i64 aa) at c1; change wr.cell? _ = some (.string bb) at c2
        clear hc hx
        generalize tot (xs.take k) = t at *
        have t0 : (t : Int) ≤ 5000000000 := by omega
        go_wp2_with fail
        refine (check_calls kk aa bb _).mono ?_
        rintro e w5 ⟨rfl, hb5⟩
        have hq : w5.heap[wr.heap.size]? = some (.cells #[.int .i64 kk, .int .i64 aa, .string bb] 42 (0, 0)) := by
          rw [hb5.block wr.heap.size (by simp)]; exact at_new _ _
        have hsz := hB.size
        replace hB : Below w.heap.size w w5 := (hB.alloc hsz _).trans (hb5.mono (by simp; omega))
        clear hb5
        obtain ⟨d0, d1, d2⟩ := box3 hq
        have hl5 := at_lt hq
        clear hq c0 c1 c2
        by_cases hz : chk ⟨kk, aa, bb⟩ = 0
        · rw [hz]
          have hbb : bb.size ≤ 4096 := (chk_ok.1 hz).2.2.2.2
          have HZ := Lib.hid hz
          clear hz
          go_wp2_with fail
          refine (len_calls kk aa bb (by omega) _).mono ?_
          rintro e w6 ⟨rfl, hb6⟩
          replace hB := hB.trans (hb6.mono (by omega))
          clear hb6 d0 d1 d2
          go_wp2_with fail
          go_roundw
          case rel => exact ⟨k + 1, by omega, by go_num, by rw [HT.out, HX.out]; show _ = Value.int .i64 ((t + (14 + bb.size) : Nat) : Int); go_num, Lib.hid (fun j hj hlt => by
            rcases Nat.lt_or_eq_of_le (Nat.le_of_lt_succ hlt) with h | rfl
            · exact HK.out j hj h
            · rw [HX.out]; exact HZ.out), hB⟩
          case measure => simp [intOf]; omega
        · have HC := Lib.hid (allC_at hlt HK.out (by rw [HX.out]; exact hz))
          rw [HX.out] at HC
          obtain ⟨cc, hcc⟩ : ∃ cc, chk ⟨kk, aa, bb⟩ = cc := ⟨_, rfl⟩
          rw [hcc] at hz HC ⊢
          have b3 : (cc != 0) = true := by simpa using hz
          clear hcc d0 d1 d2
          go_wp2_with fail
          go_ret2
          exact all_none HC.out hz hB
    · rw [List.take_length] at ht ⊢
      have HC := Lib.hid (allC_all HK.out)
      have hsz := hB.size
      have hmk := fun W => make_bytes W ((tot xs : Nat) : Int) (tot xs) rfl (by omega)
      have hR : (bv (List.replicate (tot xs) 0)).length = tot xs := by rw [bv_len, List.length_replicate]
      have HR := Lib.hid hR
      clear hR
      go_wp2_with fail
      have A0 : AllAt wr.heap.size xs 0 w (wr.alloc (.cells (bv (List.replicate (tot xs) 0)).toArray 5)) :=
        ⟨by rw [show flat (xs.take 0) = [] from rfl, show bv [] = [] from rfl, splice_nil]; exact at_new _ _, hB.alloc hsz _⟩
      generalize wr.alloc (.cells (bv (List.replicate (tot xs) 0)).toArray 5) = w1 at *
      generalize wr.heap.size = g at *
      have hg : w.heap.size ≤ g := hsz
      clear hmk hB
      go_loopw [9, 33] (fun z i w2 => ∃ k : Nat, k ≤ xs.length ∧ i = .int .i64 k ∧ z = .int .i64 ((tot (xs.take k) : Nat) : Int) ∧ AllAt g xs k w w2) (fun _ i _ => xs.length - (intOf i).toNat)
      case atStart => exact ⟨0, by omega, rfl, rfl, A0⟩
      case round =>
        obtain ⟨k, hk, rfl, rfl, C⟩ := hrel
        have hle := tot_take_le xs k
        rcases Nat.lt_or_eq_of_le hk with hlt | rfl
        · rcases HI.out.cells with h0 | ⟨b, o, rfl, hb, hc⟩
          · rw [h0] at hlt; simp at hlt
          · obtain ⟨c0, c1, c2⟩ := hc k hlt
            rw [← C.below.cell (p := ⟨b, _, none⟩) hb] at c0 c1 c2
            have q1 : (k : Int) < (xs.length : Int) := by omega
            have hle2 := tot_take_le xs (k + 1)
            have hT := tot_take hlt
            have hz := HK.out k hlt hlt
            obtain ⟨kk, aa, bb, hx⟩ : ∃ kk aa bb, xs[k] = ⟨kk, aa, bb⟩ := ⟨_, _, _, rfl⟩
            have HX := Lib.hid hx
            rw [hx] at c0 c1 c2 hT hz
            have HT := Lib.hid hT
            change wr.cell? _ = some (.int .i64 kk) at c0; change wr.cell? _ = some (.int .i64 aa) at c1; change wr.cell? _ = some (.string bb) at c2
            change tot (xs.take (k + 1)) = tot (xs.take k) + (14 + bb.size) at hT
            rw [hT] at hle2
            have hbb : bb.size ≤ 4096 := (chk_ok.1 hz).2.2.2.2
            have HZ := Lib.hid hz
            clear hc hx hT hz
            obtain ⟨t, ht'⟩ : ∃ t, tot (xs.take k) = t := ⟨_, rfl⟩
            rw [ht'] at hle hle2 ⊢
            have HT' := Lib.hid ht'
            clear ht'
            have t0 : (t : Int) ≤ 5000000000 := by omega
            have hcut := cut3 g (tot xs) t (14 + bb.size) (by omega) (by omega)
            have e1 : (((14 + bb.size : Nat) : Nat) : Int) = 14 + (bb.size : Int) := by omega
            rw [e1] at hcut
            have kw : IntKind.i64.wrap ((t : Int) + (14 + (bb.size : Int))) = (t : Int) + (14 + (bb.size : Int)) := IntWalk.i64_in _ (by omega)
            clear e1
            go_wp2_with fail
            have hrow := C.row
            have hBW := C.below
            have hgl := at_lt hrow
            have hnb : wr.heap.size ≠ g := by omega
            replace hrow := at_old wr (.cells #[.int .i64 kk, .int .i64 aa, .string bb] 42 (0, 0)) hrow
            have hbox := at_new wr (.cells #[.int .i64 kk, .int .i64 aa, .string bb] 42 (0, 0))
            replace hBW := hBW.alloc hBW.size (.cells #[.int .i64 kk, .int .i64 aa, .string bb] 42 (0, 0))
            clear c0 c1 c2 C
            generalize wr.alloc (.cells #[.int .i64 kk, .int .i64 aa, .string bb] 42 (0, 0)) = W at *
            generalize wr.heap.size = bx at *
            obtain ⟨x0, x1, x2⟩ := box3 hbox
            have lx := at_lt hbox
            have lg := at_lt hrow
            have HRow := Lib.hid hrow
            have HBW := Lib.hid hBW
            clear hbox hrow hBW
            go_cut [12] (fun s12 wx => s12 = .slice (some ⟨g, t, none⟩) (0 + (bytesOf ⟨kk, aa, bb⟩).length) (14 + bb.size) ∧ AllAt g xs (k + 1) w wx)
            case first =>
              go_region_held3 (fun w' => w'.cell? ⟨bx, 0, none⟩ = some (.int .i64 kk) ∧ w'.cell? ⟨bx, 1, none⟩ = some (.int .i64 aa) ∧ w'.cell? ⟨bx, 2, none⟩ = some (.string bb))
                (first
                  | go_keep
                  | exact ⟨(hb5.cell (p := ⟨bx, 0, none⟩) lx).trans x0, (hb5.cell (p := ⟨bx, 1, none⟩) lx).trans x1, (hb5.cell (p := ⟨bx, 2, none⟩) lx).trans x2⟩
                  | exact ⟨(ho6.cell (p := ⟨bx, 0, none⟩) (Nat.lt_of_lt_of_le lx hb5.size) hnb).trans ((hb5.cell (p := ⟨bx, 0, none⟩) lx).trans x0), (ho6.cell (p := ⟨bx, 1, none⟩) (Nat.lt_of_lt_of_le lx hb5.size) hnb).trans ((hb5.cell (p := ⟨bx, 1, none⟩) lx).trans x1), (ho6.cell (p := ⟨bx, 2, none⟩) (Nat.lt_of_lt_of_le lx hb5.size) hnb).trans ((hb5.cell (p := ⟨bx, 2, none⟩) lx).trans x2)⟩)
                (first
                  | (go_at_call 128; refine (len_calls kk aa bb (by omega) _).mono ?_; rintro e w5 ⟨rfl, hb5⟩)
                  | (go_at_call 129; refine (item_calls _ g t (14 + bb.size) _ kk aa bb HZ.out ((hb5.block g lg).trans HRow.out) (Nat.le_refl _) (by rw [sp_len (by rw [flat_len, HT'.out, HR.out]; omega), HR.out]; omega)).mono ?_; rintro e w6 ⟨rfl, h6, ho6⟩))
              all_goals
                go_wp2_with fail
                go_meet
                refine ⟨by rw [Nat.zero_add], ⟨?_, ?_⟩⟩
                · rw [h6]
                  have e := sp (cur := bv (List.replicate (tot xs) 0)) (o := 0) (p := t) (l := flat (xs.take k)) (m := bytesOf ⟨kk, aa, bb⟩) (r := flat (xs.take (k + 1))) (by rw [flat_len, HT'.out]) (by rw [List.take_add_one, List.getElem?_eq_getElem hlt, HX.out, flat_app]; simp [flat]) (by rw [HR.out]; omega)
                  rw [Nat.zero_add] at e
                  rw [← e]; rfl
                · exact (HBW.out.drew.trans (hb5.mono HBW.out.size)).trans (ho6.below (Nat.le_trans HBW.out.size (show W.heap.size ≤ w5.heap.size from hb5.size)) (fun i e => by rw [e]; exact hg))
            case rest =>
              obtain ⟨rfl, C⟩ := hcut
              have e2 : (bytesOf ⟨kk, aa, bb⟩).length = 14 + bb.size := bytes_len _
              rw [e2]
              have HC2 := Lib.hid C
              clear C e2 x0 x1 x2 hcut
              go_wp2_with fail
              go_roundw
              case rel => exact ⟨k + 1, by omega, by go_num, by rw [HT.out, HT'.out]; show _ = Value.int .i64 ((t + (14 + bb.size) : Nat) : Int); go_num, HC2.out⟩
              case measure => simp [intOf]; omega
        · have hrow := C.row
          rw [List.take_length] at hrow
          have hF : (flat xs).length = tot xs := flat_len xs
          rw [splice_whole _ _ (by rw [bv_len, hF, HR.out])] at hrow
          have hcv := text_of (n := tot xs) (cap := tot xs) (o := 0) hrow hF (fun j hj => by rw [Nat.zero_add])
          have HB := Lib.hid C.below
          clear hrow C hF
          go_wp2_with fail
          go_ret2
          exact all_some HC.out HB.out
end Go.Proofs.YtngangdjbbbbdaaGreat.Rec
end

section
namespace Go.Proofs.YtngangdjbbbbdaaGreat.Rec
open Go.RowKit Go.Proofs.YtngangdjbbbbdaaGreat.Sum Go.Proofs.YtngangdjbbbbdaaGreat.Own

def PutPost (x : Itm) (w : World) (e : Ending) (w' : World) : Prop :=
  e = .returned (.tuple #[.string ⟨(putV x).toArray⟩, .int .i64 (chk x)]) ∧ Below w.heap.size w w'

set_option maxHeartbeats 400000 in
theorem put_calls (k a : Int) (b : ByteArray) (w : World) :
    Calls Tryz.prog 97 #[.agg #[.int .i64 k, .int .i64 a, .string b]] w (PutPost ⟨k, a, b⟩ w) := by
  have HA : Hid (∀ W, Its W [⟨k, a, b⟩] (some ⟨w.heap.size + 1, 0, none⟩) 1 → Calls Tryz.prog 119 #[.slice (some ⟨w.heap.size + 1, 0, none⟩) 1 1] W (AllPost [⟨k, a, b⟩] W)) := Lib.hid (fun W h => all_calls [⟨k, a, b⟩] _ 1 W h (by show 1 ≤ 1000000; omega))
  go_enter Tryz.func97, Tryz.ntmps97
  go_wp2_with fail
  refine (HA.out _ ⟨by show 1 ≤ 1; omega, by unfold maxLen; omega, .inr ⟨w.heap.size + 1, 0, rfl, by simp, fun i hi => ?_⟩⟩).mono ?_
  · have h0 : i = 0 := by have : i < 1 := hi; omega
    subst h0
    have hq := at_newk (w.alloc (.cells #[.int .i64 k, .int .i64 a, .string b] 42 (0, 0))) (.cells #[.int .i64 k, .int .i64 a, .string b] 42 (0, 0)) (k := w.heap.size + 1) (by simp)
    exact box3 hq
  · rintro e w5 ⟨rfl, hb5⟩
    obtain ⟨e1, e2⟩ := all_one ⟨k, a, b⟩
    rw [e1, e2]
    have hB : Below w.heap.size w w5 := (((Below.refl _ _).alloc (Nat.le_refl _) _).alloc (by simp) _).trans (hb5.mono (by simp; omega))
    clear hb5
    go_wp2_with fail
    go_ret2
    exact ⟨rfl, hB⟩

theorem ba_app (l m : List UInt8) : (⟨l.toArray⟩ : ByteArray) ++ ⟨m.toArray⟩ = ⟨(l ++ m).toArray⟩ := ByteArray.ext (by simp [ByteArray.data_append])
theorem dig_cons (k : Nat) : ∀ n : Int, 0 ≤ n → dig (k + 1) n = byteI (n / 256 ^ k % 256) :: dig k n := by
  induction k with
  | zero => intro n _; show [byteI (n % 256)] = [byteI (n / 1 % 256)]; rw [Int.ediv_one]
  | succ k ih =>
    intro n hn
    rw [dig, ih _ (by omega), List.cons_append]
    congr 2
    · congr 1
      rw [Int.pow_succ, Int.mul_comm, ← Int.ediv_ediv_of_nonneg (by omega)]

theorem byte_text {P : Program} (W : World) (b : Nat) (x : Int) (c : UInt8) (hc : (c.toNat : Int) = x) (src dst e : TypeId) (hs : P.underlying src = some (.slice e)) (he : P.underlying e = some (.int .u8)) (hd : P.underlying dst = some .string)
    (h : W.cell? ⟨b, 0, none⟩ = some (.int .u8 x)) : (convert src dst (.slice (some ⟨b, 0, none⟩) 1 1)).run P W = .ok (.string ⟨#[c]⟩) W := by
  subst hc
  refine run_convert_bytes_back W src dst e ⟨b, 0, none⟩ 1 [c] hs he hd (fun j hj => ?_)
  have : j = 0 := by simp at hj; omega
  subst this; exact h
theorem two_text {P : Program} (W : World) (b : Nat) (x y : Int) (c d : UInt8) (hc : (c.toNat : Int) = x) (hd' : (d.toNat : Int) = y) (src dst e : TypeId) (hs : P.underlying src = some (.slice e)) (he : P.underlying e = some (.int .u8)) (hd : P.underlying dst = some .string)
    (h : W.cell? ⟨b, 0, none⟩ = some (.int .u8 x)) (h' : W.cell? ⟨b, 1, none⟩ = some (.int .u8 y)) : (convert src dst (.slice (some ⟨b, 0, none⟩) 2 2)).run P W = .ok (.string ⟨#[c, d]⟩) W := by
  subst hc hd'
  refine run_convert_bytes_back W src dst e ⟨b, 0, none⟩ 2 [c, d] hs he hd (fun j hj => ?_)
  match j, hj with
  | 0, _ => exact h
  | 1, _ => exact h'
  | j + 2, hj => exact absurd hj (by simp)

set_option maxRecDepth 100000 in
set_option maxHeartbeats 1000000 in
theorem rput_calls (k a : Int) (b : ByteArray) (w : World) :
    Calls Tryz.prog 95 #[.agg #[.int .i64 k, .int .i64 a, .string b]] w (PutPost ⟨k, a, b⟩ w) := by
  by_cases hz : chk ⟨k, a, b⟩ = 0
  · have HP := Lib.hid (putV_ok hz)
    obtain ⟨k0, k1, a0, a1, b1⟩ := chk_ok.1 hz
    change 1 ≤ k at k0; change k ≤ 15 at k1; change 0 ≤ a at a0; change a ≤ 1099511627776 at a1; change b.size ≤ 4096 at b1
    have HZ := Lib.hid hz
    clear hz
    go_enter Tryz.func95, Tryz.ntmps95
    go_wp2_with fail
    refine (rcheck_calls _ _ _ _).mono ?_
    rintro e w5 ⟨rfl, hb5⟩
    rw [HZ.out]
    have hq : w5.heap[w.heap.size]? = some (.cells #[.int .i64 k, .int .i64 a, .string b] 42 (0, 0)) := by
      rw [hb5.block w.heap.size (by simp)]; exact at_new _ _
    have hB : Below w.heap.size w w5 := ((Below.refl _ _).alloc (Nat.le_refl _) _).trans (hb5.mono (by simp))
    clear hb5
    obtain ⟨x0, x1, x2⟩ := box3 hq
    have HQ := Lib.hid hq
    clear hq
    go_wp2_with fail
    go_loopw [5, 6, 7] (fun s n i wr => ∃ (j : Nat) (m : Int), j ≤ 6 ∧ i = .int .i64 j ∧ n = .int .i64 m ∧ 0 ≤ m ∧ m < 281474976710656 ∧ Hid (m = a / 256 ^ j) ∧ s = .string ⟨(dig j a).toArray⟩ ∧ wr.heap[w.heap.size]? = some (.cells #[.int .i64 k, .int .i64 a, .string b] 42 (0, 0)) ∧ Below w.heap.size w wr) (fun _ _ i _ => 6 - (intOf i).toNat)
    case atStart => exact ⟨0, a, by omega, rfl, rfl, a0, by omega, Lib.hid (Int.ediv_one a).symm, rfl, HQ.out, hB⟩
    case round =>
      obtain ⟨j, m, hj, rfl, rfl, m0, m1, HM, rfl, hrow, hBr⟩ := hrel
      by_cases hlt : j < 6
      · have hcv := fun (W : World) (b : Nat) (h : W.cell? ⟨b, 0, none⟩ = some (.int .u8 (m % 256))) => byte_text (P := Tryz.prog) W b (m % 256) (byteI (m % 256)) (byteI_back (by omega) (by omega)) 112 9 5 Tryz.underlying112 Tryz.underlying5 Tryz.underlying9 h
        have HS : Hid ((⟨#[byteI (m % 256)]⟩ : ByteArray) ++ ⟨(dig j a).toArray⟩ = ⟨(dig (j + 1) a).toArray⟩) := Lib.hid (by rw [dig_cons j a a0, ← HM.out]; exact ba_app [_] _)
        have hs : (⟨(dig j a).toArray⟩ : ByteArray).size ≤ 6 := by show (dig j a).length ≤ 6; rw [dig_len]; exact hj
        generalize (⟨(dig j a).toArray⟩ : ByteArray) = S at hs HS ⊢
        have hsz := hBr.size
        have hrow' := at_old wr (.cells #[.int .u8 (m % 256)] 5 (0, 0)) hrow
        have HR := Lib.hid hrow'
        clear hrow hrow'
        go_wp2_with fail
        go_roundw
        case rel => exact ⟨j + 1, m / 256, by omega, by go_num, rfl, by omega, by omega, Lib.hid (by rw [HM.out, Int.pow_succ, Int.ediv_ediv_of_nonneg (Int.pow_nonneg (by omega))]), by rw [HS.out], HR.out, hBr.alloc hsz _⟩
        case measure => simp [intOf]; omega
      · obtain rfl : j = 6 := by omega
        have hcv := fun (W : World) (b : Nat) (h : W.cell? ⟨b, 0, none⟩ = some (.int .u8 k)) => byte_text (P := Tryz.prog) W b k (byteI k) (byteI_back (by omega) (by omega)) 112 9 5 Tryz.underlying112 Tryz.underlying5 Tryz.underlying9 h
        have hcw := fun (W : World) (g : Nat) (h : W.cell? ⟨g, 0, none⟩ = some (.int .u8 ((b.size : Int) / 256))) (h' : W.cell? ⟨g, 1, none⟩ = some (.int .u8 ((b.size : Int) % 256))) => two_text (P := Tryz.prog) W g _ _ (byteI ((b.size : Int) / 256)) (byteI ((b.size : Int) % 256)) (byteI_back (by omega) (by omega)) (byteI_back (by omega) (by omega)) 112 9 5 Tryz.underlying112 Tryz.underlying5 Tryz.underlying9 h h'
        have HT : Hid ((((⟨#[87]⟩ : ByteArray) ++ ⟨#[byteI k]⟩ ++ ⟨(dig 6 a).toArray⟩) ++ ⟨#[byteI ((b.size : Int) / 256), byteI ((b.size : Int) % 256)]⟩) ++ b = ⟨(noSum ⟨k, a, b⟩).toArray⟩) := Lib.hid (ByteArray.ext (by
          rw [noSum, headL, dig2 (n := (b.size : Int)) (by omega) (by omega)]
          simp [ByteArray.data_append]))
        have hs : (⟨(dig 6 a).toArray⟩ : ByteArray).size ≤ 6 := by show (dig 6 a).length ≤ 6; rw [dig_len]; omega
        generalize (⟨(dig 6 a).toArray⟩ : ByteArray) = S at hs HT ⊢
        obtain ⟨y0, y1, y2⟩ := box3 hrow
        have hlw := at_lt hrow
        have hsz := hBr.size
        have HB := Lib.hid hBr
        clear hrow hBr
        have HB2 : Hid (Below w.heap.size w ((wr.alloc (.cells #[.int .u8 k] 5 (0, 0))).alloc (.cells #[.int .u8 ((b.size : Int) / 256), .int .u8 ((b.size : Int) % 256)] 5 (0, 0)))) := Lib.hid ((HB.out.alloc hsz _).alloc (by simp; omega) _)
        have hN : (⟨(noSum ⟨k, a, b⟩).toArray⟩ : ByteArray).size ≤ 5000 := by show (noSum ⟨k, a, b⟩).length ≤ 5000; rw [noSum_len]; show 10 + b.size ≤ 5000; omega
        go_wp2_with fail
        rw [HT.out]
        generalize ((wr.alloc (.cells #[.int .u8 k] 5 (0, 0))).alloc (.cells #[.int .u8 ((b.size : Int) / 256), .int .u8 ((b.size : Int) % 256)] 5 (0, 0))) = W at *
        refine (rof_calls _ (by omega) _).mono ?_
        rintro e w' ⟨rfl, rfl⟩
        go_wp2_with fail
        refine (Sum.rput_calls _ _).mono ?_
        rintro e w6 ⟨rfl, hb6⟩
        have HB3 := Lib.hid (HB2.out.trans (hb6.mono HB2.out.size))
        have hP : (⟨(putL (sumOf (noSum ⟨k, a, b⟩))).toArray⟩ : ByteArray).size ≤ 4 := by show (putL (sumOf (noSum ⟨k, a, b⟩))).length ≤ 4; rw [put_sum, four_len]; omega
        have HE : Hid ((⟨(noSum ⟨k, a, b⟩).toArray⟩ : ByteArray) ++ ⟨(putL (sumOf (noSum ⟨k, a, b⟩))).toArray⟩ = ⟨(putV ⟨k, a, b⟩).toArray⟩) := Lib.hid (by rw [HP.out, ba_app]; rfl)
        clear hb6
        change (ByteArray.mk (putL (sumOf (ByteArray.mk (noSum ⟨k, a, b⟩).toArray).data.toList)).toArray).size ≤ 4 at hP
        go_wp2_with fail
        go_ret2
        exact ⟨by rw [← HE.out, HZ.out]; rfl, HB3.out⟩
  · have HP := Lib.hid (putV_no hz)
    obtain ⟨c, hc⟩ : ∃ c, chk ⟨k, a, b⟩ = c := ⟨_, rfl⟩
    rw [hc] at hz
    have b3 : (c != 0) = true := by simpa using hz
    have HC := Lib.hid hc
    clear hc
    go_enter Tryz.func95, Tryz.ntmps95
    go_wp2_with fail
    refine (rcheck_calls _ _ _ _).mono ?_
    rintro e w5 ⟨rfl, hb5⟩
    rw [HC.out]
    have hB : Below w.heap.size w w5 := ((Below.refl _ _).alloc (Nat.le_refl _) _).trans (hb5.mono (by simp))
    clear hb5
    go_wp2_with fail
    go_ret2
    exact ⟨by rw [HP.out, HC.out]; rfl, hB⟩

end Go.Proofs.YtngangdjbbbbdaaGreat.Rec
end

section
namespace Go.Proofs.YtngangdjbbbbdaaGreat.Rec
open Go.RowKit Go.Proofs.YtngangdjbbbbdaaGreat.Sum

theorem texts_same {p : ByteArray} {l : List UInt8} {c : Bool} (h : p.data.toList = l ↔ c = true) : (p.toList == l) = c := by
  rw [ByteArray.toList_eq, Bool.eq_iff_iff, beq_iff_eq, h]

set_option maxRecDepth 100000 in
set_option maxHeartbeats 2000000 in
theorem rread_calls (s : ByteArray) (hs : s.size ≤ 4611686018427387904) (w : World) :
    Calls Tryz.prog 67 #[.string s] w (ReadPost s w) := by
  rcases head_ways s with rfl | ⟨hz, hp, ⟨h1, e⟩ | ⟨h1, h2, e⟩ | ⟨h1, h10, hk, hx⟩⟩
  · have HE : Hid (rdC ByteArray.empty.data.toList = 13) := Lib.hid (rd_hd (by decide))
    go_enter Tryz.func67, Tryz.ntmps67
    go_wp2_with fail
    refine bodyPost_ret (v := .tuple #[.agg #[.int .i64 0, .int .i64 0, .string ⟨#[]⟩], .int .i64 0, .int .i64 13]) ?_ rfl (read_none HE.out (by decide) ((Below.refl _ _).alloc (Nat.le_refl _) _))
    simp [results, Tryz.results67, go_sem, *]
  · have HE := Lib.hid ((rd_hd (by rw [e]; decide)).trans e); clear e
    have b1 : ((s[0].toNat : Int) != 87) = true := by rw [bne, h1]; rfl
    go_enter Tryz.func67, Tryz.ntmps67
    go_wp2_with fail
    refine bodyPost_ret (v := .tuple #[.agg #[.int .i64 0, .int .i64 0, .string ⟨#[]⟩], .int .i64 0, .int .i64 3]) ?_ rfl (read_none HE.out (by decide) ((Below.refl _ _).alloc (Nat.le_refl _) _))
    simp [results, Tryz.results67, go_sem, *]
  · have HE := Lib.hid ((rd_hd (by rw [e]; decide)).trans e); clear e
    have b1 : ((s[0].toNat : Int) != 87) = false := by rw [bne, h1]; rfl
    go_enter Tryz.func67, Tryz.ntmps67
    go_wp2_with fail
    refine bodyPost_ret (v := .tuple #[.agg #[.int .i64 0, .int .i64 0, .string ⟨#[]⟩], .int .i64 0, .int .i64 13]) ?_ rfl (read_none HE.out (by decide) ((Below.refl _ _).alloc (Nat.le_refl _) _))
    simp [results, Tryz.results67, go_sem, *]
  · obtain ⟨⟨p, hp6, hpa, hpw⟩, q, hq6, hqn, hqw⟩ := parts_of s h10
    obtain ⟨c, hc⟩ : ∃ c, chk (hdI s.data.toList) = c := ⟨_, rfl⟩
    rw [hc] at hx
    unfold hdI at hc
    rw [hk, ← hpa] at hc
    have HC : Hid (chk ⟨(s[1].toNat : Int), be p.data.toList, ⟨#[]⟩⟩ = c) := Lib.hid hc
    have HN := Lib.hid hqn
    have HP := Lib.hid hpa
    have HK := Lib.hid hk
    have k1 : (1 : Int) < (s.size : Int) := by omega
    have k2 : (s[1].toNat : Int) < 256 := by have := s[1].toNat_lt; omega
    have b1 : ((s[0].toNat : Int) != 87) = false := by rw [bne, h1]; rfl
    have b2 : decide ((s.size : Int) < 10) = false := decide_eq_false (by omega)
    have kw : IntKind.i64.wrap (s[1].toNat : Int) = (s[1].toNat : Int) := IntWalk.i64_in _ (by omega)
    clear hc hqn hpa hk
    go_enter Tryz.func67, Tryz.ntmps67
    go_upto_region 7 with (fail)
    go_cut [5] (fun s5 wx => s5 = .pointer (some ⟨w.heap.size + 1, 0, none⟩) ∧ wx = ((w.alloc (.cells #[.int .i64 0, .int .i64 0, .string ⟨#[]⟩] 42)).alloc (.cells #[.int .i64 (s[1].toNat : Int), .int .i64 (be p.data.toList), .string ⟨#[]⟩] 42)).drew)
    case first =>
      go_region_held3 (fun w' => True)
        (first | trivial)
        (first
          | (go_at_call 93; refine (rnumber_calls _ hp6 _).mono ?_; rintro e w5 ⟨rfl, rfl⟩))
      all_goals (go_wp2_with fail; go_meet; exact ⟨rfl, rfl⟩)
    case rest =>
      obtain ⟨rfl, rfl⟩ := hcut
      go_wp2_with fail
      refine (rcheck_calls _ _ _ _).mono ?_
      rintro e w5 ⟨rfl, hb5⟩
      rw [HC.out]
      have hr : w5.heap[w.heap.size]? = some (.cells #[.int .i64 0, .int .i64 0, .string ⟨#[]⟩] 42 (0, 0)) := by
        rw [hb5.block w.heap.size (by simp; omega)]; show ((w.alloc _).alloc _).heap[_]? = _; exact Own.at_old _ _ (Own.at_new _ _)
      have hq : w5.heap[w.heap.size + 1]? = some (.cells #[.int .i64 (s[1].toNat : Int), .int .i64 (be p.data.toList), .string ⟨#[]⟩] 42 (0, 0)) := by
        rw [hb5.block (w.heap.size + 1) (by simp)]; show ((w.alloc _).alloc _).heap[_]? = _; exact Own.at_newk _ _ (by simp)
      have hB : Below w.heap.size w w5 := ((((Below.refl _ _).alloc (Nat.le_refl _) _).alloc (by simp) _).drew).trans (hb5.mono (by simp; omega))
      clear hb5
      obtain ⟨c0, c1, c2, f0, f1, f2⟩ := row3 hr
      obtain ⟨d0, d1, d2, g0, g1, g2⟩ := row3 hq
      have hl5 := Own.at_lt hq
      have HR := Lib.hid hr
      have HQ := Lib.hid hq
      clear hr hq
      rcases hx with ⟨hc0, e⟩ | ⟨hc0, hn, e⟩ | ⟨hc0, hn, e⟩
      · have HE := Lib.hid ((rd_hd (by rw [e]; exact hc0)).trans e); clear e
        have b3 : (c != 0) = true := by simpa using hc0
        have b4 : (c == 0) = false := by simpa using hc0
        go_wp2_with fail
        refine bodyPost_ret (v := .tuple #[.agg #[.int .i64 0, .int .i64 0, .string ⟨#[]⟩], .int .i64 0, .int .i64 c]) ?_ rfl (read_none HE.out hc0 (((hB.setCell (p := ⟨_, _, _⟩) (Nat.le_refl _) _).setCell (p := ⟨_, _, _⟩) (Nat.le_refl _) _).setCell (p := ⟨_, _, _⟩) (Nat.le_refl _) _))
        simp [results, Tryz.results67, go_sem, *]
      · have HE := Lib.hid ((rd_hd (by rw [e]; decide)).trans e); clear e
        subst hc0
        rw [← HN.out] at hn
        go_wp2_with (go_at_call 93; refine (rnumber_calls _ hq6 _).mono ?_; rintro e w' ⟨rfl, rfl⟩)
        refine bodyPost_ret (v := .tuple #[.agg #[.int .i64 0, .int .i64 0, .string ⟨#[]⟩], .int .i64 0, .int .i64 5]) ?_ rfl (read_none HE.out (by decide) (((hB.setCell (p := ⟨_, _, _⟩) (Nat.le_refl _) _).setCell (p := ⟨_, _, _⟩) (Nat.le_refl _) _).setCell (p := ⟨_, _, _⟩) (Nat.le_refl _) _))
        simp [results, Tryz.results67, go_sem, *]
      · subst hc0
        have hn0 := (ln_range s.data.toList).1
        by_cases h3 : 14 + ln s.data.toList ≤ (s.size : Int)
        · obtain ⟨⟨r, hrs, hrl, hrw⟩, b, hbl, hbw⟩ := rest_of s _ hn0 h3
          have hbI : rdI s.data.toList = ⟨(s[1].toNat : Int), be p.data.toList, b⟩ := by
            unfold rdI; rw [HK.out, HP.out, ba_of_list hbl]; rfl
          have hchk : chk ⟨(s[1].toNat : Int), be p.data.toList, b⟩ = 0 := by rw [← hbI]; exact chk_rdI e
          have hcmp : (r.toList == bytesOf ⟨(s[1].toNat : Int), be p.data.toList, b⟩) = fits r.data.toList := by
            have := put_back e h3
            rw [hbI] at this
            rw [← hrl] at this
            exact texts_same this
          have HPut := Lib.hid (putV_ok hchk)
          have HChk := Lib.hid hchk
          clear hchk hbI
          obtain ⟨f, hf⟩ : ∃ f, fits r.data.toList = f := ⟨_, rfl⟩
          rw [hf] at hcmp
          have HF := Lib.hid (show rdC s.data.toList = if f = true then 0 else 4 by
            cases f
            · rw [if_neg (by simp)]; exact rd_sum e h3 (by rw [← hrl]; exact hf)
            · rw [if_pos rfl]; exact rd_ok e h3 (by rw [← hrl]; exact hf))
          have HL : Hid (b = ⟨(bodyL s.data.toList).toArray⟩) := Lib.hid (ba_of_list hbl)
          clear e hrl hbl hf
          rw [← HN.out] at hn h3 hn0 hrw hbw
          have hcmp2 : (r.toList != bytesOf ⟨(s[1].toNat : Int), be p.data.toList, b⟩) = !f := by rw [bne, hcmp]
          cases f
          · have HE : Hid (rdC s.data.toList = 4) := Lib.hid (by rw [HF.out]; rfl)
            go_wp2_with (go_at_call 93; refine (rnumber_calls _ hq6 _).mono ?_; rintro e w' ⟨rfl, rfl⟩)
            refine (rput_calls _ _ _ _).mono ?_
            rintro e w6 ⟨rfl, hb6⟩
            rw [HPut.out]
            have hr6 : w6.heap[w.heap.size]? = some (.cells #[.int .i64 0, .int .i64 0, .string ⟨#[]⟩] 42 (0, 0)) := by
              rw [hb6.block w.heap.size (by simp [World.setCell]; omega)]; exact (Own.at_set_other _ (by omega) _ _).trans HR.out
            have hq6 : w6.heap[w.heap.size + 1]? = some (.cells #[.int .i64 (s[1].toNat : Int), .int .i64 (be p.data.toList), .string b] 42 (0, 0)) := by
              rw [hb6.block (w.heap.size + 1) (by simp [World.setCell]; omega), Own.at_set HQ.out]; rfl
            replace hB : Below w.heap.size w w6 := (hB.setCell (p := ⟨w.heap.size + 1, 2, none⟩) (Nat.le_succ _) (.string b)).trans (hb6.mono (by simp [World.setCell]; omega))
            clear hb6 c0 c1 c2 f0 f1 f2 d0 d1 d2 g0 g1 g2
            obtain ⟨c0, c1, c2, f0, f1, f2⟩ := row3 hr6
            obtain ⟨d0, d1, d2, g0, g1, g2⟩ := row3 hq6
            clear hr6 hq6
            go_wp2_with fail
            refine bodyPost_ret (v := .tuple #[.agg #[.int .i64 0, .int .i64 0, .string ⟨#[]⟩], .int .i64 0, .int .i64 4]) ?_ rfl (read_none HE.out (by decide) (((hB.setCell (p := ⟨_, _, _⟩) (Nat.le_refl _) _).setCell (p := ⟨_, _, _⟩) (Nat.le_refl _) _).setCell (p := ⟨_, _, _⟩) (Nat.le_refl _) _))
            simp [results, Tryz.results67, go_sem, *]
          · have HE : Hid (rdC s.data.toList = 0) := Lib.hid (by rw [HF.out]; rfl)
            go_wp2_with (go_at_call 93; refine (rnumber_calls _ hq6 _).mono ?_; rintro e w' ⟨rfl, rfl⟩)
            refine (rput_calls _ _ _ _).mono ?_
            rintro e w6 ⟨rfl, hb6⟩
            rw [HPut.out]
            have hr6 : w6.heap[w.heap.size]? = some (.cells #[.int .i64 0, .int .i64 0, .string ⟨#[]⟩] 42 (0, 0)) := by
              rw [hb6.block w.heap.size (by simp [World.setCell]; omega)]; exact (Own.at_set_other _ (by omega) _ _).trans HR.out
            have hq6 : w6.heap[w.heap.size + 1]? = some (.cells #[.int .i64 (s[1].toNat : Int), .int .i64 (be p.data.toList), .string b] 42 (0, 0)) := by
              rw [hb6.block (w.heap.size + 1) (by simp [World.setCell]; omega), Own.at_set HQ.out]; rfl
            replace hB : Below w.heap.size w w6 := (hB.setCell (p := ⟨w.heap.size + 1, 2, none⟩) (Nat.le_succ _) (.string b)).trans (hb6.mono (by simp [World.setCell]; omega))
            clear hb6 c0 c1 c2 f0 f1 f2 d0 d1 d2 g0 g1 g2
            obtain ⟨c0, c1, c2, f0, f1, f2⟩ := row3 hr6
            obtain ⟨d0, d1, d2, g0, g1, g2⟩ := row3 hq6
            clear hr6 hq6
            go_wp2_with fail
            refine bodyPost_ret (v := .tuple #[.agg #[.int .i64 (kd s.data.toList), .int .i64 (Rec.at_ s.data.toList), .string b], .int .i64 (14 + ln s.data.toList), .int .i64 0]) ?_ rfl (read_some HE.out HL.out (((hB.setCell (p := ⟨_, _, _⟩) (Nat.le_refl _) _).setCell (p := ⟨_, _, _⟩) (Nat.le_refl _) _).setCell (p := ⟨_, _, _⟩) (Nat.le_refl _) _))
            rw [HK.out, ← HP.out, ← HN.out]
            simp [results, Tryz.results67, go_sem, *]
        · have HE := Lib.hid (rd_cut e (show (s.data.toList.length : Int) < _ by rw [size_list]; omega)); clear e
          have h4 : (s.size : Int) < 14 + ln s.data.toList := by omega
          clear h3
          rw [← HN.out] at hn h4 hn0
          go_wp2_with (go_at_call 93; refine (rnumber_calls _ hq6 _).mono ?_; rintro e w' ⟨rfl, rfl⟩)
          refine bodyPost_ret (v := .tuple #[.agg #[.int .i64 0, .int .i64 0, .string ⟨#[]⟩], .int .i64 0, .int .i64 13]) ?_ rfl (read_none HE.out (by decide) (((hB.setCell (p := ⟨_, _, _⟩) (Nat.le_refl _) _).setCell (p := ⟨_, _, _⟩) (Nat.le_refl _) _).setCell (p := ⟨_, _, _⟩) (Nat.le_refl _) _))
          simp [results, Tryz.results67, go_sem, *]

end Go.Proofs.YtngangdjbbbbdaaGreat.Rec
end

section
namespace Go.Proofs.YtngangdjbbbbdaaGreat.Rec
open Go.RowKit Go.Proofs.YtngangdjbbbbdaaGreat.Sum Go.Proofs.YtngangdjbbbbdaaGreat.Own

theorem rread_no (s : ByteArray) (hs : s.size ≤ 4611686018427387904) (h : rdC s.data.toList ≠ 0) (w : World) :
    Calls Tryz.prog 67 #[.string s] w fun e w' => e = .returned (.tuple #[.agg #[.int .i64 0, .int .i64 0, .string ⟨#[]⟩], .int .i64 0, .int .i64 (rdC s.data.toList)]) ∧ Below w.heap.size w w' :=
  (rread_calls s hs w).mono fun e w' hp => by
    obtain ⟨rfl, hb⟩ := hp
    obtain ⟨e1, e2⟩ := rd_none h
    rw [e1, e2]; exact ⟨rfl, hb⟩
theorem rread_yes (s : ByteArray) (hs : s.size ≤ 4611686018427387904) (h : rdC s.data.toList = 0) (x : Itm) (n : Int) (hx : rdX s.data.toList = x) (hn : rdN s.data.toList = n) (w : World) :
    Calls Tryz.prog 67 #[.string s] w fun e w' => e = .returned (.tuple #[.agg #[.int .i64 x.k, .int .i64 x.a, .string x.b], .int .i64 n, .int .i64 0]) ∧ Below w.heap.size w w' :=
  (rread_calls s hs w).mono fun e w' hp => by
    obtain ⟨rfl, hb⟩ := hp
    rw [hx, hn, h]; exact ⟨rfl, hb⟩

set_option maxRecDepth 100000 in
set_option maxHeartbeats 1000000 in
theorem rscan_calls (s : ByteArray) (hs : s.size ≤ 1099511627776) (w : World) :
    Calls Tryz.prog 34 #[.string s] w (ScanPost s w) := by
  obtain ⟨i0, hi, hz0, hz1, hz2⟩ := info_parts info_item
  go_enter Tryz.func34, Tryz.ntmps34
  go_wp2_with fail
  go_loopw [4, 5] (fun v a wr => ∃ (L : List Itm) (k : Nat), a = .int .i64 k ∧ ScanAt s w wr L k v) (fun _ a _ => s.size - (intOf a).toNat)
  case atStart => exact ⟨[], 0, rfl, World.ownsRow_nil _ _ _ _, Below.refl _ _, by simp, by omega, by simp⟩
  case round =>
    obtain ⟨L, k, rfl, C⟩ := hrel
    have hle := C.le
    have hlen := C.len
    have hown := C.own
    have hsz := C.below.size
    obtain ⟨p, hps, hpl, hpw⟩ := from_of s k hle
    have k0 : (k : Int) ≤ 1099511627776 := by omega
    rcases Nat.lt_or_eq_of_le hle with hlt | heq
    · have q1 : (k : Int) < (s.size : Int) := by omega
      by_cases hr : rdC (s.data.toList.drop k) = 0
      · obtain ⟨_, hn⟩ := rd_some hr
        have hn0 := ln_range (s.data.toList.drop k)
        obtain ⟨n, hnn⟩ : ∃ n, rdN (s.data.toList.drop k) = n := ⟨_, rfl⟩
        obtain ⟨x, hxx⟩ : ∃ x, rdX (s.data.toList.drop k) = x := ⟨_, rfl⟩
        have HY := Lib.hid (rread_yes p (by omega) (by rw [hpl]; exact hr) x n (by rw [hpl]; exact hxx) (by rw [hpl]; exact hnn))
        have hl := (rd_inv hr).2.1
        rw [List.length_drop, size_list] at hl
        have n0 : 0 ≤ n := by omega
        have n3 : n + k ≤ (s.size : Int) := by omega
        have n1 : n + k ≤ 1099511627776 := by omega
        have n2 : 14 ≤ n := by omega
        have HC := Lib.hid C
        have HR := Lib.hid hr
        have HN := Lib.hid hnn
        have HX := Lib.hid hxx
        have HO := Lib.hid hown
        clear C hr hnn hxx hown hl hn hn0 hpl
        go_wp2_with fail
        refine (HY.out _).mono ?_
        rintro e w5 ⟨rfl, hb5⟩
        have HB5 := Lib.hid hb5
        have h5 := hb5.size
        have ho5 := Own.own_below HO.out hb5
        clear hb5
        go_wp2_with (at_builtin; refine Own.append_any rfl (.tmp 25) (.tmp 27) 29 rfl w.heap.size 42 i0 _ 3 32 Tryz.underlying29 hi hz0 hz1 hz2 rfl (by decide) _ _ _ rfl (World.ownsRow.alloc (World.ownsRow.alloc ho5 _) _) _ 1 1 [.int .i64 x.k, .int .i64 x.a, .string x.b] rfl (fun h => nomatch h) rfl (Own.three_new _ _ _ _ _ _ (by simp)) (by simp [Value.oneCell']) (by unfold maxLen; omega) (by omega) (by simp; omega) ?_; intro v' w1 hown1 hgrow1)
        have C1 := HC.out.step HR.out ((HB5.out.alloc h5 _).alloc (by simp; omega) _) (by rw [HX.out]; exact hown1) hgrow1
        rw [HX.out, HN.out] at C1
        have HC1 := Lib.hid C1
        clear C1 hown1 hgrow1 ho5
        go_wp2_with fail
        go_roundw
        case rel => exact ⟨_, _, by rw [show (k : Int) + n = ((k + n.toNat : Nat) : Int) by omega], HC1.out⟩
        case measure => simp [intOf]; omega
      · have HY := Lib.hid (rread_no p (by omega) (by rw [hpl]; exact hr))
        rw [hpl] at HY
        have HC := Lib.hid C
        have HR := Lib.hid hr
        obtain ⟨c, hc⟩ : ∃ c, rdC (s.data.toList.drop k) = c := ⟨_, rfl⟩
        rw [hc] at HY hr
        have b3 : (c == 0) = false := by simpa using hr
        have b4 : (c != 0) = true := by simpa using hr
        clear C hc hown hpl hr
        go_wp2_with fail
        refine (HY.out _).mono ?_
        rintro e w5 ⟨rfl, hb5⟩
        have HB5 := Lib.hid hb5
        clear hb5
        go_wp2_with fail
        go_ret2
        exact HC.out.end_ HR.out (HB5.out.alloc HB5.out.size _)
    · have HC := Lib.hid C
      have HR : Hid (rdC (s.data.toList.drop k) ≠ 0) := Lib.hid (by rw [heq, List.drop_of_length_le (by rw [size_list]; exact Nat.le_refl _)]; decide)
      have q1 : (s.size : Int) ≤ (k : Int) := by omega
      clear C heq hown hpl
      go_wp2_with fail
      go_ret2
      exact HC.out.end_ HR.out (Below.refl _ _)

end Go.Proofs.YtngangdjbbbbdaaGreat.Rec
end

section
namespace Go.Proofs.YtngangdjbbbbdaaGreat.Rst
open Go.RowKit Go.Proofs.YtngangdjbbbbdaaGreat.Own
open Go.Proofs.YtngangdjbbbbdaaGreat.Rec (Itm Its cv cv_len cv_app)
open Go.Proofs.YtngangdjbbbbdaaGreat.Rw (str strs Texts)
open Go.Proofs.YtngangdjbbbbdaaGreat.Tl (text_ext drop_text)

/-- what a console told -/
def dat (l : List Itm) : Bs := l.flatMap fun x => if x.k = 1 then x.b.data.toList else []
theorem dat_app (l m : List Itm) : dat (l ++ m) = dat l ++ dat m := by simp [dat]
theorem dat_one {x : Itm} (h : x.k = 1) : dat [x] = x.b.data.toList := by simp [dat, h]
theorem dat_no {x : Itm} (h : ¬ x.k = 1) : dat [x] = [] := by simp [dat, h]
theorem dat_take_le (l : List Itm) (k : Nat) : (dat (l.take k)).length ≤ (dat l).length := by
  have e : dat l = dat (l.take k) ++ dat (l.drop k) := by rw [← dat_app, List.take_append_drop]
  rw [e, List.length_append]; omega
theorem text_app (a : Bs) (b : ByteArray) : (⟨a.toArray⟩ : ByteArray) ++ b = ⟨(a ++ b.data.toList).toArray⟩ := text_ext (by
  show ((⟨a.toArray⟩ : ByteArray) ++ b).data.toList = _
  simp)
set_option maxRecDepth 100000 in
set_option maxHeartbeats 4000000 in
theorem rdata_calls (xs : List Itm) (p : Option Addr) (c n : Nat) (hn : n = xs.length) (w : World) (h : Its w xs p c) (ht : (dat xs).length ≤ 1000000000) :
    Calls Tryz.prog 18 #[.slice p n c] w fun e w' => e = .returned (.string ⟨(dat xs).toArray⟩) ∧ Below w.heap.size w w' := by
  have hcap := h.cap
  have hmax := h.max
  rw [← hn] at hcap
  unfold maxLen at hmax
  have HI := Lib.hid h
  have HN := Lib.hid hn
  have HT := Lib.hid ht
  clear h hn ht
  go_enter Tryz.func18, Tryz.ntmps18
  go_wp2_with fail
  go_loopw [3, 4] (fun sv iv wr => ∃ (k : Nat) (D : Bs), k ≤ n ∧ iv = .int .i64 k ∧ sv = .string ⟨D.toArray⟩ ∧ Hid (D = dat (xs.take k)) ∧ Hid (Below w.heap.size w wr)) (fun _ iv _ => n - (intOf iv).toNat)
  case atStart => exact ⟨0, [], Nat.zero_le _, rfl, rfl, Lib.hid rfl, Lib.hid (Below.refl _ _)⟩
  case round =>
    obtain ⟨k, D, hk, rfl, rfl, HD, HB⟩ := hrel
    rename World => wr
    rcases Nat.lt_or_eq_of_le hk with hlt | rfl
    · have q1 : (k : Int) < (n : Int) := by omega
      have hkl : k < xs.length := by rw [← HN.out]; exact hlt
      obtain ⟨g, o, rfl, hg, c0, c1, c2⟩ := its_at (HI.out.kept HB.out) hkl
      have HX := Lib.hid (show dat (xs.take (k + 1)) = D ++ dat [xs[k]] by rw [take_snoc hkl, dat_app, HD.out])
      have hle := Nat.le_trans (dat_take_le xs (k + 1)) HT.out
      rw [HX.out, List.length_append] at hle
      generalize xs[k] = x at *
      obtain ⟨xk, xa, xb⟩ := x
      simp only at c0 c1 c2
      by_cases h1 : xk = 1
      · subst h1
        rw [dat_one rfl] at HX hle
        have hsz : D.length + xb.size ≤ 1000000000 := hle
        have z1 : ¬ 9223372036854775807 < D.length + xb.size := by omega
        have HC := Lib.hid (text_app D xb)
        go_wp2_with fail
        rw [HC.out]
        go_roundw
        case rel => exact ⟨k + 1, _, by omega, by go_num, rfl, Lib.hid HX.out.symm, HB⟩
        case measure => simp [intOf]; omega
      · rw [dat_no h1, List.append_nil] at HX
        have b1 : (xk == 1) = false := by simpa using h1
        clear h1
        go_wp2_with fail
        go_roundw
        case rel => exact ⟨k + 1, D, by omega, by go_num, rfl, Lib.hid HX.out.symm, HB⟩
        case measure => simp [intOf]; omega
    · have HE := Lib.hid (show D = dat xs by rw [HD.out, List.take_of_length_le (by rw [HN.out]; exact Nat.le_refl _)])
      go_wp2_with fail
      go_ret
      exact ⟨by rw [← HE.out]; rfl, HB.out⟩
set_option maxRecDepth 100000 in
set_option maxHeartbeats 1000000 in
theorem rrtail_calls (xs : List Itm) (p : Option Addr) (c n : Nat) (hn : n = xs.length) (w : World) (h : Its w xs p c) (ht : (dat xs).length ≤ 1000000000) (l b : Nat) :
    Calls Tryz.prog 16 #[.slice p n c, .int .i64 l, .int .i64 b] w fun e w' => e = .returned (.string ⟨(Tl.rtail (dat xs) l b).toArray⟩) ∧ Below w.heap.size w w' := by
  have HD := Lib.hid (rdata_calls xs p c n hn w h ht)
  have HT := Lib.hid fun W => Tl.rtail_calls ⟨(dat xs).toArray⟩ l b (by show (dat xs).length ≤ _; omega) W
  clear h hn ht
  go_enter Tryz.func16, Tryz.ntmps16
  go_wp2_with fail
  refine HD.out.mono ?_
  rintro e w5 ⟨rfl, hb5⟩
  have HB5 := Lib.hid hb5
  clear hb5
  go_wp2_with fail
  refine (HT.out _).mono ?_
  rintro e w6 ⟨rfl, hb6⟩
  have HB6 := Lib.hid (HB5.out.trans (hb6.mono HB5.out.size))
  clear hb6
  go_wp2_with fail
  go_ret
  exact ⟨rfl, HB6.out⟩
set_option maxRecDepth 100000 in
set_option maxHeartbeats 4000000 in
theorem rtorn_calls (p : Option Addr) (c n : Nat) (L : List Bs) (w : World) (h : Texts w p c L) (hn : n = L.length) (hs : ∀ s ∈ L, s.length ≤ 16777216) (hm : n ≤ 1000) :
    Calls Tryz.prog 11 #[.slice p n c] w fun e w' => e = .returned (.int .i64 (tornL L)) ∧ Below w.heap.size w w' := by
  obtain ⟨hc1, hc2⟩ := h.cap
  rw [← hn] at hc1
  unfold maxLen at hc2
  have HT := Lib.hid h
  have HN := Lib.hid hn
  have HS := Lib.hid hs
  clear h hn hs
  go_enter Tryz.func11, Tryz.ntmps11
  go_wp2_with fail
  go_loopw [3, 4] (fun sv iv wr => ∃ (k : Nat) (D : Int), k ≤ n ∧ iv = .int .i64 k ∧ sv = .int .i64 D ∧ Hid (D = tornL (L.take k)) ∧ Hid (Below w.heap.size w wr)) (fun _ iv _ => n - (intOf iv).toNat)
  case atStart => exact ⟨0, 0, Nat.zero_le _, rfl, rfl, Lib.hid rfl, Lib.hid (Below.refl _ _)⟩
  case round =>
    obtain ⟨k, D, hk, rfl, rfl, HD, HB⟩ := hrel
    rename World => wr
    rcases Nat.lt_or_eq_of_le hk with hlt | rfl
    · have q1 : (k : Int) < (n : Int) := by omega
      have hkl : k < L.length := by rw [← HN.out]; exact hlt
      rcases (HT.out.below HB.out).cells with h0 | ⟨g, o, rfl, hg, hcell⟩
      · rw [h0] at hkl; simp at hkl
      have c0 := hcell k hkl
      rw [str] at c0
      have HX := Lib.hid (show tornL (L.take (k + 1)) = D + torn1 L[k] by rw [take_snoc hkl, tornL_app, HD.out]; simp [tornL])
      have hbd := tornL_bd (L.take k) fun x hx => HS.out x (List.mem_of_mem_take hx)
      rw [← HD.out, List.length_take] at hbd
      have hsz := HS.out _ (List.getElem_mem hkl)
      generalize L[k] = s at *
      obtain ⟨s1, s2, s3, -⟩ := scan_bd _ s (Nat.le_refl _)
      unfold torn1 at HX
      have HSC := Lib.hid fun W => Rec.rscan_calls ⟨s.toArray⟩ (by show s.length ≤ _; omega) W
      have HC : Hid (∀ W, Below wr.heap.size wr W → W.cell? ⟨g, o + k, none⟩ = some (.string ⟨s.toArray⟩)) := Lib.hid fun W hb => (hb.cell (p := ⟨g, _, none⟩) hg).trans c0
      obtain ⟨d0, d1⟩ := hbd
      have d2 : D ≤ 16777216 * 1000 := by omega
      clear hcell d1
      go_wp2_with fail
      refine (HSC.out _).mono ?_
      rintro e w5 ⟨v5, rfl, ho5, hb5⟩
      rw [show (⟨s.toArray⟩ : ByteArray).data.toList = s from rfl] at ho5 ⊢
      have HB5 := Lib.hid (HB.out.trans (hb5.mono HB.out.size))
      have c5 := HC.out w5 hb5
      obtain ⟨m, hm⟩ : ∃ m, (Rec.scan s).2 = m := ⟨_, rfl⟩
      rw [hm] at s1 s2 HX ⊢
      clear hb5 hm ho5 c0
      go_wp2_with fail
      go_roundw
      case rel => exact ⟨k + 1, D + ((s.length : Int) - m), by omega, by go_num, by go_num, Lib.hid HX.out.symm, HB5⟩
      case measure => simp [intOf]; omega
    · have HE := Lib.hid (show D = tornL L by rw [HD.out, List.take_of_length_le (by rw [HN.out]; exact Nat.le_refl _)])
      go_wp2_with fail
      go_ret
      exact ⟨by rw [← HE.out]; rfl, HB.out⟩
set_option maxRecDepth 100000 in
set_option maxHeartbeats 4000000 in
theorem rlost_calls (xs : List Itm) (p : Option Addr) (c n : Nat) (hn : n = xs.length) (w : World) (h : Its w xs p c) (hs : ∀ x ∈ xs, x.b.size ≤ 65535) :
    Calls Tryz.prog 12 #[.slice p n c] w fun e w' => e = .returned (.int .i64 (lstL xs)) ∧ Below w.heap.size w w' := by
  have hcap := h.cap
  have hmax := h.max
  rw [← hn] at hcap
  unfold maxLen at hmax
  have HI := Lib.hid h
  have HN := Lib.hid hn
  have HS := Lib.hid hs
  clear h hn hs
  go_enter Tryz.func12, Tryz.ntmps12
  go_wp2_with fail
  go_loopw [3, 4] (fun a i wr => ∃ (k : Nat) (m : Int), k ≤ n ∧ i = .int .i64 k ∧ a = .int .i64 m ∧ Hid (m = lstL (xs.take k)) ∧ Hid (Below w.heap.size w wr)) (fun _ i _ => n - (intOf i).toNat)
  case atStart => exact ⟨0, 0, Nat.zero_le _, rfl, rfl, Lib.hid rfl, Lib.hid (Below.refl _ _)⟩
  case round =>
    obtain ⟨k, m, hk, rfl, rfl, HM, HB⟩ := hrel
    rename World => wr
    rcases Nat.lt_or_eq_of_le hk with hlt | rfl
    · have q1 : (k : Int) < (n : Int) := by omega
      have hkl : k < xs.length := by rw [← HN.out]; exact hlt
      obtain ⟨g, o, rfl, hg, c0, c1, c2⟩ := its_at (HI.out.kept HB.out) hkl
      have HX := Lib.hid (show lstL (xs.take (k + 1)) = lst1 m xs[k] by rw [take_snoc hkl, lstL_snoc, HM.out])
      have hxs := HS.out _ (List.getElem_mem hkl)
      have hnb := lstL_bd (xs.take k)
      rw [← HM.out] at hnb
      generalize xs[k] = x at *
      obtain ⟨xk, xa, xb⟩ := x
      simp only at c0 c1 c2 hxs
      obtain ⟨hm0, hm1⟩ := hnb
      by_cases h3 : xk = 3
      · subst h3
        have hrd := rdV_bd xb.data.toList
        have HRD := Lib.hid fun W => Digit.rread_calls xb (by omega) W
        rw [lst1_gap rfl] at HX
        simp only at HX
        generalize Digit.rdV xb.data.toList = v at *
        generalize Digit.rdC xb.data.toList = cd at *
        obtain ⟨hr0, hr1⟩ := hrd
        go_wp2_with fail
        refine (HRD.out _).mono ?_
        rintro e w5 ⟨rfl, rfl⟩
        by_cases hle : m + v ≤ 1099511627776
        · have e1 : min (m + v) 1099511627776 = m + v := by omega
          have e2 : min 1099511627776 (m + v) = m + v := by omega
          have z1 : ¬ 1099511627776 < m + v := by omega
          have z2 : ¬ m + v < 1099511627776 ∨ True := .inr trivial
          rw [e1] at HX
          go_wp2_with fail
          go_roundw
          case rel => exact ⟨k + 1, m + v, by omega, by go_num, by first | rfl | (congr 1; split <;> omega), Lib.hid HX.out.symm, HB⟩
          case measure => simp [intOf]; omega
        · have e1 : min (m + v) 1099511627776 = 1099511627776 := by omega
          have e2 : min 1099511627776 (m + v) = 1099511627776 := by omega
          have z1 : 1099511627776 < m + v := by omega
          have z2 : ¬ m + v < 1099511627776 := by omega
          rw [e1] at HX
          go_wp2_with fail
          go_roundw
          case rel => exact ⟨k + 1, 1099511627776, by omega, by go_num, by first | rfl | (congr 1; split <;> omega), Lib.hid HX.out.symm, HB⟩
          case measure => simp [intOf]; omega
      · rw [lst1_no h3] at HX
        have z1 : (xk == 3) = false := by simpa using h3
        clear h3
        go_wp2_with fail
        go_roundw
        case rel => exact ⟨k + 1, m, by omega, by go_num, rfl, Lib.hid HX.out.symm, HB⟩
        case measure => simp [intOf]; omega
    · have HE := Lib.hid (show m = lstL xs by rw [HM.out, List.take_of_length_le (by rw [HN.out]; exact Nat.le_refl _)])
      go_wp2_with fail
      go_ret
      exact ⟨by rw [← HE.out]; rfl, HB.out⟩
end Go.Proofs.YtngangdjbbbbdaaGreat.Rst
end

section
namespace Go.Proofs.YtngangdjbbbbdaaGreat.Rst
open Go.RowKit Go.Proofs.YtngangdjbbbbdaaGreat.Own Go.Proofs.YtngangdjbbbbdaaGreat.Sto Go.Proofs.YtngangdjbbbbdaaGreat.Gen
open Go.Proofs.YtngangdjbbbbdaaGreat.Rec (Itm Its cv cv_len cv_app)
open Go.Proofs.YtngangdjbbbbdaaGreat.Rw (str strs Texts)
open Go.Proofs.YtngangdjbbbbdaaGreat.Tl (IsTail)

set_option maxRecDepth 100000 in
theorem last_nil_calls (p : Option Addr) (c : Nat) (w : World) : Calls Tryz.prog 39 #[.slice p 0 c] w fun e w' => e = .returned (.int .i64 0) ∧ w = w' := by
  go_enter Tryz.func39, Tryz.ntmps39
  go_wp2_with fail
  go_ret
  exact ⟨rfl, rfl⟩
set_option maxRecDepth 100000 in
theorem last_calls (xs : List Itm) (p : Option Addr) (c n : Nat) (hn : n = xs.length) (w : World) (h : Its w xs p c) :
    Calls Tryz.prog 39 #[.slice p n c] w fun e w' => e = .returned (.int .i64 (lastAt xs)) ∧ w = w' := by
  rcases Nat.eq_zero_or_pos n with rfl | h0
  · refine (last_nil_calls p c w).mono ?_
    rintro e w' ⟨rfl, rfl⟩
    rw [last_nil hn.symm]
    exact ⟨rfl, rfl⟩
  · obtain ⟨m, rfl⟩ : ∃ m, n = m + 1 := ⟨n - 1, by omega⟩
    have hcap := h.cap
    have hmax := h.max
    rw [← hn] at hcap
    unfold maxLen at hmax
    obtain ⟨g, o, rfl, hg, c0, c1, c2⟩ := its_at h (k := m) (by omega)
    have HE := Lib.hid (lastAt_some hn.symm)
    generalize xs[m] = x at *
    have q0 : (((m + 1 : Nat) : Int) == 0) = false := by
      have : ¬ ((m + 1 : Nat) : Int) = 0 := by omega
      simpa using this
    have q1 : ((m + 1 : Nat) : Int) - 1 = (m : Int) := by omega
    clear h hn
    go_enter Tryz.func39, Tryz.ntmps39
    go_wp2_with fail
    go_ret
    exact ⟨by rw [HE.out]; rfl, rfl⟩
set_option maxRecDepth 100000 in
set_option maxHeartbeats 4000000 in
theorem tail_yes (xs : List Itm) (p : Option Addr) (c z : Nat) (hn : z = xs.length) (w : World) (h : Its w xs p c) (ht : (dat xs).length ≤ 1000000000) (n m : Nat) (h1 : 1 ≤ n) (h2 : n ≤ 1024) (h3 : 1 ≤ m) (h4 : m ≤ 65536) :
    Calls Tryz.prog 14 #[.slice p z c, .int .i64 n, .int .i64 m] w fun e w' => ∃ k b q, e = .returned (.tuple #[.pointer (some ⟨k, 0, none⟩), .int .i64 0]) ∧ IsTail w w' k b q n m (dat xs) := by
  have hcap := h.cap
  have hmax := h.max
  rw [← hn] at hcap
  unfold maxLen at hmax
  have HI := Lib.hid h
  have HN := Lib.hid hn
  have HT := Lib.hid ht
  clear h hn ht
  go_enter Tryz.func14, Tryz.ntmps14
  go_wp2_with fail
  refine (Tl.new_yes n m h1 h2 h3 h4 _).mono ?_
  rintro e w5 ⟨k, b, rfl, hT⟩
  have HT5 := Lib.hid hT
  clear hT
  go_wp2_with fail
  go_loopw [23] (fun iv wr => ∃ (i : Nat) (D : Bs) (q : Option Nat), i ≤ z ∧ iv = .int .i64 i ∧ Hid (D = dat (xs.take i)) ∧ Hid (IsTail w wr k b q n m D)) (fun iv _ => z - (intOf iv).toNat)
  case atStart => exact ⟨0, [], none, Nat.zero_le _, rfl, Lib.hid rfl, HT5⟩
  case round =>
    obtain ⟨i, D, q, hk, rfl, HD, H⟩ := hrel
    rename World => wr
    rcases Nat.lt_or_eq_of_le hk with hlt | rfl
    · have q1 : (i : Int) < (z : Int) := by omega
      have hkl : i < xs.length := by rw [← HN.out]; exact hlt
      obtain ⟨g, o, rfl, hg, c0, c1, c2⟩ := its_at (HI.out.kept H.out.below) hkl
      have HX := Lib.hid (show dat (xs.take (i + 1)) = D ++ dat [xs[i]] by rw [take_snoc hkl, dat_app, HD.out])
      have hle := Nat.le_trans (dat_take_le xs (i + 1)) HT.out
      rw [HX.out, List.length_append] at hle
      generalize xs[i] = x at *
      obtain ⟨xk, xa, xb⟩ := x
      simp only at c0 c1 c2
      have HA := Lib.hid (H.out.same ((Below.refl _ wr).alloc (Nat.le_refl _) (.cells #[.int .i64 xk, .int .i64 xa, .string xb] 42 (0, 0))))
      by_cases hx1 : xk = 1
      · subst hx1
        rw [dat_one rfl] at HX hle
        have HF := Lib.hid (Tl.feed_calls HA.out xb hle)
        clear hle
        go_wp2_with fail
        refine HF.out.mono ?_
        rintro e w6 ⟨rfl, q', hT⟩
        have HT6 := Lib.hid hT
        clear hT
        go_wp2_with fail
        go_roundw
        case rel => exact ⟨i + 1, _, q', by omega, by go_num, Lib.hid HX.out.symm, HT6⟩
        case measure => simp [intOf]; omega
      · rw [dat_no hx1, List.append_nil] at HX
        have b1 : (xk == 1) = false := by simpa using hx1
        clear hx1
        go_wp2_with fail
        go_roundw
        case rel => exact ⟨i + 1, D, q, by omega, by go_num, Lib.hid HX.out.symm, HA⟩
        case measure => simp [intOf]; omega
    · have HE := Lib.hid (show D = dat xs by rw [HD.out, List.take_of_length_le (by rw [HN.out]; exact Nat.le_refl _)])
      go_wp2_with fail
      go_ret2
      exact ⟨k, b, q, rfl, by rw [← HE.out]; exact H.out⟩
set_option maxRecDepth 100000 in
theorem tail_no (p : Option Addr) (c z : Nat) (n m : Nat) (h : n = 0 ∨ m = 0) (h2 : n ≤ 1024) (w : World) :
    Calls Tryz.prog 14 #[.slice p z c, .int .i64 n, .int .i64 m] w fun e w' => e = .returned (.tuple #[.pointer none, .int .i64 2]) ∧ Below w.heap.size w w' := by
  have HN := Lib.hid (Tl.new_no n m h h2)
  clear h
  go_enter Tryz.func14, Tryz.ntmps14
  go_wp2_with fail
  refine (HN.out _).mono ?_
  rintro e w5 ⟨rfl, hb⟩
  have HB := Lib.hid hb
  clear hb
  go_wp2_with fail
  go_ret2
  exact ⟨rfl, HB.out⟩
theorem does_ret {w w' : World} {bs : Nat → Prop} {e : Ending} {b : Nat} {t' : St} {c : Int} (h : DoesE w bs e w' b t' c) : ∃ v, e = .returned v := by
  obtain ⟨v, k, bs', he, _⟩ := h
  exact ⟨v, he⟩
theorem does_pre {w w5 w' : World} {bs : Nat → Prop} {e : Ending} {b : Nat} {t' : St} {c : Int} (hb : Below w.heap.size w w5) (h : DoesE w5 bs e w' b t' c) : DoesE w bs e w' b t' c := by
  obtain ⟨v, k, bs', he, hE, hk, hs, ho, hn⟩ := h
  have hsz := hb.size
  refine ⟨v, k, bs', he, hE, fun hc => ⟨Nat.le_trans hsz (hk hc).1, (hk hc).2⟩, hs, (Out.ofNew (S := bs) hb).trans ho fun _ _ h => h, fun i hi => ?_⟩
  rcases hn i hi with h1 | h1
  · exact .inl h1
  · exact .inr (by omega)
set_option maxRecDepth 100000 in
/-- there is no newest generation -/
theorem begin_none {w : World} {bs : Nat → Prop} {b : Nat} {t : St} (h : Sto w bs b t) (a : Bs) (ha : a.length ≤ 1000000) (n : Int) (hf : (flk t.L a).isSome = false) :
    Calls Tryz.prog 20 #[pb b, .string ⟨a.toArray⟩, .int .i64 n] w fun e w' => e = .returned .nilIface ∧ Below w.heap.size w w' := by
  have HN := Lib.hid (names_calls h a ha 1)
  have HL : Hid (((fnd t (ser a (held 1))).map Fl.nm).length = 0) := Lib.hid (by
    have e : ser a (held 1) = [a] := by show [nm a 0] = _; rw [nm_zero a (by omega)]
    rw [e, List.length_map]
    unfold fnd
    cases hx : flk t.L a with
    | none => simp [hx]
    | some x => rw [hx] at hf; cases hf)
  clear h hf
  go_enter Tryz.func20, Tryz.ntmps20
  go_wp2_with fail
  refine HN.out.mono ?_
  rintro e w5 ⟨p, c, k, rfl, hk, -, hb, -, -⟩
  rw [HL.out] at hk
  subst hk
  have HB := Lib.hid hb
  clear hb
  go_wp2_with fail
  go_ret
  exact ⟨rfl, HB.out⟩
set_option maxRecDepth 100000 in
theorem begin_some {w : World} {bs : Nat → Prop} {b : Nat} {t : St} (h : Sto w bs b t) (a : Bs) (ha : a.length ≤ 1000000) (n : Int) (hf : (flk t.L a).isSome = true) :
    Calls Tryz.prog 20 #[pb b, .string ⟨a.toArray⟩, .int .i64 n] w fun e w' => DoesE w bs e w' b (trT t (ser a (held n))) (trC t (ser a (held n))) := by
  have HN := Lib.hid (names_calls h a ha 1)
  have HL : Hid (((fnd t (ser a (held 1))).map Fl.nm).length = 1) := Lib.hid (by
    have e : ser a (held 1) = [a] := by show [nm a 0] = _; rw [nm_zero a (by omega)]
    rw [e, List.length_map]
    unfold fnd
    cases hx : flk t.L a with
    | none => rw [hx] at hf; cases hf
    | some x => simp [hx])
  have HT := Lib.hid fun w5 (hb : Below w.heap.size w w5) => (turn_calls (h.below hb) a ha n).mono fun e w' hd => does_pre hb hd
  clear h hf
  go_enter Tryz.func20, Tryz.ntmps20
  go_wp2_with fail
  refine HN.out.mono ?_
  rintro e w5 ⟨p, c, k, rfl, hk, -, hb, -, -⟩
  rw [HL.out] at hk
  subst hk
  have HT5 := Lib.hid (HT.out w5 hb)
  clear hb
  go_wp2_with fail
  refine HT5.out.mono ?_
  intro e w6 hd
  obtain ⟨v, hv⟩ := does_ret hd
  subst hv
  have HD := Lib.hid hd
  clear hd
  go_wp2_with fail
  go_ret
  exact HD.out
end Go.Proofs.YtngangdjbbbbdaaGreat.Rst
end


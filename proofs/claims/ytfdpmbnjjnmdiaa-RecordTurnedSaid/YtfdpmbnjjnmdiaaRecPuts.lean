/-
  Layer 8 (record): Put, the program's and the document's, walked.
-/
import Derived.Test.YtfdpmbnjjnmdiaaRecAll
namespace Go.Proofs.Ytfdpmbnjjnmdiaa.Rec
open Go.RowKit Go.Proofs.Ytfdpmbnjjnmdiaa.Sum Go.Proofs.Ytfdpmbnjjnmdiaa.Own

def PutPost (x : Itm) (w : World) (e : Ending) (w' : World) : Prop :=
  e = .returned (.tuple #[.string ⟨(putV x).toArray⟩, .int .i64 (chk x)]) ∧ Below w.heap.size w w'

set_option maxHeartbeats 400000 in
theorem put_calls (k a : Int) (b : ByteArray) (w : World) :
    Calls Try.prog 8 #[.agg #[.int .i64 k, .int .i64 a, .string b]] w (PutPost ⟨k, a, b⟩ w) := by
  have HA : Hid (∀ W, Its W [⟨k, a, b⟩] (some ⟨w.heap.size + 1, 0, none⟩) 1 → Calls Try.prog 18 #[.slice (some ⟨w.heap.size + 1, 0, none⟩) 1 1] W (AllPost [⟨k, a, b⟩] W)) := Lib.hid (fun W h => all_calls [⟨k, a, b⟩] _ 1 W h (by show 1 ≤ 1000000; omega))
  go_enter Try.func8, Try.ntmps8
  go_wp2_with fail
  refine (HA.out _ ⟨by show 1 ≤ 1; omega, by unfold maxLen; omega, .inr ⟨w.heap.size + 1, 0, rfl, by simp, fun i hi => ?_⟩⟩).mono ?_
  · have h0 : i = 0 := by have : i < 1 := hi; omega
    subst h0
    have hq := at_newk (w.alloc (.cells #[.int .i64 k, .int .i64 a, .string b] 23 (0, 0))) (.cells #[.int .i64 k, .int .i64 a, .string b] 23 (0, 0)) (k := w.heap.size + 1) (by simp)
    exact box3 hq
  · rintro e w5 ⟨rfl, hb5⟩
    obtain ⟨e1, e2⟩ := all_one ⟨k, a, b⟩
    rw [e1, e2]
    have hB : Below w.heap.size w w5 := (((Below.refl _ _).alloc (Nat.le_refl _) _).alloc (by simp) _).trans (hb5.mono (by simp; omega))
    clear hb5
    go_wp2_with fail
    go_ret2
    exact ⟨rfl, hB⟩

theorem ba_app (l m : List UInt8) : (⟨l.toArray⟩ : ByteArray) ++ ⟨m.toArray⟩ = ⟨(l ++ m).toArray⟩ := ByteArray.ext (by simp [ByteArray.data_append])
theorem dig_cons (k : Nat) : ∀ n : Int, 0 ≤ n → dig (k + 1) n = byteI (n / 256 ^ k % 256) :: dig k n := by
  induction k with
  | zero => intro n _; show [byteI (n % 256)] = [byteI (n / 1 % 256)]; rw [Int.ediv_one]
  | succ k ih =>
    intro n hn
    rw [dig, ih _ (by omega), List.cons_append]
    congr 2
    · congr 1
      rw [Int.pow_succ, Int.mul_comm, ← Int.ediv_ediv_of_nonneg (by omega)]

theorem byte_text {P : Program} (W : World) (b : Nat) (x : Int) (c : UInt8) (hc : (c.toNat : Int) = x) (src dst e : TypeId) (hs : P.underlying src = some (.slice e)) (he : P.underlying e = some (.int .u8)) (hd : P.underlying dst = some .string)
    (h : W.cell? ⟨b, 0, none⟩ = some (.int .u8 x)) : (convert src dst (.slice (some ⟨b, 0, none⟩) 1 1)).run P W = .ok (.string ⟨#[c]⟩) W := by
  subst hc
  refine run_convert_bytes_back W src dst e ⟨b, 0, none⟩ 1 [c] hs he hd (fun j hj => ?_)
  have : j = 0 := by simp at hj; omega
  subst this; exact h
theorem two_text {P : Program} (W : World) (b : Nat) (x y : Int) (c d : UInt8) (hc : (c.toNat : Int) = x) (hd' : (d.toNat : Int) = y) (src dst e : TypeId) (hs : P.underlying src = some (.slice e)) (he : P.underlying e = some (.int .u8)) (hd : P.underlying dst = some .string)
    (h : W.cell? ⟨b, 0, none⟩ = some (.int .u8 x)) (h' : W.cell? ⟨b, 1, none⟩ = some (.int .u8 y)) : (convert src dst (.slice (some ⟨b, 0, none⟩) 2 2)).run P W = .ok (.string ⟨#[c, d]⟩) W := by
  subst hc hd'
  refine run_convert_bytes_back W src dst e ⟨b, 0, none⟩ 2 [c, d] hs he hd (fun j hj => ?_)
  match j, hj with
  | 0, _ => exact h
  | 1, _ => exact h'
  | j + 2, hj => exact absurd hj (by simp)

set_option maxRecDepth 100000 in
set_option maxHeartbeats 1000000 in
theorem rput_calls (k a : Int) (b : ByteArray) (w : World) :
    Calls Try.prog 9 #[.agg #[.int .i64 k, .int .i64 a, .string b]] w (PutPost ⟨k, a, b⟩ w) := by
  by_cases hz : chk ⟨k, a, b⟩ = 0
  · have HP := Lib.hid (putV_ok hz)
    obtain ⟨k0, k1, a0, a1, b1⟩ := chk_ok.1 hz
    change 1 ≤ k at k0; change k ≤ 15 at k1; change 0 ≤ a at a0; change a ≤ 1099511627776 at a1; change b.size ≤ 4096 at b1
    have HZ := Lib.hid hz
    clear hz
    go_enter Try.func9, Try.ntmps9
    go_wp2_with fail
    refine (rcheck_calls _ _ _ _).mono ?_
    rintro e w5 ⟨rfl, hb5⟩
    rw [HZ.out]
    have hq : w5.heap[w.heap.size]? = some (.cells #[.int .i64 k, .int .i64 a, .string b] 23 (0, 0)) := by
      rw [hb5.block w.heap.size (by simp)]; exact at_new _ _
    have hB : Below w.heap.size w w5 := ((Below.refl _ _).alloc (Nat.le_refl _) _).trans (hb5.mono (by simp))
    clear hb5
    obtain ⟨x0, x1, x2⟩ := box3 hq
    have HQ := Lib.hid hq
    clear hq
    go_wp2_with fail
    go_loopw [5, 6, 7] (fun s n i wr => ∃ (j : Nat) (m : Int), j ≤ 6 ∧ i = .int .i64 j ∧ n = .int .i64 m ∧ 0 ≤ m ∧ m < 281474976710656 ∧ Hid (m = a / 256 ^ j) ∧ s = .string ⟨(dig j a).toArray⟩ ∧ wr.heap[w.heap.size]? = some (.cells #[.int .i64 k, .int .i64 a, .string b] 23 (0, 0)) ∧ Below w.heap.size w wr) (fun _ _ i _ => 6 - (intOf i).toNat)
    case atStart => exact ⟨0, a, by omega, rfl, rfl, a0, by omega, Lib.hid (Int.ediv_one a).symm, rfl, HQ.out, hB⟩
    case round =>
      obtain ⟨j, m, hj, rfl, rfl, m0, m1, HM, rfl, hrow, hBr⟩ := hrel
      by_cases hlt : j < 6
      · have hcv := fun (W : World) (b : Nat) (h : W.cell? ⟨b, 0, none⟩ = some (.int .u8 (m % 256))) => byte_text (P := Try.prog) W b (m % 256) (byteI (m % 256)) (byteI_back (by omega) (by omega)) 42 9 5 Try.underlying42 Try.underlying5 Try.underlying9 h
        have HS : Hid ((⟨#[byteI (m % 256)]⟩ : ByteArray) ++ ⟨(dig j a).toArray⟩ = ⟨(dig (j + 1) a).toArray⟩) := Lib.hid (by rw [dig_cons j a a0, ← HM.out]; exact ba_app [_] _)
        have hs : (⟨(dig j a).toArray⟩ : ByteArray).size ≤ 6 := by show (dig j a).length ≤ 6; rw [dig_len]; exact hj
        generalize (⟨(dig j a).toArray⟩ : ByteArray) = S at hs HS ⊢
        have hsz := hBr.size
        have hrow' := at_old wr (.cells #[.int .u8 (m % 256)] 5 (0, 0)) hrow
        have HR := Lib.hid hrow'
        clear hrow hrow'
        go_wp2_with fail
        go_roundw
        case rel => exact ⟨j + 1, m / 256, by omega, by go_num, rfl, by omega, by omega, Lib.hid (by rw [HM.out, Int.pow_succ, Int.ediv_ediv_of_nonneg (Int.pow_nonneg (by omega))]), by rw [HS.out], HR.out, hBr.alloc hsz _⟩
        case measure => simp [intOf]; omega
      · obtain rfl : j = 6 := by omega
        have hcv := fun (W : World) (b : Nat) (h : W.cell? ⟨b, 0, none⟩ = some (.int .u8 k)) => byte_text (P := Try.prog) W b k (byteI k) (byteI_back (by omega) (by omega)) 42 9 5 Try.underlying42 Try.underlying5 Try.underlying9 h
        have hcw := fun (W : World) (g : Nat) (h : W.cell? ⟨g, 0, none⟩ = some (.int .u8 ((b.size : Int) / 256))) (h' : W.cell? ⟨g, 1, none⟩ = some (.int .u8 ((b.size : Int) % 256))) => two_text (P := Try.prog) W g _ _ (byteI ((b.size : Int) / 256)) (byteI ((b.size : Int) % 256)) (byteI_back (by omega) (by omega)) (byteI_back (by omega) (by omega)) 42 9 5 Try.underlying42 Try.underlying5 Try.underlying9 h h'
        have HT : Hid ((((⟨#[87]⟩ : ByteArray) ++ ⟨#[byteI k]⟩ ++ ⟨(dig 6 a).toArray⟩) ++ ⟨#[byteI ((b.size : Int) / 256), byteI ((b.size : Int) % 256)]⟩) ++ b = ⟨(noSum ⟨k, a, b⟩).toArray⟩) := Lib.hid (ByteArray.ext (by
          rw [noSum, headL, dig2 (n := (b.size : Int)) (by omega) (by omega)]
          simp [ByteArray.data_append]))
        have hs : (⟨(dig 6 a).toArray⟩ : ByteArray).size ≤ 6 := by show (dig 6 a).length ≤ 6; rw [dig_len]; omega
        generalize (⟨(dig 6 a).toArray⟩ : ByteArray) = S at hs HT ⊢
        obtain ⟨y0, y1, y2⟩ := box3 hrow
        have hlw := at_lt hrow
        have hsz := hBr.size
        have HB := Lib.hid hBr
        clear hrow hBr
        have HB2 : Hid (Below w.heap.size w ((wr.alloc (.cells #[.int .u8 k] 5 (0, 0))).alloc (.cells #[.int .u8 ((b.size : Int) / 256), .int .u8 ((b.size : Int) % 256)] 5 (0, 0)))) := Lib.hid ((HB.out.alloc hsz _).alloc (by simp; omega) _)
        have hN : (⟨(noSum ⟨k, a, b⟩).toArray⟩ : ByteArray).size ≤ 5000 := by show (noSum ⟨k, a, b⟩).length ≤ 5000; rw [noSum_len]; show 10 + b.size ≤ 5000; omega
        go_wp2_with fail
        rw [HT.out]
        generalize ((wr.alloc (.cells #[.int .u8 k] 5 (0, 0))).alloc (.cells #[.int .u8 ((b.size : Int) / 256), .int .u8 ((b.size : Int) % 256)] 5 (0, 0))) = W at *
        refine (rof_calls _ (by omega) _).mono ?_
        rintro e w' ⟨rfl, rfl⟩
        go_wp2_with fail
        refine (Sum.rput_calls _ _).mono ?_
        rintro e w6 ⟨rfl, hb6⟩
        have HB3 := Lib.hid (HB2.out.trans (hb6.mono HB2.out.size))
        have hP : (⟨(putL (sumOf (noSum ⟨k, a, b⟩))).toArray⟩ : ByteArray).size ≤ 4 := by show (putL (sumOf (noSum ⟨k, a, b⟩))).length ≤ 4; rw [put_sum, four_len]; omega
        have HE : Hid ((⟨(noSum ⟨k, a, b⟩).toArray⟩ : ByteArray) ++ ⟨(putL (sumOf (noSum ⟨k, a, b⟩))).toArray⟩ = ⟨(putV ⟨k, a, b⟩).toArray⟩) := Lib.hid (by rw [HP.out, ba_app]; rfl)
        clear hb6
        change (ByteArray.mk (putL (sumOf (ByteArray.mk (noSum ⟨k, a, b⟩).toArray).data.toList)).toArray).size ≤ 4 at hP
        go_wp2_with fail
        go_ret2
        exact ⟨by rw [← HE.out, HZ.out]; rfl, HB3.out⟩
  · have HP := Lib.hid (putV_no hz)
    obtain ⟨c, hc⟩ : ∃ c, chk ⟨k, a, b⟩ = c := ⟨_, rfl⟩
    rw [hc] at hz
    have b3 : (c != 0) = true := by simpa using hz
    have HC := Lib.hid hc
    clear hc
    go_enter Try.func9, Try.ntmps9
    go_wp2_with fail
    refine (rcheck_calls _ _ _ _).mono ?_
    rintro e w5 ⟨rfl, hb5⟩
    rw [HC.out]
    have hB : Below w.heap.size w w5 := ((Below.refl _ _).alloc (Nat.le_refl _) _).trans (hb5.mono (by simp))
    clear hb5
    go_wp2_with fail
    go_ret2
    exact ⟨by rw [HP.out, HC.out]; rfl, hB⟩

end Go.Proofs.Ytfdpmbnjjnmdiaa.Rec
